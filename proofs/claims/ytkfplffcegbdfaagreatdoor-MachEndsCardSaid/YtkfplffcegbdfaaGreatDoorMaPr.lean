/-
  A machine's text, part by part. No condition beyond those that each theorem states.
-/
import Derived.Test.YtkfplffcegbdfaaGreatDoorMaG
import Derived.Test.YtkfplffcegbdfaaGreatDoorMaH
import Derived.Test.YtkfplffcegbdfaaGreatDoorJoinL
import Derived.Test.YtkfplffcegbdfaaGreatDoorShelf
import Derived.OwnWalk
import Derived.Deep.DeepMust
import Derived.Deep.RegionLaw
namespace Go.Proofs.YtkfplffcegbdfaaGreatDoor
open Go.RowKit

theorem strS_info : (Tryz.prog.info? 9).map (fun i => (i.zero, i.size, i.bytes)) = some (some (.string ⟨#[]⟩), 1, 16) := by kernel_rfl
/-- A number below a hundred, as it is written. -/
def numS (x : Int) : ByteArray := ⟨(Lib.decDigits x.toNat).toArray⟩
def partS (name : ByteArray) (l : List Int) : List ByteArray := name :: l.map numS
def joinS (xs : List ByteArray) : ByteArray := ⟨(Lib.join (xs.map (·.data.toList)) [32]).toArray⟩
theorem numS_len (x : Int) (h : 0 ≤ x ∧ x < 100) : (numS x).size ≤ 2 := by
  show (Lib.decDigits x.toNat).toArray.size ≤ 2
  rw [List.size_toArray]
  by_cases h1 : x.toNat < 10
  · rw [Lib.decDigits_one h1]; simp
  · rw [Lib.decDigits_two h1 (by omega)]; simp
theorem lens_le (xs : List ByteArray) (n : Nat) (h : ∀ x ∈ xs, x.size ≤ n) : Lib.lens (xs.map (·.data.toList)) ≤ xs.length * n := by
  induction xs with
  | nil => simp [Lib.lens]
  | cons x r ih =>
    have h1 := h x (by simp)
    have h2 := ih (fun y hy => h y (by simp [hy]))
    rw [Lib.size_eq] at h1
    simp only [Lib.lens, List.map_cons, List.sum_cons, List.length_cons] at *
    rw [Nat.add_mul]
    omega
theorem joinS_len (xs : List ByteArray) (n : Nat) (h : ∀ x ∈ xs, x.size ≤ n) : (Lib.join (xs.map (·.data.toList)) [32]).length ≤ xs.length * (n + 1) := by
  have h0 := lens_le xs n h
  cases xs with
  | nil => simp [Lib.join_nil]
  | cons x r =>
    rw [List.map_cons] at h0 ⊢
    rw [Lib.join_length, List.length_map]
    generalize Lib.lens _ = L at *
    simp only [List.length_cons, List.length_nil, Nat.add_mul, Nat.mul_add] at *
    omega
theorem itoaM_any (x : Int) (h : 0 ≤ x ∧ x < 100) (w : World) : Calls Tryz.prog 45 #[.int .i64 x] w fun e w' => e = .returned (.string (numS x)) ∧ w' = w := by
  obtain ⟨i, rfl⟩ := Int.eq_ofNat_of_zero_le h.1
  exact Tryz.strconv_Itoa_small i (by omega) w
/-- Texts that a call made. -/
def OwnS (w : World) (B : Nat) (v : Value) (l : List ByteArray) : Prop := w.ownsRow B 9 1 v l.length (l.map Value.string)
theorem OwnS.more {w2 : World} {B gg cap : Nat} {l : List ByteArray} {x : ByteArray} (h : w2.ownsRow B 9 1 (.slice (some ⟨gg, 0, none⟩) (l.length + 1) cap) (l.length + 1) (l.map Value.string ++ [.string x])) :
    OwnS w2 B (.slice (some ⟨gg, 0, none⟩) (l.length + 1) cap) (l ++ [x]) := by
  unfold OwnS
  rw [List.length_append, List.map_append]
  simpa using h
theorem joinO (xs : List ByteArray) (v : Value) (w : World) (B n : Nat) (hO : OwnS w B v xs) (hne : xs ≠ []) (hN : xs.length ≤ 100) (hn : n ≤ 100000) (h : ∀ x ∈ xs, x.size ≤ n) :
    Calls Tryz.prog 43 #[v, .string ⟨#[32]⟩] w fun e w' => e = .returned (.string (joinS xs)) ∧ Below w.heap.size w w' := by
  have hp : 0 < xs.length := List.length_pos_iff.2 hne
  obtain ⟨g, cap, rfl, _, hlt⟩ := World.ownsRow.form hO hp
  have hcap : xs.length ≤ cap := by
    rcases hO.2 with ⟨hv, _⟩ | ⟨g', cap', cur, hv, _, _, hle, _⟩
    · cases hv
    · injection hv with _ _ hc; omega
  have hl := joinS_len xs n h
  have hm : xs.length * (n + 1) ≤ 100 * 100001 := Nat.mul_le_mul hN (by omega)
  refine Tryz.join_any g 0 cap xs ⟨#[32]⟩ w (fun j x hx => ?_) hlt (by omega) hcap (by show (Lib.join (xs.map (·.data.toList)) [32]).length ≤ _; omega)
  have h2 := hO.cells (g := g) rfl j (Value.string x) (by rw [List.getElem?_map, hx]; rfl)
  have e : (⟨g, 0, none⟩ : Addr).add j = ⟨g, 0 + j, none⟩ := by
    unfold Addr.add
    split <;> simp_all
  rw [e] at h2
  exact h2

set_option maxHeartbeats 2000000 in
set_option maxRecDepth 100000 in
theorem part_any (name : ByteArray) (l : List Int) (a : Option Addr) (c : Nat) (w : World) (hn : name.size ≤ 1000) (hl : l.length ≤ 64) (hx : ∀ x ∈ l, 0 ≤ x ∧ x < 100) (hI : IntsW w a l) :
    Calls Tryz.prog 44 #[.string name, .slice a l.length c] w fun e w' => e = .returned (.string (joinS (partS name l))) ∧ Below w.heap.size w w' := by
  obtain ⟨i0, hi0, hz0, hz1, hz2⟩ := info_parts strS_info
  have HI := Lib.hid hI
  have HX := Lib.hid hx
  have hO : OwnS (w.alloc (.cells #[.string name] 9)) w.heap.size (.slice (some ⟨w.heap.size, 0, none⟩) 1 1) (partS name []) := World.ownsRow_lit w _ 1 (Nat.le_refl _) (by simp [maxLen]) rfl
  have HO0 := Lib.hid hO
  have HB0 : Hid (Below w.heap.size w (w.alloc (.cells #[.string name] 9))) := (Below.refl _ w).alloc (Nat.le_refl _) _
  clear hI hx hO
  go_enter Tryz.func44, Tryz.ntmps44
  go_wp2
  go_loopw [5, 12] (fun v k wr => ∃ (j : Nat) (b : Option Addr) (d : Nat), v = .slice b (j + 1) d ∧ k = .int .i64 j ∧ j ≤ l.length ∧ OwnS wr w.heap.size v (partS name (l.take j)) ∧ Below w.heap.size w wr) (fun _ k _ => l.length - (intOf k).toNat)
  case atStart => exact ⟨0, some ⟨w.heap.size, 0, none⟩, 1, rfl, rfl, by omega, HO0.out, HB0.out⟩
  case round =>
    obtain ⟨j, b, d, rfl, rfl, hj, hO, hB⟩ := hrel
    have HO := Lib.hid hO
    have HB := Lib.hid hB
    clear hO hB HO0 HB0
    have hpl : (partS name (l.take j)).length = j + 1 := by simp [partS]; omega
    by_cases hlt : j < l.length
    · obtain ⟨x, hxj⟩ : ∃ x, l[j]? = some x := ⟨l[j], List.getElem?_eq_getElem hlt⟩
      have hx0 := HX.out x (List.mem_of_getElem? hxj)
      obtain ⟨g, o, rfl, hg, hc⟩ := (HI.out.below HB.out) j x hxj
      have HT := Lib.hid (itoaM_any x hx0 wr)
      have HE : Hid (partS name (l.take (j + 1)) = partS name (l.take j) ++ [numS x]) := by
        show _ = _
        rw [List.take_add_one, hxj]
        simp [partS]
      clear hx0
      have hs := HB.out.size
      go_wp2_with fail
      refine HT.out.mono ?_
      rintro e w1 ⟨rfl, rfl⟩
      have HO1 := HO.out
      unfold OwnS at HO1
      rw [hpl] at HO1
      have HO2 := Lib.hid HO1
      clear HO1
      go_wp2_with (at_builtin; go_must (refine wpList_append_lies _ rfl _ _ _ rfl w.heap.size 9 i0 _ 1 16 Tryz.underlying41 hi0 hz0 hz1 hz2 rfl (by omega) (.slice b (j + 1) d) (j + 1) ((partS name (l.take j)).map Value.string) rfl (World.ownsRow.alloc HO2.out _) ⟨w1.heap.size, 0, none⟩ 1 1 [.string (numS x)] rfl rfl (World.news_of_block (heap_alloc_new w1 _)) (by simp [Value.oneCell']) (by omega) (by simp only [maxLen]; omega) (by omega) (by simp; omega) (w1.heap.size + 1) (by simp) ?_; intro gg cap5 w5 hown5 hgrow hat hlt5))
      have hO5 : OwnS w5 w.heap.size (.slice (some ⟨gg, 0, none⟩) (j + 1 + 1) cap5) (partS name (l.take j) ++ [numS x]) := by
        have := OwnS.more (l := partS name (l.take j)) (x := numS x) (w2 := w5) (B := w.heap.size) (gg := gg) (cap := cap5) (by rw [hpl]; exact hown5)
        rw [hpl] at this
        exact this
      have HO5 := Lib.hid hO5
      have HB5 : Hid (Below w.heap.size w w5) := (HB.out.alloc (by omega) _).grown hgrow (by simp; omega) (fun k hk => (HO2.out.lt k hk).1)
      clear hown5 hgrow hat hlt5 hO5
      go_wp2
      go_roundw
      case rel => exact ⟨j + 1, some ⟨gg, 0, none⟩, cap5, rfl, by go_num, by omega, by rw [HE.out]; exact HO5.out, HB5.out⟩
      case measure => simp [intOf]; omega
    · obtain rfl : j = l.length := by omega
      have hall : l.take l.length = l := List.take_of_length_le (Nat.le_refl _)
      rw [hall] at hpl HO
      have HJ := Lib.hid (joinO (partS name l) _ wr w.heap.size 1000 HO.out (by simp [partS]) (by omega) (by omega) (by
        intro y hy
        simp only [partS, List.mem_cons, List.mem_map] at hy
        rcases hy with rfl | ⟨z, hz, rfl⟩
        · exact hn
        · have := numS_len z (HX.out z hz); omega))
      clear hall
      go_wp2_with fail
      refine HJ.out.mono ?_
      rintro e w1 ⟨rfl, hb⟩
      have HB1 : Hid (Below w.heap.size w w1) := HB.out.trans (hb.mono HB.out.size)
      clear hb
      go_wp2
      go_ret
      exact ⟨rfl, HB1.out⟩
end Go.Proofs.YtkfplffcegbdfaaGreatDoor
