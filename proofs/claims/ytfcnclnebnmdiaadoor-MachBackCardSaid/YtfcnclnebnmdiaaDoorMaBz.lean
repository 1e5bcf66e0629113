/-
  What the walk of the statement MachBack stands on, and the walk: strings.Join's contract, a machine's text, what is printed is read to the same machine, IsSaved, the chapter's example, whether two machines are the same, what is lost. No condition beyond those that each theorem states.
-/
import Derived.Shelf.Strings.OnBuilder
import Derived.Test.YtfcnclnebnmdiaaDoorProg
import Derived.Test.YtfcnclnebnmdiaaDoorMaG
import Derived.Test.YtfcnclnebnmdiaaDoorMaH
import Derived.Test.YtfcnclnebnmdiaaDoorShelf
import Derived.OwnWalk
import Derived.Deep.DeepMust
import Derived.Deep.RegionLaw
import Derived.Great.Walk
import Derived.Test.YtfcnclnebnmdiaaDoorSame5
import Derived.Test.YtfcnclnebnmdiaaDoorRShow
import Derived.Test.YtfcnclnebnmdiaaDoorMaO
import Derived.Test.YtfcnclnebnmdiaaDoorMaK
import Derived.Test.YtfcnclnebnmdiaaDoorKInts
import Derived.Deep.QuietTactic
import Derived.BigQuiet
/-
  strings.Join's contract over the seat's names: the table of numbers typed by name. No conditions but those that the library's contract states.
-/
namespace Go.Proofs
open Go.Shelf
def Tryd.joinRen : Go.Shelf.Ren := ⟨fun | 156 => 24 | 165 => 37 | 166 => 38 | 169 => 39 | 240 => 54 | 241 => 55 | 276 => 65 | 277 => 66 | n => n, fun | 0 => 0 | 3 => 3 | 4 => 4 | 9 => 9 | 20 => 20 | 31 => 59 | 37 => 80 | 70 => 79 | 72 => 82 | 75 => 85 | 76 => 86 | 127 => 108 | 164 => 126 | 5 => 5 | 80 => 88 | n => n, fun | n => n⟩
theorem Tryd.joinLays : Go.Proofs.Lays.n156 Tryd.prog Tryd.joinRen := {
  mixed := by kernel_rfl
  f156 := Tryd.func24.trans (congrArg some (by kernel_rfl))
  f165 := Tryd.func37.trans (congrArg some (by kernel_rfl))
  f166 := Tryd.func38.trans (congrArg some (by kernel_rfl))
  f169 := Tryd.func39.trans (congrArg some (by kernel_rfl))
  f240 := Tryd.func54.trans (congrArg some (by kernel_rfl))
  f241 := Tryd.func55.trans (congrArg some (by kernel_rfl))
  f276 := Tryd.func65.trans (congrArg some (by kernel_rfl))
  f277 := Tryd.func66.trans (congrArg some (by kernel_rfl))
  t0 := Tryd.underlying0
  a0 := Tryd.isAgg0
  z0 := Tryd.sizeOf0
  v0 := Tryd.zeroValue0
  t3 := Tryd.underlying3
  a3 := Tryd.isAgg3
  z3 := Tryd.sizeOf3
  v3 := Tryd.zeroValue3
  t4 := Tryd.underlying4
  a4 := Tryd.isAgg4
  z4 := Tryd.sizeOf4
  v4 := Tryd.zeroValue4
  t9 := Tryd.underlying9
  a9 := Tryd.isAgg9
  z9 := Tryd.sizeOf9
  v9 := Tryd.zeroValue9
  t20 := Tryd.underlying20
  a20 := Tryd.isAgg20
  z20 := Tryd.sizeOf20
  v20 := Tryd.zeroValue20
  t31 := Tryd.underlying59
  a31 := Tryd.isAgg59
  z31 := Tryd.sizeOf59
  v31 := Tryd.zeroValue59
  t37 := Tryd.underlying80
  a37 := Tryd.isAgg80
  z37 := Tryd.sizeOf80
  v37 := Tryd.zeroValue80
  t70 := Tryd.underlying79
  a70 := Tryd.isAgg79
  z70 := Tryd.sizeOf79
  v70 := Tryd.zeroValue79
  t72 := Tryd.underlying82
  a72 := Tryd.isAgg82
  z72 := Tryd.sizeOf82
  v72 := Tryd.zeroValue82
  t75 := Tryd.underlying85
  a75 := Tryd.isAgg85
  z75 := Tryd.sizeOf85
  v75 := Tryd.zeroValue85
  t76 := Tryd.underlying86
  a76 := Tryd.isAgg86
  z76 := Tryd.sizeOf86
  v76 := Tryd.zeroValue86
  t127 := Tryd.underlying108
  a127 := Tryd.isAgg108
  z127 := Tryd.sizeOf108
  v127 := Tryd.zeroValue108
  t164 := Tryd.underlying126
  a164 := Tryd.isAgg126
  z164 := Tryd.sizeOf126
  v164 := Tryd.zeroValue126 }
theorem Tryd.joinExtra : Builder.Extra Tryd.prog Tryd.joinRen := {
  sizeBuilder := by kernel_rfl
  liesBuilder := by kernel_rfl
  t5 := Tryd.underlying5
  a5 := Tryd.isAgg5
  z5 := Tryd.sizeOf5
  v5 := Tryd.zeroValue5
  infoByte := by kernel_rfl
  cellsByte := by kernel_rfl
  sizeByte := by kernel_rfl
  neB5 := by decide }
open Go.RowKit in
theorem Tryd.join_any (bk o c : Nat) (xs : List ByteArray) (sep : ByteArray) (w : World) (hcells : ∀ (j : Nat) x, xs[j]? = some x → w.cell? ⟨bk, o + j, none⟩ = some (.string x)) (hbk : bk < w.heap.size) (hN : xs.length ≤ 140737488355328) (hcap : xs.length ≤ c) (hlen : (Lib.join (xs.map (·.data.toList)) sep.data.toList).length ≤ 140737488355328) :
    Calls Tryd.prog 24 #[.slice (some ⟨bk, o, none⟩) xs.length c, .string sep] w fun e w' => e = .returned (.string ⟨(Lib.join (xs.map (·.data.toList)) sep.data.toList).toArray⟩) ∧ Below w.heap.size w w' := Any.strings_Join Tryd.joinLays Tryd.joinExtra bk o c xs sep w hcells hbk hN hcap hlen
end Go.Proofs
/-
  A machine's text, part by part. No condition beyond those that each theorem states.
-/
namespace Go.Proofs.YtfcnclnebnmdiaaDoor
open Go.RowKit

theorem strS_info : (Tryd.prog.info? 9).map (fun i => (i.zero, i.size, i.bytes)) = some (some (.string ⟨#[]⟩), 1, 16) := by kernel_rfl
/-- A number below a hundred, as it is written. -/
def numS (x : Int) : ByteArray := ⟨(Lib.decDigits x.toNat).toArray⟩
def partS (name : ByteArray) (l : List Int) : List ByteArray := name :: l.map numS
def joinS (xs : List ByteArray) : ByteArray := ⟨(Lib.join (xs.map (·.data.toList)) [32]).toArray⟩
theorem numS_len (x : Int) (h : 0 ≤ x ∧ x < 100) : (numS x).size ≤ 2 := by
  show (Lib.decDigits x.toNat).toArray.size ≤ 2
  rw [List.size_toArray]
  by_cases h1 : x.toNat < 10
  · rw [Lib.decDigits_one h1]; simp
  · rw [Lib.decDigits_two h1 (by omega)]; simp
theorem lens_le (xs : List ByteArray) (n : Nat) (h : ∀ x ∈ xs, x.size ≤ n) : Lib.lens (xs.map (·.data.toList)) ≤ xs.length * n := by
  induction xs with
  | nil => simp [Lib.lens]
  | cons x r ih =>
    have h1 := h x (by simp)
    have h2 := ih (fun y hy => h y (by simp [hy]))
    rw [Lib.size_eq] at h1
    simp only [Lib.lens, List.map_cons, List.sum_cons, List.length_cons] at *
    rw [Nat.add_mul]
    omega
theorem joinS_len (xs : List ByteArray) (n : Nat) (h : ∀ x ∈ xs, x.size ≤ n) : (Lib.join (xs.map (·.data.toList)) [32]).length ≤ xs.length * (n + 1) := by
  have h0 := lens_le xs n h
  cases xs with
  | nil => simp [Lib.join_nil]
  | cons x r =>
    rw [List.map_cons] at h0 ⊢
    rw [Lib.join_length, List.length_map]
    generalize Lib.lens _ = L at *
    simp only [List.length_cons, List.length_nil, Nat.add_mul, Nat.mul_add] at *
    omega
theorem itoaM_any (x : Int) (h : 0 ≤ x ∧ x < 100) (w : World) : Calls Tryd.prog 40 #[.int .i64 x] w fun e w' => e = .returned (.string (numS x)) ∧ w' = w := by
  obtain ⟨i, rfl⟩ := Int.eq_ofNat_of_zero_le h.1
  exact Tryd.strconv_Itoa_small i (by omega) w
/-- Texts that a call made. -/
def OwnS (w : World) (B : Nat) (v : Value) (l : List ByteArray) : Prop := w.ownsRow B 9 1 v l.length (l.map Value.string)
theorem OwnS.more {w2 : World} {B gg cap : Nat} {l : List ByteArray} {x : ByteArray} (h : w2.ownsRow B 9 1 (.slice (some ⟨gg, 0, none⟩) (l.length + 1) cap) (l.length + 1) (l.map Value.string ++ [.string x])) :
    OwnS w2 B (.slice (some ⟨gg, 0, none⟩) (l.length + 1) cap) (l ++ [x]) := by
  unfold OwnS
  rw [List.length_append, List.map_append]
  simpa using h
theorem joinO (xs : List ByteArray) (v : Value) (w : World) (B n : Nat) (hO : OwnS w B v xs) (hne : xs ≠ []) (hN : xs.length ≤ 100) (hn : n ≤ 100000) (h : ∀ x ∈ xs, x.size ≤ n) :
    Calls Tryd.prog 24 #[v, .string ⟨#[32]⟩] w fun e w' => e = .returned (.string (joinS xs)) ∧ Below w.heap.size w w' := by
  have hp : 0 < xs.length := List.length_pos_iff.2 hne
  obtain ⟨g, cap, rfl, _, hlt⟩ := World.ownsRow.form hO hp
  have hcap : xs.length ≤ cap := by
    rcases hO.2 with ⟨hv, _⟩ | ⟨g', cap', cur, hv, _, _, hle, _⟩
    · cases hv
    · injection hv with _ _ hc; omega
  have hl := joinS_len xs n h
  have hm : xs.length * (n + 1) ≤ 100 * 100001 := Nat.mul_le_mul hN (by omega)
  refine Tryd.join_any g 0 cap xs ⟨#[32]⟩ w (fun j x hx => ?_) hlt (by omega) hcap (by show (Lib.join (xs.map (·.data.toList)) [32]).length ≤ _; omega)
  have h2 := hO.cells (g := g) rfl j (Value.string x) (by rw [List.getElem?_map, hx]; rfl)
  have e : (⟨g, 0, none⟩ : Addr).add j = ⟨g, 0 + j, none⟩ := by
    unfold Addr.add
    split <;> simp_all
  rw [e] at h2
  exact h2

set_option maxHeartbeats 2000000 in
set_option maxRecDepth 100000 in
theorem part_any (name : ByteArray) (l : List Int) (a : Option Addr) (c : Nat) (w : World) (hn : name.size ≤ 1000) (hl : l.length ≤ 64) (hx : ∀ x ∈ l, 0 ≤ x ∧ x < 100) (hI : IntsW w a l) :
    Calls Tryd.prog 25 #[.string name, .slice a l.length c] w fun e w' => e = .returned (.string (joinS (partS name l))) ∧ Below w.heap.size w w' := by
  obtain ⟨i0, hi0, hz0, hz1, hz2⟩ := info_parts strS_info
  have HI := Lib.hid hI
  have HX := Lib.hid hx
  have hO : OwnS (w.alloc (.cells #[.string name] 9)) w.heap.size (.slice (some ⟨w.heap.size, 0, none⟩) 1 1) (partS name []) := World.ownsRow_lit w _ 1 (Nat.le_refl _) (by simp [maxLen]) rfl
  have HO0 := Lib.hid hO
  have HB0 : Hid (Below w.heap.size w (w.alloc (.cells #[.string name] 9))) := (Below.refl _ w).alloc (Nat.le_refl _) _
  clear hI hx hO
  go_enter Tryd.func25, Tryd.ntmps25
  go_wp2
  go_loopw [5, 12] (fun v k wr => ∃ (j : Nat) (b : Option Addr) (d : Nat), v = .slice b (j + 1) d ∧ k = .int .i64 j ∧ j ≤ l.length ∧ OwnS wr w.heap.size v (partS name (l.take j)) ∧ Below w.heap.size w wr) (fun _ k _ => l.length - (intOf k).toNat)
  case atStart => exact ⟨0, some ⟨w.heap.size, 0, none⟩, 1, rfl, rfl, by omega, HO0.out, HB0.out⟩
  case round =>
    obtain ⟨j, b, d, rfl, rfl, hj, hO, hB⟩ := hrel
    have HO := Lib.hid hO
    have HB := Lib.hid hB
    clear hO hB HO0 HB0
    have hpl : (partS name (l.take j)).length = j + 1 := by simp [partS]; omega
    by_cases hlt : j < l.length
    · obtain ⟨x, hxj⟩ : ∃ x, l[j]? = some x := ⟨l[j], List.getElem?_eq_getElem hlt⟩
      have hx0 := HX.out x (List.mem_of_getElem? hxj)
      obtain ⟨g, o, rfl, hg, hc⟩ := (HI.out.below HB.out) j x hxj
      have HT := Lib.hid (itoaM_any x hx0 wr)
      have HE : Hid (partS name (l.take (j + 1)) = partS name (l.take j) ++ [numS x]) := by
        show _ = _
        rw [List.take_add_one, hxj]
        simp [partS]
      clear hx0
      have hs := HB.out.size
      go_wp2_with fail
      refine HT.out.mono ?_
      rintro e w1 ⟨rfl, rfl⟩
      have HO1 := HO.out
      unfold OwnS at HO1
      rw [hpl] at HO1
      have HO2 := Lib.hid HO1
      clear HO1
      go_wp2_with (at_builtin; go_must (refine wpList_append_lies _ rfl _ _ _ rfl w.heap.size 9 i0 _ 1 16 Tryd.underlying59 hi0 hz0 hz1 hz2 rfl (by omega) (.slice b (j + 1) d) (j + 1) ((partS name (l.take j)).map Value.string) rfl (World.ownsRow.alloc HO2.out _) ⟨w1.heap.size, 0, none⟩ 1 1 [.string (numS x)] rfl rfl (World.news_of_block (heap_alloc_new w1 _)) (by simp [Value.oneCell']) (by omega) (by simp only [maxLen]; omega) (by omega) (by simp; omega) (w1.heap.size + 1) (by simp) ?_; intro gg cap5 w5 hown5 hgrow hat hlt5))
      have hO5 : OwnS w5 w.heap.size (.slice (some ⟨gg, 0, none⟩) (j + 1 + 1) cap5) (partS name (l.take j) ++ [numS x]) := by
        have := OwnS.more (l := partS name (l.take j)) (x := numS x) (w2 := w5) (B := w.heap.size) (gg := gg) (cap := cap5) (by rw [hpl]; exact hown5)
        rw [hpl] at this
        exact this
      have HO5 := Lib.hid hO5
      have HB5 : Hid (Below w.heap.size w w5) := (HB.out.alloc (by omega) _).grown hgrow (by simp; omega) (fun k hk => (HO2.out.lt k hk).1)
      clear hown5 hgrow hat hlt5 hO5
      go_wp2
      go_roundw
      case rel => exact ⟨j + 1, some ⟨gg, 0, none⟩, cap5, rfl, by go_num, by omega, by rw [HE.out]; exact HO5.out, HB5.out⟩
      case measure => simp [intOf]; omega
    · obtain rfl : j = l.length := by omega
      have hall : l.take l.length = l := List.take_of_length_le (Nat.le_refl _)
      rw [hall] at hpl HO
      have HJ := Lib.hid (joinO (partS name l) _ wr w.heap.size 1000 HO.out (by simp [partS]) (by omega) (by omega) (by
        intro y hy
        simp only [partS, List.mem_cons, List.mem_map] at hy
        rcases hy with rfl | ⟨z, hz, rfl⟩
        · exact hn
        · have := numS_len z (HX.out z hz); omega))
      clear hall
      go_wp2_with fail
      refine HJ.out.mono ?_
      rintro e w1 ⟨rfl, hb⟩
      have HB1 : Hid (Below w.heap.size w w1) := HB.out.trans (hb.mono HB.out.size)
      clear hb
      go_wp2
      go_ret
      exact ⟨rfl, HB1.out⟩
end Go.Proofs.YtfcnclnebnmdiaaDoor
/-
  The text of a machine: package mach's own. No condition beyond those that each theorem states.
-/
namespace Go.Proofs.YtfcnclnebnmdiaaDoor
open Go.RowKit

abbrev kMachine : ByteArray := ⟨#[109, 97, 99, 104, 105, 110, 101]⟩
abbrev kArgs : ByteArray := ⟨#[97, 114, 103, 115]⟩
abbrev kRet : ByteArray := ⟨#[114, 101, 116]⟩
abbrev kSaved : ByteArray := ⟨#[115, 97, 118, 101, 100]⟩
def Mm.partsL (m : Mm) : List ByteArray := [joinS (partS kMachine [m.regs]), joinS (partS kArgs m.args), joinS (partS kRet [m.ret]), joinS (partS kSaved m.saved)]
/-- The text of a right machine. -/
def Mm.textS (m : Mm) : ByteArray := joinS m.partsL ++ ⟨#[10]⟩
theorem belM_drew {A w : World} (h : Below A.heap.size A w) : Below A.heap.size A w.drew := h.drew
theorem belM_alloc {A w : World} (h : Below A.heap.size A w) (o : Obj) : Below A.heap.size A (w.alloc o) := h.alloc h.size o
theorem one_regN (W : World) (n : Nat) (x : Int) (h : W.heap.size = n) : IntsW (W.alloc (.cells #[.int .i64 x] 3)) (some ⟨n, 0, none⟩) [x] := by
  subst h
  exact one_reg W x
theorem intsW_drew {w : World} {a : Option Addr} {l : List Int} (h : IntsW w a l) : IntsW w.drew a l := h
theorem intsW_alloc {w : World} {a : Option Addr} {l : List Int} (h : IntsW w a l) (o : Obj) : IntsW (w.alloc o) a l := h.below ((Below.refl _ _).alloc (Nat.le_refl _) o)
theorem joinS_size (xs : List ByteArray) (n : Nat) (h : ∀ x ∈ xs, x.size ≤ n) : (joinS xs).size ≤ xs.length * (n + 1) := by
  have := joinS_len xs n h
  show (Lib.join (xs.map (·.data.toList)) [32]).toArray.size ≤ _
  rw [List.size_toArray]
  exact this
theorem partS_size (name : ByteArray) (l : List Int) (hn : name.size ≤ 1000) (hl : l.length ≤ 64) (hx : ∀ x ∈ l, 0 ≤ x ∧ x < 100) : (joinS (partS name l)).size ≤ 100000 := by
  have h1 := joinS_size (partS name l) 1000 (by
    intro y hy
    simp only [partS, List.mem_cons, List.mem_map] at hy
    rcases hy with rfl | ⟨z, hz, rfl⟩
    · exact hn
    · have := numS_len z (hx z hz); omega)
  have h2 : (partS name l).length ≤ 65 := by simp [partS]; omega
  have h3 : (partS name l).length * (1000 + 1) ≤ 65 * 1001 := Nat.mul_le_mul h2 (Nat.le_refl _)
  omega

set_option maxHeartbeats 4000000 in
set_option maxRecDepth 100000 in
theorem textOf_any (m : Mm) (aa sa : Option Addr) (ac sc : Nat) (w : World) (hl : m.args.length ≤ 64) (hs : m.saved.length ≤ 64)
    (hr : 0 ≤ m.regs ∧ m.regs < 100) (ht : 0 ≤ m.ret ∧ m.ret < 100) (ha : ∀ x ∈ m.args, 0 ≤ x ∧ x < 100) (hv : ∀ x ∈ m.saved, 0 ≤ x ∧ x < 100) (hM : MaW w m aa sa) :
    Calls Tryd.prog 13 #[machV m aa ac sa sc] w fun e w' => e = .returned (.string m.textS) ∧ Below w.heap.size w w' := by
  have HB0 : Hid (Below w.heap.size w (w.alloc (.cells (maxC m aa ac sa sc) 24))) := (Below.refl _ w).alloc (Nat.le_refl _) _
  have HX0 : Hid (Blk (w.alloc (.cells (maxC m aa ac sa sc) 24)) w.heap.size 24 (maxC m aa ac sa sc)) := Blk.new w _ _
  have HM0 : Hid (MaW (w.alloc (.cells (maxC m aa ac sa sc) 24)) m aa sa) := hM.below HB0.out
  have HM : Hid (maxC m aa ac sa sc = _) := maxC.eq_1 m aa ac sa sc
  have HT : Hid (m.textS = joinS [joinS (partS kMachine [m.regs]), joinS (partS kArgs m.args), joinS (partS kRet [m.ret]), joinS (partS kSaved m.saved)] ++ ⟨#[10]⟩) := rfl
  unfold machV
  clear hM
  go_enter Tryd.func13, Tryd.ntmps13
  go_upto_region 1 with fail
  change Code.wp _ _ _ _ (World.alloc _ _)
  generalize hA : (w.alloc (.cells (maxC m aa ac sa sc) 24)) = A at HB0 HX0 HM0 ⊢
  clear hA
  have HS : Hid (∀ W, Below A.heap.size A W → Below A.heap.size A W ∧ W.cell? ⟨w.heap.size, 0, none⟩ = some (.int .i64 m.regs) ∧ W.cell? ⟨w.heap.size, 1, none⟩ = some (.slice aa m.args.length ac) ∧ W.cell? ⟨w.heap.size, 2, none⟩ = some (.int .i64 m.ret) ∧ W.cell? ⟨w.heap.size, 3, none⟩ = some (.slice sa m.saved.length sc)) := fun W h => ⟨h, boxMa (HX0.out.below h HX0.out.lt)⟩
  have C1 : Hid (∀ W a, Below A.heap.size A W → IntsW W a [m.regs] → Calls Tryd.prog 25 #[.string ⟨#[109, 97, 99, 104, 105, 110, 101]⟩, .slice a 1 1] W fun e w' => e = .returned (.string (joinS (partS kMachine [m.regs]))) ∧ Below A.heap.size A w' ∧ Hid (Below W.heap.size W w')) := fun W a h hi =>
    (part_any kMachine [m.regs] a 1 W (by decide) (by simp) (fun x hx => by simp at hx; subst hx; exact hr) hi).mono fun e w' ⟨h1, h2⟩ => ⟨h1, h.trans (h2.mono h.size), h2⟩
  have C2 : Hid (∀ W, Below A.heap.size A W → Calls Tryd.prog 25 #[.string ⟨#[97, 114, 103, 115]⟩, .slice aa m.args.length ac] W fun e w' => e = .returned (.string (joinS (partS kArgs m.args))) ∧ Below A.heap.size A w' ∧ Hid (Below W.heap.size W w')) := fun W h =>
    (part_any kArgs m.args aa ac W (by decide) hl ha (HM0.out.below h).args).mono fun e w' ⟨h1, h2⟩ => ⟨h1, h.trans (h2.mono h.size), h2⟩
  have C3 : Hid (∀ W a, Below A.heap.size A W → IntsW W a [m.ret] → Calls Tryd.prog 25 #[.string ⟨#[114, 101, 116]⟩, .slice a 1 1] W fun e w' => e = .returned (.string (joinS (partS kRet [m.ret]))) ∧ Below A.heap.size A w' ∧ Hid (Below W.heap.size W w')) := fun W a h hi =>
    (part_any kRet [m.ret] a 1 W (by decide) (by simp) (fun x hx => by simp at hx; subst hx; exact ht) hi).mono fun e w' ⟨h1, h2⟩ => ⟨h1, h.trans (h2.mono h.size), h2⟩
  have C4 : Hid (∀ W, Below A.heap.size A W → Calls Tryd.prog 25 #[.string ⟨#[115, 97, 118, 101, 100]⟩, .slice sa m.saved.length sc] W fun e w' => e = .returned (.string (joinS (partS kSaved m.saved))) ∧ Below A.heap.size A w' ∧ Hid (Below W.heap.size W w')) := fun W h =>
    (part_any kSaved m.saved sa sc W (by decide) hs hv (HM0.out.below h).saved).mono fun e w' ⟨h1, h2⟩ => ⟨h1, h.trans (h2.mono h.size), h2⟩
  have z1 : (joinS (partS kMachine [m.regs])).size ≤ 100000 := partS_size _ _ (by decide) (by simp) (fun x hx => by simp at hx; subst hx; exact hr)
  have z2 : (joinS (partS kArgs m.args)).size ≤ 100000 := partS_size _ _ (by decide) hl ha
  have z3 : (joinS (partS kRet [m.ret])).size ≤ 100000 := partS_size _ _ (by decide) (by simp) (fun x hx => by simp at hx; subst hx; exact ht)
  have z4 : (joinS (partS kSaved m.saved)).size ≤ 100000 := partS_size _ _ (by decide) hs hv
  clear hr ht ha hv hl hs HM0
  generalize joinS (partS kMachine [m.regs]) = p1 at *
  generalize joinS (partS kArgs m.args) = p2 at *
  generalize joinS (partS kRet [m.ret]) = p3 at *
  generalize joinS (partS kSaved m.saved) = p4 at *
  have CJ : Hid (∀ W, Below A.heap.size A W → Calls Tryd.prog 24 #[.slice (some ⟨W.heap.size, 0, none⟩) 4 4, .string ⟨#[32]⟩] (W.alloc (.cells #[.string p1, .string p2, .string p3, .string p4] 9)) fun e w' => e = .returned (.string (joinS [p1, p2, p3, p4])) ∧ Below A.heap.size A w') := fun W h =>
    (joinO [p1, p2, p3, p4] (.slice (some ⟨W.heap.size, 0, none⟩) 4 4) _ W.heap.size 100000 (World.ownsRow_lit W #[.string p1, .string p2, .string p3, .string p4] 4 (Nat.le_refl _) (by simp [maxLen]) rfl) (by simp) (by simp) (by omega) (by
      intro y hy
      simp only [List.mem_cons, List.not_mem_nil, or_false] at hy
      rcases hy with rfl | rfl | rfl | rfl <;> assumption)).mono fun e w' ⟨h1, h2⟩ => ⟨h1, (belM_alloc h _).trans (h2.mono (belM_alloc h _).size)⟩
  have zJ : (joinS [p1, p2, p3, p4]).size ≤ 1000000 := by
    have := joinS_size [p1, p2, p3, p4] 100000 (by
      intro y hy
      simp only [List.mem_cons, List.not_mem_nil, or_false] at hy
      rcases hy with rfl | rfl | rfl | rfl <;> assumption)
    simp only [List.length_cons, List.length_nil] at this
    omega
  have hb0 := (Below.refl A.heap.size A).drew
  clear z1 z2 z3 z4
  generalize joinS [p1, p2, p3, p4] = q at *
  have hq1 : ¬ (9223372036854775807 < q.size + 1) := by omega
  have hq2 : ¬ (9223372036854775806 < q.size) := by omega
  have hq3 : ¬ (9223372036854775807 ≤ q.size) := by omega
  have hadd : ∀ w, (Op.stringOp .add q ⟨#[10]⟩).run Tryd.prog w = .ok (.string (q ++ ⟨#[10]⟩)) w := fun w => run_string_add_sum w q ⟨#[10]⟩ (by show q.size + 1 ≤ _; omega)
  go_cut [2] from 3 to 20 (fun v W => v = .string m.textS ∧ Below A.heap.size A W)
  case first =>
    go_region_held3 (fun W => Below A.heap.size A W ∧ W.cell? ⟨w.heap.size, 0, none⟩ = some (.int .i64 m.regs) ∧ W.cell? ⟨w.heap.size, 1, none⟩ = some (.slice aa m.args.length ac) ∧ W.cell? ⟨w.heap.size, 2, none⟩ = some (.int .i64 m.ret) ∧ W.cell? ⟨w.heap.size, 3, none⟩ = some (.slice sa m.saved.length sc))
      (first | (refine HS.out _ ?_; (repeat (first | with_reducible apply belM_alloc | with_reducible apply belM_drew)); (first | exact Below.refl _ _ | assumption)))
      (first
        | (go_at_call 25; have hq := hW13; refine (C4.out _ (by go_split_ands; assumption)).mono ?_; rintro e w16 ⟨rfl, hb16, hW16⟩)
        | (go_at_call 25; have hq := hW9; refine (C3.out _ _ (by go_split_ands; assumption) (by (repeat (with_reducible apply intsW_drew)); first | exact one_reg _ _ | exact one_regN _ _ _ (by simp) | (refine IntsW.below ?_ hW9.out; (repeat (with_reducible apply intsW_drew)); first | exact one_reg _ _ | exact one_regN _ _ _ (by simp) | (refine intsW_alloc ?_ _; (repeat (with_reducible apply intsW_drew)); first | exact one_reg _ _ | exact one_regN _ _ _ (by simp)) | (refine IntsW.below ?_ hW6.out; (repeat (with_reducible apply intsW_drew)); first | exact one_reg _ _ | exact one_regN _ _ _ (by simp) | (refine intsW_alloc ?_ _; (repeat (with_reducible apply intsW_drew)); first | exact one_reg _ _ | exact one_regN _ _ _ (by simp)))))).mono ?_; rintro e w13 ⟨rfl, hb13, hW13⟩)
        | (go_at_call 25; have hq := hW6; refine (C2.out _ (by go_split_ands; assumption)).mono ?_; rintro e w9 ⟨rfl, hb9, hW9⟩)
        | (go_at_call 25; refine (C1.out _ _ (by go_split_ands; assumption) (by (repeat (with_reducible apply intsW_drew)); first | exact one_reg _ _ | exact one_regN _ _ _ (by simp) | (refine intsW_alloc ?_ _; (repeat (with_reducible apply intsW_drew)); first | exact one_reg _ _ | exact one_regN _ _ _ (by simp)))).mono ?_; rintro e w6 ⟨rfl, hb6, hW6⟩)
        | (go_at_call 24; refine (CJ.out _ (by go_split_ands; assumption)).mono ?_; rintro e w18 ⟨rfl, hb18⟩))
    all_goals (
      go_wp2_with fail
      go_meet
      exact ⟨by rw [HT.out], hb18⟩)
  case rest =>
    obtain ⟨rfl, hbc⟩ := hcut
    clear C1 C2 C3 C4 CJ HS HX0
    go_wp2
    go_ret
    exact ⟨rfl, HB0.out.trans (hbc.mono HB0.out.size)⟩

def Mm.printS (m : Mm) : ByteArray := if m.rightB then m.textS else ⟨#[]⟩
def Mm.printE (m : Mm) : Int := if m.rightB then 0 else 2
theorem print_right {m : Mm} (h : m.rightB = true) : m.printS = m.textS ∧ m.printE = 0 := by
  unfold Mm.printS Mm.printE
  simp [h]
theorem print_wrong {m : Mm} (h : m.rightB = false) : m.printS = ⟨#[]⟩ ∧ m.printE = 2 := by
  unfold Mm.printS Mm.printE
  simp [h]
theorem right_small {m : Mm} (h : m.rightB = true) : m.args.length ≤ 64 ∧ m.saved.length ≤ 64 ∧ (0 ≤ m.regs ∧ m.regs < 100) ∧ (0 ≤ m.ret ∧ m.ret < 100) ∧ (∀ x ∈ m.args, 0 ≤ x ∧ x < 100) ∧ (∀ x ∈ m.saved, 0 ≤ x ∧ x < 100) := by
  have hi := (right_iff m).1 h
  have hr := hi.small
  simp only [Mm.smallB, Bool.and_eq_true, decide_eq_true_eq] at hr
  have reg : ∀ x, m.regB x = true → 0 ≤ x ∧ x < 100 := fun x hx => by
    simp only [Mm.regB, Bool.and_eq_true, decide_eq_true_eq] at hx
    omega
  refine ⟨by omega, by omega, by omega, reg _ hi.ret, fun x hx => reg x ?_, fun x hx => reg x ?_⟩
  · exact List.all_eq_true.1 hi.args x hx
  · exact List.all_eq_true.1 hi.saved x hx

set_option maxHeartbeats 2000000 in
set_option maxRecDepth 100000 in
theorem printM_any (m : Mm) (aa sa : Option Addr) (ac sc : Nat) (w : World) (hl : m.args.length ≤ 140737488355328) (hs : m.saved.length ≤ 140737488355328) (hM : MaW w m aa sa) :
    Calls Tryd.prog 5 #[machV m aa ac sa sc] w fun e w' => e = .returned (.tuple #[.string m.printS, .int .i64 m.printE]) ∧ Below w.heap.size w w' := by
  have HB0 : Hid (Below w.heap.size w (w.alloc (.cells (maxC m aa ac sa sc) 24))) := (Below.refl _ w).alloc (Nat.le_refl _) _
  have HX0 : Hid (Blk (w.alloc (.cells (maxC m aa ac sa sc) 24)) w.heap.size 24 (maxC m aa ac sa sc)) := Blk.new w _ _
  have HR := Lib.hid (rightM_any m aa sa ac sc (w.alloc (.cells (maxC m aa ac sa sc) 24)) hl hs (hM.below HB0.out))
  have HW := Lib.hid hM
  have HM : Hid (maxC m aa ac sa sc = _) := maxC.eq_1 m aa ac sa sc
  unfold machV at HR ⊢
  clear hM
  rw [HM.out] at HB0 HX0 HR ⊢
  cases hr : m.rightB
  · have HE := Lib.hid (print_wrong hr)
    rw [hr] at HR
    clear hr
    go_enter Tryd.func5, Tryd.ntmps5
    go_wp2_with fail
    refine HR.out.mono ?_
    rintro e w1 ⟨rfl, hb⟩
    have HB1 : Hid (Below w.heap.size w w1) := HB0.out.trans (hb.mono HB0.out.size)
    clear hb
    go_wp2
    go_ret2
    exact ⟨by rw [HE.out.1, HE.out.2]; rfl, HB1.out⟩
  · have HE := Lib.hid (print_right hr)
    obtain ⟨b1, b2, b3, b4, b5, b6⟩ := right_small hr
    rw [hr] at HR
    have HN := Lib.hid (⟨b5, b6⟩ : (∀ x ∈ m.args, 0 ≤ x ∧ x < 100) ∧ (∀ x ∈ m.saved, 0 ≤ x ∧ x < 100))
    clear hr b5 b6
    go_enter Tryd.func5, Tryd.ntmps5
    go_wp2_with fail
    refine HR.out.mono ?_
    rintro e w1 ⟨rfl, hb⟩
    obtain ⟨c0, c1, c2, c3⟩ := boxMa (m := m) (aa := aa) (sa := sa) (ac := ac) (sc := sc) (HX0.out.below hb HX0.out.lt)
    have HB1 : Hid (Below w.heap.size w w1) := HB0.out.trans (hb.mono HB0.out.size)
    have HS := Lib.hid (textOf_any m aa sa ac sc w1 b1 b2 b3 b4 HN.out.1 HN.out.2 (HW.out.below HB1.out))
    unfold machV at HS
    rw [HM.out] at HS
    clear hb HR HX0 HB0
    go_wp2_with fail
    refine HS.out.mono ?_
    rintro e w2 ⟨rfl, hb⟩
    have HB2 : Hid (Below w.heap.size w w2) := HB1.out.trans (hb.mono HB1.out.size)
    clear hb
    go_wp2
    go_ret2
    exact ⟨by rw [HE.out.1, HE.out.2]; rfl, HB2.out⟩
end Go.Proofs.YtfcnclnebnmdiaaDoor
/-
  Words that are shown are read again, and what is read can be shown but for numbers that are written oddly: the plain part. No condition beyond those that each theorem states.
-/
namespace Go.Proofs.YtfcnclnebnmdiaaDoor

theorem get_data (s : ByteArray) (k : Nat) (h : k < s.size) : s.data.toList[k]? = some (s.get! k) := by
  rw [get_eq s k h, Array.getElem?_toList]
  exact Array.getElem?_eq_getElem h
theorem get_list {s : ByteArray} {k : Nat} {b : UInt8} (h : s.data.toList[k]? = some b) : k < s.size ∧ s.get! k = b := by
  have hk : k < s.size := by
    have := (List.getElem?_eq_some_iff.1 h).1
    simpa using this
  rw [get_data s k hk] at h
  exact ⟨hk, Option.some.inj h⟩
/-- A text lies in another one from a place on. -/
structure Sub (t s : ByteArray) (j : Nat) : Prop where
  fits : j + t.size ≤ s.size
  same : ∀ k, k < t.size → s.get! (j + k) = t.get! k
theorem sub_of_drop {t s : ByteArray} {j : Nat} {r : List UInt8} (hj : j ≤ s.size) (h : s.data.toList.drop j = t.data.toList ++ r) : Sub t s j := by
  have hl := congrArg List.length h
  simp only [List.length_drop, List.length_append, Array.length_toList] at hl
  have e1 : s.data.size = s.size := rfl
  have e2 : t.data.size = t.size := rfl
  refine ⟨by omega, fun k hk => ?_⟩
  have h1 : (s.data.toList.drop j)[k]? = some (t.get! k) := by
    rw [h, List.getElem?_append_left (by simp only [Array.length_toList]; omega)]
    exact get_data t k hk
  rw [List.getElem?_drop] at h1
  exact (get_list h1).2
theorem atP_lt {t : ByteArray} {k : Nat} (hk : (atP t k).2 ≠ 0) : k < t.size := by
  by_cases h : k < t.size
  · exact h
  · unfold atP at hk
    rw [if_neg h] at hk
    exact absurd rfl hk
/-- A rune within a text is that rune where the text lies. -/
theorem atP_shift {t s : ByteArray} {j : Nat} (h : Sub t s j) (k : Nat) (hk : (atP t k).2 ≠ 0) : atP s (j + k) = atP t k := by
  have hlt := atP_lt hk
  have hf := h.fits
  have e0 := h.same k hlt
  by_cases hb : (t.get! k).toNat < 128
  · rw [atP_one t k hlt hb, atP_one s (j + k) (by omega) (by rw [e0]; exact hb), e0]
  by_cases hn : (t.get! k).toNat < 192 ∨ 248 ≤ (t.get! k).toNat
  · rw [atP_none t k (by omega) hn] at hk
    exact absurd rfl hk
  by_cases h2 : (t.get! k).toNat ≤ 223
  · have hr := atP_two t k ⟨by omega, h2⟩
    have hr' := atP_two s (j + k) ⟨by rw [e0]; omega, by rw [e0]; exact h2⟩
    have hc : k + 2 ≤ t.size ∧ contB t (k + 1) ∧ okB 128 (accR t k ((t.get! k).toNat - 192) 1) := by
      apply Classical.byContradiction
      intro hc
      rw [if_neg hc] at hr
      rw [hr] at hk
      exact hk rfl
    have e1 : s.get! (j + k + 1) = t.get! (k + 1) := h.same (k + 1) (by omega)
    have ea : accR s (j + k) ((s.get! (j + k)).toNat - 192) 1 = accR t k ((t.get! k).toNat - 192) 1 := by simp only [accR_one, e0, e1]
    rw [hr, hr', ea, if_pos hc, if_pos ⟨by omega, by unfold contB; rw [e1]; exact hc.2.1, hc.2.2⟩]
  by_cases h3 : (t.get! k).toNat ≤ 239
  · have hr := atP_three t k ⟨by omega, h3⟩
    have hr' := atP_three s (j + k) ⟨by rw [e0]; omega, by rw [e0]; exact h3⟩
    have hc : k + 3 ≤ t.size ∧ contB t (k + 1) ∧ contB t (k + 2) ∧ okB 2048 (accR t k ((t.get! k).toNat - 224) 2) := by
      apply Classical.byContradiction
      intro hc
      rw [if_neg hc] at hr
      rw [hr] at hk
      exact hk rfl
    have e1 : s.get! (j + k + 1) = t.get! (k + 1) := h.same (k + 1) (by omega)
    have e2 : s.get! (j + k + 2) = t.get! (k + 2) := h.same (k + 2) (by omega)
    have ea : accR s (j + k) ((s.get! (j + k)).toNat - 224) 2 = accR t k ((t.get! k).toNat - 224) 2 := by simp only [accR_two, e0, e1, e2]
    rw [hr, hr', ea, if_pos hc, if_pos ⟨by omega, by unfold contB; rw [e1]; exact hc.2.1, by unfold contB; rw [e2]; exact hc.2.2.1, hc.2.2.2⟩]
  · have hr := atP_four t k ⟨by omega, by omega⟩
    have hr' := atP_four s (j + k) ⟨by rw [e0]; omega, by rw [e0]; omega⟩
    have hc : k + 4 ≤ t.size ∧ contB t (k + 1) ∧ contB t (k + 2) ∧ contB t (k + 3) ∧ okB 65536 (accR t k ((t.get! k).toNat - 240) 3) := by
      apply Classical.byContradiction
      intro hc
      rw [if_neg hc] at hr
      rw [hr] at hk
      exact hk rfl
    have e1 : s.get! (j + k + 1) = t.get! (k + 1) := h.same (k + 1) (by omega)
    have e2 : s.get! (j + k + 2) = t.get! (k + 2) := h.same (k + 2) (by omega)
    have e3 : s.get! (j + k + 3) = t.get! (k + 3) := h.same (k + 3) (by omega)
    have ea : accR s (j + k) ((s.get! (j + k)).toNat - 240) 3 = accR t k ((t.get! k).toNat - 240) 3 := by simp only [accR_three, e0, e1, e2, e3]
    rw [hr, hr', ea, if_pos hc, if_pos ⟨by omega, by unfold contB; rw [e1]; exact hc.2.1, by unfold contB; rw [e2]; exact hc.2.2.1, by unfold contB; rw [e3]; exact hc.2.2.2.1, hc.2.2.2.2⟩]
/-- And a rune of the whole that lies within it is a rune of the part. -/
theorem atP_back {t s : ByteArray} {j : Nat} (h : Sub t s j) (k : Nat) (hk : (atP s (j + k)).2 ≠ 0) (hw : k + (atP s (j + k)).2 ≤ t.size) : atP t k = atP s (j + k) := by
  have hlt : k < t.size := by omega
  have hf := h.fits
  have e0 := h.same k hlt
  by_cases hb : (t.get! k).toNat < 128
  · rw [atP_one t k hlt hb, atP_one s (j + k) (by omega) (by rw [e0]; exact hb), e0]
  by_cases hn : (t.get! k).toNat < 192 ∨ 248 ≤ (t.get! k).toNat
  · rw [atP_none s (j + k) (by rw [e0]; omega) (by rw [e0]; exact hn)] at hk
    exact absurd rfl hk
  by_cases h2 : (t.get! k).toNat ≤ 223
  · have hr := atP_two t k ⟨by omega, h2⟩
    have hr' := atP_two s (j + k) ⟨by rw [e0]; omega, by rw [e0]; exact h2⟩
    have hc : j + k + 2 ≤ s.size ∧ contB s (j + k + 1) ∧ okB 128 (accR s (j + k) ((s.get! (j + k)).toNat - 192) 1) := by
      apply Classical.byContradiction
      intro hc
      rw [if_neg hc] at hr'
      rw [hr'] at hk
      exact hk rfl
    rw [if_pos hc] at hr'
    rw [hr'] at hw
    have e1 : s.get! (j + k + 1) = t.get! (k + 1) := h.same (k + 1) (by omega)
    have ea : accR s (j + k) ((s.get! (j + k)).toNat - 192) 1 = accR t k ((t.get! k).toNat - 192) 1 := by simp only [accR_one, e0, e1]
    rw [ea] at hc
    rw [hr, hr', ea, if_pos ⟨by omega, by have := hc.2.1; unfold contB at this ⊢; rw [e1] at this; exact this, hc.2.2⟩]
  by_cases h3 : (t.get! k).toNat ≤ 239
  · have hr := atP_three t k ⟨by omega, h3⟩
    have hr' := atP_three s (j + k) ⟨by rw [e0]; omega, by rw [e0]; exact h3⟩
    have hc : j + k + 3 ≤ s.size ∧ contB s (j + k + 1) ∧ contB s (j + k + 2) ∧ okB 2048 (accR s (j + k) ((s.get! (j + k)).toNat - 224) 2) := by
      apply Classical.byContradiction
      intro hc
      rw [if_neg hc] at hr'
      rw [hr'] at hk
      exact hk rfl
    rw [if_pos hc] at hr'
    rw [hr'] at hw
    have e1 : s.get! (j + k + 1) = t.get! (k + 1) := h.same (k + 1) (by omega)
    have e2 : s.get! (j + k + 2) = t.get! (k + 2) := h.same (k + 2) (by omega)
    have ea : accR s (j + k) ((s.get! (j + k)).toNat - 224) 2 = accR t k ((t.get! k).toNat - 224) 2 := by simp only [accR_two, e0, e1, e2]
    rw [ea] at hc
    rw [hr, hr', ea, if_pos ⟨by omega, by have := hc.2.1; unfold contB at this ⊢; rw [e1] at this; exact this, by have := hc.2.2.1; unfold contB at this ⊢; rw [e2] at this; exact this, hc.2.2.2⟩]
  · have hr := atP_four t k ⟨by omega, by omega⟩
    have hr' := atP_four s (j + k) ⟨by rw [e0]; omega, by rw [e0]; omega⟩
    have hc : j + k + 4 ≤ s.size ∧ contB s (j + k + 1) ∧ contB s (j + k + 2) ∧ contB s (j + k + 3) ∧ okB 65536 (accR s (j + k) ((s.get! (j + k)).toNat - 240) 3) := by
      apply Classical.byContradiction
      intro hc
      rw [if_neg hc] at hr'
      rw [hr'] at hk
      exact hk rfl
    rw [if_pos hc] at hr'
    rw [hr'] at hw
    have e1 : s.get! (j + k + 1) = t.get! (k + 1) := h.same (k + 1) (by omega)
    have e2 : s.get! (j + k + 2) = t.get! (k + 2) := h.same (k + 2) (by omega)
    have e3 : s.get! (j + k + 3) = t.get! (k + 3) := h.same (k + 3) (by omega)
    have ea : accR s (j + k) ((s.get! (j + k)).toNat - 240) 3 = accR t k ((t.get! k).toNat - 240) 3 := by simp only [accR_three, e0, e1, e2, e3]
    rw [ea] at hc
    rw [hr, hr', ea, if_pos ⟨by omega, by have := hc.2.1; unfold contB at this ⊢; rw [e1] at this; exact this, by have := hc.2.2.1; unfold contB at this ⊢; rw [e2] at this; exact this, by have := hc.2.2.2.1; unfold contB at this ⊢; rw [e3] at this; exact this, hc.2.2.2.2⟩]
/-- A word ends at a place: the end, a space or a line's end. -/
def Stops (s : ByteArray) (e : Nat) : Prop := e < s.size → atP s e = (32, 1) ∨ atP s e = (10, 1)
theorem run_name {t s : ByteArray} {j : Nat} (h : Sub t s j) (hs : Stops s (j + t.size)) : ∀ (g f i n : Nat), t.size ≤ i + g → i ≤ t.size → s.size ≤ j + i + f → rnameGo t g i n = true → ∃ m, runEnd s false f (j + i) n = (j + t.size, m) ∧ 1 ≤ m ∧ m ≤ 16 := by
  have base : ∀ (f n : Nat), decide (1 ≤ n ∧ n ≤ 16) = true → ∃ m, runEnd s false f (j + t.size) n = (j + t.size, m) ∧ 1 ≤ m ∧ m ≤ 16 := fun f n hn => by
    refine ⟨n, runEnd_stop s false f _ n (fun hlt => ?_), of_decide_eq_true hn⟩
    rcases hs hlt with e | e <;> rw [e] <;> exact .inr (by decide)
  intro g
  induction g with
  | zero =>
    intro f i n h1 h2 h3 hr
    have : i = t.size := by omega
    subst this
    exact base f n hr
  | succ g ih =>
    intro f i n h1 h2 h3 hr
    by_cases hlt : i < t.size
    · rw [rnameGo, if_pos hlt] at hr
      split at hr
      · rename_i hc
        have hf := h.fits
        obtain ⟨f, rfl⟩ : ∃ f', f = f' + 1 := ⟨f - 1, by omega⟩
        have hle := atP_le t i hlt
        rw [runEnd, if_pos (by omega), atP_shift h i hc.1, if_neg]
        · rw [Nat.add_assoc]
          exact ih f _ _ (by omega) hle (by omega) hr
        · rintro (h0 | h0)
          · exact hc.1 h0
          · have := hc.2
            unfold stopB at h0
            simp only [Bool.or_eq_true, Bool.and_eq_true, Bool.not_eq_true', Bool.false_or] at h0 this
            rcases this with h' | h'
            · rw [h'] at h0; exact absurd h0.2 (by decide)
            · rw [h'.2] at h0; exact absurd h0.1 (by decide)
      · cases hr
    · have : i = t.size := by omega
      subst this
      rw [rnameGo_end _ _ _ _ hlt] at hr
      exact base f n hr
theorem run_digits (s : ByteArray) : ∀ (m f i n : Nat), (∀ k, k < m → 48 ≤ (s.get! (i + k)).toNat ∧ (s.get! (i + k)).toNat ≤ 57) → i + m ≤ s.size → Stops s (i + m) → s.size ≤ i + f → runEnd s true f i n = (i + m, n + m) := by
  intro m
  induction m with
  | zero =>
    intro f i n _ _ hs _
    refine runEnd_stop s true f i n (fun hlt => ?_)
    rcases hs hlt with e | e <;> (have e : atP s i = _ := e) <;> rw [e] <;> exact .inr (by decide)
  | succ m ih =>
    intro f i n hd hi hs hf
    obtain ⟨f, rfl⟩ : ∃ f', f = f' + 1 := ⟨f - 1, by omega⟩
    have h0 := hd 0 (by omega)
    rw [Nat.add_zero] at h0
    rw [runEnd, if_pos (by omega), atP_one s i (by omega) (by omega), if_neg]
    · have e : i + (m + 1) = i + 1 + m := by omega
      rw [ih f (i + 1) (n + 1) (fun k hk => by have := hd (k + 1) (by omega); rw [show i + (k + 1) = i + 1 + k by omega] at this; exact this) (by omega) (by rw [← e]; exact hs) (by omega), e]
      rw [show n + 1 + m = n + (m + 1) by omega]
    · rintro (h' | h')
      · cases h'
      · unfold stopB digitB at h'
        simp at h'
        omega
/-- What a text is by its bytes. -/
theorem part_sub {t s : ByteArray} {j : Nat} (h : Sub t s j) : partOf s j (j + t.size) = t := by
  have hf := h.fits
  have hz : (partOf s j (j + t.size)).size = t.size := by rw [part_size _ _ _ hf]; omega
  apply ByteArray.ext
  apply Array.ext
  · exact hz
  · intro k h1 h2
    have h1' : k < (partOf s j (j + t.size)).size := h1
    have h2' : k < t.size := h2
    have a := get_eq _ _ h1'
    have b := get_eq _ _ h2'
    have c := part_get s j (j + t.size) k hf (by omega)
    rw [h.same k h2'] at c
    rw [a, b] at c
    exact c
theorem sub_part {s : ByteArray} {i j : Nat} (hi : i ≤ j) (hj : j ≤ s.size) : Sub (partOf s i j) s i := by
  have hz := part_size s i j hj
  exact ⟨by omega, fun k hk => (part_get s i j k hj (by omega)).symm⟩
/-- The value of digits. -/
theorem valT_digits (t : ByteArray) : ∀ (u k0 : Nat), valT t k0 = 0 → (∀ i b, (Lib.decDigits u)[i]? = some b → t.get! (k0 + i) = b) → valT t (k0 + (Lib.decDigits u).length) = u ∧ ∀ i, i < (Lib.decDigits u).length → 48 ≤ (t.get! (k0 + i)).toNat ∧ (t.get! (k0 + i)).toNat ≤ 57 := by
  intro u
  induction u using Nat.strongRecOn with
  | _ u ih =>
    intro k0 h0 hb
    have dig : ∀ v, v < 10 → (UInt8.ofNat (48 + v)).toNat = 48 + v := fun v hv => by simp; omega
    by_cases hu : u < 10
    · rw [Lib.decDigits_one hu] at hb ⊢
      have h1 := hb 0 _ rfl
      have h2 := dig u hu
      rw [Nat.add_zero] at h1
      refine ⟨?_, fun i hi => ?_⟩
      · simp only [List.length_singleton]
        rw [valT, h1, h2, if_neg (by omega), h0]
        omega
      · simp only [List.length_singleton] at hi
        have : i = 0 := by omega
        subst this
        rw [Nat.add_zero, h1, h2]
        omega
    · have hd : Lib.decDigits u = Lib.decDigits (u / 10) ++ [UInt8.ofNat (48 + u % 10)] := by rw [Lib.decDigits, dif_neg hu]
      rw [hd] at hb ⊢
      obtain ⟨h1, h2⟩ := ih (u / 10) (by omega) k0 h0 (fun i b hi => hb i b (by rw [List.getElem?_append_left (List.getElem?_eq_some_iff.1 hi).1]; exact hi))
      have h3 := hb (Lib.decDigits (u / 10)).length _ (by rw [List.getElem?_append_right (Nat.le_refl _), Nat.sub_self]; rfl)
      have h4 := dig (u % 10) (by omega)
      refine ⟨?_, fun i hi => ?_⟩
      · rw [List.length_append, List.length_singleton, ← Nat.add_assoc, valT, h3, h4, if_neg (by omega), h1]
        omega
      · by_cases hi' : i < (Lib.decDigits (u / 10)).length
        · exact h2 i hi'
        · rw [List.length_append, List.length_singleton] at hi
          have : i = (Lib.decDigits (u / 10)).length := by omega
          subst this
          rw [h3, h4]
          omega
theorem decDigits_ne (u : Nat) : 0 < (Lib.decDigits u).length := by
  by_cases hu : u < 10
  · rw [Lib.decDigits_one hu]; simp
  · rw [Lib.decDigits, dif_neg hu]; simp
end Go.Proofs.YtfcnclnebnmdiaaDoor
/-
  Words that are shown are read again: the same, but for their places (plainly). No condition beyond those that each theorem states.
-/
namespace Go.Proofs.YtfcnclnebnmdiaaDoor

def shownL : Bool → List Wd → List UInt8
  | _, [] => []
  | b, x :: r => if x.k = 4 then 10 :: shownL false r else (if b then [32] else []) ++ (x.t.data.toList ++ shownL true r)
theorem showGo_eq (ws : List Wd) : ∀ (b : Bool) (out l : List UInt8), showGo ws b out = some l → l = out ++ shownL b ws ∧ ∀ x ∈ ws, canB x = true := by
  induction ws with
  | nil =>
    intro b out l h
    simp only [showGo, Option.some.injEq] at h
    exact ⟨by simp [shownL, h], by simp⟩
  | cons x r ih =>
    intro b out l h
    rw [showGo] at h
    by_cases hc : canB x = false
    · rw [if_pos hc] at h; cases h
    · rw [if_neg hc] at h
      have hc : canB x = true := by simpa using hc
      by_cases h4 : x.k = 4
      · rw [if_pos h4] at h
        obtain ⟨h1, h2⟩ := ih _ _ _ h
        refine ⟨?_, fun y hy => ?_⟩
        · rw [h1, shownL, if_pos h4]; simp
        · rcases List.mem_cons.1 hy with rfl | hy
          · exact hc
          · exact h2 y hy
      · rw [if_neg h4] at h
        obtain ⟨h1, h2⟩ := ih _ _ _ h
        refine ⟨?_, fun y hy => ?_⟩
        · rw [h1, shownL, if_neg h4]; cases b <;> simp
        · rcases List.mem_cons.1 hy with rfl | hy
          · exact hc
          · exact h2 y hy
def key (x : Wd) : Int × ByteArray × Int := (x.k, x.t, x.n)
theorem drop_cons {s : ByteArray} {j : Nat} {b : UInt8} {r : List UInt8} (h : s.data.toList.drop j = b :: r) : j < s.size ∧ s.get! j = b ∧ s.data.toList.drop (j + 1) = r := by
  have h1 : s.data.toList[j]? = some b := by
    have := List.getElem?_drop (xs := s.data.toList) (i := j) (j := 0)
    rw [h] at this
    simpa using this.symm
  have h2 := get_list h1
  refine ⟨h2.1, h2.2, ?_⟩
  rw [← List.drop_drop, h]
  rfl
theorem drop_more {s : ByteArray} {j : Nat} {a r : List UInt8} (h : s.data.toList.drop j = a ++ r) : s.data.toList.drop (j + a.length) = r := by
  rw [← List.drop_drop, h, List.drop_left]
theorem stops_of {s : ByteArray} {e : Nat} {r : List Wd} (h : s.data.toList.drop e = shownL true r) : Stops s e := by
  intro hlt
  cases r with
  | nil =>
    have := congrArg List.length h
    simp only [List.length_drop, shownL, List.length_nil, Array.length_toList] at this
    have e1 : s.data.size = s.size := rfl
    omega
  | cons x r =>
    rw [shownL] at h
    split at h
    · obtain ⟨_, h2, _⟩ := drop_cons h
      right
      rw [atP_one s e hlt (by rw [h2]; decide), h2]
      rfl
    · simp only [if_true, List.cons_append, List.nil_append] at h
      obtain ⟨_, h2, _⟩ := drop_cons h
      left
      rw [atP_one s e hlt (by rw [h2]; decide), h2]
      rfl
/-- What is no digit and no minus begins no number. -/
theorem numLen_no {s : ByteArray} {j : Nat} (hlt : j < s.size) (h45 : (atP s j).1 ≠ 45) (hd : digitB ((atP s j).1 : Int) = false) : numLen s j = 0 := by
  have hh : headOf s j = j := by
    unfold headOf
    rw [if_neg]
    intro h
    have := atP_one s j hlt (by omega)
    rw [this] at h45
    exact h45 h
  have hr : runTo s true j = (j, 0) := by
    unfold runTo
    exact runEnd_stop s true _ j 0 (fun _ => .inr (by simp [stopB, hd]))
  unfold numLen
  rw [hh, hr]
  simp
theorem canB_name {x : Wd} (h : canB x = true) (hk : x.k = 1) : x.n = 0 ∧ nameB x.t = true := by
  unfold canB at h
  rw [if_pos hk] at h
  simpa using h
theorem canB_num {x : Wd} (h : canB x = true) (hk : x.k = 2) : boundB x.n = true ∧ x.t = ⟨(Lib.itoa x.n).toArray⟩ := by
  unfold canB at h
  rw [if_neg (by omega), if_pos hk] at h
  simpa using h
theorem canB_sign {x : Wd} (h : canB x = true) (hk : x.k = 3) : x.n = 0 ∧ isSignB x.t = true := by
  unfold canB at h
  rw [if_neg (by omega), if_neg (by omega), if_pos hk] at h
  simpa using h
theorem canB_end {x : Wd} (h : canB x = true) (hk : x.k = 4) : x.n = 0 ∧ x.t = ⟨#[]⟩ := by
  unfold canB at h
  rw [if_neg (by omega), if_neg (by omega), if_neg (by omega), if_pos hk] at h
  simpa using h
theorem canB_kind {x : Wd} (h : canB x = true) : x.k = 1 ∨ x.k = 2 ∨ x.k = 3 ∨ x.k = 4 := by
  unfold canB at h
  split at h
  · exact .inl ‹_›
  split at h
  · exact .inr (.inl ‹_›)
  split at h
  · exact .inr (.inr (.inl ‹_›))
  split at h
  · exact .inr (.inr (.inr ‹_›))
  · cases h
theorem rname_head {t : ByteArray} (h : rnameB t = true) : 0 < t.size ∧ (atP t 0).2 ≠ 0 ∧ letterB ((atP t 0).1 : Int) = true := by
  unfold rnameB at h
  cases hz : t.size with
  | zero => rw [hz] at h; simp [rnameGo] at h
  | succ g =>
    rw [hz, rnameGo, if_pos (by omega)] at h
    split at h
    · rename_i hc
      exact ⟨by omega, hc.1, by simpa using hc.2⟩
    · cases h
theorem tok_name {s : ByteArray} {x : Wd} {r : List Wd} (hx : canB x = true) (hk : x.k = 1) (f j : Nat) (out : List Wd) (l c : Int) (hj : j ≤ s.size) (hd : s.data.toList.drop j = x.t.data.toList ++ shownL true r) (hf : s.size ≤ j + f) :
    ∃ (y : Wd) (f' : Nat) (l' c' : Int), refGo s f out l c false j = refGo s f' (out ++ [y]) l' c' false (j + x.t.size) ∧ key y = key x ∧ s.size ≤ j + x.t.size + f' := by
  have hS := sub_of_drop hj hd
  have hfit := hS.fits
  obtain ⟨hn, hb⟩ := canB_name hx hk
  rw [nameB_same] at hb
  obtain ⟨hpos, h0, hl⟩ := rname_head hb
  have hst : Stops s (j + x.t.size) := stops_of (r := r) (by have := drop_more hd; simpa using this)
  have hat : atP s j = atP x.t 0 := atP_shift hS 0 h0
  have hlr : (97 : Int) ≤ ((atP s j).1 : Int) ∧ ((atP s j).1 : Int) ≤ 122 ∨ 945 ≤ ((atP s j).1 : Int) ∧ ((atP s j).1 : Int) ≤ 969 ∨ ((atP s j).1 : Int) = 95 := by rw [hat]; exact of_decide_eq_true hl
  have hdg : digitB ((atP s j).1 : Int) = false := by unfold digitB; exact decide_eq_false (by omega)
  have hlt : j < s.size := by omega
  obtain ⟨f, rfl⟩ : ∃ f', f = f' + 1 := ⟨f - 1, by omega⟩
  have hnl := numLen_no hlt (by omega) hdg
  obtain ⟨m, hm, hm1, hm2⟩ := run_name hS hst x.t.size s.size 0 0 (by omega) (by omega) (by omega) hb
  have hr : runTo s false j = (j + x.t.size, m) := hm
  refine ⟨⟨1, partOf s j (j + x.t.size), 0, l, c⟩, f, l, c + m, ?_, ?_, by omega⟩
  · rw [refGo, if_pos hlt, if_neg (by rw [hat]; exact h0), if_neg (by omega), if_neg (by simp; omega), if_neg (by rw [hnl]; omega), if_pos (by rw [hat]; exact hl), hr, if_neg (by omega)]
  · unfold key
    rw [part_sub hS, hk, hn]
theorem tok_sign {s : ByteArray} {x : Wd} {r : List Wd} (hx : canB x = true) (hk : x.k = 3) (f j : Nat) (out : List Wd) (l c : Int) (hj : j ≤ s.size) (hd : s.data.toList.drop j = x.t.data.toList ++ shownL true r) (hf : s.size ≤ j + f) :
    ∃ (y : Wd) (f' : Nat) (l' c' : Int), refGo s f out l c false j = refGo s f' (out ++ [y]) l' c' false (j + x.t.size) ∧ key y = key x ∧ s.size ≤ j + x.t.size + f' := by
  have hS := sub_of_drop hj hd
  have hfit := hS.fits
  obtain ⟨hn, hb⟩ := canB_sign hx hk
  rw [isSignB_ref] at hb
  simp only [Bool.and_eq_true, decide_eq_true_eq] at hb
  obtain ⟨⟨h0, hw⟩, hsg⟩ := hb
  have hat : atP s j = atP x.t 0 := atP_shift hS 0 (by omega)
  rw [← hat] at h0 hw hsg
  have hsr := of_decide_eq_true hsg
  have hdg : digitB ((atP s j).1 : Int) = false := by unfold digitB; exact decide_eq_false (by omega)
  have hlr : letterB ((atP s j).1 : Int) = false := by unfold letterB; exact decide_eq_false (by omega)
  have hlt : j < s.size := by omega
  obtain ⟨f, rfl⟩ : ∃ f', f = f' + 1 := ⟨f - 1, by omega⟩
  have hnl := numLen_no hlt (by omega) hdg
  refine ⟨⟨3, partOf s j (j + x.t.size), 0, l, c⟩, f, l, c + 1, ?_, ?_, by omega⟩
  · rw [refGo, if_pos hlt, if_neg (by omega), if_neg (by omega), if_neg (by simp; omega), if_neg (by rw [hnl]; omega), if_neg (by rw [hlr]; decide), if_pos hsg, hw]
  · unfold key
    rw [part_sub hS, hk, hn]
/-- A number's numeral: where its digits begin, its digits, its value. -/
theorem itoa_text (n : Int) (t : ByteArray) (ht : t = ⟨(Lib.itoa n).toArray⟩) : ∃ (h m : Nat), h ≤ 1 ∧ 0 < m ∧ t.size = h + m ∧ valT t t.size = (n.natAbs : Int) ∧ (h = 1 → (t.get! 0).toNat = 45 ∧ n < 0) ∧ (h = 0 → 0 ≤ n) ∧ ∀ i, i < m → 48 ≤ (t.get! (h + i)).toNat ∧ (t.get! (h + i)).toNat ≤ 57 := by
  by_cases hn : n < 0
  · have hi : Lib.itoa n = 45 :: Lib.decDigits n.natAbs := by unfold Lib.itoa; rw [if_pos hn]
    have hg : ∀ k b, (Lib.itoa n)[k]? = some b → t.get! k = b := fun k b hk => by
      refine (get_list (s := t) (k := k) ?_).2
      rw [ht]
      exact hk
    have h0 : t.get! 0 = 45 := hg 0 45 (by rw [hi]; rfl)
    have hz : t.size = 1 + (Lib.decDigits n.natAbs).length := by rw [ht]; show (Lib.itoa n).toArray.size = _; rw [hi]; simp; omega
    have hv : valT t 1 = 0 := by rw [valT, h0, if_pos (by decide)]; rfl
    obtain ⟨hV, hD⟩ := valT_digits t n.natAbs 1 hv (fun i b hb => hg _ b (by rw [hi, Nat.add_comm]; exact hb))
    refine ⟨1, _, Nat.le_refl _, decDigits_ne n.natAbs, hz, by rw [hz]; exact hV, fun _ => ⟨by rw [h0]; rfl, hn⟩, fun h => by omega, hD⟩
  · have hi : Lib.itoa n = Lib.decDigits n.natAbs := by unfold Lib.itoa; rw [if_neg hn]; congr 1; omega
    have hg : ∀ k b, (Lib.itoa n)[k]? = some b → t.get! k = b := fun k b hk => by
      refine (get_list (s := t) (k := k) ?_).2
      rw [ht]
      exact hk
    have hz : t.size = 0 + (Lib.decDigits n.natAbs).length := by rw [ht]; show (Lib.itoa n).toArray.size = _; rw [hi]; simp
    obtain ⟨hV, hD⟩ := valT_digits t n.natAbs 0 rfl (fun i b hb => hg _ b (by rw [hi, Nat.zero_add]; exact hb))
    exact ⟨0, _, by omega, decDigits_ne n.natAbs, hz, by rw [hz]; exact hV, fun h => by omega, fun _ => by omega, hD⟩
theorem tok_num {s : ByteArray} {x : Wd} {r : List Wd} (hx : canB x = true) (hk : x.k = 2) (f j : Nat) (out : List Wd) (l c : Int) (hj : j ≤ s.size) (hd : s.data.toList.drop j = x.t.data.toList ++ shownL true r) (hf : s.size ≤ j + f) :
    ∃ (y : Wd) (f' : Nat) (l' c' : Int), refGo s f out l c false j = refGo s f' (out ++ [y]) l' c' false (j + x.t.size) ∧ key y = key x ∧ s.size ≤ j + x.t.size + f' := by
  have hS := sub_of_drop hj hd
  have hfit := hS.fits
  obtain ⟨hbn, ht⟩ := canB_num hx hk
  have hbn := of_decide_eq_true hbn
  obtain ⟨h, m, h1, hm, hz, hV, hneg, hnn, hD⟩ := itoa_text x.n x.t ht
  have hst : Stops s (j + x.t.size) := stops_of (r := r) (by have := drop_more hd; simpa using this)
  have hlt : j < s.size := by omega
  obtain ⟨f, rfl⟩ : ∃ f', f = f' + 1 := ⟨f - 1, by omega⟩
  have hg0 : s.get! j = x.t.get! 0 := by have := hS.same 0 (by omega); rwa [Nat.add_zero] at this
  have hfirst : (s.get! j).toNat = 45 ∧ h = 1 ∨ 48 ≤ (s.get! j).toNat ∧ (s.get! j).toNat ≤ 57 ∧ h = 0 := by
    rw [hg0]
    rcases (show h = 0 ∨ h = 1 by omega) with rfl | rfl
    · exact .inr ⟨(hD 0 hm).1, (hD 0 hm).2, rfl⟩
    · exact .inl ⟨(hneg rfl).1, rfl⟩
  have hat : atP s j = ((s.get! j).toNat, 1) := atP_one s j hlt (by omega)
  have hh : headOf s j = j + h := by unfold headOf; split <;> omega
  have hrun : runTo s true (j + h) = (j + x.t.size, 0 + m) := by
    unfold runTo
    have := run_digits s m s.size (j + h) 0 (fun k hk => by have := hD k hk; rw [← hS.same (h + k) (by omega)] at this; rw [← Nat.add_assoc] at this; exact this) (by omega) (by rw [show j + h + m = j + x.t.size by omega]; exact hst) (by omega)
    rw [show j + h + m = j + x.t.size by omega] at this
    exact this
  have hnl : numLen s j = x.t.size := by
    unfold numLen
    rw [hh, hrun]
    simp only
    rw [if_neg (by omega)]
    omega
  have hne : numEnd s j = j + x.t.size := by unfold numEnd; rw [hnl]
  have hpart : partOf s j (numEnd s j) = x.t := by rw [hne]; exact part_sub hS
  have hok : valOk x.t = true := by unfold valOk; rw [hV]; exact decide_eq_true (by omega)
  have hval : valN x.t = x.n := by
    unfold valN
    rw [if_pos hok, hV, ← hg0]
    split
    · have : h = 1 := by omega
      have := (hneg this).2
      omega
    · have : h = 0 := by omega
      have := hnn this
      omega
  have hnol : ¬ (0 < (atP s (numEnd s j)).2 ∧ letterB ((atP s (numEnd s j)).1 : Int) = true) := by
    rw [hne]
    rintro ⟨ha, hb⟩
    have hlt2 : j + x.t.size < s.size := atP_lt (by omega)
    rcases hst hlt2 with e | e <;> rw [e] at hb <;> exact absurd hb (by decide)
  refine ⟨⟨2, x.t, x.n, l, c⟩, f, l, c + (numLen s j : Int), ?_, ?_, by omega⟩
  · rw [refGo, if_pos hlt, if_neg (by rw [hat]; simp), if_neg (by rw [hat]; simp only; omega), if_neg (by rw [hat]; simp; omega), if_pos (by rw [hnl]; omega), hpart, if_pos hok, if_neg hnol, hval, hne]
  · unfold key
    rw [hk]
theorem back_go (s : ByteArray) : ∀ (ws : List Wd) (b : Bool) (f j : Nat) (out : List Wd) (l c : Int), j ≤ s.size → s.data.toList.drop j = shownL b ws → (∀ x ∈ ws, canB x = true) → s.size ≤ j + f → ∃ vs : List Wd, refGo s f out l c false j = (out ++ vs, 0, 0, 0) ∧ vs.map key = ws.map key := by
  intro ws
  induction ws with
  | nil =>
    intro b f j out l c hj hd _ hf
    refine ⟨[], ?_, rfl⟩
    have := congrArg List.length hd
    simp only [List.length_drop, shownL, List.length_nil, Array.length_toList] at this
    have e1 : s.data.size = s.size := rfl
    rw [refGo_end s f out l c false j (by omega), List.append_nil]
  | cons x r ih =>
    intro b f j out l c hj hd hcan hf
    have hx := hcan x (by simp)
    have hr : ∀ y ∈ r, canB y = true := fun y hy => hcan y (by simp [hy])
    rw [shownL] at hd
    by_cases h4 : x.k = 4
    · rw [if_pos h4] at hd
      obtain ⟨hlt, hb, hd'⟩ := drop_cons hd
      obtain ⟨f, rfl⟩ : ∃ f', f = f' + 1 := ⟨f - 1, by omega⟩
      have hat : atP s j = (10, 1) := by rw [atP_one s j hlt (by rw [hb]; decide), hb]; rfl
      obtain ⟨vs, h1, h2⟩ := ih false f (j + 1) (out ++ [⟨4, noText, 0, l, c⟩]) (l + 1) 1 (by omega) hd' hr (by omega)
      obtain ⟨e1, e2⟩ := canB_end hx h4
      refine ⟨⟨4, noText, 0, l, c⟩ :: vs, ?_, ?_⟩
      · rw [refGo, if_pos hlt, hat, if_neg (by simp), if_pos rfl, h1]
        simp
      · simp only [List.map_cons, h2]
        unfold key
        rw [h4, e1, e2]
        rfl
    · rw [if_neg h4] at hd
      have tok : ∀ (f j : Nat) (l c : Int), j ≤ s.size → s.data.toList.drop j = x.t.data.toList ++ shownL true r → s.size ≤ j + f → ∃ vs : List Wd, refGo s f out l c false j = (out ++ vs, 0, 0, 0) ∧ vs.map key = (x :: r).map key := by
        intro f j l c hj hd hf
        have hfit := (sub_of_drop hj hd).fits
        have hd2 : s.data.toList.drop (j + x.t.size) = shownL true r := by have := drop_more hd; simpa using this
        have step : ∃ (y : Wd) (f' : Nat) (l' c' : Int), refGo s f out l c false j = refGo s f' (out ++ [y]) l' c' false (j + x.t.size) ∧ key y = key x ∧ s.size ≤ j + x.t.size + f' := by
          rcases canB_kind hx with hk | hk | hk | hk
          · exact tok_name hx hk f j out l c hj hd hf
          · exact tok_num hx hk f j out l c hj hd hf
          · exact tok_sign hx hk f j out l c hj hd hf
          · exact absurd hk h4
        obtain ⟨y, f', l', c', e1, e2, e3⟩ := step
        obtain ⟨vs, h1, h2⟩ := ih true f' (j + x.t.size) (out ++ [y]) l' c' hfit hd2 hr e3
        exact ⟨y :: vs, by rw [e1, h1]; simp, by simp only [List.map_cons, h2, e2]⟩
      cases b with
      | false =>
        simp only [Bool.false_eq_true, if_false, List.nil_append] at hd
        exact tok f j l c hj hd hf
      | true =>
        simp only [if_true, List.cons_append, List.nil_append] at hd
        obtain ⟨hlt, hb, hd'⟩ := drop_cons hd
        obtain ⟨f, rfl⟩ : ∃ f', f = f' + 1 := ⟨f - 1, by omega⟩
        have hat : atP s j = (32, 1) := by rw [atP_one s j hlt (by rw [hb]; decide), hb]; rfl
        obtain ⟨vs, h1, h2⟩ := tok f (j + 1) l (c + 1) (by omega) hd' (by omega)
        refine ⟨vs, ?_, h2⟩
        rw [refGo, if_pos hlt, hat, if_neg (by simp), if_neg (by simp), if_pos (by simp)]
        exact h1
/-- Words that are shown are read: the same, but for their places. -/
theorem shown_read (ws : List Wd) (h : showErr ws = 0) : readErr (showText ws) = 0 ∧ (readWords (showText ws)).map key = ws.map key := by
  unfold showErr at h
  cases hg : showGo ws false [] with
  | none => rw [hg] at h; cases h
  | some l =>
    obtain ⟨h1, h2⟩ := showGo_eq ws false [] l hg
    have ht : showText ws = ⟨l.toArray⟩ := by unfold showText; rw [hg]
    rw [ht]
    simp only [List.nil_append] at h1
    obtain ⟨vs, e1, e2⟩ := back_go ⟨l.toArray⟩ ws false (ByteArray.size ⟨l.toArray⟩) 0 [] 1 1 (Nat.zero_le _) (by rw [List.drop_zero, ← h1]) h2 (by omega)
    have e := read_eq ⟨l.toArray⟩
    unfold refRead at e
    rw [e1] at e
    simp only [Prod.mk.injEq, List.nil_append] at e
    exact ⟨e.2.2.2.symm, by rw [← e.1]; exact e2⟩
end Go.Proofs.YtfcnclnebnmdiaaDoor
/-
  The text of a right machine tells that machine (plainly). No condition beyond those that each theorem states.
-/
namespace Go.Proofs.YtfcnclnebnmdiaaDoor

def nmW (t : ByteArray) : Wd := ⟨1, t, 0, 0, 0⟩
def nuW (x : Int) : Wd := ⟨2, numS x, x, 0, 0⟩
def enW : Wd := ⟨4, ⟨#[]⟩, 0, 0, 0⟩
/-- The words of a machine's text, but for the end. -/
def Mm.wordsL (m : Mm) : List Wd := nmW kMachine :: nuW m.regs :: nmW kArgs :: (m.args.map nuW ++ nmW kRet :: nuW m.ret :: nmW kSaved :: m.saved.map nuW)
theorem sh_name (t : ByteArray) (r : List Wd) : shownL true (nmW t :: r) = 32 :: (t.data.toList ++ shownL true r) := by
  rw [shownL, if_neg (by show ¬ (1 : Int) = 4; decide)]
  rfl
theorem sh_num (x : Int) (r : List Wd) : shownL true (nuW x :: r) = 32 :: ((numS x).data.toList ++ shownL true r) := by
  rw [shownL, if_neg (by show ¬ (2 : Int) = 4; decide)]
  rfl
theorem tail_cons (x : List UInt8) (r : List (List UInt8)) : Lib.joinTail [32] (x :: r) = 32 :: (x ++ Lib.joinTail [32] r) := by simp [Lib.joinTail]
theorem sh_nums (l : List Int) (r : List Wd) : shownL true (l.map nuW ++ r) = Lib.joinTail [32] ((l.map numS).map (·.data.toList)) ++ shownL true r := by
  induction l with
  | nil => simp [Lib.joinTail]
  | cons x l ih =>
    rw [List.map_cons, List.map_cons, List.map_cons, List.cons_append, sh_num, ih, tail_cons]
    simp
theorem part_text (name : ByteArray) (l : List Int) : (joinS (partS name l)).data.toList = name.data.toList ++ Lib.joinTail [32] ((l.map numS).map (·.data.toList)) := by
  show (Lib.join ((partS name l).map (·.data.toList)) [32]).toArray.toList = _
  rw [partS, List.map_cons, Lib.join_cons]
theorem text_shown (m : Mm) : m.textS.data.toList = shownL false (m.wordsL ++ [enW]) := by
  have h1 : m.textS.data.toList = (joinS m.partsL).data.toList ++ [10] := by
    unfold Mm.textS
    rw [ByteArray.data_append, Array.toList_append]
  have h2 : (joinS m.partsL).data.toList = Lib.join (m.partsL.map (·.data.toList)) [32] := rfl
  have h3 : shownL true ([enW] : List Wd) = [10] := rfl
  rw [h1, h2]
  unfold Mm.partsL Mm.wordsL
  simp only [List.map_cons, List.map_nil, Lib.join_cons, part_text, tail_cons]
  simp only [List.cons_append, List.append_assoc]
  rw [shownL, if_neg (by decide)]
  simp only [sh_num, sh_name, sh_nums, h3]
  simp [Lib.joinTail, nmW, kMachine]
theorem can_name (t : ByteArray) (h : nameB t = true) : canB (nmW t) = true := by
  show (if (1 : Int) = 1 then decide ((0 : Int) = 0) && nameB t else _) = true
  rw [if_pos rfl, h]
  rfl
theorem can_num (x : Int) (h : 0 ≤ x ∧ x < 100) : canB (nuW x) = true := by
  have e : numS x = ⟨(Lib.itoa x).toArray⟩ := by
    unfold numS Lib.itoa
    rw [if_neg (by omega)]
  show (if (2 : Int) = 1 then _ else if (2 : Int) = 2 then boundB x && decide (numS x = ⟨(Lib.itoa x).toArray⟩) else _) = true
  rw [if_neg (by decide), if_pos rfl, decide_eq_true e, Bool.and_true]
  unfold boundB
  exact decide_eq_true (by omega)
theorem names_ok : nameB kMachine = true ∧ nameB kArgs = true ∧ nameB kRet = true ∧ nameB kSaved = true := by decide
theorem words_can (m : Mm) (h : m.rightB = true) : ∀ x ∈ m.wordsL ++ [enW], canB x = true := by
  obtain ⟨_, _, b3, b4, b5, b6⟩ := right_small h
  obtain ⟨n1, n2, n3, n4⟩ := names_ok
  intro x hx
  simp only [Mm.wordsL, List.mem_append, List.mem_cons, List.mem_map, List.not_mem_nil, or_false, List.cons_append] at hx
  rcases hx with rfl | rfl | rfl | (⟨y, hy, rfl⟩ | rfl | rfl | rfl | ⟨y, hy, rfl⟩) | rfl
  · exact can_name _ n1
  · exact can_num _ b3
  · exact can_name _ n2
  · exact can_num _ (b5 y hy)
  · exact can_name _ n3
  · exact can_num _ b4
  · exact can_name _ n4
  · exact can_num _ (b6 y hy)
  · rfl
theorem read_shown (s : ByteArray) (ws : List Wd) (hs : s.data.toList = shownL false ws) (hc : ∀ x ∈ ws, canB x = true) : readErr s = 0 ∧ (readWords s).map key = ws.map key := by
  obtain ⟨vs, e1, e2⟩ := back_go s ws false s.size 0 [] 1 1 (Nat.zero_le _) (by rw [List.drop_zero, ← hs]) hc (by omega)
  have e := read_eq s
  unfold refRead at e
  rw [e1] at e
  simp only [Prod.mk.injEq, List.nil_append] at e
  exact ⟨e.2.2.2.symm, by rw [← e.1]; exact e2⟩
/-- Words without ends, and one end: it goes. -/
theorem prune_one : ∀ (ws out : List Wd), (∀ x ∈ ws, endK x = false) → ws.foldl stepC (none, out) = (none, out ++ ws) := by
  intro ws
  induction ws with
  | nil => intro out _; simp
  | cons x r ih =>
    intro out h
    have hx := h x (by simp)
    rw [List.foldl_cons]
    have e : stepC (none, out) x = (none, out ++ [x]) := by
      unfold stepC
      rw [hx]
      by_cases ho : out = []
      · simp [ho]
      · simp [ho]
    rw [e, ih _ (fun y hy => h y (by simp [hy]))]
    simp
theorem pruned_end (ws : List Wd) (e : Wd) (h : ∀ x ∈ ws, endK x = false) (he : endK e = true) : pruned (ws ++ [e]) = ws := by
  unfold pruned
  rw [List.foldl_append, prune_one ws [] h]
  simp [stepC, he]
theorem key_end {x y : Wd} (h : key x = key y) : endK x = endK y := by
  have : x.k = y.k := congrArg Prod.fst h
  unfold endK
  rw [this]
theorem words_noend (m : Mm) : ∀ x ∈ m.wordsL, endK x = false := by
  intro x hx
  simp only [Mm.wordsL, List.mem_append, List.mem_cons, List.mem_map] at hx
  rcases hx with rfl | rfl | rfl | ⟨y, _, rfl⟩ | rfl | rfl | rfl | ⟨y, _, rfl⟩ <;> rfl
theorem pruned_keys (vs ws : List Wd) (hw : ∀ x ∈ ws, endK x = false) (h2 : vs.map key = (ws ++ [enW]).map key) : (pruned vs).map key = ws.map key := by
  rw [List.map_append] at h2
  obtain ⟨us, rs, rfl, hu, hr⟩ := List.map_eq_append_iff.1 h2
  obtain ⟨e, rfl, he⟩ : ∃ e, rs = [e] ∧ key e = key enW := by
    cases rs with
    | nil => simp at hr
    | cons e t =>
      simp only [List.map_cons, List.map_nil, List.cons.injEq, List.map_eq_nil_iff] at hr
      exact ⟨e, by rw [hr.2], hr.1⟩
  have hen : endK e = true := (key_end he).trans rfl
  have hus : ∀ x ∈ us, endK x = false := by
    intro x hx
    have hm : key x ∈ ws.map key := by rw [← hu]; exact List.mem_map_of_mem hx
    obtain ⟨y, hy, hk⟩ := List.mem_map.1 hm
    rw [← key_end hk]
    exact hw y hy
  rw [pruned_end us e hus hen]
  exact hu
theorem start_text (m : Mm) (h : m.rightB = true) : (startC m.textS).fault = 0 ∧ (startC m.textS).left.map key = m.wordsL.map key := by
  obtain ⟨h1, h2⟩ := read_shown m.textS _ (text_shown m) (words_can m h)
  unfold startC
  generalize readWords m.textS = vs at *
  generalize readErr m.textS = ee at *
  exact ⟨h1, pruned_keys vs m.wordsL (words_noend m) h2⟩

theorem step_keyed {c : Cu} {s : ByteArray} {ks : List (Int × ByteArray × Int)} (h : c.left.map key = (1, s, 0) :: ks) (hf : c.fault = 0) : (c.keyed s).left.map key = ks ∧ (c.keyed s).fault = 0 := by
  obtain ⟨x, r, hl, hx, hr⟩ := List.map_eq_cons_iff.1 h
  have hk : x.k = 1 := congrArg Prod.fst hx
  have ht : x.t = s := congrArg (fun p => p.2.1) hx
  have e : c.keyB s = true := by
    unfold Cu.keyB nameP
    rw [hl]
    simp [hk, ht]
  have e2 : c.keyed s = c.pass := by
    unfold Cu.keyed
    rw [if_pos e]
    unfold Cu.key Cu.over
    rw [if_pos e]
  rw [e2]
  unfold Cu.pass
  rw [hl]
  exact ⟨hr, hf⟩
theorem step_num {c : Cu} {t : ByteArray} {x : Int} {ks : List (Int × ByteArray × Int)} (h : c.left.map key = (2, t, x) :: ks) (hf : c.fault = 0) (hx0 : 0 ≤ x ∧ x ≤ 64) : (c.num 0 64).left.map key = ks ∧ (c.num 0 64).fault = 0 ∧ c.numN 0 64 = x ∧ c.goes = true := by
  obtain ⟨y, r, hl, hx, hr⟩ := List.map_eq_cons_iff.1 h
  have hk : y.k = 2 := congrArg Prod.fst hx
  have hn : y.n = x := congrArg (fun p => p.2.2) hx
  have e1 : numP c.left.head? = (x, true) := by
    unfold numP
    rw [hl]
    simp [hk, hn]
  have e2 : c.numFits 0 64 = true := by
    unfold Cu.numFits
    rw [e1]
    exact decide_eq_true hx0
  have e3 : c.num 0 64 = c.pass := by
    unfold Cu.num
    rw [e1, e2]
    rfl
  refine ⟨?_, ?_, ?_, ?_⟩
  · rw [e3]
    unfold Cu.pass
    rw [hl]
    exact hr
  · rw [e3]; exact hf
  · unfold Cu.numN
    rw [e1, e2]
    rfl
  · unfold Cu.goes Cu.ends Cu.more Cu.nameT nameP endP endK
    rw [hl]
    simp [hk]
theorem step_nums : ∀ (l : List Int) (c : Cu) (out : List Int) (ks : List (Int × ByteArray × Int)), c.Ok → c.left.map key = l.map (fun x => key (nuW x)) ++ ks → c.fault = 0 → (∀ x ∈ l, 0 ≤ x ∧ x ≤ 64) → (∀ d : Cu, d.left.map key = ks → d.goes = false) → (c.nums out).1.left.map key = ks ∧ (c.nums out).1.fault = 0 ∧ (c.nums out).2 = out ++ l := by
  intro l
  induction l with
  | nil =>
    intro c out ks _ h hf _ hs
    rw [nums_stop (hs c h)]
    exact ⟨h, hf, by simp⟩
  | cons x l ih =>
    intro c out ks hok h hf hl hs
    obtain ⟨h1, h2, h3, h4⟩ := step_num (t := numS x) (x := x) h hf (hl x (by simp))
    rw [nums_step hok h4, h3]
    obtain ⟨a, b, d⟩ := ih (c.num 0 64) (out ++ [x]) ks (hok.num 0 64) h1 h2 (fun y hy => hl y (by simp [hy])) hs
    exact ⟨a, b, by rw [d]; simp⟩
theorem stop_name {s : ByteArray} {ks : List (Int × ByteArray × Int)} (hs : s ≠ ⟨#[]⟩) (d : Cu) (h : d.left.map key = (1, s, 0) :: ks) : d.goes = false := by
  obtain ⟨x, r, hl, hx, _⟩ := List.map_eq_cons_iff.1 h
  have hk : x.k = 1 := congrArg Prod.fst hx
  have ht : x.t = s := congrArg (fun p => p.2.1) hx
  unfold Cu.goes Cu.nameT nameP
  rw [hl]
  simp [hk, ht, hs]
theorem stop_nil (d : Cu) (h : d.left.map key = []) : d.goes = false := by
  have : d.left = [] := List.map_eq_nil_iff.1 h
  unfold Cu.goes Cu.ends Cu.more
  rw [this]
  simp
/-- What is printed of a right machine tells it. -/
theorem text_told (m : Mm) (h : m.rightB = true) : toldE (startC m.textS) = 0 ∧ toldM (startC m.textS) = m := by
  obtain ⟨f0, l0⟩ := start_text m h
  have ok := start_ok m.textS
  have hi := (right_iff m).1 h
  have sm := hi.small
  have reg : ∀ x, m.regB x = true → 0 ≤ x ∧ x ≤ 64 := fun x hx => by
    have := reg_small sm hx
    omega
  have ha : ∀ x ∈ m.args, 0 ≤ x ∧ x ≤ 64 := fun x hx => reg x (List.all_eq_true.1 hi.args x hx)
  have hv : ∀ x ∈ m.saved, 0 ≤ x ∧ x ≤ 64 := fun x hx => reg x (List.all_eq_true.1 hi.saved x hx)
  have hr0 : 0 ≤ m.regs ∧ m.regs ≤ 64 := by
    simp only [Mm.smallB, Bool.and_eq_true, decide_eq_true_eq] at sm
    omega
  generalize startC m.textS = c at *
  unfold Mm.wordsL at l0
  simp only [List.map_cons, List.map_append, List.map_map] at l0
  obtain ⟨l1, f1⟩ := step_keyed (s := keyMa) (c := c) l0 f0
  obtain ⟨l2, f2, n2, _⟩ := step_num (c := mc1 c) l1 f1 hr0
  obtain ⟨l3, f3⟩ := step_keyed (s := keyAr) (c := mc2 c) l2 f2
  obtain ⟨l4, f4, n4⟩ := step_nums m.args (mc3 c) [] _ (mc3_ok ok) l3 f3 ha (stop_name (s := keyRe) (by decide))
  obtain ⟨l5, f5⟩ := step_keyed (s := keyRe) (c := mc4 c) l4 f4
  obtain ⟨l6, f6, n6, _⟩ := step_num (c := mc5 c) l5 f5 (reg _ hi.ret)
  obtain ⟨l7, f7⟩ := step_keyed (s := keySa) (c := mc6 c) l6 f6
  obtain ⟨l8, f8, n8⟩ := step_nums m.saved (mc7 c) [] [] (mc7_ok ok) (by rw [List.append_nil]; exact l7) f7 hv stop_nil
  have hg : gotM c = m := by
    unfold gotM
    rw [n2, n4, n6, n8]
    rfl
  have h8 : (mc8 c).left = [] := List.map_eq_nil_iff.1 l8
  have h9 : (mc9 c).eErr = 0 := by
    have e : mc9 c = mc8 c := by
      unfold mc9 Cu.end_ Cu.more endP
      rw [h8]
      simp
    rw [e]
    unfold Cu.eErr
    rw [h8]
    have : (mc8 c).fault = 0 := f8
    simp [this]
  obtain ⟨a, b⟩ := toldE_right h9 (by rw [hg]; exact h)
  exact ⟨a, b.trans hg⟩
end Go.Proofs.YtfcnclnebnmdiaaDoor
/-
  Package mach's IsSaved. No condition beyond those that each theorem states.
-/
namespace Go.Proofs.YtfcnclnebnmdiaaDoor
open Go.RowKit

set_option maxHeartbeats 1000000 in
set_option maxRecDepth 100000 in
theorem indexI_any (l : List Int) (v : Int) (a : Option Addr) (c : Nat) (w : World) (hl : l.length ≤ 140737488355328) (hI : IntsW w a l) :
    Calls Tryd.prog 36 #[.slice a l.length c, .int .i64 v] w fun e w' => (∃ n : Int, e = .returned (.int .i64 n) ∧ decide (0 ≤ n) = l.contains v) ∧ w = w' := by
  have HI := Lib.hid hI
  clear hI
  go_enter Tryd.func36, Tryd.ntmps36
  go_wp2
  go_loopw [8] (fun k wr => ∃ j : Nat, k = .int .i64 j ∧ j ≤ l.length ∧ Hid (l.contains v = (l.drop j).contains v) ∧ w = wr) (fun k _ => l.length - (intOf k).toNat)
  case atStart => exact ⟨0, rfl, Nat.zero_le _, rfl, rfl⟩
  case round =>
    obtain ⟨j, rfl, hj, HA, rfl⟩ := hrel
    by_cases hlt : j < l.length
    · have hlt' : (j : Int) < l.length := by omega
      have hj0 : (0 : Int) ≤ j := by omega
      obtain ⟨x, hx⟩ : ∃ x, l[j]? = some x := ⟨_, List.getElem?_eq_getElem hlt⟩
      obtain ⟨g, o, rfl, hg, h0⟩ := HI.out j x hx
      have HD : Hid (l.contains v = (v == x || (l.drop (j + 1)).contains v)) := by
        show _ = _
        rw [HA.out, List.drop_eq_getElem_cons hlt, (List.getElem?_eq_some_iff.1 hx).2]
        rw [List.contains_cons]
      clear hx HA
      cases hq : v == x
      · rw [hq] at HD
        go_wp2
        go_roundw
        case rel => exact ⟨j + 1, by go_num, by omega, by have := HD.out; simpa [Hid] using this, trivial⟩
        case measure => simp [intOf]; omega
      · rw [hq] at HD
        go_wp2
        go_ret
        exact ⟨⟨j, rfl, by rw [HD.out]; simp⟩, rfl⟩
    · have e : j = l.length := by omega
      subst e
      go_wp2
      go_ret
      exact ⟨⟨-1, rfl, by rw [HA.out]; simp⟩, rfl⟩
set_option maxRecDepth 100000 in
theorem containsI_any (l : List Int) (v : Int) (a : Option Addr) (c : Nat) (w : World) (hl : l.length ≤ 140737488355328) (hI : IntsW w a l) :
    Calls Tryd.prog 23 #[.slice a l.length c, .int .i64 v] w fun e w' => e = .returned (.bool (l.contains v)) ∧ w = w' := by
  go_enter Tryd.func23, Tryd.ntmps23
  go_wp2_with fail
  refine (indexI_any l v a c w hl hI).mono ?_
  rintro e w1 ⟨⟨n, rfl, hn⟩, rfl⟩
  have HN := Lib.hid hn
  clear hn
  go_wp2
  go_ret
  exact ⟨by rw [← HN.out]; rfl, rfl⟩
/-- What IsSaved tells at this commit. -/
def Mm.isSavedB (m : Mm) (r : Int) : Bool := m.regB r && m.saved.contains r
theorem saved_of {m : Mm} {r : Int} (h : m.rightB = true) (hr : m.saved.contains r = true) : m.isSavedB r = true := by
  unfold Mm.isSavedB
  rw [hr, Bool.and_true]
  exact List.all_eq_true.1 ((right_iff m).1 h).saved r (by simpa using hr)
theorem saved_not {m : Mm} {r : Int} (hr : m.saved.contains r = false) : m.isSavedB r = false := by
  unfold Mm.isSavedB
  rw [hr, Bool.and_false]
set_option maxHeartbeats 2000000 in
set_option maxRecDepth 100000 in
theorem isSaved_any (m : Mm) (aa sa : Option Addr) (ac sc : Nat) (r : Int) (w : World) (_hl : m.args.length ≤ 140737488355328) (hs : m.saved.length ≤ 140737488355328) (hM : MaW w m aa sa) :
    Calls Tryd.prog 11 #[machV m aa ac sa sc, .int .i64 r] w fun e w' => e = .returned (.bool (m.isSavedB r)) ∧ Below w.heap.size w w' := by
  have HB0 : Hid (Below w.heap.size w (w.alloc (.cells (maxC m aa ac sa sc) 24))) := (Below.refl _ w).alloc (Nat.le_refl _) _
  have HX0 : Hid (Blk (w.alloc (.cells (maxC m aa ac sa sc) 24)) w.heap.size 24 (maxC m aa ac sa sc)) := Blk.new w _ _
  have HB1 : Hid (Below w.heap.size w ((w.alloc (.cells (maxC m aa ac sa sc) 24)).alloc (.cells #[.int .i64 r] 3))) := HB0.out.alloc HB0.out.size _
  have HX1 : Hid (Blk ((w.alloc (.cells (maxC m aa ac sa sc) 24)).alloc (.cells #[.int .i64 r] 3)) w.heap.size 24 (maxC m aa ac sa sc)) := HX0.out.alloc _
  have HR : Hid (Calls Tryd.prog 15 #[machV m aa ac sa sc, .slice (some ⟨(w.alloc (.cells (maxC m aa ac sa sc) 24)).heap.size, 0, none⟩) 1 1] ((w.alloc (.cells (maxC m aa ac sa sc) 24)).alloc (.cells #[.int .i64 r] 3)) fun e w' => e = .returned (.bool (m.regB r)) ∧ Below ((w.alloc (.cells (maxC m aa ac sa sc) 24)).alloc (.cells #[.int .i64 r] 3)).heap.size ((w.alloc (.cells (maxC m aa ac sa sc) 24)).alloc (.cells #[.int .i64 r] 3)) w') :=
    (areRegs_any m aa sa ac sc [r] _ 1 _ (by simp) (one_reg _ r)).mono fun e w' ⟨h1, h2⟩ => ⟨by rw [h1]; simp, h2⟩
  have hsz1 : (w.alloc (.cells (maxC m aa ac sa sc) 24)).heap.size = w.heap.size + 1 := by simp
  rw [hsz1] at HR
  clear hsz1
  have HW := Lib.hid hM.saved
  have HM : Hid (maxC m aa ac sa sc = _) := maxC.eq_1 m aa ac sa sc
  have HE : Hid (m.isSavedB r = (m.regB r && m.saved.contains r)) := rfl
  generalize m.isSavedB r = res at *
  unfold machV at HR ⊢
  clear hM HB0 HX0
  rw [HM.out] at HB1 HX1 HR ⊢
  generalize m.regB r = b at *
  go_enter Tryd.func11, Tryd.ntmps11
  go_wp2_with fail
  refine HR.out.mono ?_
  rintro e w1 ⟨rfl, hb⟩
  obtain ⟨c0, c1, c2, c3⟩ := boxMa (m := m) (aa := aa) (sa := sa) (ac := ac) (sc := sc) (HX1.out.below hb HX1.out.lt)
  have HB2 : Hid (Below w.heap.size w w1) := HB1.out.trans (hb.mono HB1.out.size)
  have HC := Lib.hid (containsI_any m.saved r sa sc w1 hs (HW.out.below HB2.out))
  clear hb HR HX1 HB1
  obtain ⟨cb, hcb⟩ : ∃ cb, m.saved.contains r = cb := ⟨_, rfl⟩
  rw [hcb] at HC HE
  clear hcb
  cases b
  · go_wp2
    go_ret
    exact ⟨by rw [HE.out]; rfl, HB2.out⟩
  · go_wp2_with fail
    refine HC.out.mono ?_
    rintro e w2 ⟨rfl, rfl⟩
    go_wp2
    go_ret
    exact ⟨by rw [HE.out, Bool.true_and]; rfl, HB2.out⟩
end Go.Proofs.YtfcnclnebnmdiaaDoor
/-
  The chapter's example of a machine is told as it says. No condition beyond those that each theorem states.
-/
namespace Go.Proofs.YtfcnclnebnmdiaaDoor
open Go.RowKit

theorem below_drewN {B : Nat} {a w : World} (h : Below B a w) (n : Nat) : Below B a (w.drewN n) := ⟨h.os, h.tape, h.output, h.size, h.block⟩
set_option maxHeartbeats 1000000 in
set_option maxRecDepth 100000 in
theorem sameInts_any (l m : List Int) (a a' : Option Addr) (c c' : Nat) (w : World) (hl : l.length ≤ 1000000000) (_hm : m.length ≤ 1000000000) (hI : IntsW w a l) (hJ : IntsW w a' m) : Calls Tryd.prog 12 #[.slice a l.length c, .slice a' m.length c'] w fun e w' => e = .returned (.bool (decide (l = m))) ∧ Below w.heap.size w w' := by
  have HI := Lib.hid hI
  have HJ := Lib.hid hJ
  clear hI hJ
  have HE : Hid (decide (l = m) = decide (l = m)) := rfl
  generalize hb : decide (l = m) = b at HE ⊢
  have HB := Lib.hid hb
  clear hb HE
  go_enter Tryd.func12, Tryd.ntmps12
  by_cases h : l.length = m.length
  case neg =>
    have h' : ((l.length : Int) == m.length) = false := by rw [beq_eq_false_iff_ne]; omega
    have h'' : ((l.length : Int) != m.length) = true := by simp [bne, h']
    have hb : b = false := by
      rw [← HB.out, decide_eq_false_iff_not]
      intro e; exact h (by rw [e])
    subst hb
    go_wp2
    go_ret
    exact ⟨rfl, Below.refl _ _⟩
  have h' : ((l.length : Int) == m.length) = true := by rw [beq_iff_eq]; omega
  have h'' : ((l.length : Int) != m.length) = false := by simp [bne, h']
  go_wp2
  go_loopw [5] (fun k wr => ∃ j : Nat, k = .int .i64 j ∧ j ≤ l.length ∧ Hid (decide (l.drop j = m.drop j) = b) ∧ Below w.heap.size w wr) (fun k _ => l.length - (intOf k).toNat)
  case atStart => exact ⟨0, rfl, Nat.zero_le _, HB.out, Below.refl _ _⟩
  case round =>
    obtain ⟨j, rfl, hj, HA, hW⟩ := hrel
    have HW := Lib.hid hW
    clear hW
    by_cases hlt : j < l.length
    · have hlt' : (j : Int) < l.length := by omega
      have hlm : (j : Int) < m.length := by omega
      have hj0 : (0 : Int) ≤ j := by omega
      obtain ⟨x, hx⟩ : ∃ x, l[j]? = some x := ⟨_, List.getElem?_eq_getElem hlt⟩
      obtain ⟨y, hy⟩ : ∃ y, m[j]? = some y := ⟨_, List.getElem?_eq_getElem (by omega)⟩
      obtain ⟨g, o, rfl, hg, h0⟩ := (HI.out.below HW.out) j x hx
      obtain ⟨g', o', rfl, hg', h0'⟩ := (HJ.out.below HW.out) j y hy
      have HD : Hid (decide (x = y ∧ l.drop (j + 1) = m.drop (j + 1)) = b) := by
        show _ = _
        rw [← HA.out, List.drop_eq_getElem_cons hlt, List.drop_eq_getElem_cons (show j < m.length by omega), (List.getElem?_eq_some_iff.1 hx).2, (List.getElem?_eq_some_iff.1 hy).2]
        simp
      clear hx hy HA
      by_cases he : x = y
      · have q : (x == y) = true := by simp [he]
        have q' : (x != y) = false := by simp [he]
        go_wp2_with fail
        go_quiet (fail)
        go_wp2
        go_roundw
        case rel => exact ⟨j + 1, by go_num, by omega, by have := HD.out; simpa [Hid, he] using this, below_drewN HW.out _⟩
        case measure => simp [intOf]; omega
      · have q : (x == y) = false := by simp [he]
        have q' : (x != y) = true := by simp [he]
        have hb : b = false := by rw [← HD.out]; simp [he]
        go_wp2_with fail
        go_quiet (fail)
        go_wp2
        go_ret
        exact ⟨by rw [hb]; rfl, below_drewN HW.out _⟩
    · have e : j = l.length := by omega
      subst e
      have hlt' : ¬ (l.length : Int) < l.length := by omega
      go_wp2
      go_ret
      refine ⟨?_, HW.out⟩
      rw [← HA.out, List.drop_length, h, List.drop_length]
      rfl
end Go.Proofs.YtfcnclnebnmdiaaDoor
namespace Go.Proofs.YtfcnclnebnmdiaaDoor
open Go.RowKit

def exM : ByteArray := ⟨#[109, 97, 99, 104, 105, 110, 101, 32, 52, 32, 97, 114, 103, 115, 32, 48, 32, 49, 32, 114, 101, 116, 32, 48, 32, 115, 97, 118, 101, 100, 32, 50, 32, 51]⟩
theorem exM_tells : toldE (startC exM) = 0 ∧ (toldM (startC exM)).regs = 4 ∧ (toldM (startC exM)).args = [0, 1] ∧ (toldM (startC exM)).ret = 0 ∧ (toldM (startC exM)).saved = [2, 3] := by decide +kernel
def exK : Mm := ⟨4, [0, 1], 0, [2, 3]⟩
theorem exM_is : toldM (startC exM) = exK := by
  obtain ⟨_, h1, h2, h3, h4⟩ := exM_tells
  cases hq : toldM (startC exM)
  rw [hq] at h1 h2 h3 h4
  simp only at h1 h2 h3 h4
  subst h1 h2 h3 h4
  rfl
theorem exK_right : exK.rightB = true ∧ exK.lostL = [0, 1] ∧ exK.isSavedB 3 = true ∧ exK.keepsL.length = 2 := by decide +kernel
set_option maxHeartbeats 4000000 in
set_option maxRecDepth 100000 in
theorem awakeM_any (w : World) : Calls Tryd.prog 4 #[] w fun e w' => e = .returned (.bool true) ∧ Below w.heap.size w w' := by
  have P : Hid (Calls Tryd.prog 7 #[.string exM] w fun e w' => ∃ aa ac sa sc, e = .returned (.tuple #[machV exK aa ac sa sc, .int .i64 0]) ∧ MaW w' exK aa sa ∧ Below w.heap.size w w') := by
    refine (parseM_any exM w (by decide)).mono ?_
    rintro e w' ⟨aa, ac, sa, sc, h1, h2, h3⟩
    rw [exM_is, exM_tells.1] at h1
    rw [exM_is] at h2
    exact ⟨aa, ac, sa, sc, h1, ⟨IntsW.own h2.1, IntsW.own h2.2⟩, h3⟩
  have MV : ∀ aa ac sa sc, machV exK aa ac sa sc = .agg #[.int .i64 4, .slice aa 2 ac, .int .i64 0, .slice sa 2 sc] := fun _ _ _ _ => rfl
  obtain ⟨k1, k2, k3, k4⟩ := exK_right
  have R : Hid (∀ aa ac sa sc w1, MaW w1 exK aa sa → Calls Tryd.prog 6 #[.agg #[.int .i64 4, .slice aa 2 ac, .int .i64 0, .slice sa 2 sc]] w1 fun e w' => e = .returned (.bool true) ∧ Below w1.heap.size w1 w') := fun aa ac sa sc w1 h => by
    have := rightM_any exK aa sa ac sc w1 (by decide) (by decide) h
    rw [k1] at this
    exact this
  have L : Hid (∀ aa ac sa sc w1, MaW w1 exK aa sa → Calls Tryd.prog 9 #[.agg #[.int .i64 4, .slice aa 2 ac, .int .i64 0, .slice sa 2 sc]] w1 fun e w' => ∃ a c, e = .returned (.slice a 2 c) ∧ IntsW w' a [0, 1] ∧ Below w1.heap.size w1 w') := fun aa ac sa sc w1 h => by
    refine (lost_any exK aa sa ac sc w1 (by decide) (by decide) h).mono ?_
    rintro e w' ⟨a, c, h1, h2, h3⟩
    rw [k2] at h1 h2
    exact ⟨a, c, h1, IntsW.own h2, h3⟩
  have I : Hid (∀ aa ac sa sc w1, MaW w1 exK aa sa → Calls Tryd.prog 11 #[.agg #[.int .i64 4, .slice aa 2 ac, .int .i64 0, .slice sa 2 sc], .int .i64 3] w1 fun e w' => e = .returned (.bool true) ∧ Below w1.heap.size w1 w') := fun aa ac sa sc w1 h => by
    have := isSaved_any exK aa sa ac sc 3 w1 (by decide) (by decide) h
    rw [k3] at this
    exact this
  have K : Hid (∀ aa ac sa sc w1, MaW w1 exK aa sa → Calls Tryd.prog 10 #[.agg #[.int .i64 4, .slice aa 2 ac, .int .i64 0, .slice sa 2 sc]] w1 fun e w' => ∃ a c, e = .returned (.slice a 2 c) ∧ Below w1.heap.size w1 w') := fun aa ac sa sc w1 h => by
    refine (keeps_any exK aa sa ac sc w1 (by decide) (by decide) h).mono ?_
    rintro e w' ⟨a, c, h1, h2, h3⟩
    rw [k4] at h1
    exact ⟨a, c, h1, h3⟩
  have S : Hid (∀ a c W w1, Below (World.alloc W (.cells #[.int .i64 0, .int .i64 1] 3)).heap.size (World.alloc W (.cells #[.int .i64 0, .int .i64 1] 3)) w1 → IntsW w1 a [0, 1] → Calls Tryd.prog 12 #[.slice a 2 c, .slice (some ⟨W.heap.size, 0, none⟩) 2 2] w1 fun e w' => e = .returned (.bool true) ∧ Below w1.heap.size w1 w') := fun a c W w1 hb h => by
    have hI : IntsW (W.alloc (.cells #[.int .i64 0, .int .i64 1] 3)) (some ⟨W.heap.size, 0, none⟩) [0, 1] := IntsW.row (Blk.new W _ _) (fun k x hx => by
      rcases k with _ | _ | k
      · simpa using hx
      · simpa using hx
      · simp at hx)
    exact sameInts_any [0, 1] [0, 1] a _ c 2 w1 (by simp) (by simp) h (hI.below hb)
  simp only [MV] at P
  unfold exM at P
  clear MV k1 k2 k3 k4
  go_enter Tryd.func4, Tryd.ntmps4
  go_wp2_with fail
  refine P.out.mono ?_
  rintro e w1 ⟨aa, ac, sa, sc, rfl, hm, hb1⟩
  have B1 := Lib.hid hb1
  have hb2 : Below w1.heap.size w1 (w1.alloc (.cells #[.int .i64 4, .slice aa 2 ac, .int .i64 0, .slice sa 2 sc] 24)) := (Below.refl _ _).alloc (Nat.le_refl _) _
  have M2 := Lib.hid (hm.below hb2)
  have B2 : Hid (Below w.heap.size w (w1.alloc (.cells #[.int .i64 4, .slice aa 2 ac, .int .i64 0, .slice sa 2 sc] 24))) := B1.out.trans (hb2.mono B1.out.size)
  have X2 : Hid (Blk (w1.alloc (.cells #[.int .i64 4, .slice aa 2 ac, .int .i64 0, .slice sa 2 sc] 24)) w1.heap.size 24 #[.int .i64 4, .slice aa 2 ac, .int .i64 0, .slice sa 2 sc]) := Blk.new w1 _ _
  clear hm hb1 hb2 B1 P
  go_wp2_with fail
  refine (R.out aa ac sa sc _ M2.out).mono ?_
  rintro e w3 ⟨rfl, hb3⟩
  have B3 : Hid (Below w.heap.size w w3) := B2.out.trans (hb3.mono B2.out.size)
  have M3 := Lib.hid (M2.out.below hb3)
  have X3 : Hid (Blk w3 w1.heap.size 24 #[.int .i64 4, .slice aa 2 ac, .int .i64 0, .slice sa 2 sc]) := X2.out.below hb3 X2.out.lt
  have c0 := X3.out.cell 0
  have c1 := X3.out.cell 1
  have c2 := X3.out.cell 2
  have c3 := X3.out.cell 3
  clear hb3 B2 M2 X2 R
  go_wp2_with fail
  refine (L.out aa ac sa sc _ M3.out).mono ?_
  rintro e w4 ⟨la, lc, rfl, hli, hb4⟩
  have B4 : Hid (Below w.heap.size w w4) := B3.out.trans (hb4.mono B3.out.size)
  have M4 := Lib.hid (M3.out.below hb4)
  have X4 : Hid (Blk w4 w1.heap.size 24 #[.int .i64 4, .slice aa 2 ac, .int .i64 0, .slice sa 2 sc]) := X3.out.below hb4 X3.out.lt
  have hb5 : Below w4.heap.size w4 (w4.alloc (.cells #[.int .i64 0, .int .i64 1] 3)) := (Below.refl _ _).alloc (Nat.le_refl _) _
  have SS := Lib.hid (S.out la lc w4 _ (Below.refl _ _) (hli.below hb5))
  clear hb4 B3 M3 X3 L hli c0 c1 c2 c3
  go_wp2_with fail
  refine SS.out.mono ?_
  rintro e w6 ⟨rfl, hb6⟩
  have hb7 := hb5.trans (hb6.mono hb5.size)
  have B6 : Hid (Below w.heap.size w w6) := B4.out.trans (hb7.mono B4.out.size)
  have M6 := Lib.hid (M4.out.below hb7)
  have X6 : Hid (Blk w6 w1.heap.size 24 #[.int .i64 4, .slice aa 2 ac, .int .i64 0, .slice sa 2 sc]) := X4.out.below hb7 X4.out.lt
  have c0 := X6.out.cell 0
  have c1 := X6.out.cell 1
  have c2 := X6.out.cell 2
  have c3 := X6.out.cell 3
  clear hb6 hb7 hb5 B4 M4 X4 SS S
  go_wp2_with fail
  refine (I.out aa ac sa sc _ M6.out).mono ?_
  rintro e w8 ⟨rfl, hb8⟩
  have B8 : Hid (Below w.heap.size w w8) := B6.out.trans (hb8.mono B6.out.size)
  have M8 := Lib.hid (M6.out.below hb8)
  have X8 : Hid (Blk w8 w1.heap.size 24 #[.int .i64 4, .slice aa 2 ac, .int .i64 0, .slice sa 2 sc]) := X6.out.below hb8 X6.out.lt
  clear hb8 B6 M6 X6 I c0 c1 c2 c3
  have c0 := X8.out.cell 0
  have c1 := X8.out.cell 1
  have c2 := X8.out.cell 2
  have c3 := X8.out.cell 3
  go_wp2_with fail
  refine (K.out aa ac sa sc _ M8.out).mono ?_
  rintro e w9 ⟨ka, kc, rfl, hb9⟩
  have B9 : Hid (Below w.heap.size w w9) := B8.out.trans (hb9.mono B8.out.size)
  clear hb9 B8 M8 X8 K c0 c1 c2 c3
  go_wp2
  go_ret
  exact ⟨rfl, B9.out⟩
end Go.Proofs.YtfcnclnebnmdiaaDoor
/-
  Whether two machines are the same: of one machine that lies twice. No condition beyond those that each theorem states.
-/
namespace Go.Proofs.YtfcnclnebnmdiaaDoor
open Go.RowKit

set_option maxHeartbeats 4000000 in
set_option maxRecDepth 100000 in
theorem sameM_any (m : Mm) (aa sa aa' sa' : Option Addr) (ac sc ac' sc' : Nat) (w : World) (hl : m.args.length ≤ 1000000000) (hs : m.saved.length ≤ 1000000000) (hM : MaW w m aa sa) (hM' : MaW w m aa' sa') :
    Calls Tryd.prog 8 #[machV m aa ac sa sc, machV m aa' ac' sa' sc'] w fun e w' => e = .returned (.bool true) ∧ Below w.heap.size w w' := by
  have hb2 : Below w.heap.size w ((w.alloc (.cells (maxC m aa ac sa sc) 24)).alloc (.cells (maxC m aa' ac' sa' sc') 24)) := ((Below.refl _ w).alloc (Nat.le_refl _) _).alloc (by simp) _
  have HX : Hid (Blk ((w.alloc (.cells (maxC m aa ac sa sc) 24)).alloc (.cells (maxC m aa' ac' sa' sc') 24)) w.heap.size 24 (maxC m aa ac sa sc)) := (Blk.new w _ _).alloc _
  have HY : Hid (Blk ((w.alloc (.cells (maxC m aa ac sa sc) 24)).alloc (.cells (maxC m aa' ac' sa' sc') 24)) (w.heap.size + 1) 24 (maxC m aa' ac' sa' sc')) := by
    have := Blk.new (w.alloc (.cells (maxC m aa ac sa sc) 24)) 24 (maxC m aa' ac' sa' sc')
    rw [show (w.alloc (.cells (maxC m aa ac sa sc) 24)).heap.size = w.heap.size + 1 by simp] at this
    exact this
  have HB := Lib.hid hb2
  have S1 : Hid (∀ w1, Below ((w.alloc (.cells (maxC m aa ac sa sc) 24)).alloc (.cells (maxC m aa' ac' sa' sc') 24)).heap.size ((w.alloc (.cells (maxC m aa ac sa sc) 24)).alloc (.cells (maxC m aa' ac' sa' sc') 24)) w1 → Calls Tryd.prog 12 #[.slice aa m.args.length ac, .slice aa' m.args.length ac'] w1 fun e w' => e = .returned (.bool true) ∧ Below w1.heap.size w1 w') := fun w1 h => by
    have := sameInts_any m.args m.args aa aa' ac ac' w1 hl hl ((hM.args.below hb2).below h) ((hM'.args.below hb2).below h)
    rw [decide_eq_true rfl] at this
    exact this
  have S2 : Hid (∀ w1, Below ((w.alloc (.cells (maxC m aa ac sa sc) 24)).alloc (.cells (maxC m aa' ac' sa' sc') 24)).heap.size ((w.alloc (.cells (maxC m aa ac sa sc) 24)).alloc (.cells (maxC m aa' ac' sa' sc') 24)) w1 → Calls Tryd.prog 12 #[.slice sa m.saved.length sc, .slice sa' m.saved.length sc'] w1 fun e w' => e = .returned (.bool true) ∧ Below w1.heap.size w1 w') := fun w1 h => by
    have := sameInts_any m.saved m.saved sa sa' sc sc' w1 hs hs ((hM.saved.below hb2).below h) ((hM'.saved.below hb2).below h)
    rw [decide_eq_true rfl] at this
    exact this
  have HM : Hid (maxC m aa ac sa sc = _) := maxC.eq_1 m aa ac sa sc
  have HM' : Hid (maxC m aa' ac' sa' sc' = _) := maxC.eq_1 m aa' ac' sa' sc'
  obtain ⟨c0, c1, c2, c3⟩ := boxMa HX.out
  obtain ⟨d0, d1, d2, d3⟩ := boxMa HY.out
  unfold machV
  rw [HM.out, HM'.out] at HB HX HY S1 S2 c0 c1 c2 c3 d0 d1 d2 d3
  rw [HM.out, HM'.out]
  clear hM hM' hb2
  go_enter Tryd.func8, Tryd.ntmps8
  go_wp2_with fail
  refine (S1.out _ (Below.refl _ _)).mono ?_
  rintro e w1 ⟨rfl, hb⟩
  have S3 := Lib.hid (S2.out w1 hb)
  have e0 := hb.cell (p := ⟨w.heap.size, 3, none⟩) HX.out.lt
  have e1 := hb.cell (p := ⟨w.heap.size + 1, 3, none⟩) HY.out.lt
  rw [c3] at e0
  rw [d3] at e1
  have B1 : Hid (Below w.heap.size w w1) := HB.out.trans (hb.mono HB.out.size)
  clear hb S1 S2 HX HY c0 c1 c2 c3 d0 d1 d2 d3 HB
  go_wp2_with fail
  refine S3.out.mono ?_
  rintro e w2 ⟨rfl, hb⟩
  have B2 : Hid (Below w.heap.size w w2) := B1.out.trans (hb.mono B1.out.size)
  clear hb
  go_wp2
  go_ret
  exact ⟨rfl, B2.out⟩
theorem told_small (s : ByteArray) (h : s.size ≤ 100000) : (toldM (startC s)).args.length ≤ 1000000000 ∧ (toldM (startC s)).saved.length ≤ 1000000000 := by
  have h1 := got_len (startC s)
  have h2 := start_few s
  unfold toldM
  split
  · omega
  · exact ⟨by simp [noM], by simp [noM]⟩
end Go.Proofs.YtfcnclnebnmdiaaDoor
/-
  What is lost of a right machine: how many, in which order, the register that is returned among them (plainly); how long its text may be. No condition beyond those that each theorem states.
-/
namespace Go.Proofs.YtfcnclnebnmdiaaDoor

theorem rise_pairs : ∀ l : List Int, riseB l = true → l.Pairwise (· < ·) := by
  intro l
  induction l with
  | nil => intro _; exact List.Pairwise.nil
  | cons a r ih =>
    intro h
    cases r with
    | nil => simp
    | cons b l =>
      rw [riseB, Bool.and_eq_true, decide_eq_true_eq] at h
      have h2 := ih h.2
      rw [List.pairwise_cons] at h2 ⊢
      refine ⟨fun x hx => ?_, ih h.2⟩
      rcases List.mem_cons.1 hx with rfl | hx
      · exact h.1
      · have := h2.1 x hx; omega
def cntB (l : List Int) (j : Nat) : Nat := (l.filter (fun x => decide (x < (j : Int)))).length
theorem cnt_step : ∀ (l : List Int) (j : Nat), l.Pairwise (· < ·) → cntB l (j + 1) = cntB l j + (if l.contains (j : Int) then 1 else 0) := by
  intro l j
  induction l with
  | nil => intro _; rfl
  | cons a r ih =>
    intro h
    rw [List.pairwise_cons] at h
    have h1 := ih h.2
    unfold cntB at *
    by_cases e : a = (j : Int)
    · have hr : r.contains (j : Int) = false := by
        rw [Bool.eq_false_iff]
        intro hc
        have := h.1 (j : Int) (by simpa using hc)
        omega
      rw [hr] at h1
      subst e
      simp only [List.filter_cons, List.contains_cons]
      rw [if_pos (by simp; omega), if_neg (by simp)]
      simp at h1 ⊢
      omega
    · have e2 : ((j : Int) == a) = false := by simpa using fun h => e h.symm
      simp only [List.filter_cons, List.contains_cons, e2, Bool.false_or]
      by_cases hl : a < (j : Int)
      · rw [if_pos (by simp; omega), if_pos (by simp; omega)]
        simp only [List.length_cons]
        omega
      · rw [if_neg (by simp; omega), if_neg (by simp; omega)]
        exact h1
theorem lost_cnt (m : Mm) (h : m.saved.Pairwise (· < ·)) (h0 : ∀ x ∈ m.saved, 0 ≤ x) : ∀ j, (m.lostGo j).length + cntB m.saved j = j := by
  intro j
  induction j with
  | zero =>
    have : cntB m.saved 0 = 0 := by
      unfold cntB
      rw [List.length_eq_zero_iff, List.filter_eq_nil_iff]
      intro x hx
      have := h0 x hx
      simp
      omega
    rw [this]
    simp [Mm.lostGo]
  | succ j ih =>
    rw [lost_step, cnt_step _ _ h, List.length_append]
    cases m.saved.contains (j : Int)
    · simp; omega
    · simp; omega
theorem lost_all_len {m : Mm} (h : m.rightB = true) : (m.lostL.length : Int) + m.saved.length = m.regs := by
  have hi := (right_iff m).1 h
  have hs : ∀ x ∈ m.saved, 0 ≤ x ∧ x < m.regs := fun x hx => by
    have := List.all_eq_true.1 hi.saved x hx
    simp only [Mm.regB, Bool.and_eq_true, decide_eq_true_eq] at this
    exact this
  obtain ⟨b1, _, _, _⟩ := regs_bound h
  have h1 := lost_cnt m (rise_pairs _ hi.rise) (fun x hx => (hs x hx).1) m.regs.toNat
  have h2 : cntB m.saved m.regs.toNat = m.saved.length := by
    unfold cntB
    rw [List.filter_eq_self.2]
    intro x hx
    have := (hs x hx).2
    exact decide_eq_true (by omega)
  rw [lost_all m h]
  omega
theorem lost_pairs (m : Mm) (j : Nat) : (m.lostGo j).Pairwise (· < ·) := by
  unfold Mm.lostGo
  refine List.Pairwise.filter _ ?_
  rw [List.pairwise_map]
  exact List.Pairwise.imp (fun h => by simpa using h) List.pairwise_lt_range
theorem lost_rises {m : Mm} (h : m.rightB = true) {i j : Nat} {x y : Int} (hij : i < j) (hx : m.lostL[i]? = some x) (hy : m.lostL[j]? = some y) : x < y := by
  rw [lost_all m h] at hx hy
  obtain ⟨h1, rfl⟩ := List.getElem?_eq_some_iff.1 hx
  obtain ⟨h2, rfl⟩ := List.getElem?_eq_some_iff.1 hy
  exact List.pairwise_iff_getElem.1 (lost_pairs m m.regs.toNat) i j h1 h2 hij
theorem lost_not {m : Mm} (h : m.rightB = true) {x : Int} (hx : x ∈ m.lostL) : m.saved.contains x = false := by
  rw [lost_all m h] at hx
  unfold Mm.lostGo at hx
  have := (List.mem_filter.1 hx).2
  simpa using this
theorem ret_lost {m : Mm} (h : m.rightB = true) : m.lostL.contains m.ret = true := by
  have hi := (right_iff m).1 h
  have hr := hi.ret
  simp only [Mm.regB, Bool.and_eq_true, decide_eq_true_eq] at hr
  have ha := hi.apart
  rw [lost_all m h]
  unfold Mm.lostGo
  rw [List.contains_eq_mem, decide_eq_true_eq, List.mem_filter]
  refine ⟨List.mem_map.2 ⟨m.ret.toNat, List.mem_range.2 (by omega), ?_⟩, by rw [ha]; rfl⟩
  show ((m.ret.toNat : Nat) : Int) = m.ret
  omega
theorem part_size7 (name : ByteArray) (l : List Int) (hn : name.size ≤ 7) (hl : l.length ≤ 64) (hx : ∀ x ∈ l, 0 ≤ x ∧ x < 100) : (joinS (partS name l)).size ≤ 520 := by
  have h1 := joinS_size (partS name l) 7 (by
    intro y hy
    simp only [partS, List.mem_cons, List.mem_map] at hy
    rcases hy with rfl | ⟨z, hz, rfl⟩
    · exact hn
    · have := numS_len z (hx z hz); omega)
  have h2 : (partS name l).length ≤ 65 := by simp [partS]; omega
  have h3 : (partS name l).length * (7 + 1) ≤ 65 * 8 := Nat.mul_le_mul h2 (Nat.le_refl _)
  omega
theorem text_size {m : Mm} (h : m.rightB = true) : m.textS.size ≤ 100000 := by
  obtain ⟨b1, b2, b3, b4, b5, b6⟩ := right_small h
  have h1 := joinS_size m.partsL 520 (by
    intro y hy
    simp only [Mm.partsL, List.mem_cons, List.not_mem_nil, or_false] at hy
    rcases hy with rfl | rfl | rfl | rfl
    · exact part_size7 _ _ (by decide) (by simp) (fun x hx => by simp at hx; subst hx; exact b3)
    · exact part_size7 _ _ (by decide) b1 b5
    · exact part_size7 _ _ (by decide) (by simp) (fun x hx => by simp at hx; subst hx; exact b4)
    · exact part_size7 _ _ (by decide) b2 b6)
  have h2 : m.partsL.length = 4 := rfl
  unfold Mm.textS
  rw [ByteArray.size_append]
  have h3 : (⟨#[10]⟩ : ByteArray).size = 1 := rfl
  rw [h2] at h1
  omega
theorem told_right {c : Cu} (h : toldE c = 0) : (toldM c).rightB = true := by
  unfold toldM
  rw [if_pos h]
  unfold toldE at h
  split at h
  · contradiction
  · split at h
    · assumption
    · cases h
theorem told_none {c : Cu} (h : toldE c ≠ 0) : toldM c = noM := by
  unfold toldM
  rw [if_neg h]
theorem take_ret (l : List Int) (n : Nat) (x r : Int) (h : l[n]? = some x) : (l.take (n + 1)).contains r = ((l.take n).contains r || (x == r)) := by
  rw [List.take_add_one, h, Bool.eq_iff_iff]
  simp only [Option.toList_some, List.contains_eq_mem, List.mem_append, List.mem_singleton, Bool.or_eq_true, decide_eq_true_eq, beq_iff_eq]
  constructor
  · rintro (h | h)
    · exact .inl h
    · exact .inr h.symm
  · rintro (h | h)
    · exact .inl h
    · exact .inr h.symm
end Go.Proofs.YtfcnclnebnmdiaaDoor
/-
  The walk of the statement MachBack: it answers true. No condition beyond those that each theorem states.
-/
namespace Go.Proofs.YtfcnclnebnmdiaaDoor
open Go.RowKit

set_option maxHeartbeats 8000000 in
set_option maxRecDepth 100000 in
theorem back5_any (m : Mm) (aa sa : Option Addr) (ac sc : Nat) (s : ByteArray) (w : World) (hl : m.args.length ≤ 140737488355328) (hs : m.saved.length ≤ 140737488355328) (hz : s.size ≤ 140737488355328) (hM : MaW w m aa sa) :
    Calls Tryd.prog 3 #[machV m aa ac sa sc, .string s] w fun e w' => e = .returned (.bool true) ∧ Below w.heap.size w w' := by
  have HB0 : Hid (Below w.heap.size w (w.alloc (.cells #[.int .i64 m.regs, .slice aa m.args.length ac, .int .i64 m.ret, .slice sa m.saved.length sc] 24))) := (Below.refl _ w).alloc (Nat.le_refl _) _
  have HX0 : Hid (Blk (w.alloc (.cells #[.int .i64 m.regs, .slice aa m.args.length ac, .int .i64 m.ret, .slice sa m.saved.length sc] 24)) w.heap.size 24 #[.int .i64 m.regs, .slice aa m.args.length ac, .int .i64 m.ret, .slice sa m.saved.length sc]) := Blk.new w _ _
  have HW := Lib.hid hM
  have AW : Hid (∀ w1, Below w.heap.size w w1 → Calls Tryd.prog 4 #[] w1 fun e w' => e = .returned (.bool true) ∧ Below w.heap.size w w' ∧ Hid (Below w1.heap.size w1 w')) := fun w1 h =>
    (awakeM_any w1).mono fun e w' ⟨x, y⟩ => ⟨x, h.trans (y.mono h.size), y⟩
  unfold machV maxC
  clear hM
  by_cases hn : (2000 : Int) < (m.args.length : Int) + m.saved.length + s.size
  · go_enter Tryd.func3, Tryd.ntmps3
    go_wp2_with fail
    refine (AW.out _ HB0.out).mono ?_
    rintro e w1 ⟨rfl, b1, hb⟩
    have B1 := Lib.hid b1
    have X1 : Hid (Blk w1 w.heap.size 24 #[.int .i64 m.regs, .slice aa m.args.length ac, .int .i64 m.ret, .slice sa m.saved.length sc]) := HX0.out.below hb.out HX0.out.lt
    have c1 := X1.out.cell 1
    have c3 := X1.out.cell 3
    clear b1 hb HX0 HB0 AW
    go_wp2
    go_ret
    exact ⟨rfl, B1.out⟩
  have PRr : Hid (∀ (k : Mm) a1 s1 c1 d1 W, k.rightB = true → k.args.length ≤ 1000000000 → k.saved.length ≤ 1000000000 → MaW W k a1 s1 → Below w.heap.size w W → Calls Tryd.prog 5 #[.agg #[.int .i64 k.regs, .slice a1 k.args.length c1, .int .i64 k.ret, .slice s1 k.saved.length d1]] W fun e w' => e = .returned (.tuple #[.string k.textS, .int .i64 0]) ∧ Below w.heap.size w w' ∧ Below W.heap.size W w') := fun k a1 s1 c1 d1 W hr h1 h2 hm h =>
    (printM_any k a1 s1 c1 d1 W (by omega) (by omega) hm).mono fun e w' ⟨x, y⟩ => ⟨by rw [x, (print_right hr).1, (print_right hr).2], h.trans (y.mono h.size), y⟩
  have PA : Hid (∀ (t : ByteArray) W, t.size ≤ 100000 → Below w.heap.size w W → Calls Tryd.prog 7 #[.string t] W fun e w' => ∃ a1 c1 s1 d1, e = .returned (.tuple #[machV (toldM (startC t)) a1 c1 s1 d1, .int .i64 (toldE (startC t))]) ∧ MaW w' (toldM (startC t)) a1 s1 ∧ Below w.heap.size w w' ∧ Below W.heap.size W w') := fun t W ht h =>
    (parseM_any t W ht).mono fun e w' ⟨a1, c1, s1, d1, x, ⟨y1, y2⟩, z⟩ => ⟨a1, c1, s1, d1, x, ⟨IntsW.own y1, IntsW.own y2⟩, h.trans (z.mono h.size), z⟩
  have PT : Hid (∀ (k : Mm), k.rightB = true → ∀ W, Below w.heap.size w W → Calls Tryd.prog 7 #[.string k.textS] W fun e w' => ∃ a1 c1 s1 d1, e = .returned (.tuple #[.agg #[.int .i64 k.regs, .slice a1 k.args.length c1, .int .i64 k.ret, .slice s1 k.saved.length d1], .int .i64 0]) ∧ MaW w' k a1 s1 ∧ Below w.heap.size w w' ∧ Below W.heap.size W w') := fun k hr W h => by
    have h0 := PA.out k.textS W (text_size hr) h
    rw [(text_told k hr).1, (text_told k hr).2] at h0
    exact h0
  have SA : Hid (∀ (k : Mm) a1 s1 a2 s2 c1 d1 c2 d2 W, k.args.length ≤ 1000000000 → k.saved.length ≤ 1000000000 → MaW W k a1 s1 → MaW W k a2 s2 → Below w.heap.size w W → Calls Tryd.prog 8 #[.agg #[.int .i64 k.regs, .slice a1 k.args.length c1, .int .i64 k.ret, .slice s1 k.saved.length d1], .agg #[.int .i64 k.regs, .slice a2 k.args.length c2, .int .i64 k.ret, .slice s2 k.saved.length d2]] W fun e w' => e = .returned (.bool true) ∧ Below w.heap.size w w' ∧ Hid (Below W.heap.size W w')) := fun k a1 s1 a2 s2 c1 d1 c2 d2 W h1 h2 hm hm2 h =>
    (sameM_any k a1 s1 a2 s2 c1 d1 c2 d2 W h1 h2 hm hm2).mono fun e w' ⟨x, y⟩ => ⟨x, h.trans (y.mono h.size), y⟩
  have RI : Hid (∀ w1, Below w.heap.size w w1 → Calls Tryd.prog 6 #[.agg #[.int .i64 m.regs, .slice aa m.args.length ac, .int .i64 m.ret, .slice sa m.saved.length sc]] w1 fun e w' => e = .returned (.bool m.rightB) ∧ Below w.heap.size w w' ∧ Hid (Below w1.heap.size w1 w')) := fun w1 h =>
    (rightM_any m aa sa ac sc w1 hl hs (HW.out.below h)).mono fun e w' ⟨x, y⟩ => ⟨x, h.trans (y.mono h.size), y⟩
  have hsz : s.size ≤ 100000 := by omega
  have PS := Lib.hid (fun W => PA.out s W hsz)
  have NR : Hid (toldE (startC s) = 0 → (toldM (startC s)).rightB = true ∧ True ∧ True) := fun h => ⟨told_right h, trivial, trivial⟩
  have NZ : Hid (toldE (startC s) ≠ 0 → toldM (startC s) = noM) := fun h => told_none h
  have NL := Lib.hid (told_small s hsz)
  unfold machV maxC at PS
  generalize toldM (startC s) = n at *
  generalize toldE (startC s) = E at *
  have b1 : m.args.length ≤ 2000 := by omega
  have b2 : m.saved.length ≤ 2000 := by omega
  clear PA
  cases hr : m.rightB
  · rw [hr] at RI
    have PW : Hid (∀ W, Below w.heap.size w W → Calls Tryd.prog 5 #[.agg #[.int .i64 m.regs, .slice aa m.args.length ac, .int .i64 m.ret, .slice sa m.saved.length sc]] W fun e w' => e = .returned (.tuple #[.string ⟨#[]⟩, .int .i64 2]) ∧ Below w.heap.size w w' ∧ Hid (Below W.heap.size W w')) := fun W h =>
      (printM_any m aa sa ac sc W (by omega) (by omega) (HW.out.below h)).mono fun e w' ⟨x, y⟩ => ⟨by rw [x, (print_wrong hr).1, (print_wrong hr).2], h.trans (y.mono h.size), y⟩
    clear hr
    go_enter Tryd.func3, Tryd.ntmps3
    go_wp2_with fail
    refine (AW.out _ HB0.out).mono ?_
    rintro e w1 ⟨rfl, b1', hb⟩
    have B1 := Lib.hid b1'
    have X1 : Hid (Blk w1 w.heap.size 24 #[.int .i64 m.regs, .slice aa m.args.length ac, .int .i64 m.ret, .slice sa m.saved.length sc]) := HX0.out.below hb.out HX0.out.lt
    have c0 := X1.out.cell 0
    have c1 := X1.out.cell 1
    have c2 := X1.out.cell 2
    have c3 := X1.out.cell 3
    clear b1' hb HX0 HB0 AW
    go_wp2_with fail
    refine (PW.out _ B1.out).mono ?_
    rintro e w2 ⟨rfl, b2', hb⟩
    have B2 := Lib.hid b2'
    have X2 : Hid (Blk w2 w.heap.size 24 #[.int .i64 m.regs, .slice aa m.args.length ac, .int .i64 m.ret, .slice sa m.saved.length sc]) := X1.out.below hb.out X1.out.lt
    clear b2' hb X1 B1 c0 c1 c2 c3
    have c0 := X2.out.cell 0
    have c1 := X2.out.cell 1
    have c2 := X2.out.cell 2
    have c3 := X2.out.cell 3
    go_wp2_with fail
    refine (RI.out _ B2.out).mono ?_
    rintro e w3 ⟨rfl, b3', hb⟩
    have BX := Lib.hid b3'
    clear b3' hb X2 B2 c0 c1 c2 c3 RI PW
    go_wp2_with fail
    refine (PS.out _ BX.out).mono ?_
    rintro e wa ⟨a3, c3, s3, d3, rfl, hm3, hb3, _⟩
    have hx3 : Below wa.heap.size wa (wa.alloc (.cells #[.int .i64 n.regs, .slice a3 n.args.length c3, .int .i64 n.ret, .slice s3 n.saved.length d3] 24)) := (Below.refl _ _).alloc (Nat.le_refl _) _
    have M3 : Hid (MaW (wa.alloc (.cells #[.int .i64 n.regs, .slice a3 n.args.length c3, .int .i64 n.ret, .slice s3 n.saved.length d3] 24)) n a3 s3) := hm3.below hx3
    have B3 : Hid (Below w.heap.size w (wa.alloc (.cells #[.int .i64 n.regs, .slice a3 n.args.length c3, .int .i64 n.ret, .slice s3 n.saved.length d3] 24))) := hb3.trans (hx3.mono hb3.size)
    have X3 : Hid (Blk (wa.alloc (.cells #[.int .i64 n.regs, .slice a3 n.args.length c3, .int .i64 n.ret, .slice s3 n.saved.length d3] 24)) wa.heap.size 24 #[.int .i64 n.regs, .slice a3 n.args.length c3, .int .i64 n.ret, .slice s3 n.saved.length d3]) := Blk.new wa _ _
    clear hm3 hb3 hx3
    by_cases hE : E = 0
    · obtain ⟨hn1, hn2, hn3⟩ := NR.out hE
      subst hE
      have PN := Lib.hid (PRr.out n a3 s3 c3 d3 _ hn1 NL.out.1 NL.out.2 M3.out B3.out)
      have QN := Lib.hid (PT.out n hn1)
      clear PS NR NZ
      have c0 := X3.out.cell 0
      have c1 := X3.out.cell 1
      have c2 := X3.out.cell 2
      have c3' := X3.out.cell 3
      go_wp2_with fail
      refine PN.out.mono ?_
      rintro e w4 ⟨rfl, hb4, hl4⟩
      have M4 : Hid (MaW w4 n a3 s3) := M3.out.below hl4
      have X4 : Hid (Blk w4 wa.heap.size 24 #[.int .i64 n.regs, .slice a3 n.args.length c3, .int .i64 n.ret, .slice s3 n.saved.length d3]) := X3.out.below hl4 X3.out.lt
      have B4 := Lib.hid hb4
      clear c0 c1 c2 c3' hb4 hl4 M3 X3 B3 PN
      go_wp2_with fail
      refine (QN.out _ B4.out).mono ?_
      rintro e w5 ⟨a5, c5, s5, d5, rfl, hm5, hb5, hl5⟩
      have hx5 : Below w5.heap.size w5 (w5.alloc (.cells #[.int .i64 n.regs, .slice a5 n.args.length c5, .int .i64 n.ret, .slice s5 n.saved.length d5] 24)) := (Below.refl _ _).alloc (Nat.le_refl _) _
      have M5 : Hid (MaW (w5.alloc (.cells #[.int .i64 n.regs, .slice a5 n.args.length c5, .int .i64 n.ret, .slice s5 n.saved.length d5] 24)) n a5 s5) := hm5.below hx5
      have M6 : Hid (MaW (w5.alloc (.cells #[.int .i64 n.regs, .slice a5 n.args.length c5, .int .i64 n.ret, .slice s5 n.saved.length d5] 24)) n a3 s3) := (M4.out.below hl5).below hx5
      have B5 : Hid (Below w.heap.size w (w5.alloc (.cells #[.int .i64 n.regs, .slice a5 n.args.length c5, .int .i64 n.ret, .slice s5 n.saved.length d5] 24))) := hb5.trans (hx5.mono hb5.size)
      have X5 : Hid (Blk (w5.alloc (.cells #[.int .i64 n.regs, .slice a5 n.args.length c5, .int .i64 n.ret, .slice s5 n.saved.length d5] 24)) w5.heap.size 24 #[.int .i64 n.regs, .slice a5 n.args.length c5, .int .i64 n.ret, .slice s5 n.saved.length d5]) := Blk.new w5 _ _
      have X6 : Hid (Blk (w5.alloc (.cells #[.int .i64 n.regs, .slice a5 n.args.length c5, .int .i64 n.ret, .slice s5 n.saved.length d5] 24)) wa.heap.size 24 #[.int .i64 n.regs, .slice a3 n.args.length c3, .int .i64 n.ret, .slice s3 n.saved.length d3]) := (X4.out.below hl5 X4.out.lt).alloc _
      have SS := Lib.hid (SA.out n a5 s5 a3 s3 c5 d5 c3 d3 _ NL.out.1 NL.out.2 M5.out M6.out B5.out)
      have e0 := X5.out.cell 0
      have e1 := X5.out.cell 1
      have e2 := X5.out.cell 2
      have e3 := X5.out.cell 3
      have g0 := X6.out.cell 0
      have g1 := X6.out.cell 1
      have g2 := X6.out.cell 2
      have g3 := X6.out.cell 3
      clear hm5 hb5 hl5 hx5 M4 X4 B4 M5 M6 X5 X6 QN
      go_wp2_with fail
      refine SS.out.mono ?_
      rintro e w7 ⟨rfl, hb7, _⟩
      have B7 := Lib.hid hb7
      clear hb7 e0 e1 e2 e3 g0 g1 g2 g3 SS B5
      go_wp2
      go_ret
      exact ⟨rfl, B7.out⟩
    · have hq : (E == 0) = false := by simpa using hE
      have hno := NZ.out hE
      have SS : Hid (Calls Tryd.prog 8 #[.agg #[.int .i64 n.regs, .slice a3 n.args.length c3, .int .i64 n.ret, .slice s3 n.saved.length d3], .agg #[.int .i64 0, .slice none 0 0, .int .i64 0, .slice none 0 0]] (wa.alloc (.cells #[.int .i64 n.regs, .slice a3 n.args.length c3, .int .i64 n.ret, .slice s3 n.saved.length d3] 24)) fun e w' => e = .returned (.bool true) ∧ Below w.heap.size w w' ∧ Hid (Below (wa.alloc (.cells #[.int .i64 n.regs, .slice a3 n.args.length c3, .int .i64 n.ret, .slice s3 n.saved.length d3] 24)).heap.size (wa.alloc (.cells #[.int .i64 n.regs, .slice a3 n.args.length c3, .int .i64 n.ret, .slice s3 n.saved.length d3] 24)) w')) := by
        have h := SA.out n a3 s3 none none c3 d3 0 0 _ NL.out.1 NL.out.2 M3.out (by rw [hno]; exact ⟨IntsW.nil _ _, IntsW.nil _ _⟩) B3.out
        rw [hno] at h ⊢
        exact h
      have c0 := X3.out.cell 0
      have c1 := X3.out.cell 1
      have c2 := X3.out.cell 2
      have c3' := X3.out.cell 3
      clear PS NR NZ hno
      go_wp2_with fail
      refine SS.out.mono ?_
      rintro e w4 ⟨rfl, hb4, _⟩
      have B4 := Lib.hid hb4
      clear hb4 c0 c1 c2 c3' SS B3 M3 X3
      go_wp2
      go_ret
      exact ⟨rfl, B4.out⟩
  · have LO : Hid (∀ W, Below w.heap.size w W → Calls Tryd.prog 9 #[.agg #[.int .i64 m.regs, .slice aa m.args.length ac, .int .i64 m.ret, .slice sa m.saved.length sc]] W fun e w' => ∃ a c, e = .returned (.slice a m.lostL.length c) ∧ IntsW w' a m.lostL ∧ Below w.heap.size w w' ∧ Hid (Below W.heap.size W w')) := fun W h =>
      (lost_any m aa sa ac sc W hl hs (HW.out.below h)).mono fun e w' ⟨a, c, x, y, z⟩ => ⟨a, c, x, IntsW.own y, h.trans (z.mono h.size), z⟩
    have KE : Hid (∀ W, Below w.heap.size w W → Calls Tryd.prog 10 #[.agg #[.int .i64 m.regs, .slice aa m.args.length ac, .int .i64 m.ret, .slice sa m.saved.length sc]] W fun e w' => ∃ a c, e = .returned (.slice a m.saved.length c) ∧ Below w.heap.size w w' ∧ Hid (Below W.heap.size W w')) := fun W h =>
      (keeps_any m aa sa ac sc W hl hs (HW.out.below h)).mono fun e w' ⟨a, c, x, _, z⟩ => ⟨a, c, by rw [x, keeps_right hr], h.trans (z.mono h.size), z⟩
    have IS : Hid (∀ (i : Nat) x W, m.lostL[i]? = some x → Below w.heap.size w W → Calls Tryd.prog 11 #[.agg #[.int .i64 m.regs, .slice aa m.args.length ac, .int .i64 m.ret, .slice sa m.saved.length sc], .int .i64 x] W fun e w' => e = .returned (.bool false) ∧ Below w.heap.size w w' ∧ Hid (Below W.heap.size W w')) := fun i x W hx h =>
      (isSaved_any m aa sa ac sc x W hl hs (HW.out.below h)).mono fun e w' ⟨y, z⟩ => ⟨by rw [y, saved_not (lost_not hr (List.mem_of_getElem? hx))], h.trans (z.mono h.size), z⟩
    have LLen := lost_all_len hr
    have LR := Lib.hid (ret_lost hr)
    have LP : Hid (∀ (i j : Nat) x y, i < j → m.lostL[i]? = some x → m.lostL[j]? = some y → x < y) := fun i j x y h1 h2 h3 => lost_rises hr h1 h2 h3
    obtain ⟨r1, r2, _, _⟩ := regs_bound hr
    have PM := Lib.hid (PRr.out m aa sa ac sc)
    have QM := Lib.hid (PT.out m hr)
    have HRT : Hid (m.rightB = true) := hr
    rw [hr] at RI
    clear hr
    generalize m.lostL = Ls at *
    have b3 : Ls.length ≤ 64 := by omega
    have hwr : IntKind.i64.wrap m.regs = m.regs := by rw [IntKind.wrap_i64]; omega
    go_enter Tryd.func3, Tryd.ntmps3
    go_wp2_with fail
    refine (AW.out _ HB0.out).mono ?_
    rintro e w1 ⟨rfl, b1', hb⟩
    have B1 := Lib.hid b1'
    have X1 : Hid (Blk w1 w.heap.size 24 #[.int .i64 m.regs, .slice aa m.args.length ac, .int .i64 m.ret, .slice sa m.saved.length sc]) := HX0.out.below hb.out HX0.out.lt
    have P1 := Lib.hid (PM.out w1 HRT.out (by omega) (by omega) (HW.out.below B1.out) B1.out)
    have c0 := X1.out.cell 0
    have c1 := X1.out.cell 1
    have c2 := X1.out.cell 2
    have c3 := X1.out.cell 3
    clear b1' hb HX0 HB0 AW PM
    go_wp2_with fail
    refine P1.out.mono ?_
    rintro e w2 ⟨rfl, b2', hb⟩
    have B2 := Lib.hid b2'
    have X2 : Hid (Blk w2 w.heap.size 24 #[.int .i64 m.regs, .slice aa m.args.length ac, .int .i64 m.ret, .slice sa m.saved.length sc]) := X1.out.below hb X1.out.lt
    clear b2' hb X1 B1 c0 c1 c2 c3 P1
    have c0 := X2.out.cell 0
    have c1 := X2.out.cell 1
    have c2 := X2.out.cell 2
    have c3 := X2.out.cell 3
    go_wp2_with fail
    refine (RI.out _ B2.out).mono ?_
    rintro e w3 ⟨rfl, b3', hb⟩
    have B3' := Lib.hid b3'
    have X3' : Hid (Blk w3 w.heap.size 24 #[.int .i64 m.regs, .slice aa m.args.length ac, .int .i64 m.ret, .slice sa m.saved.length sc]) := X2.out.below hb.out X2.out.lt
    clear b3' hb X2 B2 c0 c1 c2 c3 RI
    go_wp2_with fail
    refine (QM.out _ B3'.out).mono ?_
    rintro e w4 ⟨a4, c4, s4, d4, rfl, hm4, hb4, hl4⟩
    have hx4 : Below w4.heap.size w4 (w4.alloc (.cells #[.int .i64 m.regs, .slice a4 m.args.length c4, .int .i64 m.ret, .slice s4 m.saved.length d4] 24)) := (Below.refl _ _).alloc (Nat.le_refl _) _
    have M4 : Hid (MaW (w4.alloc (.cells #[.int .i64 m.regs, .slice a4 m.args.length c4, .int .i64 m.ret, .slice s4 m.saved.length d4] 24)) m a4 s4) := hm4.below hx4
    have B4 : Hid (Below w.heap.size w (w4.alloc (.cells #[.int .i64 m.regs, .slice a4 m.args.length c4, .int .i64 m.ret, .slice s4 m.saved.length d4] 24))) := hb4.trans (hx4.mono hb4.size)
    have X4 : Hid (Blk (w4.alloc (.cells #[.int .i64 m.regs, .slice a4 m.args.length c4, .int .i64 m.ret, .slice s4 m.saved.length d4] 24)) w4.heap.size 24 #[.int .i64 m.regs, .slice a4 m.args.length c4, .int .i64 m.ret, .slice s4 m.saved.length d4]) := Blk.new w4 _ _
    have Y4 : Hid (Blk (w4.alloc (.cells #[.int .i64 m.regs, .slice a4 m.args.length c4, .int .i64 m.ret, .slice s4 m.saved.length d4] 24)) w.heap.size 24 #[.int .i64 m.regs, .slice aa m.args.length ac, .int .i64 m.ret, .slice sa m.saved.length sc]) := (X3'.out.below hl4 X3'.out.lt).alloc _
    have S4 := Lib.hid (SA.out m a4 s4 aa sa c4 d4 ac sc _ (by omega) (by omega) M4.out (HW.out.below B4.out) B4.out)
    clear hm4 hb4 hl4 hx4 QM X3' B3' M4
    have e0 := X4.out.cell 0
    have e1 := X4.out.cell 1
    have e2 := X4.out.cell 2
    have e3 := X4.out.cell 3
    have c0 := Y4.out.cell 0
    have c1 := Y4.out.cell 1
    have c2 := Y4.out.cell 2
    have c3 := Y4.out.cell 3
    go_wp2_with fail
    refine S4.out.mono ?_
    rintro e w5 ⟨rfl, hb5, hl5⟩
    have B5 := Lib.hid hb5
    have X5 : Hid (Blk w5 w.heap.size 24 #[.int .i64 m.regs, .slice aa m.args.length ac, .int .i64 m.ret, .slice sa m.saved.length sc]) := Y4.out.below hl5.out Y4.out.lt
    clear hb5 hl5 S4 X4 Y4 B4 e0 e1 e2 e3 c0 c1 c2 c3
    have c0 := X5.out.cell 0
    have c1 := X5.out.cell 1
    have c2 := X5.out.cell 2
    have c3 := X5.out.cell 3
    go_wp2_with fail
    refine (LO.out _ B5.out).mono ?_
    rintro e w6 ⟨la, lc, rfl, hi6, hb6, hl6⟩
    have B6 := Lib.hid hb6
    have I6 := Lib.hid hi6
    have X6 : Hid (Blk w6 w.heap.size 24 #[.int .i64 m.regs, .slice aa m.args.length ac, .int .i64 m.ret, .slice sa m.saved.length sc]) := X5.out.below hl6.out X5.out.lt
    clear hb6 hl6 hi6 X5 B5 c0 c1 c2 c3 LO
    have HS : Hid (∀ W, Below w6.heap.size w6 W → Below w6.heap.size w6 W ∧ W.cell? ⟨w.heap.size, 0, none⟩ = some (.int .i64 m.regs) ∧ W.cell? ⟨w.heap.size, 1, none⟩ = some (.slice aa m.args.length ac) ∧ W.cell? ⟨w.heap.size, 2, none⟩ = some (.int .i64 m.ret) ∧ W.cell? ⟨w.heap.size, 3, none⟩ = some (.slice sa m.saved.length sc)) := fun W h => ⟨h, boxMa (X6.out.below h X6.out.lt)⟩
    have KE6 : Hid (∀ W, Below w6.heap.size w6 W → Calls Tryd.prog 10 #[.agg #[.int .i64 m.regs, .slice aa m.args.length ac, .int .i64 m.ret, .slice sa m.saved.length sc]] W fun e w' => ∃ a c, e = .returned (.slice a m.saved.length c) ∧ Below w6.heap.size w6 w') := fun W h =>
      (KE.out W (B6.out.trans (h.mono B6.out.size))).mono fun e w' ⟨a, c, x, _, z⟩ => ⟨a, c, x, h.trans (z.out.mono h.size)⟩
    obtain ⟨c0, c1, c2, c3⟩ := boxMa X6.out
    clear KE
    go_upto_region 13 with fail
    go_region_held3 (fun W => Below w6.heap.size w6 W ∧ W.cell? ⟨w.heap.size, 0, none⟩ = some (.int .i64 m.regs) ∧ W.cell? ⟨w.heap.size, 1, none⟩ = some (.slice aa m.args.length ac) ∧ W.cell? ⟨w.heap.size, 2, none⟩ = some (.int .i64 m.ret) ∧ W.cell? ⟨w.heap.size, 3, none⟩ = some (.slice sa m.saved.length sc))
      (first | (refine HS.out _ ?_; (repeat (first | with_reducible apply belM_alloc | with_reducible apply belM_drew)); (first | exact Below.refl _ _ | assumption)))
      (first | (go_at_call 10; refine (KE6.out _ (by go_split_ands; assumption)).mono ?_; rintro e w7 ⟨ka, kc, rfl, hb7⟩))
    have B7 : Hid (Below w.heap.size w w7) := B6.out.trans (hb7.mono B6.out.size)
    have X7 : Hid (Blk w7 w.heap.size 24 #[.int .i64 m.regs, .slice aa m.args.length ac, .int .i64 m.ret, .slice sa m.saved.length sc]) := X6.out.below hb7 X6.out.lt
    have I7 : Hid (IntsW w7 la Ls) := I6.out.below hb7
    clear hb7 X6 B6 I6 HS KE6 c0 c1 c2 c3
    obtain ⟨x0, hx0⟩ : ∃ x0, Ls[0]? = some x0 := ⟨_, List.getElem?_eq_getElem (by
      have h := LR.out
      rw [List.contains_eq_mem, decide_eq_true_eq] at h
      exact List.length_pos_of_mem h)⟩
    obtain ⟨g, o, rfl, _, _⟩ := I7.out 0 x0 hx0
    clear hx0
    go_wp2
    go_loopw [10, 11] (fun v k wr => ∃ i : Int, v = .bool ((Ls.take i.toNat).contains m.ret) ∧ k = .int .i64 i ∧ 0 ≤ i ∧ i ≤ Ls.length ∧ IntsW wr (some ⟨g, o, none⟩) Ls ∧ Blk wr w.heap.size 24 #[.int .i64 m.regs, .slice aa m.args.length ac, .int .i64 m.ret, .slice sa m.saved.length sc] ∧ Below w.heap.size w wr) (fun _ k _ => Ls.length - (intOf k).toNat)
    case atStart => exact ⟨0, by simp, rfl, by omega, by omega, I7.out, X7.out, B7.out⟩
    case round =>
      obtain ⟨i, rfl, rfl, hi0, hi1, hI, hX, hB⟩ := hrel
      have HI := Lib.hid hI
      have HX := Lib.hid hX
      have HB := Lib.hid hB
      clear hI hX hB I7 X7 B7
      generalize hc : (Ls.take i.toNat).contains m.ret = b
      have HC := Lib.hid hc
      clear hc
      by_cases hlt : i < Ls.length
      · obtain ⟨x, hx⟩ : ∃ x, Ls[i.toNat]? = some x := ⟨_, List.getElem?_eq_getElem (by omega)⟩
        obtain ⟨g', o', e, _, h0⟩ := HI.out _ x hx
        simp only [Option.some.injEq, Addr.mk.injEq, and_true] at e
        obtain ⟨rfl, rfl⟩ := e
        have ISi := Lib.hid (fun W => IS.out i.toNat x W hx)
        have HT : Hid ((Ls.take (i + 1).toNat).contains m.ret = (b || (x == m.ret))) := by
          show _ = _
          rw [show (i + 1).toNat = i.toNat + 1 by omega, take_ret Ls i.toNat x m.ret hx, HC.out]
        have hbig : i ≤ 140737488355328 := by omega
        have ISr : Hid (∀ W, Below wr.heap.size wr W → Calls Tryd.prog 11 #[.agg #[.int .i64 m.regs, .slice aa m.args.length ac, .int .i64 m.ret, .slice sa m.saved.length sc], .int .i64 x] W fun e w' => e = .returned (.bool false) ∧ Below wr.heap.size wr w') := fun W h =>
          (ISi.out W (HB.out.trans (h.mono HB.out.size))).mono fun e w' ⟨a, _, z⟩ => ⟨a, h.trans (z.out.mono h.size)⟩
        obtain ⟨c0, c1, c2, c3⟩ := boxMa HX.out
        by_cases hz0 : i = 0
        · subst hz0
          have h00 : wr.cell? ⟨g, o, none⟩ = some (.int .i64 x) := by simpa using h0
          have hg : g < wr.heap.size := by
            obtain ⟨g', o', e, hg, _⟩ := HI.out _ x hx
            simp only [Option.some.injEq, Addr.mk.injEq, and_true] at e
            obtain ⟨rfl, rfl⟩ := e
            exact hg
          have hb0 : Below wr.heap.size wr wr.drew := (Below.refl wr.heap.size wr).drew
          have HS : Hid (∀ W, Below wr.heap.size wr W → Below wr.heap.size wr W ∧ W.cell? ⟨w.heap.size, 0, none⟩ = some (.int .i64 m.regs) ∧ W.cell? ⟨w.heap.size, 1, none⟩ = some (.slice aa m.args.length ac) ∧ W.cell? ⟨w.heap.size, 2, none⟩ = some (.int .i64 m.ret) ∧ W.cell? ⟨w.heap.size, 3, none⟩ = some (.slice sa m.saved.length sc) ∧ W.cell? ⟨g, o, none⟩ = some (.int .i64 x)) := fun W h => by
            obtain ⟨k0, k1, k2, k3⟩ := boxMa (HX.out.below h HX.out.lt)
            exact ⟨h, k0, k1, k2, k3, (h.cell hg).trans h00⟩
          clear hx LP IS ISi
          go_upto_region 19 with fail
          refine wp_region_held_drew (S := fun W => Below wr.heap.size wr W ∧ W.cell? ⟨w.heap.size, 0, none⟩ = some (.int .i64 m.regs) ∧ W.cell? ⟨w.heap.size, 1, none⟩ = some (.slice aa m.args.length ac) ∧ W.cell? ⟨w.heap.size, 2, none⟩ = some (.int .i64 m.ret) ∧ W.cell? ⟨w.heap.size, 3, none⟩ = some (.slice sa m.saved.length sc) ∧ W.cell? ⟨g, o, none⟩ = some (.int .i64 x)) (by kernel_rfl) ?_ (fun hHeld => ?_)
          · exact HS.out _ hb0
          refine wpAnyH_take (i := 0) (v := ?v_0) (by simp only [List.getElem?_toArray, List.getElem?_cons_zero]; rfl) (by kernel_rfl) (by kernel_rfl) (by kernel_rfl) (by exact fun _ _ _ h => h) (Or.inl ⟨by rfl, ?y_0⟩) (by assumption) ?_
          case y_0 => (intro w hSw; (try dsimp only at hSw); go_simp; try (with_reducible rfl))
          try simp only [Act.put, List.setIfInBounds_toArray, List.set_cons_zero, List.set_cons_succ]
          refine wpAnyH_take (i := 1) (v := ?v_1) (by simp only [List.getElem?_toArray, List.getElem?_cons_succ, List.getElem?_cons_zero]; rfl) (by kernel_rfl) (by kernel_rfl) (by kernel_rfl) (by exact fun _ _ _ h => h) (Or.inl ⟨by rfl, ?y_1⟩) (by assumption) ?_
          case y_1 => (intro w hSw; (try dsimp only at hSw); go_simp; try (with_reducible rfl))
          try simp only [Act.put, List.setIfInBounds_toArray, List.set_cons_zero, List.set_cons_succ]
          refine wpAnyH_take (i := 2) (v := ?v_2) (by simp only [List.getElem?_toArray, List.getElem?_cons_succ, List.getElem?_cons_zero]; rfl) (by kernel_rfl) (by kernel_rfl) (by kernel_rfl) (by exact fun _ _ _ h => h) (Or.inl ⟨by rfl, ?y_2⟩) (by assumption) ?_
          case y_2 => (intro w hSw; (try dsimp only at hSw); go_simp; try (with_reducible rfl))
          try simp only [Act.put, List.setIfInBounds_toArray, List.set_cons_zero, List.set_cons_succ]
          refine wpAnyH_take (i := 3) (v := ?v_3) (by simp only [List.getElem?_toArray, List.getElem?_cons_succ, List.getElem?_cons_zero]; rfl) (by kernel_rfl) (by kernel_rfl) (by kernel_rfl) (by exact fun _ _ _ h => h) (Or.inl ⟨by rfl, ?y_3⟩) (by assumption) ?_
          case y_3 => (intro w hSw; (try dsimp only at hSw); go_simp; try (with_reducible rfl))
          try simp only [Act.put, List.setIfInBounds_toArray, List.set_cons_zero, List.set_cons_succ]
          refine wpAnyH_take (i := 4) (v := ?v_4) (by simp only [List.getElem?_toArray, List.getElem?_cons_succ, List.getElem?_cons_zero]; rfl) (by kernel_rfl) (by kernel_rfl) (by kernel_rfl) (by exact fun _ _ _ h => h) (Or.inl ⟨by rfl, ?y_4⟩) (by assumption) ?_
          case y_4 => (intro w hSw; (try dsimp only at hSw); go_simp; try (with_reducible rfl))
          try simp only [Act.put, List.setIfInBounds_toArray, List.set_cons_zero, List.set_cons_succ]
          refine wpAnyH_ready (rs := [5]) (by kernel_rfl) (by simp) ?_
          refine AllReadyH.cons (by simp only [List.getElem?_toArray, List.getElem?_cons_succ, List.getElem?_cons_zero]; rfl) (fun K hK => ?_) AllReadyH.nil
          go_simp
          go_at_call 11
          refine (ISr.out _ hb0).mono ?_
          rintro e w8 ⟨rfl, hb8⟩
          (try go_wp2_with fail)
          refine hK.out _ _ ?_ (fun hHeld2 => ?_)
          · exact HS.out _ hb8
          clear hK K hHeld
          have hHeld := hHeld2
          clear hHeld2
          try simp only [Act.put, List.setIfInBounds_toArray, List.set_cons_zero, List.set_cons_succ]
          refine wpAnyH_take (i := 6) (v := ?v_6) (by simp only [List.getElem?_toArray, List.getElem?_cons_succ, List.getElem?_cons_zero]; rfl) (by kernel_rfl) (by kernel_rfl) (by kernel_rfl) (by exact fun _ _ _ h => h) (Or.inl ⟨by rfl, ?y_6⟩) (by assumption) ?_
          case y_6 => (intro w hSw; (try dsimp only at hSw); go_simp; try (with_reducible rfl))
          try simp only [Act.put, List.setIfInBounds_toArray, List.set_cons_zero, List.set_cons_succ]
          refine wpAnyH_take (i := 7) (v := ?v_7) (by simp only [List.getElem?_toArray, List.getElem?_cons_succ, List.getElem?_cons_zero]; rfl) (by kernel_rfl) (by kernel_rfl) (by kernel_rfl) (by exact fun _ _ _ h => h) (Or.inl ⟨by rfl, ?y_7⟩) (by assumption) ?_
          case y_7 => (intro w hSw; (try dsimp only at hSw); go_simp; try (with_reducible rfl))
          try simp only [Act.put, List.setIfInBounds_toArray, List.set_cons_zero, List.set_cons_succ]
          refine wpAnyH_take (i := 8) (v := ?v_8) (by simp only [List.getElem?_toArray, List.getElem?_cons_succ, List.getElem?_cons_zero]; rfl) (by kernel_rfl) (by kernel_rfl) (by kernel_rfl) (by exact fun _ _ _ h => h) (Or.inl ⟨by rfl, ?y_8⟩) (by assumption) ?_
          case y_8 => (intro w hSw; (try dsimp only at hSw); go_simp; try (with_reducible rfl))
          try simp only [Act.put, List.setIfInBounds_toArray, List.set_cons_zero, List.set_cons_succ]
          refine wpAnyH_take (i := 9) (v := ?v_9) (by simp only [List.getElem?_toArray, List.getElem?_cons_succ, List.getElem?_cons_zero]; rfl) (by kernel_rfl) (by kernel_rfl) (by kernel_rfl) (by exact fun _ _ _ h => h) (Or.inl ⟨by rfl, ?y_9⟩) (by assumption) ?_
          case y_9 => (intro w hSw; (try dsimp only at hSw); go_simp; try (with_reducible rfl))
          try simp only [Act.put, List.setIfInBounds_toArray, List.set_cons_zero, List.set_cons_succ]
          refine wpAnyH_take (i := 10) (v := undef) (by simp only [List.getElem?_toArray, List.getElem?_cons_succ, List.getElem?_cons_zero]; rfl) (by kernel_rfl) (by kernel_rfl) (by kernel_rfl) (by exact fun _ _ _ h => h) (Or.inr ⟨by rfl, rfl⟩) (by assumption) ?_
          try simp only [Act.put, List.setIfInBounds_toArray, List.set_cons_zero, List.set_cons_succ]
          refine wpAnyH_take (i := 11) (v := undef) (by simp only [List.getElem?_toArray, List.getElem?_cons_succ, List.getElem?_cons_zero]; rfl) (by kernel_rfl) (by kernel_rfl) (by kernel_rfl) (by exact fun _ _ _ h => h) (Or.inr ⟨by rfl, rfl⟩) (by assumption) ?_
          try simp only [Act.put, List.setIfInBounds_toArray, List.set_cons_zero, List.set_cons_succ]
          refine wpAnyH_take (i := 12) (v := undef) (by simp only [List.getElem?_toArray, List.getElem?_cons_succ, List.getElem?_cons_zero]; rfl) (by kernel_rfl) (by kernel_rfl) (by kernel_rfl) (by exact fun _ _ _ h => h) (Or.inr ⟨by rfl, rfl⟩) (by assumption) ?_
          try simp only [Act.put, List.setIfInBounds_toArray, List.set_cons_zero, List.set_cons_succ]
          refine wpAnyH_take (i := 13) (v := undef) (by simp only [List.getElem?_toArray, List.getElem?_cons_succ, List.getElem?_cons_zero]; rfl) (by kernel_rfl) (by kernel_rfl) (by kernel_rfl) (by exact fun _ _ _ h => h) (Or.inr ⟨by rfl, rfl⟩) (by assumption) ?_
          try simp only [Act.put, List.setIfInBounds_toArray, List.set_cons_zero, List.set_cons_succ]
          refine wpAnyH_take (i := 14) (v := undef) (by simp only [List.getElem?_toArray, List.getElem?_cons_succ, List.getElem?_cons_zero]; rfl) (by kernel_rfl) (by kernel_rfl) (by kernel_rfl) (by exact fun _ _ _ h => h) (Or.inr ⟨by rfl, rfl⟩) (by assumption) ?_
          try simp only [Act.put, List.setIfInBounds_toArray, List.set_cons_zero, List.set_cons_succ]
          refine wpAnyH_take (i := 15) (v := undef) (by simp only [List.getElem?_toArray, List.getElem?_cons_succ, List.getElem?_cons_zero]; rfl) (by kernel_rfl) (by kernel_rfl) (by kernel_rfl) (by exact fun _ _ _ h => h) (Or.inr ⟨by rfl, rfl⟩) (by assumption) ?_
          try simp only [Act.put, List.setIfInBounds_toArray, List.set_cons_zero, List.set_cons_succ]
          refine wpAnyH_take (i := 16) (v := undef) (by simp only [List.getElem?_toArray, List.getElem?_cons_succ, List.getElem?_cons_zero]; rfl) (by kernel_rfl) (by kernel_rfl) (by kernel_rfl) (by exact fun _ _ _ h => h) (Or.inr ⟨by rfl, rfl⟩) (by assumption) ?_
          try simp only [Act.put, List.setIfInBounds_toArray, List.set_cons_zero, List.set_cons_succ]
          refine wpAnyH_take (i := 17) (v := undef) (by simp only [List.getElem?_toArray, List.getElem?_cons_succ, List.getElem?_cons_zero]; rfl) (by kernel_rfl) (by kernel_rfl) (by kernel_rfl) (by exact fun _ _ _ h => h) (Or.inr ⟨by rfl, rfl⟩) (by assumption) ?_
          try simp only [Act.put, List.setIfInBounds_toArray, List.set_cons_zero, List.set_cons_succ]
          refine wpAnyH_take (i := 18) (v := undef) (by simp only [List.getElem?_toArray, List.getElem?_cons_succ, List.getElem?_cons_zero]; rfl) (by kernel_rfl) (by kernel_rfl) (by kernel_rfl) (by exact fun _ _ _ h => h) (Or.inr ⟨by rfl, rfl⟩) (by assumption) ?_
          try simp only [Act.put, List.setIfInBounds_toArray, List.set_cons_zero, List.set_cons_succ]
          refine wpAnyH_take (i := 19) (v := undef) (by simp only [List.getElem?_toArray, List.getElem?_cons_succ, List.getElem?_cons_zero]; rfl) (by kernel_rfl) (by kernel_rfl) (by kernel_rfl) (by exact fun _ _ _ h => h) (Or.inr ⟨by rfl, rfl⟩) (by assumption) ?_
          try simp only [Act.put, List.setIfInBounds_toArray, List.set_cons_zero, List.set_cons_succ]
          refine wpAnyH_take (i := 20) (v := ?v_20) (by simp only [List.getElem?_toArray, List.getElem?_cons_succ, List.getElem?_cons_zero]; rfl) (by kernel_rfl) (by kernel_rfl) (by kernel_rfl) (by exact fun _ _ _ h => h) (Or.inl ⟨by rfl, ?y_20⟩) (by assumption) ?_
          case y_20 => (intro w hSw; (try dsimp only at hSw); go_simp; try (with_reducible rfl))
          try simp only [Act.put, List.setIfInBounds_toArray, List.set_cons_zero, List.set_cons_succ]
          refine wpAnyH_take (i := 21) (v := ?v_21) (by simp only [List.getElem?_toArray, List.getElem?_cons_succ, List.getElem?_cons_zero]; rfl) (by kernel_rfl) (by kernel_rfl) (by kernel_rfl) (by exact fun _ _ _ h => h) (Or.inl ⟨by rfl, ?y_21⟩) (by assumption) ?_
          case y_21 => (intro w hSw; (try dsimp only at hSw); go_simp; try (with_reducible rfl))
          try simp only [Act.put, List.setIfInBounds_toArray, List.set_cons_zero, List.set_cons_succ]
          refine wpAnyH_done (by kernel_rfl) ?_ _
          clear hHeld
          obtain ⟨k0, k1, k2, k3⟩ := boxMa (HX.out.below hb8 HX.out.lt)
          have h8 := (hb8.cell hg).trans h00
          have X8 : Hid (Blk w8 w.heap.size 24 #[.int .i64 m.regs, .slice aa m.args.length ac, .int .i64 m.ret, .slice sa m.saved.length sc]) := HX.out.below hb8 HX.out.lt
          have I8 : Hid (IntsW w8 (some ⟨g, o, none⟩) Ls) := HI.out.below hb8
          have B8 : Hid (Below w.heap.size w w8) := HB.out.trans (hb8.mono HB.out.size)
          clear c0 c1 c2 c3 ISr HS hb0
          cases b
          · by_cases hxr : x = m.ret
            · have hxe : (x == m.ret) = true := by simpa using hxr
              subst hxr
              go_wp2
              go_quiet (fail)
              go_wp2
              go_roundw
              case rel => exact ⟨0 + 1, by rw [HT.out]; simp, by go_num, by omega, by omega, I8.out.below (below_draws (Below.refl _ _) _), X8.out.below (below_draws (Below.refl _ _) _) X8.out.lt, below_draws B8.out _⟩
              case measure => simp [intOf]; omega
            · have hxe : (x == m.ret) = false := by simpa using hxr
              go_wp2
              go_quiet (fail)
              go_wp2
              go_roundw
              case rel => exact ⟨0 + 1, by rw [HT.out]; simp [hxr], by go_num, by omega, by omega, I8.out.below (below_draws (Below.refl _ _) _), X8.out.below (below_draws (Below.refl _ _) _) X8.out.lt, below_draws B8.out _⟩
              case measure => simp [intOf]; omega
          · go_wp2
            go_quiet (fail)
            go_wp2
            go_roundw
            case rel => exact ⟨0 + 1, by rw [HT.out]; simp, by go_num, by omega, by omega, I8.out.below (below_draws (Below.refl _ _) _), X8.out.below (below_draws (Below.refl _ _) _) X8.out.lt, below_draws B8.out _⟩
            case measure => simp [intOf]; omega
        · have h1i : 1 ≤ i := by omega
          have hm1 : 0 ≤ i - 1 := by omega
          have hm2 : i - 1 < Ls.length := by omega
          have hwi : IntKind.i64.wrap (i - 1) = i - 1 := by rw [IntKind.wrap_i64]; omega
          have hgt : decide (0 < i) = true := decide_eq_true (by omega)
          obtain ⟨y, hy⟩ : ∃ y, Ls[i.toNat - 1]? = some y := ⟨_, List.getElem?_eq_getElem (by omega)⟩
          have hyx := LP.out (i.toNat - 1) i.toNat y x (by omega) hy hx
          have hle : decide (x ≤ y) = false := decide_eq_false (by omega)
          obtain ⟨g', o', e, hg, h1⟩ := HI.out _ y hy
          simp only [Option.some.injEq, Addr.mk.injEq, and_true] at e
          obtain ⟨rfl, rfl⟩ := e
          have HS : Hid (∀ W, Below wr.heap.size wr W → Below wr.heap.size wr W ∧ W.cell? ⟨w.heap.size, 0, none⟩ = some (.int .i64 m.regs) ∧ W.cell? ⟨w.heap.size, 1, none⟩ = some (.slice aa m.args.length ac) ∧ W.cell? ⟨w.heap.size, 2, none⟩ = some (.int .i64 m.ret) ∧ W.cell? ⟨w.heap.size, 3, none⟩ = some (.slice sa m.saved.length sc) ∧ W.cell? ⟨g, o + i.toNat, none⟩ = some (.int .i64 x) ∧ W.cell? ⟨g, o + (i.toNat - 1), none⟩ = some (.int .i64 y)) := fun W h => by
            obtain ⟨k0, k1, k2, k3⟩ := boxMa (HX.out.below h HX.out.lt)
            exact ⟨h, k0, k1, k2, k3, (h.cell hg).trans h0, (h.cell hg).trans h1⟩
          clear hx hy LP IS ISi
          go_upto_region 19 with fail
          go_region_held3 (fun W => Below wr.heap.size wr W ∧ W.cell? ⟨w.heap.size, 0, none⟩ = some (.int .i64 m.regs) ∧ W.cell? ⟨w.heap.size, 1, none⟩ = some (.slice aa m.args.length ac) ∧ W.cell? ⟨w.heap.size, 2, none⟩ = some (.int .i64 m.ret) ∧ W.cell? ⟨w.heap.size, 3, none⟩ = some (.slice sa m.saved.length sc) ∧ W.cell? ⟨g, o + i.toNat, none⟩ = some (.int .i64 x) ∧ W.cell? ⟨g, o + (i.toNat - 1), none⟩ = some (.int .i64 y))
            (first | (refine HS.out _ ?_; (repeat (first | with_reducible apply belM_alloc | with_reducible apply belM_drew)); (first | exact Below.refl _ _ | assumption)))
            (first | (go_at_call 11; refine (ISr.out _ (by go_split_ands; assumption)).mono ?_; rintro e w8 ⟨rfl, hb8⟩))
          all_goals (
            obtain ⟨k0, k1, k2, k3⟩ := boxMa (HX.out.below hb8 HX.out.lt)
            have h8 := (hb8.cell hg).trans h0
            have X8 : Hid (Blk w8 w.heap.size 24 #[.int .i64 m.regs, .slice aa m.args.length ac, .int .i64 m.ret, .slice sa m.saved.length sc]) := HX.out.below hb8 HX.out.lt
            have I8 : Hid (IntsW w8 (some ⟨g, o, none⟩) Ls) := HI.out.below hb8
            have B8 : Hid (Below w.heap.size w w8) := HB.out.trans (hb8.mono HB.out.size)
            clear c0 c1 c2 c3 HS ISr h1 hle hgt
            cases b
            · by_cases hxr : x = m.ret
              · have hxe : (x == m.ret) = true := by simpa using hxr
                subst hxr
                go_wp2
                go_quiet (fail)
                go_wp2
                go_roundw
                case rel => exact ⟨i + 1, by rw [HT.out]; simp, by go_num, by omega, by omega, I8.out.below (below_draws (Below.refl _ _) _), X8.out.below (below_draws (Below.refl _ _) _) X8.out.lt, below_draws B8.out _⟩
                case measure => simp [intOf]; omega
              · have hxe : (x == m.ret) = false := by simpa using hxr
                go_wp2
                go_quiet (fail)
                go_wp2
                go_roundw
                case rel => exact ⟨i + 1, by rw [HT.out]; simp [hxr], by go_num, by omega, by omega, I8.out.below (below_draws (Below.refl _ _) _), X8.out.below (below_draws (Below.refl _ _) _) X8.out.lt, below_draws B8.out _⟩
                case measure => simp [intOf]; omega
            · go_wp2
              go_quiet (fail)
              go_wp2
              go_roundw
              case rel => exact ⟨i + 1, by rw [HT.out]; simp, by go_num, by omega, by omega, I8.out.below (below_draws (Below.refl _ _) _), X8.out.below (below_draws (Below.refl _ _) _) X8.out.lt, below_draws B8.out _⟩
              case measure => simp [intOf]; omega)
      · have hb : b = true := by
          rw [← HC.out, List.take_of_length_le (by omega)]
          exact LR.out
        subst hb
        clear HC IS LP LR HI HX
        go_wp2_with fail
        refine (PS.out _ HB.out).mono ?_
        rintro e wa ⟨a3, c3, s3, d3, rfl, hm3, hb3, _⟩
        have hx3 : Below wa.heap.size wa (wa.alloc (.cells #[.int .i64 n.regs, .slice a3 n.args.length c3, .int .i64 n.ret, .slice s3 n.saved.length d3] 24)) := (Below.refl _ _).alloc (Nat.le_refl _) _
        have M3 : Hid (MaW (wa.alloc (.cells #[.int .i64 n.regs, .slice a3 n.args.length c3, .int .i64 n.ret, .slice s3 n.saved.length d3] 24)) n a3 s3) := hm3.below hx3
        have B3 : Hid (Below w.heap.size w (wa.alloc (.cells #[.int .i64 n.regs, .slice a3 n.args.length c3, .int .i64 n.ret, .slice s3 n.saved.length d3] 24))) := hb3.trans (hx3.mono hb3.size)
        have X3 : Hid (Blk (wa.alloc (.cells #[.int .i64 n.regs, .slice a3 n.args.length c3, .int .i64 n.ret, .slice s3 n.saved.length d3] 24)) wa.heap.size 24 #[.int .i64 n.regs, .slice a3 n.args.length c3, .int .i64 n.ret, .slice s3 n.saved.length d3]) := Blk.new wa _ _
        clear hm3 hb3 hx3
        by_cases hE : E = 0
        · obtain ⟨hn1, hn2, hn3⟩ := NR.out hE
          subst hE
          have PN := Lib.hid (PRr.out n a3 s3 c3 d3 _ hn1 NL.out.1 NL.out.2 M3.out B3.out)
          have QN := Lib.hid (PT.out n hn1)
          clear PS NR NZ
          have c0 := X3.out.cell 0
          have c1 := X3.out.cell 1
          have c2 := X3.out.cell 2
          have c3' := X3.out.cell 3
          go_wp2_with fail
          refine PN.out.mono ?_
          rintro e w4 ⟨rfl, hb4, hl4⟩
          have M4 : Hid (MaW w4 n a3 s3) := M3.out.below hl4
          have X4 : Hid (Blk w4 wa.heap.size 24 #[.int .i64 n.regs, .slice a3 n.args.length c3, .int .i64 n.ret, .slice s3 n.saved.length d3]) := X3.out.below hl4 X3.out.lt
          have B4 := Lib.hid hb4
          clear c0 c1 c2 c3' hb4 hl4 M3 X3 B3 PN
          go_wp2_with fail
          refine (QN.out _ B4.out).mono ?_
          rintro e w5 ⟨a5, c5, s5, d5, rfl, hm5, hb5, hl5⟩
          have hx5 : Below w5.heap.size w5 (w5.alloc (.cells #[.int .i64 n.regs, .slice a5 n.args.length c5, .int .i64 n.ret, .slice s5 n.saved.length d5] 24)) := (Below.refl _ _).alloc (Nat.le_refl _) _
          have M5 : Hid (MaW (w5.alloc (.cells #[.int .i64 n.regs, .slice a5 n.args.length c5, .int .i64 n.ret, .slice s5 n.saved.length d5] 24)) n a5 s5) := hm5.below hx5
          have M6 : Hid (MaW (w5.alloc (.cells #[.int .i64 n.regs, .slice a5 n.args.length c5, .int .i64 n.ret, .slice s5 n.saved.length d5] 24)) n a3 s3) := (M4.out.below hl5).below hx5
          have B5 : Hid (Below w.heap.size w (w5.alloc (.cells #[.int .i64 n.regs, .slice a5 n.args.length c5, .int .i64 n.ret, .slice s5 n.saved.length d5] 24))) := hb5.trans (hx5.mono hb5.size)
          have X5 : Hid (Blk (w5.alloc (.cells #[.int .i64 n.regs, .slice a5 n.args.length c5, .int .i64 n.ret, .slice s5 n.saved.length d5] 24)) w5.heap.size 24 #[.int .i64 n.regs, .slice a5 n.args.length c5, .int .i64 n.ret, .slice s5 n.saved.length d5]) := Blk.new w5 _ _
          have X6 : Hid (Blk (w5.alloc (.cells #[.int .i64 n.regs, .slice a5 n.args.length c5, .int .i64 n.ret, .slice s5 n.saved.length d5] 24)) wa.heap.size 24 #[.int .i64 n.regs, .slice a3 n.args.length c3, .int .i64 n.ret, .slice s3 n.saved.length d3]) := (X4.out.below hl5 X4.out.lt).alloc _
          have SS := Lib.hid (SA.out n a5 s5 a3 s3 c5 d5 c3 d3 _ NL.out.1 NL.out.2 M5.out M6.out B5.out)
          have e0 := X5.out.cell 0
          have e1 := X5.out.cell 1
          have e2 := X5.out.cell 2
          have e3 := X5.out.cell 3
          have g0 := X6.out.cell 0
          have g1 := X6.out.cell 1
          have g2 := X6.out.cell 2
          have g3 := X6.out.cell 3
          clear hm5 hb5 hl5 hx5 M4 X4 B4 M5 M6 X5 X6 QN
          go_wp2_with fail
          refine SS.out.mono ?_
          rintro e w7 ⟨rfl, hb7, _⟩
          have B7 := Lib.hid hb7
          clear hb7 e0 e1 e2 e3 g0 g1 g2 g3 SS B5
          go_wp2
          go_ret
          exact ⟨rfl, B7.out⟩
        · have hq : (E == 0) = false := by simpa using hE
          have hno := NZ.out hE
          have SS : Hid (Calls Tryd.prog 8 #[.agg #[.int .i64 n.regs, .slice a3 n.args.length c3, .int .i64 n.ret, .slice s3 n.saved.length d3], .agg #[.int .i64 0, .slice none 0 0, .int .i64 0, .slice none 0 0]] (wa.alloc (.cells #[.int .i64 n.regs, .slice a3 n.args.length c3, .int .i64 n.ret, .slice s3 n.saved.length d3] 24)) fun e w' => e = .returned (.bool true) ∧ Below w.heap.size w w' ∧ Hid (Below (wa.alloc (.cells #[.int .i64 n.regs, .slice a3 n.args.length c3, .int .i64 n.ret, .slice s3 n.saved.length d3] 24)).heap.size (wa.alloc (.cells #[.int .i64 n.regs, .slice a3 n.args.length c3, .int .i64 n.ret, .slice s3 n.saved.length d3] 24)) w')) := by
            have h := SA.out n a3 s3 none none c3 d3 0 0 _ NL.out.1 NL.out.2 M3.out (by rw [hno]; exact ⟨IntsW.nil _ _, IntsW.nil _ _⟩) B3.out
            rw [hno] at h ⊢
            exact h
          have c0 := X3.out.cell 0
          have c1 := X3.out.cell 1
          have c2 := X3.out.cell 2
          have c3' := X3.out.cell 3
          clear PS NR NZ hno
          go_wp2_with fail
          refine SS.out.mono ?_
          rintro e w4 ⟨rfl, hb4, _⟩
          have B4 := Lib.hid hb4
          clear hb4 c0 c1 c2 c3' SS B3 M3 X3
          go_wp2
          go_ret
          exact ⟨rfl, B4.out⟩
end Go.Proofs.YtfcnclnebnmdiaaDoor
