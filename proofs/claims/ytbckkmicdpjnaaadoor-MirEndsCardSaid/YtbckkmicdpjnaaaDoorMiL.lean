/-
  Rows of places, and package mir's places of registers. No condition beyond those that each theorem states.
-/
import Derived.Test.YtbckkmicdpjnaaaDoorMiB
import Derived.Test.YtbckkmicdpjnaaaDoorKOwn
namespace Go.Proofs.YtbckkmicdpjnaaaDoor
open Go.RowKit

def locC (l : Ll) : List Value := [.bool l.1, .int .i64 l.2]
theorem loc_len (l : Ll) : (locC l).length = 2 := rfl
theorem loc_one (l : Ll) : ∀ u ∈ locC l, u.oneCell' = true := fun u hu => by
  simp only [locC, List.mem_cons, List.not_mem_nil, or_false] at hu
  rcases hu with rfl | rfl <;> rfl
theorem loc_info : (Tryd.prog.info? 65).map (fun i => (i.zero, i.size, i.bytes)) = some (some (.agg #[.bool false, .int .i64 0]), 2, 16) := by kernel_rfl
/-- Places that a call made. -/
def OwnL (w : World) (B : Nat) (v : Value) (l : List Ll) : Prop := w.ownsRow B 65 2 v l.length (l.flatMap locC)
/-- Places lie in a row from there. -/
def LocsW (w : World) (a : Option Addr) (l : List Ll) : Prop := ∀ k x, l[k]? = some x → ∃ g o, a = some ⟨g, o, none⟩ ∧ g < w.heap.size ∧ w.cell? ⟨g, o + k * 2, none⟩ = some (.bool x.1) ∧ w.cell? ⟨g, o + k * 2 + 1, none⟩ = some (.int .i64 x.2)
theorem LocsW.below {w w' : World} {a : Option Addr} {l : List Ll} (h : LocsW w a l) (hb : Below w.heap.size w w') : LocsW w' a l := fun k x hx => by
  obtain ⟨g, o, ha, hg, h0, h1⟩ := h k x hx
  exact ⟨g, o, ha, Nat.lt_of_lt_of_le hg hb.size, (hb.cell hg).trans h0, (hb.cell hg).trans h1⟩
theorem flatL : ∀ (l : List Ll) (k : Nat) (x : Ll) (j : Nat), l[k]? = some x → j < 2 → (l.flatMap locC)[k * 2 + j]? = (locC x)[j]?
  | [], k, x, j, h, _ => by simp at h
  | y :: l, 0, x, j, h, hj => by
    simp only [List.getElem?_cons_zero, Option.some.injEq] at h
    subst h
    rw [List.flatMap_cons, Nat.zero_mul, Nat.zero_add, List.getElem?_append_left (by rw [loc_len]; exact hj)]
  | y :: l, k + 1, x, j, h, hj => by
    rw [List.getElem?_cons_succ] at h
    rw [List.flatMap_cons, List.getElem?_append_right (by rw [loc_len, Nat.succ_mul]; omega), loc_len, show (k + 1) * 2 + j - 2 = k * 2 + j by rw [Nat.succ_mul]; omega]
    exact flatL l k x j h hj
theorem OwnL.shape {w : World} {B : Nat} {v : Value} {l : List Ll} (h : OwnL w B v l) : ∃ a c, v = .slice a l.length c ∧ (a = none → c = 0) ∧ LocsW w a l := by
  have h0 := h
  rcases h.2 with ⟨rfl, h1⟩ | ⟨g, cap, cur, rfl, _⟩
  · have : l = [] := List.length_eq_zero_iff.1 h1
    subst this
    exact ⟨none, 0, rfl, fun _ => rfl, fun k x hx => by simp at hx⟩
  · refine ⟨some ⟨g, 0, none⟩, cap, rfl, (fun h => by cases h), fun k x hx => ?_⟩
    have hk := (List.getElem?_eq_some_iff.1 hx).1
    refine ⟨g, 0, rfl, (World.ownsRow.lt h0 g rfl).2, ?_, ?_⟩
    · have h2 := World.ownsRow.cellAt h0 (k * 2 + 0) (by omega)
      rw [flatL l k x 0 hx (by omega)] at h2
      rw [Nat.zero_add]
      exact h2
    · have h2 := World.ownsRow.cellAt h0 (k * 2 + 1) (by omega)
      rw [flatL l k x 1 hx (by omega)] at h2
      rw [Nat.zero_add]
      exact h2
theorem OwnL.one {w : World} {B g : Nat} {s : Bool} {n : Int} (h : Blk w g 65 #[.bool s, .int .i64 n]) (hB : B ≤ g) : OwnL w B (.slice (some ⟨g, 0, none⟩) 1 1) [(s, n)] :=
  ⟨by simp [locC], .inr ⟨g, 1, _, rfl, hB, h, Nat.le_refl _, by simp only [maxLen]; omega, by simp, by simp [locC]⟩⟩
theorem OwnL.none (w : World) (B : Nat) : OwnL w B (.slice none 0 0) [] := ⟨by simp, .inl ⟨rfl, rfl⟩⟩
set_option maxHeartbeats 2000000 in
set_option maxRecDepth 100000 in
theorem registers_any (l : List Int) (a : Option Addr) (c : Nat) (w : World) (hl : l.length ≤ 1000000) (hI : IntsW w a l) :
    Calls Tryd.prog 39 #[.slice a l.length c] w fun e w' => ∃ v, e = .returned v ∧ OwnL w' w.heap.size v (l.map regL) ∧ Below w.heap.size w w' := by
  obtain ⟨i0, hi0, hz0, hz1, hz2⟩ := info_parts loc_info
  have HI := Lib.hid hI
  clear hI
  go_enter Tryd.func39, Tryd.ntmps39
  go_wp2
  go_loopw [2, 7] (fun v k wr => ∃ (j : Nat) (u : Value), u = v ∧ k = .int .i64 j ∧ j ≤ l.length ∧ OwnL wr w.heap.size v ((l.take j).map regL) ∧ Below w.heap.size w wr) (fun _ k _ => l.length - (intOf k).toNat)
  case atStart => exact ⟨0, _, rfl, rfl, Nat.zero_le _, OwnL.none _ _, Below.refl _ _⟩
  case round =>
    obtain ⟨j, v, rfl, rfl, hj, hO, hB⟩ := hrel
    have HO := Lib.hid hO
    have HB := Lib.hid hB
    clear hO hB
    by_cases hlt : j < l.length
    · have hlt' : (j : Int) < l.length := by omega
      have hj0 : (0 : Int) ≤ j := by omega
      obtain ⟨x, hx⟩ : ∃ x, l[j]? = some x := ⟨_, List.getElem?_eq_getElem hlt⟩
      obtain ⟨g, o, rfl, hg, h0⟩ := (HI.out.below HB.out) j x hx
      have HX := Lib.hid hx
      clear hx
      have hlen : ((l.take j).map regL).length = j := by simp; omega
      have HO3 : Hid (OwnL (wr.alloc (.cells (locC (regL x)).toArray 65)) w.heap.size v ((l.take j).map regL)) := Lib.hid (World.ownsRow.alloc HO.out _)
      have HB3 : Hid (Below w.heap.size w (wr.alloc (.cells (locC (regL x)).toArray 65))) := Lib.hid (HB.out.alloc HB.out.size _)
      go_wp2_with (at_builtin; go_must (refine wpList_append_lies _ rfl _ _ _ rfl w.heap.size 65 i0 _ 2 16 Tryd.underlying46 hi0 hz0 hz1 hz2 rfl (by omega) v ((l.take j).map regL).length (((l.take j).map regL).flatMap locC) rfl HO3.out ⟨wr.heap.size, 0, none⟩ 1 1 (locC (regL x)) rfl rfl (World.news_of_block (Blk.new wr _ _)) (loc_one _) (by omega) (by simp only [maxLen]; omega) (by omega) HB3.out.size _ rfl ?_; intro gg gcap w4 hown4 hgrow4 hat4 hlt4))
      have HB4 : Hid (Below w.heap.size w w4) := Lib.hid (HB3.out.grown hgrow4 HB3.out.size (fun k hk => (World.ownsRow.lt HO3.out k hk).1))
      have HO4 : Hid (OwnL w4 w.heap.size (.slice (some ⟨gg, 0, none⟩) (j + 1) gcap) ((l.take (j + 1)).map regL)) := by
        show World.ownsRow _ _ _ _ _ _ _
        rw [List.take_add_one, HX.out]
        simp only [Option.toList_some, List.map_append, List.map_cons, List.map_nil, List.flatMap_append, List.flatMap_cons, List.flatMap_nil, List.append_nil, List.length_append, List.length_cons, List.length_nil]
        rw [hlen] at hown4 ⊢
        exact hown4
      clear hown4 hgrow4 hat4 hlt4
      go_roundw
      case rel => exact ⟨j + 1, _, rfl, by go_num, by omega, HO4.out, HB4.out⟩
      case measure => simp [intOf]; omega
    · have e : j = l.length := by omega
      subst e
      have hlt' : ¬ (l.length : Int) < l.length := by omega
      rw [List.take_length] at HO
      go_wp2
      go_ret
      exact ⟨v, rfl, HO.out, HB.out⟩
end Go.Proofs.YtbckkmicdpjnaaaDoor
