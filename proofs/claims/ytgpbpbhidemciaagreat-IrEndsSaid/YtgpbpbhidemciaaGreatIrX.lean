/-
  Rows of sets and of truths in memory; whether a truth is in a row; what blocks define. No condition beyond those that each theorem states.
-/
import Derived.Test.YtgpbpbhidemciaaGreatIrW
namespace Go.Proofs.YtgpbpbhidemciaaGreat
open Go.RowKit

def setsC (l : List Nat) : Array Value := Array.ofFn (n := l.length * 4) fun i => .int .u64 (wordM (l.getD (i.1 / 4) 0) (i.1 % 4))
theorem setsC_get {l : List Nat} {b : Nat} (hb : b < l.length) {j : Nat} (hj : j < 4) : (setsC l)[b * 4 + j]? = some (.int .u64 (wordM (l.getD b 0) j)) := by
  unfold setsC
  rw [Array.getElem?_ofFn, dif_pos (by omega)]
  have h1 : (b * 4 + j) / 4 = b := by omega
  have h2 : (b * 4 + j) % 4 = j := by omega
  simp only [h1, h2]
theorem setsC_set {l : List Nat} {b : Nat} (hb : b < l.length) (N : Nat) :
    ((((setsC l).setIfInBounds (b * 4) (.int .u64 (wordM N 0))).setIfInBounds (b * 4 + 1) (.int .u64 (wordM N 1))).setIfInBounds (b * 4 + 2) (.int .u64 (wordM N 2))).setIfInBounds (b * 4 + 3) (.int .u64 (wordM N 3)) = setsC (l.set b N) := by
  have hsz : (setsC l).size = l.length * 4 := by simp [setsC]
  apply Array.ext_getElem?
  intro i
  simp only [Array.getElem?_setIfInBounds, Array.size_setIfInBounds, hsz]
  unfold setsC
  simp only [Array.getElem?_ofFn, List.length_set]
  by_cases hi : i < l.length * 4
  · simp only [hi, dif_pos]
    by_cases hbi : i / 4 = b
    · have hq : (l.set b N).getD (i / 4) 0 = N := by
        rw [hbi, List.getD_eq_getElem?_getD, List.getElem?_set]
        simp [hb]
      rw [hq]
      have h4 : i = b * 4 ∨ i = b * 4 + 1 ∨ i = b * 4 + 2 ∨ i = b * 4 + 3 := by omega
      have hm : i % 4 = i - b * 4 := by omega
      rcases h4 with h | h | h | h
      · have n1 : ¬ b * 4 + 3 = i := by omega
        have n2 : ¬ b * 4 + 2 = i := by omega
        have n3 : ¬ b * 4 + 1 = i := by omega
        have n4 : b * 4 = i := by omega
        have : i % 4 = 0 := by omega
        rw [if_neg n1, if_neg n2, if_neg n3, if_pos n4, if_pos (by omega), this]
      · have n1 : ¬ b * 4 + 3 = i := by omega
        have n2 : ¬ b * 4 + 2 = i := by omega
        have n3 : b * 4 + 1 = i := by omega
        have : i % 4 = 1 := by omega
        rw [if_neg n1, if_neg n2, if_pos n3, if_pos (by omega), this]
      · have n1 : ¬ b * 4 + 3 = i := by omega
        have n2 : b * 4 + 2 = i := by omega
        have : i % 4 = 2 := by omega
        rw [if_neg n1, if_pos n2, if_pos (by omega), this]
      · have n1 : b * 4 + 3 = i := by omega
        have : i % 4 = 3 := by omega
        rw [if_pos n1, if_pos (by omega), this]
    · have hq : (l.set b N).getD (i / 4) 0 = l.getD (i / 4) 0 := by
        rw [List.getD_eq_getElem?_getD, List.getElem?_set, if_neg (fun e => hbi e.symm), ← List.getD_eq_getElem?_getD]
      rw [hq]
      have n1 : ¬ b * 4 + 3 = i := by omega
      have n2 : ¬ b * 4 + 2 = i := by omega
      have n3 : ¬ b * 4 + 1 = i := by omega
      have n4 : ¬ b * 4 = i := by omega
      simp only [n1, n2, n3, n4, if_false]
  · have n1 : ¬ b * 4 + 3 = i := by omega
    have n2 : ¬ b * 4 + 2 = i := by omega
    have n3 : ¬ b * 4 + 1 = i := by omega
    have n4 : ¬ b * 4 = i := by omega
    simp only [hi, n1, n2, n3, n4, if_false, dif_neg, not_false_eq_true]
theorem boxR {W : World} {g : Nat} {t : TypeId} {l : List Nat} {b : Nat} (h : Blk W g t (setsC l)) (hb : b < l.length) :
    W.cell? ⟨g, b * 4, none⟩ = some (.int .u64 (wordM (l.getD b 0) 0)) ∧ W.cell? ⟨g, b * 4 + 1, none⟩ = some (.int .u64 (wordM (l.getD b 0) 1)) ∧ W.cell? ⟨g, b * 4 + 2, none⟩ = some (.int .u64 (wordM (l.getD b 0) 2)) ∧ W.cell? ⟨g, b * 4 + 3, none⟩ = some (.int .u64 (wordM (l.getD b 0) 3)) :=
  ⟨(h.cell _).trans (setsC_get hb (j := 0) (by omega)), (h.cell _).trans (setsC_get hb (j := 1) (by omega)), (h.cell _).trans (setsC_get hb (j := 2) (by omega)), (h.cell _).trans (setsC_get hb (j := 3) (by omega))⟩
theorem boxRF {W : World} {g : Nat} {t : TypeId} {cs : Array Value} (h : Blk W g t cs) (b : Nat) :
    W.frozen? ⟨g, b * 4, none⟩ = false ∧ W.frozen? ⟨g, b * 4 + 1, none⟩ = false ∧ W.frozen? ⟨g, b * 4 + 2, none⟩ = false ∧ W.frozen? ⟨g, b * 4 + 3, none⟩ = false := ⟨h.free _, h.free _, h.free _, h.free _⟩
theorem blk_row {W : World} {g : Nat} {t : TypeId} {l : List Nat} {b : Nat} (h : Blk W g t (setsC l)) (hb : b < l.length) (N : Nat) :
    Blk ((((W.setCell ⟨g, b * 4, none⟩ (.int .u64 (wordM N 0))).setCell ⟨g, b * 4 + 1, none⟩ (.int .u64 (wordM N 1))).setCell ⟨g, b * 4 + 2, none⟩ (.int .u64 (wordM N 2))).setCell ⟨g, b * 4 + 3, none⟩ (.int .u64 (wordM N 3))) g t (setsC (l.set b N)) := by
  have h4 := (((h.put (b * 4) (.int .u64 (wordM N 0))).put (b * 4 + 1) (.int .u64 (wordM N 1))).put (b * 4 + 2) (.int .u64 (wordM N 2))).put (b * 4 + 3) (.int .u64 (wordM N 3))
  rw [setsC_set hb] at h4
  exact h4
theorem below_row {B : Nat} {A W : World} {g o : Nat} (h : Below B A W) (hg : B ≤ g) (a b c d : Value) : Below B A ((((W.setCell ⟨g, o, none⟩ a).setCell ⟨g, o + 1, none⟩ b).setCell ⟨g, o + 2, none⟩ c).setCell ⟨g, o + 3, none⟩ d) :=
  ((((h.setCell hg _).setCell hg _).setCell hg _).setCell hg _)
def truC (l : List Bool) : Array Value := (l.map Value.bool).toArray
theorem set_info : (Tryz.prog.info? 99).map (fun i => (i.zero, i.size, i.bytes)) = some (some (.agg #[.int .u64 0, .int .u64 0, .int .u64 0, .int .u64 0]), 4, 32) := by kernel_rfl
theorem bool_info : (Tryz.prog.info? 4).map (fun i => (i.zero, i.size, i.bytes)) = some (some (.bool false), 1, 1) := by kernel_rfl
theorem word_zero (j : Nat) : wordM 0 j = 0 := by unfold wordM; simp
/-- Sets, all empty. -/
theorem make_sets {n : Nat} (hn : n ≤ 1000000) (W : World) : (Instr.makeSlice 92 (.int .i64 n) (.int .i64 n)).run Tryz.prog W = .ok (.slice (some ⟨W.heap.size, 0, none⟩) n n) (W.alloc (.cells (setsC (List.replicate n 0)) 99)) := by
  obtain ⟨i, hi, hz, hs, hb⟩ := info_parts set_info
  have h := run_make (P := Tryz.prog) W 92 99 i _ Tryz.underlying92 hi hz .i64 .i64 (n : Int) (n : Int) (by omega) (Int.le_refl _) (by rw [hb]; omega) (by omega)
  rw [h, hs]
  simp only [Int.toNat_natCast]
  have e : madeCells (Value.agg #[.int .u64 0, .int .u64 0, .int .u64 0, .int .u64 0]).cells (n * 4) = setsC (List.replicate n 0) := by
    apply Array.ext_getElem?
    intro k
    unfold setsC madeCells
    simp only [Array.getElem?_ofFn, List.length_replicate, Array.getElem?_map, Array.getElem?_range]
    by_cases hk : k < n * 4
    · have hq : (List.replicate n 0).getD (k / 4) 0 = 0 := by
        rw [List.getD_eq_getElem?_getD, List.getElem?_replicate]
        split <;> rfl
      simp only [hk, dif_pos, if_true, Option.map_some, hq, word_zero]
      have h4 : k % 4 = 0 ∨ k % 4 = 1 ∨ k % 4 = 2 ∨ k % 4 = 3 := by omega
      have hc : (Value.agg #[.int .u64 0, .int .u64 0, .int .u64 0, .int .u64 0]).cells = #[.int .u64 0, .int .u64 0, .int .u64 0, .int .u64 0] := rfl
      rw [hc]
      rcases h4 with h | h | h | h <;> simp [h]
    · simp only [hk, dif_neg, if_false, Option.map_none, not_false_eq_true]
  rw [e]
/-- Truths, all false. -/
theorem make_truths {n : Nat} (hn : n ≤ 1000000) (W : World) : (Instr.makeSlice 93 (.int .i64 n) (.int .i64 n)).run Tryz.prog W = .ok (.slice (some ⟨W.heap.size, 0, none⟩) n n) (W.alloc (.cells (truC (List.replicate n false)) 4)) := by
  obtain ⟨i, hi, hz, hs, hb⟩ := info_parts bool_info
  have h := run_make (P := Tryz.prog) W 93 4 i _ Tryz.underlying93 hi hz .i64 .i64 (n : Int) (n : Int) (by omega) (Int.le_refl _) (by rw [hb]; omega) (by omega)
  rw [h, hs]
  simp only [Int.toNat_natCast, Nat.mul_one]
  have e : madeCells (Value.bool false).cells n = truC (List.replicate n false) := by
    have h1 := toList_madeCells_one (Value.bool false) n
    have h2 : (Value.bool false).cells = #[Value.bool false] := rfl
    rw [h2]
    apply Array.toList_inj.1
    rw [h1]
    unfold truC
    simp
  rw [e]
theorem truC_get {l : List Bool} {b : Nat} {x : Bool} (h : l[b]? = some x) : (truC l)[b]? = some (.bool x) := by
  unfold truC
  simp [h]
set_option maxHeartbeats 1000000 in
set_option maxRecDepth 100000 in
theorem index_any (l : List Bool) (g c : Nat) (w : World) (hl : l.length ≤ 1000000) (hB : Blk w g 4 (truC l)) :
    Calls Tryz.prog 93 #[.slice (some ⟨g, 0, none⟩) l.length c, .bool false] w fun e w' => (∃ n : Int, e = .returned (.int .i64 n) ∧ decide (0 ≤ n) = l.contains false) ∧ w = w' := by
  have HB := Lib.hid hB
  clear hB
  go_enter Tryz.func93, Tryz.ntmps93
  go_wp2
  go_loopw [8] (fun k wr => ∃ j : Nat, k = .int .i64 j ∧ j ≤ l.length ∧ Hid (l.contains false = (l.drop j).contains false) ∧ w = wr) (fun k _ => l.length - (intOf k).toNat)
  case atStart => exact ⟨0, rfl, Nat.zero_le _, rfl, rfl⟩
  case round =>
    obtain ⟨j, rfl, hj, HA, rfl⟩ := hrel
    by_cases hlt : j < l.length
    · have hlt' : (j : Int) < l.length := by omega
      have hj0 : (0 : Int) ≤ j := by omega
      obtain ⟨x, hx⟩ : ∃ x, l[j]? = some x := ⟨_, List.getElem?_eq_getElem hlt⟩
      have h0 : w.cell? ⟨g, j, none⟩ = some (.bool x) := (HB.out.cell j).trans (truC_get hx)
      have HD : Hid (l.contains false = (x == false || (l.drop (j + 1)).contains false)) := by
        show _ = _
        rw [HA.out, List.drop_eq_getElem_cons hlt, (List.getElem?_eq_some_iff.1 hx).2]
        cases x <;> simp
      clear hx HA
      cases x
      · go_wp2
        go_ret
        exact ⟨⟨j, rfl, by rw [HD.out]; simp⟩, rfl⟩
      · go_wp2
        go_roundw
        case rel => exact ⟨j + 1, by go_num, by omega, by have := HD.out; simpa [Hid] using this, trivial⟩
        case measure => simp [intOf]; omega
    · have e : j = l.length := by omega
      subst e
      go_wp2
      go_ret
      exact ⟨⟨-1, rfl, by rw [HA.out]; simp⟩, rfl⟩
set_option maxRecDepth 100000 in
theorem contains_any (l : List Bool) (g c : Nat) (w : World) (hl : l.length ≤ 1000000) (hB : Blk w g 4 (truC l)) :
    Calls Tryz.prog 57 #[.slice (some ⟨g, 0, none⟩) l.length c, .bool false] w fun e w' => e = .returned (.bool (l.contains false)) ∧ w = w' := by
  go_enter Tryz.func57, Tryz.ntmps57
  go_wp2_with fail
  refine (index_any l g c w hl hB).mono ?_
  rintro e w1 ⟨⟨n, rfl, hn⟩, rfl⟩
  have HN := Lib.hid hn
  clear hn
  go_wp2
  go_ret
  exact ⟨by rw [← HN.out]; rfl, rfl⟩
end Go.Proofs.YtgpbpbhidemciaaGreat
