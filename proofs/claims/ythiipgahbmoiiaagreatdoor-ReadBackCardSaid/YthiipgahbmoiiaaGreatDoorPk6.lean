/-
  Package ir's sets of variables, as numbers: what two have, either and both; what there is in one, rising. No condition beyond those that each theorem states.
  Functions of variables in memory, and whether their parts are right. No condition beyond those that each theorem states.
-/
import Derived.Test.YthiipgahbmoiiaaGreatDoorPk5
namespace Go.Proofs.YthiipgahbmoiiaaGreatDoor
open Go.RowKit

theorem run_index_four (i : Int) (hi0 : 0 ≤ i) (hi : i < 4) {cs : Array Value} {v : Value} (hv : cs[i.toNat]? = some v) (W : World) : (Instr.index 82 (.agg cs) (.int .i64 i)).run Tryz.prog W = .ok v W := by
  obtain ⟨j, hj, hjs⟩ := Option.map_eq_some_iff.1 u64_size
  have h4 : 0 ≤ i ∧ i < ((4 : Nat) : Int) := by omega
  simp only [Instr.index, asIntOf, Sem.run_bind, Sem.run_pure, Result.andThen_ok, run_underlying Tryz.underlying82]
  rw [if_pos h4]
  simp only [Sem.run_bind, sizeOf, typeInfo]
  simp [hj, hjs]
  exact run_part_int Tryz.underlying80 hv W
/-- The first few words are new ones. -/
def mixC (N R j : Nat) : Array Value := #[.int .u64 (wordM (if 0 < j then R else N) 0), .int .u64 (wordM (if 1 < j then R else N) 1), .int .u64 (wordM (if 2 < j then R else N) 2), .int .u64 (wordM (if 3 < j then R else N) 3)]
theorem mix_shared {N M : Nat} {j : Nat} (hj : j < 4) : (mixC N (N &&& M) j).setIfInBounds j (.int .u64 (bits .and .u64 (wordM N j : Int) (wordM M j : Int))) = mixC N (N &&& M) (j + 1) := by
  rw [u64_and_nat _ _ (word_lt N j) (word_lt M j), ← word_and]
  have h : j = 0 ∨ j = 1 ∨ j = 2 ∨ j = 3 := by omega
  unfold mixC
  rcases h with rfl | rfl | rfl | rfl <;> simp
set_option maxHeartbeats 2000000 in
set_option maxRecDepth 100000 in
theorem shared_any (N M : Nat) (w : World) : Calls Tryz.prog 96 #[setV N, setV M] w fun e w' => e = .returned (setV (N &&& M)) ∧ Below w.heap.size w w' := by
  have HS0 : Hid (setC N = _) := setC.eq_1 N
  have HS1 : Hid (setC M = _) := setC.eq_1 M
  unfold setV
  rw [HS0.out, HS1.out]
  go_enter Tryz.func96, Tryz.ntmps96
  go_wp2
  go_loopw [8] (fun k wr => ∃ (j : Nat) (z : Array Value), k = .int .i64 j ∧ j ≤ 4 ∧ Blk wr w.heap.size 82 (mixC N (N &&& M) j) ∧ Blk wr (w.heap.size + 2) 82 z ∧ z.size = 4 ∧ Below w.heap.size w wr) (fun k _ => 4 - (intOf k).toNat)
  case atStart =>
    have h2 : Below w.heap.size w (w.alloc (.cells (setC N) 82)) := (Below.refl _ w).alloc (Nat.le_refl _) _
    have h3 := h2.alloc h2.size (.cells (setC M) 82)
    have h4 := h3.alloc h3.size (.cells #[.int .u64 0, .int .u64 0, .int .u64 0, .int .u64 0] 82)
    have h1 := Blk.new ((w.alloc (.cells (setC N) 82)).alloc (.cells (setC M) 82)) 82 #[.int .u64 0, .int .u64 0, .int .u64 0, .int .u64 0]
    rw [HS0.out, HS1.out] at h1 h4
    exact ⟨0, #[.int .u64 0, .int .u64 0, .int .u64 0, .int .u64 0], rfl, Nat.zero_le _, ((Blk.new w _ _).alloc _).alloc _, by simpa using h1, rfl, h4⟩
  case round =>
    obtain ⟨j, z, rfl, hj, hX, hZ, hz, hB⟩ := hrel
    have HX := Lib.hid hX
    have HB := Lib.hid hB
    have HZ := Lib.hid hZ
    clear hX hB hZ
    have h4 : j = 0 ∨ j = 1 ∨ j = 2 ∨ j = 3 ∨ j = 4 := by omega
    rcases h4 with rfl | rfl | rfl | rfl | rfl
    · have c0 : wr.cell? ⟨w.heap.size, 0, none⟩ = some (.int .u64 (wordM N 0)) := HX.out.cell 0
      have f0 := HX.out.free 0
      have HN : Hid (Blk (wr.setCell ⟨w.heap.size, 0, none⟩ (.int .u64 (bits .and .u64 (wordM N 0 : Int) (wordM M 0 : Int)))) w.heap.size 82 (mixC N (N &&& M) 1)) := by
        have := HX.out.put 0 (.int .u64 (bits .and .u64 (wordM N 0 : Int) (wordM M 0 : Int)))
        rw [mix_shared (by omega)] at this
        exact this
      have hx := fun W => run_index_four 0 (by omega) (by omega) (cs := #[.int .u64 (wordM M 0), .int .u64 (wordM M 1), .int .u64 (wordM M 2), .int .u64 (wordM M 3)]) (v := .int .u64 (wordM M 0)) rfl W
      go_wp2
      go_roundw
      case rel => exact ⟨1, z, by go_num, by omega, HN.out, HZ.out.far (by simp) _, hz, HB.out.setCell (Nat.le_refl _) _⟩
      case measure => simp [intOf]
    · have c0 : wr.cell? ⟨w.heap.size, 1, none⟩ = some (.int .u64 (wordM N 1)) := HX.out.cell 1
      have f0 := HX.out.free 1
      have HN : Hid (Blk (wr.setCell ⟨w.heap.size, 1, none⟩ (.int .u64 (bits .and .u64 (wordM N 1 : Int) (wordM M 1 : Int)))) w.heap.size 82 (mixC N (N &&& M) 2)) := by
        have := HX.out.put 1 (.int .u64 (bits .and .u64 (wordM N 1 : Int) (wordM M 1 : Int)))
        rw [mix_shared (by omega)] at this
        exact this
      have hx := fun W => run_index_four 1 (by omega) (by omega) (cs := #[.int .u64 (wordM M 0), .int .u64 (wordM M 1), .int .u64 (wordM M 2), .int .u64 (wordM M 3)]) (v := .int .u64 (wordM M 1)) rfl W
      go_wp2
      go_roundw
      case rel => exact ⟨2, z, by go_num, by omega, HN.out, HZ.out.far (by simp) _, hz, HB.out.setCell (Nat.le_refl _) _⟩
      case measure => simp [intOf]
    · have c0 : wr.cell? ⟨w.heap.size, 2, none⟩ = some (.int .u64 (wordM N 2)) := HX.out.cell 2
      have f0 := HX.out.free 2
      have HN : Hid (Blk (wr.setCell ⟨w.heap.size, 2, none⟩ (.int .u64 (bits .and .u64 (wordM N 2 : Int) (wordM M 2 : Int)))) w.heap.size 82 (mixC N (N &&& M) 3)) := by
        have := HX.out.put 2 (.int .u64 (bits .and .u64 (wordM N 2 : Int) (wordM M 2 : Int)))
        rw [mix_shared (by omega)] at this
        exact this
      have hx := fun W => run_index_four 2 (by omega) (by omega) (cs := #[.int .u64 (wordM M 0), .int .u64 (wordM M 1), .int .u64 (wordM M 2), .int .u64 (wordM M 3)]) (v := .int .u64 (wordM M 2)) rfl W
      go_wp2
      go_roundw
      case rel => exact ⟨3, z, by go_num, by omega, HN.out, HZ.out.far (by simp) _, hz, HB.out.setCell (Nat.le_refl _) _⟩
      case measure => simp [intOf]
    · have c0 : wr.cell? ⟨w.heap.size, 3, none⟩ = some (.int .u64 (wordM N 3)) := HX.out.cell 3
      have f0 := HX.out.free 3
      have HN : Hid (Blk (wr.setCell ⟨w.heap.size, 3, none⟩ (.int .u64 (bits .and .u64 (wordM N 3 : Int) (wordM M 3 : Int)))) w.heap.size 82 (mixC N (N &&& M) 4)) := by
        have := HX.out.put 3 (.int .u64 (bits .and .u64 (wordM N 3 : Int) (wordM M 3 : Int)))
        rw [mix_shared (by omega)] at this
        exact this
      have hx := fun W => run_index_four 3 (by omega) (by omega) (cs := #[.int .u64 (wordM M 0), .int .u64 (wordM M 1), .int .u64 (wordM M 2), .int .u64 (wordM M 3)]) (v := .int .u64 (wordM M 3)) rfl W
      go_wp2
      go_roundw
      case rel => exact ⟨4, z, by go_num, by omega, HN.out, HZ.out.far (by simp) _, hz, HB.out.setCell (Nat.le_refl _) _⟩
      case measure => simp [intOf]
    · have c0 : wr.cell? ⟨w.heap.size, 0, none⟩ = some (.int .u64 (wordM (N &&& M) 0)) := HX.out.cell 0
      have c1 : wr.cell? ⟨w.heap.size, 1, none⟩ = some (.int .u64 (wordM (N &&& M) 1)) := HX.out.cell 1
      have c2 : wr.cell? ⟨w.heap.size, 2, none⟩ = some (.int .u64 (wordM (N &&& M) 2)) := HX.out.cell 2
      have c3 : wr.cell? ⟨w.heap.size, 3, none⟩ = some (.int .u64 (wordM (N &&& M) 3)) := HX.out.cell 3
      obtain ⟨f0, f1, f2, f3⟩ := boxF HZ.out
      have z0 := HZ.out.cell 0
      have z1 := HZ.out.cell 1
      have z2 := HZ.out.cell 2
      have z3 := HZ.out.cell 3
      rw [Array.getElem?_eq_getElem (by omega)] at z0 z1 z2 z3
      go_wp2
      (try simp only [Exit.inBlock, Exit.then])
      refine bodyPost_ret (results_cell_row rfl _ _ (w.heap.size + 2) 82 _ (0, 0) _ (by simp) (blk_four HZ.out hz _ _ _ _) Tryz.underlying82 rfl set_size) rfl ?_
      exact ⟨by rfl, below_four HB.out (by omega) _ _ _ _⟩
theorem mix_both {N M : Nat} {j : Nat} (hj : j < 4) : (mixC N (N ||| M) j).setIfInBounds j (.int .u64 (bits .or .u64 (wordM N j : Int) (wordM M j : Int))) = mixC N (N ||| M) (j + 1) := by
  rw [u64_or_nat _ _ (word_lt N j) (word_lt M j), ← word_or]
  have h : j = 0 ∨ j = 1 ∨ j = 2 ∨ j = 3 := by omega
  unfold mixC
  rcases h with rfl | rfl | rfl | rfl <;> simp
set_option maxHeartbeats 2000000 in
set_option maxRecDepth 100000 in
theorem both_any (N M : Nat) (w : World) : Calls Tryz.prog 98 #[setV N, setV M] w fun e w' => e = .returned (setV (N ||| M)) ∧ Below w.heap.size w w' := by
  have HS0 : Hid (setC N = _) := setC.eq_1 N
  have HS1 : Hid (setC M = _) := setC.eq_1 M
  unfold setV
  rw [HS0.out, HS1.out]
  go_enter Tryz.func98, Tryz.ntmps98
  go_wp2
  go_loopw [8] (fun k wr => ∃ (j : Nat) (z : Array Value), k = .int .i64 j ∧ j ≤ 4 ∧ Blk wr w.heap.size 82 (mixC N (N ||| M) j) ∧ Blk wr (w.heap.size + 2) 82 z ∧ z.size = 4 ∧ Below w.heap.size w wr) (fun k _ => 4 - (intOf k).toNat)
  case atStart =>
    have h2 : Below w.heap.size w (w.alloc (.cells (setC N) 82)) := (Below.refl _ w).alloc (Nat.le_refl _) _
    have h3 := h2.alloc h2.size (.cells (setC M) 82)
    have h4 := h3.alloc h3.size (.cells #[.int .u64 0, .int .u64 0, .int .u64 0, .int .u64 0] 82)
    have h1 := Blk.new ((w.alloc (.cells (setC N) 82)).alloc (.cells (setC M) 82)) 82 #[.int .u64 0, .int .u64 0, .int .u64 0, .int .u64 0]
    rw [HS0.out, HS1.out] at h1 h4
    exact ⟨0, #[.int .u64 0, .int .u64 0, .int .u64 0, .int .u64 0], rfl, Nat.zero_le _, ((Blk.new w _ _).alloc _).alloc _, by simpa using h1, rfl, h4⟩
  case round =>
    obtain ⟨j, z, rfl, hj, hX, hZ, hz, hB⟩ := hrel
    have HX := Lib.hid hX
    have HB := Lib.hid hB
    have HZ := Lib.hid hZ
    clear hX hB hZ
    have h4 : j = 0 ∨ j = 1 ∨ j = 2 ∨ j = 3 ∨ j = 4 := by omega
    rcases h4 with rfl | rfl | rfl | rfl | rfl
    · have c0 : wr.cell? ⟨w.heap.size, 0, none⟩ = some (.int .u64 (wordM N 0)) := HX.out.cell 0
      have f0 := HX.out.free 0
      have HN : Hid (Blk (wr.setCell ⟨w.heap.size, 0, none⟩ (.int .u64 (bits .or .u64 (wordM N 0 : Int) (wordM M 0 : Int)))) w.heap.size 82 (mixC N (N ||| M) 1)) := by
        have := HX.out.put 0 (.int .u64 (bits .or .u64 (wordM N 0 : Int) (wordM M 0 : Int)))
        rw [mix_both (by omega)] at this
        exact this
      have hx := fun W => run_index_four 0 (by omega) (by omega) (cs := #[.int .u64 (wordM M 0), .int .u64 (wordM M 1), .int .u64 (wordM M 2), .int .u64 (wordM M 3)]) (v := .int .u64 (wordM M 0)) rfl W
      go_wp2
      go_roundw
      case rel => exact ⟨1, z, by go_num, by omega, HN.out, HZ.out.far (by simp) _, hz, HB.out.setCell (Nat.le_refl _) _⟩
      case measure => simp [intOf]
    · have c0 : wr.cell? ⟨w.heap.size, 1, none⟩ = some (.int .u64 (wordM N 1)) := HX.out.cell 1
      have f0 := HX.out.free 1
      have HN : Hid (Blk (wr.setCell ⟨w.heap.size, 1, none⟩ (.int .u64 (bits .or .u64 (wordM N 1 : Int) (wordM M 1 : Int)))) w.heap.size 82 (mixC N (N ||| M) 2)) := by
        have := HX.out.put 1 (.int .u64 (bits .or .u64 (wordM N 1 : Int) (wordM M 1 : Int)))
        rw [mix_both (by omega)] at this
        exact this
      have hx := fun W => run_index_four 1 (by omega) (by omega) (cs := #[.int .u64 (wordM M 0), .int .u64 (wordM M 1), .int .u64 (wordM M 2), .int .u64 (wordM M 3)]) (v := .int .u64 (wordM M 1)) rfl W
      go_wp2
      go_roundw
      case rel => exact ⟨2, z, by go_num, by omega, HN.out, HZ.out.far (by simp) _, hz, HB.out.setCell (Nat.le_refl _) _⟩
      case measure => simp [intOf]
    · have c0 : wr.cell? ⟨w.heap.size, 2, none⟩ = some (.int .u64 (wordM N 2)) := HX.out.cell 2
      have f0 := HX.out.free 2
      have HN : Hid (Blk (wr.setCell ⟨w.heap.size, 2, none⟩ (.int .u64 (bits .or .u64 (wordM N 2 : Int) (wordM M 2 : Int)))) w.heap.size 82 (mixC N (N ||| M) 3)) := by
        have := HX.out.put 2 (.int .u64 (bits .or .u64 (wordM N 2 : Int) (wordM M 2 : Int)))
        rw [mix_both (by omega)] at this
        exact this
      have hx := fun W => run_index_four 2 (by omega) (by omega) (cs := #[.int .u64 (wordM M 0), .int .u64 (wordM M 1), .int .u64 (wordM M 2), .int .u64 (wordM M 3)]) (v := .int .u64 (wordM M 2)) rfl W
      go_wp2
      go_roundw
      case rel => exact ⟨3, z, by go_num, by omega, HN.out, HZ.out.far (by simp) _, hz, HB.out.setCell (Nat.le_refl _) _⟩
      case measure => simp [intOf]
    · have c0 : wr.cell? ⟨w.heap.size, 3, none⟩ = some (.int .u64 (wordM N 3)) := HX.out.cell 3
      have f0 := HX.out.free 3
      have HN : Hid (Blk (wr.setCell ⟨w.heap.size, 3, none⟩ (.int .u64 (bits .or .u64 (wordM N 3 : Int) (wordM M 3 : Int)))) w.heap.size 82 (mixC N (N ||| M) 4)) := by
        have := HX.out.put 3 (.int .u64 (bits .or .u64 (wordM N 3 : Int) (wordM M 3 : Int)))
        rw [mix_both (by omega)] at this
        exact this
      have hx := fun W => run_index_four 3 (by omega) (by omega) (cs := #[.int .u64 (wordM M 0), .int .u64 (wordM M 1), .int .u64 (wordM M 2), .int .u64 (wordM M 3)]) (v := .int .u64 (wordM M 3)) rfl W
      go_wp2
      go_roundw
      case rel => exact ⟨4, z, by go_num, by omega, HN.out, HZ.out.far (by simp) _, hz, HB.out.setCell (Nat.le_refl _) _⟩
      case measure => simp [intOf]
    · have c0 : wr.cell? ⟨w.heap.size, 0, none⟩ = some (.int .u64 (wordM (N ||| M) 0)) := HX.out.cell 0
      have c1 : wr.cell? ⟨w.heap.size, 1, none⟩ = some (.int .u64 (wordM (N ||| M) 1)) := HX.out.cell 1
      have c2 : wr.cell? ⟨w.heap.size, 2, none⟩ = some (.int .u64 (wordM (N ||| M) 2)) := HX.out.cell 2
      have c3 : wr.cell? ⟨w.heap.size, 3, none⟩ = some (.int .u64 (wordM (N ||| M) 3)) := HX.out.cell 3
      obtain ⟨f0, f1, f2, f3⟩ := boxF HZ.out
      have z0 := HZ.out.cell 0
      have z1 := HZ.out.cell 1
      have z2 := HZ.out.cell 2
      have z3 := HZ.out.cell 3
      rw [Array.getElem?_eq_getElem (by omega)] at z0 z1 z2 z3
      go_wp2
      (try simp only [Exit.inBlock, Exit.then])
      refine bodyPost_ret (results_cell_row rfl _ _ (w.heap.size + 2) 82 _ (0, 0) _ (by simp) (blk_four HZ.out hz _ _ _ _) Tryz.underlying82 rfl set_size) rfl ?_
      exact ⟨by rfl, below_four HB.out (by omega) _ _ _ _⟩
/-- What is in a set, below a number, rising. -/
def listM (N j : Nat) : List Int := ((List.range j).filter (fun v => v != 0 && N.testBit v)).map (fun (v : Nat) => (v : Int))
theorem listM_few (N j : Nat) : (listM N j).length ≤ j := by
  unfold listM
  rw [List.length_map]
  exact Nat.le_trans (List.length_filter_le _ _) (Nat.le_of_eq List.length_range)
theorem has_one {N j : Nat} (hj : j ≠ 0) : hasM N [(j : Int)] = N.testBit j := by
  cases h : N.testBit j
  · cases hh : hasM N [(j : Int)]
    · rfl
    · have := (has_iff (N := N) (l := [(j : Int)]) (by simp)).1 hh j (by simp) (by omega)
      simp [h] at this
  · rw [has_iff (by simp)]
    intro v hv _
    simp at hv
    subst hv
    simpa using h
theorem listM_skip {N j : Nat} (hj : j ≠ 0) (h : hasM N [(j : Int)] = false) : listM N (j + 1) = listM N j := by
  rw [has_one hj] at h
  unfold listM
  rw [List.range_succ, List.filter_append]
  simp [h]
theorem listM_take {N j : Nat} (hj : j ≠ 0) (h : hasM N [(j : Int)] = true) : listM N (j + 1) = listM N j ++ [(j : Int)] := by
  rw [has_one hj] at h
  unfold listM
  rw [List.range_succ, List.filter_append]
  simp [h, hj]
end Go.Proofs.YthiipgahbmoiiaaGreatDoor
namespace Go.Proofs.YthiipgahbmoiiaaGreatDoor
open Go.RowKit

set_option maxHeartbeats 1000000 in
set_option maxRecDepth 100000 in
theorem isBlock_any (x : Bb) (ia : Option Addr) (ic : Nat) (w : World) (hl : x.ins.length ≤ 1000000) (hl2 : ∀ i ∈ x.ins, i.args.length ≤ 1000000) (hI : InsW w ia x.ins) :
    Calls Tryz.prog 93 #[blV x ia ic] w fun e w' => e = .returned (.bool (isBlockB x)) ∧ Below w.heap.size w w' := by
  have HI := Lib.hid hI
  have HL2 := Lib.hid hl2
  have HX0 : Hid (Blk (w.alloc (.cells (blC x ia ic) 52)) w.heap.size 52 (blC x ia ic)) := Blk.new w _ _
  have HW0 : Hid (Below w.heap.size w (w.alloc (.cells (blC x ia ic) 52))) := (Below.refl _ w).alloc (Nat.le_refl _) _
  clear hI hl2
  unfold blV blC
  go_enter Tryz.func93, Tryz.ntmps93
  go_wp2
  go_loopw [8] (fun k wr => ∃ j : Nat, k = .int .i64 j ∧ j ≤ x.ins.length ∧ Hid (x.ins.all isInsB = (x.ins.drop j).all isInsB) ∧ Blk wr w.heap.size 52 (blC x ia ic) ∧ Below w.heap.size w wr) (fun k _ => x.ins.length - (intOf k).toNat)
  case atStart => exact ⟨0, rfl, Nat.zero_le _, rfl, HX0.out, HW0.out⟩
  case round =>
    obtain ⟨j, rfl, hj, HA, hX, hB⟩ := hrel
    have HX := Lib.hid hX
    have HB := Lib.hid hB
    clear hX hB HX0 HW0
    by_cases hlt : j < x.ins.length
    · have hlt' : (j : Int) < x.ins.length := by omega
      have hj0 : (0 : Int) ≤ j := by omega
      obtain ⟨y, hy⟩ : ∃ y, x.ins[j]? = some y := ⟨_, List.getElem?_eq_getElem hlt⟩
      obtain ⟨g, o, ya, yc, rfl, hg, hc⟩ := (HI.out.below HB.out) j y hy
      have hya := HL2.out y (List.mem_of_getElem? hy)
      have HD : Hid (x.ins.all isInsB = (isInsB y && (x.ins.drop (j + 1)).all isInsB)) := by
        show _ = _
        rw [HA.out, List.drop_eq_getElem_cons hlt, (List.getElem?_eq_some_iff.1 hy).2]
        rfl
      have h0 := hc.c0
      have h1 := hc.c1
      have h2 := hc.c2
      have h3 := hc.c3
      have h4 := hc.c4
      have h5 := hc.c5
      have h6 := hc.c6
      have h7 := hc.c7
      have HW2 : Hid (Below wr.heap.size wr (wr.alloc (.cells (insC y ya yc) 45))) := (Below.refl _ wr).alloc (Nat.le_refl _) _
      have HC := Lib.hid (isIns_any y ya yc _ (by omega) (hc.args.below HW2.out))
      clear hy HA hc
      unfold insV at HC
      go_wp2_with fail
      refine HC.out.mono ?_
      rintro e w1 ⟨rfl, hb⟩
      have hbb : Below wr.heap.size wr w1 := HW2.out.trans (hb.mono HW2.out.size)
      have HX1 : Hid (Blk w1 w.heap.size 52 (blC x (some ⟨g, o, none⟩) ic)) := HX.out.below hbb HX.out.lt
      have HB1 : Hid (Below w.heap.size w w1) := HB.out.trans (hbb.mono HB.out.size)
      clear hb hbb h0 h1 h2 h3 h4 h5 h6 h7 HW2 HC HX HB
      cases hi : isInsB y
      · rw [hi] at HD
        go_wp2
        go_ret
        refine ⟨?_, HB1.out⟩
        unfold isBlockB
        rw [HD.out]
        rfl
      · rw [hi] at HD
        go_wp2
        go_roundw
        case rel => exact ⟨j + 1, by go_num, by omega, HD, HX1.out, HB1.out⟩
        case measure => simp [intOf]; omega
    · have e : j = x.ins.length := by omega
      subst e
      obtain ⟨c0, c1, c2, c3, c4⟩ := box5 HX.out
      have HC := Lib.hid (isTerm_any x.tm wr)
      unfold termV at HC
      go_wp2_with fail
      refine HC.out.mono ?_
      rintro e w1 ⟨rfl, hb⟩
      go_wp2
      go_ret
      refine ⟨?_, HB.out.trans (hb.mono HB.out.size)⟩
      unfold isBlockB
      rw [HA.out]
      simp
set_option maxHeartbeats 1000000 in
set_option maxRecDepth 100000 in
theorem isLong_any (f : Ff) (pa : Option Addr) (pc : Nat) (ba : Option Addr) (bc : Nat) (w : World) (hS : SmallF f) (hF : FnW w f pa pc ba bc) :
    Calls Tryz.prog 91 #[fnV f pa pc ba bc] w fun e w' => e = .returned (.bool (isLongB f)) ∧ Below w.heap.size w w' := by
  have HF := Lib.hid hF
  have HS := Lib.hid hS
  have hp := hS.p
  have hb := hS.b
  have HE := Lib.hid (isLongB.eq_1 f)
  have HX0 : Hid (Blk (w.alloc (.cells (fnC f pa pc ba bc) 25)) w.heap.size 25 (fnC f pa pc ba bc)) := Blk.new w _ _
  have HW0 : Hid (Below w.heap.size w (w.alloc (.cells (fnC f pa pc ba bc) 25))) := (Below.refl _ w).alloc (Nat.le_refl _) _
  clear hF hS
  unfold fnV fnC
  go_enter Tryz.func91, Tryz.ntmps91
  by_cases h0 : f.blocks.length = 0
  · have q0 : ((f.blocks.length : Int) == 0) = true := by simp [h0]
    have e0 : (f.blocks.length == 0) = true := by simp [h0]
    rw [e0] at HE
    clear h0 e0
    go_wp2
    go_ret
    exact ⟨by rw [HE.out]; simp, HW0.out⟩
  have q0 : ((f.blocks.length : Int) == 0) = false := by rw [beq_eq_false_iff_ne]; omega
  have e0 : (f.blocks.length == 0) = false := by simp [h0]
  rw [e0] at HE
  by_cases h1 : 200 < f.blocks.length
  · have q1 : (200 : Int) < f.blocks.length := by omega
    rw [decide_eq_true h1] at HE
    go_wp2
    go_ret
    exact ⟨by rw [HE.out]; simp, HW0.out⟩
  have q1 : ¬ (200 : Int) < f.blocks.length := by omega
  have e1 : decide (200 < f.blocks.length) = false := by simpa using h1
  rw [e1] at HE
  by_cases h2 : 8 < f.params.length
  · have q2 : (8 : Int) < f.params.length := by omega
    rw [decide_eq_true h2] at HE
    go_wp2
    go_ret
    exact ⟨by rw [HE.out]; simp, HW0.out⟩
  have q2 : ¬ (8 : Int) < f.params.length := by omega
  have e2 : decide (8 < f.params.length) = false := by simpa using h2
  rw [e2] at HE
  go_wp2
  go_loopw [24] (fun k wr => ∃ j : Nat, k = .int .i64 j ∧ j ≤ f.blocks.length ∧ Hid (isLongB f = ((f.blocks.drop j).any fun b => decide (64 < b.ins.length))) ∧ Blk wr w.heap.size 25 (fnC f pa pc ba bc) ∧ Below w.heap.size w wr) (fun k _ => f.blocks.length - (intOf k).toNat)
  case atStart => exact ⟨0, rfl, Nat.zero_le _, by have := HE.out; simpa [Hid] using this, HX0.out, HW0.out⟩
  case round =>
    obtain ⟨j, rfl, hj, HA, hX, hB⟩ := hrel
    have HX := Lib.hid hX
    have HB := Lib.hid hB
    clear hX hB HX0 HW0 HE
    by_cases hlt : j < f.blocks.length
    · have hlt' : (j : Int) < f.blocks.length := by omega
      have hj0 : (0 : Int) ≤ j := by omega
      obtain ⟨y, hy⟩ : ∃ y, f.blocks[j]? = some y := ⟨_, List.getElem?_eq_getElem hlt⟩
      obtain ⟨g, o, ya, yc, rfl, hg, hc⟩ := (HF.out.below HB.out).blocks j y hy
      have hyi := (HS.out.i y (List.mem_of_getElem? hy)).1
      have HD : Hid (isLongB f = (decide (64 < y.ins.length) || ((f.blocks.drop (j + 1)).any fun b => decide (64 < b.ins.length)))) := by
        show _ = _
        rw [HA.out, List.drop_eq_getElem_cons hlt, (List.getElem?_eq_some_iff.1 hy).2]
        rfl
      have c0 := hc.c0
      have c1 := hc.c1
      have c2 := hc.c2
      have c3 := hc.c3
      have c4 := hc.c4
      have HW2 : Hid (Below wr.heap.size wr (wr.alloc (.cells (blC y ya yc) 52))) := (Below.refl _ wr).alloc (Nat.le_refl _) _
      clear hy HA hc
      by_cases h64 : 64 < y.ins.length
      · have q64 : (64 : Int) < y.ins.length := by omega
        rw [decide_eq_true h64] at HD
        go_wp2
        go_ret
        exact ⟨by rw [HD.out]; simp, HB.out.trans (HW2.out.mono HB.out.size)⟩
      · have q64 : ¬ (64 : Int) < y.ins.length := by omega
        have e64 : decide (64 < y.ins.length) = false := by simpa using h64
        rw [e64] at HD
        go_wp2
        go_roundw
        case rel => exact ⟨j + 1, by go_num, by omega, by have := HD.out; simpa [Hid] using this, HX.out.alloc _, HB.out.trans (HW2.out.mono HB.out.size)⟩
        case measure => simp [intOf]; omega
    · have e : j = f.blocks.length := by omega
      subst e
      go_wp2
      go_ret
      refine ⟨?_, HB.out⟩
      rw [HA.out]
      simp
/-- A set has those that were seen. -/
def SeenIn (N : Nat) (seen : List Int) : Prop := N < 2 ^ 256 ∧ ∀ v : Nat, v ≠ 0 → (N.testBit v = seen.contains (v : Int))
theorem SeenIn.more {N : Nat} {seen : List Int} {v : Int} (h : SeenIn N seen) (hv : 1 ≤ v ∧ v ≤ 200) : SeenIn (addM N v) (v :: seen) := by
  refine ⟨add_lt h.1 (by omega), fun u hu => ?_⟩
  rw [add_bit (by omega), h.2 u hu]
  simp only [List.contains_cons]
  by_cases he : (u : Int) = v
  · simp [he, hu]
  · have : ((u : Int) == v) = false := by simpa using he
    simp [he]
theorem SeenIn.has {N : Nat} {seen : List Int} {v : Int} (h : SeenIn N seen) (hv : 1 ≤ v ∧ v ≤ 200) : hasM N [v] = seen.contains v := by
  obtain ⟨u, rfl⟩ := Int.eq_ofNat_of_zero_le (show 0 ≤ v by omega)
  have hu : u ≠ 0 := by omega
  rw [has_one hu, h.2 u hu]
set_option maxHeartbeats 1000000 in
set_option maxRecDepth 100000 in
theorem areParams_any (l : List Int) (a : Option Addr) (c : Nat) (w : World) (hl : l.length ≤ 1000000) (hI : IntsW w a l) :
    Calls Tryz.prog 92 #[.slice a l.length c] w fun e w' => e = .returned (.bool (paramsB [] l)) ∧ Below w.heap.size w w' := by
  have HI := Lib.hid hI
  clear hI
  go_enter Tryz.func92, Tryz.ntmps92
  go_wp2
  go_loopw [8] (fun k wr => ∃ (j N : Nat) (seen : List Int), k = .int .i64 j ∧ j ≤ l.length ∧ Hid (paramsB [] l = paramsB seen (l.drop j)) ∧ SeenIn N seen ∧ Blk wr w.heap.size 82 (setC N) ∧ Below w.heap.size w wr) (fun k _ => l.length - (intOf k).toNat)
  case atStart => exact ⟨0, 0, [], rfl, Nat.zero_le _, rfl, ⟨by decide, by simp⟩, Blk.new w _ _, (Below.refl _ w).alloc (Nat.le_refl _) _⟩
  case round =>
    obtain ⟨j, N, seen, rfl, hj, HA, hN, hX, hB⟩ := hrel
    have HX := Lib.hid hX
    have HB := Lib.hid hB
    have HN := Lib.hid hN
    clear hX hB hN
    by_cases hlt : j < l.length
    · have hlt' : (j : Int) < l.length := by omega
      have hj0 : (0 : Int) ≤ j := by omega
      obtain ⟨x, hx⟩ : ∃ x, l[j]? = some x := ⟨_, List.getElem?_eq_getElem hlt⟩
      obtain ⟨g, o, rfl, hg, h0⟩ := (HI.out.below HB.out) j x hx
      have HD : Hid (paramsB [] l = (varB x && !(seen.contains x) && paramsB (x :: seen) (l.drop (j + 1)))) := by
        show _ = _
        rw [HA.out, List.drop_eq_getElem_cons hlt, (List.getElem?_eq_some_iff.1 hx).2]
        rfl
      clear hx HA
      have HI1 : Hid (IntsW (wr.alloc (.cells #[.int .i64 x] 3)) (some ⟨wr.heap.size, 0, none⟩) [x]) := IntsW.row (Blk.new wr _ _) (fun k x hx => by
        cases k with
        | zero => simpa using hx
        | succ k => simp at hx)
      have HBa : Hid (Below wr.heap.size wr (wr.alloc (.cells #[.int .i64 x] 3))) := (Below.refl _ wr).alloc (Nat.le_refl _) _
      go_wp2_with fail
      refine (areVars_any [x] _ 1 _ (by simp) HI1.out).mono ?_
      rintro e w1 ⟨rfl, rfl⟩
      have HX1 : Hid (Blk (wr.alloc (.cells #[.int .i64 x] 3)) w.heap.size 82 (setC N)) := HX.out.below HBa.out HX.out.lt
      have HB1 : Hid (Below w.heap.size w (wr.alloc (.cells #[.int .i64 x] 3))) := HB.out.trans (HBa.out.mono HB.out.size)
      clear HX HB HBa HI1
      have hall : [x].all varB = varB x := by simp
      rw [hall]
      cases hv : varB x
      · rw [hv] at HD
        go_wp2
        go_ret
        exact ⟨by rw [HD.out]; rfl, HB1.out⟩
      · rw [hv] at HD
        have hvx := var_iff.1 hv
        have hvr : ∀ v ∈ [x], 0 ≤ v ∧ v ≤ 200 := fun v hm => by simp at hm; omega
        generalize (wr.alloc (.cells #[.int .i64 x] 3)) = w1 at *
        obtain ⟨c0, c1, c2, c3⟩ := boxS HX1.out
        have HBb : Hid (Below w1.heap.size w1 (w1.alloc (.cells #[.int .i64 x] 3))) := (Below.refl _ w1).alloc (Nat.le_refl _) _
        have HI2 : Hid (IntsW (w1.alloc (.cells #[.int .i64 x] 3)) (some ⟨w1.heap.size, 0, none⟩) [x]) := IntsW.row (Blk.new w1 _ _) (fun k x hx => by
          cases k with
          | zero => simpa using hx
          | succ k => simp at hx)
        have HC := Lib.hid (has_any N HN.out.1 [x] _ 1 _ (by simp) hvr HI2.out)
        rw [HN.out.has hvx] at HC
        unfold setV setC at HC
        go_wp2_with fail
        refine HC.out.mono ?_
        rintro e w2 ⟨rfl, hb⟩
        have hbb : Below w1.heap.size w1 w2 := HBb.out.trans (hb.mono HBb.out.size)
        have HX2 : Hid (Blk w2 w.heap.size 82 (setC N)) := HX1.out.below hbb HX1.out.lt
        have HB2 : Hid (Below w.heap.size w w2) := HB1.out.trans (hbb.mono HB1.out.size)
        clear c0 c1 c2 c3 hb hbb HX1 HB1 HBb HI2 HC
        cases hs : seen.contains x
        · rw [hs] at HD
          obtain ⟨c0, c1, c2, c3⟩ := boxS HX2.out
          have HBc : Hid (Below w2.heap.size w2 (w2.alloc (.cells #[.int .i64 x] 3))) := (Below.refl _ w2).alloc (Nat.le_refl _) _
          have HI3 : Hid (IntsW (w2.alloc (.cells #[.int .i64 x] 3)) (some ⟨w2.heap.size, 0, none⟩) [x]) := IntsW.row (Blk.new w2 _ _) (fun k x hx => by
            cases k with
            | zero => simpa using hx
            | succ k => simp at hx)
          have HC := Lib.hid (with_any N [x] _ 1 _ (by simp) hvr HI3.out)
          unfold setV setC at HC
          go_wp2_with fail
          refine HC.out.mono ?_
          rintro e w3 ⟨rfl, hb⟩
          have hbb : Below w2.heap.size w2 w3 := HBc.out.trans (hb.mono HBc.out.size)
          have HX3 : Hid (Blk w3 w.heap.size 82 (setC N)) := HX2.out.below hbb HX2.out.lt
          have HB3 : Hid (Below w.heap.size w w3) := HB2.out.trans (hbb.mono HB2.out.size)
          clear c0 c1 c2 c3 hb hbb HX2 HB2 HBc HI3 HC
          obtain ⟨c0, c1, c2, c3⟩ := boxS HX3.out
          obtain ⟨f0, f1, f2, f3⟩ := boxF HX3.out
          go_wp2
          go_roundw
          case rel => exact ⟨j + 1, addM N x, x :: seen, by go_num, by omega, by have := HD.out; simpa [Hid] using this, HN.out.more hvx, blk_four HX3.out rfl _ _ _ _, below_four HB3.out (Nat.le_refl _) _ _ _ _⟩
          case measure => simp [intOf]; omega
        · rw [hs] at HD
          go_wp2
          go_ret
          exact ⟨by rw [HD.out]; rfl, HB2.out⟩
    · have e : j = l.length := by omega
      subst e
      go_wp2
      go_ret
      exact ⟨by rw [HA.out]; simp [paramsB], HB.out⟩
end Go.Proofs.YthiipgahbmoiiaaGreatDoor
