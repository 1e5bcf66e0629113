/-
  Package ir's sets of variables, as numbers: what two have, either and both; what there is in one, rising. No condition beyond those that each theorem states.
-/
import Derived.Test.YtgpbpbhidemciaaGreatIrS
namespace Go.Proofs.YtgpbpbhidemciaaGreat
open Go.RowKit

theorem run_index_four (i : Int) (hi0 : 0 ≤ i) (hi : i < 4) {cs : Array Value} {v : Value} (hv : cs[i.toNat]? = some v) (W : World) : (Instr.index 99 (.agg cs) (.int .i64 i)).run Tryz.prog W = .ok v W := by
  obtain ⟨j, hj, hjs⟩ := Option.map_eq_some_iff.1 u64_size
  have h4 : 0 ≤ i ∧ i < ((4 : Nat) : Int) := by omega
  simp only [Instr.index, asIntOf, Sem.run_bind, Sem.run_pure, Result.andThen_ok, run_underlying Tryz.underlying99]
  rw [if_pos h4]
  simp only [Sem.run_bind, sizeOf, typeInfo]
  simp [hj, hjs]
  exact run_part_int Tryz.underlying97 hv W
/-- The first few words are new ones. -/
def mixC (N R j : Nat) : Array Value := #[.int .u64 (wordM (if 0 < j then R else N) 0), .int .u64 (wordM (if 1 < j then R else N) 1), .int .u64 (wordM (if 2 < j then R else N) 2), .int .u64 (wordM (if 3 < j then R else N) 3)]
theorem mix_shared {N M : Nat} {j : Nat} (hj : j < 4) : (mixC N (N &&& M) j).setIfInBounds j (.int .u64 (bits .and .u64 (wordM N j : Int) (wordM M j : Int))) = mixC N (N &&& M) (j + 1) := by
  rw [u64_and_nat _ _ (word_lt N j) (word_lt M j), ← word_and]
  have h : j = 0 ∨ j = 1 ∨ j = 2 ∨ j = 3 := by omega
  unfold mixC
  rcases h with rfl | rfl | rfl | rfl <;> simp
set_option maxHeartbeats 2000000 in
set_option maxRecDepth 100000 in
theorem shared_any (N M : Nat) (w : World) : Calls Tryz.prog 91 #[setV N, setV M] w fun e w' => e = .returned (setV (N &&& M)) ∧ Below w.heap.size w w' := by
  have HS0 : Hid (setC N = _) := setC.eq_1 N
  have HS1 : Hid (setC M = _) := setC.eq_1 M
  unfold setV
  rw [HS0.out, HS1.out]
  go_enter Tryz.func91, Tryz.ntmps91
  go_wp2
  go_loopw [8] (fun k wr => ∃ (j : Nat) (z : Array Value), k = .int .i64 j ∧ j ≤ 4 ∧ Blk wr w.heap.size 99 (mixC N (N &&& M) j) ∧ Blk wr (w.heap.size + 2) 99 z ∧ z.size = 4 ∧ Below w.heap.size w wr) (fun k _ => 4 - (intOf k).toNat)
  case atStart =>
    have h2 : Below w.heap.size w (w.alloc (.cells (setC N) 99)) := (Below.refl _ w).alloc (Nat.le_refl _) _
    have h3 := h2.alloc h2.size (.cells (setC M) 99)
    have h4 := h3.alloc h3.size (.cells #[.int .u64 0, .int .u64 0, .int .u64 0, .int .u64 0] 99)
    have h1 := Blk.new ((w.alloc (.cells (setC N) 99)).alloc (.cells (setC M) 99)) 99 #[.int .u64 0, .int .u64 0, .int .u64 0, .int .u64 0]
    rw [HS0.out, HS1.out] at h1 h4
    exact ⟨0, #[.int .u64 0, .int .u64 0, .int .u64 0, .int .u64 0], rfl, Nat.zero_le _, ((Blk.new w _ _).alloc _).alloc _, by simpa using h1, rfl, h4⟩
  case round =>
    obtain ⟨j, z, rfl, hj, hX, hZ, hz, hB⟩ := hrel
    have HX := Lib.hid hX
    have HB := Lib.hid hB
    have HZ := Lib.hid hZ
    clear hX hB hZ
    have h4 : j = 0 ∨ j = 1 ∨ j = 2 ∨ j = 3 ∨ j = 4 := by omega
    rcases h4 with rfl | rfl | rfl | rfl | rfl
    · have c0 : wr.cell? ⟨w.heap.size, 0, none⟩ = some (.int .u64 (wordM N 0)) := HX.out.cell 0
      have f0 := HX.out.free 0
      have HN : Hid (Blk (wr.setCell ⟨w.heap.size, 0, none⟩ (.int .u64 (bits .and .u64 (wordM N 0 : Int) (wordM M 0 : Int)))) w.heap.size 99 (mixC N (N &&& M) 1)) := by
        have := HX.out.put 0 (.int .u64 (bits .and .u64 (wordM N 0 : Int) (wordM M 0 : Int)))
        rw [mix_shared (by omega)] at this
        exact this
      have hx := fun W => run_index_four 0 (by omega) (by omega) (cs := #[.int .u64 (wordM M 0), .int .u64 (wordM M 1), .int .u64 (wordM M 2), .int .u64 (wordM M 3)]) (v := .int .u64 (wordM M 0)) rfl W
      go_wp2
      go_roundw
      case rel => exact ⟨1, z, by go_num, by omega, HN.out, HZ.out.far (by simp) _, hz, HB.out.setCell (Nat.le_refl _) _⟩
      case measure => simp [intOf]
    · have c0 : wr.cell? ⟨w.heap.size, 1, none⟩ = some (.int .u64 (wordM N 1)) := HX.out.cell 1
      have f0 := HX.out.free 1
      have HN : Hid (Blk (wr.setCell ⟨w.heap.size, 1, none⟩ (.int .u64 (bits .and .u64 (wordM N 1 : Int) (wordM M 1 : Int)))) w.heap.size 99 (mixC N (N &&& M) 2)) := by
        have := HX.out.put 1 (.int .u64 (bits .and .u64 (wordM N 1 : Int) (wordM M 1 : Int)))
        rw [mix_shared (by omega)] at this
        exact this
      have hx := fun W => run_index_four 1 (by omega) (by omega) (cs := #[.int .u64 (wordM M 0), .int .u64 (wordM M 1), .int .u64 (wordM M 2), .int .u64 (wordM M 3)]) (v := .int .u64 (wordM M 1)) rfl W
      go_wp2
      go_roundw
      case rel => exact ⟨2, z, by go_num, by omega, HN.out, HZ.out.far (by simp) _, hz, HB.out.setCell (Nat.le_refl _) _⟩
      case measure => simp [intOf]
    · have c0 : wr.cell? ⟨w.heap.size, 2, none⟩ = some (.int .u64 (wordM N 2)) := HX.out.cell 2
      have f0 := HX.out.free 2
      have HN : Hid (Blk (wr.setCell ⟨w.heap.size, 2, none⟩ (.int .u64 (bits .and .u64 (wordM N 2 : Int) (wordM M 2 : Int)))) w.heap.size 99 (mixC N (N &&& M) 3)) := by
        have := HX.out.put 2 (.int .u64 (bits .and .u64 (wordM N 2 : Int) (wordM M 2 : Int)))
        rw [mix_shared (by omega)] at this
        exact this
      have hx := fun W => run_index_four 2 (by omega) (by omega) (cs := #[.int .u64 (wordM M 0), .int .u64 (wordM M 1), .int .u64 (wordM M 2), .int .u64 (wordM M 3)]) (v := .int .u64 (wordM M 2)) rfl W
      go_wp2
      go_roundw
      case rel => exact ⟨3, z, by go_num, by omega, HN.out, HZ.out.far (by simp) _, hz, HB.out.setCell (Nat.le_refl _) _⟩
      case measure => simp [intOf]
    · have c0 : wr.cell? ⟨w.heap.size, 3, none⟩ = some (.int .u64 (wordM N 3)) := HX.out.cell 3
      have f0 := HX.out.free 3
      have HN : Hid (Blk (wr.setCell ⟨w.heap.size, 3, none⟩ (.int .u64 (bits .and .u64 (wordM N 3 : Int) (wordM M 3 : Int)))) w.heap.size 99 (mixC N (N &&& M) 4)) := by
        have := HX.out.put 3 (.int .u64 (bits .and .u64 (wordM N 3 : Int) (wordM M 3 : Int)))
        rw [mix_shared (by omega)] at this
        exact this
      have hx := fun W => run_index_four 3 (by omega) (by omega) (cs := #[.int .u64 (wordM M 0), .int .u64 (wordM M 1), .int .u64 (wordM M 2), .int .u64 (wordM M 3)]) (v := .int .u64 (wordM M 3)) rfl W
      go_wp2
      go_roundw
      case rel => exact ⟨4, z, by go_num, by omega, HN.out, HZ.out.far (by simp) _, hz, HB.out.setCell (Nat.le_refl _) _⟩
      case measure => simp [intOf]
    · have c0 : wr.cell? ⟨w.heap.size, 0, none⟩ = some (.int .u64 (wordM (N &&& M) 0)) := HX.out.cell 0
      have c1 : wr.cell? ⟨w.heap.size, 1, none⟩ = some (.int .u64 (wordM (N &&& M) 1)) := HX.out.cell 1
      have c2 : wr.cell? ⟨w.heap.size, 2, none⟩ = some (.int .u64 (wordM (N &&& M) 2)) := HX.out.cell 2
      have c3 : wr.cell? ⟨w.heap.size, 3, none⟩ = some (.int .u64 (wordM (N &&& M) 3)) := HX.out.cell 3
      obtain ⟨f0, f1, f2, f3⟩ := boxF HZ.out
      have z0 := HZ.out.cell 0
      have z1 := HZ.out.cell 1
      have z2 := HZ.out.cell 2
      have z3 := HZ.out.cell 3
      rw [Array.getElem?_eq_getElem (by omega)] at z0 z1 z2 z3
      go_wp2
      (try simp only [Exit.inBlock, Exit.then])
      refine bodyPost_ret (results_cell_row rfl _ _ (w.heap.size + 2) 99 _ (0, 0) _ (by simp) (blk_four HZ.out hz _ _ _ _) Tryz.underlying99 rfl set_size) rfl ?_
      exact ⟨by rfl, below_four HB.out (by omega) _ _ _ _⟩
theorem mix_both {N M : Nat} {j : Nat} (hj : j < 4) : (mixC N (N ||| M) j).setIfInBounds j (.int .u64 (bits .or .u64 (wordM N j : Int) (wordM M j : Int))) = mixC N (N ||| M) (j + 1) := by
  rw [u64_or_nat _ _ (word_lt N j) (word_lt M j), ← word_or]
  have h : j = 0 ∨ j = 1 ∨ j = 2 ∨ j = 3 := by omega
  unfold mixC
  rcases h with rfl | rfl | rfl | rfl <;> simp
set_option maxHeartbeats 2000000 in
set_option maxRecDepth 100000 in
theorem both_any (N M : Nat) (w : World) : Calls Tryz.prog 92 #[setV N, setV M] w fun e w' => e = .returned (setV (N ||| M)) ∧ Below w.heap.size w w' := by
  have HS0 : Hid (setC N = _) := setC.eq_1 N
  have HS1 : Hid (setC M = _) := setC.eq_1 M
  unfold setV
  rw [HS0.out, HS1.out]
  go_enter Tryz.func92, Tryz.ntmps92
  go_wp2
  go_loopw [8] (fun k wr => ∃ (j : Nat) (z : Array Value), k = .int .i64 j ∧ j ≤ 4 ∧ Blk wr w.heap.size 99 (mixC N (N ||| M) j) ∧ Blk wr (w.heap.size + 2) 99 z ∧ z.size = 4 ∧ Below w.heap.size w wr) (fun k _ => 4 - (intOf k).toNat)
  case atStart =>
    have h2 : Below w.heap.size w (w.alloc (.cells (setC N) 99)) := (Below.refl _ w).alloc (Nat.le_refl _) _
    have h3 := h2.alloc h2.size (.cells (setC M) 99)
    have h4 := h3.alloc h3.size (.cells #[.int .u64 0, .int .u64 0, .int .u64 0, .int .u64 0] 99)
    have h1 := Blk.new ((w.alloc (.cells (setC N) 99)).alloc (.cells (setC M) 99)) 99 #[.int .u64 0, .int .u64 0, .int .u64 0, .int .u64 0]
    rw [HS0.out, HS1.out] at h1 h4
    exact ⟨0, #[.int .u64 0, .int .u64 0, .int .u64 0, .int .u64 0], rfl, Nat.zero_le _, ((Blk.new w _ _).alloc _).alloc _, by simpa using h1, rfl, h4⟩
  case round =>
    obtain ⟨j, z, rfl, hj, hX, hZ, hz, hB⟩ := hrel
    have HX := Lib.hid hX
    have HB := Lib.hid hB
    have HZ := Lib.hid hZ
    clear hX hB hZ
    have h4 : j = 0 ∨ j = 1 ∨ j = 2 ∨ j = 3 ∨ j = 4 := by omega
    rcases h4 with rfl | rfl | rfl | rfl | rfl
    · have c0 : wr.cell? ⟨w.heap.size, 0, none⟩ = some (.int .u64 (wordM N 0)) := HX.out.cell 0
      have f0 := HX.out.free 0
      have HN : Hid (Blk (wr.setCell ⟨w.heap.size, 0, none⟩ (.int .u64 (bits .or .u64 (wordM N 0 : Int) (wordM M 0 : Int)))) w.heap.size 99 (mixC N (N ||| M) 1)) := by
        have := HX.out.put 0 (.int .u64 (bits .or .u64 (wordM N 0 : Int) (wordM M 0 : Int)))
        rw [mix_both (by omega)] at this
        exact this
      have hx := fun W => run_index_four 0 (by omega) (by omega) (cs := #[.int .u64 (wordM M 0), .int .u64 (wordM M 1), .int .u64 (wordM M 2), .int .u64 (wordM M 3)]) (v := .int .u64 (wordM M 0)) rfl W
      go_wp2
      go_roundw
      case rel => exact ⟨1, z, by go_num, by omega, HN.out, HZ.out.far (by simp) _, hz, HB.out.setCell (Nat.le_refl _) _⟩
      case measure => simp [intOf]
    · have c0 : wr.cell? ⟨w.heap.size, 1, none⟩ = some (.int .u64 (wordM N 1)) := HX.out.cell 1
      have f0 := HX.out.free 1
      have HN : Hid (Blk (wr.setCell ⟨w.heap.size, 1, none⟩ (.int .u64 (bits .or .u64 (wordM N 1 : Int) (wordM M 1 : Int)))) w.heap.size 99 (mixC N (N ||| M) 2)) := by
        have := HX.out.put 1 (.int .u64 (bits .or .u64 (wordM N 1 : Int) (wordM M 1 : Int)))
        rw [mix_both (by omega)] at this
        exact this
      have hx := fun W => run_index_four 1 (by omega) (by omega) (cs := #[.int .u64 (wordM M 0), .int .u64 (wordM M 1), .int .u64 (wordM M 2), .int .u64 (wordM M 3)]) (v := .int .u64 (wordM M 1)) rfl W
      go_wp2
      go_roundw
      case rel => exact ⟨2, z, by go_num, by omega, HN.out, HZ.out.far (by simp) _, hz, HB.out.setCell (Nat.le_refl _) _⟩
      case measure => simp [intOf]
    · have c0 : wr.cell? ⟨w.heap.size, 2, none⟩ = some (.int .u64 (wordM N 2)) := HX.out.cell 2
      have f0 := HX.out.free 2
      have HN : Hid (Blk (wr.setCell ⟨w.heap.size, 2, none⟩ (.int .u64 (bits .or .u64 (wordM N 2 : Int) (wordM M 2 : Int)))) w.heap.size 99 (mixC N (N ||| M) 3)) := by
        have := HX.out.put 2 (.int .u64 (bits .or .u64 (wordM N 2 : Int) (wordM M 2 : Int)))
        rw [mix_both (by omega)] at this
        exact this
      have hx := fun W => run_index_four 2 (by omega) (by omega) (cs := #[.int .u64 (wordM M 0), .int .u64 (wordM M 1), .int .u64 (wordM M 2), .int .u64 (wordM M 3)]) (v := .int .u64 (wordM M 2)) rfl W
      go_wp2
      go_roundw
      case rel => exact ⟨3, z, by go_num, by omega, HN.out, HZ.out.far (by simp) _, hz, HB.out.setCell (Nat.le_refl _) _⟩
      case measure => simp [intOf]
    · have c0 : wr.cell? ⟨w.heap.size, 3, none⟩ = some (.int .u64 (wordM N 3)) := HX.out.cell 3
      have f0 := HX.out.free 3
      have HN : Hid (Blk (wr.setCell ⟨w.heap.size, 3, none⟩ (.int .u64 (bits .or .u64 (wordM N 3 : Int) (wordM M 3 : Int)))) w.heap.size 99 (mixC N (N ||| M) 4)) := by
        have := HX.out.put 3 (.int .u64 (bits .or .u64 (wordM N 3 : Int) (wordM M 3 : Int)))
        rw [mix_both (by omega)] at this
        exact this
      have hx := fun W => run_index_four 3 (by omega) (by omega) (cs := #[.int .u64 (wordM M 0), .int .u64 (wordM M 1), .int .u64 (wordM M 2), .int .u64 (wordM M 3)]) (v := .int .u64 (wordM M 3)) rfl W
      go_wp2
      go_roundw
      case rel => exact ⟨4, z, by go_num, by omega, HN.out, HZ.out.far (by simp) _, hz, HB.out.setCell (Nat.le_refl _) _⟩
      case measure => simp [intOf]
    · have c0 : wr.cell? ⟨w.heap.size, 0, none⟩ = some (.int .u64 (wordM (N ||| M) 0)) := HX.out.cell 0
      have c1 : wr.cell? ⟨w.heap.size, 1, none⟩ = some (.int .u64 (wordM (N ||| M) 1)) := HX.out.cell 1
      have c2 : wr.cell? ⟨w.heap.size, 2, none⟩ = some (.int .u64 (wordM (N ||| M) 2)) := HX.out.cell 2
      have c3 : wr.cell? ⟨w.heap.size, 3, none⟩ = some (.int .u64 (wordM (N ||| M) 3)) := HX.out.cell 3
      obtain ⟨f0, f1, f2, f3⟩ := boxF HZ.out
      have z0 := HZ.out.cell 0
      have z1 := HZ.out.cell 1
      have z2 := HZ.out.cell 2
      have z3 := HZ.out.cell 3
      rw [Array.getElem?_eq_getElem (by omega)] at z0 z1 z2 z3
      go_wp2
      (try simp only [Exit.inBlock, Exit.then])
      refine bodyPost_ret (results_cell_row rfl _ _ (w.heap.size + 2) 99 _ (0, 0) _ (by simp) (blk_four HZ.out hz _ _ _ _) Tryz.underlying99 rfl set_size) rfl ?_
      exact ⟨by rfl, below_four HB.out (by omega) _ _ _ _⟩
/-- What is in a set, below a number, rising. -/
def listM (N j : Nat) : List Int := ((List.range j).filter (fun v => v != 0 && N.testBit v)).map (fun (v : Nat) => (v : Int))
theorem listM_few (N j : Nat) : (listM N j).length ≤ j := by
  unfold listM
  rw [List.length_map]
  exact Nat.le_trans (List.length_filter_le _ _) (Nat.le_of_eq List.length_range)
theorem has_one {N j : Nat} (hj : j ≠ 0) : hasM N [(j : Int)] = N.testBit j := by
  cases h : N.testBit j
  · cases hh : hasM N [(j : Int)]
    · rfl
    · have := (has_iff (N := N) (l := [(j : Int)]) (by simp)).1 hh j (by simp) (by omega)
      simp [h] at this
  · rw [has_iff (by simp)]
    intro v hv _
    simp at hv
    subst hv
    simpa using h
theorem listM_skip {N j : Nat} (hj : j ≠ 0) (h : hasM N [(j : Int)] = false) : listM N (j + 1) = listM N j := by
  rw [has_one hj] at h
  unfold listM
  rw [List.range_succ, List.filter_append]
  simp [h]
theorem listM_take {N j : Nat} (hj : j ≠ 0) (h : hasM N [(j : Int)] = true) : listM N (j + 1) = listM N j ++ [(j : Int)] := by
  rw [has_one hj] at h
  unfold listM
  rw [List.range_succ, List.filter_append]
  simp [h, hj]
set_option maxHeartbeats 2000000 in
set_option maxRecDepth 100000 in
theorem list_any (N : Nat) (hN : N < 2 ^ 256) (w : World) : Calls Tryz.prog 63 #[setV N] w fun e w' => ∃ v, e = .returned v ∧ OwnI w' w.heap.size v (listM N 201) ∧ Below w.heap.size w w' := by
  obtain ⟨i0, hi0, hz0, hz1, hz2⟩ := info_parts int_info
  have HS0 : Hid (setC N = _) := setC.eq_1 N
  unfold setV
  rw [HS0.out]
  have HN := Lib.hid hN
  clear hN
  go_enter Tryz.func63, Tryz.ntmps63
  go_wp2
  go_loopw [2, 3] (fun v k wr => ∃ (j : Nat) (oa : Option Addr) (oc : Nat), v = .slice oa (listM N j).length oc ∧ k = .int .i64 j ∧ 1 ≤ j ∧ j ≤ 201 ∧ OwnI wr (w.heap.size + 1) v (listM N j) ∧ Blk wr w.heap.size 99 (setC N) ∧ Below w.heap.size w wr) (fun _ k _ => 201 - (intOf k).toNat)
  case atStart => exact ⟨1, none, 0, rfl, rfl, Nat.le_refl _, by omega, World.ownsRow_nil _ _ _ _, Blk.new w _ _, (Below.refl _ w).alloc (Nat.le_refl _) _⟩
  case round =>
    obtain ⟨j, oa, oc, rfl, rfl, h1, h2, hO, hX, hB⟩ := hrel
    have HO := Lib.hid hO
    have HX := Lib.hid hX
    have HB := Lib.hid hB
    clear hO hX hB
    by_cases hlt : j ≤ 200
    · have hlt' : (j : Int) ≤ 200 := by omega
      obtain ⟨c0, c1, c2, c3⟩ := boxS HX.out
      have hlen := listM_few N j
      have HI : Hid (IntsW (wr.alloc (.cells #[.int .i64 j] 3)) (some ⟨wr.heap.size, 0, none⟩) [(j : Int)]) := IntsW.row (Blk.new wr _ _) (fun k x hx => by
        cases k with
        | zero => simpa using hx
        | succ k => simp at hx)
      have HC := Lib.hid (has_any N HN.out [(j : Int)] _ 1 _ (by simp) (fun v hv => by simp at hv; omega) HI.out)
      unfold setV at HC
      rw [HS0.out] at HC
      go_wp2_with fail
      refine HC.out.mono ?_
      rintro e w1 ⟨rfl, hb⟩
      have hbb : Below wr.heap.size wr w1 := ((Below.refl _ wr).alloc (Nat.le_refl _) _).trans (hb.mono (by simp))
      have HO1 : Hid (OwnI w1 (w.heap.size + 1) (.slice oa (listM N j).length oc) (listM N j)) := own_keep HO.out ⟨hbb.size, fun k _ hk => hbb.block k hk⟩
      have HX1 : Hid (Blk w1 w.heap.size 99 (setC N)) := HX.out.below hbb HX.out.lt
      have HB1 : Hid (Below w.heap.size w w1) := HB.out.trans (hbb.mono HB.out.size)
      have hsz : w.heap.size + 1 ≤ w1.heap.size := HX1.out.lt
      clear hb hbb c0 c1 c2 c3 HI HC HO HX HB
      cases hh : hasM N [(j : Int)]
      · have HL := Lib.hid (listM_skip (by omega) hh)
        clear hh
        go_wp2
        go_roundw
        case rel => exact ⟨j + 1, oa, oc, by rw [HL.out], by go_num, by omega, by omega, by rw [HL.out]; exact HO1.out, HX1.out, HB1.out⟩
        case measure => simp [intOf]; omega
      · have HL := Lib.hid (listM_take (by omega) hh)
        clear hh
        go_wp2_with (at_builtin; go_must (refine wpList_append_lies _ rfl _ _ _ rfl (w.heap.size + 1) 3 i0 _ 1 8 Tryz.underlying22 hi0 hz0 hz1 hz2 rfl (by omega) (.slice oa (listM N j).length oc) (listM N j).length ((listM N j).map (Value.int .i64)) rfl (World.ownsRow.alloc HO1.out _) ⟨w1.heap.size, 0, none⟩ 1 1 [.int .i64 j] rfl rfl (World.news_of_block (heap_alloc_new w1 _)) (by simp [Value.oneCell']) (by omega) (by simp only [maxLen]; omega) (by omega) (by simp; omega) (w1.heap.size + 1) (by simp) ?_; intro gg cap w2 hown2 hgrow hat hlt2))
        have HO2 := Lib.hid (OwnI.more hown2)
        have HX2 : Hid (Blk w2 w.heap.size 99 (setC N)) := (HX1.out.alloc _).grown hgrow (fun e => by have := (HO1.out.lt _ e.symm).1; omega)
        have HB2 : Hid (Below w.heap.size w w2) := (HB1.out.alloc (by omega) _).grown hgrow (by simp; omega) (fun k hk => by have := (HO1.out.lt k hk).1; omega)
        clear hown2 hgrow hat hlt2
        go_wp2
        go_roundw
        case rel => exact ⟨j + 1, some ⟨gg, 0, none⟩, cap, by rw [HL.out]; simp, by go_num, by omega, by omega, by rw [HL.out]; simpa using HO2.out, HX2.out, HB2.out⟩
        case measure => simp [intOf]; omega
    · have e : j = 201 := by omega
      subst e
      go_wp2
      go_ret
      refine ⟨_, rfl, ?_, HB.out⟩
      exact own_base HO.out (by omega)
end Go.Proofs.YtgpbpbhidemciaaGreat
