/-
  Package ir tells an Op's parts as the plain functions say. No condition beyond those that each theorem states.
-/
import Derived.Test.YtgpbpbhidemciaaGreatIrB
namespace Go.Proofs.YtgpbpbhidemciaaGreat
open Go.RowKit

def partsV (o : Int) : Value := .agg #[.bool (opD o), .bool (opA o), .bool (opB o), .bool (opI o)]
theorem parts_size : (Tryz.prog.info? 61).map (·.size) = some 4 := by kernel_rfl
set_option maxHeartbeats 4000000 in
set_option maxRecDepth 100000 in
theorem partsOf_any (o : Int) (w : World) : Calls Tryz.prog 39 #[.int .i64 o] w fun e w' => e = .returned (partsV o) ∧ Below w.heap.size w w' := by
  by_cases h12 : o = 12
  · subst h12
    go_enter Tryz.func39, Tryz.ntmps39
    go_wp2
    (try simp only [Exit.inBlock, Exit.then])
    refine bodyPost_ret (results_cell_row rfl _ _ w.heap.size 61 _ (0, 0) _ (by simp) (heap_alloc_new w _) Tryz.underlying61 rfl parts_size) rfl ?_
    exact ⟨by rfl, (Below.refl _ w).alloc (Nat.le_refl _) _⟩
  by_cases h11 : o = 11
  · subst h11
    go_enter Tryz.func39, Tryz.ntmps39
    go_wp2
    (try simp only [Exit.inBlock, Exit.then])
    refine bodyPost_ret (results_cell_row rfl _ _ w.heap.size 61 _ (0, 0) _ (by simp) (heap_alloc_new w _) Tryz.underlying61 rfl parts_size) rfl ?_
    exact ⟨by rfl, (Below.refl _ w).alloc (Nat.le_refl _) _⟩
  by_cases h1 : o = 1
  · subst h1
    go_enter Tryz.func39, Tryz.ntmps39
    go_wp2
    (try simp only [Exit.inBlock, Exit.then])
    refine bodyPost_ret (results_cell_row rfl _ _ w.heap.size 61 _ (0, 0) _ (by simp) (heap_alloc_new w _) Tryz.underlying61 rfl parts_size) rfl ?_
    exact ⟨by rfl, (Below.refl _ w).alloc (Nat.le_refl _) _⟩
  by_cases h2 : o = 2
  · subst h2
    go_enter Tryz.func39, Tryz.ntmps39
    go_wp2
    (try simp only [Exit.inBlock, Exit.then])
    refine bodyPost_ret (results_cell_row rfl _ _ w.heap.size 61 _ (0, 0) _ (by simp) (heap_alloc_new w _) Tryz.underlying61 rfl parts_size) rfl ?_
    exact ⟨by rfl, (Below.refl _ w).alloc (Nat.le_refl _) _⟩
  by_cases h3 : o = 3
  · subst h3
    go_enter Tryz.func39, Tryz.ntmps39
    go_wp2
    (try simp only [Exit.inBlock, Exit.then])
    refine bodyPost_ret (results_cell_row rfl _ _ w.heap.size 61 _ (0, 0) _ (by simp) (heap_alloc_new w _) Tryz.underlying61 rfl parts_size) rfl ?_
    exact ⟨by rfl, (Below.refl _ w).alloc (Nat.le_refl _) _⟩
  by_cases h4 : o = 4
  · subst h4
    go_enter Tryz.func39, Tryz.ntmps39
    go_wp2
    (try simp only [Exit.inBlock, Exit.then])
    refine bodyPost_ret (results_cell_row rfl _ _ w.heap.size 61 _ (0, 0) _ (by simp) (heap_alloc_new w _) Tryz.underlying61 rfl parts_size) rfl ?_
    exact ⟨by rfl, (Below.refl _ w).alloc (Nat.le_refl _) _⟩
  by_cases h5 : o = 5
  · subst h5
    go_enter Tryz.func39, Tryz.ntmps39
    go_wp2
    (try simp only [Exit.inBlock, Exit.then])
    refine bodyPost_ret (results_cell_row rfl _ _ w.heap.size 61 _ (0, 0) _ (by simp) (heap_alloc_new w _) Tryz.underlying61 rfl parts_size) rfl ?_
    exact ⟨by rfl, (Below.refl _ w).alloc (Nat.le_refl _) _⟩
  by_cases h6 : o = 6
  · subst h6
    go_enter Tryz.func39, Tryz.ntmps39
    go_wp2
    (try simp only [Exit.inBlock, Exit.then])
    refine bodyPost_ret (results_cell_row rfl _ _ w.heap.size 61 _ (0, 0) _ (by simp) (heap_alloc_new w _) Tryz.underlying61 rfl parts_size) rfl ?_
    exact ⟨by rfl, (Below.refl _ w).alloc (Nat.le_refl _) _⟩
  by_cases h7 : o = 7
  · subst h7
    go_enter Tryz.func39, Tryz.ntmps39
    go_wp2
    (try simp only [Exit.inBlock, Exit.then])
    refine bodyPost_ret (results_cell_row rfl _ _ w.heap.size 61 _ (0, 0) _ (by simp) (heap_alloc_new w _) Tryz.underlying61 rfl parts_size) rfl ?_
    exact ⟨by rfl, (Below.refl _ w).alloc (Nat.le_refl _) _⟩
  by_cases h8 : o = 8
  · subst h8
    go_enter Tryz.func39, Tryz.ntmps39
    go_wp2
    (try simp only [Exit.inBlock, Exit.then])
    refine bodyPost_ret (results_cell_row rfl _ _ w.heap.size 61 _ (0, 0) _ (by simp) (heap_alloc_new w _) Tryz.underlying61 rfl parts_size) rfl ?_
    exact ⟨by rfl, (Below.refl _ w).alloc (Nat.le_refl _) _⟩
  by_cases h9 : o = 9
  · subst h9
    go_enter Tryz.func39, Tryz.ntmps39
    go_wp2
    (try simp only [Exit.inBlock, Exit.then])
    refine bodyPost_ret (results_cell_row rfl _ _ w.heap.size 61 _ (0, 0) _ (by simp) (heap_alloc_new w _) Tryz.underlying61 rfl parts_size) rfl ?_
    exact ⟨by rfl, (Below.refl _ w).alloc (Nat.le_refl _) _⟩
  by_cases h10 : o = 10
  · subst h10
    go_enter Tryz.func39, Tryz.ntmps39
    go_wp2
    (try simp only [Exit.inBlock, Exit.then])
    refine bodyPost_ret (results_cell_row rfl _ _ w.heap.size 61 _ (0, 0) _ (by simp) (heap_alloc_new w _) Tryz.underlying61 rfl parts_size) rfl ?_
    exact ⟨by rfl, (Below.refl _ w).alloc (Nat.le_refl _) _⟩
  by_cases h14 : o = 14
  · subst h14
    go_enter Tryz.func39, Tryz.ntmps39
    go_wp2
    (try simp only [Exit.inBlock, Exit.then])
    refine bodyPost_ret (results_cell_row rfl _ _ w.heap.size 61 _ (0, 0) _ (by simp) (heap_alloc_new w _) Tryz.underlying61 rfl parts_size) rfl ?_
    exact ⟨by rfl, (Below.refl _ w).alloc (Nat.le_refl _) _⟩
  have q12 : (o == 12) = false := by simp [h12]
  have q11 : (o == 11) = false := by simp [h11]
  have q1 : (o == 1) = false := by simp [h1]
  have q2 : (o == 2) = false := by simp [h2]
  have q3 : (o == 3) = false := by simp [h3]
  have q4 : (o == 4) = false := by simp [h4]
  have q5 : (o == 5) = false := by simp [h5]
  have q6 : (o == 6) = false := by simp [h6]
  have q7 : (o == 7) = false := by simp [h7]
  have q8 : (o == 8) = false := by simp [h8]
  have q9 : (o == 9) = false := by simp [h9]
  have q10 : (o == 10) = false := by simp [h10]
  have q14 : (o == 14) = false := by simp [h14]
  have ha : arithB o = false := by unfold arithB; by_cases h : 2 ≤ o <;> simp [h]; omega
  have hD : opD o = false := by simp [opD, ha, q1, q11, q14]
  have hA : opA o = false := by simp [opA, ha, q11, q12, q14]
  have hB : opB o = false := by simp [opB, ha, q12]
  have hI : opI o = false := by simp [opI, q1, q11, q12]
  have hV : partsV o = .agg #[.bool false, .bool false, .bool false, .bool false] := by unfold partsV; rw [hD, hA, hB, hI]
  rw [hV]
  clear h12 h11 h1 h2 h3 h4 h5 h6 h7 h8 h9 h10 h14 ha hD hA hB hI hV
  go_enter Tryz.func39, Tryz.ntmps39
  go_wp2
  (try simp only [Exit.inBlock, Exit.then])
  refine bodyPost_ret (results_cell_row rfl _ _ w.heap.size 61 _ (0, 0) _ (by simp) (heap_alloc_new w _) Tryz.underlying61 rfl parts_size) rfl ?_
  exact ⟨by rfl, (Below.refl _ w).alloc (Nat.le_refl _) _⟩
end Go.Proofs.YtgpbpbhidemciaaGreat
