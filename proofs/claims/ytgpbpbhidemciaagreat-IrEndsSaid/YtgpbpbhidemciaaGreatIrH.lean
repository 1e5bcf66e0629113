/-
  Package ir tells whether an end is right, and what is given of numbers, as the plain functions say. No condition beyond those that each theorem states.
-/
import Derived.Test.YtgpbpbhidemciaaGreatIrA
import Derived.Test.YtgpbpbhidemciaaGreatIrQ
namespace Go.Proofs.YtgpbpbhidemciaaGreat
open Go.RowKit

theorem box4i {W : World} {g : Nat} {t : TypeId} {a b c d : Value} (h : Blk W g t #[a, b, c, d]) :
    W.cell? ⟨g, 0, none⟩ = some a ∧ W.cell? ⟨g, 1, none⟩ = some b ∧ W.cell? ⟨g, 2, none⟩ = some c ∧ W.cell? ⟨g, 3, none⟩ = some d := ⟨h.cell 0, h.cell 1, h.cell 2, h.cell 3⟩
def termC (t : Tt) : Array Value := #[.int .i64 t.kind, .int .i64 t.a, .int .i64 t.t0, .int .i64 t.t1]
set_option maxHeartbeats 4000000 in
set_option maxRecDepth 100000 in
theorem isTerm_any (t : Tt) (w : World) : Calls Tryz.prog 15 #[termV t] w fun e w' => e = .returned (.bool (isTermB t)) ∧ Below w.heap.size w w' := by
  have HE := Lib.hid (isTermB.eq_1 t)
  unfold termV
  have HX : Hid (Blk (w.alloc (.cells (termC t) 30)) w.heap.size 30 (termC t)) := Blk.new w _ _
  have HW : Hid (Below w.heap.size w (w.alloc (.cells (termC t) 30))) := (Below.refl _ w).alloc (Nat.le_refl _) _
  by_cases h1 : t.kind = 1
  · have q1 : (t.kind == 1) = true := by simp [h1]
    rw [if_pos h1] at HE
    clear h1
    go_enter Tryz.func15, Tryz.ntmps15
    cases h2 : t.a == 0
    · rw [h2] at HE
      go_wp2
      go_ret
      exact ⟨by rw [HE.out]; rfl, HW.out⟩
    · rw [h2] at HE
      go_wp2
      go_ret
      exact ⟨by rw [HE.out]; rfl, HW.out⟩
  rw [if_neg h1] at HE
  have q1 : (t.kind == 1) = false := by simp [h1]
  by_cases h2 : t.kind = 2
  · have q2 : (t.kind == 2) = true := by simp [h2]
    rw [if_pos h2] at HE
    clear h1 h2
    have HI : Hid (IntsW ((w.alloc (.cells (termC t) 30)).alloc (.cells #[.int .i64 t.a] 3)) (some ⟨w.heap.size + 1, 0, none⟩) [t.a]) := by
      have := IntsW.row (l := [t.a]) (Blk.new (w.alloc (.cells (termC t) 30)) 3 #[.int .i64 t.a]) (fun k x hx => by
        cases k with
        | zero => simpa using hx
        | succ k => simp at hx)
      simpa [Hid] using this
    go_enter Tryz.func15, Tryz.ntmps15
    go_wp2_with fail
    refine (areVars_any [t.a] _ 1 _ (by simp) HI.out).mono ?_
    rintro e w1 ⟨rfl, rfl⟩
    go_wp2
    go_ret
    exact ⟨by rw [HE.out]; simp, HW.out.alloc (by have := HW.out.size; omega) _⟩
  rw [if_neg h2] at HE
  have q2 : (t.kind == 2) = false := by simp [h2]
  by_cases h3 : t.kind = 3
  · have q3 : (t.kind == 3) = true := by simp [h3]
    rw [if_pos h3] at HE
    clear h1 h2 h3
    go_enter Tryz.func15, Tryz.ntmps15
    go_wp2_with fail
    refine (fits_any (t.a != 0) t.a _).mono ?_
    rintro e w1 ⟨rfl, hb⟩
    have HX1 : Hid (Blk w1 w.heap.size 30 (termC t)) := HX.out.below hb HX.out.lt
    have HW1 : Hid (Below w.heap.size w w1) := HW.out.trans (hb.mono HW.out.size)
    clear hb HX HW
    obtain ⟨c0, c1, c2, c3⟩ := box4i HX1.out
    have hq := fun W => eql_arr2 t.t0 t.t1 0 0 W
    cases hf : fitsB (t.a != 0) t.a
    · rw [hf] at HE
      go_wp2
      go_ret
      exact ⟨by rw [HE.out]; rfl, HW1.out⟩
    rw [hf] at HE
    go_wp2
    go_ret
    exact ⟨by rw [HE.out]; rfl, HW1.out⟩
  rw [if_neg h3] at HE
  have q3 : (t.kind == 3) = false := by simp [h3]
  by_cases h4 : t.kind = 4
  · have q4 : (t.kind == 4) = true := by simp [h4]
    rw [if_pos h4] at HE
    clear h1 h2 h3 h4
    go_enter Tryz.func15, Tryz.ntmps15
    cases h2 : t.a == 0
    · rw [h2] at HE
      go_wp2
      go_ret
      exact ⟨by rw [HE.out]; rfl, HW.out⟩
    rw [h2] at HE
    have hq := fun W => eql_arr2 t.t0 t.t1 0 0 W
    go_wp2
    go_ret
    exact ⟨by rw [HE.out]; rfl, HW.out⟩
  rw [if_neg h4] at HE
  have q4 : (t.kind == 4) = false := by simp [h4]
  clear h1 h2 h3 h4
  go_enter Tryz.func15, Tryz.ntmps15
  go_wp2
  go_ret
  exact ⟨by rw [HE.out]; rfl, HW.out⟩

end Go.Proofs.YtgpbpbhidemciaaGreat
