/-
  The document's small answers about ends, and what it says of numbers read, defined, needed, gone to. No condition beyond those that each theorem states.
-/
import Derived.Test.YtcofoeenfohpnaaIrPa
import Derived.Test.YtcofoeenfohpnaaIrJ
namespace Go.Proofs.Ytcofoeenfohpnaa
open Go.RowKit

set_option maxHeartbeats 4000000 in
set_option maxRecDepth 100000 in
theorem risTerm_any (t : Tt) (w : World) : Calls Try.prog 15 #[termV t] w fun e w' => e = .returned (.bool (isTermB t)) ∧ Below w.heap.size w w' := by
  have HE := Lib.hid (isTermB.eq_1 t)
  unfold termV
  have HX : Hid (Blk (w.alloc (.cells (termC t) 29)) w.heap.size 29 (termC t)) := Blk.new w _ _
  have HW : Hid (Below w.heap.size w (w.alloc (.cells (termC t) 29))) := (Below.refl _ w).alloc (Nat.le_refl _) _
  by_cases h1 : t.kind = 1
  · have q1 : (t.kind == 1) = true := by simp [h1]
    rw [if_pos h1] at HE
    clear h1
    go_enter Try.func15, Try.ntmps15
    cases h2 : t.a == 0
    · rw [h2] at HE
      go_wp2
      go_ret
      exact ⟨by rw [HE.out]; rfl, HW.out⟩
    · rw [h2] at HE
      go_wp2
      go_ret
      exact ⟨by rw [HE.out]; rfl, HW.out⟩
  rw [if_neg h1] at HE
  have q1 : (t.kind == 1) = false := by simp [h1]
  by_cases h2 : t.kind = 2
  · have q2 : (t.kind == 2) = true := by simp [h2]
    rw [if_pos h2] at HE
    clear h1 h2
    go_enter Try.func15, Try.ntmps15
    go_wp2_with fail
    refine (rvar_any t.a _).mono ?_
    rintro e w1 ⟨rfl, rfl⟩
    go_wp2
    go_ret
    exact ⟨by rw [HE.out]; rfl, HW.out⟩
  rw [if_neg h2] at HE
  have q2 : (t.kind == 2) = false := by simp [h2]
  by_cases h3 : t.kind = 3
  · have q3 : (t.kind == 3) = true := by simp [h3]
    rw [if_pos h3] at HE
    clear h1 h2 h3
    go_enter Try.func15, Try.ntmps15
    have hq := fun W => eql_arr2 t.t0 t.t1 0 0 W
    cases h0 : t.a == 0
    · have hd : (t.a != 0) = true := by simpa [bne] using h0
      have hf : fitsB (t.a != 0) t.a = varB t.a := by rw [hd]; rfl
      rw [hf] at HE
      go_wp2_with fail
      refine (rvar_any t.a _).mono ?_
      rintro e w1 ⟨rfl, rfl⟩
      cases h5 : varB t.a
      · rw [h5] at HE
        go_wp2
        go_ret
        exact ⟨by rw [HE.out]; rfl, HW.out⟩
      · rw [h5] at HE
        go_wp2
        go_ret
        exact ⟨by rw [HE.out]; rfl, HW.out⟩
    · have hd : t.a = 0 := by simpa using h0
      have hf : fitsB (t.a != 0) t.a = true := by rw [hd]; rfl
      rw [hf] at HE
      clear hd
      go_wp2
      go_ret
      exact ⟨by rw [HE.out]; rfl, HW.out⟩
  rw [if_neg h3] at HE
  have q3 : (t.kind == 3) = false := by simp [h3]
  by_cases h4 : t.kind = 4
  · have q4 : (t.kind == 4) = true := by simp [h4]
    rw [if_pos h4] at HE
    clear h1 h2 h3 h4
    go_enter Try.func15, Try.ntmps15
    cases h2 : t.a == 0
    · rw [h2] at HE
      go_wp2
      go_ret
      exact ⟨by rw [HE.out]; rfl, HW.out⟩
    rw [h2] at HE
    have hq := fun W => eql_arr2 t.t0 t.t1 0 0 W
    go_wp2
    go_ret
    exact ⟨by rw [HE.out]; rfl, HW.out⟩
  rw [if_neg h4] at HE
  have q4 : (t.kind == 4) = false := by simp [h4]
  clear h1 h2 h3 h4
  go_enter Try.func15, Try.ntmps15
  go_wp2
  go_ret
  exact ⟨by rw [HE.out]; rfl, HW.out⟩

set_option maxHeartbeats 1000000 in
set_option maxRecDepth 100000 in
theorem rdefines_any (x : Ii) (a : Option Addr) (c : Nat) (w : World) (hl : x.args.length ≤ 140737488355328) (hI : IntsW w a x.args) :
    Calls Try.prog 19 #[insV x a c] w fun e w' => e = .returned (.int .i64 (definesN x)) ∧ Below w.heap.size w w' := by
  have HX : Hid (Blk (w.alloc (.cells (insC x a c) 25)) w.heap.size 25 (insC x a c)) := Blk.new w _ _
  have HW : Hid (Below w.heap.size w (w.alloc (.cells (insC x a c) 25))) := (Below.refl _ w).alloc (Nat.le_refl _) _
  have HC := Lib.hid (risIns_any x a c _ hl (hI.below HW.out))
  have HE := Lib.hid (definesN.eq_1 x)
  clear hI
  unfold insV at HC ⊢
  go_enter Try.func19, Try.ntmps19
  go_wp2_with fail
  refine HC.out.mono ?_
  rintro e w1 ⟨rfl, hb⟩
  have HX1 : Hid (Blk w1 w.heap.size 25 (insC x a c)) := HX.out.below hb HX.out.lt
  have HW1 : Hid (Below w.heap.size w w1) := HW.out.trans (hb.mono HW.out.size)
  clear hb HX HW HC
  obtain ⟨c0, c1, c2, c3, c4, c5, c6, c7⟩ := box8 HX1.out
  cases hi : isInsB x
  · rw [hi] at HE
    go_wp2
    go_ret
    exact ⟨by rw [HE.out]; rfl, HW1.out⟩
  · rw [hi] at HE
    go_wp2
    go_ret
    exact ⟨by rw [HE.out]; rfl, HW1.out⟩
set_option maxHeartbeats 1000000 in
set_option maxRecDepth 100000 in
theorem rneeds_any (t : Tt) (w : World) :
    Calls Try.prog 20 #[termV t] w fun e w' => ∃ v, e = .returned v ∧ OwnI w' w.heap.size v (needsL t) ∧ Below w.heap.size w w' := by
  have HX : Hid (Blk (w.alloc (.cells (termC t) 29)) w.heap.size 29 (termC t)) := Blk.new w _ _
  have HW : Hid (Below w.heap.size w (w.alloc (.cells (termC t) 29))) := (Below.refl _ w).alloc (Nat.le_refl _) _
  have HC := Lib.hid (risTerm_any t (w.alloc (.cells (termC t) 29)))
  have HE := Lib.hid (needsL.eq_1 t)
  unfold termV at HC ⊢
  go_enter Try.func20, Try.ntmps20
  go_wp2_with fail
  refine HC.out.mono ?_
  rintro e w1 ⟨rfl, hb⟩
  have HX1 : Hid (Blk w1 w.heap.size 29 (termC t)) := HX.out.below hb HX.out.lt
  have HW1 : Hid (Below w.heap.size w w1) := HW.out.trans (hb.mono HW.out.size)
  clear hb HX HW HC
  obtain ⟨c0, c1, c2, c3⟩ := box4i HX1.out
  cases hi : isTermB t
  · rw [hi] at HE
    go_wp2
    go_ret
    refine ⟨_, rfl, ?_, HW1.out⟩
    rw [HE.out]
    exact World.ownsRow_nil _ _ _ _
  · rw [hi] at HE
    cases h0 : t.a == 0
    · have hg : givenL [t.a] = [t.a] := by simp [givenL, bne, h0]
      rw [hg] at HE
      have HN : Hid (Blk (w1.alloc (.cells #[.int .i64 t.a] 3)) w1.heap.size 3 ([t.a].map (Value.int .i64)).toArray) := Blk.new w1 _ _
      go_wp2
      go_ret
      refine ⟨_, rfl, ?_, HW1.out.alloc (by have := HW1.out.size; omega) _⟩
      rw [HE.out]
      exact OwnI.new HN.out HW1.out.size (by simp)
    · have hg : givenL [t.a] = [] := by simp [givenL, bne, h0]
      rw [hg] at HE
      go_wp2
      go_ret
      refine ⟨_, rfl, ?_, HW1.out⟩
      rw [HE.out]
      exact World.ownsRow_nil _ _ _ _
set_option maxHeartbeats 1000000 in
set_option maxRecDepth 100000 in
theorem rto_any (t : Tt) (w : World) :
    Calls Try.prog 21 #[termV t] w fun e w' => ∃ v, e = .returned v ∧ OwnI w' w.heap.size v (toL t) ∧ Below w.heap.size w w' := by
  have HX : Hid (Blk (w.alloc (.cells (termC t) 29)) w.heap.size 29 (termC t)) := Blk.new w _ _
  have HW : Hid (Below w.heap.size w (w.alloc (.cells (termC t) 29))) := (Below.refl _ w).alloc (Nat.le_refl _) _
  have HC := Lib.hid (risTerm_any t (w.alloc (.cells (termC t) 29)))
  have HE := Lib.hid (toL.eq_1 t)
  unfold termV at HC ⊢
  go_enter Try.func21, Try.ntmps21
  go_wp2_with fail
  refine HC.out.mono ?_
  rintro e w1 ⟨rfl, hb⟩
  have HX1 : Hid (Blk w1 w.heap.size 29 (termC t)) := HX.out.below hb HX.out.lt
  have HW1 : Hid (Below w.heap.size w w1) := HW.out.trans (hb.mono HW.out.size)
  clear hb HX HW HC
  obtain ⟨c0, c1, c2, c3⟩ := box4i HX1.out
  cases hi : isTermB t
  · rw [hi] at HE
    go_wp2
    go_ret
    refine ⟨_, rfl, ?_, HW1.out⟩
    rw [HE.out]
    exact World.ownsRow_nil _ _ _ _
  rw [hi] at HE
  by_cases h1 : t.kind = 1
  · have q1 : (t.kind == 1) = true := by simp [h1]
    rw [if_pos h1] at HE
    have HN : Hid (Blk (w1.alloc (.cells #[.int .i64 t.t0] 3)) w1.heap.size 3 ([t.t0].map (Value.int .i64)).toArray) := Blk.new w1 _ _
    go_wp2
    go_ret
    refine ⟨_, rfl, ?_, HW1.out.alloc (by have := HW1.out.size; omega) _⟩
    rw [HE.out]
    exact OwnI.new HN.out HW1.out.size (by simp)
  rw [if_neg h1] at HE
  have q1 : (t.kind == 1) = false := by simp [h1]
  by_cases h2 : t.kind = 2
  · have q2 : (t.kind == 2) = true := by simp [h2]
    rw [if_pos h2] at HE
    have HN : Hid (Blk (w1.alloc (.cells #[.int .i64 t.t0, .int .i64 t.t1] 3)) w1.heap.size 3 ([t.t0, t.t1].map (Value.int .i64)).toArray) := Blk.new w1 _ _
    go_wp2
    go_ret
    refine ⟨_, rfl, ?_, HW1.out.alloc (by have := HW1.out.size; omega) _⟩
    rw [HE.out]
    exact OwnI.new HN.out HW1.out.size (by simp)
  rw [if_neg h2] at HE
  have q2 : (t.kind == 2) = false := by simp [h2]
  go_wp2
  go_ret
  refine ⟨_, rfl, ?_, HW1.out⟩
  rw [HE.out]
  exact World.ownsRow_nil _ _ _ _
end Go.Proofs.Ytcofoeenfohpnaa
