/-
  Appending numbers that lie somewhere to numbers of the call's own; what an instruction reads and defines, what an end needs, where it goes. No condition beyond those that each theorem states.
-/
import Derived.Test.YtgpbpbhidemciaaGreatIrF
import Derived.Test.YtgpbpbhidemciaaGreatIrH
import Derived.Test.YtgpbpbhidemciaaGreatIrI
import Derived.Laws.AppendOwnNone
import Derived.Maps.AppendAt
namespace Go.Proofs.YtgpbpbhidemciaaGreat
open Go.RowKit

set_option maxHeartbeats 1000000 in
set_option maxRecDepth 100000 in
theorem defines_any (x : Ii) (a : Option Addr) (c : Nat) (w : World) (hl : x.args.length ≤ 140737488355328) (hI : IntsW w a x.args) :
    Calls Tryz.prog 19 #[insV x a c] w fun e w' => e = .returned (.int .i64 (definesN x)) ∧ Below w.heap.size w w' := by
  have HX : Hid (Blk (w.alloc (.cells (insC x a c) 25)) w.heap.size 25 (insC x a c)) := Blk.new w _ _
  have HW : Hid (Below w.heap.size w (w.alloc (.cells (insC x a c) 25))) := (Below.refl _ w).alloc (Nat.le_refl _) _
  have HC := Lib.hid (isIns_any x a c _ hl (hI.below HW.out))
  have HE := Lib.hid (definesN.eq_1 x)
  clear hI
  unfold insV at HC ⊢
  go_enter Tryz.func19, Tryz.ntmps19
  go_wp2_with fail
  refine HC.out.mono ?_
  rintro e w1 ⟨rfl, hb⟩
  have HX1 : Hid (Blk w1 w.heap.size 25 (insC x a c)) := HX.out.below hb HX.out.lt
  have HW1 : Hid (Below w.heap.size w w1) := HW.out.trans (hb.mono HW.out.size)
  clear hb HX HW HC
  obtain ⟨c0, c1, c2, c3, c4, c5, c6, c7⟩ := box8 HX1.out
  cases hi : isInsB x
  · rw [hi] at HE
    go_wp2
    go_ret
    exact ⟨by rw [HE.out]; rfl, HW1.out⟩
  · rw [hi] at HE
    go_wp2
    go_ret
    exact ⟨by rw [HE.out]; rfl, HW1.out⟩
/-- Of a right instruction there are few arguments. -/
theorem ins_few {x : Ii} (h : isInsB x = true) : x.args.length ≤ 8 := by
  unfold isInsB at h
  split at h
  · unfold isCallB at h
    simp only [Bool.and_eq_true, decide_eq_true_eq] at h
    exact h.1.1.1.1.1.2
  · unfold isOpB at h
    simp only [Bool.and_eq_true, List.isEmpty_iff] at h
    rw [h.1.2]
    simp
set_option maxHeartbeats 1000000 in
set_option maxRecDepth 100000 in
theorem reads_any (x : Ii) (a : Option Addr) (c : Nat) (w : World) (hl : x.args.length ≤ 140737488355328) (hn : a = none → c = 0) (hI : IntsW w a x.args) :
    Calls Tryz.prog 10 #[insV x a c] w fun e w' => ∃ v, e = .returned v ∧ OwnI w' w.heap.size v (readsL x) ∧ Below w.heap.size w w' := by
  have HX : Hid (Blk (w.alloc (.cells (insC x a c) 25)) w.heap.size 25 (insC x a c)) := Blk.new w _ _
  have HW : Hid (Below w.heap.size w (w.alloc (.cells (insC x a c) 25))) := (Below.refl _ w).alloc (Nat.le_refl _) _
  have HC := Lib.hid (isIns_any x a c _ hl (hI.below HW.out))
  have HE := Lib.hid (readsL.eq_1 x)
  have HI := Lib.hid hI
  clear hI
  unfold insV at HC ⊢
  go_enter Tryz.func10, Tryz.ntmps10
  go_wp2_with fail
  refine HC.out.mono ?_
  rintro e w1 ⟨rfl, hb⟩
  have HX1 : Hid (Blk w1 w.heap.size 25 (insC x a c)) := HX.out.below hb HX.out.lt
  have HW1 : Hid (Below w.heap.size w w1) := HW.out.trans (hb.mono HW.out.size)
  clear hb HX HW HC
  obtain ⟨c0, c1, c2, c3, c4, c5, c6, c7⟩ := box8 HX1.out
  cases hi : isInsB x
  · rw [hi] at HE
    go_wp2
    go_ret
    refine ⟨_, rfl, ?_, HW1.out⟩
    rw [HE.out]
    exact World.ownsRow_nil _ _ _ _
  · rw [hi] at HE
    have hf := ins_few hi
    have HN : Hid (Blk (w1.alloc (.cells #[.int .i64 x.a, .int .i64 x.b] 3)) w1.heap.size 3 ([x.a, x.b].map (Value.int .i64)).toArray) := Blk.new w1 _ _
    have HW2 : Hid (Below w.heap.size w (w1.alloc (.cells #[.int .i64 x.a, .int .i64 x.b] 3))) := HW1.out.alloc (by have := HW1.out.size; omega) _
    have HS : Hid (w.heap.size ≤ w1.heap.size) := HW1.out.size
    have c6' : (w1.alloc (.cells #[.int .i64 x.a, .int .i64 x.b] 3)).cell? ⟨w.heap.size, 6, none⟩ = some (.slice a x.args.length c) := (HX1.out.alloc _).cell 6
    go_wp2_with (at_builtin; go_must (refine wpList_append_ints rfl _ _ rfl w.heap.size _ [x.a, x.b] rfl (OwnI.new HN.out HS.out (by simp)) a c x.args rfl hn (HI.out.below HW2.out) (by simp; omega) HW2.out.size ?_; intro v2 w2 hown2 hgrow hat))
    obtain ⟨a2, k2, rfl, hn2, hi2⟩ := hown2.shape
    have HB2 : Hid (Below w.heap.size w w2) := HW2.out.grown hgrow HW2.out.size (fun k hk => by injection hk with hk; rw [← hk]; exact HS.out)
    clear hown2 hgrow hat
    go_wp2_with fail
    refine (given_any _ a2 k2 w2 (by simp; omega) hi2).mono ?_
    rintro e w3 ⟨v3, rfl, ho3, hb3⟩
    go_wp2
    go_ret
    refine ⟨v3, rfl, ?_, HB2.out.trans (hb3.mono HB2.out.size)⟩
    rw [HE.out]
    exact own_base ho3 HB2.out.size
set_option maxHeartbeats 1000000 in
set_option maxRecDepth 100000 in
theorem needs_any (t : Tt) (w : World) :
    Calls Tryz.prog 11 #[termV t] w fun e w' => ∃ v, e = .returned v ∧ OwnI w' w.heap.size v (needsL t) ∧ Below w.heap.size w w' := by
  have HX : Hid (Blk (w.alloc (.cells (termC t) 30)) w.heap.size 30 (termC t)) := Blk.new w _ _
  have HW : Hid (Below w.heap.size w (w.alloc (.cells (termC t) 30))) := (Below.refl _ w).alloc (Nat.le_refl _) _
  have HC := Lib.hid (isTerm_any t (w.alloc (.cells (termC t) 30)))
  have HE := Lib.hid (needsL.eq_1 t)
  unfold termV at HC ⊢
  go_enter Tryz.func11, Tryz.ntmps11
  go_wp2_with fail
  refine HC.out.mono ?_
  rintro e w1 ⟨rfl, hb⟩
  have HX1 : Hid (Blk w1 w.heap.size 30 (termC t)) := HX.out.below hb HX.out.lt
  have HW1 : Hid (Below w.heap.size w w1) := HW.out.trans (hb.mono HW.out.size)
  clear hb HX HW HC
  obtain ⟨c0, c1, c2, c3⟩ := box4i HX1.out
  cases hi : isTermB t
  · rw [hi] at HE
    go_wp2
    go_ret
    refine ⟨_, rfl, ?_, HW1.out⟩
    rw [HE.out]
    exact World.ownsRow_nil _ _ _ _
  · rw [hi] at HE
    have HN : Hid (Blk (w1.alloc (.cells #[.int .i64 t.a] 3)) w1.heap.size 3 #[.int .i64 t.a]) := Blk.new w1 _ _
    have HW2 : Hid (Below w.heap.size w (w1.alloc (.cells #[.int .i64 t.a] 3))) := HW1.out.alloc (by have := HW1.out.size; omega) _
    have HI2 : Hid (IntsW (w1.alloc (.cells #[.int .i64 t.a] 3)) (some ⟨w1.heap.size, 0, none⟩) [t.a]) := IntsW.row HN.out (fun k x hx => by
      cases k with
      | zero => simpa using hx
      | succ k => simp at hx)
    go_wp2_with fail
    refine (given_any [t.a] _ 1 _ (by simp) HI2.out).mono ?_
    rintro e w3 ⟨v3, rfl, ho3, hb3⟩
    go_wp2
    go_ret
    refine ⟨v3, rfl, ?_, HW2.out.trans (hb3.mono HW2.out.size)⟩
    rw [HE.out]
    exact own_base ho3 HW2.out.size
set_option maxHeartbeats 1000000 in
set_option maxRecDepth 100000 in
theorem to_any (t : Tt) (w : World) :
    Calls Tryz.prog 12 #[termV t] w fun e w' => ∃ v, e = .returned v ∧ OwnI w' w.heap.size v (toL t) ∧ Below w.heap.size w w' := by
  have HX : Hid (Blk (w.alloc (.cells (termC t) 30)) w.heap.size 30 (termC t)) := Blk.new w _ _
  have HW : Hid (Below w.heap.size w (w.alloc (.cells (termC t) 30))) := (Below.refl _ w).alloc (Nat.le_refl _) _
  have HC := Lib.hid (isTerm_any t (w.alloc (.cells (termC t) 30)))
  have HE := Lib.hid (toL.eq_1 t)
  unfold termV at HC ⊢
  go_enter Tryz.func12, Tryz.ntmps12
  go_wp2_with fail
  refine HC.out.mono ?_
  rintro e w1 ⟨rfl, hb⟩
  have HX1 : Hid (Blk w1 w.heap.size 30 (termC t)) := HX.out.below hb HX.out.lt
  have HW1 : Hid (Below w.heap.size w w1) := HW.out.trans (hb.mono HW.out.size)
  clear hb HX HW HC
  obtain ⟨c0, c1, c2, c3⟩ := box4i HX1.out
  cases hi : isTermB t
  · rw [hi] at HE
    go_wp2
    go_ret
    refine ⟨_, rfl, ?_, HW1.out⟩
    rw [HE.out]
    exact World.ownsRow_nil _ _ _ _
  rw [hi] at HE
  by_cases h1 : t.kind = 1
  · have q1 : (t.kind == 1) = true := by simp [h1]
    rw [if_pos h1] at HE
    have HN : Hid (Blk (w1.alloc (.cells #[.int .i64 t.t0] 3)) w1.heap.size 3 ([t.t0].map (Value.int .i64)).toArray) := Blk.new w1 _ _
    go_wp2
    go_ret
    refine ⟨_, rfl, ?_, HW1.out.alloc (by have := HW1.out.size; omega) _⟩
    rw [HE.out]
    exact OwnI.new HN.out HW1.out.size (by simp)
  rw [if_neg h1] at HE
  have q1 : (t.kind == 1) = false := by simp [h1]
  by_cases h2 : t.kind = 2
  · have q2 : (t.kind == 2) = true := by simp [h2]
    rw [if_pos h2] at HE
    have HN : Hid (Blk (w1.alloc (.cells #[.int .i64 t.t0, .int .i64 t.t1] 3)) w1.heap.size 3 ([t.t0, t.t1].map (Value.int .i64)).toArray) := Blk.new w1 _ _
    go_wp2
    go_ret
    refine ⟨_, rfl, ?_, HW1.out.alloc (by have := HW1.out.size; omega) _⟩
    rw [HE.out]
    exact OwnI.new HN.out HW1.out.size (by simp)
  rw [if_neg h2] at HE
  have q2 : (t.kind == 2) = false := by simp [h2]
  go_wp2
  go_ret
  refine ⟨_, rfl, ?_, HW1.out⟩
  rw [HE.out]
  exact World.ownsRow_nil _ _ _ _
end Go.Proofs.YtgpbpbhidemciaaGreat
