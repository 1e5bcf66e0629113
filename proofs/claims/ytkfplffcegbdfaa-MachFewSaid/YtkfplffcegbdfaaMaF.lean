/-
  The walk of the statement MachFew: it answers true for any machine and any numbers, and turns nothing that was there. No condition beyond those that each theorem states.
-/
import Derived.Test.YtkfplffcegbdfaaMaX
namespace Go.Proofs.Ytkfplffcegbdfaa
open Go.RowKit

theorem enough_is {m : Mm} (hr : m.rightB = true) (o a : Int) : m.enoughB o a = (decide (o < m.regs) && decide (a ≤ m.args.length)) := by
  unfold Mm.enoughB
  rw [hr, Bool.true_and]
set_option maxHeartbeats 4000000 in
set_option maxRecDepth 100000 in
theorem few_any (m : Mm) (aa sa : Option Addr) (ac sc : Nat) (o a : Int) (w : World) (ho : -9223372036854775808 ≤ o ∧ o ≤ 9223372036854775807) (ha : -9223372036854775808 ≤ a ∧ a ≤ 9223372036854775807) (hl : m.args.length ≤ 140737488355328) (hs : m.saved.length ≤ 140737488355328) (hM : MaW w m aa sa) :
    Calls Try.prog 4 #[machV m aa ac sa sc, .int .i64 o, .int .i64 a] w fun e w' => e = .returned (.bool true) ∧ Below w.heap.size w w' := by
  have HB0 : Hid (Below w.heap.size w (w.alloc (.cells (maxC m aa ac sa sc) 25))) := (Below.refl _ w).alloc (Nat.le_refl _) _
  have HX0 : Hid (Blk (w.alloc (.cells (maxC m aa ac sa sc) 25)) w.heap.size 25 (maxC m aa ac sa sc)) := Blk.new w _ _
  have HW := Lib.hid hM
  have EN : Hid (∀ o a w1, Below w.heap.size w w1 → Calls Try.prog 9 #[.agg (maxC m aa ac sa sc), .int .i64 o, .int .i64 a] w1 fun e w' => e = .returned (.bool (m.enoughB o a)) ∧ Below w.heap.size w w' ∧ Below w1.heap.size w1 w') := fun o a w1 h =>
    (enough_any m aa sa ac sc o a w1 hl hs (hM.below h)).mono fun e w' ⟨x, y⟩ => ⟨x, h.trans (y.mono h.size), y⟩
  have RI : Hid (∀ w1, Below w.heap.size w w1 → Calls Try.prog 10 #[.agg (maxC m aa ac sa sc)] w1 fun e w' => e = .returned (.bool m.rightB) ∧ Below w.heap.size w w' ∧ Below w1.heap.size w1 w') := fun w1 h =>
    (rightM_any m aa sa ac sc w1 hl hs (hM.below h)).mono fun e w' ⟨x, y⟩ => ⟨x, h.trans (y.mono h.size), y⟩
  have AW : Hid (∀ w1, Below w.heap.size w w1 → Calls Try.prog 5 #[] w1 fun e w' => e = .returned (.bool true) ∧ Below w.heap.size w w' ∧ Below w1.heap.size w1 w') := fun w1 h =>
    (awakeM_any w1).mono fun e w' ⟨x, y⟩ => ⟨x, h.trans (y.mono h.size), y⟩
  have HM : Hid (maxC m aa ac sa sc = _) := maxC.eq_1 m aa ac sa sc
  unfold machV
  rw [HM.out] at HB0 HX0 EN RI ⊢
  clear hM
  go_enter Try.func4, Try.ntmps4
  go_wp2_with fail
  refine (AW.out _ HB0.out).mono ?_
  rintro e w1 ⟨rfl, b1, hb⟩
  have B1 := Lib.hid b1
  have X1 : Hid (Blk w1 w.heap.size 25 (maxC m aa ac sa sc)) := HX0.out.below hb HX0.out.lt
  obtain ⟨c0, c1, c2, c3⟩ := boxMa X1.out
  clear b1 hb HX0 HB0 AW
  by_cases hn : (2000 : Int) < (m.args.length : Int) + m.saved.length
  · go_wp2
    go_ret
    exact ⟨rfl, B1.out⟩
  by_cases h1 : o = -9223372036854775808
  · subst h1
    go_wp2
    go_ret
    exact ⟨rfl, B1.out⟩
  have q1 : (o == -9223372036854775808) = false := by simpa using h1
  by_cases h2 : a = -9223372036854775808
  · subst h2
    go_wp2
    go_ret
    exact ⟨rfl, B1.out⟩
  have q2 : (a == -9223372036854775808) = false := by simpa using h2
  go_wp2_with fail
  refine (EN.out o a _ B1.out).mono ?_
  rintro e w2 ⟨rfl, b2, hb⟩
  have B2 := Lib.hid b2
  have X2 : Hid (Blk w2 w.heap.size 25 (maxC m aa ac sa sc)) := X1.out.below hb X1.out.lt
  clear b2 hb X1 B1 c0 c1 c2 c3
  obtain ⟨c0, c1, c2, c3⟩ := boxMa X2.out
  go_wp2_with fail
  refine (RI.out _ B2.out).mono ?_
  rintro e w3 ⟨rfl, b3, hb⟩
  have B3 := Lib.hid b3
  have X3 : Hid (Blk w3 w.heap.size 25 (maxC m aa ac sa sc)) := X2.out.below hb X2.out.lt
  clear b3 hb X2 B2 c0 c1 c2 c3 RI
  obtain ⟨c0, c1, c2, c3⟩ := boxMa X3.out
  cases hr : m.rightB
  · have he : m.enoughB o a = false := by unfold Mm.enoughB; rw [hr]; rfl
    rw [he]
    go_wp2
    go_ret
    exact ⟨rfl, B3.out⟩
  have hreg : 1 ≤ m.regs ∧ m.regs ≤ 64 := ⟨(regs_bound hr).1, (regs_bound hr).2.1⟩
  have g3 : m.regs - 1 < m.regs := by omega
  have g5 : ¬ ((m.args.length : Int) + 1 ≤ m.args.length) := by omega
  have E3 : m.enoughB (m.regs - 1) m.args.length = true := by rw [enough_is hr, decide_eq_true g3]; simp
  have E4 : m.enoughB m.regs 0 = false := by rw [enough_is hr]; simp
  have E5 : m.enoughB 0 ((m.args.length : Int) + 1) = false := by rw [enough_is hr, decide_eq_false g5, Bool.and_false]
  clear g3 g5
  have EN3 := Lib.hid (EN.out (m.regs - 1) m.args.length)
  have EN4 := Lib.hid (EN.out m.regs 0)
  have EN5 := Lib.hid (EN.out 0 ((m.args.length : Int) + 1))
  rw [E3] at EN3
  rw [E4] at EN4
  rw [E5] at EN5
  have hw1 : IntKind.i64.wrap (o - 1) = o - 1 := by rw [IntKind.wrap_i64]; omega
  have hw2 : IntKind.i64.wrap (a - 1) = a - 1 := by rw [IntKind.wrap_i64]; omega
  have rest : Hid (m.enoughB o a = true → m.enoughB (o - 1) a = true ∧ m.enoughB o (a - 1) = true) := by
    intro h
    rw [enough_is hr] at h ⊢
    rw [enough_is hr]
    simp only [Bool.and_eq_true, decide_eq_true_eq] at h ⊢
    omega
  have EN1 := Lib.hid (EN.out (o - 1) a)
  have EN2 := Lib.hid (EN.out o (a - 1))
  clear EN E3 E4 E5
  cases hi : m.enoughB o a
  · clear EN1 EN2 rest
    go_wp2_with fail
    refine (EN3.out _ B3.out).mono ?_
    rintro e w4 ⟨rfl, b4, hb⟩
    have B4 := Lib.hid b4
    have X4 : Hid (Blk w4 w.heap.size 25 (maxC m aa ac sa sc)) := X3.out.below hb X3.out.lt
    clear b4 hb X3 B3 c0 c1 c2 c3 EN3
    obtain ⟨c0, c1, c2, c3⟩ := boxMa X4.out
    go_wp2_with fail
    refine (EN4.out _ B4.out).mono ?_
    rintro e w5 ⟨rfl, b5, hb⟩
    have B5 := Lib.hid b5
    have X5 : Hid (Blk w5 w.heap.size 25 (maxC m aa ac sa sc)) := X4.out.below hb X4.out.lt
    clear b5 hb X4 B4 c0 c1 c2 c3 EN4
    obtain ⟨c0, c1, c2, c3⟩ := boxMa X5.out
    go_wp2_with fail
    refine (EN5.out _ B5.out).mono ?_
    rintro e w6 ⟨rfl, b6, hb⟩
    have B6 := Lib.hid b6
    clear b6 hb X5 B5 c0 c1 c2 c3 EN5
    go_wp2
    go_ret
    exact ⟨rfl, B6.out⟩
  · obtain ⟨r1, r2⟩ := rest.out hi
    rw [r1] at EN1
    rw [r2] at EN2
    clear rest r1 r2
    go_wp2_with fail
    refine (EN1.out _ B3.out).mono ?_
    rintro e w7 ⟨rfl, b7, hb⟩
    have B7 := Lib.hid b7
    have X7 : Hid (Blk w7 w.heap.size 25 (maxC m aa ac sa sc)) := X3.out.below hb X3.out.lt
    clear b7 hb X3 B3 c0 c1 c2 c3 EN1
    obtain ⟨c0, c1, c2, c3⟩ := boxMa X7.out
    go_wp2_with fail
    refine (EN2.out _ B7.out).mono ?_
    rintro e w3 ⟨rfl, b3, hb⟩
    have B3 := Lib.hid b3
    have X3 : Hid (Blk w3 w.heap.size 25 (maxC m aa ac sa sc)) := X7.out.below hb X7.out.lt
    clear b3 hb X7 B7 c0 c1 c2 c3 EN2
    obtain ⟨c0, c1, c2, c3⟩ := boxMa X3.out
    go_wp2_with fail
    refine (EN3.out _ B3.out).mono ?_
    rintro e w4 ⟨rfl, b4, hb⟩
    have B4 := Lib.hid b4
    have X4 : Hid (Blk w4 w.heap.size 25 (maxC m aa ac sa sc)) := X3.out.below hb X3.out.lt
    clear b4 hb X3 B3 c0 c1 c2 c3 EN3
    obtain ⟨c0, c1, c2, c3⟩ := boxMa X4.out
    go_wp2_with fail
    refine (EN4.out _ B4.out).mono ?_
    rintro e w5 ⟨rfl, b5, hb⟩
    have B5 := Lib.hid b5
    have X5 : Hid (Blk w5 w.heap.size 25 (maxC m aa ac sa sc)) := X4.out.below hb X4.out.lt
    clear b5 hb X4 B4 c0 c1 c2 c3 EN4
    obtain ⟨c0, c1, c2, c3⟩ := boxMa X5.out
    go_wp2_with fail
    refine (EN5.out _ B5.out).mono ?_
    rintro e w6 ⟨rfl, b6, hb⟩
    have B6 := Lib.hid b6
    clear b6 hb X5 B5 c0 c1 c2 c3 EN5
    go_wp2
    go_ret
    exact ⟨rfl, B6.out⟩
end Go.Proofs.Ytkfplffcegbdfaa
