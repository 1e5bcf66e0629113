/-
  Package line's cursor breaks, and what breaks it. No condition beyond those that each theorem states.
-/
import Derived.Test.YtkfplffcegbdfaaGreatDoorCur3
namespace Go.Proofs.YtkfplffcegbdfaaGreatDoor
open Go.RowKit

theorem fail_form {c : Cu} {e : Int} (he : e ≠ 0) (hf : c.fault = 0) : c.fail e = ⟨[], lineO c.left.head?, colO c.left.head?, e⟩ := by
  unfold Cu.fail
  rw [if_neg (by rintro (h | h); exact he h; exact h hf)]
  cases c.left <;> rfl
theorem fail_same {c : Cu} {e : Int} (h : e = 0 ∨ c.fault ≠ 0) : c.fail e = c := if_pos h
set_option maxRecDepth 100000 in
theorem failC_any (g : Nat) (c : Cu) (ee : Int) (w : World) (h : CurC w g c) : Calls Tryz.prog 113 #[.pointer (some ⟨g, 0, none⟩), .int .i64 ee] w fun e w' => e = .returned (.tuple #[]) ∧ CurC w' g (c.fail ee) ∧ Keep w.heap.size g w w' := by
  have T := Lib.hid (told_any g c w h)
  have N := Lib.hid (next_any g c w h)
  have H := Lib.hid h
  have m4 : w.cell? ⟨g, 4, none⟩ = some (.int .i64 c.fault) := by obtain ⟨a, cap, hb, _⟩ := h; exact hb.cell 4
  clear h
  by_cases he : ee = 0
  · have E : Hid (c.fail ee = c) := fail_same (.inl he)
    have q : (ee == 0) = true := by simp [he]
    clear he
    go_enter Tryz.func113, Tryz.ntmps113
    go_wp2_with fail
    refine T.out.mono ?_
    rintro e w1 ⟨rfl, rfl⟩
    go_wp2
    refine bodyPost_ret (results_none rfl _ _ _) rfl ⟨rfl, ?_, Keep.refl _ _ _⟩
    rw [E.out]
    exact H.out
  have q : (ee == 0) = false := by simp [he]
  by_cases hf : c.fault = 0
  · have E : Hid (c.fail ee = ⟨[], lineO c.left.head?, colO c.left.head?, ee⟩) := fail_form he hf
    have q2 : (c.fault != 0) = false := by simp [hf]
    clear he hf
    generalize c.left.head? = o at *
    have hpl := item_place
    obtain ⟨V, hV⟩ : ∃ V, itemV o = .agg #[V, .int .i64 (lineO o), .int .i64 (colO o)] := ⟨_, rfl⟩
    rw [hV] at N
    clear hV
    generalize lineO o = L at *
    generalize colO o = C at *
    go_enter Tryz.func113, Tryz.ntmps113
    go_wp2_with fail
    refine T.out.mono ?_
    rintro e w1 ⟨rfl, rfl⟩
    go_wp2_with fail
    refine N.out.mono ?_
    rintro e w1 ⟨rfl, hb1⟩
    obtain ⟨a, cap, hb, hl, hm, hr⟩ := H.out.below hb1
    have HR := Lib.hid hr
    have HB := Lib.hid hb
    have HB1 := Lib.hid hb1
    have c0 : w1.cell? ⟨g, 0, none⟩ = some (.slice a c.left.length cap) := hb.cell 0
    have c2 : w1.cell? ⟨g, 2, none⟩ = some (.int .i64 c.line) := hb.cell 2
    have c3 : w1.cell? ⟨g, 3, none⟩ = some (.int .i64 c.col) := hb.cell 3
    have c4 : w1.cell? ⟨g, 4, none⟩ = some (.int .i64 c.fault) := hb.cell 4
    have f0 := hb.free 0
    have f2 := hb.free 2
    have f3 := hb.free 3
    have f4 := hb.free 4
    clear hb hb1 hr T N m4 hl hm
    go_wp2
    go_end0
    refine ⟨rfl, ?_, ?_⟩
    · rw [E.out]
      exact ⟨none, 0, (((HB.out.put 2 (.int .i64 L)).put 3 (.int .i64 C)).put 4 (.int .i64 ee)).put 0 (.slice none 0 0), Nat.le_refl 0, by omega, RowI.nil _ _⟩
    · exact Keep.below_then HB1.out ((((Keep.put _ _ _ _ _).trans (Keep.put _ _ _ _ _)).trans (Keep.put _ _ _ _ _)).trans (Keep.put _ _ _ _ _))
  · have E : Hid (c.fail ee = c) := fail_same (.inr hf)
    have q2 : (c.fault != 0) = true := by simp [hf]
    clear he hf
    go_enter Tryz.func113, Tryz.ntmps113
    go_wp2_with fail
    refine T.out.mono ?_
    rintro e w1 ⟨rfl, rfl⟩
    go_wp2
    refine bodyPost_ret (results_none rfl _ _ _) rfl ⟨rfl, ?_, Keep.refl _ _ _⟩
    rw [E.out]
    exact H.out
set_option maxRecDepth 100000 in
theorem err_any (g : Nat) (c : Cu) (w : World) (h : CurC w g c) : Calls Tryz.prog 42 #[.pointer (some ⟨g, 0, none⟩)] w fun e w' => e = .returned (.tuple #[.int .i64 c.eLine, .int .i64 c.eCol, .int .i64 c.eErr]) ∧ Below w.heap.size w w' := by
  have T := Lib.hid (told_any g c w h)
  have M := Lib.hid (more_any g c w h)
  have H := Lib.hid h
  have m2 : w.cell? ⟨g, 2, none⟩ = some (.int .i64 c.line) := by obtain ⟨a, cap, hb, _⟩ := h; exact hb.cell 2
  have m3 : w.cell? ⟨g, 3, none⟩ = some (.int .i64 c.col) := by obtain ⟨a, cap, hb, _⟩ := h; exact hb.cell 3
  have m4 : w.cell? ⟨g, 4, none⟩ = some (.int .i64 c.fault) := by obtain ⟨a, cap, hb, _⟩ := h; exact hb.cell 4
  clear h
  by_cases hf : c.fault = 0
  · have q : (c.fault != 0) = false := by simp [hf]
    cases hle : c.left with
    | nil =>
      have E : Hid (c.eLine = 0 ∧ c.eCol = 0 ∧ c.eErr = 0) := by refine ⟨?_, ?_, ?_⟩ <;> simp [Cu.eLine, Cu.eCol, Cu.eErr, hf, hle]
      have hm : c.more = false := by simp [Cu.more, hle]
      rw [hm] at M
      rw [E.out.1, E.out.2.1, E.out.2.2]
      clear hf hle E hm
      go_enter Tryz.func42, Tryz.ntmps42
      go_wp2_with fail
      refine T.out.mono ?_
      rintro e w1 ⟨rfl, rfl⟩
      go_wp2_with fail
      refine M.out.mono ?_
      rintro e w1 ⟨rfl, hb1⟩
      have HB1 := Lib.hid hb1
      clear hb1
      go_wp2
      go_ret3
      exact ⟨rfl, HB1.out⟩
    | cons x r =>
      have E : Hid (c.eLine = x.l ∧ c.eCol = x.c ∧ c.eErr = 7) := by refine ⟨?_, ?_, ?_⟩ <;> simp [Cu.eLine, Cu.eCol, Cu.eErr, hf, hle]
      have hm : c.more = true := by simp [Cu.more, hle]
      rw [hm] at M
      rw [E.out.1, E.out.2.1, E.out.2.2]
      have N : Hid (∀ w1, CurC w1 g c → Calls Tryz.prog 78 #[.pointer (some ⟨g, 0, none⟩)] w1 fun e w' => e = .returned (.agg #[hasV x, .int .i64 x.l, .int .i64 x.c]) ∧ Below w1.heap.size w1 w') := fun w1 h1 => by
        have := next_any g c w1 h1
        rw [hle] at this
        exact this
      obtain ⟨Y, v, hv⟩ := has_iface x
      rw [hv] at N
      clear hf hle E hm hv
      go_enter Tryz.func42, Tryz.ntmps42
      go_wp2_with fail
      refine T.out.mono ?_
      rintro e w1 ⟨rfl, rfl⟩
      go_wp2_with fail
      refine M.out.mono ?_
      rintro e w1 ⟨rfl, hb1⟩
      have H1 := Lib.hid (H.out.below hb1)
      have HB1 := Lib.hid hb1
      clear hb1 T M
      go_wp2_with fail
      refine (N.out w1 H1.out).mono ?_
      rintro e w2 ⟨rfl, hb2⟩
      have HB2 := Lib.hid (HB1.out.trans (hb2.mono HB1.out.size))
      clear hb2 HB1 H1 N
      go_wp2_with fail
      go_quiet (fail)
      go_wp2
      go_ret3
      exact ⟨rfl, below_draws (HB2.out.alloc HB2.out.size _) _⟩
  · have q : (c.fault != 0) = true := by simp [hf]
    have E : Hid (c.eLine = c.line ∧ c.eCol = c.col ∧ c.eErr = c.fault) := by refine ⟨?_, ?_, ?_⟩ <;> simp [Cu.eLine, Cu.eCol, Cu.eErr, hf]
    rw [E.out.1, E.out.2.1, E.out.2.2]
    clear hf E
    go_enter Tryz.func42, Tryz.ntmps42
    go_wp2_with fail
    refine T.out.mono ?_
    rintro e w1 ⟨rfl, rfl⟩
    go_wp2_with fail
    go_quiet (fail)
    go_wp2
    go_ret3
    exact ⟨rfl, below_draws (Below.refl _ _) _⟩
end Go.Proofs.YtkfplffcegbdfaaGreatDoor
