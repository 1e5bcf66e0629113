/-
  Package line's cursor: what its calls tell, and what they leave. No condition beyond those that each theorem states.
  Package line's cursor breaks, and what breaks it. No condition beyond those that each theorem states.
-/
import Derived.Test.YthiipgahbmoiiaaGreatDoorPk12
namespace Go.Proofs.YthiipgahbmoiiaaGreatDoor
open Go.RowKit

theorem head_some {c : Cu} (h : c.left.head? ≠ none) : c.left ≠ [] := fun e => by rw [e] at h; exact h rfl
theorem name_head {c : Cu} (h : (nameP c.left.head?).2 = true) : c.left ≠ [] := head_some fun e => by rw [e] at h; cases h
theorem num_head {c : Cu} (h : (numP c.left.head?).2 = true) : c.left ≠ [] := head_some fun e => by rw [e] at h; cases h
theorem sign_head {c : Cu} {s : ByteArray} (h : c.isB s = true) : c.left ≠ [] := head_some fun e => by unfold Cu.isB at h; rw [e] at h; cases h
theorem end_head {c : Cu} (h : endP c.left.head? = true) : c.left ≠ [] := head_some fun e => by rw [e] at h; cases h
theorem Keep.below_then {w w1 w2 : World} {g : Nat} (h : Below w.heap.size w w1) (k : Keep w1.heap.size g w1 w2) : Keep w.heap.size g w w2 :=
  (Keep.of_below h g).trans ⟨k.os, k.tape, k.output, k.size, fun i hi hg => k.block i (Nat.lt_of_lt_of_le hi h.size) hg⟩
theorem Keep.then_keep {w w1 w2 : World} {g : Nat} (h : Keep w.heap.size g w w1) (k : Keep w1.heap.size g w1 w2) : Keep w.heap.size g w w2 :=
  h.trans ⟨k.os, k.tape, k.output, k.size, fun i hi hg => k.block i (Nat.lt_of_lt_of_le hi h.size) hg⟩
theorem Keep.then_below {w w1 w2 : World} {g : Nat} (h : Keep w.heap.size g w w1) (k : Below w1.heap.size w1 w2) : Keep w.heap.size g w w2 := h.then_keep (Keep.of_below k g)

theorem isI_any (g : Nat) (c : Cu) (s : ByteArray) (w : World) (h : CurC w g c) : Calls Tryz.prog 170 #[.pointer (some ⟨g, 0, none⟩), .string s] w fun e w' => e = .returned (.bool (c.isB s)) ∧ CurC w' g (c.is s) ∧ Keep w.heap.size g w w' := by
  have N := Lib.hid (now_any g c w h)
  have H := Lib.hid h
  have E : Hid (c.is s = c.over (signP c.left.head? s) ∧ c.isB s = signP c.left.head? s) := ⟨rfl, rfl⟩
  have O : Hid (∀ w1, CurC w1 g c → Calls Tryz.prog 126 #[.pointer (some ⟨g, 0, none⟩), .bool (signP c.left.head? s)] w1 fun e w' => e = .returned (.bool (signP c.left.head? s)) ∧ CurC w' g (c.over (signP c.left.head? s)) ∧ Keep w1.heap.size g w1 w') := fun w1 h1 => over_any g c _ w1 h1 (fun hb => sign_head (s := s) hb)
  rw [E.out.1, E.out.2]
  clear h E
  generalize c.left.head? = o at *
  have S := Lib.hid (fun w => isSignI_any o s w)
  generalize signP o s = b at *
  go_enter Tryz.func170, Tryz.ntmps170
  go_wp2_with fail
  refine N.out.mono ?_
  rintro e w1 ⟨rfl, hb1⟩
  have H1 := Lib.hid (H.out.below hb1)
  have HB1 := Lib.hid hb1
  clear hb1 N
  go_wp2_with fail
  refine (S.out w1).mono ?_
  rintro e w2 ⟨rfl, hb2⟩
  have H2 := Lib.hid (H1.out.below hb2)
  have HB2 := Lib.hid (HB1.out.trans (hb2.mono HB1.out.size))
  clear hb2 H1 HB1
  go_wp2_with fail
  refine (O.out _ H2.out).mono ?_
  rintro e w3 ⟨rfl, h3, k3⟩
  have H3 := Lib.hid h3
  have K3 := Lib.hid (Keep.below_then HB2.out k3)
  clear h3 k3 O
  go_wp2
  go_ret
  exact ⟨rfl, H3.out, K3.out⟩
theorem ends_any (g : Nat) (c : Cu) (w : World) (h : CurC w g c) : Calls Tryz.prog 161 #[.pointer (some ⟨g, 0, none⟩)] w fun e w' => e = .returned (.bool c.ends) ∧ Below w.heap.size w w' := by
  have M := Lib.hid (more_any g c w h)
  have H := Lib.hid h
  have E : Hid (c.ends = (!c.more || endP c.left.head?)) := rfl
  rw [E.out]
  clear h E
  have N : Hid (∀ w1, CurC w1 g c → _) := fun w1 h1 => now_any g c w1 h1
  generalize c.left.head? = o at *
  cases hm : c.more
  · rw [hm] at M
    clear hm
    go_enter Tryz.func161, Tryz.ntmps161
    go_wp2_with fail
    refine M.out.mono ?_
    rintro e w1 ⟨rfl, hb1⟩
    have HB1 := Lib.hid hb1
    clear hb1
    go_wp2
    go_ret
    exact ⟨rfl, HB1.out⟩
  · rw [hm] at M
    clear hm
    have S := Lib.hid (fun w => isEnd_any o w)
    generalize endP o = b at *
    go_enter Tryz.func161, Tryz.ntmps161
    go_wp2_with fail
    refine M.out.mono ?_
    rintro e w1 ⟨rfl, hb1⟩
    have HB1 := Lib.hid hb1
    have H1 := Lib.hid (H.out.below hb1)
    clear hb1
    go_wp2_with fail
    refine (N.out w1 H1.out).mono ?_
    rintro e w2 ⟨rfl, hb2⟩
    have HB2 := Lib.hid (HB1.out.trans (hb2.mono HB1.out.size))
    clear hb2 HB1
    go_wp2_with fail
    refine (S.out w2).mono ?_
    rintro e w3 ⟨rfl, hb3⟩
    have HB3 := Lib.hid (HB2.out.trans (hb3.mono HB2.out.size))
    clear hb3 HB2
    go_wp2
    go_ret
    exact ⟨by simp, HB3.out⟩
theorem peek_any (g : Nat) (c : Cu) (w : World) (h : CurC w g c) : Calls Tryz.prog 124 #[.pointer (some ⟨g, 0, none⟩)] w fun e w' => e = .returned (.string c.nameT) ∧ Below w.heap.size w w' := by
  have N := Lib.hid (now_any g c w h)
  have E : Hid (c.nameT = (nameP c.left.head?).1) := rfl
  rw [E.out]
  clear h E
  generalize c.left.head? = o at *
  go_enter Tryz.func124, Tryz.ntmps124
  go_wp2_with fail
  refine N.out.mono ?_
  rintro e w1 ⟨rfl, hb1⟩
  have HB1 := Lib.hid hb1
  clear hb1 N
  go_wp2_with fail
  refine (asName_any o w1).mono ?_
  rintro e w2 ⟨rfl, hb2⟩
  have HB2 := Lib.hid (HB1.out.trans (hb2.mono HB1.out.size))
  clear hb2 HB1
  go_wp2
  go_ret
  exact ⟨rfl, HB2.out⟩
theorem key_any (g : Nat) (c : Cu) (s : ByteArray) (w : World) (h : CurC w g c) : Calls Tryz.prog 121 #[.pointer (some ⟨g, 0, none⟩), .string s] w fun e w' => e = .returned (.bool (c.keyB s)) ∧ CurC w' g (c.key s) ∧ Keep w.heap.size g w w' := by
  have N := Lib.hid (now_any g c w h)
  have H := Lib.hid h
  have E : Hid (c.key s = c.over (c.keyB s) ∧ c.keyB s = ((nameP c.left.head?).2 && decide ((nameP c.left.head?).1 = s))) := ⟨rfl, rfl⟩
  have O : Hid (∀ w1 b, b = c.keyB s → CurC w1 g c → Calls Tryz.prog 126 #[.pointer (some ⟨g, 0, none⟩), .bool b] w1 fun e w' => e = .returned (.bool b) ∧ CurC w' g (c.over b) ∧ Keep w1.heap.size g w1 w') := fun w1 b hb h1 => over_any g c _ w1 h1 (fun hb' => name_head (by subst hb; unfold Cu.keyB at hb'; simp at hb'; exact hb'.1))
  rw [E.out.1]
  rw [E.out.2] at O ⊢
  clear h E
  generalize c.left.head? = o at *
  have A := Lib.hid (fun w => asName_any o w)
  generalize nameP o = p at *
  obtain ⟨t, b⟩ := p
  simp only at A O ⊢
  cases b
  · simp only [Bool.false_and] at O ⊢
    go_enter Tryz.func121, Tryz.ntmps121
    go_wp2_with fail
    refine N.out.mono ?_
    rintro e w1 ⟨rfl, hb1⟩
    have H1 := Lib.hid (H.out.below hb1)
    have HB1 := Lib.hid hb1
    clear hb1 N
    go_wp2_with fail
    refine (A.out w1).mono ?_
    rintro e w2 ⟨rfl, hb2⟩
    have H2 := Lib.hid (H1.out.below hb2)
    have HB2 := Lib.hid (HB1.out.trans (hb2.mono HB1.out.size))
    clear hb2 H1 HB1
    go_wp2_with fail
    refine (O.out _ false rfl H2.out).mono ?_
    rintro e w3 ⟨rfl, h3, k3⟩
    have H3 := Lib.hid h3
    have K3 := Lib.hid (Keep.below_then HB2.out k3)
    clear h3 k3 O
    go_wp2
    go_ret
    exact ⟨rfl, H3.out, K3.out⟩
  · simp only [Bool.true_and] at O ⊢
    have TE := text_eq t s
    rw [← TE] at O ⊢
    clear TE
    obtain ⟨b, hb⟩ : ∃ b, (t.toList == s.toList) = b := ⟨_, rfl⟩
    have hb' := hb
    rw [hb] at O ⊢
    clear hb
    go_enter Tryz.func121, Tryz.ntmps121
    go_wp2_with fail
    refine N.out.mono ?_
    rintro e w1 ⟨rfl, hb1⟩
    have H1 := Lib.hid (H.out.below hb1)
    have HB1 := Lib.hid hb1
    clear hb1 N
    go_wp2_with fail
    refine (A.out w1).mono ?_
    rintro e w2 ⟨rfl, hb2⟩
    have H2 := Lib.hid (H1.out.below hb2)
    have HB2 := Lib.hid (HB1.out.trans (hb2.mono HB1.out.size))
    clear hb2 H1 HB1
    go_wp2_with fail
    refine (O.out _ _ rfl H2.out).mono ?_
    rintro e w3 ⟨rfl, h3, k3⟩
    have H3 := Lib.hid h3
    have K3 := Lib.hid (Keep.below_then HB2.out k3)
    clear h3 k3 O
    go_wp2
    go_ret
    exact ⟨rfl, H3.out, K3.out⟩
end Go.Proofs.YthiipgahbmoiiaaGreatDoor
namespace Go.Proofs.YthiipgahbmoiiaaGreatDoor
open Go.RowKit

theorem fail_form {c : Cu} {e : Int} (he : e ≠ 0) (hf : c.fault = 0) : c.fail e = ⟨[], lineO c.left.head?, colO c.left.head?, e⟩ := by
  unfold Cu.fail
  rw [if_neg (by rintro (h | h); exact he h; exact h hf)]
  cases c.left <;> rfl
theorem fail_same {c : Cu} {e : Int} (h : e = 0 ∨ c.fault ≠ 0) : c.fail e = c := if_pos h
set_option maxRecDepth 100000 in
theorem failC_any (g : Nat) (c : Cu) (ee : Int) (w : World) (h : CurC w g c) : Calls Tryz.prog 80 #[.pointer (some ⟨g, 0, none⟩), .int .i64 ee] w fun e w' => e = .returned (.tuple #[]) ∧ CurC w' g (c.fail ee) ∧ Keep w.heap.size g w w' := by
  have T := Lib.hid (told_any g c w h)
  have N := Lib.hid (next_any g c w h)
  have H := Lib.hid h
  have m4 : w.cell? ⟨g, 4, none⟩ = some (.int .i64 c.fault) := by obtain ⟨a, cap, hb, _⟩ := h; exact hb.cell 4
  clear h
  by_cases he : ee = 0
  · have E : Hid (c.fail ee = c) := fail_same (.inl he)
    have q : (ee == 0) = true := by simp [he]
    clear he
    go_enter Tryz.func80, Tryz.ntmps80
    go_wp2_with fail
    refine T.out.mono ?_
    rintro e w1 ⟨rfl, rfl⟩
    go_wp2
    refine bodyPost_ret (results_none rfl _ _ _) rfl ⟨rfl, ?_, Keep.refl _ _ _⟩
    rw [E.out]
    exact H.out
  have q : (ee == 0) = false := by simp [he]
  by_cases hf : c.fault = 0
  · have E : Hid (c.fail ee = ⟨[], lineO c.left.head?, colO c.left.head?, ee⟩) := fail_form he hf
    have q2 : (c.fault != 0) = false := by simp [hf]
    clear he hf
    generalize c.left.head? = o at *
    have hpl := item_place
    obtain ⟨V, hV⟩ : ∃ V, itemV o = .agg #[V, .int .i64 (lineO o), .int .i64 (colO o)] := ⟨_, rfl⟩
    rw [hV] at N
    clear hV
    generalize lineO o = L at *
    generalize colO o = C at *
    go_enter Tryz.func80, Tryz.ntmps80
    go_wp2_with fail
    refine T.out.mono ?_
    rintro e w1 ⟨rfl, rfl⟩
    go_wp2_with fail
    refine N.out.mono ?_
    rintro e w1 ⟨rfl, hb1⟩
    obtain ⟨a, cap, hb, hl, hm, hr⟩ := H.out.below hb1
    have HR := Lib.hid hr
    have HB := Lib.hid hb
    have HB1 := Lib.hid hb1
    have c0 : w1.cell? ⟨g, 0, none⟩ = some (.slice a c.left.length cap) := hb.cell 0
    have c2 : w1.cell? ⟨g, 2, none⟩ = some (.int .i64 c.line) := hb.cell 2
    have c3 : w1.cell? ⟨g, 3, none⟩ = some (.int .i64 c.col) := hb.cell 3
    have c4 : w1.cell? ⟨g, 4, none⟩ = some (.int .i64 c.fault) := hb.cell 4
    have f0 := hb.free 0
    have f2 := hb.free 2
    have f3 := hb.free 3
    have f4 := hb.free 4
    clear hb hb1 hr T N m4 hl hm
    go_wp2
    go_end0
    refine ⟨rfl, ?_, ?_⟩
    · rw [E.out]
      exact ⟨none, 0, (((HB.out.put 2 (.int .i64 L)).put 3 (.int .i64 C)).put 4 (.int .i64 ee)).put 0 (.slice none 0 0), Nat.le_refl 0, by omega, RowI.nil _ _⟩
    · exact Keep.below_then HB1.out ((((Keep.put _ _ _ _ _).trans (Keep.put _ _ _ _ _)).trans (Keep.put _ _ _ _ _)).trans (Keep.put _ _ _ _ _))
  · have E : Hid (c.fail ee = c) := fail_same (.inr hf)
    have q2 : (c.fault != 0) = true := by simp [hf]
    clear he hf
    go_enter Tryz.func80, Tryz.ntmps80
    go_wp2_with fail
    refine T.out.mono ?_
    rintro e w1 ⟨rfl, rfl⟩
    go_wp2
    refine bodyPost_ret (results_none rfl _ _ _) rfl ⟨rfl, ?_, Keep.refl _ _ _⟩
    rw [E.out]
    exact H.out
set_option maxRecDepth 100000 in
theorem err_any (g : Nat) (c : Cu) (w : World) (h : CurC w g c) : Calls Tryz.prog 34 #[.pointer (some ⟨g, 0, none⟩)] w fun e w' => e = .returned (.tuple #[.int .i64 c.eLine, .int .i64 c.eCol, .int .i64 c.eErr]) ∧ Below w.heap.size w w' := by
  have T := Lib.hid (told_any g c w h)
  have M := Lib.hid (more_any g c w h)
  have H := Lib.hid h
  have m2 : w.cell? ⟨g, 2, none⟩ = some (.int .i64 c.line) := by obtain ⟨a, cap, hb, _⟩ := h; exact hb.cell 2
  have m3 : w.cell? ⟨g, 3, none⟩ = some (.int .i64 c.col) := by obtain ⟨a, cap, hb, _⟩ := h; exact hb.cell 3
  have m4 : w.cell? ⟨g, 4, none⟩ = some (.int .i64 c.fault) := by obtain ⟨a, cap, hb, _⟩ := h; exact hb.cell 4
  clear h
  by_cases hf : c.fault = 0
  · have q : (c.fault != 0) = false := by simp [hf]
    cases hle : c.left with
    | nil =>
      have E : Hid (c.eLine = 0 ∧ c.eCol = 0 ∧ c.eErr = 0) := by refine ⟨?_, ?_, ?_⟩ <;> simp [Cu.eLine, Cu.eCol, Cu.eErr, hf, hle]
      have hm : c.more = false := by simp [Cu.more, hle]
      rw [hm] at M
      rw [E.out.1, E.out.2.1, E.out.2.2]
      clear hf hle E hm
      go_enter Tryz.func34, Tryz.ntmps34
      go_wp2_with fail
      refine T.out.mono ?_
      rintro e w1 ⟨rfl, rfl⟩
      go_wp2_with fail
      refine M.out.mono ?_
      rintro e w1 ⟨rfl, hb1⟩
      have HB1 := Lib.hid hb1
      clear hb1
      go_wp2
      go_ret3
      exact ⟨rfl, HB1.out⟩
    | cons x r =>
      have E : Hid (c.eLine = x.l ∧ c.eCol = x.c ∧ c.eErr = 7) := by refine ⟨?_, ?_, ?_⟩ <;> simp [Cu.eLine, Cu.eCol, Cu.eErr, hf, hle]
      have hm : c.more = true := by simp [Cu.more, hle]
      rw [hm] at M
      rw [E.out.1, E.out.2.1, E.out.2.2]
      have N : Hid (∀ w1, CurC w1 g c → Calls Tryz.prog 83 #[.pointer (some ⟨g, 0, none⟩)] w1 fun e w' => e = .returned (.agg #[hasV x, .int .i64 x.l, .int .i64 x.c]) ∧ Below w1.heap.size w1 w') := fun w1 h1 => by
        have := next_any g c w1 h1
        rw [hle] at this
        exact this
      obtain ⟨Y, v, hv⟩ := has_iface x
      rw [hv] at N
      clear hf hle E hm hv
      go_enter Tryz.func34, Tryz.ntmps34
      go_wp2_with fail
      refine T.out.mono ?_
      rintro e w1 ⟨rfl, rfl⟩
      go_wp2_with fail
      refine M.out.mono ?_
      rintro e w1 ⟨rfl, hb1⟩
      have H1 := Lib.hid (H.out.below hb1)
      have HB1 := Lib.hid hb1
      clear hb1 T M
      go_wp2_with fail
      refine (N.out w1 H1.out).mono ?_
      rintro e w2 ⟨rfl, hb2⟩
      have HB2 := Lib.hid (HB1.out.trans (hb2.mono HB1.out.size))
      clear hb2 HB1 H1 N
      go_wp2_with fail
      go_quiet (fail)
      go_wp2
      go_ret3
      exact ⟨rfl, below_draws (HB2.out.alloc HB2.out.size _) _⟩
  · have q : (c.fault != 0) = true := by simp [hf]
    have E : Hid (c.eLine = c.line ∧ c.eCol = c.col ∧ c.eErr = c.fault) := by refine ⟨?_, ?_, ?_⟩ <;> simp [Cu.eLine, Cu.eCol, Cu.eErr, hf]
    rw [E.out.1, E.out.2.1, E.out.2.2]
    clear hf E
    go_enter Tryz.func34, Tryz.ntmps34
    go_wp2_with fail
    refine T.out.mono ?_
    rintro e w1 ⟨rfl, rfl⟩
    go_wp2_with fail
    go_quiet (fail)
    go_wp2
    go_ret3
    exact ⟨rfl, below_draws (Below.refl _ _) _⟩
end Go.Proofs.YthiipgahbmoiiaaGreatDoor
