/-
  Package line's cursor: what its calls tell, and what they leave. No condition beyond those that each theorem states.
-/
import Derived.Test.YtkfplffcegbdfaaGreatDoorCur2
namespace Go.Proofs.YtkfplffcegbdfaaGreatDoor
open Go.RowKit

theorem head_some {c : Cu} (h : c.left.head? ≠ none) : c.left ≠ [] := fun e => by rw [e] at h; exact h rfl
theorem name_head {c : Cu} (h : (nameP c.left.head?).2 = true) : c.left ≠ [] := head_some fun e => by rw [e] at h; cases h
theorem num_head {c : Cu} (h : (numP c.left.head?).2 = true) : c.left ≠ [] := head_some fun e => by rw [e] at h; cases h
theorem sign_head {c : Cu} {s : ByteArray} (h : c.isB s = true) : c.left ≠ [] := head_some fun e => by unfold Cu.isB at h; rw [e] at h; cases h
theorem end_head {c : Cu} (h : endP c.left.head? = true) : c.left ≠ [] := head_some fun e => by rw [e] at h; cases h
theorem Keep.below_then {w w1 w2 : World} {g : Nat} (h : Below w.heap.size w w1) (k : Keep w1.heap.size g w1 w2) : Keep w.heap.size g w w2 :=
  (Keep.of_below h g).trans ⟨k.os, k.tape, k.output, k.size, fun i hi hg => k.block i (Nat.lt_of_lt_of_le hi h.size) hg⟩
theorem Keep.then_keep {w w1 w2 : World} {g : Nat} (h : Keep w.heap.size g w w1) (k : Keep w1.heap.size g w1 w2) : Keep w.heap.size g w w2 :=
  h.trans ⟨k.os, k.tape, k.output, k.size, fun i hi hg => k.block i (Nat.lt_of_lt_of_le hi h.size) hg⟩
theorem Keep.then_below {w w1 w2 : World} {g : Nat} (h : Keep w.heap.size g w w1) (k : Below w1.heap.size w1 w2) : Keep w.heap.size g w w2 := h.then_keep (Keep.of_below k g)

theorem ends_any (g : Nat) (c : Cu) (w : World) (h : CurC w g c) : Calls Tryz.prog 115 #[.pointer (some ⟨g, 0, none⟩)] w fun e w' => e = .returned (.bool c.ends) ∧ Below w.heap.size w w' := by
  have M := Lib.hid (more_any g c w h)
  have H := Lib.hid h
  have E : Hid (c.ends = (!c.more || endP c.left.head?)) := rfl
  rw [E.out]
  clear h E
  have N : Hid (∀ w1, CurC w1 g c → _) := fun w1 h1 => now_any g c w1 h1
  generalize c.left.head? = o at *
  cases hm : c.more
  · rw [hm] at M
    clear hm
    go_enter Tryz.func115, Tryz.ntmps115
    go_wp2_with fail
    refine M.out.mono ?_
    rintro e w1 ⟨rfl, hb1⟩
    have HB1 := Lib.hid hb1
    clear hb1
    go_wp2
    go_ret
    exact ⟨rfl, HB1.out⟩
  · rw [hm] at M
    clear hm
    have S := Lib.hid (fun w => isEnd_any o w)
    generalize endP o = b at *
    go_enter Tryz.func115, Tryz.ntmps115
    go_wp2_with fail
    refine M.out.mono ?_
    rintro e w1 ⟨rfl, hb1⟩
    have HB1 := Lib.hid hb1
    have H1 := Lib.hid (H.out.below hb1)
    clear hb1
    go_wp2_with fail
    refine (N.out w1 H1.out).mono ?_
    rintro e w2 ⟨rfl, hb2⟩
    have HB2 := Lib.hid (HB1.out.trans (hb2.mono HB1.out.size))
    clear hb2 HB1
    go_wp2_with fail
    refine (S.out w2).mono ?_
    rintro e w3 ⟨rfl, hb3⟩
    have HB3 := Lib.hid (HB2.out.trans (hb3.mono HB2.out.size))
    clear hb3 HB2
    go_wp2
    go_ret
    exact ⟨by simp, HB3.out⟩
theorem peek_any (g : Nat) (c : Cu) (w : World) (h : CurC w g c) : Calls Tryz.prog 116 #[.pointer (some ⟨g, 0, none⟩)] w fun e w' => e = .returned (.string c.nameT) ∧ Below w.heap.size w w' := by
  have N := Lib.hid (now_any g c w h)
  have E : Hid (c.nameT = (nameP c.left.head?).1) := rfl
  rw [E.out]
  clear h E
  generalize c.left.head? = o at *
  go_enter Tryz.func116, Tryz.ntmps116
  go_wp2_with fail
  refine N.out.mono ?_
  rintro e w1 ⟨rfl, hb1⟩
  have HB1 := Lib.hid hb1
  clear hb1 N
  go_wp2_with fail
  refine (asName_any o w1).mono ?_
  rintro e w2 ⟨rfl, hb2⟩
  have HB2 := Lib.hid (HB1.out.trans (hb2.mono HB1.out.size))
  clear hb2 HB1
  go_wp2
  go_ret
  exact ⟨rfl, HB2.out⟩
theorem key_any (g : Nat) (c : Cu) (s : ByteArray) (w : World) (h : CurC w g c) : Calls Tryz.prog 112 #[.pointer (some ⟨g, 0, none⟩), .string s] w fun e w' => e = .returned (.bool (c.keyB s)) ∧ CurC w' g (c.key s) ∧ Keep w.heap.size g w w' := by
  have N := Lib.hid (now_any g c w h)
  have H := Lib.hid h
  have E : Hid (c.key s = c.over (c.keyB s) ∧ c.keyB s = ((nameP c.left.head?).2 && decide ((nameP c.left.head?).1 = s))) := ⟨rfl, rfl⟩
  have O : Hid (∀ w1 b, b = c.keyB s → CurC w1 g c → Calls Tryz.prog 117 #[.pointer (some ⟨g, 0, none⟩), .bool b] w1 fun e w' => e = .returned (.bool b) ∧ CurC w' g (c.over b) ∧ Keep w1.heap.size g w1 w') := fun w1 b hb h1 => over_any g c _ w1 h1 (fun hb' => name_head (by subst hb; unfold Cu.keyB at hb'; simp at hb'; exact hb'.1))
  rw [E.out.1]
  rw [E.out.2] at O ⊢
  clear h E
  generalize c.left.head? = o at *
  have A := Lib.hid (fun w => asName_any o w)
  generalize nameP o = p at *
  obtain ⟨t, b⟩ := p
  simp only at A O ⊢
  cases b
  · simp only [Bool.false_and] at O ⊢
    go_enter Tryz.func112, Tryz.ntmps112
    go_wp2_with fail
    refine N.out.mono ?_
    rintro e w1 ⟨rfl, hb1⟩
    have H1 := Lib.hid (H.out.below hb1)
    have HB1 := Lib.hid hb1
    clear hb1 N
    go_wp2_with fail
    refine (A.out w1).mono ?_
    rintro e w2 ⟨rfl, hb2⟩
    have H2 := Lib.hid (H1.out.below hb2)
    have HB2 := Lib.hid (HB1.out.trans (hb2.mono HB1.out.size))
    clear hb2 H1 HB1
    go_wp2_with fail
    refine (O.out _ false rfl H2.out).mono ?_
    rintro e w3 ⟨rfl, h3, k3⟩
    have H3 := Lib.hid h3
    have K3 := Lib.hid (Keep.below_then HB2.out k3)
    clear h3 k3 O
    go_wp2
    go_ret
    exact ⟨rfl, H3.out, K3.out⟩
  · simp only [Bool.true_and] at O ⊢
    have TE := text_eq t s
    rw [← TE] at O ⊢
    clear TE
    obtain ⟨b, hb⟩ : ∃ b, (t.toList == s.toList) = b := ⟨_, rfl⟩
    have hb' := hb
    rw [hb] at O ⊢
    clear hb
    go_enter Tryz.func112, Tryz.ntmps112
    go_wp2_with fail
    refine N.out.mono ?_
    rintro e w1 ⟨rfl, hb1⟩
    have H1 := Lib.hid (H.out.below hb1)
    have HB1 := Lib.hid hb1
    clear hb1 N
    go_wp2_with fail
    refine (A.out w1).mono ?_
    rintro e w2 ⟨rfl, hb2⟩
    have H2 := Lib.hid (H1.out.below hb2)
    have HB2 := Lib.hid (HB1.out.trans (hb2.mono HB1.out.size))
    clear hb2 H1 HB1
    go_wp2_with fail
    refine (O.out _ _ rfl H2.out).mono ?_
    rintro e w3 ⟨rfl, h3, k3⟩
    have H3 := Lib.hid h3
    have K3 := Lib.hid (Keep.below_then HB2.out k3)
    clear h3 k3 O
    go_wp2
    go_ret
    exact ⟨rfl, H3.out, K3.out⟩
end Go.Proofs.YtkfplffcegbdfaaGreatDoor
