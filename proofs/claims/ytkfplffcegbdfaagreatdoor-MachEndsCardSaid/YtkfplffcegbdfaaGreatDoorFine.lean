/-
  What holds of the reader's state is kept by each rune that is no fault. No condition beyond those that each theorem states.
-/
import Derived.Test.YtkfplffcegbdfaaGreatDoorPk1
namespace Go.Proofs.YtkfplffcegbdfaaGreatDoor
theorem shut_f (s : ByteArray) (σ : Rd) (i : Int) : (σ.shut s i).f = σ.f := by unfold Rd.shut; split <;> rfl
theorem shut_line (s : ByteArray) (σ : Rd) (i : Int) : (σ.shut s i).line = σ.line := by unfold Rd.shut; split <;> rfl
theorem shut_col (s : ByteArray) (σ : Rd) (i : Int) : (σ.shut s i).col = σ.col := by unfold Rd.shut; split <;> rfl
theorem shut_words (s : ByteArray) (σ : Rd) (i : Int) : (σ.shut s i).ws.length ≤ σ.ws.length + 1 := by unfold Rd.shut; split <;> simp
/-- Fine, but for the step over the rune. -/
structure Near (σ : Rd) (i : Nat) (l c : Int) : Prop where
  words : σ.ws.length ≤ i + 1
  frm0 : 0 ≤ σ.frm
  frm1 : σ.frm ≤ i
  many0 : 0 ≤ σ.many
  many1 : σ.many ≤ i + 1
  n0 : -1099511627776 ≤ σ.w.n
  n1 : σ.w.n ≤ 1099511627776
  line : σ.line = l
  col : σ.col = c

theorem Near.shut {σ : Rd} {i : Nat} (h : Fine σ i) (s : ByteArray) : Near (σ.shut s i) i σ.line σ.col := by
  unfold Rd.shut
  split
  · exact ⟨by have := h.words; omega, h.frm0, h.frm1, h.many0, by have := h.many1; omega, h.n0, h.n1, rfl, rfl⟩
  · exact ⟨by have := h.words; simp; omega, Int.le_refl _, by simp, Int.le_refl _, by simp; omega, by simp [noWd], by simp [noWd], rfl, rfl⟩
theorem Near.begin_ {σ : Rd} {i : Nat} (h : Fine σ i) (s : ByteArray) (k : Int) : Near (σ.begin_ s k i) i σ.line σ.col := by
  refine ⟨?_, by simp [Rd.begin_], by simp [Rd.begin_], by simp [Rd.begin_], by simp [Rd.begin_]; omega, by simp [Rd.begin_], by simp [Rd.begin_], shut_line _ _ _, shut_col _ _ _⟩
  have := shut_words s σ i
  have := h.words
  simp only [Rd.begin_]
  omega
theorem spell_ok {σ : Rd} {s : ByteArray} {k i r : Int} (h : (σ.spell s k i r).f = 0) : (σ.opened s k i).fits r = true ∧ σ.spell s k i r = (σ.opened s k i).grown r := by
  unfold Rd.spell at h ⊢
  simp only at h ⊢
  split at h
  · rename_i hf
    exact ⟨hf, if_pos hf⟩
  · simp [Rd.fail] at h
theorem Near.spell {σ : Rd} {i : Nat} (h : Fine σ i) (s : ByteArray) (k r : Int) (hf : (σ.spell s k i r).f = 0) : Near (σ.spell s k i r) i σ.line σ.col := by
  obtain ⟨h1, h2⟩ := spell_ok hf
  rw [h2]
  have hn : Near (σ.opened s k i) i σ.line σ.col ∧ (σ.opened s k i).many ≤ i := by
    unfold Rd.opened
    split
    · exact ⟨⟨by have := h.words; omega, h.frm0, h.frm1, h.many0, by have := h.many1; omega, h.n0, h.n1, rfl, rfl⟩, h.many1⟩
    · exact ⟨Near.begin_ h s k, by simp [Rd.begin_]⟩
  generalize σ.opened s k i = τ at *
  obtain ⟨hn, hm⟩ := hn
  unfold Rd.grown
  split
  · exact ⟨hn.words, hn.frm0, hn.frm1, by have := hn.many0; simp only; omega, by simp only; omega, hn.n0, hn.n1, hn.line, hn.col⟩
  · rename_i hk
    rw [Rd.fits, if_neg hk, boundB] at h1
    have h3 := of_decide_eq_true h1
    exact ⟨hn.words, hn.frm0, hn.frm1, hn.many0, hn.many1, h3.1, h3.2, hn.line, hn.col⟩
theorem Near.take {σ : Rd} {i : Nat} (h : Fine σ i) (s : ByteArray) (r : Int) (hf : (σ.take s i r).f = 0) : Near (σ.take s i r) i σ.line σ.col := by
  unfold Rd.take at hf ⊢
  simp only at hf ⊢
  split at hf
  · rename_i hu
    rw [if_pos hu]
    have := Near.begin_ h s 4
    exact ⟨this.words, this.frm0, this.frm1, this.many0, this.many1, this.n0, this.n1, this.line, this.col⟩
  rename_i hu
  rw [if_neg hu]
  clear hu
  split at hf
  · rename_i hu
    rw [if_pos hu]
    exact Near.shut (σ := { σ with remark := true }) ⟨h.words, h.frm0, h.frm1, h.many0, h.many1, h.n0, h.n1, h.line0, h.line1, h.col0, h.col1⟩ s
  rename_i hu
  rw [if_neg hu]
  clear hu
  split at hf
  · rename_i hu
    rw [if_pos hu]
    exact Near.shut h s
  rename_i hu
  rw [if_neg hu]
  clear hu
  split at hf
  · rename_i hu
    rw [if_pos hu]
    exact Near.begin_ h s 3
  rename_i hu
  rw [if_neg hu]
  clear hu
  split at hf
  · rename_i hu
    rw [if_pos hu]
    have := Near.begin_ h s 2
    exact ⟨this.words, this.frm0, this.frm1, this.many0, this.many1, this.n0, this.n1, this.line, this.col⟩
  rename_i hu
  rw [if_neg hu]
  clear hu
  split at hf
  · rename_i hu
    rw [if_pos hu]
    exact Near.spell h s 2 r hf
  rename_i hu
  rw [if_neg hu]
  clear hu
  split at hf
  · rename_i hu
    rw [if_pos hu]
    exact Near.spell h s 1 r hf
  · simp [Rd.fail] at hf
theorem Fine.next {σ : Rd} {i n : Nat} (h : Fine σ i) (s : ByteArray) (r : Int) (hf : (σ.take s i r).f = 0) (hn : 1 ≤ n) : Fine ((σ.take s i r).pass r) (i + n) := by
  have t := Near.take h s r hf
  have h1 := h.line0
  have h2 := h.line1
  have h3 := h.col0
  have h4 := h.col1
  have t1 := t.words
  have t2 := t.frm1
  have t3 := t.many1
  have t4 := t.line
  have t5 := t.col
  unfold Rd.pass
  split
  · exact ⟨by simp only; omega, t.frm0, by simp only; omega, t.many0, by simp only; omega, t.n0, t.n1, by simp only; omega, by simp only; omega, by simp, by simp only; omega⟩
  · exact ⟨by simp only; omega, t.frm0, by simp only; omega, t.many0, by simp only; omega, t.n0, t.n1, by simp only; omega, by simp only; omega, by simp only; omega, by simp only; omega⟩
theorem Fine.start : Fine startRd 0 := ⟨by simp [startRd], by simp [startRd], by simp [startRd], by simp [startRd], by simp [startRd], by simp [startRd, noWd], by simp [startRd, noWd], by simp [startRd], by simp [startRd], by simp [startRd], by simp [startRd]⟩
theorem pass_f (σ : Rd) (r : Int) : (σ.pass r).f = σ.f := by unfold Rd.pass; split <;> rfl
theorem Rd.run_end (s : ByteArray) (n i : Nat) (σ : Rd) (h : ¬ i < s.size) : Rd.run s n i σ = σ := by
  cases n with
  | zero => rfl
  | succ n => simp [Rd.run, h]
end Go.Proofs.YtkfplffcegbdfaaGreatDoor
