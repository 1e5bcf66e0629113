/-
  Functions of variables, plainly: what right parts have; all that is read has a value just if no variable lacks one; which error there is, told by the sets at the begins of blocks. No condition beyond those that each theorem states.
-/
import Derived.Test.YtgpbpbhidemciaaGreatIrG
namespace Go.Proofs.YtgpbpbhidemciaaGreat

theorem var_iff {n : Int} : varB n = true ↔ 1 ≤ n ∧ n ≤ 200 := by simp [varB]
theorem fits_le {h : Bool} {n : Int} (hf : fitsB h n = true) : 0 ≤ n ∧ n ≤ 200 := by
  unfold fitsB at hf
  split at hf
  · have := var_iff.1 hf; omega
  · simp at hf; omega
/-- All parts of a right instruction are variables, or none. -/
theorem ins_parts {x : Ii} (h : isInsB x = true) : (0 ≤ x.dst ∧ x.dst ≤ 200) ∧ (0 ≤ x.a ∧ x.a ≤ 200) ∧ (0 ≤ x.b ∧ x.b ≤ 200) ∧ ∀ v ∈ x.args, 1 ≤ v ∧ v ≤ 200 := by
  unfold isInsB at h
  split at h
  · unfold isCallB at h
    simp only [Bool.and_eq_true, beq_iff_eq, List.all_eq_true] at h
    obtain ⟨⟨⟨⟨⟨⟨⟨⟨h1, _⟩, _⟩, _⟩, h5⟩, h6⟩, h7⟩, _⟩, _⟩ := h
    refine ⟨fits_le h1, by omega, by omega, fun v hv => var_iff.1 (h5 v hv)⟩
  · unfold isOpB at h
    simp only [Bool.and_eq_true, List.isEmpty_iff] at h
    obtain ⟨⟨⟨⟨⟨⟨⟨_, h1⟩, h2⟩, h3⟩, _⟩, _⟩, h5⟩, _⟩ := h
    refine ⟨fits_le h1, fits_le h2, fits_le h3, ?_⟩
    rw [h5]
    simp
theorem term_part {t : Tt} (h : isTermB t = true) : 0 ≤ t.a ∧ t.a ≤ 200 := by
  unfold isTermB at h
  split at h
  · simp at h; omega
  split at h
  · have := var_iff.1 h; omega
  split at h
  · simp only [Bool.and_eq_true] at h
    exact fits_le h.1
  split at h
  · simp at h; omega
  · cases h
theorem mem_given {v : Int} {l : List Int} : v ∈ givenL l ↔ v ∈ l ∧ v ≠ 0 := by simp [givenL]
theorem mem_reads {x : Ii} (h : isInsB x = true) {v : Int} : v ∈ readsL x ↔ (v = x.a ∨ v = x.b ∨ v ∈ x.args) ∧ v ≠ 0 := by
  unfold readsL
  rw [if_pos h, mem_given]
  simp
theorem mem_needs {t : Tt} (h : isTermB t = true) {v : Int} : v ∈ needsL t ↔ v = t.a ∧ v ≠ 0 := by
  unfold needsL
  rw [if_pos h, mem_given]
  simp
/-- What is read in right parts is a variable. -/
theorem bareIn_var {v : Int} {t : Tt} {l : List Ii} (ht : isTermB t = true) (hl : ∀ i ∈ l, isInsB i = true) (h : bareIn v t l) : 1 ≤ v ∧ v ≤ 200 := by
  induction l with
  | nil =>
    have h1 := (mem_needs ht).1 h
    have h2 := term_part ht
    omega
  | cons i l ih =>
    rcases h with h | h
    · have h1 := (mem_reads (hl i (by simp))).1 h
      obtain ⟨_, h2, h3, h4⟩ := ins_parts (hl i (by simp))
      obtain ⟨h1 | h1 | h1, h0⟩ := h1
      · omega
      · omega
      · exact h4 v h1
    · exact ih (fun j hj => hl j (by simp [hj])) h.2
theorem only_iff {t : Tt} (ht : isTermB t = true) : ∀ {l : List Ii} {N : Nat}, (∀ i ∈ l, isInsB i = true) → (onlyB t l N = true ↔ ∀ v : Nat, v ≠ 0 → N.testBit v = false → ¬ bareIn v t l) := by
  intro l
  induction l with
  | nil =>
    intro N _
    have hp := term_part ht
    unfold onlyB
    rw [has_iff (by simp; omega)]
    constructor
    · intro h v h0 hv hb
      have h1 := (mem_needs ht).1 hb
      have := h t.a (by simp) (by rw [← h1.1]; exact h1.2)
      rw [← h1.1] at this
      simp [hv] at this
    · intro h v hv h0
      simp at hv
      subst hv
      cases hx : N.testBit t.a.toNat
      · refine absurd ?_ (h t.a.toNat (by omega) hx)
        show _ ∈ needsL t
        rw [mem_needs ht]
        omega
      · rfl
  | cons i l ih =>
    intro N hl
    have hi := hl i (by simp)
    obtain ⟨h1, h2, h3, h4⟩ := ins_parts hi
    unfold onlyB
    simp only [Bool.and_eq_true]
    rw [has_iff (by simp; omega), has_iff (fun v hv => by have := h4 v hv; omega), ih (fun j hj => hl j (by simp [hj]))]
    constructor
    · rintro ⟨⟨ha, hb⟩, hc⟩ v h0 hv hbare
      rcases hbare with hr | ⟨hne, hr⟩
      · obtain ⟨hr | hr | hr, h0'⟩ := (mem_reads hi).1 hr
        · have := ha v (by simp [hr]) h0'
          simp [hv] at this
        · have := ha v (by simp [hr]) h0'
          simp [hv] at this
        · have := hb v hr h0'
          simp [hv] at this
      · refine hc v h0 ?_ hr
        rw [add_bit h1.1, hv]
        simp
        intro _ e
        exact hne e.symm
    · intro h
      refine ⟨⟨?_, ?_⟩, ?_⟩
      · intro v hv h0
        have hv' : v = i.a ∨ v = i.b := by simpa using hv
        have hv0 : 0 ≤ v := by omega
        cases hx : N.testBit v.toNat
        · refine absurd (.inl ?_) (h v.toNat (by omega) hx)
          rw [mem_reads hi, Int.toNat_of_nonneg hv0]
          exact ⟨by rcases hv' with h | h <;> simp [h], h0⟩
        · rfl
      · intro v hv h0
        have hv0 : 0 ≤ v := by have := h4 v hv; omega
        cases hx : N.testBit v.toNat
        · refine absurd (.inl ?_) (h v.toNat (by omega) hx)
          rw [mem_reads hi, Int.toNat_of_nonneg hv0]
          exact ⟨.inr (.inr hv), h0⟩
        · rfl
      · intro v h0 hv hb
        rw [add_bit h1.1] at hv
        simp at hv
        exact h v h0 hv.1 (.inr ⟨fun e => hv.2 h0 e.symm, hb⟩)

theorem shape_zero {f : Ff} (h : shapeN f = 0) : isLongB f = false ∧ shapedB f = true := by
  unfold shapeN at h
  split at h
  · cases h
  · rename_i h1
    split at h
    · rename_i h2; exact ⟨by simpa using h1, h2⟩
    · cases h
theorem shaped_blocks {f : Ff} (h : shapedB f = true) {x : Bb} (hx : x ∈ f.blocks) : (∀ i ∈ x.ins, isInsB i = true) ∧ isTermB x.tm = true := by
  unfold shapedB at h
  simp only [Bool.and_eq_true, List.all_eq_true] at h
  have := h.2 x hx
  unfold isBlockB at this
  simpa [List.all_eq_true] using this
theorem params_vars {l : List Int} : ∀ {seen : List Int}, paramsB seen l = true → ∀ v ∈ l, 1 ≤ v ∧ v ≤ 200 := by
  induction l with
  | nil => intro _ _ v hv; cases hv
  | cons a l ih =>
    intro seen h v hv
    unfold paramsB at h
    simp only [Bool.and_eq_true] at h
    rcases List.mem_cons.1 hv with rfl | hv
    · exact var_iff.1 h.1.1
    · exact ih h.2 v hv
theorem shaped_params {f : Ff} (h : shapedB f = true) : ∀ v ∈ f.params, 1 ≤ v ∧ v ≤ 200 := by
  unfold shapedB at h
  simp only [Bool.and_eq_true] at h
  exact params_vars h.1
/-- All have a value: nothing lacks one. -/
theorem Ended.fine {f : Ff} {s : St} (hE : Ended f s) (hs : shapeN f = 0) (hr : ∀ b, b < f.blocks.length → Reach f b) (h : ∀ b x, f.blocks[b]? = some x → onlyB x.tm x.ins (s.atN b) = true) : ∀ v : Int, v ≠ 0 → ¬ LacksV f v := by
  rintro v h0 ⟨b, x, hx, hB, hin⟩
  obtain ⟨hi, ht⟩ := shaped_blocks (shape_zero hs).2 (List.mem_of_getElem? hx)
  have hv := bareIn_var ht hi hin
  have hb := hr b (List.getElem?_eq_some_iff.1 hx).1
  have e : ((v.toNat : Nat) : Int) = v := Int.toNat_of_nonneg (by omega)
  have h1 := (only_iff ht hi).1 (h b x hx) v.toNat (by omega)
  rw [e] at h1
  refine h1 ?_ hin
  rw [hE.bare b hb v.toNat (by omega) (by omega), e]
  exact hB
/-- Some has none: a variable lacks one. -/
theorem Ended.lack {f : Ff} {s : St} (hE : Ended f s) (hs : shapeN f = 0) (hr : ∀ b, b < f.blocks.length → Reach f b) {b : Nat} {x : Bb} (hx : f.blocks[b]? = some x) (h : onlyB x.tm x.ins (s.atN b) = false) : ∃ v : Int, v ≠ 0 ∧ LacksV f v := by
  obtain ⟨hi, ht⟩ := shaped_blocks (shape_zero hs).2 (List.mem_of_getElem? hx)
  have hb := hr b (List.getElem?_eq_some_iff.1 hx).1
  apply Classical.byContradiction
  intro hno
  have : onlyB x.tm x.ins (s.atN b) = true := by
    rw [only_iff ht hi]
    intro v h0 hv hin
    have hvv := bareIn_var ht hi hin
    exact hno ⟨v, by omega, b, x, hx, (hE.bare b hb v h0 (by omega)).1 hv, hin⟩
  rw [h] at this
  cases this
end Go.Proofs.YtgpbpbhidemciaaGreat
