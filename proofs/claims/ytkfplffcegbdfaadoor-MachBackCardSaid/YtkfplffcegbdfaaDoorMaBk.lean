/-
  What is lost of a right machine: how many, in which order, the register that is returned among them (plainly); how long its text may be. No condition beyond those that each theorem states.
-/
import Derived.Test.YtkfplffcegbdfaaDoorMaB
import Derived.Test.YtkfplffcegbdfaaDoorMaY
namespace Go.Proofs.YtkfplffcegbdfaaDoor

theorem rise_pairs : ∀ l : List Int, riseB l = true → l.Pairwise (· < ·) := by
  intro l
  induction l with
  | nil => intro _; exact List.Pairwise.nil
  | cons a r ih =>
    intro h
    cases r with
    | nil => simp
    | cons b l =>
      rw [riseB, Bool.and_eq_true, decide_eq_true_eq] at h
      have h2 := ih h.2
      rw [List.pairwise_cons] at h2 ⊢
      refine ⟨fun x hx => ?_, ih h.2⟩
      rcases List.mem_cons.1 hx with rfl | hx
      · exact h.1
      · have := h2.1 x hx; omega
def cntB (l : List Int) (j : Nat) : Nat := (l.filter (fun x => decide (x < (j : Int)))).length
theorem cnt_step : ∀ (l : List Int) (j : Nat), l.Pairwise (· < ·) → cntB l (j + 1) = cntB l j + (if l.contains (j : Int) then 1 else 0) := by
  intro l j
  induction l with
  | nil => intro _; rfl
  | cons a r ih =>
    intro h
    rw [List.pairwise_cons] at h
    have h1 := ih h.2
    unfold cntB at *
    by_cases e : a = (j : Int)
    · have hr : r.contains (j : Int) = false := by
        rw [Bool.eq_false_iff]
        intro hc
        have := h.1 (j : Int) (by simpa using hc)
        omega
      rw [hr] at h1
      subst e
      simp only [List.filter_cons, List.contains_cons]
      rw [if_pos (by simp; omega), if_neg (by simp)]
      simp at h1 ⊢
      omega
    · have e2 : ((j : Int) == a) = false := by simpa using fun h => e h.symm
      simp only [List.filter_cons, List.contains_cons, e2, Bool.false_or]
      by_cases hl : a < (j : Int)
      · rw [if_pos (by simp; omega), if_pos (by simp; omega)]
        simp only [List.length_cons]
        omega
      · rw [if_neg (by simp; omega), if_neg (by simp; omega)]
        exact h1
theorem lost_cnt (m : Mm) (h : m.saved.Pairwise (· < ·)) (h0 : ∀ x ∈ m.saved, 0 ≤ x) : ∀ j, (m.lostGo j).length + cntB m.saved j = j := by
  intro j
  induction j with
  | zero =>
    have : cntB m.saved 0 = 0 := by
      unfold cntB
      rw [List.length_eq_zero_iff, List.filter_eq_nil_iff]
      intro x hx
      have := h0 x hx
      simp
      omega
    rw [this]
    simp [Mm.lostGo]
  | succ j ih =>
    rw [lost_step, cnt_step _ _ h, List.length_append]
    cases m.saved.contains (j : Int)
    · simp; omega
    · simp; omega
theorem lost_all_len {m : Mm} (h : m.rightB = true) : (m.lostL.length : Int) + m.saved.length = m.regs := by
  have hi := (right_iff m).1 h
  have hs : ∀ x ∈ m.saved, 0 ≤ x ∧ x < m.regs := fun x hx => by
    have := List.all_eq_true.1 hi.saved x hx
    simp only [Mm.regB, Bool.and_eq_true, decide_eq_true_eq] at this
    exact this
  obtain ⟨b1, _, _, _⟩ := regs_bound h
  have h1 := lost_cnt m (rise_pairs _ hi.rise) (fun x hx => (hs x hx).1) m.regs.toNat
  have h2 : cntB m.saved m.regs.toNat = m.saved.length := by
    unfold cntB
    rw [List.filter_eq_self.2]
    intro x hx
    have := (hs x hx).2
    exact decide_eq_true (by omega)
  rw [lost_all m h]
  omega
theorem lost_pairs (m : Mm) (j : Nat) : (m.lostGo j).Pairwise (· < ·) := by
  unfold Mm.lostGo
  refine List.Pairwise.filter _ ?_
  rw [List.pairwise_map]
  exact List.Pairwise.imp (fun h => by simpa using h) List.pairwise_lt_range
theorem lost_rises {m : Mm} (h : m.rightB = true) {i j : Nat} {x y : Int} (hij : i < j) (hx : m.lostL[i]? = some x) (hy : m.lostL[j]? = some y) : x < y := by
  rw [lost_all m h] at hx hy
  obtain ⟨h1, rfl⟩ := List.getElem?_eq_some_iff.1 hx
  obtain ⟨h2, rfl⟩ := List.getElem?_eq_some_iff.1 hy
  exact List.pairwise_iff_getElem.1 (lost_pairs m m.regs.toNat) i j h1 h2 hij
theorem lost_not {m : Mm} (h : m.rightB = true) {x : Int} (hx : x ∈ m.lostL) : m.saved.contains x = false := by
  rw [lost_all m h] at hx
  unfold Mm.lostGo at hx
  have := (List.mem_filter.1 hx).2
  simpa using this
theorem ret_lost {m : Mm} (h : m.rightB = true) : m.lostL.contains m.ret = true := by
  have hi := (right_iff m).1 h
  have hr := hi.ret
  simp only [Mm.regB, Bool.and_eq_true, decide_eq_true_eq] at hr
  have ha := hi.apart
  rw [lost_all m h]
  unfold Mm.lostGo
  rw [List.contains_eq_mem, decide_eq_true_eq, List.mem_filter]
  refine ⟨List.mem_map.2 ⟨m.ret.toNat, List.mem_range.2 (by omega), ?_⟩, by rw [ha]; rfl⟩
  show ((m.ret.toNat : Nat) : Int) = m.ret
  omega
theorem part_size7 (name : ByteArray) (l : List Int) (hn : name.size ≤ 7) (hl : l.length ≤ 64) (hx : ∀ x ∈ l, 0 ≤ x ∧ x < 100) : (joinS (partS name l)).size ≤ 520 := by
  have h1 := joinS_size (partS name l) 7 (by
    intro y hy
    simp only [partS, List.mem_cons, List.mem_map] at hy
    rcases hy with rfl | ⟨z, hz, rfl⟩
    · exact hn
    · have := numS_len z (hx z hz); omega)
  have h2 : (partS name l).length ≤ 65 := by simp [partS]; omega
  have h3 : (partS name l).length * (7 + 1) ≤ 65 * 8 := Nat.mul_le_mul h2 (Nat.le_refl _)
  omega
theorem text_size {m : Mm} (h : m.rightB = true) : m.textS.size ≤ 100000 := by
  obtain ⟨b1, b2, b3, b4, b5, b6⟩ := right_small h
  have h1 := joinS_size m.partsL 520 (by
    intro y hy
    simp only [Mm.partsL, List.mem_cons, List.not_mem_nil, or_false] at hy
    rcases hy with rfl | rfl | rfl | rfl
    · exact part_size7 _ _ (by decide) (by simp) (fun x hx => by simp at hx; subst hx; exact b3)
    · exact part_size7 _ _ (by decide) b1 b5
    · exact part_size7 _ _ (by decide) (by simp) (fun x hx => by simp at hx; subst hx; exact b4)
    · exact part_size7 _ _ (by decide) b2 b6)
  have h2 : m.partsL.length = 4 := rfl
  unfold Mm.textS
  rw [ByteArray.size_append]
  have h3 : (⟨#[10]⟩ : ByteArray).size = 1 := rfl
  rw [h2] at h1
  omega
theorem told_right {c : Cu} (h : toldE c = 0) : (toldM c).rightB = true := by
  unfold toldM
  rw [if_pos h]
  unfold toldE at h
  split at h
  · contradiction
  · split at h
    · assumption
    · cases h
theorem told_none {c : Cu} (h : toldE c ≠ 0) : toldM c = noM := by
  unfold toldM
  rw [if_neg h]
theorem take_ret (l : List Int) (n : Nat) (x r : Int) (h : l[n]? = some x) : (l.take (n + 1)).contains r = ((l.take n).contains r || (x == r)) := by
  rw [List.take_add_one, h, Bool.eq_iff_iff]
  simp only [Option.toList_some, List.contains_eq_mem, List.mem_append, List.mem_singleton, Bool.or_eq_true, decide_eq_true_eq, beq_iff_eq]
  constructor
  · rintro (h | h)
    · exact .inl h
    · exact .inr h.symm
  · rintro (h | h)
    · exact .inl h
    · exact .inr h.symm
end Go.Proofs.YtkfplffcegbdfaaDoor
