/-
  A text with more empty lines, spaces and remarks between its lines has the same words, but for ends that a cursor does not have (plainly). No condition beyond those that each theorem states.
-/
import Derived.Test.YtjmdgbgjleeloaaGreatDoorListM
import Derived.Test.YtjmdgbgjleeloaaGreatDoorPk2
namespace Go.Proofs.YtjmdgbgjleeloaaGreatDoor

def insB : List UInt8 := [32, 59, 32, 226, 134, 146, 10]
/-- With more between its lines. -/
def expand : List UInt8 → List UInt8
  | [] => []
  | b :: r => b :: (if b = 10 then insB ++ expand r else expand r)
theorem expand_nil {l : List UInt8} : expand l = [] ↔ l = [] := by cases l <;> simp [expand]
theorem expand_len (l : List UInt8) : l.length ≤ (expand l).length := by
  induction l with
  | nil => simp
  | cons b r ih =>
    rw [expand]
    split <;> simp <;> omega
theorem expand_split : ∀ (n : Nat) (l : List UInt8), n ≤ l.length → (∀ b ∈ l.take n, b ≠ 10) → (expand l).drop n = expand (l.drop n) ∧ (expand l).take n = l.take n := by
  intro n
  induction n with
  | zero => intro l _ _; simp
  | succ n ih =>
    intro l hn hb
    cases l with
    | nil => simp at hn
    | cons b r =>
      have h0 : b ≠ 10 := hb b (by simp)
      rw [expand, if_neg h0]
      obtain ⟨h1, h2⟩ := ih r (by simpa using hn) (fun c hc => hb c (by simp [hc]))
      exact ⟨by simpa using h1, by simp [h2]⟩
theorem decodeN_same (n n' b0 b1 b2 b3 c1 c2 c3 : Nat) (h1 : (1 < n ↔ 1 < n') ∧ (1 < n → b1 = c1)) (h2 : 1 < n → b1 / 64 = 2 → (2 < n ↔ 2 < n') ∧ (2 < n → b2 = c2))
    (h3 : 1 < n → b1 / 64 = 2 → 2 < n → b2 / 64 = 2 → (3 < n ↔ 3 < n') ∧ (3 < n → b3 = c3)) : Lib.decodeN n b0 b1 b2 b3 = Lib.decodeN n' b0 c1 c2 c3 := by
  unfold Lib.decodeN
  by_cases a1 : 1 < n
  · have e1 := h1.2 a1
    have a1' := h1.1.1 a1
    subst e1
    by_cases d1 : b1 / 64 = 2
    · have g2 := h2 a1 d1
      by_cases a2 : 2 < n
      · have e2 := g2.2 a2
        have a2' := g2.1.1 a2
        subst e2
        by_cases d2 : b2 / 64 = 2
        · have g3 := h3 a1 d1 a2 d2
          by_cases a3 : 3 < n
          · have e3 := g3.2 a3
            have a3' := g3.1.1 a3
            subst e3
            simp [a1, a1', a2, a2', a3, a3']
          · have a3' : ¬ 3 < n' := fun h => a3 (g3.1.2 h)
            simp [a1, a1', a2, a2', a3, a3']
        · simp [a1, a1', a2, a2', d2]
      · have a2' : ¬ 2 < n' := fun h => a2 (g2.1.2 h)
        simp [a1, a1', a2, a2']
    · simp [d1]
  · have a1' : ¬ 1 < n' := fun h => a1 (h1.1.2 h)
    simp [a1, a1']
theorem decodeN_low (n b0 b1 b2 b3 : Nat) (h : b0 < 128) : Lib.decodeN n b0 b1 b2 b3 = (b0, 1) := by unfold Lib.decodeN; rw [if_pos h]
theorem at_expand (l : List UInt8) : atL (expand l) = atL l := by
  cases l with
  | nil => rfl
  | cons b0 r0 =>
    have key : Lib.decodeN (expand (b0 :: r0)).length (hdB (expand (b0 :: r0)) 0) (hdB (expand (b0 :: r0)) 1) (hdB (expand (b0 :: r0)) 2) (hdB (expand (b0 :: r0)) 3) = Lib.decodeN (b0 :: r0).length (hdB (b0 :: r0) 0) (hdB (b0 :: r0) 1) (hdB (b0 :: r0) 2) (hdB (b0 :: r0) 3) := by
      have e0 : hdB (expand (b0 :: r0)) 0 = hdB (b0 :: r0) 0 := rfl
      rw [e0]
      by_cases hb : hdB (b0 :: r0) 0 < 128
      · rw [decodeN_low _ _ _ _ _ hb, decodeN_low _ _ _ _ _ hb]
      · have hb' : ¬ b0.toNat < 128 := hb
        have h10 : b0 ≠ 10 := fun e => hb' (by rw [e]; decide)
        rw [expand, if_neg h10]
        symm
        refine decodeN_same _ _ _ _ _ _ _ _ _ ?_ ?_ ?_
        · cases r0 with
          | nil => simp [expand]
          | cons b1 r1 => exact ⟨by simp [expand], fun _ => rfl⟩
        · intro _ hd
          cases r0 with
          | nil => simp [expand]
          | cons b1 r1 =>
            have h10 : b1 ≠ 10 := fun e => by subst e; have hd' : (10 : UInt8).toNat / 64 = 2 := hd; exact absurd hd' (by decide)
            rw [expand, if_neg h10]
            cases r1 with
            | nil => simp [expand]
            | cons b2 r2 => exact ⟨by simp [expand], fun _ => rfl⟩
        · intro _ hd _ hd2
          cases r0 with
          | nil => simp [expand]
          | cons b1 r1 =>
            have h10 : b1 ≠ 10 := fun e => by subst e; have hd' : (10 : UInt8).toNat / 64 = 2 := hd; exact absurd hd' (by decide)
            rw [expand, if_neg h10]
            cases r1 with
            | nil => simp [expand]
            | cons b2 r2 =>
              have h10 : b2 ≠ 10 := fun e => by subst e; have hd' : (10 : UInt8).toNat / 64 = 2 := hd2; exact absurd hd' (by decide)
              rw [expand, if_neg h10]
              cases r2 with
              | nil => simp [expand]
              | cons b3 r3 => exact ⟨by simp [expand], fun _ => rfl⟩
    unfold atL
    rw [key, if_neg (show ¬ expand (b0 :: r0) = [] by simp [expand]), if_neg (show ¬ b0 :: r0 = [] by simp)]
theorem atL_ascii (b : UInt8) (r : List UInt8) (h : b.toNat < 128) : atL (b :: r) = (b.toNat, 1) := by
  have e0 : hdB (b :: r) 0 = b.toNat := rfl
  unfold atL
  rw [if_neg (show ¬ b :: r = [] by simp), e0, decodeN_low _ _ _ _ _ h, if_neg (by simp only; rintro ⟨h1, _⟩; omega)]
theorem atL_arrow (r : List UInt8) : atL (226 :: 134 :: 146 :: r) = (8594, 3) := by
  have : Lib.decodeN (226 :: 134 :: 146 :: r).length (hdB (226 :: 134 :: 146 :: r) 0) (hdB (226 :: 134 :: 146 :: r) 1) (hdB (226 :: 134 :: 146 :: r) 2) (hdB (226 :: 134 :: 146 :: r) 3) = (8594, 3) := by
    have e0 : hdB (226 :: 134 :: 146 :: r) 0 = 226 := rfl
    have e1 : hdB (226 :: 134 :: 146 :: r) 1 = 134 := rfl
    have e2 : hdB (226 :: 134 :: 146 :: r) 2 = 146 := rfl
    rw [e0, e1, e2]
    unfold Lib.decodeN
    simp
  unfold atL
  rw [this, if_neg (by simp), if_neg (by simp)]
/-- A rune that is no line's end has no byte of one. -/
theorem rune_bytes {l : List UInt8} (h0 : (atL l).2 ≠ 0) (h10 : (atL l).1 ≠ 10) : ∀ b ∈ l.take (atL l).2, b ≠ 10 := by
  unfold atL at h0 h10 ⊢
  by_cases hl : l = []
  · rw [if_pos hl] at h0; exact absurd rfl h0
  rw [if_neg hl] at h0 h10 ⊢
  by_cases hb : (Lib.decodeN l.length (hdB l 0) (hdB l 1) (hdB l 2) (hdB l 3)).1 = 65533 ∧ (Lib.decodeN l.length (hdB l 0) (hdB l 1) (hdB l 2) (hdB l 3)).2 = 1
  · rw [if_pos hb] at h0; exact absurd rfl h0
  rw [if_neg hb] at h0 h10 ⊢
  have fin : ∀ (m : Nat), (∀ k, k < m → hdB l k ≠ 10) → ∀ b ∈ l.take m, b ≠ 10 := by
    intro m hm b hmem e
    obtain ⟨k, hk, hx⟩ := List.getElem_of_mem hmem
    simp only [List.length_take] at hk
    rw [List.getElem_take] at hx
    refine hm k (by omega) ?_
    unfold hdB
    rw [List.getD_eq_getElem?_getD, List.getElem?_eq_getElem (by omega), hx, e]
    rfl
  revert h0 h10 hb
  generalize hg0 : hdB l 0 = b0
  generalize hg1 : hdB l 1 = b1
  generalize hg2 : hdB l 2 = b2
  generalize hg3 : hdB l 3 = b3
  unfold Lib.decodeN
  have w : ∀ m, m = 1 ∧ b0 ≠ 10 ∨ m = 2 ∧ b0 ≠ 10 ∧ b1 ≠ 10 ∨ m = 3 ∧ b0 ≠ 10 ∧ b1 ≠ 10 ∧ b2 ≠ 10 ∨ m = 4 ∧ b0 ≠ 10 ∧ b1 ≠ 10 ∧ b2 ≠ 10 ∧ b3 ≠ 10 → ∀ k, k < m → hdB l k ≠ 10 := by
    intro m hm k hk
    rcases (show k = 0 ∨ k = 1 ∨ k = 2 ∨ k = 3 by omega) with rfl | rfl | rfl | rfl
    · omega
    · omega
    · omega
    · omega
  split
  · intro h0 h10 hb; exact fin _ (w _ (.inl ⟨rfl, h10⟩))
  split
  · split
    · intro h0 h10 hb; exact fin _ (w _ (.inr (.inl ⟨rfl, by omega, by omega⟩)))
    · intro _ _ hb; exact absurd ⟨rfl, rfl⟩ hb
  split
  · split
    · intro h0 h10 hb; exact fin _ (w _ (.inr (.inr (.inl ⟨rfl, by omega, by omega, by omega⟩))))
    · intro _ _ hb; exact absurd ⟨rfl, rfl⟩ hb
  split
  · split
    · intro h0 h10 hb; exact fin _ (w _ (.inr (.inr (.inr ⟨rfl, by omega, by omega, by omega, by omega⟩))))
    · intro _ _ hb; exact absurd ⟨rfl, rfl⟩ hb
  · intro _ _ hb; exact absurd ⟨rfl, rfl⟩ hb
theorem rune_expand {l : List UInt8} (h0 : (atL l).2 ≠ 0) (h10 : (atL l).1 ≠ 10) : (expand l).drop (atL l).2 = expand (l.drop (atL l).2) ∧ (expand l).take (atL l).2 = l.take (atL l).2 := expand_split _ _ (atL_len l) (rune_bytes h0 h10)
theorem run_expand (dg : Bool) : ∀ (f : Nat) (l : List UInt8), runL dg f (expand l) = runL dg f l ∧ ∀ b ∈ l.take (runL dg f l).1, b ≠ 10 := by
  intro f
  induction f with
  | zero => intro l; exact ⟨rfl, by simp [runL]⟩
  | succ f ih =>
    intro l
    rw [runL, runL, at_expand]
    by_cases hc : l = [] ∨ (atL l).2 = 0 ∨ stopB dg (atL l).1 = true
    · have hc' : expand l = [] ∨ (atL l).2 = 0 ∨ stopB dg (atL l).1 = true := by rw [expand_nil]; exact hc
      rw [if_pos hc, if_pos hc']
      exact ⟨rfl, by simp⟩
    · have hc' : ¬ (expand l = [] ∨ (atL l).2 = 0 ∨ stopB dg (atL l).1 = true) := by rw [expand_nil]; exact hc
      have h0 : (atL l).2 ≠ 0 := fun e => hc (.inr (.inl e))
      have h10 : (atL l).1 ≠ 10 := fun e => hc (.inr (.inr (by rw [e]; cases dg <;> rfl)))
      obtain ⟨e1, _⟩ := rune_expand h0 h10
      obtain ⟨i1, i2⟩ := ih (l.drop (atL l).2)
      rw [if_neg hc, if_neg hc', e1, i1]
      refine ⟨rfl, ?_⟩
      simp only
      rw [List.take_add]
      intro b hb
      rcases List.mem_append.1 hb with hb | hb
      · exact rune_bytes h0 h10 b hb
      · exact i2 b hb
theorem runT_expand (dg : Bool) (l : List UInt8) : runT dg (expand l) = runT dg l ∧ ∀ b ∈ l.take (runT dg l).1, b ≠ 10 := by
  unfold runT
  refine ⟨?_, (run_expand dg l.length l).2⟩
  rw [(run_expand dg _ l).1]
  exact runL_fuel dg _ _ l (expand_len l) (Nat.le_refl _)
theorem numL_expand (l : List UInt8) : numL (expand l) = numL l ∧ ∀ b ∈ l.take (numL l), b ≠ 10 := by
  have hh : hdB (expand l) 0 = hdB l 0 := by cases l <;> rfl
  unfold numL headL
  rw [hh]
  by_cases h : hdB l 0 = 45
  · rw [if_pos h]
    cases l with
    | nil => exact absurd h (by decide)
    | cons b r =>
      have hb : b ≠ 10 := fun e => by subst e; have h' : (10 : UInt8).toNat = 45 := h; exact absurd h' (by decide)
      have e1 : (expand (b :: r)).drop 1 = expand r := by rw [expand, if_neg hb]; rfl
      have e2 : (b :: r).drop 1 = r := rfl
      rw [e1, e2, (runT_expand true r).1]
      refine ⟨rfl, ?_⟩
      split
      · simp
      · intro c hc
        rw [Nat.add_comm, List.take_succ_cons] at hc
        rcases List.mem_cons.1 hc with rfl | hc
        · exact hb
        · exact (runT_expand true r).2 c hc
  · rw [if_neg h, List.drop_zero, List.drop_zero, (runT_expand true l).1]
    refine ⟨rfl, ?_⟩
    split
    · simp
    · rw [Nat.zero_add]
      exact (runT_expand true l).2
theorem numL_le (l : List UInt8) (hl : l ≠ []) : numL l ≤ l.length := by
  have hp := List.length_pos_iff.2 hl
  have hh : headL l ≤ 1 := by unfold headL; split <;> omega
  have := runL_len true (l.drop (headL l)).length (l.drop (headL l))
  unfold numL runT
  rw [List.length_drop] at *
  split <;> omega
end Go.Proofs.YtjmdgbgjleeloaaGreatDoor
