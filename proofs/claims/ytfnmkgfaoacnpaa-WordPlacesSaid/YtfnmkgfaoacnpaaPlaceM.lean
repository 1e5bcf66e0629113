/-
  Where words stand; a text with a line more ahead of it, and one with a remark behind it (plainly). No condition beyond those that each theorem states.
-/
import Derived.Test.YtfnmkgfaoacnpaaListM
namespace Go.Proofs.Ytfnmkgfaoacnpaa

theorem dec_one (n b0 b1 b2 b3 : Nat) (h : b0 < 128) : Lib.decodeN n b0 b1 b2 b3 = (b0, 1) := by unfold Lib.decodeN; rw [if_pos h]
theorem dec_two (n b0 b1 b2 b3 : Nat) (h0 : b0 / 32 = 6) (h1 : 1 < n ∧ b1 / 64 = 2) (hv : b0 % 32 * 64 + b1 % 64 ≥ 128) : Lib.decodeN n b0 b1 b2 b3 = (b0 % 32 * 64 + b1 % 64, 2) := by
  unfold Lib.decodeN
  rw [if_neg (by omega), if_pos ⟨h0, h1⟩, if_pos hv]
theorem dec_three (n b0 b1 b2 b3 : Nat) (h0 : b0 / 16 = 14) (h1 : 1 < n ∧ b1 / 64 = 2) (h2 : 2 < n ∧ b2 / 64 = 2)
    (hv : b0 % 16 * 4096 + b1 % 64 * 64 + b2 % 64 ≥ 2048 ∧ (b0 % 16 * 4096 + b1 % 64 * 64 + b2 % 64 < 55296 ∨ (57344 ≤ b0 % 16 * 4096 + b1 % 64 * 64 + b2 % 64 ∧ b0 % 16 * 4096 + b1 % 64 * 64 + b2 % 64 ≤ 1114111))) : Lib.decodeN n b0 b1 b2 b3 = (b0 % 16 * 4096 + b1 % 64 * 64 + b2 % 64, 3) := by
  unfold Lib.decodeN
  rw [if_neg (by omega), if_neg (by omega), if_pos ⟨h0, h1, h2⟩, if_pos hv]
theorem dec_four (n b0 b1 b2 b3 : Nat) (h0 : b0 / 8 = 30) (h1 : 1 < n ∧ b1 / 64 = 2) (h2 : 2 < n ∧ b2 / 64 = 2) (h3 : 3 < n ∧ b3 / 64 = 2)
    (hv : b0 % 8 * 262144 + b1 % 64 * 4096 + b2 % 64 * 64 + b3 % 64 ≥ 65536 ∧ (b0 % 8 * 262144 + b1 % 64 * 4096 + b2 % 64 * 64 + b3 % 64 < 55296 ∨ (57344 ≤ b0 % 8 * 262144 + b1 % 64 * 4096 + b2 % 64 * 64 + b3 % 64 ∧ b0 % 8 * 262144 + b1 % 64 * 4096 + b2 % 64 * 64 + b3 % 64 ≤ 1114111))) : Lib.decodeN n b0 b1 b2 b3 = (b0 % 8 * 262144 + b1 % 64 * 4096 + b2 % 64 * 64 + b3 % 64, 4) := by
  unfold Lib.decodeN
  rw [if_neg (by omega), if_neg (by omega), if_neg (by omega), if_pos ⟨h0, h1, h2, h3⟩, if_pos hv]
theorem dec_agree (n n' b0 b1 b2 b3 c0 c1 c2 c3 : Nat) (hv : ¬ ((Lib.decodeN n b0 b1 b2 b3).1 = 65533 ∧ (Lib.decodeN n b0 b1 b2 b3).2 = 1)) (hn : (Lib.decodeN n b0 b1 b2 b3).2 ≤ n')
    (q0 : 0 < (Lib.decodeN n b0 b1 b2 b3).2 → c0 = b0) (q1 : 1 < (Lib.decodeN n b0 b1 b2 b3).2 → c1 = b1) (q2 : 2 < (Lib.decodeN n b0 b1 b2 b3).2 → c2 = b2) (q3 : 3 < (Lib.decodeN n b0 b1 b2 b3).2 → c3 = b3) :
    Lib.decodeN n' c0 c1 c2 c3 = Lib.decodeN n b0 b1 b2 b3 := by
  by_cases h1 : b0 < 128
  · rw [dec_one n b0 b1 b2 b3 h1] at *
    have e0 := q0 (by simp)
    rw [e0, dec_one _ _ _ _ _ h1]
  by_cases h2 : b0 / 32 = 6 ∧ (1 < n ∧ b1 / 64 = 2)
  · by_cases hr : b0 % 32 * 64 + b1 % 64 ≥ 128
    · rw [dec_two n b0 b1 b2 b3 h2.1 h2.2 hr] at *
      have e0 := q0 (by simp)
      have e1 := q1 (by simp)
      rw [e0, e1, dec_two _ _ _ _ _ h2.1 ⟨by have hn' : 2 ≤ n' := hn; omega, h2.2.2⟩ hr]
    · exact absurd (by unfold Lib.decodeN; rw [if_neg h1, if_pos h2, if_neg hr]; exact ⟨rfl, rfl⟩) hv
  by_cases h3 : b0 / 16 = 14 ∧ (1 < n ∧ b1 / 64 = 2) ∧ (2 < n ∧ b2 / 64 = 2)
  · by_cases hr : b0 % 16 * 4096 + b1 % 64 * 64 + b2 % 64 ≥ 2048 ∧ (b0 % 16 * 4096 + b1 % 64 * 64 + b2 % 64 < 55296 ∨ (57344 ≤ b0 % 16 * 4096 + b1 % 64 * 64 + b2 % 64 ∧ b0 % 16 * 4096 + b1 % 64 * 64 + b2 % 64 ≤ 1114111))
    · rw [dec_three n b0 b1 b2 b3 h3.1 h3.2.1 h3.2.2 hr] at *
      have e0 := q0 (by simp)
      have e1 := q1 (by simp)
      have e2 := q2 (by simp)
      have hn' : 3 ≤ n' := hn
      rw [e0, e1, e2, dec_three _ _ _ _ _ h3.1 ⟨by omega, h3.2.1.2⟩ ⟨by omega, h3.2.2.2⟩ hr]
    · exact absurd (by unfold Lib.decodeN; rw [if_neg h1, if_neg h2, if_pos h3, if_neg hr]; exact ⟨rfl, rfl⟩) hv
  by_cases h4 : b0 / 8 = 30 ∧ (1 < n ∧ b1 / 64 = 2) ∧ (2 < n ∧ b2 / 64 = 2) ∧ (3 < n ∧ b3 / 64 = 2)
  · by_cases hr : b0 % 8 * 262144 + b1 % 64 * 4096 + b2 % 64 * 64 + b3 % 64 ≥ 65536 ∧ (b0 % 8 * 262144 + b1 % 64 * 4096 + b2 % 64 * 64 + b3 % 64 < 55296 ∨ (57344 ≤ b0 % 8 * 262144 + b1 % 64 * 4096 + b2 % 64 * 64 + b3 % 64 ∧ b0 % 8 * 262144 + b1 % 64 * 4096 + b2 % 64 * 64 + b3 % 64 ≤ 1114111))
    · rw [dec_four n b0 b1 b2 b3 h4.1 h4.2.1 h4.2.2.1 h4.2.2.2 hr] at *
      have e0 := q0 (by simp)
      have e1 := q1 (by simp)
      have e2 := q2 (by simp)
      have e3 := q3 (by simp)
      have hn' : 4 ≤ n' := hn
      rw [e0, e1, e2, e3, dec_four _ _ _ _ _ h4.1 ⟨by omega, h4.2.1.2⟩ ⟨by omega, h4.2.2.1.2⟩ ⟨by omega, h4.2.2.2.2⟩ hr]
    · exact absurd (by unfold Lib.decodeN; rw [if_neg h1, if_neg h2, if_neg h3, if_pos h4, if_neg hr]; exact ⟨rfl, rfl⟩) hv
  · exact absurd (by unfold Lib.decodeN; rw [if_neg h1, if_neg h2, if_neg h3, if_neg h4]; exact ⟨rfl, rfl⟩) hv
/-- A rune is told by its own bytes. -/
theorem at_agree {l l' : List UInt8} (h0 : (atL l).2 ≠ 0) (h : l'.take (atL l).2 = l.take (atL l).2) : atL l' = atL l := by
  have hle := atL_len l
  by_cases hl : l = []
  · rw [hl] at h0; exact absurd rfl h0
  have hle' : (atL l).2 ≤ l'.length := by
    have := congrArg List.length h
    simp only [List.length_take] at this
    omega
  have hl' : l' ≠ [] := fun e => by rw [e] at hle'; simp at hle'; exact h0 hle'
  have hb : ∀ k, k < (atL l).2 → hdB l' k = hdB l k := fun k hk => by
    unfold hdB
    rw [List.getD_eq_getElem?_getD, List.getD_eq_getElem?_getD]
    have := congrArg (·[k]?) h
    simp only [List.getElem?_take, if_pos hk] at this
    rw [this]
  have hd : atL l = Lib.decodeN l.length (hdB l 0) (hdB l 1) (hdB l 2) (hdB l 3) ∧ ¬ ((Lib.decodeN l.length (hdB l 0) (hdB l 1) (hdB l 2) (hdB l 3)).1 = 65533 ∧ (Lib.decodeN l.length (hdB l 0) (hdB l 1) (hdB l 2) (hdB l 3)).2 = 1) := by
    unfold atL at h0 ⊢
    rw [if_neg hl] at h0 ⊢
    split at h0
    · exact absurd rfl h0
    · rename_i hh
      rw [if_neg hh]
      exact ⟨rfl, hh⟩
  obtain ⟨hd1, hd2⟩ := hd
  rw [hd1] at hb hle'
  have key := dec_agree l.length l'.length (hdB l 0) (hdB l 1) (hdB l 2) (hdB l 3) (hdB l' 0) (hdB l' 1) (hdB l' 2) (hdB l' 3) hd2 hle' (hb 0) (hb 1) (hb 2) (hb 3)
  unfold atL
  rw [key, if_neg hl', if_neg hl]
def decL (l : List UInt8) : Nat × Nat := Lib.decodeN l.length (hdB l 0) (hdB l 1) (hdB l 2) (hdB l 3)
theorem decL_pos (l : List UInt8) : 1 ≤ (decL l).2 := by
  unfold decL
  generalize hdB l 0 = b0
  generalize hdB l 1 = b1
  generalize hdB l 2 = b2
  generalize hdB l 3 = b3
  unfold Lib.decodeN
  repeat' split
  all_goals simp
/-- All the runes of what is left. -/
def runesL : Nat → List UInt8 → List Int
  | 0, _ => []
  | f + 1, l => if l = [] then [] else ((decL l).1 : Int) :: runesL f (l.drop (decL l).2)
theorem runesL_nil (f : Nat) : runesL f [] = [] := by cases f <;> simp [runesL]
theorem runesL_fuel : ∀ (f g : Nat) (l : List UInt8), l.length ≤ f → l.length ≤ g → runesL f l = runesL g l := by
  intro f
  induction f with
  | zero => intro g l h _; rw [List.length_eq_zero_iff.1 (show l.length = 0 by omega), runesL_nil, runesL_nil]
  | succ f ih =>
    intro g l h1 h2
    cases g with
    | zero => rw [List.length_eq_zero_iff.1 (show l.length = 0 by omega), runesL_nil, runesL_nil]
    | succ g =>
      rw [runesL, runesL]
      by_cases hl : l = []
      · rw [if_pos hl, if_pos hl]
      · have := decL_pos l
        have hp := List.length_pos_iff.2 hl
        rw [if_neg hl, if_neg hl, ih g _ (by rw [List.length_drop]; omega) (by rw [List.length_drop]; omega)]
def runesT (l : List UInt8) : List Int := runesL l.length l
theorem at_dec {l : List UInt8} (h0 : (atL l).2 ≠ 0) : l ≠ [] ∧ decL l = atL l := by
  unfold atL at h0 ⊢
  by_cases hl : l = []
  · rw [if_pos hl] at h0; exact absurd rfl h0
  · rw [if_neg hl] at h0 ⊢
    split at h0
    · exact absurd rfl h0
    · rename_i h
      rw [if_neg h]
      exact ⟨hl, rfl⟩
theorem runes_step {l : List UInt8} (h0 : (atL l).2 ≠ 0) : runesT l = ((atL l).1 : Int) :: runesT (l.drop (atL l).2) := by
  obtain ⟨hl, hd⟩ := at_dec h0
  have hp := List.length_pos_iff.2 hl
  unfold runesT
  obtain ⟨m, hm⟩ : ∃ m, l.length = m + 1 := ⟨l.length - 1, by omega⟩
  rw [hm, runesL, if_neg hl, hd, runesL_fuel m (l.drop (atL l).2).length _ (by rw [List.length_drop]; omega) (Nat.le_refl _)]
/-- A rune below 128 is one byte. -/
theorem at_small {l : List UInt8} (h0 : (atL l).2 ≠ 0) (h : (atL l).1 < 128) : (atL l).2 = 1 := by
  obtain ⟨hl, hd⟩ := at_dec h0
  rw [← hd] at h h0 ⊢
  revert h h0
  unfold decL
  generalize hdB l 0 = b0
  generalize hdB l 1 = b1
  generalize hdB l 2 = b2
  generalize hdB l 3 = b3
  unfold Lib.decodeN
  repeat' split
  all_goals intro a b
  all_goals first | rfl | (exfalso; simp only at a b; omega)
theorem at_take {l : List UInt8} {b : Nat} (h0 : (atL l).2 ≠ 0) (h : (atL l).2 ≤ b) : atL (l.take b) = atL l := at_agree h0 (by rw [List.take_take, Nat.min_eq_left h])
theorem at_append {l t : List UInt8} (h0 : (atL l).2 ≠ 0) : atL (l ++ t) = atL l := at_agree h0 (List.take_append_of_le_length (atL_len l))
/-- A run's runes. -/
theorem run_runes (dg : Bool) : ∀ (f : Nat) (l : List UInt8), ∃ ρ : List Int, ρ.length = (runL dg f l).2 ∧ runesT l = ρ ++ runesT (l.drop (runL dg f l).1) ∧ runesT (l.take (runL dg f l).1) = ρ ∧ (∀ r ∈ ρ, r ≠ 10) ∧ (dg = true → (runL dg f l).1 = (runL dg f l).2) := by
  intro f
  induction f with
  | zero => intro l; exact ⟨[], rfl, rfl, rfl, by simp, fun _ => rfl⟩
  | succ f ih =>
    intro l
    rw [runL]
    by_cases hc : l = [] ∨ (atL l).2 = 0 ∨ stopB dg (atL l).1 = true
    · rw [if_pos hc]
      exact ⟨[], rfl, by simp, by simp; rfl, by simp, fun _ => rfl⟩
    · rw [if_neg hc]
      have h0 : (atL l).2 ≠ 0 := fun e => hc (.inr (.inl e))
      have hst : ¬ stopB dg (atL l).1 = true := fun e => hc (.inr (.inr e))
      have h10 : (atL l).1 ≠ 10 := fun e => hst (by rw [e]; cases dg <;> rfl)
      obtain ⟨ρ, p1, p2, p3, p4, p5⟩ := ih (l.drop (atL l).2)
      have hat : atL (l.take ((atL l).2 + (runL dg f (l.drop (atL l).2)).1)) = atL l := at_take h0 (by omega)
      refine ⟨((atL l).1 : Int) :: ρ, by simp [p1], ?_, ?_, ?_, ?_⟩
      · rw [runes_step h0, p2, List.drop_drop]
        rfl
      · simp only
        rw [runes_step (by rw [hat]; exact h0), hat, List.drop_take, Nat.add_sub_cancel_left, p3]
      · intro r hr
        rcases List.mem_cons.1 hr with rfl | hr
        · omega
        · exact p4 r hr
      · intro hdg
        have hdd : digitB ((atL l).1 : Int) = true := by
          cases hd : digitB ((atL l).1 : Int)
          · exact absurd (by rw [hdg]; simp [stopB, hd]) hst
          · rfl
        have := of_decide_eq_true hdd
        have := at_small h0 (by omega)
        have := p5 hdg
        simp only
        omega
/-- A number's runes. -/
theorem num_runes {l : List UInt8} (hn : 0 < numL l) : ∃ ρ : List Int, ρ.length = numL l ∧ runesT l = ρ ++ runesT (l.drop (numL l)) ∧ runesT (l.take (numL l)) = ρ ∧ (∀ r ∈ ρ, r ≠ 10) := by
  obtain ⟨ρ, p1, p2, p3, p4, p5⟩ := run_runes true (l.drop (headL l)).length (l.drop (headL l))
  have e5 := p5 rfl
  have hne : ¬ (runT true (l.drop (headL l))).1 = 0 := by intro e; unfold numL at hn; rw [if_pos e] at hn; omega
  have hnl : numL l = headL l + (runT true (l.drop (headL l))).1 := by unfold numL; rw [if_neg hne]
  have hr : runL true (l.drop (headL l)).length (l.drop (headL l)) = runT true (l.drop (headL l)) := rfl
  rw [hr] at p1 p2 p3 e5
  by_cases h45 : hdB l 0 = 45
  · have hh : headL l = 1 := by unfold headL; rw [if_pos h45]
    cases l with
    | nil => exact absurd h45 (by decide)
    | cons b r =>
      have hb : b.toNat = 45 := h45
      have hat : atL (b :: r) = (45, 1) := by
        have e0 : hdB (b :: r) 0 = 45 := h45
        unfold atL
        rw [if_neg (show ¬ b :: r = [] by simp), e0, dec_one _ _ _ _ _ (by decide), if_neg (by simp)]
      have h0 : (atL (b :: r)).2 ≠ 0 := by rw [hat]; simp
      have h45' : atL ((b :: r).take (numL (b :: r))) = (45, 1) := by rw [at_take h0 (by rw [hat, hnl, hh]; simp), hat]
      refine ⟨45 :: ρ, by simp; omega, ?_, ?_, ?_⟩
      · rw [runes_step h0, hat, hnl, hh]
        simp only
        rw [hh] at p2
        rw [p2, List.drop_drop]
        rfl
      · rw [runes_step (by rw [h45']; simp), h45', hnl, hh]
        simp only
        rw [hh] at p3
        rw [List.drop_take, Nat.add_sub_cancel_left, p3]
        rfl
      · intro z hz
        rcases List.mem_cons.1 hz with rfl | hz
        · decide
        · exact p4 z hz
  · have hh : headL l = 0 := by unfold headL; rw [if_neg h45]
    rw [hh, List.drop_zero] at p1 p2 p3 e5
    rw [hh, List.drop_zero, Nat.zero_add] at hnl
    rw [hnl]
    exact ⟨ρ, by omega, p2, p3, p4⟩
/-- Row and column of rune number k. -/
def posAt (R : List Int) : Nat → Int × Int
  | 0 => (1, 1)
  | k + 1 => if R.getD k 0 = 10 then ((posAt R k).1 + 1, 1) else ((posAt R k).1, (posAt R k).2 + 1)
theorem pos_run {R ρ rest : List Int} (m K : Nat) (h : R.drop K = ρ ++ rest) (hm : ρ.length = m) (hn : ∀ r ∈ ρ, r ≠ 10) : ∀ j, j ≤ m → posAt R (K + j) = ((posAt R K).1, (posAt R K).2 + j) := by
  intro j
  induction j with
  | zero => intro _; simp
  | succ j ih =>
    intro hj
    have hg : R.getD (K + j) 0 = ρ.getD j 0 := by
      rw [List.getD_eq_getElem?_getD, List.getD_eq_getElem?_getD]
      have := congrArg (·[j]?) h
      simp only [List.getElem?_drop] at this
      rw [this, List.getElem?_append_left (by omega)]
    have hne : ρ.getD j 0 ≠ 10 := by
      rw [List.getD_eq_getElem?_getD, List.getElem?_eq_getElem (by omega)]
      exact hn _ (List.getElem_mem _)
    rw [← Nat.add_assoc, posAt, hg, if_neg hne, ih (by omega)]
    refine Prod.ext rfl ?_
    show (posAt R K).2 + (j : Int) + 1 = (posAt R K).2 + ((j + 1 : Nat) : Int)
    omega
theorem pos_less (R : List Int) : ∀ (k j : Nat), j < k → (posAt R j).1 < (posAt R k).1 ∨ (posAt R j).1 = (posAt R k).1 ∧ (posAt R j).2 < (posAt R k).2 := by
  intro k
  induction k with
  | zero => intro j h; omega
  | succ k ih =>
    intro j h
    have hs : (posAt R k).1 < (posAt R (k + 1)).1 ∨ (posAt R k).1 = (posAt R (k + 1)).1 ∧ (posAt R k).2 < (posAt R (k + 1)).2 := by
      rw [posAt]
      split
      · left; show (posAt R k).1 < (posAt R k).1 + 1; omega
      · right; exact ⟨rfl, by show (posAt R k).2 < (posAt R k).2 + 1; omega⟩
    by_cases hj : j = k
    · rw [hj]; exact hs
    · have := ih j (by omega)
      omega
/-- The runes that a word stands as. -/
def txt (x : Wd) : List Int := if x.k = 4 then [10] else runesT x.t.data.toList
def Chain (N : Nat) (R : List Int) : Nat → List Wd → Prop
  | _, [] => True
  | K, x :: ws => ∃ k, K ≤ k ∧ posAt R k = (x.l, x.c) ∧ txt x = (R.drop k).take (txt x).length ∧ k + (txt x).length ≤ R.length ∧ 0 < (txt x).length ∧ x.t.size ≤ N ∧ Chain N R k ws
theorem Chain.mono {N : Nat} {R : List Int} {K K' : Nat} {ws : List Wd} (h : Chain N R K' ws) (hk : K ≤ K') : Chain N R K ws := by
  cases ws with
  | nil => exact trivial
  | cons x ws =>
    obtain ⟨k, h1, h2⟩ := h
    exact ⟨k, by omega, h2⟩
theorem textL_size (l : List UInt8) (n : Nat) : (textL l n).size ≤ l.length := by
  show (l.take n).toArray.size ≤ _
  simp
  omega
theorem pos_bound (R : List Int) : ∀ k, 1 ≤ (posAt R k).1 ∧ (posAt R k).1 ≤ k + 1 ∧ 1 ≤ (posAt R k).2 ∧ (posAt R k).2 ≤ k + 1 := by
  intro k
  induction k with
  | zero => simp [posAt]
  | succ k ih =>
    rw [posAt]
    split
    · refine ⟨?_, ?_, ?_, ?_⟩ <;> simp only <;> omega
    · refine ⟨?_, ?_, ?_, ?_⟩ <;> simp only <;> omega
theorem place_go (N : Nat) (R : List Int) : ∀ (f : Nat) (l : List UInt8) (out : List Wd) (line col : Int) (r : Bool) (K : Nat), l.length ≤ f → l.length ≤ N → R.drop K = runesT l → posAt R K = (line, col) → K ≤ R.length → (refL f l out line col r).2.2.2 = 0 → ∃ ws, (refL f l out line col r).1 = out ++ ws ∧ Chain N R K ws := by
  intro f
  induction f with
  | zero => intro l out line col r K _ _ _ _ _ _; exact ⟨[], by simp [refL], trivial⟩
  | succ f ih =>
    intro l out line col r K hf hN hR hpos hK
    rw [refL]
    by_cases hl : l = []
    · rw [if_neg (by simp [hl])]
      intro _
      exact ⟨[], by simp, trivial⟩
    have hp := List.length_pos_iff.2 hl
    rw [if_pos hl]
    by_cases h0 : (atL l).2 = 0
    · rw [if_pos h0]; intro h; exact absurd h (by simp)
    have hst := runes_step h0
    have hlen : K < R.length := by
      apply Classical.byContradiction
      intro hc
      rw [List.drop_eq_nil_of_le (by omega), hst] at hR
      cases hR
    -- one token of m runes and b bytes
    have tok : ∀ (y : Wd) (b m : Nat) (ρ : List Int), 0 < b → 0 < m → y.t.size ≤ N → ρ.length = m → runesT l = ρ ++ runesT (l.drop b) → (∀ z ∈ ρ, z ≠ 10) → txt y = ρ → y.l = line → y.c = col → ∀ (col' : Int), col' = col + m → (refL f (l.drop b) (out ++ [y]) line col' false).2.2.2 = 0 → ∃ ws, (refL f (l.drop b) (out ++ [y]) line col' false).1 = out ++ ws ∧ Chain N R K ws := by
      intro y b m ρ hb hmp hyN hm hρ hn ht hyl hyc col' hcol he
      rw [hρ] at hR
      have hRl : R.length = K + (ρ.length + (runesT (l.drop b)).length) := by
        have := congrArg List.length hR
        rw [List.length_drop, List.length_append] at this
        omega
      have h2 : R.drop (K + m) = runesT (l.drop b) := by rw [← List.drop_drop, hR, ← hm, List.drop_left]
      have hpm := pos_run m K hR hm hn m (Nat.le_refl _)
      rw [hpos] at hpm
      obtain ⟨ws, e1, e2⟩ := ih (l.drop b) (out ++ [y]) line col' false (K + m) (by rw [List.length_drop]; omega) (by rw [List.length_drop]; omega) h2 (by rw [hpm, hcol]) (by omega) he
      refine ⟨y :: ws, by rw [e1]; simp, K, Nat.le_refl _, by rw [hpos, hyl, hyc], ?_, by rw [ht]; omega, by rw [ht]; omega, hyN, e2.mono (by omega)⟩
      rw [ht, hR, List.take_left]
    rw [if_neg h0]
    by_cases h10 : (atL l).1 = 10
    · rw [if_pos h10]
      intro he
      have hw := at_small h0 (by omega)
      rw [hw, h10] at hst
      rw [hst] at hR
      have hg : R.getD K 0 = 10 := by
        rw [List.getD_eq_getElem?_getD]
        have := congrArg (·[0]?) hR
        simp only [List.getElem?_drop, Nat.add_zero] at this
        rw [this]
        rfl
      have hd : R.drop (K + 1) = runesT (l.drop 1) := by rw [← List.drop_drop, hR]; rfl
      obtain ⟨ws, e1, e2⟩ := ih (l.drop 1) _ _ _ _ (K + 1) (by rw [List.length_drop]; omega) (by rw [List.length_drop]; omega) hd (by rw [posAt, hg, if_pos rfl, hpos]) hlen he
      refine ⟨⟨4, noText, 0, line, col⟩ :: ws, by rw [e1]; simp, K, Nat.le_refl _, hpos, ?_, ?_, by show 0 < 1; omega, by show (0 : Nat) ≤ N; omega, e2.mono (by omega)⟩
      · show [10] = (R.drop K).take 1
        rw [hR]
        rfl
      · show K + 1 ≤ R.length
        omega
    rw [if_neg h10]
    by_cases hs : r = true ∨ (atL l).1 = 32 ∨ (atL l).1 = 9 ∨ (atL l).1 = 59
    · rw [if_pos hs]
      intro he
      rw [hst] at hR
      have hg : R.getD K 0 = ((atL l).1 : Int) := by
        rw [List.getD_eq_getElem?_getD]
        have := congrArg (·[0]?) hR
        simp only [List.getElem?_drop, Nat.add_zero] at this
        rw [this]
        rfl
      have hd : R.drop (K + 1) = runesT (l.drop (atL l).2) := by rw [← List.drop_drop, hR]; rfl
      obtain ⟨ws, e1, e2⟩ := ih _ _ _ _ _ (K + 1) (by rw [List.length_drop]; omega) (by rw [List.length_drop]; omega) hd (by rw [posAt, hg, if_neg (by omega), hpos]) hlen he
      exact ⟨ws, e1, e2.mono (by omega)⟩
    rw [if_neg hs]
    by_cases hn : 0 < numL l
    · rw [if_pos hn]
      obtain ⟨ρ, p1, p2, p3, p4⟩ := num_runes hn
      by_cases hv : valOk (textL l (numL l)) = true
      · rw [if_pos hv]
        by_cases hx : 0 < (atL (l.drop (numL l))).2 ∧ letterB ((atL (l.drop (numL l))).1 : Int) = true
        · rw [if_pos hx]; intro h; exact absurd h (by simp)
        · rw [if_neg hx]
          exact tok ⟨2, textL l (numL l), valN (textL l (numL l)), line, col⟩ (numL l) (numL l) ρ hn hn (Nat.le_trans (textL_size l _) hN) p1 p2 p4 p3 rfl rfl _ rfl
      · rw [if_neg hv]; intro h; exact absurd h (by simp)
    rw [if_neg hn]
    by_cases hlt : letterB ((atL l).1 : Int) = true
    · rw [if_pos hlt]
      by_cases h16 : 16 < (runT false l).2
      · rw [if_pos h16]; intro h; exact absurd h (by simp)
      · rw [if_neg h16]
        obtain ⟨ρ, p1, p2, p3, p4, _⟩ := run_runes false l.length l
        have hpos1 : 0 < (runT false l).1 := by
          unfold runT
          obtain ⟨m, hm⟩ : ∃ m, l.length = m + 1 := ⟨l.length - 1, by omega⟩
          rw [hm, runL, if_neg (by
            rintro (h | h | h)
            · exact hl h
            · exact h0 h
            · simp [stopB, hlt] at h)]
          simp only
          omega
        have hpos2 : 0 < (runT false l).2 := by
          unfold runT
          obtain ⟨m, hm⟩ : ∃ m, l.length = m + 1 := ⟨l.length - 1, by omega⟩
          rw [hm, runL, if_neg (by
            rintro (h | h | h)
            · exact hl h
            · exact h0 h
            · simp [stopB, hlt] at h)]
          simp only
          omega
        exact tok ⟨1, textL l (runT false l).1, 0, line, col⟩ (runT false l).1 (runT false l).2 ρ hpos1 hpos2 (Nat.le_trans (textL_size l _) hN) p1 p2 p4 p3 rfl rfl _ rfl
    rw [if_neg hlt]
    by_cases hg : signB ((atL l).1 : Int) = true
    · rw [if_pos hg]
      have ht : runesT (l.take (atL l).2) = [((atL l).1 : Int)] := by
        have hat := at_take h0 (Nat.le_refl (atL l).2)
        rw [runes_step (by rw [hat]; exact h0), hat, List.drop_eq_nil_of_le (by rw [List.length_take]; omega)]
        rfl
      exact tok ⟨3, textL l (atL l).2, 0, line, col⟩ (atL l).2 1 [((atL l).1 : Int)] (by omega) (by omega) (Nat.le_trans (textL_size l _) hN) rfl hst (by simp; omega) ht rfl rfl _ rfl
    · rw [if_neg hg]; intro h; exact absurd h (by simp)
/-- Words stand where the text has them. -/
theorem read_chain (s : ByteArray) (h : readErr s = 0) : Chain s.size (runesT s.data.toList) 0 (readWords s) := by
  have h1 := read_list s
  have hsz : s.data.toList.length ≤ s.size := by simp only [Array.length_toList]; exact Nat.le_refl _
  have hp := place_go s.size (runesT s.data.toList) s.size s.data.toList [] 1 1 false 0 hsz hsz rfl rfl (Nat.zero_le _) (by rw [h1]; exact h)
  rw [h1] at hp
  obtain ⟨ws, e1, e2⟩ := hp
  simp only [List.nil_append] at e1
  rw [e1]
  exact e2
end Go.Proofs.Ytfnmkgfaoacnpaa
