/-
  A plain function that mirrors the document's reading, and what a number's bytes are. No condition beyond those that each theorem states.
-/
import Derived.Test.YtkfplffcegbdfaaGreatDoorRefN
namespace Go.Proofs.YtkfplffcegbdfaaGreatDoor
def numEnd (s : ByteArray) (i : Nat) : Nat := i + numLen s i
def partOf (s : ByteArray) (i j : Nat) : ByteArray := s.extract i j
def refGo (s : ByteArray) : Nat → List Wd → Int → Int → Bool → Nat → (List Wd × Int × Int × Int)
  | 0, out, _, _, _, _ => (out, 0, 0, 0)
  | f + 1, out, line, col, rem, i =>
    if i < s.size then
      (if (atP s i).2 = 0 then ([], line, col, 6)
       else if (atP s i).1 = 10 then refGo s f (out ++ [⟨4, noText, 0, line, col⟩]) (line + 1) 1 false (i + 1)
       else if rem = true ∨ (atP s i).1 = 32 ∨ (atP s i).1 = 9 ∨ (atP s i).1 = 59 then refGo s f out line (col + 1) (rem || decide ((atP s i).1 = 59)) (i + (atP s i).2)
       else if 0 < numLen s i then
         (if valOk (partOf s i (numEnd s i)) = true then
            (if 0 < (atP s (numEnd s i)).2 ∧ letterB (atP s (numEnd s i)).1 = true then ([], line, col + numLen s i, 6)
             else refGo s f (out ++ [⟨2, partOf s i (numEnd s i), valN (partOf s i (numEnd s i)), line, col⟩]) line (col + numLen s i) false (numEnd s i))
          else ([], line, col, 3))
       else if letterB (atP s i).1 = true then
         (if 16 < (runTo s false i).2 then ([], line, col, 3)
          else refGo s f (out ++ [⟨1, partOf s i (runTo s false i).1, 0, line, col⟩]) line (col + (runTo s false i).2) false (runTo s false i).1)
       else if signB (atP s i).1 = true then refGo s f (out ++ [⟨3, partOf s i (i + (atP s i).2), 0, line, col⟩]) line (col + 1) false (i + (atP s i).2)
       else ([], line, col, 6))
    else (out, 0, 0, 0)
def refRead (s : ByteArray) : List Wd × Int × Int × Int := refGo s s.size [] 1 1 false 0

theorem refGo_end (s : ByteArray) (f : Nat) (out : List Wd) (l c : Int) (r : Bool) (i : Nat) (h : ¬ i < s.size) : refGo s f out l c r i = (out, 0, 0, 0) := by
  cases f with
  | zero => rfl
  | succ f => rw [refGo, if_neg h]

/-- A digit is one byte. -/
theorem atP_small (s : ByteArray) (i : Nat) (hi : i < s.size) (h0 : (atP s i).2 ≠ 0) (h : (atP s i).1 < 128) : (atP s i).2 = 1 ∧ (s.get! i).toNat = (atP s i).1 := by
  by_cases hb : (s.get! i).toNat < 128
  · rw [atP_one s i hi hb]
    exact ⟨rfl, rfl⟩
  · exfalso
    by_cases hn : (s.get! i).toNat < 192 ∨ 248 ≤ (s.get! i).toNat
    · rw [atP_none s i (by omega) hn] at h0
      exact h0 rfl
    by_cases h2 : (s.get! i).toNat ≤ 223
    · rw [atP_two s i ⟨by omega, h2⟩] at h0 h
      split at h
      · rename_i hc
        have := hc.2.2
        unfold okB at this
        simp only at h
        omega
      · rename_i hc
        rw [if_neg hc] at h0
        exact h0 rfl
    by_cases h3 : (s.get! i).toNat ≤ 239
    · rw [atP_three s i ⟨by omega, h3⟩] at h0 h
      split at h
      · rename_i hc
        have := hc.2.2.2
        unfold okB at this
        simp only at h
        omega
      · rename_i hc
        rw [if_neg hc] at h0
        exact h0 rfl
    · rw [atP_four s i ⟨by omega, by omega⟩] at h0 h
      split at h
      · rename_i hc
        have := hc.2.2.2.2
        unfold okB at this
        simp only at h
        omega
      · rename_i hc
        rw [if_neg hc] at h0
        exact h0 rfl
theorem runEnd_digits (s : ByteArray) : ∀ (f i n : Nat), i ≤ s.size → ∀ k, i ≤ k → k < (runEnd s true f i n).1 → 48 ≤ (s.get! k).toNat ∧ (s.get! k).toNat ≤ 57 := by
  intro f
  induction f with
  | zero => intro i n _ k h1 h2; rw [runEnd] at h2; simp only at h2; omega
  | succ f ih =>
    intro i n hi k h1 h2
    rw [runEnd] at h2
    split at h2
    · rename_i hlt
      split at h2
      · simp only at h2; omega
      · rename_i hs
        have hd : digitB ((atP s i).1 : Int) = true := by
          cases hd : digitB ((atP s i).1 : Int)
          · exact absurd (.inr (by simp [stopB, hd])) hs
          · rfl
        have hd2 := of_decide_eq_true hd
        have hw := atP_small s i hlt (fun h => hs (.inl h)) (by omega)
        by_cases hk : k = i
        · subst hk; omega
        · exact ih _ _ (atP_le s i hlt) k (by omega) h2
    · simp only at h2; omega
theorem headOf_le (s : ByteArray) (i : Nat) (hi : i < s.size) : i ≤ headOf s i ∧ headOf s i ≤ i + 1 ∧ headOf s i ≤ s.size := by unfold headOf; split <;> omega
theorem numLen_le (s : ByteArray) (i : Nat) (hi : i < s.size) : i + numLen s i ≤ s.size := by
  have h1 := headOf_le s i hi
  have h2 := runTo_le s true (headOf s i) h1.2.2
  unfold numLen
  split <;> omega
theorem numEnd_eq (s : ByteArray) (i : Nat) (hi : i < s.size) (h : 0 < numLen s i) : numEnd s i = (runTo s true (headOf s i)).1 ∧ headOf s i < numEnd s i := by
  have h1 := headOf_le s i hi
  have h2 := runTo_le s true (headOf s i) h1.2.2
  unfold numEnd
  unfold numLen at h ⊢
  split at h
  · omega
  · rw [if_neg ‹_›]; omega
theorem get_eq (t : ByteArray) (k : Nat) (h : k < t.size) : t.get! k = t[k]'h := by simp [ByteArray.get!, getElem!_pos, h]; rfl
theorem part_size (s : ByteArray) (i j : Nat) (hj : j ≤ s.size) : (partOf s i j).size = j - i := by
  unfold partOf
  simp [ByteArray.size_extract]
  omega
theorem part_get (s : ByteArray) (i j k : Nat) (hj : j ≤ s.size) (hk : k < j - i) : (partOf s i j).get! k = s.get! (i + k) := by
  have h1 : k < (s.extract i j).size := by have := part_size s i j hj; unfold partOf at this; omega
  have h2 : i + k < s.size := by omega
  show (s.extract i j).get! k = _
  rw [get_eq _ _ h1, get_eq _ _ h2]
  simp [ByteArray.getElem_extract]
theorem num_digs (s : ByteArray) (i : Nat) (hi : i < s.size) (h : 0 < numLen s i) : Digs (partOf s i (numEnd s i)) := by
  intro k hk
  have hn := numLen_le s i hi
  have he := numEnd_eq s i hi h
  have hle : numEnd s i ≤ s.size := hn
  rw [part_size s i _ hle] at hk
  rw [part_get s i _ k hle hk]
  by_cases hh : headOf s i ≤ i + k
  · exact .inr (runEnd_digits s _ _ _ (headOf_le s i hi).2.2 (i + k) hh (by have : i + k < (runTo s true (headOf s i)).1 := by omega
                                                                            exact this))
  · left
    have h1 : i + k < headOf s i := by omega
    unfold headOf at h1
    split at h1
    · have : i + k = i := by omega
      rw [this]; assumption
    · omega
end Go.Proofs.YtkfplffcegbdfaaGreatDoor
