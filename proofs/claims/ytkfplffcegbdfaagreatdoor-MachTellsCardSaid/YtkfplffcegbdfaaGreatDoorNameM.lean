/-
  Both tests whether a text is a name are one plain function. No condition beyond those that each theorem states.
-/
import Derived.Test.YtkfplffcegbdfaaGreatDoorRefN
namespace Go.Proofs.YtkfplffcegbdfaaGreatDoor
def nameGo (s : ByteArray) : Nat → Nat → Nat → Bool
  | 0, _, m => decide (0 < m)
  | f + 1, i, m =>
    if i < s.size then (if (letterB (Utf8.decode s i).1 || (decide (0 < m) && digitB (Utf8.decode s i).1)) = true ∧ m ≠ 16 then nameGo s f (i + (Utf8.decode s i).2) (m + 1) else false) else decide (0 < m)
def nameB (s : ByteArray) : Bool := nameGo s s.size 0 0
def rnameGo (s : ByteArray) : Nat → Nat → Nat → Bool
  | 0, _, n => decide (1 ≤ n ∧ n ≤ 16)
  | f + 1, i, n =>
    if i < s.size then (if (atP s i).2 ≠ 0 ∧ (letterB (atP s i).1 || (decide (0 < n) && digitB (atP s i).1)) = true then rnameGo s f (i + (atP s i).2) (n + 1) else false) else decide (1 ≤ n ∧ n ≤ 16)
def rnameB (s : ByteArray) : Bool := rnameGo s s.size 0 0
theorem nameGo_end (s : ByteArray) (f i m : Nat) (h : ¬ i < s.size) : nameGo s f i m = decide (0 < m) := by
  cases f with
  | zero => rfl
  | succ f => rw [nameGo, if_neg h]
theorem rnameGo_end (s : ByteArray) (f i m : Nat) (h : ¬ i < s.size) : rnameGo s f i m = decide (1 ≤ m ∧ m ≤ 16) := by
  cases f with
  | zero => rfl
  | succ f => rw [rnameGo, if_neg h]
theorem rnameGo_long (s : ByteArray) : ∀ f i n, 16 < n → s.size ≤ i + f → rnameGo s f i n = false := by
  intro f
  induction f with
  | zero => intro i n hn hi; rw [rnameGo]; simp; omega
  | succ f ih =>
    intro i n hn hi
    rw [rnameGo]
    split
    · split
      · rename_i h
        exact ih _ _ (by omega) (by omega)
      · rfl
    · simp; omega
/-- What 'at' tells of a rune, and of bytes that are none. -/
theorem atP_cases (s : ByteArray) (i : Nat) (hi : i < s.size) : (atP s i).2 = 0 ∧ (Utf8.decode s i).1 = 65533 ∧ (Utf8.decode s i).2 = 1 ∨ atP s i = Utf8.decode s i ∧ 1 ≤ (Utf8.decode s i).2 := by
  unfold atP
  rw [if_pos hi]
  split
  · rename_i h
    exact .inl ⟨rfl, h.1, h.2⟩
  · refine .inr ⟨rfl, ?_⟩
    rw [Lib.decode_at]
    unfold Lib.decodeN
    repeat' split
    all_goals simp
theorem name_same (s : ByteArray) : ∀ f i m, m ≤ 16 → s.size ≤ i + f → nameGo s f i m = rnameGo s f i m := by
  intro f
  induction f with
  | zero => intro i m hm hi; rw [nameGo, rnameGo]; exact decide_eq_decide.2 (by omega)
  | succ f ih =>
    intro i m hm hi
    rw [nameGo, rnameGo]
    by_cases hlt : i < s.size
    · rw [if_pos hlt, if_pos hlt]
      rcases atP_cases s i hlt with ⟨h0, h1, h2⟩ | ⟨h0, h1⟩
      · have hn : ¬ ((letterB ((Utf8.decode s i).1 : Int) || (decide (0 < m) && digitB ((Utf8.decode s i).1 : Int))) = true ∧ m ≠ 16) := by rw [h1]; simp [letterB, digitB]
        rw [if_neg hn, if_neg (by simp [h0])]
      · rw [h0]
        by_cases hc : (letterB ((Utf8.decode s i).1 : Int) || (decide (0 < m) && digitB ((Utf8.decode s i).1 : Int))) = true
        · by_cases h16 : m = 16
          · rw [if_neg (fun h => h.2 h16), if_pos ⟨by omega, hc⟩]
            exact (rnameGo_long s f _ _ (by omega) (by omega)).symm
          · rw [if_pos ⟨hc, h16⟩, if_pos ⟨by omega, hc⟩]
            exact ih _ _ (by omega) (by omega)
        · rw [if_neg (fun h => hc h.1), if_neg (fun h => hc h.2)]
    · rw [if_neg hlt, if_neg hlt]
      exact decide_eq_decide.2 (by omega)
theorem nameB_same (s : ByteArray) : nameB s = rnameB s := name_same s s.size 0 0 (by omega) (by omega)
end Go.Proofs.YtkfplffcegbdfaaGreatDoor
