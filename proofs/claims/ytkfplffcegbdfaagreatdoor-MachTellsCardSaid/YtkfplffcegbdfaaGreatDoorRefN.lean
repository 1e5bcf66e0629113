/-
  Plain functions for the document's runs of letters and digits, and for a number's value. No condition beyond those that each theorem states.
-/
import Derived.Test.YtkfplffcegbdfaaGreatDoorAtP
namespace Go.Proofs.YtkfplffcegbdfaaGreatDoor
/-- Whether a run ends at a rune. -/
def stopB (dg : Bool) (r : Int) : Bool := !digitB r && (dg || !letterB r)
/-- Where a run ends, and how many runes it has. -/
def runEnd (s : ByteArray) (dg : Bool) : Nat → Nat → Nat → Nat × Nat
  | 0, i, n => (i, n)
  | f + 1, i, n =>
    if i < s.size then (if (atP s i).2 = 0 ∨ stopB dg (atP s i).1 = true then (i, n) else runEnd s dg f (i + (atP s i).2) (n + 1)) else (i, n)
def runTo (s : ByteArray) (dg : Bool) (i : Nat) : Nat × Nat := runEnd s dg s.size i 0
theorem runEnd_stop (s : ByteArray) (dg : Bool) (f i n : Nat) (h : i < s.size → (atP s i).2 = 0 ∨ stopB dg (atP s i).1 = true) : runEnd s dg f i n = (i, n) := by
  cases f with
  | zero => rfl
  | succ f =>
    rw [runEnd]
    split
    · rw [if_pos (h ‹_›)]
    · rfl
theorem atP_le (s : ByteArray) (i : Nat) (hi : i < s.size) : i + (atP s i).2 ≤ s.size := by
  unfold atP
  rw [if_pos hi]
  split
  · simp only; omega
  · rw [Lib.decode_at]
    generalize (s.get! i).toNat = b0 at *
    generalize (s.get! (i + 1)).toNat = b1 at *
    generalize (s.get! (i + 2)).toNat = b2 at *
    generalize (s.get! (i + 3)).toNat = b3 at *
    unfold Lib.decodeN
    repeat' split
    all_goals simp only
    all_goals omega
theorem runEnd_le (s : ByteArray) (dg : Bool) : ∀ (f i n : Nat), i ≤ s.size → i ≤ (runEnd s dg f i n).1 ∧ (runEnd s dg f i n).1 ≤ s.size ∧ n ≤ (runEnd s dg f i n).2 ∧ (runEnd s dg f i n).2 + i ≤ n + (runEnd s dg f i n).1 := by
  intro f
  induction f with
  | zero => intro i n hi; exact ⟨Nat.le_refl _, hi, Nat.le_refl _, by show n + i ≤ n + i; exact Nat.le_refl _⟩
  | succ f ih =>
    intro i n hi
    rw [runEnd]
    split
    · split
      · exact ⟨Nat.le_refl _, hi, Nat.le_refl _, by simp only; omega⟩
      · rename_i h1 h2
        have := ih (i + (atP s i).2) (n + 1) (atP_le s i h1)
        omega
    · exact ⟨Nat.le_refl _, hi, Nat.le_refl _, by simp only; omega⟩
theorem runTo_le (s : ByteArray) (dg : Bool) (i : Nat) (hi : i ≤ s.size) : i ≤ (runTo s dg i).1 ∧ (runTo s dg i).1 ≤ s.size ∧ (runTo s dg i).2 + i ≤ (runTo s dg i).1 := by
  have := runEnd_le s dg s.size i 0 hi
  unfold runTo
  omega
/-- Where a number's digits begin that begins at a place. -/
def headOf (s : ByteArray) (i : Nat) : Nat := if (s.get! i).toNat = 45 then i + 1 else i
/-- How many bytes a number has that begins at a place. -/
def numLen (s : ByteArray) (i : Nat) : Nat := if (runTo s true (headOf s i)).1 - headOf s i = 0 then 0 else (headOf s i - i) + ((runTo s true (headOf s i)).1 - headOf s i)
/-- The value of so many bytes, without the minus. -/
def valT (t : ByteArray) : Nat → Int
  | 0 => 0
  | k + 1 => if (t.get! k).toNat = 45 then valT t k else 10 * valT t k + ((t.get! k).toNat - 48)
/-- Digits, and perhaps a minus. -/
def Digs (t : ByteArray) : Prop := ∀ k, k < t.size → (t.get! k).toNat = 45 ∨ 48 ≤ (t.get! k).toNat ∧ (t.get! k).toNat ≤ 57
theorem valT_mono {t : ByteArray} (h : Digs t) (k : Nat) (hk : k < t.size) (h0 : 0 ≤ valT t k) : valT t k ≤ valT t (k + 1) := by
  rw [valT]
  have := h k hk
  split <;> omega
theorem valT_pos {t : ByteArray} (h : Digs t) : ∀ k, k ≤ t.size → 0 ≤ valT t k := by
  intro k
  induction k with
  | zero => intro _; exact Int.le_refl _
  | succ k ih =>
    intro hk
    have h1 := ih (by omega)
    have h2 := valT_mono h k (by omega) h1
    omega
theorem valT_le {t : ByteArray} (h : Digs t) : ∀ n k, k + n ≤ t.size → valT t k ≤ valT t (k + n) := by
  intro n
  induction n with
  | zero => intro k _; exact Int.le_refl _
  | succ n ih =>
    intro k hk
    have h1 := ih k (by omega)
    have h2 := valT_mono h (k + n) (by omega) (valT_pos h _ (by omega))
    have e : k + (n + 1) = k + n + 1 := by omega
    rw [e]
    omega
def valOk (t : ByteArray) : Bool := decide (valT t t.size ≤ 1099511627776)
def valN (t : ByteArray) : Int := if valOk t = true then (if (t.get! 0).toNat = 45 then -valT t t.size else valT t t.size) else 0
end Go.Proofs.YtkfplffcegbdfaaGreatDoor
