/-
  What the document's rune at a place is, by the text's bytes. No condition beyond those that each theorem states.
  Plain functions for the document's runs of letters and digits, and for a number's value. No condition beyond those that each theorem states.
-/
import Derived.Test.YtkfplffcegbdfaaGreatDoorPk6
namespace Go.Proofs.YtkfplffcegbdfaaGreatDoor
/-- A byte that goes on. -/
def contB (s : ByteArray) (k : Nat) : Prop := 128 ≤ (s.get! k).toNat ∧ (s.get! k).toNat ≤ 191
instance (s : ByteArray) (k : Nat) : Decidable (contB s k) := by unfold contB; exact inferInstance
/-- What a run of bytes tells. -/
def okB (least r : Int) : Prop := least ≤ r ∧ r ≤ 1114111 ∧ ¬ (55296 ≤ r ∧ r ≤ 57343)
instance (least r : Int) : Decidable (okB least r) := by unfold okB; exact inferInstance
theorem accR_one (s : ByteArray) (i : Nat) (r0 : Int) : accR s i r0 1 = 64 * r0 + ((s.get! (i + 1)).toNat : Int) - 128 := rfl
theorem accR_two (s : ByteArray) (i : Nat) (r0 : Int) : accR s i r0 2 = 64 * (64 * r0 + ((s.get! (i + 1)).toNat : Int) - 128) + ((s.get! (i + 2)).toNat : Int) - 128 := rfl
theorem accR_three (s : ByteArray) (i : Nat) (r0 : Int) : accR s i r0 3 = 64 * (64 * (64 * r0 + ((s.get! (i + 1)).toNat : Int) - 128) + ((s.get! (i + 2)).toNat : Int) - 128) + ((s.get! (i + 3)).toNat : Int) - 128 := rfl
theorem atP_one (s : ByteArray) (i : Nat) (hi : i < s.size) (hb : (s.get! i).toNat < 128) : atP s i = ((s.get! i).toNat, 1) := by
  unfold atP
  rw [if_pos hi, Lib.decode_at]
  unfold Lib.decodeN
  rw [if_pos hb, if_neg (by omega)]
theorem atP_none (s : ByteArray) (i : Nat) (hb : 128 ≤ (s.get! i).toNat) (hb1 : (s.get! i).toNat < 192 ∨ 248 ≤ (s.get! i).toNat) : atP s i = (0, 0) := by
  unfold atP
  split
  · rw [Lib.decode_at]
    have : Lib.decodeN (s.size - i) (s.get! i).toNat (s.get! (i + 1)).toNat (s.get! (i + 2)).toNat (s.get! (i + 3)).toNat = (65533, 1) := by
      unfold Lib.decodeN
      rw [if_neg (by omega), if_neg (by omega), if_neg (by omega), if_neg (by omega)]
    rw [this, if_pos ⟨rfl, rfl⟩]
  · rfl
theorem pick_pair {c d e : Prop} [Decidable c] [Decidable d] [Decidable e] {x y : Nat × Nat} (hx : x ≠ (65533, 1)) (h : c ∧ d ↔ e) (hxy : c → d → x = y) :
    (if ((if c then (if d then x else (65533, 1)) else (65533, 1)).1 = 65533 ∧ (if c then (if d then x else (65533, 1)) else (65533, 1)).2 = 1) then ((0, 0) : Nat × Nat) else (if c then (if d then x else (65533, 1)) else (65533, 1))) = if e then y else (0, 0) := by
  by_cases hc : c
  · by_cases hd : d
    · have he := h.1 ⟨hc, hd⟩
      rw [if_pos hc, if_pos hd, if_pos he, if_neg (fun hh => hx (Prod.ext hh.1 hh.2))]
      exact hxy hc hd
    · have he : ¬ e := fun he => hd (h.2 he).2
      rw [if_pos hc, if_neg hd, if_neg he, if_pos ⟨rfl, rfl⟩]
  · have he : ¬ e := fun he => hc (h.2 he).1
    rw [if_neg hc, if_neg he, if_pos ⟨rfl, rfl⟩]
theorem atP_two (s : ByteArray) (i : Nat) (hb : 192 ≤ (s.get! i).toNat ∧ (s.get! i).toNat ≤ 223) :
    atP s i = if i + 2 ≤ s.size ∧ contB s (i + 1) ∧ okB 128 (accR s i ((s.get! i).toNat - 192) 1) then ((accR s i ((s.get! i).toNat - 192) 1).toNat, 2) else (0, 0) := by
  obtain ⟨hb0, hb1⟩ := hb
  have h1 := (s.get! (i + 1)).toNat_lt
  have h2 := (s.get! (i + 2)).toNat_lt
  have h3 := (s.get! (i + 3)).toNat_lt
  rw [accR_one]
  unfold atP
  rw [Lib.decode_at]
  unfold Lib.decodeN
  by_cases hi : i < s.size
  · rw [if_pos hi]
    rw [if_neg (show ¬ (s.get! i).toNat < 128 by omega)]
    rw [if_neg (show ¬ ((s.get! i).toNat / 16 = 14 ∧ _) by omega), if_neg (show ¬ ((s.get! i).toNat / 8 = 30 ∧ _) by omega)]
    exact pick_pair (by intro e; have := congrArg Prod.snd e; simp at this) (by unfold contB okB; generalize (s.get! i).toNat = b0 at *; generalize (s.get! (i + 1)).toNat = b1 at *; generalize (s.get! (i + 2)).toNat = b2 at *; generalize (s.get! (i + 3)).toNat = b3 at *; omega) (by generalize (s.get! i).toNat = b0 at *; generalize (s.get! (i + 1)).toNat = b1 at *; generalize (s.get! (i + 2)).toNat = b2 at *; generalize (s.get! (i + 3)).toNat = b3 at *; intro hc hd; apply Prod.ext <;> simp only; omega)
  · rw [if_neg hi, if_neg (by omega)]
theorem atP_three (s : ByteArray) (i : Nat) (hb : 224 ≤ (s.get! i).toNat ∧ (s.get! i).toNat ≤ 239) :
    atP s i = if i + 3 ≤ s.size ∧ contB s (i + 1) ∧ contB s (i + 2) ∧ okB 2048 (accR s i ((s.get! i).toNat - 224) 2) then ((accR s i ((s.get! i).toNat - 224) 2).toNat, 3) else (0, 0) := by
  obtain ⟨hb0, hb1⟩ := hb
  have h1 := (s.get! (i + 1)).toNat_lt
  have h2 := (s.get! (i + 2)).toNat_lt
  have h3 := (s.get! (i + 3)).toNat_lt
  rw [accR_two]
  unfold atP
  rw [Lib.decode_at]
  unfold Lib.decodeN
  by_cases hi : i < s.size
  · rw [if_pos hi]
    rw [if_neg (show ¬ (s.get! i).toNat < 128 by omega)]
    rw [if_neg (show ¬ ((s.get! i).toNat / 32 = 6 ∧ _) by omega)]
    rw [if_neg (show ¬ ((s.get! i).toNat / 8 = 30 ∧ _) by omega)]
    exact pick_pair (by intro e; have := congrArg Prod.snd e; simp at this) (by unfold contB okB; generalize (s.get! i).toNat = b0 at *; generalize (s.get! (i + 1)).toNat = b1 at *; generalize (s.get! (i + 2)).toNat = b2 at *; generalize (s.get! (i + 3)).toNat = b3 at *; omega) (by generalize (s.get! i).toNat = b0 at *; generalize (s.get! (i + 1)).toNat = b1 at *; generalize (s.get! (i + 2)).toNat = b2 at *; generalize (s.get! (i + 3)).toNat = b3 at *; intro hc hd; apply Prod.ext <;> simp only; omega)
  · rw [if_neg hi, if_neg (by omega)]
theorem atP_four (s : ByteArray) (i : Nat) (hb : 240 ≤ (s.get! i).toNat ∧ (s.get! i).toNat ≤ 247) :
    atP s i = if i + 4 ≤ s.size ∧ contB s (i + 1) ∧ contB s (i + 2) ∧ contB s (i + 3) ∧ okB 65536 (accR s i ((s.get! i).toNat - 240) 3) then ((accR s i ((s.get! i).toNat - 240) 3).toNat, 4) else (0, 0) := by
  obtain ⟨hb0, hb1⟩ := hb
  have h1 := (s.get! (i + 1)).toNat_lt
  have h2 := (s.get! (i + 2)).toNat_lt
  have h3 := (s.get! (i + 3)).toNat_lt
  rw [accR_three]
  unfold atP
  rw [Lib.decode_at]
  unfold Lib.decodeN
  by_cases hi : i < s.size
  · rw [if_pos hi]
    rw [if_neg (show ¬ (s.get! i).toNat < 128 by omega)]
    rw [if_neg (show ¬ ((s.get! i).toNat / 32 = 6 ∧ _) by omega), if_neg (show ¬ ((s.get! i).toNat / 16 = 14 ∧ _) by omega)]
    exact pick_pair (by intro e; have := congrArg Prod.snd e; simp at this) (by unfold contB okB; generalize (s.get! i).toNat = b0 at *; generalize (s.get! (i + 1)).toNat = b1 at *; generalize (s.get! (i + 2)).toNat = b2 at *; generalize (s.get! (i + 3)).toNat = b3 at *; omega) (by generalize (s.get! i).toNat = b0 at *; generalize (s.get! (i + 1)).toNat = b1 at *; generalize (s.get! (i + 2)).toNat = b2 at *; generalize (s.get! (i + 3)).toNat = b3 at *; intro hc hd; apply Prod.ext <;> simp only; omega)
  · rw [if_neg hi, if_neg (by omega)]
end Go.Proofs.YtkfplffcegbdfaaGreatDoor
namespace Go.Proofs.YtkfplffcegbdfaaGreatDoor
/-- Whether a run ends at a rune. -/
def stopB (dg : Bool) (r : Int) : Bool := !digitB r && (dg || !letterB r)
/-- Where a run ends, and how many runes it has. -/
def runEnd (s : ByteArray) (dg : Bool) : Nat → Nat → Nat → Nat × Nat
  | 0, i, n => (i, n)
  | f + 1, i, n =>
    if i < s.size then (if (atP s i).2 = 0 ∨ stopB dg (atP s i).1 = true then (i, n) else runEnd s dg f (i + (atP s i).2) (n + 1)) else (i, n)
def runTo (s : ByteArray) (dg : Bool) (i : Nat) : Nat × Nat := runEnd s dg s.size i 0
theorem runEnd_stop (s : ByteArray) (dg : Bool) (f i n : Nat) (h : i < s.size → (atP s i).2 = 0 ∨ stopB dg (atP s i).1 = true) : runEnd s dg f i n = (i, n) := by
  cases f with
  | zero => rfl
  | succ f =>
    rw [runEnd]
    split
    · rw [if_pos (h ‹_›)]
    · rfl
theorem atP_le (s : ByteArray) (i : Nat) (hi : i < s.size) : i + (atP s i).2 ≤ s.size := by
  unfold atP
  rw [if_pos hi]
  split
  · simp only; omega
  · rw [Lib.decode_at]
    generalize (s.get! i).toNat = b0 at *
    generalize (s.get! (i + 1)).toNat = b1 at *
    generalize (s.get! (i + 2)).toNat = b2 at *
    generalize (s.get! (i + 3)).toNat = b3 at *
    unfold Lib.decodeN
    repeat' split
    all_goals simp only
    all_goals omega
theorem runEnd_le (s : ByteArray) (dg : Bool) : ∀ (f i n : Nat), i ≤ s.size → i ≤ (runEnd s dg f i n).1 ∧ (runEnd s dg f i n).1 ≤ s.size ∧ n ≤ (runEnd s dg f i n).2 ∧ (runEnd s dg f i n).2 + i ≤ n + (runEnd s dg f i n).1 := by
  intro f
  induction f with
  | zero => intro i n hi; exact ⟨Nat.le_refl _, hi, Nat.le_refl _, by show n + i ≤ n + i; exact Nat.le_refl _⟩
  | succ f ih =>
    intro i n hi
    rw [runEnd]
    split
    · split
      · exact ⟨Nat.le_refl _, hi, Nat.le_refl _, by simp only; omega⟩
      · rename_i h1 h2
        have := ih (i + (atP s i).2) (n + 1) (atP_le s i h1)
        omega
    · exact ⟨Nat.le_refl _, hi, Nat.le_refl _, by simp only; omega⟩
theorem runTo_le (s : ByteArray) (dg : Bool) (i : Nat) (hi : i ≤ s.size) : i ≤ (runTo s dg i).1 ∧ (runTo s dg i).1 ≤ s.size ∧ (runTo s dg i).2 + i ≤ (runTo s dg i).1 := by
  have := runEnd_le s dg s.size i 0 hi
  unfold runTo
  omega
/-- Where a number's digits begin that begins at a place. -/
def headOf (s : ByteArray) (i : Nat) : Nat := if (s.get! i).toNat = 45 then i + 1 else i
/-- How many bytes a number has that begins at a place. -/
def numLen (s : ByteArray) (i : Nat) : Nat := if (runTo s true (headOf s i)).1 - headOf s i = 0 then 0 else (headOf s i - i) + ((runTo s true (headOf s i)).1 - headOf s i)
/-- The value of so many bytes, without the minus. -/
def valT (t : ByteArray) : Nat → Int
  | 0 => 0
  | k + 1 => if (t.get! k).toNat = 45 then valT t k else 10 * valT t k + ((t.get! k).toNat - 48)
/-- Digits, and perhaps a minus. -/
def Digs (t : ByteArray) : Prop := ∀ k, k < t.size → (t.get! k).toNat = 45 ∨ 48 ≤ (t.get! k).toNat ∧ (t.get! k).toNat ≤ 57
theorem valT_mono {t : ByteArray} (h : Digs t) (k : Nat) (hk : k < t.size) (h0 : 0 ≤ valT t k) : valT t k ≤ valT t (k + 1) := by
  rw [valT]
  have := h k hk
  split <;> omega
theorem valT_pos {t : ByteArray} (h : Digs t) : ∀ k, k ≤ t.size → 0 ≤ valT t k := by
  intro k
  induction k with
  | zero => intro _; exact Int.le_refl _
  | succ k ih =>
    intro hk
    have h1 := ih (by omega)
    have h2 := valT_mono h k (by omega) h1
    omega
theorem valT_le {t : ByteArray} (h : Digs t) : ∀ n k, k + n ≤ t.size → valT t k ≤ valT t (k + n) := by
  intro n
  induction n with
  | zero => intro k _; exact Int.le_refl _
  | succ n ih =>
    intro k hk
    have h1 := ih k (by omega)
    have h2 := valT_mono h (k + n) (by omega) (valT_pos h _ (by omega))
    have e : k + (n + 1) = k + n + 1 := by omega
    rw [e]
    omega
def valOk (t : ByteArray) : Bool := decide (valT t t.size ≤ 1099511627776)
def valN (t : ByteArray) : Int := if valOk t = true then (if (t.get! 0).toNat = 45 then -valT t t.size else valT t t.size) else 0
end Go.Proofs.YtkfplffcegbdfaaGreatDoor
