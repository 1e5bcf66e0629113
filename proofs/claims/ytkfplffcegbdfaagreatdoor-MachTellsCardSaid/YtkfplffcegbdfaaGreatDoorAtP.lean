/-
  What the document's rune at a place is, by the text's bytes. No condition beyond those that each theorem states.
-/
import Derived.Test.YtkfplffcegbdfaaGreatDoorPk4
namespace Go.Proofs.YtkfplffcegbdfaaGreatDoor
/-- A byte that goes on. -/
def contB (s : ByteArray) (k : Nat) : Prop := 128 ≤ (s.get! k).toNat ∧ (s.get! k).toNat ≤ 191
instance (s : ByteArray) (k : Nat) : Decidable (contB s k) := by unfold contB; exact inferInstance
/-- What a run of bytes tells. -/
def okB (least r : Int) : Prop := least ≤ r ∧ r ≤ 1114111 ∧ ¬ (55296 ≤ r ∧ r ≤ 57343)
instance (least r : Int) : Decidable (okB least r) := by unfold okB; exact inferInstance
theorem accR_one (s : ByteArray) (i : Nat) (r0 : Int) : accR s i r0 1 = 64 * r0 + ((s.get! (i + 1)).toNat : Int) - 128 := rfl
theorem accR_two (s : ByteArray) (i : Nat) (r0 : Int) : accR s i r0 2 = 64 * (64 * r0 + ((s.get! (i + 1)).toNat : Int) - 128) + ((s.get! (i + 2)).toNat : Int) - 128 := rfl
theorem accR_three (s : ByteArray) (i : Nat) (r0 : Int) : accR s i r0 3 = 64 * (64 * (64 * r0 + ((s.get! (i + 1)).toNat : Int) - 128) + ((s.get! (i + 2)).toNat : Int) - 128) + ((s.get! (i + 3)).toNat : Int) - 128 := rfl
theorem atP_one (s : ByteArray) (i : Nat) (hi : i < s.size) (hb : (s.get! i).toNat < 128) : atP s i = ((s.get! i).toNat, 1) := by
  unfold atP
  rw [if_pos hi, Lib.decode_at]
  unfold Lib.decodeN
  rw [if_pos hb, if_neg (by omega)]
theorem atP_none (s : ByteArray) (i : Nat) (hb : 128 ≤ (s.get! i).toNat) (hb1 : (s.get! i).toNat < 192 ∨ 248 ≤ (s.get! i).toNat) : atP s i = (0, 0) := by
  unfold atP
  split
  · rw [Lib.decode_at]
    have : Lib.decodeN (s.size - i) (s.get! i).toNat (s.get! (i + 1)).toNat (s.get! (i + 2)).toNat (s.get! (i + 3)).toNat = (65533, 1) := by
      unfold Lib.decodeN
      rw [if_neg (by omega), if_neg (by omega), if_neg (by omega), if_neg (by omega)]
    rw [this, if_pos ⟨rfl, rfl⟩]
  · rfl
theorem pick_pair {c d e : Prop} [Decidable c] [Decidable d] [Decidable e] {x y : Nat × Nat} (hx : x ≠ (65533, 1)) (h : c ∧ d ↔ e) (hxy : c → d → x = y) :
    (if ((if c then (if d then x else (65533, 1)) else (65533, 1)).1 = 65533 ∧ (if c then (if d then x else (65533, 1)) else (65533, 1)).2 = 1) then ((0, 0) : Nat × Nat) else (if c then (if d then x else (65533, 1)) else (65533, 1))) = if e then y else (0, 0) := by
  by_cases hc : c
  · by_cases hd : d
    · have he := h.1 ⟨hc, hd⟩
      rw [if_pos hc, if_pos hd, if_pos he, if_neg (fun hh => hx (Prod.ext hh.1 hh.2))]
      exact hxy hc hd
    · have he : ¬ e := fun he => hd (h.2 he).2
      rw [if_pos hc, if_neg hd, if_neg he, if_pos ⟨rfl, rfl⟩]
  · have he : ¬ e := fun he => hc (h.2 he).1
    rw [if_neg hc, if_neg he, if_pos ⟨rfl, rfl⟩]
theorem atP_two (s : ByteArray) (i : Nat) (hb : 192 ≤ (s.get! i).toNat ∧ (s.get! i).toNat ≤ 223) :
    atP s i = if i + 2 ≤ s.size ∧ contB s (i + 1) ∧ okB 128 (accR s i ((s.get! i).toNat - 192) 1) then ((accR s i ((s.get! i).toNat - 192) 1).toNat, 2) else (0, 0) := by
  obtain ⟨hb0, hb1⟩ := hb
  have h1 := (s.get! (i + 1)).toNat_lt
  have h2 := (s.get! (i + 2)).toNat_lt
  have h3 := (s.get! (i + 3)).toNat_lt
  rw [accR_one]
  unfold atP
  rw [Lib.decode_at]
  unfold Lib.decodeN
  by_cases hi : i < s.size
  · rw [if_pos hi]
    rw [if_neg (show ¬ (s.get! i).toNat < 128 by omega)]
    rw [if_neg (show ¬ ((s.get! i).toNat / 16 = 14 ∧ _) by omega), if_neg (show ¬ ((s.get! i).toNat / 8 = 30 ∧ _) by omega)]
    exact pick_pair (by intro e; have := congrArg Prod.snd e; simp at this) (by unfold contB okB; generalize (s.get! i).toNat = b0 at *; generalize (s.get! (i + 1)).toNat = b1 at *; generalize (s.get! (i + 2)).toNat = b2 at *; generalize (s.get! (i + 3)).toNat = b3 at *; omega) (by generalize (s.get! i).toNat = b0 at *; generalize (s.get! (i + 1)).toNat = b1 at *; generalize (s.get! (i + 2)).toNat = b2 at *; generalize (s.get! (i + 3)).toNat = b3 at *; intro hc hd; apply Prod.ext <;> simp only; omega)
  · rw [if_neg hi, if_neg (by omega)]
theorem atP_three (s : ByteArray) (i : Nat) (hb : 224 ≤ (s.get! i).toNat ∧ (s.get! i).toNat ≤ 239) :
    atP s i = if i + 3 ≤ s.size ∧ contB s (i + 1) ∧ contB s (i + 2) ∧ okB 2048 (accR s i ((s.get! i).toNat - 224) 2) then ((accR s i ((s.get! i).toNat - 224) 2).toNat, 3) else (0, 0) := by
  obtain ⟨hb0, hb1⟩ := hb
  have h1 := (s.get! (i + 1)).toNat_lt
  have h2 := (s.get! (i + 2)).toNat_lt
  have h3 := (s.get! (i + 3)).toNat_lt
  rw [accR_two]
  unfold atP
  rw [Lib.decode_at]
  unfold Lib.decodeN
  by_cases hi : i < s.size
  · rw [if_pos hi]
    rw [if_neg (show ¬ (s.get! i).toNat < 128 by omega)]
    rw [if_neg (show ¬ ((s.get! i).toNat / 32 = 6 ∧ _) by omega)]
    rw [if_neg (show ¬ ((s.get! i).toNat / 8 = 30 ∧ _) by omega)]
    exact pick_pair (by intro e; have := congrArg Prod.snd e; simp at this) (by unfold contB okB; generalize (s.get! i).toNat = b0 at *; generalize (s.get! (i + 1)).toNat = b1 at *; generalize (s.get! (i + 2)).toNat = b2 at *; generalize (s.get! (i + 3)).toNat = b3 at *; omega) (by generalize (s.get! i).toNat = b0 at *; generalize (s.get! (i + 1)).toNat = b1 at *; generalize (s.get! (i + 2)).toNat = b2 at *; generalize (s.get! (i + 3)).toNat = b3 at *; intro hc hd; apply Prod.ext <;> simp only; omega)
  · rw [if_neg hi, if_neg (by omega)]
theorem atP_four (s : ByteArray) (i : Nat) (hb : 240 ≤ (s.get! i).toNat ∧ (s.get! i).toNat ≤ 247) :
    atP s i = if i + 4 ≤ s.size ∧ contB s (i + 1) ∧ contB s (i + 2) ∧ contB s (i + 3) ∧ okB 65536 (accR s i ((s.get! i).toNat - 240) 3) then ((accR s i ((s.get! i).toNat - 240) 3).toNat, 4) else (0, 0) := by
  obtain ⟨hb0, hb1⟩ := hb
  have h1 := (s.get! (i + 1)).toNat_lt
  have h2 := (s.get! (i + 2)).toNat_lt
  have h3 := (s.get! (i + 3)).toNat_lt
  rw [accR_three]
  unfold atP
  rw [Lib.decode_at]
  unfold Lib.decodeN
  by_cases hi : i < s.size
  · rw [if_pos hi]
    rw [if_neg (show ¬ (s.get! i).toNat < 128 by omega)]
    rw [if_neg (show ¬ ((s.get! i).toNat / 32 = 6 ∧ _) by omega), if_neg (show ¬ ((s.get! i).toNat / 16 = 14 ∧ _) by omega)]
    exact pick_pair (by intro e; have := congrArg Prod.snd e; simp at this) (by unfold contB okB; generalize (s.get! i).toNat = b0 at *; generalize (s.get! (i + 1)).toNat = b1 at *; generalize (s.get! (i + 2)).toNat = b2 at *; generalize (s.get! (i + 3)).toNat = b3 at *; omega) (by generalize (s.get! i).toNat = b0 at *; generalize (s.get! (i + 1)).toNat = b1 at *; generalize (s.get! (i + 2)).toNat = b2 at *; generalize (s.get! (i + 3)).toNat = b3 at *; intro hc hd; apply Prod.ext <;> simp only; omega)
  · rw [if_neg hi, if_neg (by omega)]
end Go.Proofs.YtkfplffcegbdfaaGreatDoor
