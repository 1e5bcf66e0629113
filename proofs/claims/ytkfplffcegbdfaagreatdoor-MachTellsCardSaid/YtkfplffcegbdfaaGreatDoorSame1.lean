/-
  Where a rune is told, and where a run ends: plain facts for both readings. No condition beyond those that each theorem states.
-/
import Derived.Test.YtkfplffcegbdfaaGreatDoorRefG
import Derived.Test.YtkfplffcegbdfaaGreatDoorFine
import Derived.Test.YtkfplffcegbdfaaGreatDoorNameM
namespace Go.Proofs.YtkfplffcegbdfaaGreatDoor
/-- What the program answers out of the reader's last state. -/
def fin (s : ByteArray) (τ : Rd) : List Wd × Int × Int × Int := if τ.f = 0 then ((τ.shut s s.size).ws, 0, 0, 0) else ([], τ.bl, τ.bc, τ.f)
theorem fin_last (s : ByteArray) : fin s (lastRd s) = (readWords s, readLine s, readCol s, readErr s) := by
  unfold fin readWords readLine readCol readErr
  by_cases h : (lastRd s).f = 0
  · rw [if_pos h, if_pos h, if_pos h, if_pos h, h]
  · rw [if_neg h, if_neg h, if_neg h, if_neg h]
theorem run_go {s : ByteArray} {n i : Nat} {σ : Rd} (hi : i < s.size) (hf : (σ.take s i (Utf8.decode s i).1).f = 0) :
    Rd.run s (n + 1) i σ = Rd.run s n (i + (Utf8.decode s i).2) ((σ.take s i (Utf8.decode s i).1).pass (Utf8.decode s i).1) := by
  rw [Rd.run, if_pos hi, if_pos hf]
theorem run_stop {s : ByteArray} {n i : Nat} {σ : Rd} (hi : i < s.size) (hf : (σ.take s i (Utf8.decode s i).1).f ≠ 0) :
    Rd.run s (n + 1) i σ = σ.take s i (Utf8.decode s i).1 := by
  rw [Rd.run, if_pos hi, if_neg hf]
theorem shut_k (s : ByteArray) (σ : Rd) (i : Int) : (σ.shut s i).w.k = 0 := by
  unfold Rd.shut
  split
  · assumption
  · rfl
theorem shut_idle {s : ByteArray} {σ : Rd} (i : Int) (h : σ.w.k = 0) : σ.shut s i = σ := if_pos h
theorem shut_rem (s : ByteArray) (σ : Rd) (i : Int) : (σ.shut s i).remark = σ.remark := by unfold Rd.shut; split <;> rfl
theorem pass_not {σ : Rd} {r : Int} (h : r ≠ 10) : σ.pass r = { σ with col := σ.col + 1 } := if_neg h

/-- A place at which a run is told, and its bytes. -/
theorem fffd_wide (n b0 b1 b2 b3 : Nat) (h1 : b1 < 256) (h : (Lib.decodeN n b0 b1 b2 b3).1 = 65533) : (Lib.decodeN n b0 b1 b2 b3).2 ≠ 1 ↔ 3 ≤ n ∧ b0 = 239 ∧ b1 = 191 ∧ b2 = 189 := by
  revert h
  unfold Lib.decodeN
  repeat' split
  all_goals simp only
  all_goals omega
theorem get_drop (s : ByteArray) (i k : Nat) (u : UInt8) (h : (s.data.toList.drop i)[k]? = some u) : s.get! (i + k) = u := by
  rw [List.getElem?_drop] at h
  have hlt : i + k < s.size := by
    have := (List.getElem?_eq_some_iff.1 h).1
    simpa using this
  have h2 := (List.getElem?_eq_some_iff.1 h).2
  rw [get_eq s _ hlt]
  have h3 : s.data[i + k]'(by simpa using hlt) = u := by simpa using h2
  exact h3
theorem raw_of (s : ByteArray) (i : Nat) (hi : i < s.size) (h : (Utf8.decode s i).1 = 65533) : ([239, 191, 189] : List UInt8).isPrefixOf (s.data.toList.drop i) = decide ((Utf8.decode s i).2 ≠ 1) := by
  have hlen : (s.data.toList.drop i).length = s.size - i := by rw [List.length_drop]; simp
  have hw := fffd_wide (s.size - i) (s.get! i).toNat (s.get! (i + 1)).toNat (s.get! (i + 2)).toNat (s.get! (i + 3)).toNat (s.get! (i + 1)).toNat_lt (by rw [← Lib.decode_at]; exact h)
  rw [← Lib.decode_at] at hw
  rw [Bool.eq_iff_iff, decide_eq_true_eq, hw]
  have g0 := get_drop s i 0
  have g1 := get_drop s i 1
  have g2 := get_drop s i 2
  rcases hL : s.data.toList.drop i with _ | ⟨x, _ | ⟨y, _ | ⟨z, t⟩⟩⟩
  · rw [hL] at hlen; simp only [List.length_nil] at hlen; omega
  · rw [hL] at hlen; simp only [List.length_cons, List.length_nil] at hlen
    simp [List.isPrefixOf]; omega
  · rw [hL] at hlen; simp only [List.length_cons, List.length_nil] at hlen
    simp [List.isPrefixOf]; omega
  · rw [hL] at hlen g0 g1 g2
    simp only [List.length_cons] at hlen
    have e0 : s.get! i = x := g0 x rfl
    have e1 : s.get! (i + 1) = y := g1 y rfl
    have e2 : s.get! (i + 2) = z := g2 z rfl
    rw [e0, e1, e2]
    have u : ∀ (a b : UInt8), (a == b) = true ↔ b.toNat = a.toNat := fun a b => by rw [beq_iff_eq, ← UInt8.toNat_inj]; exact eq_comm
    simp only [List.isPrefixOf, Bool.and_eq_true, u, and_true]
    constructor
    · rintro ⟨h0, h1, h2⟩; exact ⟨by omega, h0, h1, h2⟩
    · rintro ⟨_, h0, h1, h2⟩; exact ⟨h0, h1, h2⟩
theorem rawB_bad {s : ByteArray} {i : Nat} (hi : i < s.size) (h : (atP s i).2 = 0) : rawB s i (Utf8.decode s i).1 = true ∧ (Utf8.decode s i).1 = 65533 := by
  rcases atP_cases s i hi with ⟨_, h1, h2⟩ | ⟨h1, h2⟩
  · refine ⟨?_, h1⟩
    rw [rawB, raw_of s i hi h1, h1, h2]
    rfl
  · rw [h1] at h; omega
theorem rawB_good {s : ByteArray} {i : Nat} (hi : i < s.size) (h : (atP s i).2 ≠ 0) : rawB s i (Utf8.decode s i).1 = false ∧ atP s i = Utf8.decode s i := by
  rcases atP_cases s i hi with ⟨h0, _⟩ | ⟨h1, h2⟩
  · exact absurd h0 h
  · refine ⟨?_, h1⟩
    unfold rawB
    by_cases hc : (Utf8.decode s i).1 = 65533
    · have hb : (Utf8.decode s i).2 ≠ 1 := by
        intro hb
        unfold atP at h
        rw [if_pos hi, if_pos ⟨hc, hb⟩] at h
        exact h rfl
      rw [raw_of s i hi hc, decide_eq_true hb]
      simp
    · have : decide (((Utf8.decode s i).1 : Int) = 65533) = false := by simp; omega
      rw [this]
      rfl

/-- A byte that is a digit. -/
theorem at_digit (s : ByteArray) (i : Nat) (hi : i < s.size) : ((atP s i).2 ≠ 0 ∧ digitB (atP s i).1 = true) ↔ 48 ≤ (s.get! i).toNat ∧ (s.get! i).toNat ≤ 57 := by
  constructor
  · rintro ⟨h0, hd⟩
    have hd2 := of_decide_eq_true hd
    have := atP_small s i hi h0 (by omega)
    omega
  · rintro ⟨h1, h2⟩
    rw [atP_one s i hi (by omega)]
    refine ⟨by simp, ?_⟩
    simp [digitB]
    omega
theorem runTo_stop (s : ByteArray) (dg : Bool) (i : Nat) (h : i < s.size → (atP s i).2 = 0 ∨ stopB dg (atP s i).1 = true) : runTo s dg i = (i, 0) := runEnd_stop s dg _ i 0 h
/-- Where the run ends there is no rune of it. -/
theorem runEnd_behind (s : ByteArray) (dg : Bool) : ∀ (f i n : Nat), i ≤ s.size → s.size ≤ i + f → (runEnd s dg f i n).1 < s.size → (atP s (runEnd s dg f i n).1).2 ≠ 0 → stopB dg (atP s (runEnd s dg f i n).1).1 = true := by
  intro f
  induction f with
  | zero => intro i n h1 h2 h3; rw [runEnd] at h3; simp only at h3; omega
  | succ f ih =>
    intro i n h1 h2 h3 h4
    rw [runEnd] at h3 h4 ⊢
    by_cases hlt : i < s.size
    · rw [if_pos hlt] at h3 h4 ⊢
      by_cases hs : (atP s i).2 = 0 ∨ stopB dg (atP s i).1 = true
      · rw [if_pos hs] at h3 h4 ⊢
        exact hs.resolve_left h4
      · rw [if_neg hs] at h3 h4 ⊢
        have hw : (atP s i).2 ≠ 0 := fun e => hs (.inl e)
        exact ih _ _ (atP_le s i hlt) (by omega) h3 h4
    · rw [if_neg hlt] at h3
      exact absurd h3 hlt
theorem numLen_iff (s : ByteArray) (i : Nat) (hi : i < s.size) : 0 < numLen s i ↔ ((s.get! i).toNat = 45 ∧ behindB s i = true) ∨ (48 ≤ (s.get! i).toNat ∧ (s.get! i).toNat ≤ 57) := by
  have h1 := headOf_le s i hi
  have h2 := runTo_le s true (headOf s i) h1.2.2
  have key : ∀ h, h ≤ s.size → (h < (runTo s true h).1 ↔ h < s.size ∧ 48 ≤ (s.get! h).toNat ∧ (s.get! h).toNat ≤ 57) := by
    intro h hh
    constructor
    · intro hlt
      have hs : h < s.size := by have := runTo_le s true h hh; omega
      refine ⟨hs, (at_digit s h hs).1 ?_⟩
      by_cases h0 : (atP s h).2 = 0
      · rw [runTo_stop s true h (fun _ => .inl h0)] at hlt; simp only at hlt; omega
      · refine ⟨h0, ?_⟩
        cases hd : digitB ((atP s h).1 : Int)
        · rw [runTo_stop s true h (fun _ => .inr (by simp [stopB, hd]))] at hlt; simp only at hlt; omega
        · rfl
    · rintro ⟨hs, hd⟩
      obtain ⟨h0, hd⟩ := (at_digit s h hs).2 hd
      unfold runTo
      obtain ⟨q, hq⟩ : ∃ q, s.size = q + 1 := ⟨s.size - 1, by omega⟩
      rw [hq, runEnd, if_pos hs, if_neg (by simp [stopB, hd]; omega)]
      have := (runEnd_le s true q (h + (atP s h).2) (0 + 1) (atP_le s h hs)).1
      omega
  have k2 := key (headOf s i) h1.2.2
  have hnl : 0 < numLen s i ↔ headOf s i < (runTo s true (headOf s i)).1 := by
    unfold numLen
    split <;> omega
  rw [hnl, k2]
  unfold headOf
  by_cases h45 : (s.get! i).toNat = 45
  · rw [if_pos h45]
    unfold behindB digitB
    simp only [Bool.and_eq_true, decide_eq_true_eq]
    omega
  · rw [if_neg h45]
    omega
end Go.Proofs.YtkfplffcegbdfaaGreatDoor
