/-
  A plain function that mirrors the document's reading, and what a number's bytes are. No condition beyond those that each theorem states.
  Both tests whether a text is a name are one plain function. No condition beyond those that each theorem states.
  Where a rune is told, and where a run ends: plain facts for both readings. No condition beyond those that each theorem states.
-/
import Derived.Test.YthiipgahbmoiiaaGreatDoorPk19
import Derived.Test.YthiipgahbmoiiaaGreatDoorPk18
namespace Go.Proofs.YthiipgahbmoiiaaGreatDoor
def numEnd (s : ByteArray) (i : Nat) : Nat := i + numLen s i
def partOf (s : ByteArray) (i j : Nat) : ByteArray := s.extract i j
def refGo (s : ByteArray) : Nat → List Wd → Int → Int → Bool → Nat → (List Wd × Int × Int × Int)
  | 0, out, _, _, _, _ => (out, 0, 0, 0)
  | f + 1, out, line, col, rem, i =>
    if i < s.size then
      (if (atP s i).2 = 0 then ([], line, col, 6)
       else if (atP s i).1 = 10 then refGo s f (out ++ [⟨4, noText, 0, line, col⟩]) (line + 1) 1 false (i + 1)
       else if rem = true ∨ (atP s i).1 = 32 ∨ (atP s i).1 = 9 ∨ (atP s i).1 = 59 then refGo s f out line (col + 1) (rem || decide ((atP s i).1 = 59)) (i + (atP s i).2)
       else if 0 < numLen s i then
         (if valOk (partOf s i (numEnd s i)) = true then
            (if 0 < (atP s (numEnd s i)).2 ∧ letterB (atP s (numEnd s i)).1 = true then ([], line, col + numLen s i, 6)
             else refGo s f (out ++ [⟨2, partOf s i (numEnd s i), valN (partOf s i (numEnd s i)), line, col⟩]) line (col + numLen s i) false (numEnd s i))
          else ([], line, col, 3))
       else if letterB (atP s i).1 = true then
         (if 16 < (runTo s false i).2 then ([], line, col, 3)
          else refGo s f (out ++ [⟨1, partOf s i (runTo s false i).1, 0, line, col⟩]) line (col + (runTo s false i).2) false (runTo s false i).1)
       else if signB (atP s i).1 = true then refGo s f (out ++ [⟨3, partOf s i (i + (atP s i).2), 0, line, col⟩]) line (col + 1) false (i + (atP s i).2)
       else ([], line, col, 6))
    else (out, 0, 0, 0)
def refRead (s : ByteArray) : List Wd × Int × Int × Int := refGo s s.size [] 1 1 false 0

theorem refGo_end (s : ByteArray) (f : Nat) (out : List Wd) (l c : Int) (r : Bool) (i : Nat) (h : ¬ i < s.size) : refGo s f out l c r i = (out, 0, 0, 0) := by
  cases f with
  | zero => rfl
  | succ f => rw [refGo, if_neg h]

/-- A digit is one byte. -/
theorem atP_small (s : ByteArray) (i : Nat) (hi : i < s.size) (h0 : (atP s i).2 ≠ 0) (h : (atP s i).1 < 128) : (atP s i).2 = 1 ∧ (s.get! i).toNat = (atP s i).1 := by
  by_cases hb : (s.get! i).toNat < 128
  · rw [atP_one s i hi hb]
    exact ⟨rfl, rfl⟩
  · exfalso
    by_cases hn : (s.get! i).toNat < 192 ∨ 248 ≤ (s.get! i).toNat
    · rw [atP_none s i (by omega) hn] at h0
      exact h0 rfl
    by_cases h2 : (s.get! i).toNat ≤ 223
    · rw [atP_two s i ⟨by omega, h2⟩] at h0 h
      split at h
      · rename_i hc
        have := hc.2.2
        unfold okB at this
        simp only at h
        omega
      · rename_i hc
        rw [if_neg hc] at h0
        exact h0 rfl
    by_cases h3 : (s.get! i).toNat ≤ 239
    · rw [atP_three s i ⟨by omega, h3⟩] at h0 h
      split at h
      · rename_i hc
        have := hc.2.2.2
        unfold okB at this
        simp only at h
        omega
      · rename_i hc
        rw [if_neg hc] at h0
        exact h0 rfl
    · rw [atP_four s i ⟨by omega, by omega⟩] at h0 h
      split at h
      · rename_i hc
        have := hc.2.2.2.2
        unfold okB at this
        simp only at h
        omega
      · rename_i hc
        rw [if_neg hc] at h0
        exact h0 rfl
theorem runEnd_digits (s : ByteArray) : ∀ (f i n : Nat), i ≤ s.size → ∀ k, i ≤ k → k < (runEnd s true f i n).1 → 48 ≤ (s.get! k).toNat ∧ (s.get! k).toNat ≤ 57 := by
  intro f
  induction f with
  | zero => intro i n _ k h1 h2; rw [runEnd] at h2; simp only at h2; omega
  | succ f ih =>
    intro i n hi k h1 h2
    rw [runEnd] at h2
    split at h2
    · rename_i hlt
      split at h2
      · simp only at h2; omega
      · rename_i hs
        have hd : digitB ((atP s i).1 : Int) = true := by
          cases hd : digitB ((atP s i).1 : Int)
          · exact absurd (.inr (by simp [stopB, hd])) hs
          · rfl
        have hd2 := of_decide_eq_true hd
        have hw := atP_small s i hlt (fun h => hs (.inl h)) (by omega)
        by_cases hk : k = i
        · subst hk; omega
        · exact ih _ _ (atP_le s i hlt) k (by omega) h2
    · simp only at h2; omega
theorem headOf_le (s : ByteArray) (i : Nat) (hi : i < s.size) : i ≤ headOf s i ∧ headOf s i ≤ i + 1 ∧ headOf s i ≤ s.size := by unfold headOf; split <;> omega
theorem numLen_le (s : ByteArray) (i : Nat) (hi : i < s.size) : i + numLen s i ≤ s.size := by
  have h1 := headOf_le s i hi
  have h2 := runTo_le s true (headOf s i) h1.2.2
  unfold numLen
  split <;> omega
theorem numEnd_eq (s : ByteArray) (i : Nat) (hi : i < s.size) (h : 0 < numLen s i) : numEnd s i = (runTo s true (headOf s i)).1 ∧ headOf s i < numEnd s i := by
  have h1 := headOf_le s i hi
  have h2 := runTo_le s true (headOf s i) h1.2.2
  unfold numEnd
  unfold numLen at h ⊢
  split at h
  · omega
  · rw [if_neg ‹_›]; omega
theorem get_eq (t : ByteArray) (k : Nat) (h : k < t.size) : t.get! k = t[k]'h := by simp [ByteArray.get!, getElem!_pos, h]; rfl
theorem part_size (s : ByteArray) (i j : Nat) (hj : j ≤ s.size) : (partOf s i j).size = j - i := by
  unfold partOf
  simp [ByteArray.size_extract]
  omega
theorem part_get (s : ByteArray) (i j k : Nat) (hj : j ≤ s.size) (hk : k < j - i) : (partOf s i j).get! k = s.get! (i + k) := by
  have h1 : k < (s.extract i j).size := by have := part_size s i j hj; unfold partOf at this; omega
  have h2 : i + k < s.size := by omega
  show (s.extract i j).get! k = _
  rw [get_eq _ _ h1, get_eq _ _ h2]
  simp [ByteArray.getElem_extract]
theorem num_digs (s : ByteArray) (i : Nat) (hi : i < s.size) (h : 0 < numLen s i) : Digs (partOf s i (numEnd s i)) := by
  intro k hk
  have hn := numLen_le s i hi
  have he := numEnd_eq s i hi h
  have hle : numEnd s i ≤ s.size := hn
  rw [part_size s i _ hle] at hk
  rw [part_get s i _ k hle hk]
  by_cases hh : headOf s i ≤ i + k
  · exact .inr (runEnd_digits s _ _ _ (headOf_le s i hi).2.2 (i + k) hh (by have : i + k < (runTo s true (headOf s i)).1 := by omega
                                                                            exact this))
  · left
    have h1 : i + k < headOf s i := by omega
    unfold headOf at h1
    split at h1
    · have : i + k = i := by omega
      rw [this]; assumption
    · omega
end Go.Proofs.YthiipgahbmoiiaaGreatDoor
namespace Go.Proofs.YthiipgahbmoiiaaGreatDoor
def nameGo (s : ByteArray) : Nat → Nat → Nat → Bool
  | 0, _, m => decide (0 < m)
  | f + 1, i, m =>
    if i < s.size then (if (letterB (Utf8.decode s i).1 || (decide (0 < m) && digitB (Utf8.decode s i).1)) = true ∧ m ≠ 16 then nameGo s f (i + (Utf8.decode s i).2) (m + 1) else false) else decide (0 < m)
def nameB (s : ByteArray) : Bool := nameGo s s.size 0 0
def rnameGo (s : ByteArray) : Nat → Nat → Nat → Bool
  | 0, _, n => decide (1 ≤ n ∧ n ≤ 16)
  | f + 1, i, n =>
    if i < s.size then (if (atP s i).2 ≠ 0 ∧ (letterB (atP s i).1 || (decide (0 < n) && digitB (atP s i).1)) = true then rnameGo s f (i + (atP s i).2) (n + 1) else false) else decide (1 ≤ n ∧ n ≤ 16)
def rnameB (s : ByteArray) : Bool := rnameGo s s.size 0 0
theorem nameGo_end (s : ByteArray) (f i m : Nat) (h : ¬ i < s.size) : nameGo s f i m = decide (0 < m) := by
  cases f with
  | zero => rfl
  | succ f => rw [nameGo, if_neg h]
theorem rnameGo_end (s : ByteArray) (f i m : Nat) (h : ¬ i < s.size) : rnameGo s f i m = decide (1 ≤ m ∧ m ≤ 16) := by
  cases f with
  | zero => rfl
  | succ f => rw [rnameGo, if_neg h]
theorem rnameGo_long (s : ByteArray) : ∀ f i n, 16 < n → s.size ≤ i + f → rnameGo s f i n = false := by
  intro f
  induction f with
  | zero => intro i n hn hi; rw [rnameGo]; simp; omega
  | succ f ih =>
    intro i n hn hi
    rw [rnameGo]
    split
    · split
      · rename_i h
        exact ih _ _ (by omega) (by omega)
      · rfl
    · simp; omega
/-- What 'at' tells of a rune, and of bytes that are none. -/
theorem atP_cases (s : ByteArray) (i : Nat) (hi : i < s.size) : (atP s i).2 = 0 ∧ (Utf8.decode s i).1 = 65533 ∧ (Utf8.decode s i).2 = 1 ∨ atP s i = Utf8.decode s i ∧ 1 ≤ (Utf8.decode s i).2 := by
  unfold atP
  rw [if_pos hi]
  split
  · rename_i h
    exact .inl ⟨rfl, h.1, h.2⟩
  · refine .inr ⟨rfl, ?_⟩
    rw [Lib.decode_at]
    unfold Lib.decodeN
    repeat' split
    all_goals simp
theorem name_same (s : ByteArray) : ∀ f i m, m ≤ 16 → s.size ≤ i + f → nameGo s f i m = rnameGo s f i m := by
  intro f
  induction f with
  | zero => intro i m hm hi; rw [nameGo, rnameGo]; exact decide_eq_decide.2 (by omega)
  | succ f ih =>
    intro i m hm hi
    rw [nameGo, rnameGo]
    by_cases hlt : i < s.size
    · rw [if_pos hlt, if_pos hlt]
      rcases atP_cases s i hlt with ⟨h0, h1, h2⟩ | ⟨h0, h1⟩
      · have hn : ¬ ((letterB ((Utf8.decode s i).1 : Int) || (decide (0 < m) && digitB ((Utf8.decode s i).1 : Int))) = true ∧ m ≠ 16) := by rw [h1]; simp [letterB, digitB]
        rw [if_neg hn, if_neg (by simp [h0])]
      · rw [h0]
        by_cases hc : (letterB ((Utf8.decode s i).1 : Int) || (decide (0 < m) && digitB ((Utf8.decode s i).1 : Int))) = true
        · by_cases h16 : m = 16
          · rw [if_neg (fun h => h.2 h16), if_pos ⟨by omega, hc⟩]
            exact (rnameGo_long s f _ _ (by omega) (by omega)).symm
          · rw [if_pos ⟨hc, h16⟩, if_pos ⟨by omega, hc⟩]
            exact ih _ _ (by omega) (by omega)
        · rw [if_neg (fun h => hc h.1), if_neg (fun h => hc h.2)]
    · rw [if_neg hlt, if_neg hlt]
      exact decide_eq_decide.2 (by omega)
theorem nameB_same (s : ByteArray) : nameB s = rnameB s := name_same s s.size 0 0 (by omega) (by omega)
end Go.Proofs.YthiipgahbmoiiaaGreatDoor
namespace Go.Proofs.YthiipgahbmoiiaaGreatDoor
/-- What the program answers out of the reader's last state. -/
def fin (s : ByteArray) (τ : Rd) : List Wd × Int × Int × Int := if τ.f = 0 then ((τ.shut s s.size).ws, 0, 0, 0) else ([], τ.bl, τ.bc, τ.f)
theorem fin_last (s : ByteArray) : fin s (lastRd s) = (readWords s, readLine s, readCol s, readErr s) := by
  unfold fin readWords readLine readCol readErr
  by_cases h : (lastRd s).f = 0
  · rw [if_pos h, if_pos h, if_pos h, if_pos h, h]
  · rw [if_neg h, if_neg h, if_neg h, if_neg h]
theorem run_go {s : ByteArray} {n i : Nat} {σ : Rd} (hi : i < s.size) (hf : (σ.take s i (Utf8.decode s i).1).f = 0) :
    Rd.run s (n + 1) i σ = Rd.run s n (i + (Utf8.decode s i).2) ((σ.take s i (Utf8.decode s i).1).pass (Utf8.decode s i).1) := by
  rw [Rd.run, if_pos hi, if_pos hf]
theorem run_stop {s : ByteArray} {n i : Nat} {σ : Rd} (hi : i < s.size) (hf : (σ.take s i (Utf8.decode s i).1).f ≠ 0) :
    Rd.run s (n + 1) i σ = σ.take s i (Utf8.decode s i).1 := by
  rw [Rd.run, if_pos hi, if_neg hf]
theorem shut_k (s : ByteArray) (σ : Rd) (i : Int) : (σ.shut s i).w.k = 0 := by
  unfold Rd.shut
  split
  · assumption
  · rfl
theorem shut_idle {s : ByteArray} {σ : Rd} (i : Int) (h : σ.w.k = 0) : σ.shut s i = σ := if_pos h
theorem shut_rem (s : ByteArray) (σ : Rd) (i : Int) : (σ.shut s i).remark = σ.remark := by unfold Rd.shut; split <;> rfl
theorem pass_not {σ : Rd} {r : Int} (h : r ≠ 10) : σ.pass r = { σ with col := σ.col + 1 } := if_neg h

/-- A place at which a run is told, and its bytes. -/
theorem fffd_wide (n b0 b1 b2 b3 : Nat) (h1 : b1 < 256) (h : (Lib.decodeN n b0 b1 b2 b3).1 = 65533) : (Lib.decodeN n b0 b1 b2 b3).2 ≠ 1 ↔ 3 ≤ n ∧ b0 = 239 ∧ b1 = 191 ∧ b2 = 189 := by
  revert h
  unfold Lib.decodeN
  repeat' split
  all_goals simp only
  all_goals omega
theorem get_drop (s : ByteArray) (i k : Nat) (u : UInt8) (h : (s.data.toList.drop i)[k]? = some u) : s.get! (i + k) = u := by
  rw [List.getElem?_drop] at h
  have hlt : i + k < s.size := by
    have := (List.getElem?_eq_some_iff.1 h).1
    simpa using this
  have h2 := (List.getElem?_eq_some_iff.1 h).2
  rw [get_eq s _ hlt]
  have h3 : s.data[i + k]'(by simpa using hlt) = u := by simpa using h2
  exact h3
theorem raw_of (s : ByteArray) (i : Nat) (hi : i < s.size) (h : (Utf8.decode s i).1 = 65533) : ([239, 191, 189] : List UInt8).isPrefixOf (s.data.toList.drop i) = decide ((Utf8.decode s i).2 ≠ 1) := by
  have hlen : (s.data.toList.drop i).length = s.size - i := by rw [List.length_drop]; simp
  have hw := fffd_wide (s.size - i) (s.get! i).toNat (s.get! (i + 1)).toNat (s.get! (i + 2)).toNat (s.get! (i + 3)).toNat (s.get! (i + 1)).toNat_lt (by rw [← Lib.decode_at]; exact h)
  rw [← Lib.decode_at] at hw
  rw [Bool.eq_iff_iff, decide_eq_true_eq, hw]
  have g0 := get_drop s i 0
  have g1 := get_drop s i 1
  have g2 := get_drop s i 2
  rcases hL : s.data.toList.drop i with _ | ⟨x, _ | ⟨y, _ | ⟨z, t⟩⟩⟩
  · rw [hL] at hlen; simp only [List.length_nil] at hlen; omega
  · rw [hL] at hlen; simp only [List.length_cons, List.length_nil] at hlen
    simp [List.isPrefixOf]; omega
  · rw [hL] at hlen; simp only [List.length_cons, List.length_nil] at hlen
    simp [List.isPrefixOf]; omega
  · rw [hL] at hlen g0 g1 g2
    simp only [List.length_cons] at hlen
    have e0 : s.get! i = x := g0 x rfl
    have e1 : s.get! (i + 1) = y := g1 y rfl
    have e2 : s.get! (i + 2) = z := g2 z rfl
    rw [e0, e1, e2]
    have u : ∀ (a b : UInt8), (a == b) = true ↔ b.toNat = a.toNat := fun a b => by rw [beq_iff_eq, ← UInt8.toNat_inj]; exact eq_comm
    simp only [List.isPrefixOf, Bool.and_eq_true, u, and_true]
    constructor
    · rintro ⟨h0, h1, h2⟩; exact ⟨by omega, h0, h1, h2⟩
    · rintro ⟨_, h0, h1, h2⟩; exact ⟨h0, h1, h2⟩
theorem rawB_bad {s : ByteArray} {i : Nat} (hi : i < s.size) (h : (atP s i).2 = 0) : rawB s i (Utf8.decode s i).1 = true ∧ (Utf8.decode s i).1 = 65533 := by
  rcases atP_cases s i hi with ⟨_, h1, h2⟩ | ⟨h1, h2⟩
  · refine ⟨?_, h1⟩
    rw [rawB, raw_of s i hi h1, h1, h2]
    rfl
  · rw [h1] at h; omega
theorem rawB_good {s : ByteArray} {i : Nat} (hi : i < s.size) (h : (atP s i).2 ≠ 0) : rawB s i (Utf8.decode s i).1 = false ∧ atP s i = Utf8.decode s i := by
  rcases atP_cases s i hi with ⟨h0, _⟩ | ⟨h1, h2⟩
  · exact absurd h0 h
  · refine ⟨?_, h1⟩
    unfold rawB
    by_cases hc : (Utf8.decode s i).1 = 65533
    · have hb : (Utf8.decode s i).2 ≠ 1 := by
        intro hb
        unfold atP at h
        rw [if_pos hi, if_pos ⟨hc, hb⟩] at h
        exact h rfl
      rw [raw_of s i hi hc, decide_eq_true hb]
      simp
    · have : decide (((Utf8.decode s i).1 : Int) = 65533) = false := by simp; omega
      rw [this]
      rfl

/-- A byte that is a digit. -/
theorem at_digit (s : ByteArray) (i : Nat) (hi : i < s.size) : ((atP s i).2 ≠ 0 ∧ digitB (atP s i).1 = true) ↔ 48 ≤ (s.get! i).toNat ∧ (s.get! i).toNat ≤ 57 := by
  constructor
  · rintro ⟨h0, hd⟩
    have hd2 := of_decide_eq_true hd
    have := atP_small s i hi h0 (by omega)
    omega
  · rintro ⟨h1, h2⟩
    rw [atP_one s i hi (by omega)]
    refine ⟨by simp, ?_⟩
    simp [digitB]
    omega
theorem runTo_stop (s : ByteArray) (dg : Bool) (i : Nat) (h : i < s.size → (atP s i).2 = 0 ∨ stopB dg (atP s i).1 = true) : runTo s dg i = (i, 0) := runEnd_stop s dg _ i 0 h
/-- Where the run ends there is no rune of it. -/
theorem runEnd_behind (s : ByteArray) (dg : Bool) : ∀ (f i n : Nat), i ≤ s.size → s.size ≤ i + f → (runEnd s dg f i n).1 < s.size → (atP s (runEnd s dg f i n).1).2 ≠ 0 → stopB dg (atP s (runEnd s dg f i n).1).1 = true := by
  intro f
  induction f with
  | zero => intro i n h1 h2 h3; rw [runEnd] at h3; simp only at h3; omega
  | succ f ih =>
    intro i n h1 h2 h3 h4
    rw [runEnd] at h3 h4 ⊢
    by_cases hlt : i < s.size
    · rw [if_pos hlt] at h3 h4 ⊢
      by_cases hs : (atP s i).2 = 0 ∨ stopB dg (atP s i).1 = true
      · rw [if_pos hs] at h3 h4 ⊢
        exact hs.resolve_left h4
      · rw [if_neg hs] at h3 h4 ⊢
        have hw : (atP s i).2 ≠ 0 := fun e => hs (.inl e)
        exact ih _ _ (atP_le s i hlt) (by omega) h3 h4
    · rw [if_neg hlt] at h3
      exact absurd h3 hlt
theorem numLen_iff (s : ByteArray) (i : Nat) (hi : i < s.size) : 0 < numLen s i ↔ ((s.get! i).toNat = 45 ∧ behindB s i = true) ∨ (48 ≤ (s.get! i).toNat ∧ (s.get! i).toNat ≤ 57) := by
  have h1 := headOf_le s i hi
  have h2 := runTo_le s true (headOf s i) h1.2.2
  have key : ∀ h, h ≤ s.size → (h < (runTo s true h).1 ↔ h < s.size ∧ 48 ≤ (s.get! h).toNat ∧ (s.get! h).toNat ≤ 57) := by
    intro h hh
    constructor
    · intro hlt
      have hs : h < s.size := by have := runTo_le s true h hh; omega
      refine ⟨hs, (at_digit s h hs).1 ?_⟩
      by_cases h0 : (atP s h).2 = 0
      · rw [runTo_stop s true h (fun _ => .inl h0)] at hlt; simp only at hlt; omega
      · refine ⟨h0, ?_⟩
        cases hd : digitB ((atP s h).1 : Int)
        · rw [runTo_stop s true h (fun _ => .inr (by simp [stopB, hd]))] at hlt; simp only at hlt; omega
        · rfl
    · rintro ⟨hs, hd⟩
      obtain ⟨h0, hd⟩ := (at_digit s h hs).2 hd
      unfold runTo
      obtain ⟨q, hq⟩ : ∃ q, s.size = q + 1 := ⟨s.size - 1, by omega⟩
      rw [hq, runEnd, if_pos hs, if_neg (by simp [stopB, hd]; omega)]
      have := (runEnd_le s true q (h + (atP s h).2) (0 + 1) (atP_le s h hs)).1
      omega
  have k2 := key (headOf s i) h1.2.2
  have hnl : 0 < numLen s i ↔ headOf s i < (runTo s true (headOf s i)).1 := by
    unfold numLen
    split <;> omega
  rw [hnl, k2]
  unfold headOf
  by_cases h45 : (s.get! i).toNat = 45
  · rw [if_pos h45]
    unfold behindB digitB
    simp only [Bool.and_eq_true, decide_eq_true_eq]
    omega
  · rw [if_neg h45]
    omega
end Go.Proofs.YthiipgahbmoiiaaGreatDoor
