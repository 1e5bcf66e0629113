/-
  Words that are read can be shown, but for numbers that are written oddly; how long what is shown is (plainly). No condition beyond those that each theorem states.
-/
import Derived.Test.YtfnmkgfaoacnpaaDoorBackG
namespace Go.Proofs.YtfnmkgfaoacnpaaDoor

def oddB (t : ByteArray) : Bool := decide (1 < t.size) && (decide (t.get! 0 = 48) || (decide (t.get! 0 = 45) && decide (t.get! 1 = 48)))
def goodB (x : Wd) : Prop := canB x = true ∨ x.k = 2 ∧ oddB x.t = true
theorem run_rname {t s : ByteArray} {i : Nat} (h : Sub t s i) : ∀ (g f k n m : Nat), t.size ≤ k + g → k ≤ t.size → runEnd s false f (i + k) n = (i + t.size, m) → m ≤ 16 → (n = 0 → k < t.size ∧ letterB ((atP s (i + k)).1 : Int) = true) → rnameGo t g k n = true := by
  have hfit := h.fits
  have base : ∀ (f n m : Nat), runEnd s false f (i + t.size) n = (i + t.size, m) → m ≤ 16 → (n = 0 → False) → decide (1 ≤ n ∧ n ≤ 16) = true := fun f n m hr hm hn => by
    have : m = n := by
      cases f with
      | zero => rw [runEnd] at hr; exact (congrArg Prod.snd hr).symm
      | succ f =>
        rw [runEnd] at hr
        split at hr
        · rename_i hlt
          split at hr
          · exact (congrArg Prod.snd hr).symm
          · rename_i hc
            have hle := atP_le s (i + t.size) hlt
            have := runEnd_le s false f _ (n + 1) hle
            rw [hr] at this
            have h0 : (atP s (i + t.size)).2 ≠ 0 := fun h0 => hc (.inl h0)
            simp only at this
            omega
        · exact (congrArg Prod.snd hr).symm
    have hn' : n ≠ 0 := hn
    exact decide_eq_true (by omega)
  intro g
  induction g with
  | zero =>
    intro f k n m h1 h2 hr hm hn
    have : k = t.size := by omega
    subst this
    rw [rnameGo]
    exact base f n m hr hm (fun h0 => by have := (hn h0).1; omega)
  | succ g ih =>
    intro f k n m h1 h2 hr hm hn
    by_cases hlt : k < t.size
    · cases f with
      | zero =>
        rw [runEnd] at hr
        have := congrArg Prod.fst hr
        simp only at this
        omega
      | succ f =>
        rw [runEnd, if_pos (by omega)] at hr
        split at hr
        · have := congrArg Prod.fst hr
          simp only at this
          omega
        · rename_i hc
          have h0 : (atP s (i + k)).2 ≠ 0 := fun h0 => hc (.inl h0)
          have hst : ¬ stopB false ((atP s (i + k)).1 : Int) = true := fun h0 => hc (.inr h0)
          have hle := atP_le s (i + k) (by omega)
          have hre := (runEnd_le s false f _ (n + 1) hle).1
          rw [hr] at hre
          simp only at hre
          have hat := atP_back h k h0 (by omega)
          rw [rnameGo, if_pos hlt, hat, if_pos]
          · refine ih f _ _ m (by omega) (by omega) (by rw [← Nat.add_assoc]; exact hr) hm (fun h0 => by omega)
          · refine ⟨h0, ?_⟩
            by_cases hn0 : n = 0
            · rw [(hn hn0).2]; rfl
            · unfold stopB at hst
              rw [decide_eq_true (show 0 < n by omega)]
              cases hl : letterB ((atP s (i + k)).1 : Int)
              · rw [hl] at hst
                cases hdg : digitB ((atP s (i + k)).1 : Int)
                · rw [hdg] at hst; exact absurd rfl hst
                · rfl
              · rfl
    · have : k = t.size := by omega
      subst this
      rw [rnameGo_end _ _ _ _ hlt]
      exact base f n m hr hm (fun h0 => by have := (hn h0).1; omega)
theorem list_of_get (t : ByteArray) : t.data.toList = (List.range t.size).map (fun i => t.get! i) := by
  apply List.ext_getElem?
  intro k
  by_cases hk : k < t.size
  · rw [get_data t k hk, List.getElem?_map, List.getElem?_range hk]; rfl
  · rw [List.getElem?_eq_none (by have e1 : t.data.size = t.size := rfl; simp; omega), List.getElem?_eq_none (by simp; omega)]
theorem ofNat_back (b : UInt8) (h : 48 ≤ b.toNat) : UInt8.ofNat (48 + (b.toNat - 48)) = b := by
  have : 48 + (b.toNat - 48) = b.toNat := by omega
  rw [this]
  simp
theorem digits_back (t : ByteArray) (k0 : Nat) (h0 : valT t k0 = 0) : ∀ m, (∀ i, i < m + 1 → 48 ≤ (t.get! (k0 + i)).toNat ∧ (t.get! (k0 + i)).toNat ≤ 57) → (t.get! k0 ≠ 48 ∨ m = 0) →
    ∃ u : Nat, valT t (k0 + (m + 1)) = u ∧ Lib.decDigits u = (List.range (m + 1)).map (fun i => t.get! (k0 + i)) ∧ (t.get! k0 ≠ 48 → 1 ≤ u) := by
  intro m
  induction m with
  | zero =>
    intro hd _
    have h1 := hd 0 (by omega)
    rw [Nat.add_zero] at h1
    refine ⟨(t.get! k0).toNat - 48, ?_, ?_, fun hne => ?_⟩
    · show valT t (k0 + 1) = _
      rw [valT, if_neg (by omega), h0]
      omega
    · rw [Lib.decDigits_one (by omega), ofNat_back _ h1.1]
      simp
    · have : (t.get! k0).toNat ≠ 48 := fun e => hne (UInt8.toNat_inj.1 e)
      omega
  | succ m ih =>
    intro hd hz
    have hne : t.get! k0 ≠ 48 := by
      rcases hz with h | h
      · exact h
      · omega
    obtain ⟨u, e1, e2, e3⟩ := ih (fun i hi => hd i (by omega)) (.inl hne)
    have hu := e3 hne
    have h1 := hd (m + 1) (by omega)
    refine ⟨10 * u + ((t.get! (k0 + (m + 1))).toNat - 48), ?_, ?_, fun _ => by omega⟩
    · rw [← Nat.add_assoc, valT, e1, if_neg (by omega)]
      omega
    · rw [Lib.decDigits, dif_neg (by omega)]
      have a1 : (10 * u + ((t.get! (k0 + (m + 1))).toNat - 48)) / 10 = u := by omega
      have a2 : (10 * u + ((t.get! (k0 + (m + 1))).toNat - 48)) % 10 = (t.get! (k0 + (m + 1))).toNat - 48 := by omega
      rw [a1, a2, e2, ofNat_back _ h1.1, List.range_succ (n := m + 1), List.map_append]
      rfl
theorem num_good {s : ByteArray} {i : Nat} (hi : i < s.size) (h : 0 < numLen s i) (hok : valOk (partOf s i (numEnd s i)) = true) (l c : Int) : goodB ⟨2, partOf s i (numEnd s i), valN (partOf s i (numEnd s i)), l, c⟩ := by
  obtain ⟨he, hlt⟩ := numEnd_eq s i hi h
  have hh := headOf_le s i hi
  have hle := numLen_le s i hi
  have hle' : numEnd s i ≤ s.size := hle
  have hS : Sub (partOf s i (numEnd s i)) s i := sub_part (by omega) hle'
  have hz := part_size s i (numEnd s i) hle'
  have hdig : ∀ k, headOf s i - i ≤ k → k < (partOf s i (numEnd s i)).size → 48 ≤ ((partOf s i (numEnd s i)).get! k).toNat ∧ ((partOf s i (numEnd s i)).get! k).toNat ≤ 57 := fun k h1 h2 => by
    rw [← hS.same k h2]
    exact runEnd_digits s _ _ _ hh.2.2 (i + k) (by omega) (by have : i + k < (runTo s true (headOf s i)).1 := by omega
                                                              exact this)
  have hmin : headOf s i = i + 1 → ((partOf s i (numEnd s i)).get! 0).toNat = 45 := fun e => by
    rw [← hS.same 0 (by omega), Nat.add_zero]
    unfold headOf at e
    split at e
    · assumption
    · omega
  generalize partOf s i (numEnd s i) = t at *
  obtain ⟨m, hm⟩ : ∃ m, t.size = (headOf s i - i) + (m + 1) := ⟨t.size - (headOf s i - i) - 1, by omega⟩
  have hbd := of_decide_eq_true hok
  by_cases hodd : oddB t = true
  · exact .inr ⟨rfl, hodd⟩
  left
  have hcase : headOf s i - i = 0 ∨ headOf s i = i + 1 := by omega
  unfold canB
  simp only
  rw [if_neg (by decide), if_pos trivial]
  rcases hcase with h0 | h1
  · rw [h0] at hm hdig
    have hd0 := hdig 0 (by omega) (by omega)
    have hnz : t.get! 0 ≠ 48 ∨ m = 0 := by
      by_cases hm0 : m = 0
      · exact .inr hm0
      · left
        intro e
        apply hodd
        unfold oddB
        rw [decide_eq_true (show 1 < t.size by omega), e]
        rfl
    obtain ⟨u, e1, e2, _⟩ := digits_back t 0 rfl m (fun k hk => hdig (0 + k) (by omega) (by omega)) hnz
    rw [← hm] at e1
    rw [e1] at hbd
    have hv : valN t = u := by unfold valN; rw [if_pos hok, if_neg (by omega), e1]
    rw [hv]
    have ht : t = ⟨(Lib.itoa (u : Int)).toArray⟩ := by
      apply ByteArray.ext
      apply Array.toList_inj.1
      rw [list_of_get t, hm, Lib.itoa_nonneg, e2]
      simp
    rw [Bool.and_eq_true]
    exact ⟨decide_eq_true (by omega), decide_eq_true ht⟩
  · have h1' : headOf s i - i = 1 := by omega
    rw [h1'] at hm hdig
    have h45 := hmin h1
    have h45' : t.get! 0 = 45 := UInt8.toNat_inj.1 h45
    have hnz : t.get! 1 ≠ 48 := by
      intro e
      apply hodd
      unfold oddB
      rw [decide_eq_true (show 1 < t.size by omega), h45', e]
      rfl
    have hv1 : valT t 1 = 0 := by rw [valT, if_pos h45]; rfl
    obtain ⟨u, e1, e2, e3⟩ := digits_back t 1 hv1 m (fun k hk => hdig (1 + k) (by omega) (by omega)) (.inl hnz)
    have hu := e3 hnz
    rw [← hm] at e1
    rw [e1] at hbd
    have hv : valN t = -(u : Int) := by unfold valN; rw [if_pos hok, if_pos h45, e1]
    rw [hv]
    have ht : t = ⟨(Lib.itoa (-(u : Int))).toArray⟩ := by
      apply ByteArray.ext
      apply Array.toList_inj.1
      rw [list_of_get t, hm, Lib.itoa_neg u hu, e2, Nat.add_comm 1 (m + 1), List.range_succ_eq_map, List.map_cons, h45', List.map_map]
      congr 1
      apply List.map_congr_left
      intro k _
      show t.get! (k + 1) = t.get! (1 + k)
      rw [Nat.add_comm]
    rw [Bool.and_eq_true]
    exact ⟨decide_eq_true (by omega), decide_eq_true ht⟩
theorem name_good {s : ByteArray} {i : Nat} (hi : i < s.size) (h0 : (atP s i).2 ≠ 0) (hl : letterB ((atP s i).1 : Int) = true) (hm : ¬ 16 < (runTo s false i).2) (l c : Int) : goodB ⟨1, partOf s i (runTo s false i).1, 0, l, c⟩ := by
  left
  unfold canB
  simp only
  rw [if_pos trivial, Bool.and_eq_true]
  refine ⟨rfl, ?_⟩
  rw [nameB_same]
  have hr := runTo_le s false i (by omega)
  have hS : Sub (partOf s i (runTo s false i).1) s i := sub_part hr.1 hr.2.1
  have hz := part_size s i (runTo s false i).1 hr.2.1
  have hpos : i < (runTo s false i).1 := by
    unfold runTo
    obtain ⟨q, hq⟩ : ∃ q, s.size = q + 1 := ⟨s.size - 1, by omega⟩
    rw [hq, runEnd, if_pos hi, if_neg (by simp [stopB, hl]; omega)]
    have := (runEnd_le s false q (i + (atP s i).2) (0 + 1) (atP_le s i hi)).1
    omega
  refine run_rname hS _ s.size 0 0 (runTo s false i).2 (by omega) (by omega) ?_ (by omega) (fun _ => ⟨by omega, hl⟩)
  show runTo s false i = _
  rw [hz]
  exact Prod.ext (by show (runTo s false i).1 = _; omega) rfl
theorem sign_good {s : ByteArray} {i : Nat} (hi : i < s.size) (h0 : (atP s i).2 ≠ 0) (hg : signB ((atP s i).1 : Int) = true) (l c : Int) : goodB ⟨3, partOf s i (i + (atP s i).2), 0, l, c⟩ := by
  left
  unfold canB
  simp only
  rw [if_neg (by decide), if_neg (by decide), if_pos trivial, Bool.and_eq_true]
  refine ⟨rfl, ?_⟩
  have hle := atP_le s i hi
  have hS : Sub (partOf s i (i + (atP s i).2)) s i := sub_part (by omega) hle
  have hz := part_size s i (i + (atP s i).2) hle
  have hat := atP_back hS 0 h0 (by rw [Nat.add_zero]; omega)
  rw [Nat.add_zero] at hat
  rw [isSignB_ref, hat, hg, decide_eq_true (show 0 < (atP s i).2 by omega), decide_eq_true (show (atP s i).2 = (partOf s i (i + (atP s i).2)).size by omega)]
  rfl
def sizes (ws : List Wd) : Nat := (ws.map (fun x => x.t.size)).sum
theorem sizes_snoc (ws : List Wd) (x : Wd) : sizes (ws ++ [x]) = sizes ws + x.t.size := by simp [sizes]
theorem go_good (s : ByteArray) : ∀ (f i : Nat) (out : List Wd) (l c : Int) (r : Bool), (∀ x ∈ out, goodB x) → sizes out ≤ i → i ≤ s.size → (∀ x ∈ (refGo s f out l c r i).1, goodB x) ∧ sizes (refGo s f out l c r i).1 ≤ s.size := by
  intro f
  induction f with
  | zero => intro i out l c r h h1 h2; rw [refGo]; exact ⟨h, by simp only; omega⟩
  | succ f ih =>
    intro i out l c r h h1 h2
    have more : ∀ y : Wd, goodB y → ∀ x ∈ out ++ [y], goodB x := by
      intro y hy x hx
      rcases List.mem_append.1 hx with hx | hx
      · exact h x hx
      · simp at hx; subst hx; exact hy
    have hnil : (∀ x ∈ ([] : List Wd), goodB x) ∧ sizes [] ≤ s.size := ⟨by simp, by simp [sizes]⟩
    rw [refGo]
    by_cases hlt : i < s.size
    · rw [if_pos hlt]
      have hal := atP_le s i hlt
      split
      · exact hnil
      rename_i h0
      split
      · exact ih _ _ _ _ _ (more _ (.inl (by simp [canB, noText]))) (by rw [sizes_snoc]; have e0 : noText.size = 0 := rfl; simp only [e0]; omega) (by omega)
      split
      · exact ih _ _ _ _ _ h (by omega) hal
      split
      · rename_i hz
        have hle := numLen_le s i hlt
        have hle' : numEnd s i ≤ s.size := hle
        have hzz := part_size s i (numEnd s i) hle'
        split
        · rename_i hok
          split
          · exact hnil
          · refine ih _ _ _ _ _ (more _ (num_good hlt hz hok _ _)) ?_ hle'
            rw [sizes_snoc]
            simp only
            have : i ≤ numEnd s i := by unfold numEnd; omega
            omega
        · exact hnil
      split
      · rename_i hl
        split
        · exact hnil
        · rename_i h16
          have hr := runTo_le s false i h2
          have hzz := part_size s i (runTo s false i).1 hr.2.1
          refine ih _ _ _ _ _ (more _ (name_good hlt h0 hl h16 _ _)) ?_ hr.2.1
          rw [sizes_snoc]
          simp only
          omega
      split
      · rename_i hg
        have hzz := part_size s i (i + (atP s i).2) hal
        refine ih _ _ _ _ _ (more _ (sign_good hlt h0 hg _ _)) ?_ hal
        rw [sizes_snoc]
        simp only
        omega
      · exact hnil
    · rw [if_neg hlt]
      exact ⟨h, by simp only; omega⟩
theorem read_good (s : ByteArray) : (∀ x ∈ readWords s, goodB x) ∧ sizes (readWords s) ≤ s.size := by
  have h := go_good s s.size 0 [] 1 1 false (by simp) (by simp [sizes]) (by omega)
  have e := read_eq s
  unfold refRead at e
  rw [e] at h
  exact h
/-- A text has no more words than bytes. -/
theorem go_len (s : ByteArray) : ∀ (f i : Nat) (out : List Wd) (l c : Int) (r : Bool), out.length ≤ i → i ≤ s.size → (refGo s f out l c r i).1.length ≤ s.size := by
  intro f
  induction f with
  | zero => intro i out l c r h1 h2; rw [refGo]; simp only; omega
  | succ f ih =>
    intro i out l c r h1 h2
    rw [refGo]
    by_cases hlt : i < s.size
    · rw [if_pos hlt]
      have hal := atP_le s i hlt
      by_cases hm : (atP s i).2 = 0
      · rw [if_pos hm]; simp
      rw [if_neg hm]
      split
      · exact ih _ _ _ _ _ (by simp; omega) (by omega)
      split
      · exact ih _ _ _ _ _ (by omega) hal
      split
      · rename_i hz
        have hle := numLen_le s i hlt
        split
        · split
          · simp
          · exact ih _ _ _ _ _ (by unfold numEnd; simp; omega) hle
        · simp
      split
      · rename_i hl
        split
        · simp
        · have hr := runTo_le s false i h2
          have hpos : i < (runTo s false i).1 := by
            unfold runTo
            obtain ⟨q, hq⟩ : ∃ q, s.size = q + 1 := ⟨s.size - 1, by omega⟩
            rw [hq, runEnd, if_pos hlt, if_neg (by simp [stopB, hl]; omega)]
            have := (runEnd_le s false q (i + (atP s i).2) (0 + 1) hal).1
            omega
          exact ih _ _ _ _ _ (by simp; omega) hr.2.1
      split
      · exact ih _ _ _ _ _ (by simp; omega) hal
      · simp
    · rw [if_neg hlt]
      simp only
      omega
theorem read_len (s : ByteArray) : (readWords s).length ≤ s.size := by
  have h := go_len s s.size 0 [] 1 1 false (by simp) (by omega)
  have e := read_eq s
  unfold refRead at e
  rw [e] at h
  exact h
theorem shownL_size (ws : List Wd) : ∀ b, (shownL b ws).length ≤ sizes ws + ws.length := by
  induction ws with
  | nil => intro b; simp [shownL]
  | cons x r ih =>
    intro b
    have e : sizes (x :: r) = x.t.size + sizes r := by simp [sizes]
    have e1 : x.t.data.toList.length = x.t.size := by simp
    rw [shownL, e, List.length_cons]
    split
    · have := ih false
      simp
      omega
    · have := ih true
      cases b <;> simp <;> (try omega)
theorem showText_size (ws : List Wd) : (showText ws).size ≤ sizes ws + ws.length := by
  unfold showText
  cases hg : showGo ws false [] with
  | none => exact Nat.zero_le _
  | some l =>
    obtain ⟨h1, _⟩ := showGo_eq ws false [] l hg
    have := shownL_size ws false
    show l.toArray.size ≤ _
    rw [h1]
    simpa using this
theorem showErr_cases (ws : List Wd) : showErr ws = 0 ∨ showErr ws = 2 ∧ ∃ x ∈ ws, canB x = false := by
  have key : ∀ (l : List Wd) (b : Bool) (out : List UInt8), showGo l b out = none → ∃ x ∈ l, canB x = false := by
    intro l
    induction l with
    | nil => intro b out h; cases h
    | cons x r ih =>
      intro b out h
      rw [showGo] at h
      by_cases hc : canB x = false
      · exact ⟨x, by simp, hc⟩
      · rw [if_neg hc] at h
        split at h
        · obtain ⟨y, hy, hy2⟩ := ih _ _ h
          exact ⟨y, by simp [hy], hy2⟩
        · obtain ⟨y, hy, hy2⟩ := ih _ _ h
          exact ⟨y, by simp [hy], hy2⟩
  unfold showErr
  cases hg : showGo ws false [] with
  | none => exact .inr ⟨rfl, key ws false [] hg⟩
  | some l => exact .inl rfl
/-- What is read and can't be shown has a number that is written oddly. -/
theorem read_odd (s : ByteArray) (h : showErr (readWords s) ≠ 0) : ∃ x ∈ readWords s, x.k = 2 ∧ oddB x.t = true := by
  rcases showErr_cases (readWords s) with h0 | ⟨_, x, hx, hc⟩
  · exact absurd h0 h
  · rcases (read_good s).1 x hx with h1 | h1
    · rw [h1] at hc; cases hc
    · exact ⟨x, hx, h1⟩
end Go.Proofs.YtfnmkgfaoacnpaaDoor
