/-
  Words that are shown are read again: the same, but for their places (plainly). No condition beyond those that each theorem states.
-/
import Derived.Test.YtkfplffcegbdfaaDoorBackM
namespace Go.Proofs.YtkfplffcegbdfaaDoor

def shownL : Bool → List Wd → List UInt8
  | _, [] => []
  | b, x :: r => if x.k = 4 then 10 :: shownL false r else (if b then [32] else []) ++ (x.t.data.toList ++ shownL true r)
theorem showGo_eq (ws : List Wd) : ∀ (b : Bool) (out l : List UInt8), showGo ws b out = some l → l = out ++ shownL b ws ∧ ∀ x ∈ ws, canB x = true := by
  induction ws with
  | nil =>
    intro b out l h
    simp only [showGo, Option.some.injEq] at h
    exact ⟨by simp [shownL, h], by simp⟩
  | cons x r ih =>
    intro b out l h
    rw [showGo] at h
    by_cases hc : canB x = false
    · rw [if_pos hc] at h; cases h
    · rw [if_neg hc] at h
      have hc : canB x = true := by simpa using hc
      by_cases h4 : x.k = 4
      · rw [if_pos h4] at h
        obtain ⟨h1, h2⟩ := ih _ _ _ h
        refine ⟨?_, fun y hy => ?_⟩
        · rw [h1, shownL, if_pos h4]; simp
        · rcases List.mem_cons.1 hy with rfl | hy
          · exact hc
          · exact h2 y hy
      · rw [if_neg h4] at h
        obtain ⟨h1, h2⟩ := ih _ _ _ h
        refine ⟨?_, fun y hy => ?_⟩
        · rw [h1, shownL, if_neg h4]; cases b <;> simp
        · rcases List.mem_cons.1 hy with rfl | hy
          · exact hc
          · exact h2 y hy
def key (x : Wd) : Int × ByteArray × Int := (x.k, x.t, x.n)
theorem drop_cons {s : ByteArray} {j : Nat} {b : UInt8} {r : List UInt8} (h : s.data.toList.drop j = b :: r) : j < s.size ∧ s.get! j = b ∧ s.data.toList.drop (j + 1) = r := by
  have h1 : s.data.toList[j]? = some b := by
    have := List.getElem?_drop (xs := s.data.toList) (i := j) (j := 0)
    rw [h] at this
    simpa using this.symm
  have h2 := get_list h1
  refine ⟨h2.1, h2.2, ?_⟩
  rw [← List.drop_drop, h]
  rfl
theorem drop_more {s : ByteArray} {j : Nat} {a r : List UInt8} (h : s.data.toList.drop j = a ++ r) : s.data.toList.drop (j + a.length) = r := by
  rw [← List.drop_drop, h, List.drop_left]
theorem stops_of {s : ByteArray} {e : Nat} {r : List Wd} (h : s.data.toList.drop e = shownL true r) : Stops s e := by
  intro hlt
  cases r with
  | nil =>
    have := congrArg List.length h
    simp only [List.length_drop, shownL, List.length_nil, Array.length_toList] at this
    have e1 : s.data.size = s.size := rfl
    omega
  | cons x r =>
    rw [shownL] at h
    split at h
    · obtain ⟨_, h2, _⟩ := drop_cons h
      right
      rw [atP_one s e hlt (by rw [h2]; decide), h2]
      rfl
    · simp only [if_true, List.cons_append, List.nil_append] at h
      obtain ⟨_, h2, _⟩ := drop_cons h
      left
      rw [atP_one s e hlt (by rw [h2]; decide), h2]
      rfl
/-- What is no digit and no minus begins no number. -/
theorem numLen_no {s : ByteArray} {j : Nat} (hlt : j < s.size) (h45 : (atP s j).1 ≠ 45) (hd : digitB ((atP s j).1 : Int) = false) : numLen s j = 0 := by
  have hh : headOf s j = j := by
    unfold headOf
    rw [if_neg]
    intro h
    have := atP_one s j hlt (by omega)
    rw [this] at h45
    exact h45 h
  have hr : runTo s true j = (j, 0) := by
    unfold runTo
    exact runEnd_stop s true _ j 0 (fun _ => .inr (by simp [stopB, hd]))
  unfold numLen
  rw [hh, hr]
  simp
theorem canB_name {x : Wd} (h : canB x = true) (hk : x.k = 1) : x.n = 0 ∧ nameB x.t = true := by
  unfold canB at h
  rw [if_pos hk] at h
  simpa using h
theorem canB_num {x : Wd} (h : canB x = true) (hk : x.k = 2) : boundB x.n = true ∧ x.t = ⟨(Lib.itoa x.n).toArray⟩ := by
  unfold canB at h
  rw [if_neg (by omega), if_pos hk] at h
  simpa using h
theorem canB_sign {x : Wd} (h : canB x = true) (hk : x.k = 3) : x.n = 0 ∧ isSignB x.t = true := by
  unfold canB at h
  rw [if_neg (by omega), if_neg (by omega), if_pos hk] at h
  simpa using h
theorem canB_end {x : Wd} (h : canB x = true) (hk : x.k = 4) : x.n = 0 ∧ x.t = ⟨#[]⟩ := by
  unfold canB at h
  rw [if_neg (by omega), if_neg (by omega), if_neg (by omega), if_pos hk] at h
  simpa using h
theorem canB_kind {x : Wd} (h : canB x = true) : x.k = 1 ∨ x.k = 2 ∨ x.k = 3 ∨ x.k = 4 := by
  unfold canB at h
  split at h
  · exact .inl ‹_›
  split at h
  · exact .inr (.inl ‹_›)
  split at h
  · exact .inr (.inr (.inl ‹_›))
  split at h
  · exact .inr (.inr (.inr ‹_›))
  · cases h
theorem rname_head {t : ByteArray} (h : rnameB t = true) : 0 < t.size ∧ (atP t 0).2 ≠ 0 ∧ letterB ((atP t 0).1 : Int) = true := by
  unfold rnameB at h
  cases hz : t.size with
  | zero => rw [hz] at h; simp [rnameGo] at h
  | succ g =>
    rw [hz, rnameGo, if_pos (by omega)] at h
    split at h
    · rename_i hc
      exact ⟨by omega, hc.1, by simpa using hc.2⟩
    · cases h
theorem tok_name {s : ByteArray} {x : Wd} {r : List Wd} (hx : canB x = true) (hk : x.k = 1) (f j : Nat) (out : List Wd) (l c : Int) (hj : j ≤ s.size) (hd : s.data.toList.drop j = x.t.data.toList ++ shownL true r) (hf : s.size ≤ j + f) :
    ∃ (y : Wd) (f' : Nat) (l' c' : Int), refGo s f out l c false j = refGo s f' (out ++ [y]) l' c' false (j + x.t.size) ∧ key y = key x ∧ s.size ≤ j + x.t.size + f' := by
  have hS := sub_of_drop hj hd
  have hfit := hS.fits
  obtain ⟨hn, hb⟩ := canB_name hx hk
  rw [nameB_same] at hb
  obtain ⟨hpos, h0, hl⟩ := rname_head hb
  have hst : Stops s (j + x.t.size) := stops_of (r := r) (by have := drop_more hd; simpa using this)
  have hat : atP s j = atP x.t 0 := atP_shift hS 0 h0
  have hlr : (97 : Int) ≤ ((atP s j).1 : Int) ∧ ((atP s j).1 : Int) ≤ 122 ∨ 945 ≤ ((atP s j).1 : Int) ∧ ((atP s j).1 : Int) ≤ 969 ∨ ((atP s j).1 : Int) = 95 := by rw [hat]; exact of_decide_eq_true hl
  have hdg : digitB ((atP s j).1 : Int) = false := by unfold digitB; exact decide_eq_false (by omega)
  have hlt : j < s.size := by omega
  obtain ⟨f, rfl⟩ : ∃ f', f = f' + 1 := ⟨f - 1, by omega⟩
  have hnl := numLen_no hlt (by omega) hdg
  obtain ⟨m, hm, hm1, hm2⟩ := run_name hS hst x.t.size s.size 0 0 (by omega) (by omega) (by omega) hb
  have hr : runTo s false j = (j + x.t.size, m) := hm
  refine ⟨⟨1, partOf s j (j + x.t.size), 0, l, c⟩, f, l, c + m, ?_, ?_, by omega⟩
  · rw [refGo, if_pos hlt, if_neg (by rw [hat]; exact h0), if_neg (by omega), if_neg (by simp; omega), if_neg (by rw [hnl]; omega), if_pos (by rw [hat]; exact hl), hr, if_neg (by omega)]
  · unfold key
    rw [part_sub hS, hk, hn]
theorem tok_sign {s : ByteArray} {x : Wd} {r : List Wd} (hx : canB x = true) (hk : x.k = 3) (f j : Nat) (out : List Wd) (l c : Int) (hj : j ≤ s.size) (hd : s.data.toList.drop j = x.t.data.toList ++ shownL true r) (hf : s.size ≤ j + f) :
    ∃ (y : Wd) (f' : Nat) (l' c' : Int), refGo s f out l c false j = refGo s f' (out ++ [y]) l' c' false (j + x.t.size) ∧ key y = key x ∧ s.size ≤ j + x.t.size + f' := by
  have hS := sub_of_drop hj hd
  have hfit := hS.fits
  obtain ⟨hn, hb⟩ := canB_sign hx hk
  rw [isSignB_ref] at hb
  simp only [Bool.and_eq_true, decide_eq_true_eq] at hb
  obtain ⟨⟨h0, hw⟩, hsg⟩ := hb
  have hat : atP s j = atP x.t 0 := atP_shift hS 0 (by omega)
  rw [← hat] at h0 hw hsg
  have hsr := of_decide_eq_true hsg
  have hdg : digitB ((atP s j).1 : Int) = false := by unfold digitB; exact decide_eq_false (by omega)
  have hlr : letterB ((atP s j).1 : Int) = false := by unfold letterB; exact decide_eq_false (by omega)
  have hlt : j < s.size := by omega
  obtain ⟨f, rfl⟩ : ∃ f', f = f' + 1 := ⟨f - 1, by omega⟩
  have hnl := numLen_no hlt (by omega) hdg
  refine ⟨⟨3, partOf s j (j + x.t.size), 0, l, c⟩, f, l, c + 1, ?_, ?_, by omega⟩
  · rw [refGo, if_pos hlt, if_neg (by omega), if_neg (by omega), if_neg (by simp; omega), if_neg (by rw [hnl]; omega), if_neg (by rw [hlr]; decide), if_pos hsg, hw]
  · unfold key
    rw [part_sub hS, hk, hn]
/-- A number's numeral: where its digits begin, its digits, its value. -/
theorem itoa_text (n : Int) (t : ByteArray) (ht : t = ⟨(Lib.itoa n).toArray⟩) : ∃ (h m : Nat), h ≤ 1 ∧ 0 < m ∧ t.size = h + m ∧ valT t t.size = (n.natAbs : Int) ∧ (h = 1 → (t.get! 0).toNat = 45 ∧ n < 0) ∧ (h = 0 → 0 ≤ n) ∧ ∀ i, i < m → 48 ≤ (t.get! (h + i)).toNat ∧ (t.get! (h + i)).toNat ≤ 57 := by
  by_cases hn : n < 0
  · have hi : Lib.itoa n = 45 :: Lib.decDigits n.natAbs := by unfold Lib.itoa; rw [if_pos hn]
    have hg : ∀ k b, (Lib.itoa n)[k]? = some b → t.get! k = b := fun k b hk => by
      refine (get_list (s := t) (k := k) ?_).2
      rw [ht]
      exact hk
    have h0 : t.get! 0 = 45 := hg 0 45 (by rw [hi]; rfl)
    have hz : t.size = 1 + (Lib.decDigits n.natAbs).length := by rw [ht]; show (Lib.itoa n).toArray.size = _; rw [hi]; simp; omega
    have hv : valT t 1 = 0 := by rw [valT, h0, if_pos (by decide)]; rfl
    obtain ⟨hV, hD⟩ := valT_digits t n.natAbs 1 hv (fun i b hb => hg _ b (by rw [hi, Nat.add_comm]; exact hb))
    refine ⟨1, _, Nat.le_refl _, decDigits_ne n.natAbs, hz, by rw [hz]; exact hV, fun _ => ⟨by rw [h0]; rfl, hn⟩, fun h => by omega, hD⟩
  · have hi : Lib.itoa n = Lib.decDigits n.natAbs := by unfold Lib.itoa; rw [if_neg hn]; congr 1; omega
    have hg : ∀ k b, (Lib.itoa n)[k]? = some b → t.get! k = b := fun k b hk => by
      refine (get_list (s := t) (k := k) ?_).2
      rw [ht]
      exact hk
    have hz : t.size = 0 + (Lib.decDigits n.natAbs).length := by rw [ht]; show (Lib.itoa n).toArray.size = _; rw [hi]; simp
    obtain ⟨hV, hD⟩ := valT_digits t n.natAbs 0 rfl (fun i b hb => hg _ b (by rw [hi, Nat.zero_add]; exact hb))
    exact ⟨0, _, by omega, decDigits_ne n.natAbs, hz, by rw [hz]; exact hV, fun h => by omega, fun _ => by omega, hD⟩
theorem tok_num {s : ByteArray} {x : Wd} {r : List Wd} (hx : canB x = true) (hk : x.k = 2) (f j : Nat) (out : List Wd) (l c : Int) (hj : j ≤ s.size) (hd : s.data.toList.drop j = x.t.data.toList ++ shownL true r) (hf : s.size ≤ j + f) :
    ∃ (y : Wd) (f' : Nat) (l' c' : Int), refGo s f out l c false j = refGo s f' (out ++ [y]) l' c' false (j + x.t.size) ∧ key y = key x ∧ s.size ≤ j + x.t.size + f' := by
  have hS := sub_of_drop hj hd
  have hfit := hS.fits
  obtain ⟨hbn, ht⟩ := canB_num hx hk
  have hbn := of_decide_eq_true hbn
  obtain ⟨h, m, h1, hm, hz, hV, hneg, hnn, hD⟩ := itoa_text x.n x.t ht
  have hst : Stops s (j + x.t.size) := stops_of (r := r) (by have := drop_more hd; simpa using this)
  have hlt : j < s.size := by omega
  obtain ⟨f, rfl⟩ : ∃ f', f = f' + 1 := ⟨f - 1, by omega⟩
  have hg0 : s.get! j = x.t.get! 0 := by have := hS.same 0 (by omega); rwa [Nat.add_zero] at this
  have hfirst : (s.get! j).toNat = 45 ∧ h = 1 ∨ 48 ≤ (s.get! j).toNat ∧ (s.get! j).toNat ≤ 57 ∧ h = 0 := by
    rw [hg0]
    rcases (show h = 0 ∨ h = 1 by omega) with rfl | rfl
    · exact .inr ⟨(hD 0 hm).1, (hD 0 hm).2, rfl⟩
    · exact .inl ⟨(hneg rfl).1, rfl⟩
  have hat : atP s j = ((s.get! j).toNat, 1) := atP_one s j hlt (by omega)
  have hh : headOf s j = j + h := by unfold headOf; split <;> omega
  have hrun : runTo s true (j + h) = (j + x.t.size, 0 + m) := by
    unfold runTo
    have := run_digits s m s.size (j + h) 0 (fun k hk => by have := hD k hk; rw [← hS.same (h + k) (by omega)] at this; rw [← Nat.add_assoc] at this; exact this) (by omega) (by rw [show j + h + m = j + x.t.size by omega]; exact hst) (by omega)
    rw [show j + h + m = j + x.t.size by omega] at this
    exact this
  have hnl : numLen s j = x.t.size := by
    unfold numLen
    rw [hh, hrun]
    simp only
    rw [if_neg (by omega)]
    omega
  have hne : numEnd s j = j + x.t.size := by unfold numEnd; rw [hnl]
  have hpart : partOf s j (numEnd s j) = x.t := by rw [hne]; exact part_sub hS
  have hok : valOk x.t = true := by unfold valOk; rw [hV]; exact decide_eq_true (by omega)
  have hval : valN x.t = x.n := by
    unfold valN
    rw [if_pos hok, hV, ← hg0]
    split
    · have : h = 1 := by omega
      have := (hneg this).2
      omega
    · have : h = 0 := by omega
      have := hnn this
      omega
  have hnol : ¬ (0 < (atP s (numEnd s j)).2 ∧ letterB ((atP s (numEnd s j)).1 : Int) = true) := by
    rw [hne]
    rintro ⟨ha, hb⟩
    have hlt2 : j + x.t.size < s.size := atP_lt (by omega)
    rcases hst hlt2 with e | e <;> rw [e] at hb <;> exact absurd hb (by decide)
  refine ⟨⟨2, x.t, x.n, l, c⟩, f, l, c + (numLen s j : Int), ?_, ?_, by omega⟩
  · rw [refGo, if_pos hlt, if_neg (by rw [hat]; simp), if_neg (by rw [hat]; simp only; omega), if_neg (by rw [hat]; simp; omega), if_pos (by rw [hnl]; omega), hpart, if_pos hok, if_neg hnol, hval, hne]
  · unfold key
    rw [hk]
theorem back_go (s : ByteArray) : ∀ (ws : List Wd) (b : Bool) (f j : Nat) (out : List Wd) (l c : Int), j ≤ s.size → s.data.toList.drop j = shownL b ws → (∀ x ∈ ws, canB x = true) → s.size ≤ j + f → ∃ vs : List Wd, refGo s f out l c false j = (out ++ vs, 0, 0, 0) ∧ vs.map key = ws.map key := by
  intro ws
  induction ws with
  | nil =>
    intro b f j out l c hj hd _ hf
    refine ⟨[], ?_, rfl⟩
    have := congrArg List.length hd
    simp only [List.length_drop, shownL, List.length_nil, Array.length_toList] at this
    have e1 : s.data.size = s.size := rfl
    rw [refGo_end s f out l c false j (by omega), List.append_nil]
  | cons x r ih =>
    intro b f j out l c hj hd hcan hf
    have hx := hcan x (by simp)
    have hr : ∀ y ∈ r, canB y = true := fun y hy => hcan y (by simp [hy])
    rw [shownL] at hd
    by_cases h4 : x.k = 4
    · rw [if_pos h4] at hd
      obtain ⟨hlt, hb, hd'⟩ := drop_cons hd
      obtain ⟨f, rfl⟩ : ∃ f', f = f' + 1 := ⟨f - 1, by omega⟩
      have hat : atP s j = (10, 1) := by rw [atP_one s j hlt (by rw [hb]; decide), hb]; rfl
      obtain ⟨vs, h1, h2⟩ := ih false f (j + 1) (out ++ [⟨4, noText, 0, l, c⟩]) (l + 1) 1 (by omega) hd' hr (by omega)
      obtain ⟨e1, e2⟩ := canB_end hx h4
      refine ⟨⟨4, noText, 0, l, c⟩ :: vs, ?_, ?_⟩
      · rw [refGo, if_pos hlt, hat, if_neg (by simp), if_pos rfl, h1]
        simp
      · simp only [List.map_cons, h2]
        unfold key
        rw [h4, e1, e2]
        rfl
    · rw [if_neg h4] at hd
      have tok : ∀ (f j : Nat) (l c : Int), j ≤ s.size → s.data.toList.drop j = x.t.data.toList ++ shownL true r → s.size ≤ j + f → ∃ vs : List Wd, refGo s f out l c false j = (out ++ vs, 0, 0, 0) ∧ vs.map key = (x :: r).map key := by
        intro f j l c hj hd hf
        have hfit := (sub_of_drop hj hd).fits
        have hd2 : s.data.toList.drop (j + x.t.size) = shownL true r := by have := drop_more hd; simpa using this
        have step : ∃ (y : Wd) (f' : Nat) (l' c' : Int), refGo s f out l c false j = refGo s f' (out ++ [y]) l' c' false (j + x.t.size) ∧ key y = key x ∧ s.size ≤ j + x.t.size + f' := by
          rcases canB_kind hx with hk | hk | hk | hk
          · exact tok_name hx hk f j out l c hj hd hf
          · exact tok_num hx hk f j out l c hj hd hf
          · exact tok_sign hx hk f j out l c hj hd hf
          · exact absurd hk h4
        obtain ⟨y, f', l', c', e1, e2, e3⟩ := step
        obtain ⟨vs, h1, h2⟩ := ih true f' (j + x.t.size) (out ++ [y]) l' c' hfit hd2 hr e3
        exact ⟨y :: vs, by rw [e1, h1]; simp, by simp only [List.map_cons, h2, e2]⟩
      cases b with
      | false =>
        simp only [Bool.false_eq_true, if_false, List.nil_append] at hd
        exact tok f j l c hj hd hf
      | true =>
        simp only [if_true, List.cons_append, List.nil_append] at hd
        obtain ⟨hlt, hb, hd'⟩ := drop_cons hd
        obtain ⟨f, rfl⟩ : ∃ f', f = f' + 1 := ⟨f - 1, by omega⟩
        have hat : atP s j = (32, 1) := by rw [atP_one s j hlt (by rw [hb]; decide), hb]; rfl
        obtain ⟨vs, h1, h2⟩ := tok f (j + 1) l (c + 1) (by omega) hd' (by omega)
        refine ⟨vs, ?_, h2⟩
        rw [refGo, if_pos hlt, hat, if_neg (by simp), if_neg (by simp), if_pos (by simp)]
        exact h1
/-- Words that are shown are read: the same, but for their places. -/
theorem shown_read (ws : List Wd) (h : showErr ws = 0) : readErr (showText ws) = 0 ∧ (readWords (showText ws)).map key = ws.map key := by
  unfold showErr at h
  cases hg : showGo ws false [] with
  | none => rw [hg] at h; cases h
  | some l =>
    obtain ⟨h1, h2⟩ := showGo_eq ws false [] l hg
    have ht : showText ws = ⟨l.toArray⟩ := by unfold showText; rw [hg]
    rw [ht]
    simp only [List.nil_append] at h1
    obtain ⟨vs, e1, e2⟩ := back_go ⟨l.toArray⟩ ws false (ByteArray.size ⟨l.toArray⟩) 0 [] 1 1 (Nat.zero_le _) (by rw [List.drop_zero, ← h1]) h2 (by omega)
    have e := read_eq ⟨l.toArray⟩
    unfold refRead at e
    rw [e1] at e
    simp only [Prod.mk.injEq, List.nil_append] at e
    exact ⟨e.2.2.2.symm, by rw [← e.1]; exact e2⟩
end Go.Proofs.YtkfplffcegbdfaaDoor
