/-
  Words that are shown are read again: the same, but for their places (plainly). No condition beyond those that each theorem states.
  A text's words are read again; the ends among them, pruned (plainly). No condition beyond those that each theorem states.
  A cursor over words of these kinds: its steps, told (plainly). No condition beyond those that each theorem states.
-/
import Derived.Test.YthiipgahbmoiiaaGreatDoorPk40
import Derived.Test.YthiipgahbmoiiaaGreatDoorPk23
import Derived.Test.YthiipgahbmoiiaaGreatDoorPk14
namespace Go.Proofs.YthiipgahbmoiiaaGreatDoor

def shownL : Bool → List Wd → List UInt8
  | _, [] => []
  | b, x :: r => if x.k = 4 then 10 :: shownL false r else (if b then [32] else []) ++ (x.t.data.toList ++ shownL true r)
theorem showGo_eq (ws : List Wd) : ∀ (b : Bool) (out l : List UInt8), showGo ws b out = some l → l = out ++ shownL b ws ∧ ∀ x ∈ ws, canB x = true := by
  induction ws with
  | nil =>
    intro b out l h
    simp only [showGo, Option.some.injEq] at h
    exact ⟨by simp [shownL, h], by simp⟩
  | cons x r ih =>
    intro b out l h
    rw [showGo] at h
    by_cases hc : canB x = false
    · rw [if_pos hc] at h; cases h
    · rw [if_neg hc] at h
      have hc : canB x = true := by simpa using hc
      by_cases h4 : x.k = 4
      · rw [if_pos h4] at h
        obtain ⟨h1, h2⟩ := ih _ _ _ h
        refine ⟨?_, fun y hy => ?_⟩
        · rw [h1, shownL, if_pos h4]; simp
        · rcases List.mem_cons.1 hy with rfl | hy
          · exact hc
          · exact h2 y hy
      · rw [if_neg h4] at h
        obtain ⟨h1, h2⟩ := ih _ _ _ h
        refine ⟨?_, fun y hy => ?_⟩
        · rw [h1, shownL, if_neg h4]; cases b <;> simp
        · rcases List.mem_cons.1 hy with rfl | hy
          · exact hc
          · exact h2 y hy
def key (x : Wd) : Int × ByteArray × Int := (x.k, x.t, x.n)
theorem drop_cons {s : ByteArray} {j : Nat} {b : UInt8} {r : List UInt8} (h : s.data.toList.drop j = b :: r) : j < s.size ∧ s.get! j = b ∧ s.data.toList.drop (j + 1) = r := by
  have h1 : s.data.toList[j]? = some b := by
    have := List.getElem?_drop (xs := s.data.toList) (i := j) (j := 0)
    rw [h] at this
    simpa using this.symm
  have h2 := get_list h1
  refine ⟨h2.1, h2.2, ?_⟩
  rw [← List.drop_drop, h]
  rfl
theorem drop_more {s : ByteArray} {j : Nat} {a r : List UInt8} (h : s.data.toList.drop j = a ++ r) : s.data.toList.drop (j + a.length) = r := by
  rw [← List.drop_drop, h, List.drop_left]
theorem stops_of {s : ByteArray} {e : Nat} {r : List Wd} (h : s.data.toList.drop e = shownL true r) : Stops s e := by
  intro hlt
  cases r with
  | nil =>
    have := congrArg List.length h
    simp only [List.length_drop, shownL, List.length_nil, Array.length_toList] at this
    have e1 : s.data.size = s.size := rfl
    omega
  | cons x r =>
    rw [shownL] at h
    split at h
    · obtain ⟨_, h2, _⟩ := drop_cons h
      right
      rw [atP_one s e hlt (by rw [h2]; decide), h2]
      rfl
    · simp only [if_true, List.cons_append, List.nil_append] at h
      obtain ⟨_, h2, _⟩ := drop_cons h
      left
      rw [atP_one s e hlt (by rw [h2]; decide), h2]
      rfl
/-- What is no digit and no minus begins no number. -/
theorem numLen_no {s : ByteArray} {j : Nat} (hlt : j < s.size) (h45 : (atP s j).1 ≠ 45) (hd : digitB ((atP s j).1 : Int) = false) : numLen s j = 0 := by
  have hh : headOf s j = j := by
    unfold headOf
    rw [if_neg]
    intro h
    have := atP_one s j hlt (by omega)
    rw [this] at h45
    exact h45 h
  have hr : runTo s true j = (j, 0) := by
    unfold runTo
    exact runEnd_stop s true _ j 0 (fun _ => .inr (by simp [stopB, hd]))
  unfold numLen
  rw [hh, hr]
  simp
theorem canB_name {x : Wd} (h : canB x = true) (hk : x.k = 1) : x.n = 0 ∧ nameB x.t = true := by
  unfold canB at h
  rw [if_pos hk] at h
  simpa using h
theorem canB_num {x : Wd} (h : canB x = true) (hk : x.k = 2) : boundB x.n = true ∧ x.t = ⟨(Lib.itoa x.n).toArray⟩ := by
  unfold canB at h
  rw [if_neg (by omega), if_pos hk] at h
  simpa using h
theorem canB_sign {x : Wd} (h : canB x = true) (hk : x.k = 3) : x.n = 0 ∧ isSignB x.t = true := by
  unfold canB at h
  rw [if_neg (by omega), if_neg (by omega), if_pos hk] at h
  simpa using h
theorem canB_end {x : Wd} (h : canB x = true) (hk : x.k = 4) : x.n = 0 ∧ x.t = ⟨#[]⟩ := by
  unfold canB at h
  rw [if_neg (by omega), if_neg (by omega), if_neg (by omega), if_pos hk] at h
  simpa using h
theorem canB_kind {x : Wd} (h : canB x = true) : x.k = 1 ∨ x.k = 2 ∨ x.k = 3 ∨ x.k = 4 := by
  unfold canB at h
  split at h
  · exact .inl ‹_›
  split at h
  · exact .inr (.inl ‹_›)
  split at h
  · exact .inr (.inr (.inl ‹_›))
  split at h
  · exact .inr (.inr (.inr ‹_›))
  · cases h
theorem rname_head {t : ByteArray} (h : rnameB t = true) : 0 < t.size ∧ (atP t 0).2 ≠ 0 ∧ letterB ((atP t 0).1 : Int) = true := by
  unfold rnameB at h
  cases hz : t.size with
  | zero => rw [hz] at h; simp [rnameGo] at h
  | succ g =>
    rw [hz, rnameGo, if_pos (by omega)] at h
    split at h
    · rename_i hc
      exact ⟨by omega, hc.1, by simpa using hc.2⟩
    · cases h
theorem tok_name {s : ByteArray} {x : Wd} {r : List Wd} (hx : canB x = true) (hk : x.k = 1) (f j : Nat) (out : List Wd) (l c : Int) (hj : j ≤ s.size) (hd : s.data.toList.drop j = x.t.data.toList ++ shownL true r) (hf : s.size ≤ j + f) :
    ∃ (y : Wd) (f' : Nat) (l' c' : Int), refGo s f out l c false j = refGo s f' (out ++ [y]) l' c' false (j + x.t.size) ∧ key y = key x ∧ s.size ≤ j + x.t.size + f' := by
  have hS := sub_of_drop hj hd
  have hfit := hS.fits
  obtain ⟨hn, hb⟩ := canB_name hx hk
  rw [nameB_same] at hb
  obtain ⟨hpos, h0, hl⟩ := rname_head hb
  have hst : Stops s (j + x.t.size) := stops_of (r := r) (by have := drop_more hd; simpa using this)
  have hat : atP s j = atP x.t 0 := atP_shift hS 0 h0
  have hlr : (97 : Int) ≤ ((atP s j).1 : Int) ∧ ((atP s j).1 : Int) ≤ 122 ∨ 945 ≤ ((atP s j).1 : Int) ∧ ((atP s j).1 : Int) ≤ 969 ∨ ((atP s j).1 : Int) = 95 := by rw [hat]; exact of_decide_eq_true hl
  have hdg : digitB ((atP s j).1 : Int) = false := by unfold digitB; exact decide_eq_false (by omega)
  have hlt : j < s.size := by omega
  obtain ⟨f, rfl⟩ : ∃ f', f = f' + 1 := ⟨f - 1, by omega⟩
  have hnl := numLen_no hlt (by omega) hdg
  obtain ⟨m, hm, hm1, hm2⟩ := run_name hS hst x.t.size s.size 0 0 (by omega) (by omega) (by omega) hb
  have hr : runTo s false j = (j + x.t.size, m) := hm
  refine ⟨⟨1, partOf s j (j + x.t.size), 0, l, c⟩, f, l, c + m, ?_, ?_, by omega⟩
  · rw [refGo, if_pos hlt, if_neg (by rw [hat]; exact h0), if_neg (by omega), if_neg (by simp; omega), if_neg (by rw [hnl]; omega), if_pos (by rw [hat]; exact hl), hr, if_neg (by omega)]
  · unfold key
    rw [part_sub hS, hk, hn]
theorem tok_sign {s : ByteArray} {x : Wd} {r : List Wd} (hx : canB x = true) (hk : x.k = 3) (f j : Nat) (out : List Wd) (l c : Int) (hj : j ≤ s.size) (hd : s.data.toList.drop j = x.t.data.toList ++ shownL true r) (hf : s.size ≤ j + f) :
    ∃ (y : Wd) (f' : Nat) (l' c' : Int), refGo s f out l c false j = refGo s f' (out ++ [y]) l' c' false (j + x.t.size) ∧ key y = key x ∧ s.size ≤ j + x.t.size + f' := by
  have hS := sub_of_drop hj hd
  have hfit := hS.fits
  obtain ⟨hn, hb⟩ := canB_sign hx hk
  rw [isSignB_ref] at hb
  simp only [Bool.and_eq_true, decide_eq_true_eq] at hb
  obtain ⟨⟨h0, hw⟩, hsg⟩ := hb
  have hat : atP s j = atP x.t 0 := atP_shift hS 0 (by omega)
  rw [← hat] at h0 hw hsg
  have hsr := of_decide_eq_true hsg
  have hdg : digitB ((atP s j).1 : Int) = false := by unfold digitB; exact decide_eq_false (by omega)
  have hlr : letterB ((atP s j).1 : Int) = false := by unfold letterB; exact decide_eq_false (by omega)
  have hlt : j < s.size := by omega
  obtain ⟨f, rfl⟩ : ∃ f', f = f' + 1 := ⟨f - 1, by omega⟩
  have hnl := numLen_no hlt (by omega) hdg
  refine ⟨⟨3, partOf s j (j + x.t.size), 0, l, c⟩, f, l, c + 1, ?_, ?_, by omega⟩
  · rw [refGo, if_pos hlt, if_neg (by omega), if_neg (by omega), if_neg (by simp; omega), if_neg (by rw [hnl]; omega), if_neg (by rw [hlr]; decide), if_pos hsg, hw]
  · unfold key
    rw [part_sub hS, hk, hn]
/-- A number's numeral: where its digits begin, its digits, its value. -/
theorem itoa_text (n : Int) (t : ByteArray) (ht : t = ⟨(Lib.itoa n).toArray⟩) : ∃ (h m : Nat), h ≤ 1 ∧ 0 < m ∧ t.size = h + m ∧ valT t t.size = (n.natAbs : Int) ∧ (h = 1 → (t.get! 0).toNat = 45 ∧ n < 0) ∧ (h = 0 → 0 ≤ n) ∧ ∀ i, i < m → 48 ≤ (t.get! (h + i)).toNat ∧ (t.get! (h + i)).toNat ≤ 57 := by
  by_cases hn : n < 0
  · have hi : Lib.itoa n = 45 :: Lib.decDigits n.natAbs := by unfold Lib.itoa; rw [if_pos hn]
    have hg : ∀ k b, (Lib.itoa n)[k]? = some b → t.get! k = b := fun k b hk => by
      refine (get_list (s := t) (k := k) ?_).2
      rw [ht]
      exact hk
    have h0 : t.get! 0 = 45 := hg 0 45 (by rw [hi]; rfl)
    have hz : t.size = 1 + (Lib.decDigits n.natAbs).length := by rw [ht]; show (Lib.itoa n).toArray.size = _; rw [hi]; simp; omega
    have hv : valT t 1 = 0 := by rw [valT, h0, if_pos (by decide)]; rfl
    obtain ⟨hV, hD⟩ := valT_digits t n.natAbs 1 hv (fun i b hb => hg _ b (by rw [hi, Nat.add_comm]; exact hb))
    refine ⟨1, _, Nat.le_refl _, decDigits_ne n.natAbs, hz, by rw [hz]; exact hV, fun _ => ⟨by rw [h0]; rfl, hn⟩, fun h => by omega, hD⟩
  · have hi : Lib.itoa n = Lib.decDigits n.natAbs := by unfold Lib.itoa; rw [if_neg hn]; congr 1; omega
    have hg : ∀ k b, (Lib.itoa n)[k]? = some b → t.get! k = b := fun k b hk => by
      refine (get_list (s := t) (k := k) ?_).2
      rw [ht]
      exact hk
    have hz : t.size = 0 + (Lib.decDigits n.natAbs).length := by rw [ht]; show (Lib.itoa n).toArray.size = _; rw [hi]; simp
    obtain ⟨hV, hD⟩ := valT_digits t n.natAbs 0 rfl (fun i b hb => hg _ b (by rw [hi, Nat.zero_add]; exact hb))
    exact ⟨0, _, by omega, decDigits_ne n.natAbs, hz, by rw [hz]; exact hV, fun h => by omega, fun _ => by omega, hD⟩
theorem tok_num {s : ByteArray} {x : Wd} {r : List Wd} (hx : canB x = true) (hk : x.k = 2) (f j : Nat) (out : List Wd) (l c : Int) (hj : j ≤ s.size) (hd : s.data.toList.drop j = x.t.data.toList ++ shownL true r) (hf : s.size ≤ j + f) :
    ∃ (y : Wd) (f' : Nat) (l' c' : Int), refGo s f out l c false j = refGo s f' (out ++ [y]) l' c' false (j + x.t.size) ∧ key y = key x ∧ s.size ≤ j + x.t.size + f' := by
  have hS := sub_of_drop hj hd
  have hfit := hS.fits
  obtain ⟨hbn, ht⟩ := canB_num hx hk
  have hbn := of_decide_eq_true hbn
  obtain ⟨h, m, h1, hm, hz, hV, hneg, hnn, hD⟩ := itoa_text x.n x.t ht
  have hst : Stops s (j + x.t.size) := stops_of (r := r) (by have := drop_more hd; simpa using this)
  have hlt : j < s.size := by omega
  obtain ⟨f, rfl⟩ : ∃ f', f = f' + 1 := ⟨f - 1, by omega⟩
  have hg0 : s.get! j = x.t.get! 0 := by have := hS.same 0 (by omega); rwa [Nat.add_zero] at this
  have hfirst : (s.get! j).toNat = 45 ∧ h = 1 ∨ 48 ≤ (s.get! j).toNat ∧ (s.get! j).toNat ≤ 57 ∧ h = 0 := by
    rw [hg0]
    rcases (show h = 0 ∨ h = 1 by omega) with rfl | rfl
    · exact .inr ⟨(hD 0 hm).1, (hD 0 hm).2, rfl⟩
    · exact .inl ⟨(hneg rfl).1, rfl⟩
  have hat : atP s j = ((s.get! j).toNat, 1) := atP_one s j hlt (by omega)
  have hh : headOf s j = j + h := by unfold headOf; split <;> omega
  have hrun : runTo s true (j + h) = (j + x.t.size, 0 + m) := by
    unfold runTo
    have := run_digits s m s.size (j + h) 0 (fun k hk => by have := hD k hk; rw [← hS.same (h + k) (by omega)] at this; rw [← Nat.add_assoc] at this; exact this) (by omega) (by rw [show j + h + m = j + x.t.size by omega]; exact hst) (by omega)
    rw [show j + h + m = j + x.t.size by omega] at this
    exact this
  have hnl : numLen s j = x.t.size := by
    unfold numLen
    rw [hh, hrun]
    simp only
    rw [if_neg (by omega)]
    omega
  have hne : numEnd s j = j + x.t.size := by unfold numEnd; rw [hnl]
  have hpart : partOf s j (numEnd s j) = x.t := by rw [hne]; exact part_sub hS
  have hok : valOk x.t = true := by unfold valOk; rw [hV]; exact decide_eq_true (by omega)
  have hval : valN x.t = x.n := by
    unfold valN
    rw [if_pos hok, hV, ← hg0]
    split
    · have : h = 1 := by omega
      have := (hneg this).2
      omega
    · have : h = 0 := by omega
      have := hnn this
      omega
  have hnol : ¬ (0 < (atP s (numEnd s j)).2 ∧ letterB ((atP s (numEnd s j)).1 : Int) = true) := by
    rw [hne]
    rintro ⟨ha, hb⟩
    have hlt2 : j + x.t.size < s.size := atP_lt (by omega)
    rcases hst hlt2 with e | e <;> rw [e] at hb <;> exact absurd hb (by decide)
  refine ⟨⟨2, x.t, x.n, l, c⟩, f, l, c + (numLen s j : Int), ?_, ?_, by omega⟩
  · rw [refGo, if_pos hlt, if_neg (by rw [hat]; simp), if_neg (by rw [hat]; simp only; omega), if_neg (by rw [hat]; simp; omega), if_pos (by rw [hnl]; omega), hpart, if_pos hok, if_neg hnol, hval, hne]
  · unfold key
    rw [hk]
theorem back_go (s : ByteArray) : ∀ (ws : List Wd) (b : Bool) (f j : Nat) (out : List Wd) (l c : Int), j ≤ s.size → s.data.toList.drop j = shownL b ws → (∀ x ∈ ws, canB x = true) → s.size ≤ j + f → ∃ vs : List Wd, refGo s f out l c false j = (out ++ vs, 0, 0, 0) ∧ vs.map key = ws.map key := by
  intro ws
  induction ws with
  | nil =>
    intro b f j out l c hj hd _ hf
    refine ⟨[], ?_, rfl⟩
    have := congrArg List.length hd
    simp only [List.length_drop, shownL, List.length_nil, Array.length_toList] at this
    have e1 : s.data.size = s.size := rfl
    rw [refGo_end s f out l c false j (by omega), List.append_nil]
  | cons x r ih =>
    intro b f j out l c hj hd hcan hf
    have hx := hcan x (by simp)
    have hr : ∀ y ∈ r, canB y = true := fun y hy => hcan y (by simp [hy])
    rw [shownL] at hd
    by_cases h4 : x.k = 4
    · rw [if_pos h4] at hd
      obtain ⟨hlt, hb, hd'⟩ := drop_cons hd
      obtain ⟨f, rfl⟩ : ∃ f', f = f' + 1 := ⟨f - 1, by omega⟩
      have hat : atP s j = (10, 1) := by rw [atP_one s j hlt (by rw [hb]; decide), hb]; rfl
      obtain ⟨vs, h1, h2⟩ := ih false f (j + 1) (out ++ [⟨4, noText, 0, l, c⟩]) (l + 1) 1 (by omega) hd' hr (by omega)
      obtain ⟨e1, e2⟩ := canB_end hx h4
      refine ⟨⟨4, noText, 0, l, c⟩ :: vs, ?_, ?_⟩
      · rw [refGo, if_pos hlt, hat, if_neg (by simp), if_pos rfl, h1]
        simp
      · simp only [List.map_cons, h2]
        unfold key
        rw [h4, e1, e2]
        rfl
    · rw [if_neg h4] at hd
      have tok : ∀ (f j : Nat) (l c : Int), j ≤ s.size → s.data.toList.drop j = x.t.data.toList ++ shownL true r → s.size ≤ j + f → ∃ vs : List Wd, refGo s f out l c false j = (out ++ vs, 0, 0, 0) ∧ vs.map key = (x :: r).map key := by
        intro f j l c hj hd hf
        have hfit := (sub_of_drop hj hd).fits
        have hd2 : s.data.toList.drop (j + x.t.size) = shownL true r := by have := drop_more hd; simpa using this
        have step : ∃ (y : Wd) (f' : Nat) (l' c' : Int), refGo s f out l c false j = refGo s f' (out ++ [y]) l' c' false (j + x.t.size) ∧ key y = key x ∧ s.size ≤ j + x.t.size + f' := by
          rcases canB_kind hx with hk | hk | hk | hk
          · exact tok_name hx hk f j out l c hj hd hf
          · exact tok_num hx hk f j out l c hj hd hf
          · exact tok_sign hx hk f j out l c hj hd hf
          · exact absurd hk h4
        obtain ⟨y, f', l', c', e1, e2, e3⟩ := step
        obtain ⟨vs, h1, h2⟩ := ih true f' (j + x.t.size) (out ++ [y]) l' c' hfit hd2 hr e3
        exact ⟨y :: vs, by rw [e1, h1]; simp, by simp only [List.map_cons, h2, e2]⟩
      cases b with
      | false =>
        simp only [Bool.false_eq_true, if_false, List.nil_append] at hd
        exact tok f j l c hj hd hf
      | true =>
        simp only [if_true, List.cons_append, List.nil_append] at hd
        obtain ⟨hlt, hb, hd'⟩ := drop_cons hd
        obtain ⟨f, rfl⟩ : ∃ f', f = f' + 1 := ⟨f - 1, by omega⟩
        have hat : atP s j = (32, 1) := by rw [atP_one s j hlt (by rw [hb]; decide), hb]; rfl
        obtain ⟨vs, h1, h2⟩ := tok f (j + 1) l (c + 1) (by omega) hd' (by omega)
        refine ⟨vs, ?_, h2⟩
        rw [refGo, if_pos hlt, hat, if_neg (by simp), if_neg (by simp), if_pos (by simp)]
        exact h1
/-- Words that are shown are read: the same, but for their places. -/
theorem shown_read (ws : List Wd) (h : showErr ws = 0) : readErr (showText ws) = 0 ∧ (readWords (showText ws)).map key = ws.map key := by
  unfold showErr at h
  cases hg : showGo ws false [] with
  | none => rw [hg] at h; cases h
  | some l =>
    obtain ⟨h1, h2⟩ := showGo_eq ws false [] l hg
    have ht : showText ws = ⟨l.toArray⟩ := by unfold showText; rw [hg]
    rw [ht]
    simp only [List.nil_append] at h1
    obtain ⟨vs, e1, e2⟩ := back_go ⟨l.toArray⟩ ws false (ByteArray.size ⟨l.toArray⟩) 0 [] 1 1 (Nat.zero_le _) (by rw [List.drop_zero, ← h1]) h2 (by omega)
    have e := read_eq ⟨l.toArray⟩
    unfold refRead at e
    rw [e1] at e
    simp only [Prod.mk.injEq, List.nil_append] at e
    exact ⟨e.2.2.2.symm, by rw [← e.1]; exact e2⟩
end Go.Proofs.YthiipgahbmoiiaaGreatDoor
namespace Go.Proofs.YthiipgahbmoiiaaGreatDoor

theorem rd_shown (s : ByteArray) (ws : List Wd) (hs : s.data.toList = shownL false ws) (hc : ∀ x ∈ ws, canB x = true) : readErr s = 0 ∧ (readWords s).map key = ws.map key := by
  obtain ⟨vs, e1, e2⟩ := back_go s ws false s.size 0 [] 1 1 (Nat.zero_le _) (by rw [List.drop_zero, ← hs]) hc (by omega)
  have e := read_eq s
  unfold refRead at e
  rw [e1] at e
  simp only [Prod.mk.injEq, List.nil_append] at e
  exact ⟨e.2.2.2.symm, by rw [← e.1]; exact e2⟩
theorem key_ends {x y : Wd} (h : key x = key y) : endK x = endK y := by
  have : x.k = y.k := congrArg Prod.fst h
  unfold endK
  rw [this]
/-- Words alike but for their places leave words alike. -/
theorem fold_keys : ∀ (ws us : List Wd) (st su : Option Wd × List Wd), ws.map key = us.map key → st.1.map key = su.1.map key → st.2.map key = su.2.map key →
    (ws.foldl stepC st).2.map key = (us.foldl stepC su).2.map key := by
  intro ws
  induction ws with
  | nil =>
    intro us st su h _ h2
    have : us = [] := by simpa using h.symm
    subst this
    exact h2
  | cons x r ih =>
    intro us st su h h1 h2
    cases us with
    | nil => simp at h
    | cons y u =>
      simp only [List.map_cons, List.cons.injEq] at h
      rw [List.foldl_cons, List.foldl_cons]
      have he := key_ends h.1
      have hn : st.2 = [] ↔ su.2 = [] := by
        constructor
        · intro e; rw [e] at h2; simpa using h2.symm
        · intro e; rw [e] at h2; simpa using h2
      refine ih u _ _ h.2 ?_ ?_
      · unfold stepC
        rw [← he]
        cases hx : endK x
        · rfl
        · simp only [if_true, Option.map_some, Option.some.injEq]
          cases h3 : st.1 with
          | none =>
            rw [h3] at h1
            have h4 : su.1 = none := by simpa using h1.symm
            rw [h4]
            exact h.1
          | some a =>
            rw [h3] at h1
            cases h4 : su.1 with
            | none => rw [h4] at h1; simp at h1
            | some b => rw [h4] at h1; simpa using h1
      · unfold stepC
        rw [← he]
        cases hx : endK x
        · simp only [Bool.false_eq_true, if_false, List.map_append, List.map_cons, List.map_nil]
          rw [h.1]
          congr 1
          by_cases h3 : st.2 = []
          · rw [if_pos h3, if_pos (hn.1 h3)]
          · rw [if_neg h3, if_neg (fun e => h3 (hn.2 e)), List.map_append, List.map_append, h2]
            congr 1
            cases h4 : st.1 <;> cases h5 : su.1 <;> rw [h4, h5] at h1 <;> simp_all
        · exact h2
theorem pruned_same {vs ws : List Wd} (h : vs.map key = ws.map key) : (pruned vs).map key = (pruned ws).map key := fold_keys vs ws _ _ h rfl rfl
def enW : Wd := ⟨4, ⟨#[]⟩, 0, 0, 0⟩
theorem prune_run : ∀ (ws out : List Wd), (∀ x ∈ ws, endK x = false) → ws.foldl stepC (none, out) = (none, out ++ ws) := by
  intro ws
  induction ws with
  | nil => intro out _; simp
  | cons x r ih =>
    intro out h
    have hx := h x (by simp)
    rw [List.foldl_cons]
    have e : stepC (none, out) x = (none, out ++ [x]) := by
      unfold stepC
      rw [hx]
      by_cases ho : out = []
      · simp [ho]
      · simp [ho]
    rw [e, ih _ (fun y hy => h y (by simp [hy]))]
    simp
/-- Lines, each with its end, behind lines. -/
theorem prune_lines : ∀ (ls : List (List Wd)) (out : List Wd), out ≠ [] → (∀ l ∈ ls, l ≠ [] ∧ ∀ x ∈ l, endK x = false) →
    (ls.flatMap fun l => l ++ [enW]).foldl stepC (some enW, out) = (some enW, out ++ ls.flatMap fun l => enW :: l) := by
  intro ls
  induction ls with
  | nil => intro out _ _; simp
  | cons l r ih =>
    intro out ho h
    obtain ⟨h1, h2⟩ := h l (by simp)
    cases l with
    | nil => exact absurd rfl h1
    | cons x u =>
      have hx := h2 x (by simp)
      have e1 : stepC (some enW, out) x = (none, out ++ [enW] ++ [x]) := by
        unfold stepC
        rw [hx]
        simp [ho]
      have e2 : stepC (none, out ++ [enW] ++ [x] ++ u) enW = (some enW, out ++ [enW] ++ [x] ++ u) := rfl
      have e3 : (x :: u ++ [enW]).foldl stepC (some enW, out) = (some enW, out ++ [enW] ++ [x] ++ u) := by
        rw [List.cons_append, List.foldl_cons, e1, List.foldl_append, prune_run u _ (fun y hy => h2 y (by simp [hy])), List.foldl_cons, List.foldl_nil, e2]
      rw [List.flatMap_cons, List.foldl_append, e3, ih _ (by simp) (fun y hy => h y (by simp [hy]))]
      simp
theorem pruned_lines (l : List Wd) (ls : List (List Wd)) (h : ∀ y ∈ l :: ls, y ≠ [] ∧ ∀ x ∈ y, endK x = false) : pruned ((l :: ls).flatMap fun l => l ++ [enW]) = l ++ ls.flatMap fun l => enW :: l := by
  obtain ⟨h1, h2⟩ := h l (by simp)
  unfold pruned
  have e2 : stepC (none, [] ++ l) enW = (some enW, l) := rfl
  rw [List.flatMap_cons, List.foldl_append, List.foldl_append, prune_run l [] h2, List.foldl_cons, List.foldl_nil, e2, prune_lines ls l h1 (fun y hy => h y (by simp [hy]))]
end Go.Proofs.YthiipgahbmoiiaaGreatDoor
namespace Go.Proofs.YthiipgahbmoiiaaGreatDoor

/-- Its words, by what they are. -/
abbrev Kk := Int × ByteArray × Int
def kE : Kk := key enW
/-- A cursor that is not broken, over words of that kind. -/
structure StK (c : Cu) (ks : List Kk) : Prop where
  left : c.left.map key = ks
  fault : c.fault = 0
section
variable {c : Cu} {ks : List Kk} {s : ByteArray} {n : Int}
theorem StK.head {k : Int} (h : StK c ((k, s, n) :: ks)) : ∃ x r, c.left = x :: r ∧ x.k = k ∧ x.t = s ∧ x.n = n ∧ StK c.pass ks := by
  obtain ⟨x, r, hl, hx, hr⟩ := List.map_eq_cons_iff.1 h.left
  refine ⟨x, r, hl, congrArg Prod.fst hx, congrArg (fun p => p.2.1) hx, congrArg (fun p => p.2.2) hx, ⟨?_, h.fault⟩⟩
  show c.left.tail.map key = ks
  rw [hl]
  exact hr
/-- A name is next. -/
theorem StK.nameP (h : StK c ((1, s, n) :: ks)) : Go.Proofs.YthiipgahbmoiiaaGreatDoor.nameP c.left.head? = (s, true) ∧ Go.Proofs.YthiipgahbmoiiaaGreatDoor.numP c.left.head? = (0, false) ∧ (∀ u, signP c.left.head? u = false) ∧ endP c.left.head? = false ∧ c.more = true ∧ StK c.pass ks := by
  obtain ⟨x, r, hl, h1, h2, h3, hp⟩ := h.head
  refine ⟨?_, ?_, fun u => ?_, ?_, by unfold Cu.more; rw [hl]; rfl, hp⟩ <;> rw [hl]
  · simp [Go.Proofs.YthiipgahbmoiiaaGreatDoor.nameP, h1, h2]
  · simp [Go.Proofs.YthiipgahbmoiiaaGreatDoor.numP, h1]
  · simp [signP, h1]
  · simp [endP, endK, h1]
theorem StK.numP (h : StK c ((2, s, n) :: ks)) : Go.Proofs.YthiipgahbmoiiaaGreatDoor.nameP c.left.head? = (⟨#[]⟩, false) ∧ Go.Proofs.YthiipgahbmoiiaaGreatDoor.numP c.left.head? = (n, true) ∧ StK c.pass ks := by
  obtain ⟨x, r, hl, h1, h2, h3, hp⟩ := h.head
  refine ⟨?_, ?_, hp⟩ <;> rw [hl]
  · simp [Go.Proofs.YthiipgahbmoiiaaGreatDoor.nameP, h1]
  · simp [Go.Proofs.YthiipgahbmoiiaaGreatDoor.numP, h1, h3]
theorem StK.signP (h : StK c ((3, s, n) :: ks)) : Go.Proofs.YthiipgahbmoiiaaGreatDoor.nameP c.left.head? = (⟨#[]⟩, false) ∧ (∀ u, Go.Proofs.YthiipgahbmoiiaaGreatDoor.signP c.left.head? u = decide (s = u)) ∧ StK c.pass ks := by
  obtain ⟨x, r, hl, h1, h2, h3, hp⟩ := h.head
  refine ⟨?_, fun u => ?_, hp⟩ <;> rw [hl]
  · simp [Go.Proofs.YthiipgahbmoiiaaGreatDoor.nameP, h1]
  · simp [Go.Proofs.YthiipgahbmoiiaaGreatDoor.signP, h1, h2]
theorem StK.endP (h : StK c (kE :: ks)) : Go.Proofs.YthiipgahbmoiiaaGreatDoor.endP c.left.head? = true ∧ StK c.pass ks := by
  obtain ⟨x, r, hl, h1, h2, h3, hp⟩ := StK.head (k := 4) (s := ⟨#[]⟩) (n := 0) h
  refine ⟨?_, hp⟩
  rw [hl]
  simp [Go.Proofs.YthiipgahbmoiiaaGreatDoor.endP, endK, h1]
theorem StK.nil (h : StK c []) : c.left = [] := by have := h.left; simpa using this
/-- Steps over a name. -/
theorem StK.keyB (h : StK c ((1, s, n) :: ks)) (u : ByteArray) : c.keyB u = decide (s = u) := by unfold Cu.keyB; rw [h.nameP.1]; rfl
theorem StK.key (h : StK c ((1, s, n) :: ks)) : StK (c.key s) ks := by
  unfold Cu.key
  rw [h.keyB, decide_eq_true rfl]
  exact h.nameP.2.2.2.2.2
theorem StK.keyed (h : StK c ((1, s, n) :: ks)) : StK (c.keyedP s) ks := by
  unfold Cu.keyedP
  rw [h.keyB, decide_eq_true rfl, if_pos rfl]
  exact h.key
theorem StK.isName (h : StK c ((1, s, n) :: ks)) (u : ByteArray) : c.isB u = false := h.nameP.2.2.1 u
theorem StK.nameT (h : StK c ((1, s, n) :: ks)) : c.nameT = s := by unfold Cu.nameT; rw [h.nameP.1]
theorem StK.name (h : StK c ((1, s, n) :: ks)) : StK c.name ks := by
  unfold Cu.name
  rw [h.nameP.1, if_pos rfl]
  exact h.nameP.2.2.2.2.2
theorem StK.endsName (h : StK c ((1, s, n) :: ks)) : c.ends = false := by
  unfold Cu.ends
  rw [h.nameP.2.2.2.1, h.nameP.2.2.2.2.1]
  rfl
/-- Steps over a number. -/
theorem StK.num (h : StK c ((2, s, n) :: ks)) {a b : Int} (h1 : a ≤ n ∧ n ≤ b) : c.numN a b = n ∧ StK (c.num a b) ks := by
  have e : c.numFits a b = true := by unfold Cu.numFits; rw [h.numP.2.1]; exact decide_eq_true h1
  constructor
  · unfold Cu.numN
    rw [e, h.numP.2.1]
    rfl
  · unfold Cu.num
    rw [e, h.numP.2.1, if_pos rfl, if_pos rfl]
    exact h.numP.2.2
/-- Steps over a sign. -/
theorem StK.keyB' (h : StK c ((3, s, n) :: ks)) (u : ByteArray) : c.keyB u = false := by unfold Cu.keyB; rw [h.signP.1]; rfl
theorem StK.isB (h : StK c ((3, s, n) :: ks)) (u : ByteArray) : c.isB u = decide (s = u) := h.signP.2.1 u
theorem StK.is (h : StK c ((3, s, n) :: ks)) : StK (c.is s) ks := by
  unfold Cu.is
  rw [h.isB, decide_eq_true rfl]
  exact h.signP.2.2
theorem StK.mark (h : StK c ((3, s, n) :: ks)) : StK (c.mark [s]) ks := by
  unfold Cu.mark
  rw [h.isB, decide_eq_true rfl, if_pos rfl]
  unfold Cu.mark
  exact h.is
theorem StK.noMore (h : StK c []) : c.more = false ∧ c.eErr = 0 := by
  have hl := h.nil
  constructor
  · unfold Cu.more; rw [hl]; rfl
  · unfold Cu.eErr
    rw [hl, h.fault]
    rfl
end
end Go.Proofs.YthiipgahbmoiiaaGreatDoor
