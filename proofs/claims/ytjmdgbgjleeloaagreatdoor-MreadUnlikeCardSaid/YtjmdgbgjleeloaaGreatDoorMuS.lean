/-
  Both texts, the one with more between its lines, are read alike: a cursor has the same words of both, but for their places (plainly). No condition beyond those that each theorem states.
-/
import Derived.Test.YtjmdgbgjleeloaaGreatDoorMuM
namespace Go.Proofs.YtjmdgbgjleeloaaGreatDoor

def keyW (x : Wd) : Int × ByteArray × Int := (x.k, x.t, x.n)
structure RelS (st st' : Option Wd × List Wd) : Prop where
  words : st.2.map keyW = st'.2.map keyW
  pend : st.2 ≠ [] → st.1.isSome = st'.1.isSome
  e1 : ∀ e, st.1 = some e → keyW e = (4, noText, 0)
  e2 : ∀ e, st'.1 = some e → keyW e = (4, noText, 0)
theorem endK_of {x : Wd} (h : keyW x = (4, noText, 0)) : endK x = true := by
  have : x.k = 4 := congrArg Prod.fst h
  simp [endK, this]
theorem step_end' {st : Option Wd × List Wd} {x : Wd} (h : keyW x = (4, noText, 0)) : stepC st x = (some (st.1.getD x), st.2) := by simp [stepC, endK_of h]
theorem pend_end {b : Option Wd} {x : Wd} (hb : ∀ e, b = some e → keyW e = (4, noText, 0)) (h : keyW x = (4, noText, 0)) : ∀ e, some (b.getD x) = some e → keyW e = (4, noText, 0) := by
  intro e he
  cases b with
  | none => simp at he; rw [← he]; exact h
  | some y => simp at he; rw [← he]; exact hb y rfl
theorem RelS.ends {st st' : Option Wd × List Wd} {x a b : Wd} (h : RelS st st') (hx : keyW x = (4, noText, 0)) (ha : keyW a = (4, noText, 0)) (hb : keyW b = (4, noText, 0)) : RelS (stepC st x) (stepC (stepC st' a) b) := by
  rw [step_end' hx, step_end' ha, step_end' hb]
  exact ⟨h.words, fun _ => rfl, pend_end h.e1 hx, pend_end (pend_end h.e2 ha) hb⟩
theorem RelS.word {st st' : Option Wd × List Wd} {x x' : Wd} (h : RelS st st') (hk : keyW x = keyW x') (he : endK x = false) : RelS (stepC st x) (stepC st' x') := by
  have hkk : x.k = x'.k := congrArg Prod.fst hk
  have he' : endK x' = false := by unfold endK at he ⊢; rw [← hkk]; exact he
  have s1 : stepC st x = (none, (if st.2 = [] then [] else st.2 ++ st.1.toList) ++ [x]) := by simp [stepC, he]
  have s2 : stepC st' x' = (none, (if st'.2 = [] then [] else st'.2 ++ st'.1.toList) ++ [x']) := by simp [stepC, he']
  rw [s1, s2]
  refine ⟨?_, fun _ => rfl, fun _ h => by simp at h, fun _ h => by simp at h⟩
  simp only [List.map_append, List.map_cons, List.map_nil, hk]
  congr 1
  by_cases h0 : st.2 = []
  · have h0' : st'.2 = [] := by have := h.words; rw [h0] at this; simpa using this.symm
    rw [if_pos h0, if_pos h0']
  · have h0' : st'.2 ≠ [] := fun e => h0 (by have := h.words; rw [e] at this; simpa using this)
    rw [if_neg h0, if_neg h0', List.map_append, List.map_append, h.words]
    congr 1
    have hp := h.pend h0
    cases hb : st.1 with
    | none =>
      rw [hb] at hp
      cases hb' : st'.1 with
      | none => rfl
      | some y => rw [hb'] at hp; cases hp
    | some y =>
      rw [hb] at hp
      cases hb' : st'.1 with
      | none => rw [hb'] at hp; cases hp
      | some z =>
        simp only [Option.toList_some, List.map_cons, List.map_nil]
        rw [h.e1 y hb, h.e2 z hb']
def foldC (out : List Wd) : Option Wd × List Wd := out.foldl stepC (none, [])
theorem foldC_snoc (out : List Wd) (x : Wd) : foldC (out ++ [x]) = stepC (foldC out) x := by simp [foldC]
theorem refL_nil (f : Nat) (out : List Wd) (l c : Int) (r : Bool) : refL f [] out l c r = (out, 0, 0, 0) := by
  cases f with
  | zero => rfl
  | succ f => rw [refL, if_neg (by simp)]
/-- A space, a tab. -/
theorem skip_one {b : UInt8} {r : List UInt8} (hb : b.toNat < 128) (h10 : b.toNat ≠ 10) (f : Nat) (out : List Wd) (l c : Int) (rem : Bool) (h : rem = true ∨ b.toNat = 32 ∨ b.toNat = 9 ∨ b.toNat = 59) :
    refL (f + 1) (b :: r) out l c rem = refL f r out l (c + 1) (rem || decide (b.toNat = 59)) := by
  rw [refL, if_pos (by simp), atL_ascii b r hb, if_neg (by simp), if_neg (by simpa using h10), if_pos (by simpa using h)]
  rfl
theorem line_one (r : List UInt8) (f : Nat) (out : List Wd) (l c : Int) (rem : Bool) : refL (f + 1) (10 :: r) out l c rem = refL f r (out ++ [⟨4, noText, 0, l, c⟩]) (l + 1) 1 false := by
  rw [refL, if_pos (by simp), atL_ascii 10 r (by decide), if_neg (by simp), if_pos (by decide)]
  rfl
theorem skip_arrow (r : List UInt8) (f : Nat) (out : List Wd) (l c : Int) : refL (f + 1) (226 :: 134 :: 146 :: r) out l c true = refL f r out l (c + 1) true := by
  rw [refL, if_pos (by simp), atL_arrow, if_neg (by simp), if_neg (by simp), if_pos (by simp)]
  rfl
/-- What is laid between two lines adds an end. -/
theorem ins_skip (f : Nat) (r : List UInt8) (out : List Wd) (l c : Int) : ∃ (a : Wd) (l' c' : Int), keyW a = (4, noText, 0) ∧ refL (f + 5) (insB ++ r) out l c false = refL f r (out ++ [a]) l' c' false := by
  refine ⟨⟨4, noText, 0, l, c + 1 + 1 + 1 + 1⟩, l + 1, 1, rfl, ?_⟩
  show refL (f + 5) (32 :: 59 :: 32 :: 226 :: 134 :: 146 :: 10 :: r) out l c false = _
  rw [skip_one (by decide) (by decide) (f + 4) _ _ _ _ (by simp), skip_one (by decide) (by decide) (f + 3) _ _ _ _ (by simp), skip_one (by decide) (by decide) (f + 2) _ _ _ _ (by simp)]
  rw [show (((false || decide ((32 : UInt8).toNat = 59)) || decide ((59 : UInt8).toNat = 59)) || decide ((32 : UInt8).toNat = 59)) = true by decide]
  rw [skip_arrow, line_one]
def SimR (A B : List Wd × Int × Int × Int) : Prop := A.2.2.2 = B.2.2.2 ∧ (A.2.2.2 = 0 → RelS (foldC A.1) (foldC B.1))
theorem SimR.err (l c l' c' e : Int) (he : e ≠ 0) : SimR ([], l, c, e) ([], l', c', e) := ⟨rfl, fun h => absurd h he⟩
theorem sim_blank : ∀ (f : Nat) (l : List UInt8) (out : List Wd) (l1 c1 : Int) (r : Bool) (g : Nat) (out' : List Wd) (l2 c2 : Int), l.length ≤ f → (expand l).length ≤ g → RelS (foldC out) (foldC out') → SimR (refL f l out l1 c1 r) (refL g (expand l) out' l2 c2 r) := by
  intro f
  induction f with
  | zero =>
    intro l out l1 c1 r g out' l2 c2 h1 h2 hr
    have : l = [] := List.length_eq_zero_iff.1 (by omega)
    subst this
    rw [show expand [] = [] from rfl, refL_nil, refL_nil]
    exact ⟨rfl, fun _ => hr⟩
  | succ f ih =>
    intro l out l1 c1 r g out' l2 c2 h1 h2 hr
    by_cases hl : l = []
    · subst hl
      rw [show expand [] = [] from rfl, refL_nil, refL_nil]
      exact ⟨rfl, fun _ => hr⟩
    have hp := List.length_pos_iff.2 hl
    have hex : expand l ≠ [] := fun e => hl (expand_nil.1 e)
    have hpx := List.length_pos_iff.2 hex
    obtain ⟨g, rfl⟩ : ∃ g', g = g' + 1 := ⟨g - 1, by omega⟩
    by_cases h0 : (atL l).2 = 0
    · rw [refL, refL, if_pos hl, if_pos hex, at_expand, if_pos h0, if_pos h0]
      exact SimR.err _ _ _ _ _ (by decide)
    by_cases h10 : (atL l).1 = 10
    · -- a line's end
      cases l with
      | nil => exact absurd rfl hl
      | cons b r0 =>
        have hb : b = 10 := by
          apply Classical.byContradiction
          intro hne
          have hb128 : ¬ b.toNat < 128 := fun h => by
            rw [atL_ascii b r0 h] at h10
            exact hne (UInt8.toNat_inj.1 h10)
          -- a longer rune is not 10
          have hw : ∀ n b1 b2 b3, (Lib.decodeN n b.toNat b1 b2 b3).1 ≠ 10 := by
            intro n b1 b2 b3
            unfold Lib.decodeN
            repeat' split
            all_goals simp only
            all_goals omega
          unfold atL at h10
          rw [if_neg (by simp)] at h10
          split at h10
          · cases h10
          · exact hw _ _ _ _ h10
        subst hb
        rw [show expand (10 :: r0) = 10 :: (insB ++ expand r0) from rfl] at h2 ⊢
        rw [line_one, line_one]
        simp only [List.length_cons, List.length_append] at h1 h2
        have hi : insB.length = 7 := rfl
        obtain ⟨g, rfl⟩ : ∃ g', g = g' + 5 := ⟨g - 5, by omega⟩
        obtain ⟨a, l', c', ha, e⟩ := ins_skip g (expand r0) (out' ++ [⟨4, noText, 0, l2, c2⟩]) (l2 + 1) 1
        rw [e]
        refine ih r0 _ _ _ _ g _ _ _ (by omega) (by omega) ?_
        rw [foldC_snoc, foldC_snoc, foldC_snoc]
        exact hr.ends rfl rfl ha
    obtain ⟨d1, t1⟩ := rune_expand h0 h10
    have hal := atL_len l
    have hdl : (l.drop (atL l).2).length ≤ f := by rw [List.length_drop]; omega
    have hdx : ∀ n, 0 < n → ((expand l).drop n).length ≤ g := fun n hn => by rw [List.length_drop]; omega
    have hdl' : ∀ n, 0 < n → (l.drop n).length ≤ f := fun n hn => by rw [List.length_drop]; omega
    rw [refL, refL, if_pos hl, if_pos hex, at_expand, if_neg h0, if_neg h0, if_neg h10, if_neg h10]
    by_cases hs : r = true ∨ (atL l).1 = 32 ∨ (atL l).1 = 9 ∨ (atL l).1 = 59
    · rw [if_pos hs, if_pos hs, d1]
      exact ih _ _ _ _ _ g _ _ _ hdl (by rw [← d1]; exact hdx _ (by omega)) hr
    rw [if_neg hs, if_neg hs]
    obtain ⟨n1, n2⟩ := numL_expand l
    rw [n1]
    by_cases hn : 0 < numL l
    · have hnl := numL_le l hl
      obtain ⟨d2, t2⟩ := expand_split _ _ hnl n2
      have tx : textL (expand l) (numL l) = textL l (numL l) := by unfold textL; rw [t2]
      rw [if_pos hn, if_pos hn, tx, d2, at_expand]
      by_cases hv : valOk (textL l (numL l)) = true
      · rw [if_pos hv, if_pos hv]
        by_cases hx : 0 < (atL (l.drop (numL l))).2 ∧ letterB ((atL (l.drop (numL l))).1 : Int) = true
        · rw [if_pos hx, if_pos hx]
          exact SimR.err _ _ _ _ _ (by decide)
        · rw [if_neg hx, if_neg hx]
          refine ih _ _ _ _ _ g _ _ _ (hdl' _ hn) (by rw [← d2]; exact hdx _ hn) ?_
          rw [foldC_snoc, foldC_snoc]
          exact hr.word rfl (by simp [endK])
      · rw [if_neg hv, if_neg hv]
        exact SimR.err _ _ _ _ _ (by decide)
    rw [if_neg hn, if_neg hn]
    obtain ⟨r1, r2⟩ := runT_expand false l
    rw [r1]
    by_cases hlt : letterB ((atL l).1 : Int) = true
    · rw [if_pos hlt, if_pos hlt]
      by_cases h16 : 16 < (runT false l).2
      · rw [if_pos h16, if_pos h16]
        exact SimR.err _ _ _ _ _ (by decide)
      · have hrl := runL_len false l.length l
        obtain ⟨d3, t3⟩ := expand_split (runT false l).1 l hrl r2
        have tx : textL (expand l) (runT false l).1 = textL l (runT false l).1 := by unfold textL; rw [t3]
        have hpos : 0 < (runT false l).1 := by
          unfold runT
          obtain ⟨m, hm⟩ : ∃ m, l.length = m + 1 := ⟨l.length - 1, by omega⟩
          rw [hm, runL, if_neg (by
            rintro (h | h | h)
            · exact hl h
            · exact h0 h
            · simp [stopB, hlt] at h)]
          simp only
          omega
        rw [if_neg h16, if_neg h16, tx, d3]
        refine ih _ _ _ _ _ g _ _ _ (hdl' _ hpos) (by rw [← d3]; exact hdx _ hpos) ?_
        rw [foldC_snoc, foldC_snoc]
        exact hr.word rfl (by simp [endK])
    rw [if_neg hlt, if_neg hlt]
    by_cases hg : signB ((atL l).1 : Int) = true
    · have tx : textL (expand l) (atL l).2 = textL l (atL l).2 := by unfold textL; rw [t1]
      rw [if_pos hg, if_pos hg, tx, d1]
      refine ih _ _ _ _ _ g _ _ _ hdl (by rw [← d1]; exact hdx _ (by omega)) ?_
      rw [foldC_snoc, foldC_snoc]
      exact hr.word rfl (by simp [endK])
    · rw [if_neg hg, if_neg hg]
      exact SimR.err _ _ _ _ _ (by decide)
/-- The text with more between its lines. -/
def wideU (l : List UInt8) : ByteArray := ⟨([59, 10] ++ expand l).toArray⟩
theorem wide_begin (n : Nat) (L : List UInt8) : refL (n + 2) (59 :: 10 :: L) [] 1 1 false = refL n L ([] ++ [⟨4, noText, 0, 1, 1 + 1⟩]) (1 + 1) 1 false := by
  rw [skip_one (by decide) (by decide) (n + 1) _ _ _ _ (by simp), line_one]
theorem wide_rel : RelS (foldC []) (foldC ([] ++ [⟨4, noText, 0, 1, 1 + 1⟩])) := by
  refine ⟨rfl, fun h => absurd rfl h, fun e he => (by cases he), fun e he => ?_⟩
  simp [foldC, stepC, endK] at he
  rw [← he]
  rfl
theorem wide_size (l : List UInt8) : (wideU l).size = (expand l).length + 2 := by
  show ([59, 10] ++ expand l).toArray.size = _
  simp
theorem wide_list (l : List UInt8) : (wideU l).data.toList = 59 :: 10 :: expand l := rfl
theorem sim_apply {A B : List Wd × Int × Int × Int} (h : SimR A B) {a b : List Wd} {l c e l' c' e' : Int} (hA : A = (a, l, c, e)) (hB : B = (b, l', c', e')) : e' = e ∧ (e = 0 → (pruned a).map keyW = (pruned b).map keyW) := by
  subst hA
  subst hB
  exact ⟨h.1.symm, fun h0 => (h.2 h0).words⟩
theorem blank_same (s : ByteArray) : readErr (wideU s.data.toList) = readErr s ∧ (readErr s = 0 → (pruned (readWords s)).map keyW = (pruned (readWords (wideU s.data.toList))).map keyW) := by
  have h1 := read_list s
  have h2 := read_list (wideU s.data.toList)
  generalize readWords (wideU s.data.toList) = ww at *
  generalize readLine (wideU s.data.toList) = wl at *
  generalize readCol (wideU s.data.toList) = wc at *
  generalize readErr (wideU s.data.toList) = we at *
  generalize readWords s = sw at *
  generalize readLine s = sl at *
  generalize readCol s = sc at *
  generalize readErr s = se at *
  rw [wide_size, wide_list, wide_begin] at h2
  have hsz : s.data.toList.length ≤ s.size := by simp only [Array.length_toList]; exact Nat.le_refl _
  exact sim_apply (sim_blank s.size s.data.toList [] 1 1 false _ _ (1 + 1) 1 hsz (Nat.le_refl _) wide_rel) h1 h2
end Go.Proofs.YtjmdgbgjleeloaaGreatDoor
