/-
  A text with a line more ahead of it has the same words, one line further down; with a remark behind it, the same (plainly). No condition beyond those that each theorem states.
-/
import Derived.Test.YtfnmkgfaoacnpaaPlaceM
import Derived.Test.YtfnmkgfaoacnpaaBlankS
namespace Go.Proofs.Ytfnmkgfaoacnpaa

def downW (x : Wd) : Wd := { x with l := x.l + 1 }
def Shifted (o : List Wd) (A B : List Wd × Int × Int × Int) : Prop := (A.2.2.2 = 0 → B = (o ++ A.1.map downW, 0, 0, 0)) ∧ (A.2.2.2 ≠ 0 → B = ([], A.2.1 + 1, A.2.2.1, A.2.2.2))
theorem Shifted.err (o : List Wd) (l c e : Int) (he : e ≠ 0) : Shifted o ([], l, c, e) ([], l + 1, c, e) := ⟨fun h => absurd h he, fun _ => rfl⟩
theorem shift_go (o : List Wd) : ∀ (f : Nat) (l : List UInt8) (out : List Wd) (line col : Int) (r : Bool), Shifted o (refL f l out line col r) (refL f l (o ++ out.map downW) (line + 1) col r) := by
  intro f
  induction f with
  | zero => intro l out line col r; exact ⟨fun _ => rfl, fun h => absurd rfl h⟩
  | succ f ih =>
    intro l out line col r
    have more : ∀ (l' : List UInt8) (y : Wd) (line' col' : Int), Shifted o (refL f l' (out ++ [y]) line' col' false) (refL f l' (o ++ out.map downW ++ [downW y]) (line' + 1) col' false) := fun l' y line' col' => by
      have := ih l' (out ++ [y]) line' col' false
      rw [List.map_append, ← List.append_assoc] at this
      exact this
    rw [refL, refL]
    by_cases hl : l = []
    · rw [if_neg (by simp [hl]), if_neg (by simp [hl])]
      exact ⟨fun _ => rfl, fun h => absurd rfl h⟩
    rw [if_pos hl, if_pos hl]
    by_cases h0 : (atL l).2 = 0
    · rw [if_pos h0, if_pos h0]; exact Shifted.err _ _ _ _ (by decide)
    rw [if_neg h0, if_neg h0]
    by_cases h10 : (atL l).1 = 10
    · rw [if_pos h10, if_pos h10]
      exact more _ ⟨4, noText, 0, line, col⟩ (line + 1) 1
    rw [if_neg h10, if_neg h10]
    by_cases hs : r = true ∨ (atL l).1 = 32 ∨ (atL l).1 = 9 ∨ (atL l).1 = 59
    · rw [if_pos hs, if_pos hs]
      exact ih _ _ _ _ _
    rw [if_neg hs, if_neg hs]
    by_cases hn : 0 < numL l
    · rw [if_pos hn, if_pos hn]
      by_cases hv : valOk (textL l (numL l)) = true
      · rw [if_pos hv, if_pos hv]
        by_cases hx : 0 < (atL (l.drop (numL l))).2 ∧ letterB ((atL (l.drop (numL l))).1 : Int) = true
        · rw [if_pos hx, if_pos hx]; exact Shifted.err _ _ _ _ (by decide)
        · rw [if_neg hx, if_neg hx]
          exact more _ ⟨2, textL l (numL l), valN (textL l (numL l)), line, col⟩ line _
      · rw [if_neg hv, if_neg hv]; exact Shifted.err _ _ _ _ (by decide)
    rw [if_neg hn, if_neg hn]
    by_cases hlt : letterB ((atL l).1 : Int) = true
    · rw [if_pos hlt, if_pos hlt]
      by_cases h16 : 16 < (runT false l).2
      · rw [if_pos h16, if_pos h16]; exact Shifted.err _ _ _ _ (by decide)
      · rw [if_neg h16, if_neg h16]
        exact more _ ⟨1, textL l (runT false l).1, 0, line, col⟩ line _
    rw [if_neg hlt, if_neg hlt]
    by_cases hg : signB ((atL l).1 : Int) = true
    · rw [if_pos hg, if_pos hg]
      exact more _ ⟨3, textL l (atL l).2, 0, line, col⟩ line _
    · rw [if_neg hg, if_neg hg]; exact Shifted.err _ _ _ _ (by decide)
def wordA : Wd := ⟨1, ⟨#[97]⟩, 0, 1, 1⟩
def endA : Wd := ⟨4, noText, 0, 1, 1 + 1⟩
theorem run_stop1 (dg : Bool) (f : Nat) (b : UInt8) (r : List UInt8) (hb : b.toNat < 128) (hs : stopB dg (b.toNat : Int) = true) : runL dg f (b :: r) = (0, 0) := by
  cases f with
  | zero => rfl
  | succ f => rw [runL, if_pos (.inr (.inr (by rw [atL_ascii b r hb]; exact hs)))]
theorem ahead_begin (n : Nat) (L : List UInt8) : refL (n + 2) (97 :: 10 :: L) [] 1 1 false = refL n L [wordA, endA] (1 + 1) 1 false := by
  have hat : atL (97 :: 10 :: L) = (97, 1) := atL_ascii 97 (10 :: L) (by decide)
  have hnum : numL (97 :: 10 :: L) = 0 := by
    have hh : headL (97 :: 10 :: L) = 0 := by unfold headL; rw [if_neg (by show ¬ (97 : UInt8).toNat = 45; decide)]
    unfold numL
    rw [hh, List.drop_zero, if_pos (by unfold runT; rw [run_stop1 true _ 97 _ (by decide) (by decide)])]
  have hrun : runT false (97 :: 10 :: L) = (1, 1) := by
    unfold runT
    rw [List.length_cons, runL, if_neg (by rw [hat]; simp; decide), hat]
    show (1 + (runL false (10 :: L).length (10 :: L)).1, (runL false (10 :: L).length (10 :: L)).2 + 1) = (1, 1)
    rw [run_stop1 false _ 10 _ (by decide) (by decide)]
    rfl
  have htx : textL (97 :: 10 :: L) 1 = ⟨#[97]⟩ := rfl
  rw [refL, if_pos (by simp), hat, if_neg (by simp), if_neg (by simp), if_neg (by simp), hnum, if_neg (by omega), if_pos (by decide), hrun, if_neg (by simp), htx]
  show refL (n + 1) (10 :: L) [⟨1, ⟨#[97]⟩, 0, 1, 1⟩] 1 (1 + 1) false = _
  rw [line_one]
  rfl
theorem list_size (s : ByteArray) : s.data.toList.length = s.size := by simp only [Array.length_toList]; rfl
/-- A line more ahead. -/
def aheadB (s : ByteArray) : ByteArray := ⟨#[97, 10]⟩ ++ s
theorem ahead_list (s : ByteArray) : (aheadB s).data.toList = 97 :: 10 :: s.data.toList := by
  unfold aheadB
  rw [ByteArray.data_append, Array.toList_append]
  rfl
theorem ahead_read (s : ByteArray) : (readErr s = 0 → readErr (aheadB s) = 0 ∧ readWords (aheadB s) = [wordA, endA] ++ (readWords s).map downW) ∧ (readErr s ≠ 0 → readErr (aheadB s) = readErr s ∧ readLine (aheadB s) = readLine s + 1) := by
  have h1 := read_list s
  have h2 := read_list (aheadB s)
  have hz : (aheadB s).size = s.size + 2 := by rw [← list_size, ahead_list, List.length_cons, List.length_cons, list_size]
  generalize readWords (aheadB s) = ww at *
  generalize readLine (aheadB s) = wl at *
  generalize readCol (aheadB s) = wc at *
  generalize readErr (aheadB s) = we at *
  generalize readWords s = sw at *
  generalize readLine s = sl at *
  generalize readCol s = sc at *
  generalize readErr s = se at *
  rw [ahead_list, hz, ahead_begin] at h2
  have S := shift_go [wordA, endA] s.size s.data.toList [] 1 1 false
  rw [h1] at S
  simp only [List.map_nil, List.append_nil] at S
  rw [h2] at S
  refine ⟨fun h => ?_, fun h => ?_⟩
  · have := S.1 h
    simp only [Prod.mk.injEq] at this
    exact ⟨this.2.2.2, this.1⟩
  · have := S.2 h
    simp only [Prod.mk.injEq] at this
    exact ⟨this.2.2.2, this.2.1⟩
def tailT : List UInt8 := [59, 32, 226, 134, 146, 120]
theorem tail_skip (g : Nat) (hg : 6 ≤ g) (out : List Wd) (line col : Int) (r : Bool) : refL g tailT out line col r = (out, 0, 0, 0) := by
  obtain ⟨n, rfl⟩ : ∃ n, g = n + 4 := ⟨g - 4, by omega⟩
  show refL (n + 4) (59 :: 32 :: 226 :: 134 :: 146 :: 120 :: []) out line col r = _
  rw [skip_one (by decide) (by decide) (n + 3) _ _ _ _ (by simp), skip_one (by decide) (by decide) (n + 2) _ _ _ _ (by simp)]
  have e : ((r || decide ((59 : UInt8).toNat = 59)) || decide ((32 : UInt8).toNat = 59)) = true := by cases r <;> decide
  rw [e, skip_arrow, skip_one (by decide) (by decide) n _ _ _ _ (by simp), refL_nil]
theorem tail_at : atL tailT = (59, 1) := atL_ascii 59 [32, 226, 134, 146, 120] (by decide)
/-- A run of what is left goes no further into the remark, or ends at bytes that are no rune. -/
theorem run_tail (dg : Bool) : ∀ (f g : Nat) (l : List UInt8), l.length ≤ f → (l ++ tailT).length ≤ g → runL dg g (l ++ tailT) = runL dg f l ∨ (l.drop (runL dg f l).1 ≠ [] ∧ (atL (l.drop (runL dg f l).1)).2 = 0) := by
  intro f
  have base : ∀ (f g : Nat), runL dg g ([] ++ tailT) = runL dg f [] := fun f g => by
    rw [runL_nil]
    exact run_stop1 dg g 59 [32, 226, 134, 146, 120] (by decide) (by cases dg <;> decide)
  induction f with
  | zero =>
    intro g l h1 h2
    rw [List.length_eq_zero_iff.1 (show l.length = 0 by omega)]
    exact .inl (base 0 g)
  | succ f ih =>
    intro g l h1 h2
    by_cases hl : l = []
    · rw [hl]; exact .inl (base _ g)
    have hp := List.length_pos_iff.2 hl
    by_cases h0 : (atL l).2 = 0
    · right
      rw [runL, if_pos (.inr (.inl h0))]
      exact ⟨by simpa using hl, by simpa using h0⟩
    have hat := at_append (t := tailT) h0
    have hle := atL_len l
    cases g with
    | zero => rw [List.length_append] at h2; omega
    | succ g =>
      rw [List.length_append] at h2
      by_cases hs : stopB dg (atL l).1 = true
      · left
        rw [runL, if_pos (.inr (.inr (by rw [hat]; exact hs))), runL, if_pos (.inr (.inr hs))]
      · have hc : ¬ (l = [] ∨ (atL l).2 = 0 ∨ stopB dg (atL l).1 = true) := by rintro (h | h | h); exact hl h; exact h0 h; exact hs h
        have hc' : ¬ (l ++ tailT = [] ∨ (atL (l ++ tailT)).2 = 0 ∨ stopB dg (atL (l ++ tailT)).1 = true) := by rw [hat]; rintro (h | h | h); exact hl (List.append_eq_nil_iff.1 h).1; exact h0 h; exact hs h
        have hd : (l ++ tailT).drop (atL l).2 = l.drop (atL l).2 ++ tailT := List.drop_append_of_le_length hle
        have hI := ih g (l.drop (atL l).2) (by rw [List.length_drop]; omega) (by rw [List.length_append, List.length_drop]; omega)
        rw [runL, if_neg hc', hat, hd]
        have e : runL dg (f + 1) l = ((atL l).2 + (runL dg f (l.drop (atL l).2)).1, (runL dg f (l.drop (atL l).2)).2 + 1) := by rw [runL, if_neg hc]
        rw [e]
        rcases hI with hI | hI
        · left; rw [hI]
        · right
          simp only
          rw [← List.drop_drop]
          exact hI
theorem runT_tail (dg : Bool) (l : List UInt8) : runT dg (l ++ tailT) = runT dg l ∨ (l.drop (runT dg l).1 ≠ [] ∧ (atL (l.drop (runT dg l).1)).2 = 0) := run_tail dg l.length _ l (Nat.le_refl _) (Nat.le_refl _)
theorem numL_tail (l : List UInt8) (hl : l ≠ []) : numL (l ++ tailT) = numL l ∨ (l.drop (headL l + (runT true (l.drop (headL l))).1) ≠ [] ∧ (atL (l.drop (headL l + (runT true (l.drop (headL l))).1))).2 = 0) := by
  have hp := List.length_pos_iff.2 hl
  have hh : headL (l ++ tailT) = headL l := by
    cases l with
    | nil => exact absurd rfl hl
    | cons b r => rfl
  have hle : headL l ≤ l.length := by unfold headL; split <;> omega
  have hd : (l ++ tailT).drop (headL l) = l.drop (headL l) ++ tailT := List.drop_append_of_le_length hle
  rcases runT_tail true (l.drop (headL l)) with h | h
  · left
    unfold numL
    rw [hh, hd, h]
  · right
    rw [← List.drop_drop]
    exact h
theorem err_first {f : Nat} {l : List UInt8} (hl : l ≠ []) (h0 : (atL l).2 = 0) (hf : l.length ≤ f) (out : List Wd) (line col : Int) (r : Bool) : (refL f l out line col r).2.2.2 ≠ 0 := by
  have hp := List.length_pos_iff.2 hl
  obtain ⟨f, rfl⟩ : ∃ f', f = f' + 1 := ⟨f - 1, by omega⟩
  rw [refL, if_pos hl, if_pos h0]
  simp
theorem tail_go : ∀ (f : Nat) (l : List UInt8) (out : List Wd) (line col : Int) (r : Bool) (g : Nat), l.length ≤ f → (l ++ tailT).length ≤ g → (refL f l out line col r).2.2.2 = 0 → refL g (l ++ tailT) out line col r = ((refL f l out line col r).1, 0, 0, 0) := by
  have h6 : tailT.length = 6 := rfl
  intro f
  induction f with
  | zero =>
    intro l out line col r g h1 h2 _
    rw [List.length_append] at h2
    rw [List.length_eq_zero_iff.1 (show l.length = 0 by omega)]
    exact tail_skip g (by omega) out line col r
  | succ f ih =>
    intro l out line col r g h1 h2 he
    rw [List.length_append] at h2
    by_cases hl : l = []
    · subst hl
      rw [refL_nil]
      exact tail_skip g (by omega) out line col r
    have hp := List.length_pos_iff.2 hl
    have hle := atL_len l
    have hne : l ++ tailT ≠ [] := fun e => hl (List.append_eq_nil_iff.1 e).1
    obtain ⟨g, rfl⟩ : ∃ g', g = g' + 1 := ⟨g - 1, by omega⟩
    have hdrop : ∀ n, n ≤ l.length → (l ++ tailT).drop n = l.drop n ++ tailT := fun n hn => List.drop_append_of_le_length hn
    have htake : ∀ n, n ≤ l.length → textL (l ++ tailT) n = textL l n := fun n hn => by unfold textL; rw [List.take_append_of_le_length hn]
    have hrec : ∀ (n : Nat) (out' : List Wd) (line' col' : Int) (r' : Bool), 0 < n → n ≤ l.length → (refL f (l.drop n) out' line' col' r').2.2.2 = 0 → refL g (l.drop n ++ tailT) out' line' col' r' = ((refL f (l.drop n) out' line' col' r').1, 0, 0, 0) := fun n out' line' col' r' hn hnl hh =>
      ih (l.drop n) out' line' col' r' g (by rw [List.length_drop]; omega) (by rw [List.length_append, List.length_drop]; omega) hh
    rw [refL, if_pos hl] at he
    rw [refL, refL, if_pos hne, if_pos hl]
    by_cases h0 : (atL l).2 = 0
    · rw [if_pos h0] at he; exact absurd he (by simp)
    have hat := at_append (t := tailT) h0
    rw [if_neg h0] at he
    rw [hat, if_neg h0, if_neg h0]
    by_cases h10 : (atL l).1 = 10
    · rw [if_pos h10] at he
      rw [if_pos h10, if_pos h10, hdrop 1 hp]
      exact hrec 1 _ _ _ _ (by omega) hp he
    rw [if_neg h10] at he
    rw [if_neg h10, if_neg h10]
    by_cases hs : r = true ∨ (atL l).1 = 32 ∨ (atL l).1 = 9 ∨ (atL l).1 = 59
    · rw [if_pos hs] at he
      rw [if_pos hs, if_pos hs, hdrop _ hle]
      exact hrec _ _ _ _ _ (by omega) hle he
    rw [if_neg hs] at he
    rw [if_neg hs, if_neg hs]
    by_cases hn : 0 < numL l
    · rw [if_pos hn] at he
      have hnl := numL_le l hl
      have heq : numL l = headL l + (runT true (l.drop (headL l))).1 := by
        unfold numL at hn ⊢
        split at hn
        · omega
        · rw [if_neg ‹_›]
      by_cases hv : valOk (textL l (numL l)) = true
      · rw [if_pos hv] at he
        by_cases hx : 0 < (atL (l.drop (numL l))).2 ∧ letterB ((atL (l.drop (numL l))).1 : Int) = true
        · rw [if_pos hx] at he; exact absurd he (by simp)
        · rw [if_neg hx] at he
          rcases numL_tail l hl with hq | hq
          · have hx' : ¬ (0 < (atL (l.drop (numL l) ++ tailT)).2 ∧ letterB ((atL (l.drop (numL l) ++ tailT)).1 : Int) = true) := by
              by_cases hd : l.drop (numL l) = []
              · rw [hd, List.nil_append, tail_at]
                rintro ⟨_, hb⟩
                exact absurd hb (by decide)
              · by_cases ha : (atL (l.drop (numL l))).2 = 0
                · exact absurd he (err_first hd ha (by rw [List.length_drop]; omega) _ _ _ _)
                · rw [at_append ha]; exact hx
            rw [hq, if_pos hn, if_pos hn, htake _ hnl, if_pos hv, if_pos hv, hdrop _ hnl, if_neg hx', if_neg hx]
            exact hrec _ _ _ _ _ hn hnl he
          · rw [← heq] at hq
            exact absurd he (err_first hq.1 hq.2 (by rw [List.length_drop]; omega) _ _ _ _)
      · rw [if_neg hv] at he; exact absurd he (by simp)
    rw [if_neg hn] at he
    have hn' : ¬ 0 < numL (l ++ tailT) := by
      rcases numL_tail l hl with hq | hq
      · rw [hq]; exact hn
      · -- the run has no digit: it ends where it begins
        intro hpos
        have hz : (runT true (l.drop (headL l))).1 = 0 := by
          apply Classical.byContradiction
          intro hc
          exact hn (by unfold numL; rw [if_neg hc]; omega)
        rw [hz, Nat.add_zero] at hq
        by_cases hh : headL l = 0
        · rw [hh, List.drop_zero] at hq
          exact h0 hq.2
        · -- a minus, and bytes that are no rune behind it: no sign, no letter
          have h45 : hdB l 0 = 45 := by
            unfold headL at hh
            split at hh
            · assumption
            · exact absurd rfl hh
          have ha : atL l = (45, 1) := by
            unfold atL
            rw [if_neg hl, h45, dec_one _ _ _ _ _ (by decide), if_neg (by simp)]
          rw [ha, if_neg (by decide), if_neg (by decide)] at he
          exact absurd he (by simp)
    rw [if_neg hn, if_neg hn']
    by_cases hlt : letterB ((atL l).1 : Int) = true
    · rw [if_pos hlt] at he
      rw [if_pos hlt, if_pos hlt]
      by_cases h16 : 16 < (runT false l).2
      · rw [if_pos h16] at he; exact absurd he (by simp)
      · rw [if_neg h16] at he
        have hrl : (runT false l).1 ≤ l.length := runL_len false l.length l
        have hpos : 0 < (runT false l).1 := by
          unfold runT
          obtain ⟨m, hm⟩ : ∃ m, l.length = m + 1 := ⟨l.length - 1, by omega⟩
          rw [hm, runL, if_neg (by
            rintro (h | h | h)
            · exact hl h
            · exact h0 h
            · simp [stopB, hlt] at h)]
          simp only
          omega
        rcases runT_tail false l with hq | hq
        · rw [hq, if_neg h16, if_neg h16, htake _ hrl, hdrop _ hrl]
          exact hrec _ _ _ _ _ hpos hrl he
        · exact absurd he (err_first hq.1 hq.2 (by rw [List.length_drop]; omega) _ _ _ _)
    rw [if_neg hlt] at he
    rw [if_neg hlt, if_neg hlt]
    by_cases hg : signB ((atL l).1 : Int) = true
    · rw [if_pos hg] at he
      rw [if_pos hg, if_pos hg, htake _ hle, hdrop _ hle]
      exact hrec _ _ _ _ _ (by omega) hle he
    · rw [if_neg hg] at he; exact absurd he (by simp)
/-- A remark behind. -/
def behindT (s : ByteArray) : ByteArray := s ++ ⟨#[59, 32, 226, 134, 146, 120]⟩
theorem behind_list (s : ByteArray) : (behindT s).data.toList = s.data.toList ++ tailT := by
  unfold behindT
  rw [ByteArray.data_append, Array.toList_append]
  rfl
theorem behind_read (s : ByteArray) (h : readErr s = 0) : readErr (behindT s) = 0 ∧ readWords (behindT s) = readWords s := by
  have h1 := read_list s
  have h2 := read_list (behindT s)
  have hz : (behindT s).size = (s.data.toList ++ tailT).length := by rw [← list_size, behind_list]
  generalize readWords (behindT s) = ww at *
  generalize readLine (behindT s) = wl at *
  generalize readCol (behindT s) = wc at *
  generalize readErr (behindT s) = we at *
  generalize readWords s = sw at *
  generalize readLine s = sl at *
  generalize readCol s = sc at *
  generalize readErr s = se at *
  rw [behind_list, hz, tail_go s.size s.data.toList [] 1 1 false _ (Nat.le_of_eq (list_size s)) (Nat.le_refl _) (by rw [h1]; exact h), h1] at h2
  simp only [Prod.mk.injEq] at h2
  exact ⟨h2.2.2.2.symm, h2.1.symm⟩
theorem fault_line (s : ByteArray) (h : readErr s ≠ 0) : 1 ≤ readLine s := by
  have gen : ∀ (f : Nat) (l : List UInt8) (out : List Wd) (line col : Int) (r : Bool), 1 ≤ line → (refL f l out line col r).2.2.2 ≠ 0 → 1 ≤ (refL f l out line col r).2.1 := by
    intro f
    induction f with
    | zero => intro l out line col r _ hne; exact absurd rfl hne
    | succ f ih =>
      intro l out line col r hl
      rw [refL]
      split
      · split
        · exact fun _ => hl
        split
        · exact ih _ _ _ _ _ (by omega)
        split
        · exact ih _ _ _ _ _ hl
        split
        · split
          · split
            · exact fun _ => hl
            · exact ih _ _ _ _ _ hl
          · exact fun _ => hl
        split
        · split
          · exact fun _ => hl
          · exact ih _ _ _ _ _ hl
        split
        · exact ih _ _ _ _ _ hl
        · exact fun _ => hl
      · exact fun hne => absurd rfl hne
  have h1 := read_list s
  have := gen s.size s.data.toList [] 1 1 false (by omega)
  rw [h1] at this
  exact this h
end Go.Proofs.Ytfnmkgfaoacnpaa
