/-
  The document's reading as a function of the bytes that are left (plainly). No condition beyond those that each theorem states.
-/
import Derived.Test.YtjmdgbgjleeloaaGreatDoorPk20
namespace Go.Proofs.YtjmdgbgjleeloaaGreatDoor

def hdB (l : List UInt8) (k : Nat) : Nat := (l.getD k 0).toNat
/-- The rune at the begin, and its width; 0, 0: there is none. -/
def atL (l : List UInt8) : Nat × Nat :=
  if l = [] then (0, 0)
  else if (Lib.decodeN l.length (hdB l 0) (hdB l 1) (hdB l 2) (hdB l 3)).1 = 65533 ∧ (Lib.decodeN l.length (hdB l 0) (hdB l 1) (hdB l 2) (hdB l 3)).2 = 1 then (0, 0)
  else Lib.decodeN l.length (hdB l 0) (hdB l 1) (hdB l 2) (hdB l 3)
def restB (s : ByteArray) (i : Nat) : List UInt8 := s.data.toList.drop i
theorem restB_len (s : ByteArray) (i : Nat) : (restB s i).length = s.size - i := by
  unfold restB
  simp only [List.length_drop, Array.length_toList]
  rfl
theorem restB_drop (s : ByteArray) (i n : Nat) : (restB s i).drop n = restB s (i + n) := by unfold restB; rw [List.drop_drop]
theorem hdB_rest (s : ByteArray) (i k : Nat) : hdB (restB s i) k = (s.get! (i + k)).toNat := by
  unfold hdB restB
  rw [List.getD_eq_getElem?_getD, List.getElem?_drop]
  by_cases h : i + k < s.size
  · rw [get_eq s _ h, Array.getElem?_toList]
    rw [Array.getElem?_eq_getElem (show i + k < s.data.size from h)]
    rfl
  · rw [List.getElem?_eq_none (by simp only [Array.length_toList]; have : s.data.size = s.size := rfl; omega)]
    have : s.get! (i + k) = 0 := by
      show s.data[i + k]! = 0
      rw [getElem!_neg _ _ (by have : s.data.size = s.size := rfl; omega)]
      rfl
    rw [this]
    rfl
theorem at_list (s : ByteArray) (i : Nat) : atP s i = atL (restB s i) := by
  have hl := restB_len s i
  unfold atP atL
  by_cases h : i < s.size
  · have hne : restB s i ≠ [] := by intro e; rw [e] at hl; simp at hl; omega
    rw [if_pos h, if_neg hne, Lib.decode_at, hl]
    simp only [hdB_rest, Nat.add_zero]
  · rw [if_neg h, if_pos (List.length_eq_zero_iff.1 (by omega))]
theorem atL_len (l : List UInt8) : (atL l).2 ≤ l.length := by
  unfold atL
  split
  · simp
  · rename_i h
    have hp := List.length_pos_iff.2 h
    split
    · simp
    · generalize hdB l 0 = b0
      generalize hdB l 1 = b1
      generalize hdB l 2 = b2
      generalize hdB l 3 = b3
      unfold Lib.decodeN
      repeat' split
      all_goals simp only
      all_goals omega
/-- How many bytes and runes a run has. -/
def runL (dg : Bool) : Nat → List UInt8 → Nat × Nat
  | 0, _ => (0, 0)
  | f + 1, l => if l = [] ∨ (atL l).2 = 0 ∨ stopB dg (atL l).1 = true then (0, 0) else ((atL l).2 + (runL dg f (l.drop (atL l).2)).1, (runL dg f (l.drop (atL l).2)).2 + 1)
theorem runL_len (dg : Bool) : ∀ (f : Nat) (l : List UInt8), (runL dg f l).1 ≤ l.length := by
  intro f
  induction f with
  | zero => intro l; simp [runL]
  | succ f ih =>
    intro l
    rw [runL]
    split
    · simp
    · have := ih (l.drop (atL l).2)
      have := atL_len l
      rw [List.length_drop] at *
      simp only
      omega
theorem runL_nil (dg : Bool) (f : Nat) : runL dg f [] = (0, 0) := by
  cases f with
  | zero => rfl
  | succ f => rw [runL, if_pos (.inl rfl)]
theorem runL_fuel (dg : Bool) : ∀ (f g : Nat) (l : List UInt8), l.length ≤ f → l.length ≤ g → runL dg f l = runL dg g l := by
  intro f
  induction f with
  | zero => intro g l h _; rw [List.length_eq_zero_iff.1 (show l.length = 0 by omega), runL_nil, runL_nil]
  | succ f ih =>
    intro g l h1 h2
    cases g with
    | zero => rw [List.length_eq_zero_iff.1 (show l.length = 0 by omega), runL_nil, runL_nil]
    | succ g =>
      rw [runL, runL]
      by_cases hc : l = [] ∨ (atL l).2 = 0 ∨ stopB dg (atL l).1 = true
      · rw [if_pos hc, if_pos hc]
      · have h0 : (atL l).2 ≠ 0 := fun e => hc (.inr (.inl e))
        have hne : l ≠ [] := fun e => hc (.inl e)
        have hp := List.length_pos_iff.2 hne
        rw [if_neg hc, if_neg hc, ih g _ (by rw [List.length_drop]; omega) (by rw [List.length_drop]; omega)]
def runT (dg : Bool) (l : List UInt8) : Nat × Nat := runL dg l.length l
theorem run_end (s : ByteArray) (dg : Bool) : ∀ (f i n : Nat), i ≤ s.size → runEnd s dg f i n = (i + (runL dg f (restB s i)).1, n + (runL dg f (restB s i)).2) := by
  intro f
  induction f with
  | zero => intro i n _; rfl
  | succ f ih =>
    intro i n hi
    have hl := restB_len s i
    rw [runEnd, runL]
    by_cases h : i < s.size
    · have hne : restB s i ≠ [] := by intro e; rw [e] at hl; simp at hl; omega
      rw [if_pos h, at_list]
      by_cases hc : (atL (restB s i)).2 = 0 ∨ stopB dg (atL (restB s i)).1 = true
      · rw [if_pos hc, if_pos (.inr hc)]
        rfl
      · rw [if_neg hc, if_neg (by rintro (h | h); exact hne h; exact hc h)]
        have hle := atP_le s i h
        rw [at_list] at hle
        rw [ih _ _ hle, restB_drop]
        simp only [Prod.mk.injEq]
        omega
    · have hne : restB s i = [] := List.length_eq_zero_iff.1 (by omega)
      rw [if_neg h, if_pos (.inl hne)]
      rfl
theorem run_to (s : ByteArray) (dg : Bool) (i : Nat) (hi : i ≤ s.size) : runTo s dg i = (i + (runT dg (restB s i)).1, (runT dg (restB s i)).2) := by
  unfold runTo runT
  rw [run_end s dg s.size i 0 hi, runL_fuel dg s.size (restB s i).length (restB s i) (by rw [restB_len]; omega) (Nat.le_refl _)]
  simp
def headL (l : List UInt8) : Nat := if hdB l 0 = 45 then 1 else 0
def numL (l : List UInt8) : Nat := if (runT true (l.drop (headL l))).1 = 0 then 0 else headL l + (runT true (l.drop (headL l))).1
theorem num_len (s : ByteArray) (i : Nat) (hi : i < s.size) : numLen s i = numL (restB s i) := by
  have hh : headOf s i = i + headL (restB s i) := by
    unfold headOf headL
    simp only [hdB_rest, Nat.add_zero]
    split <;> rfl
  have hle : headL (restB s i) ≤ 1 := by unfold headL; split <;> omega
  unfold numLen numL
  rw [hh, run_to s true _ (by omega), restB_drop]
  simp only [Nat.add_sub_cancel_left]
def textL (l : List UInt8) (n : Nat) : ByteArray := ⟨(l.take n).toArray⟩
theorem part_text (s : ByteArray) (i n : Nat) (_ : i + n ≤ s.size) : partOf s i (i + n) = textL (restB s i) n := by
  apply ByteArray.ext
  apply Array.toList_inj.1
  unfold partOf textL restB
  rw [ByteArray.data_extract, Array.toList_extract, List.extract_eq_take_drop]
  simp
/-- The document's reading of the bytes that are left. -/
def refL : Nat → List UInt8 → List Wd → Int → Int → Bool → (List Wd × Int × Int × Int)
  | 0, _, out, _, _, _ => (out, 0, 0, 0)
  | f + 1, l, out, line, col, rem =>
    if l ≠ [] then
      (if (atL l).2 = 0 then ([], line, col, 6)
       else if (atL l).1 = 10 then refL f (l.drop 1) (out ++ [⟨4, noText, 0, line, col⟩]) (line + 1) 1 false
       else if rem = true ∨ (atL l).1 = 32 ∨ (atL l).1 = 9 ∨ (atL l).1 = 59 then refL f (l.drop (atL l).2) out line (col + 1) (rem || decide ((atL l).1 = 59))
       else if 0 < numL l then
         (if valOk (textL l (numL l)) = true then
            (if 0 < (atL (l.drop (numL l))).2 ∧ letterB (atL (l.drop (numL l))).1 = true then ([], line, col + numL l, 6)
             else refL f (l.drop (numL l)) (out ++ [⟨2, textL l (numL l), valN (textL l (numL l)), line, col⟩]) line (col + numL l) false)
          else ([], line, col, 3))
       else if letterB (atL l).1 = true then
         (if 16 < (runT false l).2 then ([], line, col, 3)
          else refL f (l.drop (runT false l).1) (out ++ [⟨1, textL l (runT false l).1, 0, line, col⟩]) line (col + (runT false l).2) false)
       else if signB (atL l).1 = true then refL f (l.drop (atL l).2) (out ++ [⟨3, textL l (atL l).2, 0, line, col⟩]) line (col + 1) false
       else ([], line, col, 6))
    else (out, 0, 0, 0)
theorem ref_list (s : ByteArray) : ∀ (f i : Nat) (out : List Wd) (l c : Int) (r : Bool), i ≤ s.size → refGo s f out l c r i = refL f (restB s i) out l c r := by
  intro f
  induction f with
  | zero => intro i out l c r _; rfl
  | succ f ih =>
    intro i out l c r hi
    have hl := restB_len s i
    rw [refGo, refL]
    by_cases h : i < s.size
    · have hne : restB s i ≠ [] := by intro e; rw [e] at hl; simp at hl; omega
      have hal := atP_le s i h
      have hnl := numLen_le s i h
      have hrt := runTo_le s false i hi
      have e1 := num_len s i h
      have e2 := run_to s false i hi
      have e3 := at_list s i
      have e4 : numEnd s i = i + numL (restB s i) := by unfold numEnd; rw [e1]
      rw [e1] at hnl
      rw [e2] at hrt
      simp only at hrt
      rw [if_pos h, if_pos hne, e1, e2, e4, e3]
      rw [e3] at hal
      simp only [part_text s i _ hnl, part_text s i _ hrt.2.1, part_text s i _ hal, at_list s (i + numL (restB s i)), restB_drop]
      rw [ih (i + 1) _ _ _ _ (by omega), ih (i + (atL (restB s i)).2) _ _ _ _ hal, ih (i + numL (restB s i)) _ _ _ _ hnl, ih (i + (runT false (restB s i)).1) _ _ _ _ hrt.2.1, ih (i + (atL (restB s i)).2) _ _ _ _ hal]
    · have hne : restB s i = [] := List.length_eq_zero_iff.1 (by omega)
      rw [if_neg h, if_neg (by simp [hne])]
theorem read_list (s : ByteArray) : refL s.size s.data.toList [] 1 1 false = (readWords s, readLine s, readCol s, readErr s) := by
  have := read_eq s
  unfold refRead at this
  rw [ref_list s _ _ _ _ _ _ (Nat.zero_le _)] at this
  exact this
end Go.Proofs.YtjmdgbgjleeloaaGreatDoor
