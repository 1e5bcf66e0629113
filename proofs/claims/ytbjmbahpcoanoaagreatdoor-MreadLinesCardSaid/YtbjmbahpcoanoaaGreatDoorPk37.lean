/-
  The document's reading as a function of the bytes that are left (plainly). No condition beyond those that each theorem states.
  A text with more empty lines, spaces and remarks between its lines has the same words, but for ends that a cursor does not have (plainly). No condition beyond those that each theorem states.
-/
import Derived.Test.YtbjmbahpcoanoaaGreatDoorPk23
import Derived.Test.YtbjmbahpcoanoaaGreatDoorPk2
namespace Go.Proofs.YtbjmbahpcoanoaaGreatDoor

def hdB (l : List UInt8) (k : Nat) : Nat := (l.getD k 0).toNat
/-- The rune at the begin, and its width; 0, 0: there is none. -/
def atL (l : List UInt8) : Nat × Nat :=
 if l = [] then (0, 0)
 else if (Lib.decodeN l.length (hdB l 0) (hdB l 1) (hdB l 2) (hdB l 3)).1 = 65533 ∧ (Lib.decodeN l.length (hdB l 0) (hdB l 1) (hdB l 2) (hdB l 3)).2 = 1 then (0, 0)
 else Lib.decodeN l.length (hdB l 0) (hdB l 1) (hdB l 2) (hdB l 3)
def restB (s : ByteArray) (i : Nat) : List UInt8 := s.data.toList.drop i
theorem restB_len (s : ByteArray) (i : Nat) : (restB s i).length = s.size - i := by
 unfold restB
 simp only [List.length_drop, Array.length_toList]
 rfl
theorem restB_drop (s : ByteArray) (i n : Nat) : (restB s i).drop n = restB s (i + n) := by unfold restB; rw [List.drop_drop]
theorem hdB_rest (s : ByteArray) (i k : Nat) : hdB (restB s i) k = (s.get! (i + k)).toNat := by
 unfold hdB restB
 rw [List.getD_eq_getElem?_getD, List.getElem?_drop]
 by_cases h : i + k < s.size
 · rw [get_eq s _ h, Array.getElem?_toList]
   rw [Array.getElem?_eq_getElem (show i + k < s.data.size from h)]
   rfl
 · rw [List.getElem?_eq_none (by simp only [Array.length_toList]; have : s.data.size = s.size := rfl; omega)]
   have : s.get! (i + k) = 0 := by
    show s.data[i + k]! = 0
    rw [getElem!_neg _ _ (by have : s.data.size = s.size := rfl; omega)]
    rfl
   rw [this]
   rfl
theorem at_list (s : ByteArray) (i : Nat) : atP s i = atL (restB s i) := by
 have hl := restB_len s i
 unfold atP atL
 by_cases h : i < s.size
 · have hne : restB s i ≠ [] := by intro e; rw [e] at hl; simp at hl; omega
   rw [if_pos h, if_neg hne, Lib.decode_at, hl]
   simp only [hdB_rest, Nat.add_zero]
 · rw [if_neg h, if_pos (List.length_eq_zero_iff.1 (by omega))]
theorem atL_len (l : List UInt8) : (atL l).2 ≤ l.length := by
 unfold atL
 split
 · simp
 · rename_i h
   have hp := List.length_pos_iff.2 h
   split
   · simp
   · generalize hdB l 0 = b0
     generalize hdB l 1 = b1
     generalize hdB l 2 = b2
     generalize hdB l 3 = b3
     unfold Lib.decodeN
     repeat' split
     all_goals simp only
     all_goals omega
/-- How many bytes and runes a run has. -/
def runL (dg : Bool) : Nat → List UInt8 → Nat × Nat
 | 0, _ => (0, 0)
 | f + 1, l => if l = [] ∨ (atL l).2 = 0 ∨ stopB dg (atL l).1 = true then (0, 0) else ((atL l).2 + (runL dg f (l.drop (atL l).2)).1, (runL dg f (l.drop (atL l).2)).2 + 1)
theorem runL_len (dg : Bool) : ∀ (f : Nat) (l : List UInt8), (runL dg f l).1 ≤ l.length := by
 intro f
 induction f with
 | zero => intro l; simp [runL]
 | succ f ih =>
  intro l
  rw [runL]
  split
  · simp
  · have := ih (l.drop (atL l).2)
    have := atL_len l
    rw [List.length_drop] at *
    simp only
    omega
theorem runL_nil (dg : Bool) (f : Nat) : runL dg f [] = (0, 0) := by
 cases f with
 | zero => rfl
 | succ f => rw [runL, if_pos (.inl rfl)]
theorem runL_fuel (dg : Bool) : ∀ (f g : Nat) (l : List UInt8), l.length ≤ f → l.length ≤ g → runL dg f l = runL dg g l := by
 intro f
 induction f with
 | zero => intro g l h _; rw [List.length_eq_zero_iff.1 (show l.length = 0 by omega), runL_nil, runL_nil]
 | succ f ih =>
  intro g l h1 h2
  cases g with
  | zero => rw [List.length_eq_zero_iff.1 (show l.length = 0 by omega), runL_nil, runL_nil]
  | succ g =>
   rw [runL, runL]
   by_cases hc : l = [] ∨ (atL l).2 = 0 ∨ stopB dg (atL l).1 = true
   · rw [if_pos hc, if_pos hc]
   · have h0 : (atL l).2 ≠ 0 := fun e => hc (.inr (.inl e))
     have hne : l ≠ [] := fun e => hc (.inl e)
     have hp := List.length_pos_iff.2 hne
     rw [if_neg hc, if_neg hc, ih g _ (by rw [List.length_drop]; omega) (by rw [List.length_drop]; omega)]
def runT (dg : Bool) (l : List UInt8) : Nat × Nat := runL dg l.length l
theorem run_end (s : ByteArray) (dg : Bool) : ∀ (f i n : Nat), i ≤ s.size → runEnd s dg f i n = (i + (runL dg f (restB s i)).1, n + (runL dg f (restB s i)).2) := by
 intro f
 induction f with
 | zero => intro i n _; rfl
 | succ f ih =>
  intro i n hi
  have hl := restB_len s i
  rw [runEnd, runL]
  by_cases h : i < s.size
  · have hne : restB s i ≠ [] := by intro e; rw [e] at hl; simp at hl; omega
    rw [if_pos h, at_list]
    by_cases hc : (atL (restB s i)).2 = 0 ∨ stopB dg (atL (restB s i)).1 = true
    · rw [if_pos hc, if_pos (.inr hc)]
      rfl
    · rw [if_neg hc, if_neg (by rintro (h | h); exact hne h; exact hc h)]
      have hle := atP_le s i h
      rw [at_list] at hle
      rw [ih _ _ hle, restB_drop]
      simp only [Prod.mk.injEq]
      omega
  · have hne : restB s i = [] := List.length_eq_zero_iff.1 (by omega)
    rw [if_neg h, if_pos (.inl hne)]
    rfl
theorem run_to (s : ByteArray) (dg : Bool) (i : Nat) (hi : i ≤ s.size) : runTo s dg i = (i + (runT dg (restB s i)).1, (runT dg (restB s i)).2) := by
 unfold runTo runT
 rw [run_end s dg s.size i 0 hi, runL_fuel dg s.size (restB s i).length (restB s i) (by rw [restB_len]; omega) (Nat.le_refl _)]
 simp
def headL (l : List UInt8) : Nat := if hdB l 0 = 45 then 1 else 0
def numL (l : List UInt8) : Nat := if (runT true (l.drop (headL l))).1 = 0 then 0 else headL l + (runT true (l.drop (headL l))).1
theorem num_len (s : ByteArray) (i : Nat) (hi : i < s.size) : numLen s i = numL (restB s i) := by
 have hh : headOf s i = i + headL (restB s i) := by
  unfold headOf headL
  simp only [hdB_rest, Nat.add_zero]
  split <;> rfl
 have hle : headL (restB s i) ≤ 1 := by unfold headL; split <;> omega
 unfold numLen numL
 rw [hh, run_to s true _ (by omega), restB_drop]
 simp only [Nat.add_sub_cancel_left]
def textL (l : List UInt8) (n : Nat) : ByteArray := ⟨(l.take n).toArray⟩
theorem part_text (s : ByteArray) (i n : Nat) (_ : i + n ≤ s.size) : partOf s i (i + n) = textL (restB s i) n := by
 apply ByteArray.ext
 apply Array.toList_inj.1
 unfold partOf textL restB
 rw [ByteArray.data_extract, Array.toList_extract, List.extract_eq_take_drop]
 simp
/-- The document's reading of the bytes that are left. -/
def refL : Nat → List UInt8 → List Wd → Int → Int → Bool → (List Wd × Int × Int × Int)
 | 0, _, out, _, _, _ => (out, 0, 0, 0)
 | f + 1, l, out, line, col, rem =>
  if l ≠ [] then
   (if (atL l).2 = 0 then ([], line, col, 6)
    else if (atL l).1 = 10 then refL f (l.drop 1) (out ++ [⟨4, noText, 0, line, col⟩]) (line + 1) 1 false
    else if rem = true ∨ (atL l).1 = 32 ∨ (atL l).1 = 9 ∨ (atL l).1 = 59 then refL f (l.drop (atL l).2) out line (col + 1) (rem || decide ((atL l).1 = 59))
    else if 0 < numL l then
     (if valOk (textL l (numL l)) = true then
        (if 0 < (atL (l.drop (numL l))).2 ∧ letterB (atL (l.drop (numL l))).1 = true then ([], line, col + numL l, 6)
         else refL f (l.drop (numL l)) (out ++ [⟨2, textL l (numL l), valN (textL l (numL l)), line, col⟩]) line (col + numL l) false)
      else ([], line, col, 3))
    else if letterB (atL l).1 = true then
     (if 16 < (runT false l).2 then ([], line, col, 3)
      else refL f (l.drop (runT false l).1) (out ++ [⟨1, textL l (runT false l).1, 0, line, col⟩]) line (col + (runT false l).2) false)
    else if signB (atL l).1 = true then refL f (l.drop (atL l).2) (out ++ [⟨3, textL l (atL l).2, 0, line, col⟩]) line (col + 1) false
    else ([], line, col, 6))
  else (out, 0, 0, 0)
theorem ref_list (s : ByteArray) : ∀ (f i : Nat) (out : List Wd) (l c : Int) (r : Bool), i ≤ s.size → refGo s f out l c r i = refL f (restB s i) out l c r := by
 intro f
 induction f with
 | zero => intro i out l c r _; rfl
 | succ f ih =>
  intro i out l c r hi
  have hl := restB_len s i
  rw [refGo, refL]
  by_cases h : i < s.size
  · have hne : restB s i ≠ [] := by intro e; rw [e] at hl; simp at hl; omega
    have hal := atP_le s i h
    have hnl := numLen_le s i h
    have hrt := runTo_le s false i hi
    have e1 := num_len s i h
    have e2 := run_to s false i hi
    have e3 := at_list s i
    have e4 : numEnd s i = i + numL (restB s i) := by unfold numEnd; rw [e1]
    rw [e1] at hnl
    rw [e2] at hrt
    simp only at hrt
    rw [if_pos h, if_pos hne, e1, e2, e4, e3]
    rw [e3] at hal
    simp only [part_text s i _ hnl, part_text s i _ hrt.2.1, part_text s i _ hal, at_list s (i + numL (restB s i)), restB_drop]
    rw [ih (i + 1) _ _ _ _ (by omega), ih (i + (atL (restB s i)).2) _ _ _ _ hal, ih (i + numL (restB s i)) _ _ _ _ hnl, ih (i + (runT false (restB s i)).1) _ _ _ _ hrt.2.1, ih (i + (atL (restB s i)).2) _ _ _ _ hal]
  · have hne : restB s i = [] := List.length_eq_zero_iff.1 (by omega)
    rw [if_neg h, if_neg (by simp [hne])]
theorem read_list (s : ByteArray) : refL s.size s.data.toList [] 1 1 false = (readWords s, readLine s, readCol s, readErr s) := by
 have := read_eq s
 unfold refRead at this
 rw [ref_list s _ _ _ _ _ _ (Nat.zero_le _)] at this
 exact this
end Go.Proofs.YtbjmbahpcoanoaaGreatDoor
namespace Go.Proofs.YtbjmbahpcoanoaaGreatDoor

def insB : List UInt8 := [32, 59, 32, 226, 134, 146, 10]
/-- With more between its lines. -/
def expand : List UInt8 → List UInt8
 | [] => []
 | b :: r => b :: (if b = 10 then insB ++ expand r else expand r)
theorem expand_nil {l : List UInt8} : expand l = [] ↔ l = [] := by cases l <;> simp [expand]
theorem expand_len (l : List UInt8) : l.length ≤ (expand l).length := by
 induction l with
 | nil => simp
 | cons b r ih =>
  rw [expand]
  split <;> simp <;> omega
theorem expand_split : ∀ (n : Nat) (l : List UInt8), n ≤ l.length → (∀ b ∈ l.take n, b ≠ 10) → (expand l).drop n = expand (l.drop n) ∧ (expand l).take n = l.take n := by
 intro n
 induction n with
 | zero => intro l _ _; simp
 | succ n ih =>
  intro l hn hb
  cases l with
  | nil => simp at hn
  | cons b r =>
   have h0 : b ≠ 10 := hb b (by simp)
   rw [expand, if_neg h0]
   obtain ⟨h1, h2⟩ := ih r (by simpa using hn) (fun c hc => hb c (by simp [hc]))
   exact ⟨by simpa using h1, by simp [h2]⟩
theorem decodeN_same (n n' b0 b1 b2 b3 c1 c2 c3 : Nat) (h1 : (1 < n ↔ 1 < n') ∧ (1 < n → b1 = c1)) (h2 : 1 < n → b1 / 64 = 2 → (2 < n ↔ 2 < n') ∧ (2 < n → b2 = c2))
    (h3 : 1 < n → b1 / 64 = 2 → 2 < n → b2 / 64 = 2 → (3 < n ↔ 3 < n') ∧ (3 < n → b3 = c3)) : Lib.decodeN n b0 b1 b2 b3 = Lib.decodeN n' b0 c1 c2 c3 := by
 unfold Lib.decodeN
 by_cases a1 : 1 < n
 · have e1 := h1.2 a1
   have a1' := h1.1.1 a1
   subst e1
   by_cases d1 : b1 / 64 = 2
   · have g2 := h2 a1 d1
     by_cases a2 : 2 < n
     · have e2 := g2.2 a2
       have a2' := g2.1.1 a2
       subst e2
       by_cases d2 : b2 / 64 = 2
       · have g3 := h3 a1 d1 a2 d2
         by_cases a3 : 3 < n
         · have e3 := g3.2 a3
           have a3' := g3.1.1 a3
           subst e3
           simp [a1, a1', a2, a2', a3, a3']
         · have a3' : ¬ 3 < n' := fun h => a3 (g3.1.2 h)
           simp [a1, a1', a2, a2', a3, a3']
       · simp [a1, a1', a2, a2', d2]
     · have a2' : ¬ 2 < n' := fun h => a2 (g2.1.2 h)
       simp [a1, a1', a2, a2']
   · simp [d1]
 · have a1' : ¬ 1 < n' := fun h => a1 (h1.1.2 h)
   simp [a1, a1']
theorem decodeN_low (n b0 b1 b2 b3 : Nat) (h : b0 < 128) : Lib.decodeN n b0 b1 b2 b3 = (b0, 1) := by unfold Lib.decodeN; rw [if_pos h]
theorem at_expand (l : List UInt8) : atL (expand l) = atL l := by
 cases l with
 | nil => rfl
 | cons b0 r0 =>
  have key : Lib.decodeN (expand (b0 :: r0)).length (hdB (expand (b0 :: r0)) 0) (hdB (expand (b0 :: r0)) 1) (hdB (expand (b0 :: r0)) 2) (hdB (expand (b0 :: r0)) 3) = Lib.decodeN (b0 :: r0).length (hdB (b0 :: r0) 0) (hdB (b0 :: r0) 1) (hdB (b0 :: r0) 2) (hdB (b0 :: r0) 3) := by
   have e0 : hdB (expand (b0 :: r0)) 0 = hdB (b0 :: r0) 0 := rfl
   rw [e0]
   by_cases hb : hdB (b0 :: r0) 0 < 128
   · rw [decodeN_low _ _ _ _ _ hb, decodeN_low _ _ _ _ _ hb]
   · have hb' : ¬ b0.toNat < 128 := hb
     have h10 : b0 ≠ 10 := fun e => hb' (by rw [e]; decide)
     rw [expand, if_neg h10]
     symm
     refine decodeN_same _ _ _ _ _ _ _ _ _ ?_ ?_ ?_
     · cases r0 with
       | nil => simp [expand]
       | cons b1 r1 => exact ⟨by simp [expand], fun _ => rfl⟩
     · intro _ hd
       cases r0 with
       | nil => simp [expand]
       | cons b1 r1 =>
        have h10 : b1 ≠ 10 := fun e => by subst e; have hd' : (10 : UInt8).toNat / 64 = 2 := hd; exact absurd hd' (by decide)
        rw [expand, if_neg h10]
        cases r1 with
        | nil => simp [expand]
        | cons b2 r2 => exact ⟨by simp [expand], fun _ => rfl⟩
     · intro _ hd _ hd2
       cases r0 with
       | nil => simp [expand]
       | cons b1 r1 =>
        have h10 : b1 ≠ 10 := fun e => by subst e; have hd' : (10 : UInt8).toNat / 64 = 2 := hd; exact absurd hd' (by decide)
        rw [expand, if_neg h10]
        cases r1 with
        | nil => simp [expand]
        | cons b2 r2 =>
         have h10 : b2 ≠ 10 := fun e => by subst e; have hd' : (10 : UInt8).toNat / 64 = 2 := hd2; exact absurd hd' (by decide)
         rw [expand, if_neg h10]
         cases r2 with
         | nil => simp [expand]
         | cons b3 r3 => exact ⟨by simp [expand], fun _ => rfl⟩
  unfold atL
  rw [key, if_neg (show ¬ expand (b0 :: r0) = [] by simp [expand]), if_neg (show ¬ b0 :: r0 = [] by simp)]
theorem atL_ascii (b : UInt8) (r : List UInt8) (h : b.toNat < 128) : atL (b :: r) = (b.toNat, 1) := by
 have e0 : hdB (b :: r) 0 = b.toNat := rfl
 unfold atL
 rw [if_neg (show ¬ b :: r = [] by simp), e0, decodeN_low _ _ _ _ _ h, if_neg (by simp only; rintro ⟨h1, _⟩; omega)]
theorem atL_arrow (r : List UInt8) : atL (226 :: 134 :: 146 :: r) = (8594, 3) := by
 have : Lib.decodeN (226 :: 134 :: 146 :: r).length (hdB (226 :: 134 :: 146 :: r) 0) (hdB (226 :: 134 :: 146 :: r) 1) (hdB (226 :: 134 :: 146 :: r) 2) (hdB (226 :: 134 :: 146 :: r) 3) = (8594, 3) := by
  have e0 : hdB (226 :: 134 :: 146 :: r) 0 = 226 := rfl
  have e1 : hdB (226 :: 134 :: 146 :: r) 1 = 134 := rfl
  have e2 : hdB (226 :: 134 :: 146 :: r) 2 = 146 := rfl
  rw [e0, e1, e2]
  unfold Lib.decodeN
  simp
 unfold atL
 rw [this, if_neg (by simp), if_neg (by simp)]
/-- A rune that is no line's end has no byte of one. -/
theorem rune_bytes {l : List UInt8} (h0 : (atL l).2 ≠ 0) (h10 : (atL l).1 ≠ 10) : ∀ b ∈ l.take (atL l).2, b ≠ 10 := by
 unfold atL at h0 h10 ⊢
 by_cases hl : l = []
 · rw [if_pos hl] at h0; exact absurd rfl h0
 rw [if_neg hl] at h0 h10 ⊢
 by_cases hb : (Lib.decodeN l.length (hdB l 0) (hdB l 1) (hdB l 2) (hdB l 3)).1 = 65533 ∧ (Lib.decodeN l.length (hdB l 0) (hdB l 1) (hdB l 2) (hdB l 3)).2 = 1
 · rw [if_pos hb] at h0; exact absurd rfl h0
 rw [if_neg hb] at h0 h10 ⊢
 have fin : ∀ (m : Nat), (∀ k, k < m → hdB l k ≠ 10) → ∀ b ∈ l.take m, b ≠ 10 := by
  intro m hm b hmem e
  obtain ⟨k, hk, hx⟩ := List.getElem_of_mem hmem
  simp only [List.length_take] at hk
  rw [List.getElem_take] at hx
  refine hm k (by omega) ?_
  unfold hdB
  rw [List.getD_eq_getElem?_getD, List.getElem?_eq_getElem (by omega), hx, e]
  rfl
 revert h0 h10 hb
 generalize hg0 : hdB l 0 = b0
 generalize hg1 : hdB l 1 = b1
 generalize hg2 : hdB l 2 = b2
 generalize hg3 : hdB l 3 = b3
 unfold Lib.decodeN
 have w : ∀ m, m = 1 ∧ b0 ≠ 10 ∨ m = 2 ∧ b0 ≠ 10 ∧ b1 ≠ 10 ∨ m = 3 ∧ b0 ≠ 10 ∧ b1 ≠ 10 ∧ b2 ≠ 10 ∨ m = 4 ∧ b0 ≠ 10 ∧ b1 ≠ 10 ∧ b2 ≠ 10 ∧ b3 ≠ 10 → ∀ k, k < m → hdB l k ≠ 10 := by
  intro m hm k hk
  rcases (show k = 0 ∨ k = 1 ∨ k = 2 ∨ k = 3 by omega) with rfl | rfl | rfl | rfl
  · omega
  · omega
  · omega
  · omega
 split
 · intro h0 h10 hb; exact fin _ (w _ (.inl ⟨rfl, h10⟩))
 split
 · split
   · intro h0 h10 hb; exact fin _ (w _ (.inr (.inl ⟨rfl, by omega, by omega⟩)))
   · intro _ _ hb; exact absurd ⟨rfl, rfl⟩ hb
 split
 · split
   · intro h0 h10 hb; exact fin _ (w _ (.inr (.inr (.inl ⟨rfl, by omega, by omega, by omega⟩))))
   · intro _ _ hb; exact absurd ⟨rfl, rfl⟩ hb
 split
 · split
   · intro h0 h10 hb; exact fin _ (w _ (.inr (.inr (.inr ⟨rfl, by omega, by omega, by omega, by omega⟩))))
   · intro _ _ hb; exact absurd ⟨rfl, rfl⟩ hb
 · intro _ _ hb; exact absurd ⟨rfl, rfl⟩ hb
theorem rune_expand {l : List UInt8} (h0 : (atL l).2 ≠ 0) (h10 : (atL l).1 ≠ 10) : (expand l).drop (atL l).2 = expand (l.drop (atL l).2) ∧ (expand l).take (atL l).2 = l.take (atL l).2 := expand_split _ _ (atL_len l) (rune_bytes h0 h10)
theorem run_expand (dg : Bool) : ∀ (f : Nat) (l : List UInt8), runL dg f (expand l) = runL dg f l ∧ ∀ b ∈ l.take (runL dg f l).1, b ≠ 10 := by
 intro f
 induction f with
 | zero => intro l; exact ⟨rfl, by simp [runL]⟩
 | succ f ih =>
  intro l
  rw [runL, runL, at_expand]
  by_cases hc : l = [] ∨ (atL l).2 = 0 ∨ stopB dg (atL l).1 = true
  · have hc' : expand l = [] ∨ (atL l).2 = 0 ∨ stopB dg (atL l).1 = true := by rw [expand_nil]; exact hc
    rw [if_pos hc, if_pos hc']
    exact ⟨rfl, by simp⟩
  · have hc' : ¬ (expand l = [] ∨ (atL l).2 = 0 ∨ stopB dg (atL l).1 = true) := by rw [expand_nil]; exact hc
    have h0 : (atL l).2 ≠ 0 := fun e => hc (.inr (.inl e))
    have h10 : (atL l).1 ≠ 10 := fun e => hc (.inr (.inr (by rw [e]; cases dg <;> rfl)))
    obtain ⟨e1, _⟩ := rune_expand h0 h10
    obtain ⟨i1, i2⟩ := ih (l.drop (atL l).2)
    rw [if_neg hc, if_neg hc', e1, i1]
    refine ⟨rfl, ?_⟩
    simp only
    rw [List.take_add]
    intro b hb
    rcases List.mem_append.1 hb with hb | hb
    · exact rune_bytes h0 h10 b hb
    · exact i2 b hb
theorem runT_expand (dg : Bool) (l : List UInt8) : runT dg (expand l) = runT dg l ∧ ∀ b ∈ l.take (runT dg l).1, b ≠ 10 := by
 unfold runT
 refine ⟨?_, (run_expand dg l.length l).2⟩
 rw [(run_expand dg _ l).1]
 exact runL_fuel dg _ _ l (expand_len l) (Nat.le_refl _)
theorem numL_expand (l : List UInt8) : numL (expand l) = numL l ∧ ∀ b ∈ l.take (numL l), b ≠ 10 := by
 have hh : hdB (expand l) 0 = hdB l 0 := by cases l <;> rfl
 unfold numL headL
 rw [hh]
 by_cases h : hdB l 0 = 45
 · rw [if_pos h]
   cases l with
   | nil => exact absurd h (by decide)
   | cons b r =>
    have hb : b ≠ 10 := fun e => by subst e; have h' : (10 : UInt8).toNat = 45 := h; exact absurd h' (by decide)
    have e1 : (expand (b :: r)).drop 1 = expand r := by rw [expand, if_neg hb]; rfl
    have e2 : (b :: r).drop 1 = r := rfl
    rw [e1, e2, (runT_expand true r).1]
    refine ⟨rfl, ?_⟩
    split
    · simp
    · intro c hc
      rw [Nat.add_comm, List.take_succ_cons] at hc
      rcases List.mem_cons.1 hc with rfl | hc
      · exact hb
      · exact (runT_expand true r).2 c hc
 · rw [if_neg h, List.drop_zero, List.drop_zero, (runT_expand true l).1]
   refine ⟨rfl, ?_⟩
   split
   · simp
   · rw [Nat.zero_add]
     exact (runT_expand true l).2
theorem numL_le (l : List UInt8) (hl : l ≠ []) : numL l ≤ l.length := by
 have hp := List.length_pos_iff.2 hl
 have hh : headL l ≤ 1 := by unfold headL; split <;> omega
 have := runL_len true (l.drop (headL l)).length (l.drop (headL l))
 unfold numL runT
 rw [List.length_drop] at *
 split <;> omega
end Go.Proofs.YtbjmbahpcoanoaaGreatDoor
