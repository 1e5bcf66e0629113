/-
  What a cursor has left of a text's words, got one by one (plainly). No condition beyond those that each theorem states.
-/
import Derived.Test.YtfnmkgfaoacnpaaSame5
import Derived.Test.YtfnmkgfaoacnpaaCurM
namespace Go.Proofs.Ytfnmkgfaoacnpaa

/-- What is still to come, behind words of which one at least is no end or none is, with an end that is pending or without. -/
def restC : Bool → Option Wd → List Wd → List Wd
  | _, _, [] => []
  | o, b, x :: ws => if endK x then restC o (some (b.getD x)) ws else (if o then b.toList else []) ++ x :: restC true none ws
theorem rest_fold (ws : List Wd) : ∀ (b : Option Wd) (left : List Wd), (ws.foldl stepC (b, left)).2 = left ++ restC (decide (left ≠ [])) b ws := by
  induction ws with
  | nil => intro b left; simp [restC]
  | cons x ws ih =>
    intro b left
    rw [List.foldl_cons, restC]
    by_cases he : endK x = true
    · have : stepC (b, left) x = (some (b.getD x), left) := by simp [stepC, he]
      rw [this, if_pos he]
      exact ih _ _
    · rw [if_neg he]
      have he : endK x = false := by simpa using he
      have : stepC (b, left) x = (none, (if left = [] then [] else left ++ b.toList) ++ [x]) := by simp [stepC, he]
      rw [this, ih]
      have hne : decide ((if left = [] then [] else left ++ b.toList) ++ [x] ≠ []) = true := by simp
      rw [hne]
      by_cases hl : left = []
      · simp [hl]
      · simp [hl]
theorem rest_pruned (ws : List Wd) : pruned ws = restC false none ws := by
  unfold pruned
  rw [rest_fold]
  simp
/-- Whether the last one is an end. -/
def lastEnd (pre : List Wd) : Bool := match pre.getLast? with | some y => endK y | none => false
theorem lastEnd_snoc (pre : List Wd) (x : Wd) : lastEnd (pre ++ [x]) = endK x := by simp [lastEnd]
/-- Where the statement stands ahead of a word: words behind it, whether it has got one, the end that is pending. -/
structure Ahead (pre : List Wd) (o : Bool) (b : Option Wd) : Prop where
  pend : b.isSome = lastEnd pre
  ends : ∀ e, b = some e → endK e = true
  some_ : o = true → pre ≠ []
theorem Ahead.start : Ahead [] false none := ⟨rfl, fun _ h => (by cases h), fun h => (by cases h)⟩
theorem Ahead.end_ {pre : List Wd} {o : Bool} {b : Option Wd} {x : Wd} (h : Ahead pre o b) (hx : endK x = true) : Ahead (pre ++ [x]) o (some (b.getD x)) := by
  refine ⟨by rw [lastEnd_snoc, hx]; rfl, fun e he => ?_, fun _ => by simp⟩
  cases b with
  | none => simp at he; rw [← he]; exact hx
  | some y => simp at he; rw [← he]; exact h.ends y rfl
theorem Ahead.word {pre : List Wd} {x : Wd} (hx : endK x = false) : Ahead (pre ++ [x]) true none := ⟨by rw [lastEnd_snoc, hx]; rfl, fun _ h => (by cases h), fun _ => by simp⟩
/-- Numbers that are read are within the bounds. -/
theorem go_bounds (s : ByteArray) : ∀ (f i : Nat) (out : List Wd) (l c : Int) (r : Bool), (∀ x ∈ out, x.k = 2 → -1099511627776 ≤ x.n ∧ x.n ≤ 1099511627776) → ∀ x ∈ (refGo s f out l c r i).1, x.k = 2 → -1099511627776 ≤ x.n ∧ x.n ≤ 1099511627776 := by
  intro f
  induction f with
  | zero => intro i out l c r h; rw [refGo]; exact h
  | succ f ih =>
    intro i out l c r h
    have more : ∀ y : Wd, (y.k = 2 → -1099511627776 ≤ y.n ∧ y.n ≤ 1099511627776) → ∀ x ∈ out ++ [y], x.k = 2 → -1099511627776 ≤ x.n ∧ x.n ≤ 1099511627776 := by
      intro y hy x hx
      rcases List.mem_append.1 hx with hx | hx
      · exact h x hx
      · simp at hx; subst hx; exact hy
    rw [refGo]
    by_cases hlt : i < s.size
    · rw [if_pos hlt]
      split
      · simp
      split
      · exact ih _ _ _ _ _ (more _ (by simp))
      split
      · exact ih _ _ _ _ _ h
      split
      · rename_i hz
        split
        · rename_i hok
          split
          · simp
          · refine ih _ _ _ _ _ (more _ (fun _ => ?_))
            have hd := num_digs s i hlt hz
            have h1 := valT_pos hd _ (Nat.le_refl _)
            have h2 := of_decide_eq_true hok
            simp only
            unfold valN
            rw [if_pos hok]
            split <;> omega
        · simp
      split
      · split
        · simp
        · exact ih _ _ _ _ _ (more _ (by simp))
      split
      · exact ih _ _ _ _ _ (more _ (by simp))
      · simp
    · rw [if_neg hlt]
      exact h
theorem read_bounds (s : ByteArray) : ∀ x ∈ readWords s, x.k = 2 → -1099511627776 ≤ x.n ∧ x.n ≤ 1099511627776 := by
  have h := go_bounds s s.size 0 [] 1 1 false (by simp)
  have e := read_eq s
  unfold refRead at e
  rw [e] at h
  exact h
end Go.Proofs.Ytfnmkgfaoacnpaa
