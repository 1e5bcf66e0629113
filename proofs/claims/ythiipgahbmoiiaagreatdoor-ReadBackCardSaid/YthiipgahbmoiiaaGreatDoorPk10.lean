/-
  Plain functions that mirror the reader of words (package word), rune by rune. No condition beyond those that each theorem states.
  A cursor over words, as a plain state: the words that are left, where it broke, and by what; what each call tells, and what it leaves. No condition beyond those that each theorem states.
  The reader's tests on a rune and on a number answer what the plain functions say. No condition beyond those that each theorem states.
-/
import GoSem.Core.Utf8
import Derived.Lib.DecodeN
import Derived.Test.YthiipgahbmoiiaaGreatDoorProg
import Derived.Test.YthiipgahbmoiiaaGreatDoorPk1
import Derived.WalkSpells
import Derived.WalkLawsBesides
import Derived.BigQuiet
import Derived.Deep.QuietTactic
namespace Go.Proofs.YthiipgahbmoiiaaGreatDoor
/-- A word as the program has it: kind, text, value, line, column. -/
structure Wd where
  k : Int
  t : ByteArray
  n : Int
  l : Int
  c : Int

/-- The reader's state, without the text. -/
structure Rd where
  line : Int
  col : Int
  w : Wd
  frm : Int
  many : Int
  below : Bool
  ws : List Wd
  remark : Bool
  bl : Int
  bc : Int
  f : Int

def noText : ByteArray := ⟨#[]⟩
def noWd : Wd := ⟨0, noText, 0, 0, 0⟩

def letterB (r : Int) : Bool := decide (97 ≤ r ∧ r ≤ 122 ∨ 945 ≤ r ∧ r ≤ 969 ∨ r = 95)
def digitB (r : Int) : Bool := decide (48 ≤ r ∧ r ≤ 57)
def signB (r : Int) : Bool := decide (r = 61 ∨ r = 44 ∨ r = 58 ∨ r = 40 ∨ r = 41 ∨ r = 91 ∨ r = 93 ∨ r = 43 ∨ r = 8594 ∨ r = 8592 ∨ r = 183)
def boundB (n : Int) : Bool := decide (-1099511627776 ≤ n ∧ n ≤ 1099511627776)

/-- Behind a rune. -/
def Rd.pass (σ : Rd) (r : Int) : Rd := if r = 10 then { σ with line := σ.line + 1, col := 1 } else { σ with col := σ.col + 1 }
def Rd.fail (σ : Rd) (l c e : Int) : Rd := { σ with bl := l, bc := c, f := e }
/-- What a part of the text is. -/
def cutText (s : ByteArray) (a b : Int) : ByteArray := s.extract a.toNat b.toNat
def Rd.shut (s : ByteArray) (σ : Rd) (i : Int) : Rd :=
  if σ.w.k = 0 then σ
  else { σ with w := noWd, frm := 0, many := 0, below := false, ws := σ.ws ++ [if σ.w.k = 4 then σ.w else { σ.w with t := cutText s σ.frm i }] }
def Rd.begin_ (s : ByteArray) (σ : Rd) (k i : Int) : Rd :=
  { σ.shut s i with w := ⟨k, noText, 0, σ.line, σ.col⟩, frm := i, many := 0, below := false }
/-- The draft with one rune more, and whether it can be. -/
def Rd.grown (σ : Rd) (r : Int) : Rd :=
  if σ.w.k = 1 then { σ with many := σ.many + 1 } else { σ with w := { σ.w with n := σ.w.n * 10 + (if σ.below then -(r - 48) else r - 48) } }
def Rd.fits (σ : Rd) (r : Int) : Bool := if σ.w.k = 1 then decide (σ.many + 1 ≤ 16) else boundB (σ.w.n * 10 + (if σ.below then -(r - 48) else r - 48))
def Rd.opened (s : ByteArray) (σ : Rd) (k i : Int) : Rd := if σ.w.k = 1 ∨ σ.w.k = 2 then σ else σ.begin_ s k i
def Rd.spell (s : ByteArray) (σ : Rd) (k i r : Int) : Rd :=
  let τ := σ.opened s k i
  if τ.fits r then τ.grown r else (τ.grown r).fail τ.w.l τ.w.c 3
def behindB (s : ByteArray) (i : Nat) : Bool := decide (i + 1 < s.size) && digitB (s.get! (i + 1)).toNat
/-- Bytes that are no rune. -/
def rawB (s : ByteArray) (i : Nat) (r : Int) : Bool := decide (r = 65533) && !(([239, 191, 189] : List UInt8).isPrefixOf (s.data.toList.drop i))
def useOf (s : ByteArray) (remark : Bool) (i : Nat) (r : Int) : Int :=
  if rawB s i r then 0
  else if r = 10 then 1
  else if remark ∨ r = 32 ∨ r = 9 then 3
  else if r = 59 then 2
  else if signB r then 4
  else if r = 45 ∧ behindB s i then 5
  else if letterB r then 6
  else if digitB r then 7
  else 0
def Rd.take (s : ByteArray) (σ : Rd) (i : Nat) (r : Int) : Rd :=
  let u := useOf s σ.remark i r
  if u = 1 then { σ.begin_ s 4 i with remark := false }
  else if u = 2 then ({ σ with remark := true } : Rd).shut s i
  else if u = 3 then σ.shut s i
  else if u = 4 then σ.begin_ s 3 i
  else if u = 5 then { σ.begin_ s 2 i with below := true }
  else if u = 7 then σ.spell s 2 i r
  else if u = 6 ∧ σ.w.k ≠ 2 then σ.spell s 1 i r
  else σ.fail σ.line σ.col 6
/-- What holds of the reader ahead of the rune at byte i. -/
structure Fine (σ : Rd) (i : Nat) : Prop where
  words : σ.ws.length ≤ i
  frm0 : 0 ≤ σ.frm
  frm1 : σ.frm ≤ i
  many0 : 0 ≤ σ.many
  many1 : σ.many ≤ i
  n0 : -1099511627776 ≤ σ.w.n
  n1 : σ.w.n ≤ 1099511627776
  line0 : 1 ≤ σ.line
  line1 : σ.line ≤ i + 1
  col0 : 1 ≤ σ.col
  col1 : σ.col ≤ i + 1

/-- The reader's rounds: from place i on, at most so many. -/
def Rd.run (s : ByteArray) : Nat → Nat → Rd → Rd
  | 0, _, σ => σ
  | n + 1, i, σ =>
    if i < s.size then
      (if (σ.take s i (Utf8.decode s i).1).f = 0 then Rd.run s n (i + (Utf8.decode s i).2) ((σ.take s i (Utf8.decode s i).1).pass (Utf8.decode s i).1) else σ.take s i (Utf8.decode s i).1)
    else σ
def startRd : Rd := ⟨1, 1, noWd, 0, 0, false, [], false, 0, 0, 0⟩
def lastRd (s : ByteArray) : Rd := Rd.run s s.size 0 startRd
def readWords (s : ByteArray) : List Wd := if (lastRd s).f = 0 then ((lastRd s).shut s s.size).ws else []
def readLine (s : ByteArray) : Int := if (lastRd s).f = 0 then 0 else (lastRd s).bl
def readCol (s : ByteArray) : Int := if (lastRd s).f = 0 then 0 else (lastRd s).bc
def readErr (s : ByteArray) : Int := (lastRd s).f
end Go.Proofs.YthiipgahbmoiiaaGreatDoor
namespace Go.Proofs.YthiipgahbmoiiaaGreatDoor
/-- Words that are left, the place of the fault, the fault. -/
structure Cu where
  left : List Wd
  line : Int
  col : Int
  fault : Int

def endK (x : Wd) : Bool := !(decide (x.k = 1) || decide (x.k = 2) || decide (x.k = 3))
def Cu.pass (c : Cu) : Cu := { c with left := c.left.tail }
def Cu.fail (c : Cu) (e : Int) : Cu := if e = 0 ∨ c.fault ≠ 0 then c else ⟨[], (match c.left with | x :: _ => x.l | [] => 0), (match c.left with | x :: _ => x.c | [] => 0), e⟩
def Cu.over (c : Cu) (b : Bool) : Cu := if b then c.pass else c
def nameP : Option Wd → ByteArray × Bool
  | some x => if x.k = 1 then (x.t, true) else (⟨#[]⟩, false)
  | none => (⟨#[]⟩, false)
def numP : Option Wd → Int × Bool
  | some x => if x.k = 2 then (x.n, true) else (0, false)
  | none => (0, false)
def signP (o : Option Wd) (s : ByteArray) : Bool := match o with | some x => decide (x.k = 3) && decide (x.t = s) | none => false
def endP : Option Wd → Bool
  | some x => endK x
  | none => false
def Cu.keyB (c : Cu) (s : ByteArray) : Bool := (nameP c.left.head?).2 && decide ((nameP c.left.head?).1 = s)
def Cu.key (c : Cu) (s : ByteArray) : Cu := c.over (c.keyB s)
def Cu.isB (c : Cu) (s : ByteArray) : Bool := signP c.left.head? s
def Cu.is (c : Cu) (s : ByteArray) : Cu := c.over (c.isB s)
def Cu.nameT (c : Cu) : ByteArray := (nameP c.left.head?).1
def Cu.name (c : Cu) : Cu := if (nameP c.left.head?).2 then c.pass else c.fail 7
def Cu.numFits (c : Cu) (a b : Int) : Bool := decide (a ≤ (numP c.left.head?).1 ∧ (numP c.left.head?).1 ≤ b)
def Cu.numN (c : Cu) (a b : Int) : Int := if (numP c.left.head?).2 && c.numFits a b then (numP c.left.head?).1 else 0
def Cu.num (c : Cu) (a b : Int) : Cu := if (numP c.left.head?).2 then (if c.numFits a b then c.pass else c.fail 3) else c.fail 7
def Cu.mark (c : Cu) : List ByteArray → Cu
  | [] => c
  | s :: r => if c.isB s then (c.is s).mark r else c.fail 7
def Cu.more (c : Cu) : Bool := !c.left.isEmpty
def Cu.end_ (c : Cu) : Cu := if endP c.left.head? then c.pass else if c.more then c.fail 7 else c
def Cu.ends (c : Cu) : Bool := !c.more || endP c.left.head?
def Cu.eLine (c : Cu) : Int := if c.fault ≠ 0 then c.line else match c.left with | x :: _ => x.l | [] => 0
def Cu.eCol (c : Cu) : Int := if c.fault ≠ 0 then c.col else match c.left with | x :: _ => x.c | [] => 0
def Cu.eErr (c : Cu) : Int := if c.fault ≠ 0 then c.fault else match c.left with | _ :: _ => 7 | [] => 0

/-- A broken one has no words left; one that is not has no place. -/
structure Cu.Ok (c : Cu) : Prop where
  gone : c.fault ≠ 0 → c.left = []
  zero : c.fault = 0 → c.line = 0 ∧ c.col = 0
  kinds : ∀ x ∈ c.left, x.k = 1 ∨ x.k = 2 ∨ x.k = 3 ∨ x.k = 4
theorem Cu.Ok.pass {c : Cu} (h : c.Ok) : c.pass.Ok := ⟨fun hf => by show c.left.tail = []; rw [h.gone hf]; rfl, h.zero, fun x hx => h.kinds x (List.mem_of_mem_tail hx)⟩
theorem Cu.Ok.fail {c : Cu} (h : c.Ok) (e : Int) : (c.fail e).Ok := by
  unfold Cu.fail
  split
  · exact h
  · rename_i hn
    refine ⟨fun _ => rfl, fun he => ?_, fun x hx => by simp at hx⟩
    have he : e = 0 := he
    exact absurd (.inl he) hn
theorem Cu.Ok.over {c : Cu} (h : c.Ok) (b : Bool) : (c.over b).Ok := by cases b; exact h; exact h.pass
theorem Cu.Ok.key {c : Cu} (h : c.Ok) (s : ByteArray) : (c.key s).Ok := h.over _
theorem Cu.Ok.is {c : Cu} (h : c.Ok) (s : ByteArray) : (c.is s).Ok := h.over _
theorem Cu.Ok.name {c : Cu} (h : c.Ok) : c.name.Ok := by unfold Cu.name; split; exact h.pass; exact h.fail _
theorem Cu.Ok.num {c : Cu} (h : c.Ok) (a b : Int) : (c.num a b).Ok := by
  unfold Cu.num
  split
  · split
    · exact h.pass
    · exact h.fail _
  · exact h.fail _
theorem Cu.Ok.mark {c : Cu} (h : c.Ok) : ∀ l, (c.mark l).Ok := fun l => by
  induction l generalizing c with
  | nil => exact h
  | cons s r ih =>
    unfold Cu.mark
    split
    · exact ih (h.is s)
    · exact h.fail _
theorem Cu.Ok.end_ {c : Cu} (h : c.Ok) : c.end_.Ok := by
  unfold Cu.end_
  split
  · exact h.pass
  · split
    · exact h.fail _
    · exact h

/-- Words without the ends that a cursor does not have: one step of package line's own. -/
def stepC (st : Option Wd × List Wd) (x : Wd) : Option Wd × List Wd :=
  if endK x then (some (st.1.getD x), st.2)
  else (none, (if st.2 = [] then [] else st.2 ++ st.1.toList) ++ [x])
def pruned (ws : List Wd) : List Wd := (ws.foldl stepC (none, [])).2
/-- The document's step. -/
def keepsR (out : List Wd) (x : Wd) : Bool := decide (x.k ≠ 4) || (match out.getLast? with | some y => decide (y.k ≠ 4) | none => false)
def stepR (out : List Wd) (x : Wd) : List Wd := if keepsR out x then out ++ [x] else out
def trimR (out : List Wd) : List Wd := match out.getLast? with | some y => if y.k = 4 then out.dropLast else out | none => out
theorem prune_step (st : Option Wd × List Wd) (out : List Wd) (x : Wd) (hx : x.k = 1 ∨ x.k = 2 ∨ x.k = 3 ∨ x.k = 4) (h1 : ∀ e, st.1 = some e → e.k = 4) (h2 : ∀ y, st.2.getLast? = some y → y.k ≠ 4)
    (h3 : out = if st.2 = [] then [] else st.2 ++ st.1.toList) :
    (∀ e, (stepC st x).1 = some e → e.k = 4) ∧ (∀ y, (stepC st x).2.getLast? = some y → y.k ≠ 4) ∧ stepR out x = if (stepC st x).2 = [] then [] else (stepC st x).2 ++ (stepC st x).1.toList := by
  obtain ⟨b, left⟩ := st
  by_cases h4 : x.k = 4
  · have he : endK x = true := by simp [endK, h4]
    have hs : stepC (b, left) x = (some (b.getD x), left) := by simp [stepC, he]
    rw [hs]
    refine ⟨?_, h2, ?_⟩
    · cases b with
      | none => intro e h; simp at h; rw [← h]; exact h4
      | some e' => intro e h; simp at h; rw [← h]; exact h1 e' rfl
    · subst h3
      by_cases hl : left = []
      · simp [hl, stepR, keepsR, h4]
      · simp only [if_neg hl]
        cases b with
        | none =>
          obtain ⟨y, hy⟩ : ∃ y, left.getLast? = some y := ⟨_, List.getLast?_eq_some_getLast hl⟩
          have := h2 y hy
          simp [stepR, keepsR, hy, this]
        | some e =>
          have := h1 e rfl
          simp [stepR, keepsR, h4, this]
  · have he : endK x = false := by
      rcases hx with hx | hx | hx | hx
      · simp [endK, hx]
      · simp [endK, hx]
      · simp [endK, hx]
      · exact absurd hx h4
    have hr : stepR out x = out ++ [x] := by simp [stepR, keepsR, h4]
    rw [hr]
    have hs : stepC (b, left) x = (none, out ++ [x]) := by
      simp only [stepC, he]
      rw [h3]
      simp
    rw [hs]
    refine ⟨fun e h => by simp at h, fun y hy => ?_, by simp⟩
    simp at hy
    rw [← hy]
    exact h4
theorem prune_fold (ws : List Wd) (hk : ∀ x ∈ ws, x.k = 1 ∨ x.k = 2 ∨ x.k = 3 ∨ x.k = 4) : ∀ (st : Option Wd × List Wd) (out : List Wd), (∀ e, st.1 = some e → e.k = 4) → (∀ y, st.2.getLast? = some y → y.k ≠ 4) →
    out = (if st.2 = [] then [] else st.2 ++ st.1.toList) → trimR (ws.foldl stepR out) = (ws.foldl stepC st).2 := by
  induction ws with
  | nil =>
    intro st out h1 h2 h3
    obtain ⟨b, left⟩ := st
    simp only [List.foldl_nil]
    subst h3
    by_cases hl : left = []
    · simp [hl, trimR]
    · simp only [if_neg hl]
      cases b with
      | none =>
        obtain ⟨y, hy⟩ : ∃ y, left.getLast? = some y := ⟨_, List.getLast?_eq_some_getLast hl⟩
        simp [trimR, hy, h2 y hy]
      | some e => simp [trimR, h1 e rfl]
  | cons x ws ih =>
    intro st out h1 h2 h3
    obtain ⟨g1, g2, g3⟩ := prune_step st out x (hk x (by simp)) h1 h2 h3
    exact ih (fun y hy => hk y (by simp [hy])) _ _ g1 g2 g3
theorem prune_same (ws : List Wd) (hk : ∀ x ∈ ws, x.k = 1 ∨ x.k = 2 ∨ x.k = 3 ∨ x.k = 4) : trimR (ws.foldl stepR []) = pruned ws :=
  prune_fold ws hk (none, []) [] (fun _ h => by simp at h) (fun _ h => by simp at h) (by simp)
theorem pruned_mem (ws : List Wd) : ∀ (st : Option Wd × List Wd), (∀ e, st.1 = some e → ∃ y, y = e ∧ (y ∈ ws ∨ st.1 = some y)) → ∀ x ∈ (ws.foldl stepC st).2, x ∈ ws ∨ x ∈ st.2 ∨ st.1 = some x := by
  induction ws with
  | nil => intro st _ x hx; exact .inr (.inl hx)
  | cons a ws ih =>
    intro st _ x hx
    rcases ih (stepC st a) (fun e he => ⟨e, rfl, .inr he⟩) x hx with h | h | h
    · exact .inl (by simp [h])
    · obtain ⟨b, left⟩ := st
      unfold stepC at h
      split at h
      · exact .inr (.inl h)
      · simp only [List.mem_append, List.mem_singleton] at h
        rcases h with h | h
        · split at h
          · simp at h
          · simp only [List.mem_append, Option.mem_toList] at h
            rcases h with h | h
            · exact .inr (.inl h)
            · exact .inr (.inr h)
        · exact .inl (by simp [h])
    · obtain ⟨b, left⟩ := st
      unfold stepC at h
      split at h
      · cases b with
        | none => simp at h; exact .inl (by simp [h])
        | some e => exact .inr (.inr h)
      · simp at h
theorem pruned_kinds (ws : List Wd) (hk : ∀ x ∈ ws, x.k = 1 ∨ x.k = 2 ∨ x.k = 3 ∨ x.k = 4) : ∀ x ∈ pruned ws, x.k = 1 ∨ x.k = 2 ∨ x.k = 3 ∨ x.k = 4 := fun x hx => by
  rcases pruned_mem ws (none, []) (fun _ h => by simp at h) x hx with h | h | h
  · exact hk x h
  · simp at h
  · simp at h
theorem pruned_length (ws : List Wd) : ∀ (st : Option Wd × List Wd), (ws.foldl stepC st).2.length ≤ st.2.length + (if st.1.isSome then 1 else 0) + ws.length := by
  induction ws with
  | nil => intro st; simp
  | cons x ws ih =>
    intro st
    have h := ih (stepC st x)
    obtain ⟨b, left⟩ := st
    simp only [List.foldl_cons, List.length_cons]
    refine Nat.le_trans h ?_
    unfold stepC
    split
    · simp; omega
    · simp only
      by_cases hl : left = [] <;> cases b <;> simp [hl] <;> omega
end Go.Proofs.YthiipgahbmoiiaaGreatDoor
namespace Go.Proofs.YthiipgahbmoiiaaGreatDoor
open Go.RowKit

theorem ret_bool {a b : Bool} (h : a = true ↔ b = true) : Ending.returned (.bool a) = .returned (.bool b) := by rw [Bool.eq_iff_iff.2 h]
theorem isDigit_any (r : Int) (w : World) : Calls Tryz.prog 189 #[.int .i32 r] w fun e w' => e = .returned (.bool (digitB r)) ∧ w = w' := by
  by_cases h : 48 ≤ r
  all_goals
    go_enter Tryz.func189, Tryz.ntmps189
    go_wp2
    go_ret
    refine ⟨ret_bool ?_, rfl⟩
    simp [digitB]
    try omega
theorem letter_any (r : Int) (w : World) : Calls Tryz.prog 188 #[.int .i32 r] w fun e w' => e = .returned (.bool (letterB r)) ∧ w = w' := by
  by_cases h : 97 ≤ r <;> by_cases h1 : r ≤ 122 <;> by_cases h2 : 945 ≤ r <;> by_cases h3 : r ≤ 969
  all_goals try (exfalso; omega)
  all_goals
    go_enter Tryz.func188, Tryz.ntmps188
    go_wp2
    go_ret
    refine ⟨ret_bool ?_, rfl⟩
    simp [letterB]
    try omega
theorem bound_any (n : Int) (w : World) : Calls Tryz.prog 201 #[.int .i64 n] w fun e w' => e = .returned (.bool (boundB n)) ∧ w = w' := by
  by_cases h : -1099511627776 ≤ n
  all_goals
    go_enter Tryz.func201, Tryz.ntmps201
    go_wp2
    go_ret
    refine ⟨ret_bool ?_, rfl⟩
    simp [boundB]
    try omega
theorem sign_any (r : Int) (w : World) : Calls Tryz.prog 186 #[.int .i32 r] w fun e w' => e = .returned (.bool (signB r)) ∧ w = w' := by
  go_enter Tryz.func186, Tryz.ntmps186
  go_wp2
  all_goals
    go_ret
    refine ⟨ret_bool ?_, rfl⟩
    simp_all [signB]

end Go.Proofs.YthiipgahbmoiiaaGreatDoor
