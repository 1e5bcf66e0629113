/-
  A cursor over words, as a plain state: the words that are left, where it broke, and by what; what each call tells, and what it leaves. No condition beyond those that each theorem states.
-/
import Derived.Test.YtbckkmicdpjnaaaDoorWordM
namespace Go.Proofs.YtbckkmicdpjnaaaDoor
/-- Words that are left, the place of the fault, the fault. -/
structure Cu where
  left : List Wd
  line : Int
  col : Int
  fault : Int

def endK (x : Wd) : Bool := !(decide (x.k = 1) || decide (x.k = 2) || decide (x.k = 3))
def Cu.pass (c : Cu) : Cu := { c with left := c.left.tail }
def Cu.fail (c : Cu) (e : Int) : Cu := if e = 0 ∨ c.fault ≠ 0 then c else ⟨[], (match c.left with | x :: _ => x.l | [] => 0), (match c.left with | x :: _ => x.c | [] => 0), e⟩
def Cu.over (c : Cu) (b : Bool) : Cu := if b then c.pass else c
def nameP : Option Wd → ByteArray × Bool
  | some x => if x.k = 1 then (x.t, true) else (⟨#[]⟩, false)
  | none => (⟨#[]⟩, false)
def numP : Option Wd → Int × Bool
  | some x => if x.k = 2 then (x.n, true) else (0, false)
  | none => (0, false)
def signP (o : Option Wd) (s : ByteArray) : Bool := match o with | some x => decide (x.k = 3) && decide (x.t = s) | none => false
def endP : Option Wd → Bool
  | some x => endK x
  | none => false
def Cu.keyB (c : Cu) (s : ByteArray) : Bool := (nameP c.left.head?).2 && decide ((nameP c.left.head?).1 = s)
def Cu.key (c : Cu) (s : ByteArray) : Cu := c.over (c.keyB s)
def Cu.isB (c : Cu) (s : ByteArray) : Bool := signP c.left.head? s
def Cu.is (c : Cu) (s : ByteArray) : Cu := c.over (c.isB s)
def Cu.nameT (c : Cu) : ByteArray := (nameP c.left.head?).1
def Cu.name (c : Cu) : Cu := if (nameP c.left.head?).2 then c.pass else c.fail 7
def Cu.numFits (c : Cu) (a b : Int) : Bool := decide (a ≤ (numP c.left.head?).1 ∧ (numP c.left.head?).1 ≤ b)
def Cu.numN (c : Cu) (a b : Int) : Int := if (numP c.left.head?).2 && c.numFits a b then (numP c.left.head?).1 else 0
def Cu.num (c : Cu) (a b : Int) : Cu := if (numP c.left.head?).2 then (if c.numFits a b then c.pass else c.fail 3) else c.fail 7
def Cu.mark (c : Cu) : List ByteArray → Cu
  | [] => c
  | s :: r => if c.isB s then (c.is s).mark r else c.fail 7
def Cu.more (c : Cu) : Bool := !c.left.isEmpty
def Cu.end_ (c : Cu) : Cu := if endP c.left.head? then c.pass else if c.more then c.fail 7 else c
def Cu.ends (c : Cu) : Bool := !c.more || endP c.left.head?
def Cu.eLine (c : Cu) : Int := if c.fault ≠ 0 then c.line else match c.left with | x :: _ => x.l | [] => 0
def Cu.eCol (c : Cu) : Int := if c.fault ≠ 0 then c.col else match c.left with | x :: _ => x.c | [] => 0
def Cu.eErr (c : Cu) : Int := if c.fault ≠ 0 then c.fault else match c.left with | _ :: _ => 7 | [] => 0

/-- A broken one has no words left; one that is not has no place. -/
structure Cu.Ok (c : Cu) : Prop where
  gone : c.fault ≠ 0 → c.left = []
  zero : c.fault = 0 → c.line = 0 ∧ c.col = 0
  kinds : ∀ x ∈ c.left, x.k = 1 ∨ x.k = 2 ∨ x.k = 3 ∨ x.k = 4
theorem Cu.Ok.pass {c : Cu} (h : c.Ok) : c.pass.Ok := ⟨fun hf => by show c.left.tail = []; rw [h.gone hf]; rfl, h.zero, fun x hx => h.kinds x (List.mem_of_mem_tail hx)⟩
theorem Cu.Ok.fail {c : Cu} (h : c.Ok) (e : Int) : (c.fail e).Ok := by
  unfold Cu.fail
  split
  · exact h
  · rename_i hn
    refine ⟨fun _ => rfl, fun he => ?_, fun x hx => by simp at hx⟩
    have he : e = 0 := he
    exact absurd (.inl he) hn
theorem Cu.Ok.over {c : Cu} (h : c.Ok) (b : Bool) : (c.over b).Ok := by cases b; exact h; exact h.pass
theorem Cu.Ok.key {c : Cu} (h : c.Ok) (s : ByteArray) : (c.key s).Ok := h.over _
theorem Cu.Ok.is {c : Cu} (h : c.Ok) (s : ByteArray) : (c.is s).Ok := h.over _
theorem Cu.Ok.name {c : Cu} (h : c.Ok) : c.name.Ok := by unfold Cu.name; split; exact h.pass; exact h.fail _
theorem Cu.Ok.num {c : Cu} (h : c.Ok) (a b : Int) : (c.num a b).Ok := by
  unfold Cu.num
  split
  · split
    · exact h.pass
    · exact h.fail _
  · exact h.fail _
theorem Cu.Ok.mark {c : Cu} (h : c.Ok) : ∀ l, (c.mark l).Ok := fun l => by
  induction l generalizing c with
  | nil => exact h
  | cons s r ih =>
    unfold Cu.mark
    split
    · exact ih (h.is s)
    · exact h.fail _
theorem Cu.Ok.end_ {c : Cu} (h : c.Ok) : c.end_.Ok := by
  unfold Cu.end_
  split
  · exact h.pass
  · split
    · exact h.fail _
    · exact h

/-- Words without the ends that a cursor does not have: one step of package line's own. -/
def stepC (st : Option Wd × List Wd) (x : Wd) : Option Wd × List Wd :=
  if endK x then (some (st.1.getD x), st.2)
  else (none, (if st.2 = [] then [] else st.2 ++ st.1.toList) ++ [x])
def pruned (ws : List Wd) : List Wd := (ws.foldl stepC (none, [])).2
/-- The document's step. -/
def keepsR (out : List Wd) (x : Wd) : Bool := decide (x.k ≠ 4) || (match out.getLast? with | some y => decide (y.k ≠ 4) | none => false)
def stepR (out : List Wd) (x : Wd) : List Wd := if keepsR out x then out ++ [x] else out
def trimR (out : List Wd) : List Wd := match out.getLast? with | some y => if y.k = 4 then out.dropLast else out | none => out
theorem prune_step (st : Option Wd × List Wd) (out : List Wd) (x : Wd) (hx : x.k = 1 ∨ x.k = 2 ∨ x.k = 3 ∨ x.k = 4) (h1 : ∀ e, st.1 = some e → e.k = 4) (h2 : ∀ y, st.2.getLast? = some y → y.k ≠ 4)
    (h3 : out = if st.2 = [] then [] else st.2 ++ st.1.toList) :
    (∀ e, (stepC st x).1 = some e → e.k = 4) ∧ (∀ y, (stepC st x).2.getLast? = some y → y.k ≠ 4) ∧ stepR out x = if (stepC st x).2 = [] then [] else (stepC st x).2 ++ (stepC st x).1.toList := by
  obtain ⟨b, left⟩ := st
  by_cases h4 : x.k = 4
  · have he : endK x = true := by simp [endK, h4]
    have hs : stepC (b, left) x = (some (b.getD x), left) := by simp [stepC, he]
    rw [hs]
    refine ⟨?_, h2, ?_⟩
    · cases b with
      | none => intro e h; simp at h; rw [← h]; exact h4
      | some e' => intro e h; simp at h; rw [← h]; exact h1 e' rfl
    · subst h3
      by_cases hl : left = []
      · simp [hl, stepR, keepsR, h4]
      · simp only [if_neg hl]
        cases b with
        | none =>
          obtain ⟨y, hy⟩ : ∃ y, left.getLast? = some y := ⟨_, List.getLast?_eq_some_getLast hl⟩
          have := h2 y hy
          simp [stepR, keepsR, hy, this]
        | some e =>
          have := h1 e rfl
          simp [stepR, keepsR, h4, this]
  · have he : endK x = false := by
      rcases hx with hx | hx | hx | hx
      · simp [endK, hx]
      · simp [endK, hx]
      · simp [endK, hx]
      · exact absurd hx h4
    have hr : stepR out x = out ++ [x] := by simp [stepR, keepsR, h4]
    rw [hr]
    have hs : stepC (b, left) x = (none, out ++ [x]) := by
      simp only [stepC, he]
      rw [h3]
      simp
    rw [hs]
    refine ⟨fun e h => by simp at h, fun y hy => ?_, by simp⟩
    simp at hy
    rw [← hy]
    exact h4
theorem prune_fold (ws : List Wd) (hk : ∀ x ∈ ws, x.k = 1 ∨ x.k = 2 ∨ x.k = 3 ∨ x.k = 4) : ∀ (st : Option Wd × List Wd) (out : List Wd), (∀ e, st.1 = some e → e.k = 4) → (∀ y, st.2.getLast? = some y → y.k ≠ 4) →
    out = (if st.2 = [] then [] else st.2 ++ st.1.toList) → trimR (ws.foldl stepR out) = (ws.foldl stepC st).2 := by
  induction ws with
  | nil =>
    intro st out h1 h2 h3
    obtain ⟨b, left⟩ := st
    simp only [List.foldl_nil]
    subst h3
    by_cases hl : left = []
    · simp [hl, trimR]
    · simp only [if_neg hl]
      cases b with
      | none =>
        obtain ⟨y, hy⟩ : ∃ y, left.getLast? = some y := ⟨_, List.getLast?_eq_some_getLast hl⟩
        simp [trimR, hy, h2 y hy]
      | some e => simp [trimR, h1 e rfl]
  | cons x ws ih =>
    intro st out h1 h2 h3
    obtain ⟨g1, g2, g3⟩ := prune_step st out x (hk x (by simp)) h1 h2 h3
    exact ih (fun y hy => hk y (by simp [hy])) _ _ g1 g2 g3
theorem prune_same (ws : List Wd) (hk : ∀ x ∈ ws, x.k = 1 ∨ x.k = 2 ∨ x.k = 3 ∨ x.k = 4) : trimR (ws.foldl stepR []) = pruned ws :=
  prune_fold ws hk (none, []) [] (fun _ h => by simp at h) (fun _ h => by simp at h) (by simp)
theorem pruned_mem (ws : List Wd) : ∀ (st : Option Wd × List Wd), (∀ e, st.1 = some e → ∃ y, y = e ∧ (y ∈ ws ∨ st.1 = some y)) → ∀ x ∈ (ws.foldl stepC st).2, x ∈ ws ∨ x ∈ st.2 ∨ st.1 = some x := by
  induction ws with
  | nil => intro st _ x hx; exact .inr (.inl hx)
  | cons a ws ih =>
    intro st _ x hx
    rcases ih (stepC st a) (fun e he => ⟨e, rfl, .inr he⟩) x hx with h | h | h
    · exact .inl (by simp [h])
    · obtain ⟨b, left⟩ := st
      unfold stepC at h
      split at h
      · exact .inr (.inl h)
      · simp only [List.mem_append, List.mem_singleton] at h
        rcases h with h | h
        · split at h
          · simp at h
          · simp only [List.mem_append, Option.mem_toList] at h
            rcases h with h | h
            · exact .inr (.inl h)
            · exact .inr (.inr h)
        · exact .inl (by simp [h])
    · obtain ⟨b, left⟩ := st
      unfold stepC at h
      split at h
      · cases b with
        | none => simp at h; exact .inl (by simp [h])
        | some e => exact .inr (.inr h)
      · simp at h
theorem pruned_kinds (ws : List Wd) (hk : ∀ x ∈ ws, x.k = 1 ∨ x.k = 2 ∨ x.k = 3 ∨ x.k = 4) : ∀ x ∈ pruned ws, x.k = 1 ∨ x.k = 2 ∨ x.k = 3 ∨ x.k = 4 := fun x hx => by
  rcases pruned_mem ws (none, []) (fun _ h => by simp at h) x hx with h | h | h
  · exact hk x h
  · simp at h
  · simp at h
theorem pruned_length (ws : List Wd) : ∀ (st : Option Wd × List Wd), (ws.foldl stepC st).2.length ≤ st.2.length + (if st.1.isSome then 1 else 0) + ws.length := by
  induction ws with
  | nil => intro st; simp
  | cons x ws ih =>
    intro st
    have h := ih (stepC st x)
    obtain ⟨b, left⟩ := st
    simp only [List.foldl_cons, List.length_cons]
    refine Nat.le_trans h ?_
    unfold stepC
    split
    · simp; omega
    · simp only
      by_cases hl : left = [] <;> cases b <;> simp [hl] <;> omega
end Go.Proofs.YtbckkmicdpjnaaaDoor
