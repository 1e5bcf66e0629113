/-
  Functions of variables, plainly: what is reached, what may be without a value, which error there is; and the going through of blocks that have changed, which ends with just that. No condition beyond those that each theorem states.
-/
import Derived.Test.YthiipgahbmoiiaaGreatDoorPk2
namespace Go.Proofs.YthiipgahbmoiiaaGreatDoor

def defsL (x : Bb) : List Int := x.ins.map (·.dst)
/-- A block is reached. -/
inductive Reach (f : Ff) : Nat → Prop
  | zero : Reach f 0
  | step {b c : Nat} {x : Bb} : Reach f b → f.blocks[b]? = some x → (c : Int) ∈ toL x.tm → Reach f c
/-- A variable may be without a value at a block's begin. -/
inductive Bare (f : Ff) (v : Int) : Nat → Prop
  | zero : v ∉ f.params → Bare f v 0
  | step {b c : Nat} {x : Bb} : Bare f v b → f.blocks[b]? = some x → v ∉ defsL x → (c : Int) ∈ toL x.tm → Bare f v c
theorem Bare.reach {f : Ff} {v : Int} {b : Nat} (h : Bare f v b) : Reach f b := by
  induction h with
  | zero _ => exact .zero
  | step _ hb _ hc ih => exact .step ih hb hc
/-- It is read in a block, or needed at its end, ahead of all that define it. -/
def bareIn (v : Int) (t : Tt) : List Ii → Prop
  | [] => v ∈ needsL t
  | i :: l => v ∈ readsL i ∨ (i.dst ≠ v ∧ bareIn v t l)
def goesB (f : Ff) : Bool := f.blocks.all fun x => (toL x.tm).all fun t => decide (1 ≤ t) && decide (t < f.blocks.length)
def LostB (f : Ff) : Prop := goesB f = false ∨ ∃ b, b < f.blocks.length ∧ ¬ Reach f b
def LacksV (f : Ff) (v : Int) : Prop := ∃ (b : Nat) (x : Bb), f.blocks[b]? = some x ∧ Bare f v b ∧ bareIn v x.tm x.ins
/-- A function has this error, or none. -/
structure RightIs (f : Ff) (e : Int) : Prop where
  shape : shapeN f ≠ 0 → e = shapeN f
  lost : shapeN f = 0 → LostB f → e = 9
  lacks : shapeN f = 0 → ¬ LostB f → (∃ v : Int, v ≠ 0 ∧ LacksV f v) → e = 8
  fine : shapeN f = 0 → ¬ LostB f → (∀ v : Int, v ≠ 0 → ¬ LacksV f v) → e = 0
theorem RightIs.same {f : Ff} {e e' : Int} (h : RightIs f e) (h' : RightIs f e') : e = e' := by
  by_cases hs : shapeN f = 0
  · by_cases hl : LostB f
    · rw [h.lost hs hl, h'.lost hs hl]
    · by_cases hv : ∃ v : Int, v ≠ 0 ∧ LacksV f v
      · rw [h.lacks hs hl hv, h'.lacks hs hl hv]
      · have hv' : ∀ v : Int, v ≠ 0 → ¬ LacksV f v := fun v h0 hx => hv ⟨v, h0, hx⟩
        rw [h.fine hs hl hv', h'.fine hs hl hv']
  · rw [h.shape hs, h'.shape hs]
theorem shape_or (f : Ff) : shapeN f = 3 ∨ shapeN f = 2 ∨ shapeN f = 0 := by
  unfold shapeN
  split
  · exact .inl rfl
  split
  · exact .inr (.inr rfl)
  · exact .inr (.inl rfl)

/-- Sets at the begins of blocks, which blocks are reached, which ones have changed. -/
structure St where
  at_ : List Nat
  rd : List Bool
  ch : List Nat
def St.atN (s : St) (b : Nat) : Nat := s.at_.getD b 0
def St.rdB (s : St) (b : Nat) : Bool := s.rd.getD b false
def St.meet (s : St) (b h : Nat) : Nat := if s.rdB b then h &&& s.atN b else h
def St.still (s : St) (b h : Nat) : Bool := s.rdB b && s.meet b h == s.atN b
def St.come (s : St) (b h : Nat) : St := if s.still b h then s else ⟨s.at_.set b (s.meet b h), s.rd.set b true, s.ch ++ [b]⟩

/-- How many bits a set has. -/
def cardM (N : Nat) : Nat := (List.range 256).countP fun i => N.testBit i
def St.potAt (s : St) (b : Nat) : Nat := if s.rdB b then cardM (s.atN b) else 257
def St.pot (s : St) (n : Nat) : Nat := ((List.range n).map s.potAt).sum
theorem countP_less {α : Type} {p q : α → Bool} : ∀ {l : List α}, (∀ x ∈ l, p x = true → q x = true) → (∃ x ∈ l, q x = true ∧ p x = false) → l.countP p < l.countP q := by
  intro l
  induction l with
  | nil => intro _ ⟨x, hx, _⟩; cases hx
  | cons a l ih =>
    intro hle ⟨x, hx, hq, hp⟩
    rw [List.countP_cons, List.countP_cons]
    have hm : l.countP p ≤ l.countP q := List.countP_mono_left (fun y hy h => hle y (by simp [hy]) h)
    rcases List.mem_cons.1 hx with rfl | hx
    · rw [hq, hp]
      simp
      omega
    · have h1 := ih (fun y hy h => hle y (by simp [hy]) h) ⟨x, hx, hq, hp⟩
      by_cases ha : p a = true
      · rw [ha, hle a (by simp) ha]
        simp
        exact h1
      · simp only [ha]
        simp
        split <;> omega
theorem card_le (N : Nat) : cardM N ≤ 256 := by
  have := List.countP_le_length (p := fun i => N.testBit i) (l := List.range 256)
  simpa [cardM] using this
theorem card_less {N M : Nat} (hM : M < 2 ^ 256) (hle : ∀ k, N.testBit k = true → M.testBit k = true) (hne : N ≠ M) : cardM N < cardM M := by
  unfold cardM
  refine countP_less (fun i _ h => hle i h) ?_
  have : ∃ k, M.testBit k = true ∧ N.testBit k = false := by
    apply Classical.byContradiction
    intro hno
    apply hne
    apply Nat.eq_of_testBit_eq
    intro k
    cases hn : N.testBit k
    · cases hm : M.testBit k
      · rfl
      · exact absurd ⟨k, hm, hn⟩ hno
    · exact (hle k hn).symm
  obtain ⟨k, hm, hn⟩ := this
  refine ⟨k, ?_, hm, hn⟩
  have : k < 256 := by
    apply Classical.byContradiction
    intro hk
    rw [Nat.testBit_lt_two_pow (Nat.lt_of_lt_of_le hM (Nat.pow_le_pow_right (by decide) (by omega)))] at hm
    cases hm
  simpa using this
theorem sum_less {p q : Nat → Nat} : ∀ {l : List Nat}, (∀ x ∈ l, p x ≤ q x) → (∃ x ∈ l, p x < q x) → (l.map p).sum < (l.map q).sum := by
  intro l
  induction l with
  | nil => intro _ ⟨x, hx, _⟩; cases hx
  | cons a l ih =>
    intro hle ⟨x, hx, hlt⟩
    rw [List.map_cons, List.map_cons, List.sum_cons, List.sum_cons]
    have hm : (l.map p).sum ≤ (l.map q).sum := by
      clear ih hx
      induction l with
      | nil => simp
      | cons y l ih2 =>
        rw [List.map_cons, List.map_cons, List.sum_cons, List.sum_cons]
        have h1 := hle y (by simp)
        have h2 := ih2 (fun z hz => hle z (by rcases List.mem_cons.1 hz with h | h <;> simp [h]))
        omega
    have ha := hle a (by simp)
    rcases List.mem_cons.1 hx with rfl | hx
    · omega
    · have := ih (fun y hy => hle y (by simp [hy])) ⟨x, hx, hlt⟩
      omega

/-- What holds of any such state. -/
structure Sound (f : Ff) (s : St) : Prop where
  n1 : s.at_.length = f.blocks.length
  n2 : s.rd.length = f.blocks.length
  lt : ∀ b, s.atN b < 2 ^ 256
  ch : ∀ b ∈ s.ch, b < f.blocks.length ∧ s.rdB b = true
  reach : ∀ b, s.rdB b = true → Reach f b
  bare : ∀ b, s.rdB b = true → ∀ v : Nat, v ≠ 0 → v ≤ 200 → (s.atN b).testBit v = false → Bare f v b
/-- All edges of a block, of these ends, are closed. -/
def Closed (s : St) (h : Nat) (l : List Int) : Prop := ∀ c : Nat, (c : Int) ∈ l → s.rdB c = true ∧ ∀ k, (s.atN c).testBit k = true → h.testBit k = true
section
variable {f : Ff} {s : St} {b h : Nat}
theorem come_at (hb : b < s.at_.length) (hs : s.still b h = false) (c : Nat) : (s.come b h).atN c = if c = b then s.meet b h else s.atN c := by
  unfold St.come St.atN
  rw [hs]
  simp only [Bool.false_eq_true, if_false, List.getD_eq_getElem?_getD, List.getElem?_set]
  by_cases hc : c = b
  · subst hc; simp [hb]
  · have : ¬ b = c := fun e => hc e.symm
    simp [hc, this]
theorem come_rd (hb : b < s.rd.length) (hs : s.still b h = false) (c : Nat) : (s.come b h).rdB c = if c = b then true else s.rdB c := by
  unfold St.come St.rdB
  rw [hs]
  simp only [Bool.false_eq_true, if_false, List.getD_eq_getElem?_getD, List.getElem?_set]
  by_cases hc : c = b
  · subst hc; simp [hb]
  · have : ¬ b = c := fun e => hc e.symm
    simp [hc, this]
theorem meet_sub (k : Nat) : (s.meet b h).testBit k = true → h.testBit k = true := by
  unfold St.meet
  split
  · rw [Nat.testBit_and]; intro h1; simp at h1; exact h1.1
  · exact id
theorem meet_sub' (hr : s.rdB b = true) (k : Nat) : (s.meet b h).testBit k = true → (s.atN b).testBit k = true := by
  unfold St.meet
  rw [if_pos hr, Nat.testBit_and]
  intro h1; simp at h1; exact h1.2
theorem meet_lt (hh : h < 2 ^ 256) : s.meet b h < 2 ^ 256 := by
  unfold St.meet
  split
  · exact Nat.lt_of_le_of_lt Nat.and_le_left hh
  · exact hh
theorem still_rd (hs : s.still b h = true) : s.rdB b = true ∧ s.meet b h = s.atN b := by
  unfold St.still at hs
  simpa using hs
/-- A block that is come to with values that are right. -/
theorem Sound.come (hS : Sound f s) (hb : b < f.blocks.length) (hh : h < 2 ^ 256) (hr : Reach f b) (hv : ∀ v : Nat, v ≠ 0 → v ≤ 200 → h.testBit v = false → Bare f v b) : Sound f (s.come b h) := by
  by_cases hs : s.still b h = true
  · have : s.come b h = s := by unfold St.come; rw [if_pos hs]
    rw [this]; exact hS
  · have hs : s.still b h = false := by simpa using hs
    have ha := come_at (by rw [hS.n1]; exact hb) hs
    have hrd := come_rd (by rw [hS.n2]; exact hb) hs
    have hch : (s.come b h).ch = s.ch ++ [b] := by unfold St.come; rw [hs]; rfl
    refine ⟨?_, ?_, ?_, ?_, ?_, ?_⟩
    · unfold St.come; rw [hs]; simpa using hS.n1
    · unfold St.come; rw [hs]; simpa using hS.n2
    · intro c; rw [ha]; split
      · exact meet_lt hh
      · exact hS.lt c
    · intro c hc
      rw [hch] at hc
      rw [hrd]
      rcases List.mem_append.1 hc with hc | hc
      · obtain ⟨h1, h2⟩ := hS.ch c hc
        refine ⟨h1, ?_⟩
        split
        · rfl
        · exact h2
      · simp at hc; subst hc
        exact ⟨hb, by simp⟩
    · intro c hc
      rw [hrd] at hc
      by_cases hcb : c = b
      · subst hcb; exact hr
      · rw [if_neg hcb] at hc; exact hS.reach c hc
    · intro c hc v h0 h1 ht
      rw [ha] at ht
      by_cases hcb : c = b
      · subst hcb
        rw [if_pos rfl] at ht
        unfold St.meet at ht
        split at ht
        · rename_i hrd0
          rw [Nat.testBit_and] at ht
          cases hx : h.testBit v
          · exact hv v h0 h1 hx
          · rw [hx] at ht; simp at ht; exact hS.bare c hrd0 v h0 h1 ht
        · exact hv v h0 h1 ht
      · rw [if_neg hcb] at ht
        rw [hrd, if_neg hcb] at hc
        exact hS.bare c hc v h0 h1 ht
theorem come_ch (c : Nat) (hc : c ∉ (s.come b h).ch) : c ∉ s.ch := by
  unfold St.come at hc
  split at hc
  · exact hc
  · intro h1; exact hc (by simp [h1])
/-- What is not among those that have changed is as it was. -/
theorem come_far (n1 : s.at_.length = f.blocks.length) (n2 : s.rd.length = f.blocks.length) (hb : b < f.blocks.length) (c : Nat) (hc : c ∉ (s.come b h).ch) : (s.come b h).atN c = s.atN c ∧ (s.come b h).rdB c = s.rdB c := by
  by_cases hs : s.still b h = true
  · have : s.come b h = s := by unfold St.come; rw [if_pos hs]
    rw [this]; exact ⟨rfl, rfl⟩
  · have hs : s.still b h = false := by simpa using hs
    have hch : (s.come b h).ch = s.ch ++ [b] := by unfold St.come; rw [hs]; rfl
    rw [hch] at hc
    have hcb : c ≠ b := by intro e; apply hc; simp [e]
    rw [come_at (by rw [n1]; exact hb) hs, come_rd (by rw [n2]; exact hb) hs, if_neg hcb, if_neg hcb]
    exact ⟨rfl, rfl⟩
theorem come_more (n1 : s.at_.length = f.blocks.length) (n2 : s.rd.length = f.blocks.length) (hb : b < f.blocks.length) (c : Nat) (hc : s.rdB c = true) : (s.come b h).rdB c = true ∧ ∀ k, ((s.come b h).atN c).testBit k = true → (s.atN c).testBit k = true := by
  by_cases hs : s.still b h = true
  · have : s.come b h = s := by unfold St.come; rw [if_pos hs]
    rw [this]; exact ⟨hc, fun _ => id⟩
  · have hs : s.still b h = false := by simpa using hs
    rw [come_at (by rw [n1]; exact hb) hs, come_rd (by rw [n2]; exact hb) hs]
    by_cases hcb : c = b
    · subst hcb
      rw [if_pos rfl, if_pos rfl]
      exact ⟨rfl, meet_sub' hc⟩
    · rw [if_neg hcb, if_neg hcb]
      exact ⟨hc, fun _ => id⟩
/-- What is come to has at most these values. -/
theorem come_here (n1 : s.at_.length = f.blocks.length) (n2 : s.rd.length = f.blocks.length) (hb : b < f.blocks.length) : (s.come b h).rdB b = true ∧ ∀ k, ((s.come b h).atN b).testBit k = true → h.testBit k = true := by
  by_cases hs : s.still b h = true
  · have : s.come b h = s := by unfold St.come; rw [if_pos hs]
    rw [this]
    obtain ⟨h1, h2⟩ := still_rd hs
    exact ⟨h1, fun k hk => by rw [← h2] at hk; exact meet_sub k hk⟩
  · have hs : s.still b h = false := by simpa using hs
    rw [come_at (by rw [n1]; exact hb) hs, come_rd (by rw [n2]; exact hb) hs, if_pos rfl, if_pos rfl]
    exact ⟨rfl, meet_sub⟩
theorem Closed.come {h' : Nat} {l : List Int} (hC : Closed s h' l) (n1 : s.at_.length = f.blocks.length) (n2 : s.rd.length = f.blocks.length) (hb : b < f.blocks.length) : Closed (s.come b h) h' l := fun c hc => by
  obtain ⟨h1, h2⟩ := hC c hc
  obtain ⟨h3, h4⟩ := come_more (h := h) n1 n2 hb c h1
  exact ⟨h3, fun k hk => h2 k (h4 k hk)⟩
/-- What is to be done gets less: twice the bits, and those that have changed. -/
theorem come_pot (n1 : s.at_.length = f.blocks.length) (n2 : s.rd.length = f.blocks.length) (hb : b < f.blocks.length) (hlt : s.atN b < 2 ^ 256) : 2 * (s.come b h).pot f.blocks.length + (s.come b h).ch.length ≤ 2 * s.pot f.blocks.length + s.ch.length := by
  by_cases hs : s.still b h = true
  · have : s.come b h = s := by unfold St.come; rw [if_pos hs]
    rw [this]; exact Nat.le_refl _
  · have hs : s.still b h = false := by simpa using hs
    have hch : (s.come b h).ch = s.ch ++ [b] := by unfold St.come; rw [hs]; rfl
    have hp : (s.come b h).pot f.blocks.length < s.pot f.blocks.length := by
      unfold St.pot
      have hb' : (s.come b h).potAt b < s.potAt b := by
        unfold St.potAt
        rw [come_at (by rw [n1]; exact hb) hs, come_rd (by rw [n2]; exact hb) hs, if_pos rfl, if_pos rfl, if_pos rfl]
        by_cases hr : s.rdB b = true
        · rw [if_pos hr]
          refine card_less hlt (meet_sub' hr) (fun e => ?_)
          unfold St.still at hs
          rw [hr, e] at hs
          simp at hs
        · rw [if_neg hr]
          have := card_le (s.meet b h)
          omega
      refine sum_less (fun c _ => ?_) ⟨b, by simpa using hb, hb'⟩
      by_cases hcb : c = b
      · subst hcb; omega
      · unfold St.potAt
        rw [come_at (by rw [n1]; exact hb) hs, come_rd (by rw [n2]; exact hb) hs, if_neg hcb, if_neg hcb]
        exact Nat.le_refl _
    rw [hch]
    simp
    omega
end
/-- How things are between blocks. -/
structure Inv (f : Ff) (s : St) : Prop where
  S : Sound f s
  rd0 : s.rdB 0 = true
  at0 : ∀ k : Nat, (s.atN 0).testBit k = true → (k : Int) ∈ f.params
  C : ∀ b x, f.blocks[b]? = some x → s.rdB b = true → b ∉ s.ch → Closed s (withM (s.atN b) (defsL x)) (toL x.tm)
/-- How things are amid a block's edges: that block's ones are closed up to here. -/
structure MidG (f : Ff) (s : St) (b0 h0 : Nat) (x0 : Bb) (l : List Int) : Prop where
  S : Sound f s
  rd0 : s.rdB 0 = true
  at0 : ∀ k : Nat, (s.atN 0).testBit k = true → (k : Int) ∈ f.params
  here : s.rdB b0 = true
  C : ∀ b x, b ≠ b0 → f.blocks[b]? = some x → s.rdB b = true → b ∉ s.ch → Closed s (withM (s.atN b) (defsL x)) (toL x.tm)
  D : b0 ∉ s.ch → h0 = withM (s.atN b0) (defsL x0)
  E : Closed s h0 l
  lt : h0 < 2 ^ 256
  bare : ∀ v : Nat, v ≠ 0 → v ≤ 200 → h0.testBit v = false → ∀ c : Nat, (c : Int) ∈ toL x0.tm → Bare f v c
def St.pop (s : St) : St := ⟨s.at_, s.rd, s.ch.dropLast⟩
theorem mem_dropLast_of {c b : Nat} {l : List Nat} (h : c ∈ l ++ [b]) (hne : c ≠ b) : c ∈ l := by
  rcases List.mem_append.1 h with h | h
  · exact h
  · simp at h; exact absurd h hne
/-- A block is taken. -/
theorem Inv.mid {f : Ff} {s : St} (hI : Inv f s) {l : List Nat} {b : Nat} {x : Bb} (hc : s.ch = l ++ [b]) (hx : f.blocks[b]? = some x) (hd : ∀ i ∈ x.ins, 0 ≤ i.dst ∧ i.dst ≤ 200) : MidG f ⟨s.at_, s.rd, l⟩ b (withM (s.atN b) (defsL x)) x [] := by
  have hb : b ∈ s.ch := by rw [hc]; simp
  have hrb := (hI.S.ch b hb).2
  have hdl : ∀ v ∈ defsL x, 0 ≤ v ∧ v ≤ 200 := fun v hv => by
    unfold defsL at hv
    obtain ⟨i, hi, rfl⟩ := List.mem_map.1 hv
    exact hd i hi
  refine ⟨⟨hI.S.n1, hI.S.n2, hI.S.lt, fun c hcc => hI.S.ch c (by rw [hc]; simp [hcc]), hI.S.reach, hI.S.bare⟩, hI.rd0, hI.at0, hrb, ?_, fun _ => rfl, ?_, ?_, ?_⟩
  · intro c y hne hy hr hcl
    exact hI.C c y hy hr (by rw [hc]; intro h; exact hcl (mem_dropLast_of h hne))
  · intro c hcl; cases hcl
  · exact with_lt (hI.S.lt b) (fun v hv => by have := (hdl v hv).2; omega)
  · intro v h0 h1 hv c hcl
    rw [with_bit (fun v hv => (hdl v hv).1)] at hv
    simp only [Bool.or_eq_false_iff, decide_eq_false_iff_not] at hv
    exact .step (hI.S.bare b hrb v h0 h1 hv.1) hx (fun h => hv.2 ⟨h0, h⟩) hcl
theorem MidG.come {f : Ff} {s : St} {b0 h0 : Nat} {x0 : Bb} {l : List Int} (hM : MidG f s b0 h0 x0 l) (hx0 : f.blocks[b0]? = some x0) {c : Nat} (hc : (c : Int) ∈ toL x0.tm) (hlt : c < f.blocks.length) : MidG f (s.come c h0) b0 h0 x0 (l ++ [(c : Int)]) := by
  have n1 := hM.S.n1
  have n2 := hM.S.n2
  refine ⟨hM.S.come hlt hM.lt (.step (hM.S.reach b0 hM.here) hx0 hc) (fun v h1 h2 h3 => hM.bare v h1 h2 h3 c hc), (come_more n1 n2 hlt 0 hM.rd0).1, ?_, (come_more n1 n2 hlt b0 hM.here).1, ?_, ?_, ?_, hM.lt, hM.bare⟩
  · intro k hk
    exact hM.at0 k ((come_more n1 n2 hlt 0 hM.rd0).2 k hk)
  · intro d y hne hy hr hcl
    obtain ⟨h1, h2⟩ := come_far n1 n2 hlt d hcl
    rw [h1]
    rw [h2] at hr
    exact (hM.C d y hne hy hr (come_ch d hcl)).come n1 n2 hlt
  · intro hcl
    rw [(come_far n1 n2 hlt b0 hcl).1]
    exact hM.D (come_ch b0 hcl)
  · intro d hd
    rcases List.mem_append.1 hd with hd | hd
    · exact hM.E.come n1 n2 hlt d hd
    · simp at hd
      have : d = c := by omega
      subst this
      exact come_here n1 n2 hlt
theorem MidG.inv {f : Ff} {s : St} {b0 h0 : Nat} {x0 : Bb} (hM : MidG f s b0 h0 x0 (toL x0.tm)) (hx0 : f.blocks[b0]? = some x0) : Inv f s := by
  refine ⟨hM.S, hM.rd0, hM.at0, ?_⟩
  intro b x hx hr hcl
  by_cases hb : b = b0
  · subst hb
    have : x = x0 := by rw [hx0] at hx; exact (Option.some.inj hx).symm
    subst this
    rw [← hM.D hcl]
    exact hM.E
  · exact hM.C b x hb hx hr hcl
/-- Nothing has changed any more: what is reached, and what has a value at each begin. -/
structure Ended (f : Ff) (s : St) : Prop where
  n1 : s.at_.length = f.blocks.length
  n2 : s.rd.length = f.blocks.length
  lt : ∀ b, s.atN b < 2 ^ 256
  reach : ∀ b, s.rdB b = true ↔ Reach f b
  bare : ∀ b, Reach f b → ∀ v : Nat, v ≠ 0 → v ≤ 200 → ((s.atN b).testBit v = false ↔ Bare f v b)
theorem Inv.ended {f : Ff} {s : St} (hI : Inv f s) (hc : s.ch = []) (hd : ∀ x ∈ f.blocks, ∀ i ∈ x.ins, 0 ≤ i.dst) : Ended f s := by
  have hr : ∀ b, Reach f b → s.rdB b = true := by
    intro b hb
    induction hb with
    | zero => exact hI.rd0
    | step _ hx hcl ih => exact (hI.C _ _ hx ih (by rw [hc]; simp) _ hcl).1
  refine ⟨hI.S.n1, hI.S.n2, hI.S.lt, fun b => ⟨hI.S.reach b, hr b⟩, fun b hb v h0 h1 => ⟨hI.S.bare b (hr b hb) v h0 h1, fun hB => ?_⟩⟩
  clear hb
  induction hB with
  | zero hp =>
    cases hx : (s.atN 0).testBit v
    · rfl
    · exact absurd (hI.at0 v hx) hp
  | @step b c x hB hx hnd hcl ih =>
    cases ht : (s.atN c).testBit v
    · rfl
    · have h2 := (hI.C b x hx (hr b hB.reach) (by rw [hc]; simp) c hcl).2 v ht
      rw [with_bit (fun w hw => by
        unfold defsL at hw
        obtain ⟨i, hi, rfl⟩ := List.mem_map.1 hw
        exact hd x (List.mem_of_getElem? hx) i hi)] at h2
      rw [ih] at h2
      simp at h2
      exact absurd h2.2 hnd
/-- Whether all that a block reads has a value. -/
def onlyB (t : Tt) : List Ii → Nat → Bool
  | [], N => hasM N [t.a]
  | i :: l, N => hasM N [i.a, i.b] && hasM N i.args && onlyB t l (addM N i.dst)
end Go.Proofs.YthiipgahbmoiiaaGreatDoor
