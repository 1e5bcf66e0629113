/-
  A function that is built out of literals and calls, in whatever order: what lies in memory. No condition beyond those that each theorem states.
-/
import Derived.Test.YtgpbpbhidemciaaGreatKit
import Derived.Deep.RegionHeld3
import Derived.Test.YtgpbpbhidemciaaGreatIrEb
namespace Go.Proofs.YtgpbpbhidemciaaGreat
open Go.RowKit

section
variable {P : Program} {ops : Array Oper} {Q : Exit → Act → World → Prop} {md : Region.Mode}

def leftB (l : Array Bool) : Nat := (l.toList.filter (! ·)).length
theorem ready_mem {l : Array Bool} {i : Nat} (h : i ∈ Region.ready md ops l) : i < ops.size ∧ l.getD i true = false ∧ ∀ o, ops[i]? = some o → ∀ e ∈ o.after, Region.binds md e = true → l.getD e.on false = true := by
  unfold Region.ready at h
  rw [List.mem_filter, List.mem_range, Bool.and_eq_true] at h
  obtain ⟨h1, h2, h3⟩ := h
  refine ⟨h1, by simpa using h2, fun o ho e he hb => ?_⟩
  rw [ho] at h3
  simp only [Option.map_some, Option.getD_some, Array.all_eq_true'] at h3
  have := h3 e he
  rw [hb] at this
  simpa using this
theorem list_left : ∀ (l : List Bool) (i : Nat), l[i]? = some false → ((l.set i true).filter (! ·)).length + 1 = (l.filter (! ·)).length
  | [], i, h => by simp at h
  | b :: l, 0, h => by
    simp only [List.getElem?_cons_zero, Option.some.injEq] at h
    subst h
    simp
  | b :: l, i + 1, h => by
    simp only [List.getElem?_cons_succ] at h
    have := list_left l i h
    cases b <;> simp [← this]
theorem left_set {l : Array Bool} {i : Nat} (hi : i < l.size) (h : l.getD i true = false) : leftB (l.setIfInBounds i true) + 1 = leftB l := by
  unfold leftB
  rw [Array.toList_setIfInBounds]
  refine list_left _ _ ?_
  rw [Array.getElem?_toList, Array.getElem?_eq_getElem hi]
  rw [Array.getD_eq_getD_getElem?, Array.getElem?_eq_getElem hi] at h
  simpa using h
theorem ready_none {l : Array Bool} (hs : l.size = ops.size) (h : leftB l = 0) : Region.ready md ops l = [] := by
  rw [List.eq_nil_iff_forall_not_mem]
  intro i hi
  obtain ⟨h1, h2, _⟩ := ready_mem hi
  have := left_set (l := l) (i := i) (by omega) h2
  omega
/-- Whatever the order: what each operation keeps is kept. -/
theorem wpAny_inv (J : Array Bool → Act → World → Prop)
    (hstep : ∀ l a w, l.size = ops.size → J l a w → ∀ i ∈ Region.ready md ops l, wpOp P ops Q i (J (l.setIfInBounds i true)) a w)
    (hdone : ∀ l a w, l.size = ops.size → J l a w → Region.ready md ops l = [] → Q .normal a w) :
    ∀ (fuel : Nat) (l : Array Bool) (a : Act) (w : World), l.size = ops.size → leftB l ≤ fuel → J l a w → wpAny P md ops Q fuel l a w := by
  intro fuel
  induction fuel with
  | zero =>
    intro l a w hs hl hJ
    have hr := ready_none (md := md) hs (Nat.le_zero.1 hl)
    exact ⟨hr, hdone l a w hs hJ hr⟩
  | succ fuel ih =>
    intro l a w hs hl hJ
    refine ⟨fun h => hdone l a w hs hJ h, fun i hi => ?_⟩
    obtain ⟨h1, h2, _⟩ := ready_mem hi
    have h3 := left_set (l := l) (i := i) (by omega) h2
    exact wpOp_mono (fun a w h => ih _ a w (by rw [Array.size_setIfInBounds]; exact hs) (by omega) h) (hstep l a w hs hJ i hi)
theorem left_new (n : Nat) : leftB (Array.replicate n false) = n := by
  unfold leftB
  rw [Array.toList_replicate]
  induction n with
  | zero => rfl
  | succ n ih => simp [List.replicate_succ]
theorem wp_region_inv {id : Nat} {a : Act} {w : World} (hm : P.follows .mixedOrders = true) (J : Array Bool → Act → World → Prop)
    (h0 : J (Array.replicate ops.size false) a w.drew)
    (hstep : ∀ l a w, l.size = ops.size → J l a w → ∀ i ∈ Region.ready .any ops l, wpOp P ops Q i (J (l.setIfInBounds i true)) a w)
    (hdone : ∀ l a w, l.size = ops.size → J l a w → Region.ready .any ops l = [] → Q .normal a w) : (Code.region id ops true).wp P Q a w :=
  wp_region_any hm (wpAny_inv J hstep hdone ops.size _ a _ (by simp) (by rw [left_new]; exact Nat.le_refl _) h0)
variable {S : World → Prop}
theorem wpAnyH_inv (J : Array Bool → Act → World → Prop)
    (hstep : ∀ l a w, l.size = ops.size → J l a w → ∀ i ∈ Region.ready md ops l, wpOp P ops Q i (J (l.setIfInBounds i true)) a w)
    (hS : ∀ l a w, J l a w → S w)
    (hdone : ∀ l a w, l.size = ops.size → J l a w → Region.ready md ops l = [] → Q .normal a w) :
    ∀ (fuel : Nat) (l : Array Bool) (a : Act) (w : World), l.size = ops.size → leftB l ≤ fuel → J l a w → wpAnyH P md ops Q S fuel l a w := by
  intro fuel
  induction fuel with
  | zero =>
    intro l a w hs hl hJ
    have hr := ready_none (md := md) hs (Nat.le_zero.1 hl)
    exact ⟨hr, hdone l a w hs hJ hr⟩
  | succ fuel ih =>
    intro l a w hs hl hJ
    refine ⟨fun h => hdone l a w hs hJ h, fun i hi => ?_⟩
    obtain ⟨h1, h2, _⟩ := ready_mem hi
    have h3 := left_set (l := l) (i := i) (by omega) h2
    exact wpOp_mono (fun a w h => ⟨hS _ _ _ h, ih _ a w (by rw [Array.size_setIfInBounds]; exact hs) (by omega) h⟩) (hstep l a w hs hJ i hi)
/-- The same, from a frame on. -/
theorem wpAnyH_from (J : Act → Array Bool → Act → World → Prop) {fuel : Nat} {listed : Array Bool} {a : Act} {w : World} (hs : listed.size = ops.size) (hl : leftB listed ≤ fuel) (h0 : J a listed a w)
    (hstep : ∀ l a' w', l.size = ops.size → J a l a' w' → ∀ i ∈ Region.ready md ops l, wpOp P ops Q i (J a (l.setIfInBounds i true)) a' w')
    (hS : ∀ l a' w', J a l a' w' → S w')
    (hdone : ∀ l a' w', l.size = ops.size → J a l a' w' → Region.ready md ops l = [] → Q .normal a' w') : wpAnyH P md ops Q S fuel listed a w :=
  wpAnyH_inv (J a) hstep hS hdone fuel listed a w hs hl h0
theorem op_step {i : Nat} {o : Oper} {K : Act → World → Prop} {a : Act} {w : World} (ho : ops[i]? = some o)
    (h : ∀ K' : Act → World → Prop, Shut (∀ a w, K a w → K' a w) → if Region.wanted o (yielded ops a.tmps) = true then Oper.wp P o a w K' Q else K' (a.put o.dst undef) w) : wpOp P ops Q i K a w :=
  wpOp_step ho (fun K' hK => h K' hK)
/-- What may come up has not come up; what it hangs on has. -/
theorem ready_bits {l : Array Bool} {i : Nat} (hs : l.size = ops.size) (h : i ∈ Region.ready md ops l) : i < ops.size ∧ l[i]? = some false ∧ ∀ o, ops[i]? = some o → ∀ e ∈ o.after, Region.binds md e = true → l[e.on]? = some true := by
  obtain ⟨h1, h2, h3⟩ := ready_mem h
  refine ⟨h1, ?_, fun o ho e he hb => ?_⟩
  · rw [Array.getElem?_eq_getElem (by omega)]
    rw [Array.getD_eq_getD_getElem?, Array.getElem?_eq_getElem (by omega)] at h2
    simpa using h2
  · have := h3 o ho e he hb
    rw [Array.getD_eq_getD_getElem?] at this
    cases hq : l[e.on]? with
    | none => rw [hq] at this; cases this
    | some b => rw [hq] at this; simp at this; rw [this]
theorem bit_ne {l : Array Bool} {i k : Nat} (h : i ≠ k) (hk : (l.setIfInBounds i true)[k]? = some true) : l[k]? = some true := by
  rw [Array.getElem?_setIfInBounds_ne h] at hk
  exact hk
theorem bit_keep {l : Array Bool} {i k : Nat} (hk : l[k]? = some true) : (l.setIfInBounds i true)[k]? = some true := by
  by_cases h : i = k
  · subst h
    rw [Array.getElem?_setIfInBounds_self, if_pos (Array.getElem?_eq_some_iff.1 hk).1]
  · rw [Array.getElem?_setIfInBounds_ne h]
    exact hk
/-- The same, with what is known of the frame, and no more. -/
theorem wpAnyH_facts (F : Act → Prop) (J : Act → Array Bool → Act → World → Prop) {fuel : Nat} {listed : Array Bool} {a : Act} {w : World} (hF : F a) (hs : listed.size = ops.size) (hl : leftB listed ≤ fuel) (h0 : J a listed a w)
    (hstep : ∀ a0, F a0 → ∀ l a' w', l.size = ops.size → J a0 l a' w' → ∀ i ∈ Region.ready md ops l, wpOp P ops Q i (J a0 (l.setIfInBounds i true)) a' w')
    (hS : ∀ a0 l a' w', J a0 l a' w' → S w')
    (hdone : ∀ l a' w', l.size = ops.size → J a l a' w' → Region.ready md ops l = [] → Q .normal a' w') : wpAnyH P md ops Q S fuel listed a w :=
  wpAnyH_inv (J a) (hstep a hF) (hS a) hdone fuel listed a w hs hl h0
/-- A frame that has turned in some slots alone. -/
structure Fr (L : List Nat) (a0 a : Act) : Prop where
  d : a.defers = a0.defers
  s : a.tmps.size = a0.tmps.size
  t : ∀ k, k ∉ L → a.tmps[k]? = a0.tmps[k]?
theorem Fr.refl (L : List Nat) (a : Act) : Fr L a a := ⟨rfl, rfl, fun _ _ => rfl⟩
theorem Fr.put {L : List Nat} {a0 a : Act} {k : Nat} {v : Value} (h : Fr L a0 a) (hk : k ∈ L) : Fr L a0 (a.put (some k) v) := by
  refine ⟨h.d, ?_, fun j hj => ?_⟩
  · show (a.tmps.setIfInBounds k v).size = _
    rw [Array.size_setIfInBounds]; exact h.s
  · show (a.tmps.setIfInBounds k v)[j]? = _
    have hkj : k ≠ j := fun e => hj (by subst e; exact hk)
    rw [Array.getElem?_setIfInBounds_ne hkj]
    exact h.t j hj
theorem put_at {a : Act} {k : Nat} {v : Value} (h : k < a.tmps.size) : (a.put (some k) v).tmps.getD k undef = v := by
  show (a.tmps.setIfInBounds k v).getD k undef = v
  rw [Array.getD_eq_getD_getElem?, Array.getElem?_setIfInBounds_self, if_pos h]
  rfl
theorem put_off {a : Act} {k j : Nat} {v : Value} (h : k ≠ j) : (a.put (some k) v).tmps.getD j undef = a.tmps.getD j undef := by
  show (a.tmps.setIfInBounds k v).getD j undef = _
  rw [Array.getD_eq_getD_getElem?, Array.getElem?_setIfInBounds_ne h, ← Array.getD_eq_getD_getElem?]
theorem Fr.at {L : List Nat} {a0 a : Act} (h : Fr L a0 a) {k : Nat} (hk : k ∉ L) : a.tmps.getD k undef = a0.tmps.getD k undef := by
  rw [Array.getD_eq_getD_getElem?, h.t k hk, ← Array.getD_eq_getD_getElem?]
def putsL (a : Act) : List Nat → Act → Act
  | [], b => b
  | k :: L, b => putsL a L (b.put (some k) (a.tmps.getD k undef))
theorem putsL_d (a : Act) : ∀ (L : List Nat) (b : Act), (putsL a L b).defers = b.defers
  | [], _ => rfl
  | _ :: L, _ => putsL_d a L _
theorem putsL_t (a : Act) : ∀ (L : List Nat) (b : Act), a.tmps.size = b.tmps.size → ∀ j, (putsL a L b).tmps[j]? = if j ∈ L then a.tmps[j]? else b.tmps[j]?
  | [], b, _, j => by rw [if_neg (by simp)]; rfl
  | k :: L, b, hs, j => by
    have h1 : (b.put (some k) (a.tmps.getD k undef)).tmps = b.tmps.setIfInBounds k (a.tmps.getD k undef) := rfl
    have ih := putsL_t a L (b.put (some k) (a.tmps.getD k undef)) (by rw [h1, Array.size_setIfInBounds]; exact hs) j
    show (putsL a L _).tmps[j]? = _
    rw [ih, h1]
    by_cases hj : j ∈ L
    · rw [if_pos hj, if_pos (by simp [hj])]
    · rw [if_neg hj]
      by_cases hk : k = j
      · subst hk
        rw [if_pos (by simp), Array.getElem?_setIfInBounds_self]
        by_cases hlt : k < b.tmps.size
        · rw [if_pos hlt, Array.getD_eq_getD_getElem?, Array.getElem?_eq_getElem (by omega)]
          rfl
        · rw [if_neg hlt, Array.getElem?_eq_none (by omega)]
      · rw [Array.getElem?_setIfInBounds_ne hk, if_neg (by simp only [List.mem_cons, not_or]; exact ⟨fun e => hk e.symm, hj⟩)]
theorem Fr.eq {L : List Nat} {a0 a : Act} (h : Fr L a0 a) : a = putsL a L a0 := by
  have h1 := putsL_t a L a0 h.s
  have h2 := putsL_d a L a0
  have h3 : a.tmps = (putsL a L a0).tmps := by
    apply Array.ext_getElem?
    intro j
    rw [h1 j]
    by_cases hj : j ∈ L
    · rw [if_pos hj]
    · rw [if_neg hj]; exact h.t j hj
  have h4 : a.defers = (putsL a L a0).defers := by rw [h2]; exact h.d
  generalize putsL a L a0 = b at h3 h4
  cases a; cases b
  simp only at h3 h4
  subst h3 h4
  rfl
def backB (md : Region.Mode) (ops : Array Oper) : Bool := (List.range ops.size).all fun i => ((ops[i]?).map (·.after.all fun e => !Region.binds md e || decide (e.on < i))).getD true
/-- When nothing may come up any more, all has come up. -/
theorem ready_all {l : Array Bool} (hb : backB md ops = true) (hs : l.size = ops.size) (h : Region.ready md ops l = []) : ∀ i, i < ops.size → l[i]? = some true := by
  intro i
  induction i using Nat.strongRecOn with
  | ind i ih =>
    intro hi
    rw [Array.getElem?_eq_getElem (by omega)]
    cases hq : l[i]'(by omega) with
    | true => rfl
    | false =>
      exfalso
      have hm : i ∈ Region.ready md ops l := by
        unfold Region.ready
        rw [List.mem_filter, List.mem_range, Bool.and_eq_true]
        refine ⟨hi, ?_, ?_⟩
        · rw [Array.getD_eq_getD_getElem?, Array.getElem?_eq_getElem (by omega), hq]
          rfl
        · have h1 := List.all_eq_true.1 hb i (List.mem_range.2 hi)
          rw [Array.getElem?_eq_getElem hi] at h1 ⊢
          simp only [Option.map_some, Option.getD_some, Array.all_eq_true', Bool.or_eq_true, decide_eq_true_eq] at h1 ⊢
          intro e he
          rcases h1 e he with h2 | h2
          · exact .inl h2
          · refine .inr ?_
            have h3 := ih e.on h2 (by omega)
            rw [Array.getD_eq_getD_getElem?, h3]
            rfl
      rw [h] at hm
      cases hm
end
end Go.Proofs.YtgpbpbhidemciaaGreat
namespace Go.Proofs.YtgpbpbhidemciaaGreat
open Go.RowKit

/-- Blocks of memory stay, but for those of functions. -/
def StF (w w' : World) : Prop := ∀ g t cs, t ≠ 37 → Blk w g t cs → Blk w' g t cs
theorem StF.alloc (w : World) (o : Obj) : StF w (w.alloc o) := fun _ _ _ _ h => h.alloc o
theorem StF.below {w w' : World} (hb : Below w.heap.size w w') : StF w w' := fun _ _ _ _ h => h.below hb h.lt
theorem StF.put {w : World} {X : Nat} {cs : Array Value} (h : Blk w X 37 cs) (a b : Value) : StF w ((w.setCell ⟨X, 0, none⟩ a).setCell ⟨X, 1, none⟩ b) := fun g t ds ht hg => by
  have hne : g ≠ X := fun e => by
    subst e
    unfold Blk at h hg
    rw [h] at hg
    simp only [Option.some.injEq, Obj.cells.injEq] at hg
    exact ht hg.2.1.symm
  exact (hg.far (p := ⟨X, 0, none⟩) hne _).far (p := ⟨X, 1, none⟩) hne _
def iC (v : Int) : Array Value := #[.int .i64 1, .int .i64 v, .int .i64 0, .int .i64 0, .int .i64 0, .int .i64 0, .slice none 0 0, .int .i64 0]
def IsIns (y : Value) : Prop := ∃ v : Int, y = .agg (iC v)
def IsRow (w : World) (y : Value) : Prop := ∃ (v : Int) (g : Nat), y = .slice (some ⟨g, 0, none⟩) 1 1 ∧ Blk w g 25 (iC v)
def IsRow0 (w : World) (y : Value) : Prop := IsRow w y ∨ y = .slice none 0 0
def IsBl (w : World) (y : Value) : Prop := ∃ (r : Value) (k a b c : Int), y = .agg #[r, .int .i64 k, .int .i64 a, .int .i64 b, .int .i64 c] ∧ IsRow0 w r
def IsPar (w : World) (y : Value) : Prop := ∃ (p : Int) (g : Nat), y = .slice (some ⟨g, 0, none⟩) 1 1 ∧ Blk w g 3 #[.int .i64 p]
def IsFour (w : World) (y : Value) : Prop := ∃ (g : Nat) (r0 r1 r2 r3 : Value) (k0 a0 b0 c0 k1 a1 b1 c1 k2 a2 b2 c2 k3 a3 b3 c3 : Int), y = .slice (some ⟨g, 0, none⟩) 4 4 ∧
  Blk w g 34 #[r0, .int .i64 k0, .int .i64 a0, .int .i64 b0, .int .i64 c0, r1, .int .i64 k1, .int .i64 a1, .int .i64 b1, .int .i64 c1, r2, .int .i64 k2, .int .i64 a2, .int .i64 b2, .int .i64 c2, r3, .int .i64 k3, .int .i64 a3, .int .i64 b3, .int .i64 c3] ∧ IsRow0 w r0 ∧ IsRow0 w r1 ∧ IsRow0 w r2 ∧ IsRow0 w r3
def IsFn (w : World) (y : Value) : Prop := ∃ r s : Value, y = .agg #[r, s] ∧ IsPar w r ∧ IsFour w s
theorem IsRow.st {w w' : World} {y : Value} (h : IsRow w y) (hs : StF w w') : IsRow w' y := by obtain ⟨v, g, e, hb⟩ := h; exact ⟨v, g, e, hs _ _ _ (by decide) hb⟩
theorem IsRow0.st {w w' : World} {y : Value} (h : IsRow0 w y) (hs : StF w w') : IsRow0 w' y := h.imp (fun h => h.st hs) id
theorem IsBl.st {w w' : World} {y : Value} (h : IsBl w y) (hs : StF w w') : IsBl w' y := by obtain ⟨r, k, a, b, c, e, hr⟩ := h; exact ⟨r, k, a, b, c, e, hr.st hs⟩
theorem IsPar.st {w w' : World} {y : Value} (h : IsPar w y) (hs : StF w w') : IsPar w' y := by obtain ⟨p, g, e, hb⟩ := h; exact ⟨p, g, e, hs _ _ _ (by decide) hb⟩
theorem IsFour.st {w w' : World} {y : Value} (h : IsFour w y) (hs : StF w w') : IsFour w' y := by
  obtain ⟨g, r0, r1, r2, r3, k0, a0, b0, c0, k1, a1, b1, c1, k2, a2, b2, c2, k3, a3, b3, c3, e, hb, h0, h1, h2, h3⟩ := h
  exact ⟨g, r0, r1, r2, r3, k0, a0, b0, c0, k1, a1, b1, c1, k2, a2, b2, c2, k3, a3, b3, c3, e, hs _ _ _ (by decide) hb, h0.st hs, h1.st hs, h2.st hs, h3.st hs⟩
theorem IsFn.st {w w' : World} {y : Value} (h : IsFn w y) (hs : StF w w') : IsFn w' y := by obtain ⟨r, s, e, h1, h2⟩ := h; exact ⟨r, s, e, h1.st hs, h2.st hs⟩
/-- A box of a function. -/
def IsBox (w : World) (B : Nat) (y : Value) : Prop := ∃ (X : Nat) (c d : Value), y = .pointer (some ⟨X, 0, none⟩) ∧ Blk w X 37 #[c, d] ∧ B ≤ X
/-- A box with a function. -/
def IsFull (w : World) (B : Nat) (y : Value) : Prop := ∃ (X : Nat) (r s : Value), y = .pointer (some ⟨X, 0, none⟩) ∧ Blk w X 37 #[r, s] ∧ B ≤ X ∧ IsPar w r ∧ IsFour w s
theorem row0_ins {w : World} {y : Value} (h : IsRow0 w y) : ∃ (ia : Option Addr) (l : List Ii), y = .slice ia l.length l.length ∧ l.length ≤ 1 ∧ (∀ x ∈ l, x.args = []) ∧ (ia = none → l.length = 0) ∧ InsW w ia l := by
  rcases h with ⟨v, g, rfl, hb⟩ | rfl
  · refine ⟨some ⟨g, 0, none⟩, [⟨1, v, 0, 0, 0, 0, [], 0⟩], rfl, Nat.le_refl _, fun x hx => by simp at hx; subst hx; rfl, (fun h => by cases h), fun k x hx => ?_⟩
    cases k with
    | zero =>
      simp only [List.getElem?_cons_zero, Option.some.injEq] at hx
      subst hx
      exact ⟨g, 0, none, 0, rfl, hb.lt, ⟨hb.cell 0, hb.cell 1, hb.cell 2, hb.cell 3, hb.cell 4, hb.cell 5, hb.cell 6, hb.cell 7, fun _ => rfl, IntsW.nil _ _⟩⟩
    | succ k => simp at hx
  · exact ⟨none, [], rfl, by simp, by simp, fun _ => rfl, fun k x hx => by simp at hx⟩
theorem four_blocks {w : World} {y : Value} (h : IsFour w y) : ∃ (g : Nat) (l : List Bb), y = .slice (some ⟨g, 0, none⟩) 4 4 ∧ l.length = 4 ∧ (∀ x ∈ l, x.ins.length ≤ 1 ∧ ∀ i ∈ x.ins, i.args = []) ∧ BlsW w (some ⟨g, 0, none⟩) l ∧ g < w.heap.size := by
  obtain ⟨g, r0, r1, r2, r3, k0, a0, b0, c0, k1, a1, b1, c1, k2, a2, b2, c2, k3, a3, b3, c3, rfl, hb, h0, h1, h2, h3⟩ := h
  obtain ⟨i0, l0, rfl, y0, z0, n0, w0⟩ := row0_ins h0
  obtain ⟨i1, l1, rfl, y1, z1, n1, w1⟩ := row0_ins h1
  obtain ⟨i2, l2, rfl, y2, z2, n2, w2⟩ := row0_ins h2
  obtain ⟨i3, l3, rfl, y3, z3, n3, w3⟩ := row0_ins h3
  refine ⟨g, [⟨l0, ⟨k0, a0, b0, c0⟩⟩, ⟨l1, ⟨k1, a1, b1, c1⟩⟩, ⟨l2, ⟨k2, a2, b2, c2⟩⟩, ⟨l3, ⟨k3, a3, b3, c3⟩⟩], rfl, rfl, fun x hx => ?_, fun k x hx => ?_, hb.lt⟩
  · simp only [List.mem_cons, List.not_mem_nil, or_false] at hx
    rcases hx with rfl | rfl | rfl | rfl
    · exact ⟨y0, z0⟩
    · exact ⟨y1, z1⟩
    · exact ⟨y2, z2⟩
    · exact ⟨y3, z3⟩
  · match k, hx with
    | 0, hx => cases hx; exact ⟨g, 0, i0, l0.length, rfl, hb.lt, ⟨hb.cell 0, hb.cell 1, hb.cell 2, hb.cell 3, hb.cell 4, n0, w0⟩⟩
    | 1, hx => cases hx; exact ⟨g, 0, i1, l1.length, rfl, hb.lt, ⟨hb.cell 5, hb.cell 6, hb.cell 7, hb.cell 8, hb.cell 9, n1, w1⟩⟩
    | 2, hx => cases hx; exact ⟨g, 0, i2, l2.length, rfl, hb.lt, ⟨hb.cell 10, hb.cell 11, hb.cell 12, hb.cell 13, hb.cell 14, n2, w2⟩⟩
    | 3, hx => cases hx; exact ⟨g, 0, i3, l3.length, rfl, hb.lt, ⟨hb.cell 15, hb.cell 16, hb.cell 17, hb.cell 18, hb.cell 19, n3, w3⟩⟩
    | k + 4, hx => simp at hx
/-- All blocks of memory stay. -/
def StA (w w' : World) : Prop := ∀ g t cs, Blk w g t cs → Blk w' g t cs
theorem StA.st {w w' : World} (h : StA w w') : StF w w' := fun g t cs _ hb => h g t cs hb
theorem StA.refl (w : World) : StA w w := fun _ _ _ h => h
theorem StA.alloc (w : World) (o : Obj) : StA w (w.alloc o) := fun _ _ _ h => h.alloc o
theorem StA.below {w w' : World} (hb : Below w.heap.size w w') : StA w w' := fun _ _ _ h => h.below hb h.lt
theorem IsBox.st {w w' : World} {B : Nat} {y : Value} (h : IsBox w B y) (hs : StA w w') : IsBox w' B y := by obtain ⟨X, c, d, e, hb, hB⟩ := h; exact ⟨X, c, d, e, hs _ _ _ hb, hB⟩
theorem IsFull.st {w w' : World} {B : Nat} {y : Value} (h : IsFull w B y) (hs : StA w w') : IsFull w' B y := by obtain ⟨X, r, s, e, hb, hB, h1, h2⟩ := h; exact ⟨X, r, s, e, hs _ _ _ hb, hB, h1.st hs.st, h2.st hs.st⟩
/-- What is there amid the region that builds the function. -/
structure Mid44 (B : Nat) (l : Array Bool) (w : World) (x0 x5 x6 x16 x24 x25 x28 x29 x30 x31 : Value) : Prop where
  done : ∀ k, k ∈ [1, 2, 3, 4, 7, 8, 9, 10, 11, 12, 13, 14, 15, 17, 18, 19, 20, 21, 22, 23, 26, 27] → l[k]? = some true
  p0 : l[0]? = some true → IsPar w x0
  p5 : l[5]? = some true → IsIns x5
  p6 : l[6]? = some true → IsRow w x6
  p16 : l[16]? = some true → IsBl w x16
  p24 : l[24]? = some true → IsIns x24
  p25 : l[25]? = some true → IsRow w x25
  p28 : l[28]? = some true → IsBl w x28
  p29 : l[29]? = some true → IsFour w x29
  p30 : l[30]? = some true → IsFn w x30
  p31 : l[31]? = some true → IsBox w B x31
  last : l[32]? = some true → IsFull w B x31
  ord : l[32]? = some true → l[31]? = some true
section
variable {B : Nat} {l : Array Bool} {w w' : World} {x0 x5 x6 x16 x24 x25 x28 x29 x30 x31 y : Value}
theorem Mid44.put0 (h : Mid44 B l w x0 x5 x6 x16 x24 x25 x28 x29 x30 x31) (hs : StA w w') (hp : IsPar w' y) : Mid44 B (l.setIfInBounds 0 true) w' y x5 x6 x16 x24 x25 x28 x29 x30 x31 :=
  ⟨fun k hk => bit_keep (h.done k hk), fun _ => hp, fun b => h.p5 (bit_ne (by decide) b), fun b => (h.p6 (bit_ne (by decide) b)).st hs.st, fun b => (h.p16 (bit_ne (by decide) b)).st hs.st, fun b => h.p24 (bit_ne (by decide) b), fun b => (h.p25 (bit_ne (by decide) b)).st hs.st, fun b => (h.p28 (bit_ne (by decide) b)).st hs.st, fun b => (h.p29 (bit_ne (by decide) b)).st hs.st, fun b => (h.p30 (bit_ne (by decide) b)).st hs.st, fun b => (h.p31 (bit_ne (by decide) b)).st hs, fun b => (h.last (bit_ne (by decide) b)).st hs, fun b => bit_keep (h.ord (bit_ne (by decide) b))⟩
theorem Mid44.put5 (h : Mid44 B l w x0 x5 x6 x16 x24 x25 x28 x29 x30 x31) (hs : StA w w') (hp : IsIns y) : Mid44 B (l.setIfInBounds 5 true) w' x0 y x6 x16 x24 x25 x28 x29 x30 x31 :=
  ⟨fun k hk => bit_keep (h.done k hk), fun b => (h.p0 (bit_ne (by decide) b)).st hs.st, fun _ => hp, fun b => (h.p6 (bit_ne (by decide) b)).st hs.st, fun b => (h.p16 (bit_ne (by decide) b)).st hs.st, fun b => h.p24 (bit_ne (by decide) b), fun b => (h.p25 (bit_ne (by decide) b)).st hs.st, fun b => (h.p28 (bit_ne (by decide) b)).st hs.st, fun b => (h.p29 (bit_ne (by decide) b)).st hs.st, fun b => (h.p30 (bit_ne (by decide) b)).st hs.st, fun b => (h.p31 (bit_ne (by decide) b)).st hs, fun b => (h.last (bit_ne (by decide) b)).st hs, fun b => bit_keep (h.ord (bit_ne (by decide) b))⟩
theorem Mid44.put6 (h : Mid44 B l w x0 x5 x6 x16 x24 x25 x28 x29 x30 x31) (hs : StA w w') (hp : IsRow w' y) : Mid44 B (l.setIfInBounds 6 true) w' x0 x5 y x16 x24 x25 x28 x29 x30 x31 :=
  ⟨fun k hk => bit_keep (h.done k hk), fun b => (h.p0 (bit_ne (by decide) b)).st hs.st, fun b => h.p5 (bit_ne (by decide) b), fun _ => hp, fun b => (h.p16 (bit_ne (by decide) b)).st hs.st, fun b => h.p24 (bit_ne (by decide) b), fun b => (h.p25 (bit_ne (by decide) b)).st hs.st, fun b => (h.p28 (bit_ne (by decide) b)).st hs.st, fun b => (h.p29 (bit_ne (by decide) b)).st hs.st, fun b => (h.p30 (bit_ne (by decide) b)).st hs.st, fun b => (h.p31 (bit_ne (by decide) b)).st hs, fun b => (h.last (bit_ne (by decide) b)).st hs, fun b => bit_keep (h.ord (bit_ne (by decide) b))⟩
theorem Mid44.put16 (h : Mid44 B l w x0 x5 x6 x16 x24 x25 x28 x29 x30 x31) (hs : StA w w') (hp : IsBl w' y) : Mid44 B (l.setIfInBounds 16 true) w' x0 x5 x6 y x24 x25 x28 x29 x30 x31 :=
  ⟨fun k hk => bit_keep (h.done k hk), fun b => (h.p0 (bit_ne (by decide) b)).st hs.st, fun b => h.p5 (bit_ne (by decide) b), fun b => (h.p6 (bit_ne (by decide) b)).st hs.st, fun _ => hp, fun b => h.p24 (bit_ne (by decide) b), fun b => (h.p25 (bit_ne (by decide) b)).st hs.st, fun b => (h.p28 (bit_ne (by decide) b)).st hs.st, fun b => (h.p29 (bit_ne (by decide) b)).st hs.st, fun b => (h.p30 (bit_ne (by decide) b)).st hs.st, fun b => (h.p31 (bit_ne (by decide) b)).st hs, fun b => (h.last (bit_ne (by decide) b)).st hs, fun b => bit_keep (h.ord (bit_ne (by decide) b))⟩
theorem Mid44.put24 (h : Mid44 B l w x0 x5 x6 x16 x24 x25 x28 x29 x30 x31) (hs : StA w w') (hp : IsIns y) : Mid44 B (l.setIfInBounds 24 true) w' x0 x5 x6 x16 y x25 x28 x29 x30 x31 :=
  ⟨fun k hk => bit_keep (h.done k hk), fun b => (h.p0 (bit_ne (by decide) b)).st hs.st, fun b => h.p5 (bit_ne (by decide) b), fun b => (h.p6 (bit_ne (by decide) b)).st hs.st, fun b => (h.p16 (bit_ne (by decide) b)).st hs.st, fun _ => hp, fun b => (h.p25 (bit_ne (by decide) b)).st hs.st, fun b => (h.p28 (bit_ne (by decide) b)).st hs.st, fun b => (h.p29 (bit_ne (by decide) b)).st hs.st, fun b => (h.p30 (bit_ne (by decide) b)).st hs.st, fun b => (h.p31 (bit_ne (by decide) b)).st hs, fun b => (h.last (bit_ne (by decide) b)).st hs, fun b => bit_keep (h.ord (bit_ne (by decide) b))⟩
theorem Mid44.put25 (h : Mid44 B l w x0 x5 x6 x16 x24 x25 x28 x29 x30 x31) (hs : StA w w') (hp : IsRow w' y) : Mid44 B (l.setIfInBounds 25 true) w' x0 x5 x6 x16 x24 y x28 x29 x30 x31 :=
  ⟨fun k hk => bit_keep (h.done k hk), fun b => (h.p0 (bit_ne (by decide) b)).st hs.st, fun b => h.p5 (bit_ne (by decide) b), fun b => (h.p6 (bit_ne (by decide) b)).st hs.st, fun b => (h.p16 (bit_ne (by decide) b)).st hs.st, fun b => h.p24 (bit_ne (by decide) b), fun _ => hp, fun b => (h.p28 (bit_ne (by decide) b)).st hs.st, fun b => (h.p29 (bit_ne (by decide) b)).st hs.st, fun b => (h.p30 (bit_ne (by decide) b)).st hs.st, fun b => (h.p31 (bit_ne (by decide) b)).st hs, fun b => (h.last (bit_ne (by decide) b)).st hs, fun b => bit_keep (h.ord (bit_ne (by decide) b))⟩
theorem Mid44.put28 (h : Mid44 B l w x0 x5 x6 x16 x24 x25 x28 x29 x30 x31) (hs : StA w w') (hp : IsBl w' y) : Mid44 B (l.setIfInBounds 28 true) w' x0 x5 x6 x16 x24 x25 y x29 x30 x31 :=
  ⟨fun k hk => bit_keep (h.done k hk), fun b => (h.p0 (bit_ne (by decide) b)).st hs.st, fun b => h.p5 (bit_ne (by decide) b), fun b => (h.p6 (bit_ne (by decide) b)).st hs.st, fun b => (h.p16 (bit_ne (by decide) b)).st hs.st, fun b => h.p24 (bit_ne (by decide) b), fun b => (h.p25 (bit_ne (by decide) b)).st hs.st, fun _ => hp, fun b => (h.p29 (bit_ne (by decide) b)).st hs.st, fun b => (h.p30 (bit_ne (by decide) b)).st hs.st, fun b => (h.p31 (bit_ne (by decide) b)).st hs, fun b => (h.last (bit_ne (by decide) b)).st hs, fun b => bit_keep (h.ord (bit_ne (by decide) b))⟩
theorem Mid44.put29 (h : Mid44 B l w x0 x5 x6 x16 x24 x25 x28 x29 x30 x31) (hs : StA w w') (hp : IsFour w' y) : Mid44 B (l.setIfInBounds 29 true) w' x0 x5 x6 x16 x24 x25 x28 y x30 x31 :=
  ⟨fun k hk => bit_keep (h.done k hk), fun b => (h.p0 (bit_ne (by decide) b)).st hs.st, fun b => h.p5 (bit_ne (by decide) b), fun b => (h.p6 (bit_ne (by decide) b)).st hs.st, fun b => (h.p16 (bit_ne (by decide) b)).st hs.st, fun b => h.p24 (bit_ne (by decide) b), fun b => (h.p25 (bit_ne (by decide) b)).st hs.st, fun b => (h.p28 (bit_ne (by decide) b)).st hs.st, fun _ => hp, fun b => (h.p30 (bit_ne (by decide) b)).st hs.st, fun b => (h.p31 (bit_ne (by decide) b)).st hs, fun b => (h.last (bit_ne (by decide) b)).st hs, fun b => bit_keep (h.ord (bit_ne (by decide) b))⟩
theorem Mid44.put30 (h : Mid44 B l w x0 x5 x6 x16 x24 x25 x28 x29 x30 x31) (hs : StA w w') (hp : IsFn w' y) : Mid44 B (l.setIfInBounds 30 true) w' x0 x5 x6 x16 x24 x25 x28 x29 y x31 :=
  ⟨fun k hk => bit_keep (h.done k hk), fun b => (h.p0 (bit_ne (by decide) b)).st hs.st, fun b => h.p5 (bit_ne (by decide) b), fun b => (h.p6 (bit_ne (by decide) b)).st hs.st, fun b => (h.p16 (bit_ne (by decide) b)).st hs.st, fun b => h.p24 (bit_ne (by decide) b), fun b => (h.p25 (bit_ne (by decide) b)).st hs.st, fun b => (h.p28 (bit_ne (by decide) b)).st hs.st, fun b => (h.p29 (bit_ne (by decide) b)).st hs.st, fun _ => hp, fun b => (h.p31 (bit_ne (by decide) b)).st hs, fun b => (h.last (bit_ne (by decide) b)).st hs, fun b => bit_keep (h.ord (bit_ne (by decide) b))⟩
theorem Mid44.put31 (h : Mid44 B l w x0 x5 x6 x16 x24 x25 x28 x29 x30 x31) (hs : StA w w') (hp : IsBox w' B y) (hl : l[31]? = some false) : Mid44 B (l.setIfInBounds 31 true) w' x0 x5 x6 x16 x24 x25 x28 x29 x30 y :=
  ⟨fun k hk => bit_keep (h.done k hk), fun b => (h.p0 (bit_ne (by decide) b)).st hs.st, fun b => h.p5 (bit_ne (by decide) b), fun b => (h.p6 (bit_ne (by decide) b)).st hs.st, fun b => (h.p16 (bit_ne (by decide) b)).st hs.st, fun b => h.p24 (bit_ne (by decide) b), fun b => (h.p25 (bit_ne (by decide) b)).st hs.st, fun b => (h.p28 (bit_ne (by decide) b)).st hs.st, fun b => (h.p29 (bit_ne (by decide) b)).st hs.st, fun b => (h.p30 (bit_ne (by decide) b)).st hs.st, fun _ => hp, fun b => (by have := h.ord (bit_ne (by decide) b); rw [hl] at this; cases this), fun _ => (by rw [Array.getElem?_setIfInBounds_self, if_pos (Array.getElem?_eq_some_iff.1 hl).1])⟩
theorem Mid44.put32 (h : Mid44 B l w x0 x5 x6 x16 x24 x25 x28 x29 x30 x31) (hs : StF w w') (hp : IsFull w' B x31) (h31 : l[31]? = some true) : Mid44 B (l.setIfInBounds 32 true) w' x0 x5 x6 x16 x24 x25 x28 x29 x30 x31 :=
  ⟨fun k hk => bit_keep (h.done k hk), fun b => (h.p0 (bit_ne (by decide) b)).st hs, fun b => h.p5 (bit_ne (by decide) b), fun b => (h.p6 (bit_ne (by decide) b)).st hs, fun b => (h.p16 (bit_ne (by decide) b)).st hs, fun b => h.p24 (bit_ne (by decide) b), fun b => (h.p25 (bit_ne (by decide) b)).st hs, fun b => (h.p28 (bit_ne (by decide) b)).st hs, fun b => (h.p29 (bit_ne (by decide) b)).st hs, fun b => (h.p30 (bit_ne (by decide) b)).st hs, fun _ => (by obtain ⟨X, r, s, e, hb, hB, _⟩ := hp; exact ⟨X, r, s, e, hb, hB⟩), fun _ => hp, fun _ => bit_keep h31⟩
end
def slots44 : List Nat := [158, 163, 164, 174, 182, 183, 186, 187, 188, 8]
/-- What is known of the frame ahead of the operations that make memory. -/
structure F44 (gt : Nat) (a : Act) : Prop where
  size : 200 ≤ a.tmps.size
  s162 : ∃ v : Int, a.tmps.getD 162 undef = .int .i64 v
  s173 : ∃ k p b c : Int, a.tmps.getD 173 undef = .agg #[.int .i64 k, .int .i64 p, .int .i64 b, .int .i64 c]
  s175 : ∃ k p b c : Int, a.tmps.getD 175 undef = .agg #[.slice (some ⟨gt, 0, none⟩) 1 1, .int .i64 k, .int .i64 p, .int .i64 b, .int .i64 c]
  s179 : ∃ k p b c : Int, a.tmps.getD 179 undef = .agg #[.slice none 0 0, .int .i64 k, .int .i64 p, .int .i64 b, .int .i64 c]
  s181 : ∃ v : Int, a.tmps.getD 181 undef = .int .i64 v
  s185 : ∃ k p b c : Int, a.tmps.getD 185 undef = .agg #[.int .i64 k, .int .i64 p, .int .i64 b, .int .i64 c]
/-- The state amid the region. -/
def J44 (W0 : World) (a0 : Act) (l : Array Bool) (a : Act) (w : World) : Prop :=
  Fr slots44 a0 a ∧ Below W0.heap.size W0 w ∧ Mid44 W0.heap.size l w (a.tmps.getD 158 undef) (a.tmps.getD 163 undef) (a.tmps.getD 164 undef) (a.tmps.getD 174 undef) (a.tmps.getD 182 undef) (a.tmps.getD 183 undef) (a.tmps.getD 186 undef) (a.tmps.getD 187 undef) (a.tmps.getD 188 undef) (a.tmps.getD 8 undef)
theorem J44.put0 {W0 w w' : World} {a0 a : Act} {l : Array Bool} {y : Value} (h : J44 W0 a0 l a w) (hz : 200 ≤ a0.tmps.size) (hs : StA w w') (hb : Below W0.heap.size W0 w') (hp : IsPar w' y) : J44 W0 a0 (l.setIfInBounds 0 true) (a.put (some 158) y) w' := by
  have hsz : 158 < a.tmps.size := by rw [h.1.s]; omega
  refine ⟨h.1.put (by decide), hb, ?_⟩
  rw [put_at hsz, put_off (k := 158) (j := 163) (by decide), put_off (k := 158) (j := 164) (by decide), put_off (k := 158) (j := 174) (by decide), put_off (k := 158) (j := 182) (by decide), put_off (k := 158) (j := 183) (by decide), put_off (k := 158) (j := 186) (by decide), put_off (k := 158) (j := 187) (by decide), put_off (k := 158) (j := 188) (by decide), put_off (k := 158) (j := 8) (by decide)]
  exact h.2.2.put0 hs hp
theorem J44.put5 {W0 w w' : World} {a0 a : Act} {l : Array Bool} {y : Value} (h : J44 W0 a0 l a w) (hz : 200 ≤ a0.tmps.size) (hs : StA w w') (hb : Below W0.heap.size W0 w') (hp : IsIns y) : J44 W0 a0 (l.setIfInBounds 5 true) (a.put (some 163) y) w' := by
  have hsz : 163 < a.tmps.size := by rw [h.1.s]; omega
  refine ⟨h.1.put (by decide), hb, ?_⟩
  rw [put_off (k := 163) (j := 158) (by decide), put_at hsz, put_off (k := 163) (j := 164) (by decide), put_off (k := 163) (j := 174) (by decide), put_off (k := 163) (j := 182) (by decide), put_off (k := 163) (j := 183) (by decide), put_off (k := 163) (j := 186) (by decide), put_off (k := 163) (j := 187) (by decide), put_off (k := 163) (j := 188) (by decide), put_off (k := 163) (j := 8) (by decide)]
  exact h.2.2.put5 hs hp
theorem J44.put6 {W0 w w' : World} {a0 a : Act} {l : Array Bool} {y : Value} (h : J44 W0 a0 l a w) (hz : 200 ≤ a0.tmps.size) (hs : StA w w') (hb : Below W0.heap.size W0 w') (hp : IsRow w' y) : J44 W0 a0 (l.setIfInBounds 6 true) (a.put (some 164) y) w' := by
  have hsz : 164 < a.tmps.size := by rw [h.1.s]; omega
  refine ⟨h.1.put (by decide), hb, ?_⟩
  rw [put_off (k := 164) (j := 158) (by decide), put_off (k := 164) (j := 163) (by decide), put_at hsz, put_off (k := 164) (j := 174) (by decide), put_off (k := 164) (j := 182) (by decide), put_off (k := 164) (j := 183) (by decide), put_off (k := 164) (j := 186) (by decide), put_off (k := 164) (j := 187) (by decide), put_off (k := 164) (j := 188) (by decide), put_off (k := 164) (j := 8) (by decide)]
  exact h.2.2.put6 hs hp
theorem J44.put16 {W0 w w' : World} {a0 a : Act} {l : Array Bool} {y : Value} (h : J44 W0 a0 l a w) (hz : 200 ≤ a0.tmps.size) (hs : StA w w') (hb : Below W0.heap.size W0 w') (hp : IsBl w' y) : J44 W0 a0 (l.setIfInBounds 16 true) (a.put (some 174) y) w' := by
  have hsz : 174 < a.tmps.size := by rw [h.1.s]; omega
  refine ⟨h.1.put (by decide), hb, ?_⟩
  rw [put_off (k := 174) (j := 158) (by decide), put_off (k := 174) (j := 163) (by decide), put_off (k := 174) (j := 164) (by decide), put_at hsz, put_off (k := 174) (j := 182) (by decide), put_off (k := 174) (j := 183) (by decide), put_off (k := 174) (j := 186) (by decide), put_off (k := 174) (j := 187) (by decide), put_off (k := 174) (j := 188) (by decide), put_off (k := 174) (j := 8) (by decide)]
  exact h.2.2.put16 hs hp
theorem J44.put24 {W0 w w' : World} {a0 a : Act} {l : Array Bool} {y : Value} (h : J44 W0 a0 l a w) (hz : 200 ≤ a0.tmps.size) (hs : StA w w') (hb : Below W0.heap.size W0 w') (hp : IsIns y) : J44 W0 a0 (l.setIfInBounds 24 true) (a.put (some 182) y) w' := by
  have hsz : 182 < a.tmps.size := by rw [h.1.s]; omega
  refine ⟨h.1.put (by decide), hb, ?_⟩
  rw [put_off (k := 182) (j := 158) (by decide), put_off (k := 182) (j := 163) (by decide), put_off (k := 182) (j := 164) (by decide), put_off (k := 182) (j := 174) (by decide), put_at hsz, put_off (k := 182) (j := 183) (by decide), put_off (k := 182) (j := 186) (by decide), put_off (k := 182) (j := 187) (by decide), put_off (k := 182) (j := 188) (by decide), put_off (k := 182) (j := 8) (by decide)]
  exact h.2.2.put24 hs hp
theorem J44.put25 {W0 w w' : World} {a0 a : Act} {l : Array Bool} {y : Value} (h : J44 W0 a0 l a w) (hz : 200 ≤ a0.tmps.size) (hs : StA w w') (hb : Below W0.heap.size W0 w') (hp : IsRow w' y) : J44 W0 a0 (l.setIfInBounds 25 true) (a.put (some 183) y) w' := by
  have hsz : 183 < a.tmps.size := by rw [h.1.s]; omega
  refine ⟨h.1.put (by decide), hb, ?_⟩
  rw [put_off (k := 183) (j := 158) (by decide), put_off (k := 183) (j := 163) (by decide), put_off (k := 183) (j := 164) (by decide), put_off (k := 183) (j := 174) (by decide), put_off (k := 183) (j := 182) (by decide), put_at hsz, put_off (k := 183) (j := 186) (by decide), put_off (k := 183) (j := 187) (by decide), put_off (k := 183) (j := 188) (by decide), put_off (k := 183) (j := 8) (by decide)]
  exact h.2.2.put25 hs hp
theorem J44.put28 {W0 w w' : World} {a0 a : Act} {l : Array Bool} {y : Value} (h : J44 W0 a0 l a w) (hz : 200 ≤ a0.tmps.size) (hs : StA w w') (hb : Below W0.heap.size W0 w') (hp : IsBl w' y) : J44 W0 a0 (l.setIfInBounds 28 true) (a.put (some 186) y) w' := by
  have hsz : 186 < a.tmps.size := by rw [h.1.s]; omega
  refine ⟨h.1.put (by decide), hb, ?_⟩
  rw [put_off (k := 186) (j := 158) (by decide), put_off (k := 186) (j := 163) (by decide), put_off (k := 186) (j := 164) (by decide), put_off (k := 186) (j := 174) (by decide), put_off (k := 186) (j := 182) (by decide), put_off (k := 186) (j := 183) (by decide), put_at hsz, put_off (k := 186) (j := 187) (by decide), put_off (k := 186) (j := 188) (by decide), put_off (k := 186) (j := 8) (by decide)]
  exact h.2.2.put28 hs hp
theorem J44.put29 {W0 w w' : World} {a0 a : Act} {l : Array Bool} {y : Value} (h : J44 W0 a0 l a w) (hz : 200 ≤ a0.tmps.size) (hs : StA w w') (hb : Below W0.heap.size W0 w') (hp : IsFour w' y) : J44 W0 a0 (l.setIfInBounds 29 true) (a.put (some 187) y) w' := by
  have hsz : 187 < a.tmps.size := by rw [h.1.s]; omega
  refine ⟨h.1.put (by decide), hb, ?_⟩
  rw [put_off (k := 187) (j := 158) (by decide), put_off (k := 187) (j := 163) (by decide), put_off (k := 187) (j := 164) (by decide), put_off (k := 187) (j := 174) (by decide), put_off (k := 187) (j := 182) (by decide), put_off (k := 187) (j := 183) (by decide), put_off (k := 187) (j := 186) (by decide), put_at hsz, put_off (k := 187) (j := 188) (by decide), put_off (k := 187) (j := 8) (by decide)]
  exact h.2.2.put29 hs hp
theorem J44.put30 {W0 w w' : World} {a0 a : Act} {l : Array Bool} {y : Value} (h : J44 W0 a0 l a w) (hz : 200 ≤ a0.tmps.size) (hs : StA w w') (hb : Below W0.heap.size W0 w') (hp : IsFn w' y) : J44 W0 a0 (l.setIfInBounds 30 true) (a.put (some 188) y) w' := by
  have hsz : 188 < a.tmps.size := by rw [h.1.s]; omega
  refine ⟨h.1.put (by decide), hb, ?_⟩
  rw [put_off (k := 188) (j := 158) (by decide), put_off (k := 188) (j := 163) (by decide), put_off (k := 188) (j := 164) (by decide), put_off (k := 188) (j := 174) (by decide), put_off (k := 188) (j := 182) (by decide), put_off (k := 188) (j := 183) (by decide), put_off (k := 188) (j := 186) (by decide), put_off (k := 188) (j := 187) (by decide), put_at hsz, put_off (k := 188) (j := 8) (by decide)]
  exact h.2.2.put30 hs hp
theorem J44.put31 {W0 w w' : World} {a0 a : Act} {l : Array Bool} {y : Value} (h : J44 W0 a0 l a w) (hz : 200 ≤ a0.tmps.size) (hs : StA w w') (hb : Below W0.heap.size W0 w') (hp : IsBox w' W0.heap.size y) (hl : l[31]? = some false) : J44 W0 a0 (l.setIfInBounds 31 true) (a.put (some 8) y) w' := by
  have hsz : 8 < a.tmps.size := by rw [h.1.s]; omega
  refine ⟨h.1.put (by decide), hb, ?_⟩
  rw [put_off (k := 8) (j := 158) (by decide), put_off (k := 8) (j := 163) (by decide), put_off (k := 8) (j := 164) (by decide), put_off (k := 8) (j := 174) (by decide), put_off (k := 8) (j := 182) (by decide), put_off (k := 8) (j := 183) (by decide), put_off (k := 8) (j := 186) (by decide), put_off (k := 8) (j := 187) (by decide), put_off (k := 8) (j := 188) (by decide), put_at hsz]
  exact h.2.2.put31 hs hp hl
theorem tells_four {w : World} {p : Int} {gp gf : Nat} {l : List Bb} (hl : l.length = 4) (hs : ∀ x ∈ l, x.ins.length ≤ 1 ∧ ∀ i ∈ x.ins, i.args = []) (hP : IntsW w (some ⟨gp, 0, none⟩) [p]) (hL : BlsW w (some ⟨gf, 0, none⟩) l) :
    Calls Tryz.prog 6 #[.agg #[.slice (some ⟨gp, 0, none⟩) 1 1, .slice (some ⟨gf, 0, none⟩) 4 4]] w fun e w' => e = .returned (.bool true) ∧ Below w.heap.size w w' := by
  have h1 := tells_any ⟨[p], l⟩ (some ⟨gp, 0, none⟩) 1 (some ⟨gf, 0, none⟩) 4 w ⟨by simp, by simp only; omega, fun x hx => ⟨by have := (hs x hx).1; omega, fun i hi => by rw [(hs x hx).2 i hi]; simp⟩⟩ ⟨hP, hL, (fun h => by cases h), (fun h => by cases h)⟩
  unfold fnV fnC at h1
  simp only [hl, List.length_cons, List.length_nil] at h1
  exact h1
theorem take_bls {w : World} {a : Option Addr} {l : List Bb} (h : BlsW w a l) (k : Nat) : BlsW w a (l.take k) := fun j z hz => by
  rw [List.getElem?_take] at hz
  split at hz
  · exact h j z hz
  · cases hz
theorem tells_part {w : World} {x y : Int} {gq gf k : Nat} {l : List Bb} (hl : l.length = 4) (hk : k ≤ 4) (hs : ∀ x ∈ l, x.ins.length ≤ 1 ∧ ∀ i ∈ x.ins, i.args = []) (hP : IntsW w (some ⟨gq, 0, none⟩) [x, y]) (hL : BlsW w (some ⟨gf, 0, none⟩) l) :
    Calls Tryz.prog 6 #[.agg #[.slice (some ⟨gq, 0, none⟩) 2 2, .slice (some ⟨gf, 0, none⟩) k 4]] w fun e w' => e = .returned (.bool true) ∧ Below w.heap.size w w' := by
  have hk2 : (l.take k).length = k := by simp; omega
  have h1 := tells_any ⟨[x, y], l.take k⟩ (some ⟨gq, 0, none⟩) 2 (some ⟨gf, 0, none⟩) 4 w ⟨by simp, by simp only; omega, fun z hz => ⟨by have := (hs z (List.mem_of_mem_take hz)).1; omega, fun i hi => by rw [(hs z (List.mem_of_mem_take hz)).2 i hi]; simp⟩⟩ ⟨hP, take_bls hL k, (fun h => by cases h), (fun h => by cases h)⟩
  unfold fnV fnC at h1
  simp only [hk2, List.length_cons, List.length_nil] at h1
  exact h1
theorem bls_below {w w' : World} {a : Option Addr} {l : List Bb} (h : BlsW w a l) (hb : Below w.heap.size w w') : BlsW w' a l := h.below hb
end Go.Proofs.YtgpbpbhidemciaaGreat
