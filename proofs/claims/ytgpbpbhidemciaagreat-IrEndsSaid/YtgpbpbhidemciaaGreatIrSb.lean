/-
  The document's reached. No condition beyond those that each theorem states.
-/
import Derived.Test.YtgpbpbhidemciaaGreatIrRf
import Derived.Test.YtgpbpbhidemciaaGreatIrRt
import Derived.Deep.CutRange
import Derived.BigQuiet
import Derived.BigRegion
namespace Go.Proofs.YtgpbpbhidemciaaGreat

theorem count_more : ∀ {o0 o : List Bool}, o0.length = o.length → (∀ b, o0.getD b false = true → o.getD b false = true) → o0 = o ∨ o0.count true < o.count true := by
  intro o0
  induction o0 with
  | nil =>
    intro o hl _
    cases o with
    | nil => exact .inl rfl
    | cons _ _ => simp at hl
  | cons x l ih =>
    intro o hl h
    cases o with
    | nil => simp at hl
    | cons y m =>
      have h0 : x = true → y = true := fun e => by have := h 0; simp at this; exact this e
      have h1 : ∀ b, l.getD b false = true → m.getD b false = true := fun b e => by have := h (b + 1); simp at this; simpa using this (by simpa using e)
      rcases ih (by simpa using hl) h1 with e | e
      · subst e
        cases x <;> cases y
        · exact .inl rfl
        · exact .inr (by simp)
        · simp at h0
        · exact .inl rfl
      · refine .inr ?_
        cases x <;> cases y
        · simpa using e
        · simp; omega
        · simp at h0
        · simpa using e
/-- Where it is true it is well, and goes on being true along the edges. -/
def Cf (n : Nat) (E : Nat → Nat → Prop) (Q : Nat → Prop) (o : List Bool) : Prop := ∀ b, b < n → o.getD b false = true → Q b ∧ ∀ c, E b c → o.getD c false = true
/-- How things are between rounds. -/
structure GInv (n : Nat) (E : Nat → Nat → Prop) (Q S : Nat → Prop) (Z : Prop) (r : Nat) (o : List Bool) : Prop where
  len : o.length = n
  bas : Z → o.getD 0 false = true
  sound : ∀ b, o.getD b false = true → S b
  done : Cf n E Q o ∨ r + 1 ≤ o.count true
/-- How they are amid one: those before j are gone through, and some edges of j. -/
structure GMid (n : Nat) (E : Nat → Nat → Prop) (Q S : Nat → Prop) (Z : Prop) (r : Nat) (o0 : List Bool) (j : Nat) (d : List Nat) (o : List Bool) : Prop where
  len : o.length = n
  len0 : o0.length = n
  bas : Z → o.getD 0 false = true
  sound : ∀ b, o.getD b false = true → S b
  done : Cf n E Q o0 ∨ r + 1 ≤ o0.count true
  more : ∀ b, o0.getD b false = true → o.getD b false = true
  same : Cf n E Q o0 → ∀ b, o.getD b false = true → o0.getD b false = true
  past : ∀ b, b < j → o0.getD b false = true → Q b ∧ ∀ c, E b c → o.getD c false = true
  here : ∀ c ∈ d, E j c → o0.getD j false = true → o.getD c false = true
theorem set_getD (o : List Bool) (c : Nat) (x : Bool) (b : Nat) : (o.set c x).getD b false = if b = c ∧ c < o.length then x else o.getD b false := by
  rw [List.getD_eq_getElem?_getD, List.getElem?_set, List.getD_eq_getElem?_getD]
  by_cases h : c = b
  · subst h
    by_cases hc : c < o.length
    · simp [hc]
    · simp [hc]
  · have h2 : ¬ (b = c ∧ c < o.length) := fun k => h k.1.symm
    rw [if_neg h, if_neg h2]
section
variable {n : Nat} {E : Nat → Nat → Prop} {Q S : Nat → Prop} {Z : Prop} {r j : Nat} {o0 o : List Bool} {d : List Nat}
theorem GInv.mid (h : GInv n E Q S Z r o) : GMid n E Q S Z r o 0 [] o :=
  ⟨h.len, h.len, h.bas, h.sound, h.done, fun _ h => h, fun _ _ h => h, fun _ h => absurd h (Nat.not_lt_zero _), fun _ h => absurd h (by simp)⟩
theorem GMid.step (h : GMid n E Q S Z r o0 j d o) {c : Nat} (hj : j < n) (hc : c < n) (x : Bool) (hx : x = true → o.getD j false = true ∧ E j c) (hy : E j c → o0.getD j false = true → x = true) (hS : ∀ b c, S b → E b c → S c) :
    GMid n E Q S Z r o0 j (d ++ [c]) (o.set c (o.getD c false || x)) := by
  have hm : ∀ b, o.getD b false = true → (o.set c (o.getD c false || x)).getD b false = true := fun b hb => by
    rw [set_getD]
    split
    · rename_i h1; rw [← h1.1, hb]; rfl
    · exact hb
  have hn : ∀ b, (o.set c (o.getD c false || x)).getD b false = true → o.getD b false = true ∨ (b = c ∧ x = true) := fun b hb => by
    rw [set_getD] at hb
    split at hb
    · rename_i h1
      rw [Bool.or_eq_true] at hb
      rcases hb with hb | hb
      · exact .inl (by rw [h1.1]; exact hb)
      · exact .inr ⟨h1.1, hb⟩
    · exact .inl hb
  refine ⟨by simpa using h.len, h.len0, fun z => hm 0 (h.bas z), ?_, h.done, fun b hb => hm b (h.more b hb), ?_, ?_, ?_⟩
  · intro b hb
    rcases hn b hb with h8 | ⟨rfl, h9⟩
    · exact h.sound b h8
    · exact hS j b (h.sound j (hx h9).1) (hx h9).2
  · intro hcf b hb
    rcases hn b hb with h8 | ⟨rfl, h9⟩
    · exact h.same hcf b h8
    · exact (hcf j hj (h.same hcf j (hx h9).1)).2 b (hx h9).2
  · intro b hb h0
    exact ⟨(h.past b hb h0).1, fun c hc => hm c ((h.past b hb h0).2 c hc)⟩
  · intro b hb he h0
    rcases List.mem_append.1 hb with hb | hb
    · exact hm b (h.here b hb he h0)
    · simp at hb
      subst hb
      rw [set_getD, if_pos ⟨rfl, by rw [h.len]; exact hc⟩, hy he h0, Bool.or_true]
theorem GMid.next (h : GMid n E Q S Z r o0 j d o) (hd : ∀ c, E j c → c ∈ d) (hq : o0.getD j false = true → Q j) : GMid n E Q S Z r o0 (j + 1) [] o :=
  ⟨h.len, h.len0, h.bas, h.sound, h.done, h.more, h.same, fun b hb h0 => by
    by_cases e : b = j
    · subst e
      exact ⟨hq h0, fun c hc => h.here c (hd c hc) hc h0⟩
    · exact h.past b (by omega) h0, fun _ h => absurd h (by simp)⟩
theorem GMid.stop (h : GMid n E Q S Z r o0 n d o) : GInv n E Q S Z (r + 1) o := by
  refine ⟨h.len, h.bas, h.sound, ?_⟩
  rcases h.done with hd | hd
  · refine .inl fun b hb hx => ?_
    have h0 := h.same hd b hx
    exact ⟨(hd b hb h0).1, fun c hc => h.more c ((hd b hb h0).2 c hc)⟩
  · rcases count_more (by rw [h.len0, h.len]) h.more with e | e
    · subst e
      exact .inl fun b hb hx => h.past b hb hx
    · exact .inr (by omega)
theorem GInv.last (h : GInv n E Q S Z r o) (hr : n ≤ r) : Cf n E Q o := by
  rcases h.done with hd | hd
  · exact hd
  · have := List.count_le_length (a := true) (l := o)
    rw [h.len] at this
    omega
end
/-- What is reached, in rounds. -/
def EdgeR (f : Ff) (b c : Nat) : Prop := ∃ x, f.blocks[b]? = some x ∧ (c : Int) ∈ toL x.tm
/-- What a variable may be without a value at, in rounds. -/
def EdgeV (f : Ff) (v : Int) (b c : Nat) : Prop := ∃ x, f.blocks[b]? = some x ∧ v ∉ defsL x ∧ (c : Int) ∈ toL x.tm
def FineV (f : Ff) (v : Int) (b : Nat) : Prop := ∀ x, f.blocks[b]? = some x → ¬ bareIn v x.tm x.ins
abbrev InvR (f : Ff) (r : Nat) (o : List Bool) : Prop := GInv f.blocks.length (EdgeR f) (fun _ => True) (Reach f) True r o
abbrev MidR (f : Ff) (r : Nat) (o0 : List Bool) (j : Nat) (d : List Nat) (o : List Bool) : Prop := GMid f.blocks.length (EdgeR f) (fun _ => True) (Reach f) True r o0 j d o
abbrev InvV (f : Ff) (v : Int) (r : Nat) (o : List Bool) : Prop := GInv f.blocks.length (EdgeV f v) (FineV f v) (Bare f v) (v ∉ f.params) r o
abbrev MidV (f : Ff) (v : Int) (r : Nat) (o0 : List Bool) (j : Nat) (d : List Nat) (o : List Bool) : Prop := GMid f.blocks.length (EdgeV f v) (FineV f v) (Bare f v) (v ∉ f.params) r o0 j d o
theorem rep_getD (n b : Nat) : (List.replicate n false).getD b false = false := by
  rw [List.getD_eq_getElem?_getD, List.getElem?_replicate]
  split <;> rfl
theorem begin_getD (n b : Nat) (x : Bool) : ((List.replicate n false).set 0 x).getD b false = true → b = 0 ∧ x = true := by
  rw [set_getD]
  split
  · rename_i h; exact fun e => ⟨h.1, e⟩
  · intro h; rw [rep_getD] at h; cases h
theorem begin_count {n : Nat} (hn : 0 < n) : ((List.replicate n false).set 0 true).count true = 1 := by
  cases n with
  | zero => omega
  | succ n => simp [List.replicate_succ, List.count_replicate]
theorem InvR.start {f : Ff} (hn : 0 < f.blocks.length) : InvR f 0 ((List.replicate f.blocks.length false).set 0 true) :=
  ⟨by simp, fun _ => by rw [set_getD, if_pos ⟨rfl, by simpa using hn⟩], fun b hb => by rw [(begin_getD _ _ _ hb).1]; exact .zero, .inr (by rw [begin_count hn]; exact Nat.le_refl _)⟩
theorem InvV.start {f : Ff} {v : Int} (hn : 0 < f.blocks.length) : InvV f v 0 ((List.replicate f.blocks.length false).set 0 (!decide (v ∈ f.params))) := by
  by_cases h : v ∈ f.params
  · refine ⟨by simp, fun z => absurd h z, ?_, .inl ?_⟩
    · intro b hb
      have := (begin_getD _ _ _ hb).2
      simp [h] at this
    · intro b _ hb
      have := (begin_getD _ _ _ hb).2
      simp [h] at this
  · have e : (!decide (v ∈ f.params)) = true := by simp [h]
    rw [e]
    exact ⟨by simp, fun _ => by rw [set_getD, if_pos ⟨rfl, by simpa using hn⟩], fun b hb => by rw [(begin_getD _ _ _ hb).1]; exact .zero h, .inr (by rw [begin_count hn]; exact Nat.le_refl _)⟩
theorem stepR {f : Ff} : ∀ b c, Reach f b → EdgeR f b c → Reach f c := fun _ _ h ⟨_, hx, hc⟩ => .step h hx hc
theorem stepV {f : Ff} {v : Int} : ∀ b c, Bare f v b → EdgeV f v b c → Bare f v c := fun _ _ h ⟨_, hx, hd, hc⟩ => .step h hx hd hc
/-- All edges go where they may. -/
def GoesF (f : Ff) : Prop := ∀ (b : Nat) (x : Bb), f.blocks[b]? = some x → ∀ t ∈ toL x.tm, 1 ≤ t ∧ t < f.blocks.length
theorem goes_is (f : Ff) : goesB f = true ↔ GoesF f := by
  unfold goesB GoesF
  simp only [List.all_eq_true, Bool.and_eq_true, decide_eq_true_eq]
  exact ⟨fun h b x hx => h x (List.mem_of_getElem? hx), fun h x hx => by
    obtain ⟨b, hb, rfl⟩ := List.getElem_of_mem hx
    exact h b _ (List.getElem?_eq_getElem hb)⟩
theorem reach_lt {f : Ff} (hn : 0 < f.blocks.length) (hg : GoesF f) {b : Nat} (h : Reach f b) : b < f.blocks.length := by
  cases h with
  | zero => exact hn
  | step _ hx hc => have := hg _ _ hx _ hc; omega
theorem InvR.is {f : Ff} {r : Nat} {o : List Bool} (h : InvR f r o) (hr : f.blocks.length ≤ r) (hn : 0 < f.blocks.length) (hg : GoesF f) (b : Nat) : o.getD b false = true ↔ Reach f b := by
  refine ⟨h.sound b, fun hb => ?_⟩
  have hc := h.last hr
  induction hb with
  | zero => exact h.bas trivial
  | step hb hx hcl ih => exact (hc _ (reach_lt hn hg hb) ih).2 _ ⟨_, hx, hcl⟩
theorem InvV.fine {f : Ff} {v : Int} {r : Nat} {o : List Bool} (h : InvV f v r o) (hr : f.blocks.length ≤ r) : ¬ LacksV f v := by
  rintro ⟨b, x, hx, hb, hbi⟩
  have hc := h.last hr
  have key : ∀ b, Bare f v b → (∃ x, f.blocks[b]? = some x) → o.getD b false = true := by
    intro b hb
    induction hb with
    | zero hp => exact fun _ => h.bas hp
    | step hb hx hd hcl ih => exact fun _ => (hc _ (List.getElem?_eq_some_iff.1 hx).1 (ih ⟨_, hx⟩)).2 _ ⟨_, hx, hd, hcl⟩
  exact (hc b (List.getElem?_eq_some_iff.1 hx).1 (key b hb ⟨x, hx⟩)).1 x hx hbi
/-- Whether what is read in a block's first instructions has a value where it may be without one. -/
theorem bare_split {v : Int} {t : Tt} : ∀ {l : List Ii} {k : Nat}, (∀ i ∈ l.take k, v ∉ readsL i ∧ i.dst ≠ v) → (bareIn v t l ↔ bareIn v t (l.drop k)) := by
  intro l
  induction l with
  | nil => intro k _; simp
  | cons i l ih =>
    intro k h
    cases k with
    | zero => rfl
    | succ k =>
      have h0 := h i (by simp)
      rw [List.drop_succ_cons, ← ih (k := k) (fun j hj => h j (by simp [hj]))]
      constructor
      · rintro (h1 | ⟨_, h1⟩)
        · exact absurd h1 h0.1
        · exact h1
      · exact fun h1 => .inr ⟨h0.2, h1⟩
theorem bare_not {v : Int} {t : Tt} : ∀ {l : List Ii} {k : Nat}, (∀ i ∈ l.take k, v ∉ readsL i) → (∃ i ∈ l.take k, i.dst = v) → ¬ bareIn v t l := by
  intro l
  induction l with
  | nil => intro k _ ⟨i, hi, _⟩; simp at hi
  | cons i l ih =>
    intro k h ⟨j, hj, he⟩
    cases k with
    | zero => simp at hj
    | succ k =>
      rintro (h1 | ⟨h2, h1⟩)
      · exact h i (by simp) h1
      · rcases List.mem_cons.1 (by simpa using hj) with rfl | hj
        · exact h2 he
        · exact ih (k := k) (fun j hj => h j (by simp [hj])) ⟨j, hj, he⟩ h1
end Go.Proofs.YtgpbpbhidemciaaGreat
namespace Go.Proofs.YtgpbpbhidemciaaGreat
open Go.RowKit

theorem to_nat_mem {l : List Int} {j : Nat} {c : Nat} (h : (c : Int) ∈ l.take j) : c ∈ (l.take j).map Int.toNat := List.mem_map.2 ⟨c, h, by simp⟩
theorem truC_at {w : World} {G : Nat} {t : TypeId} {o : List Bool} (h : Blk w G t (truC o)) {b : Nat} (hb : b < o.length) : w.cell? ⟨G, b, none⟩ = some (.bool (o.getD b false)) :=
  (h.cell b).trans (truC_get (by rw [List.getElem?_eq_getElem hb, List.getD_eq_getElem?_getD, List.getElem?_eq_getElem hb]; rfl))
theorem own_putB {w : World} {B G i : Nat} {v u : Value} {l : List Int} (h : OwnI w B v l) (hG : G < B) : OwnI (w.setCell ⟨G, i, none⟩ u) B v l :=
  own_keep h ⟨by simp, fun k hk _ => Below.heap_setCell w ⟨G, i, none⟩ u k (by show k ≠ G; omega)⟩
set_option maxHeartbeats 4000000 in
set_option maxRecDepth 100000 in
theorem rreached_any (f : Ff) (pa : Option Addr) (pc : Nat) (ba : Option Addr) (bc : Nat) (w : World) (hsh : shapeN f = 0) (hS : SmallF f) (hF : FnW w f pa pc ba bc) :
    Calls Tryz.prog 59 #[fnV f pa pc ba bc] w fun e w' => ((∃ G o, e = .returned (.tuple #[.slice (some ⟨G, 0, none⟩) f.blocks.length f.blocks.length, .bool true]) ∧ GoesF f ∧ Blk w' G 4 (truC o) ∧ o.length = f.blocks.length ∧ ∀ b, o.getD b false = true ↔ Reach f b) ∨
      (e = .returned (.tuple #[.slice none 0 0, .bool false]) ∧ ¬ GoesF f)) ∧ Below w.heap.size w w' := by
  have HF := Lib.hid hF
  have hb := hS.b
  have hpos : 0 < f.blocks.length := (shape_parts hsh).1
  have hpos' : (0 : Int) < f.blocks.length := by omega
  have HX0 : Hid (Blk ((w.alloc (.cells (fnC f pa pc ba bc) 37)).alloc (.cells (truC (List.replicate f.blocks.length false)) 4)) w.heap.size 37 (fnC f pa pc ba bc)) := Lib.hid ((Blk.new w _ _).alloc _)
  have HT0 : Hid (Blk ((w.alloc (.cells (fnC f pa pc ba bc) 37)).alloc (.cells (truC (List.replicate f.blocks.length false)) 4)) (w.heap.size + 1) 4 (truC (List.replicate f.blocks.length false))) := Lib.hid (new_two' w _ _ _)
  have HB0 : Hid (Below w.heap.size w ((w.alloc (.cells (fnC f pa pc ba bc) 37)).alloc (.cells (truC (List.replicate f.blocks.length false)) 4))) := Lib.hid (((Below.refl _ w).alloc (Nat.le_refl _) _).alloc (by simp) _)
  have hmk := fun W => make_truths (n := f.blocks.length) hb W
  clear hF hS
  unfold fnV fnC
  go_enter Tryz.func59, Tryz.ntmps59
  go_upto_region 2 with fail
  change Code.wp _ _ _ _ ((w.alloc (.cells (fnC f pa pc ba bc) 37)).alloc (.cells (truC (List.replicate f.blocks.length false)) 4))
  generalize ((w.alloc (.cells (fnC f pa pc ba bc) 37)).alloc (.cells (truC (List.replicate f.blocks.length false)) 4)) = W0 at HX0 HT0 HB0 ⊢
  have hG0 : w.heap.size < w.heap.size + 1 := by omega
  generalize w.heap.size + 1 = G at HT0 hG0 ⊢
  have k0 := truC_at HT0.out (b := 0) (by simpa using hpos)
  have g0 := HT0.out.free 0
  have HT1 : Hid (Blk (W0.setCell ⟨G, 0, none⟩ (.bool true)) G 4 (truC ((List.replicate f.blocks.length false).set 0 true))) := by
    have h := HT0.out.put 0 (.bool true)
    rw [truC_set] at h
    exact Lib.hid h
  have HX1 : Hid (Blk (W0.setCell ⟨G, 0, none⟩ (.bool true)) w.heap.size 37 (fnC f pa pc ba bc)) := Lib.hid (HX0.out.far (p := ⟨G, 0, none⟩) (by show w.heap.size ≠ G; omega) _)
  have HB1 : Hid (Below w.heap.size w (W0.setCell ⟨G, 0, none⟩ (.bool true))) := Lib.hid (HB0.out.setCell (p := ⟨G, 0, none⟩) (by show w.heap.size ≤ G; omega) _)
  go_upto_region 3 with fail
  clear k0 g0 HT0 HX0 HB0 hmk
  generalize (W0.setCell ⟨G, 0, none⟩ (.bool true)) = W1 at HT1 HX1 HB1 ⊢
  go_wp2
  go_loopw [5] (fun k wr => ∃ (r : Nat) (o : List Bool), k = .int .i64 r ∧ r ≤ f.blocks.length ∧ Hid (InvR f r o ∧ (0 < r → GoesF f)) ∧ Blk wr G 4 (truC o) ∧ Blk wr w.heap.size 37 (fnC f pa pc ba bc) ∧ Below w.heap.size w wr) (fun k _ => f.blocks.length - (intOf k).toNat)
  case atStart => exact ⟨0, _, rfl, Nat.zero_le _, ⟨InvR.start hpos, fun h => absurd h (Nat.lt_irrefl _)⟩, HT1.out, HX1.out, HB1.out⟩
  case round =>
    obtain ⟨r, o, rfl, hr, HI, hT, hX, hB⟩ := hrel
    clear HT1 HX1 HB1
    have HT := Lib.hid hT
    have HX := Lib.hid hX
    have HB := Lib.hid hB
    clear hT hX hB
    obtain ⟨x0, x1⟩ := box2 HX.out
    by_cases hlr : r < f.blocks.length
    · have hlr' : (r : Int) < f.blocks.length := by omega
      go_wp2
      go_loopw [6] (fun k wr => ∃ (j : Nat) (o2 : List Bool), k = .int .i64 j ∧ j ≤ f.blocks.length ∧ Hid (MidR f r o j [] o2 ∧ (∀ b x, b < j → f.blocks[b]? = some x → ∀ t ∈ toL x.tm, 1 ≤ t ∧ t < f.blocks.length)) ∧ Blk wr G 4 (truC o2) ∧ Blk wr w.heap.size 37 (fnC f pa pc ba bc) ∧ Below w.heap.size w wr) (fun k _ => f.blocks.length - (intOf k).toNat)
      case atStart => exact ⟨0, o, rfl, Nat.zero_le _, ⟨HI.out.1.mid, fun b x h => absurd h (Nat.not_lt_zero _)⟩, HT.out, HX.out, HB.out⟩
      case round =>
        obtain ⟨j, o2, rfl, hj, HM, hT, hX, hB⟩ := hrel
        clear HT HX HB x0 x1
        have HT := Lib.hid hT
        have HX := Lib.hid hX
        have HB := Lib.hid hB
        clear hT hX hB
        obtain ⟨x0, x1⟩ := box2 HX.out
        by_cases hlj : j < f.blocks.length
        · have hlj' : (j : Int) < f.blocks.length := by omega
          have hj0 : (0 : Int) ≤ j := by omega
          obtain ⟨x, hx⟩ : ∃ x, f.blocks[j]? = some x := ⟨_, List.getElem?_eq_getElem hlj⟩
          obtain ⟨g, oo, xa, xc, rfl, hg, hcw⟩ := HF.out.blocks j x hx
          have hc := hcw.below hg HB.out
          have HXX := Lib.hid hx
          have c1 := hc.c1
          have c2 := hc.c2
          have c3 := hc.c3
          have c4 := hc.c4
          have HC := Lib.hid (rto_any x.tm wr)
          unfold termV at HC
          clear hx hcw hc
          go_wp2_with fail
          refine HC.out.mono ?_
          rintro e w2 ⟨v, rfl, ho, hb2⟩
          obtain ⟨la, lc, rfl, _, _⟩ := OwnI.shape ho
          have HO2 := Lib.hid ho
          have HT2 := Lib.hid (HT.out.below hb2 HT.out.lt)
          have HX2 := Lib.hid (HX.out.below hb2 HX.out.lt)
          have HB2 : Hid (Below w.heap.size w w2) := Lib.hid (HB.out.trans (hb2.mono HB.out.size))
          have hGw : G < wr.heap.size := HT.out.lt
          have hl3 := toL_few x.tm
          clear ho hb2 HC c1 c2 c3 c4 x0 x1 HT HX HB
          generalize wr.heap.size = WB at HO2 hGw ⊢
          go_wp2
          go_loopw [8] (fun k wr3 => ∃ (i : Nat) (o3 : List Bool), k = .int .i64 i ∧ i ≤ (toL x.tm).length ∧ Hid (MidR f r o j (((toL x.tm).take i).map Int.toNat) o3 ∧ ∀ t ∈ (toL x.tm).take i, 1 ≤ t ∧ t < f.blocks.length) ∧ OwnI wr3 WB (.slice la (toL x.tm).length lc) (toL x.tm) ∧ Blk wr3 G 4 (truC o3) ∧ Blk wr3 w.heap.size 37 (fnC f pa pc (some ⟨g, oo, none⟩) bc) ∧ Below w.heap.size w wr3) (fun k _ => (toL x.tm).length - (intOf k).toNat)
          case atStart => exact ⟨0, o2, rfl, Nat.zero_le _, ⟨by simpa using HM.out.1, by simp⟩, HO2.out, HT2.out, HX2.out, HB2.out⟩
          case round =>
            obtain ⟨i, o3, rfl, hi, HM3, hO, hT, hX, hB⟩ := hrel
            clear HO2 HT2 HX2 HB2
            have HO := Lib.hid hO
            have HT := Lib.hid hT
            have HX := Lib.hid hX
            have HB := Lib.hid hB
            clear hO hT hX hB
            by_cases hli : i < (toL x.tm).length
            · have hli' : (i : Int) < (toL x.tm).length := by omega
              have hi0 : (0 : Int) ≤ i := by omega
              obtain ⟨z, hz⟩ : ∃ z, (toL x.tm)[i]? = some z := ⟨_, List.getElem?_eq_getElem hli⟩
              obtain ⟨_, _, _, _, hints⟩ := OwnI.shape HO.out
              obtain ⟨lg, lo, hle, hlg, l0⟩ := (IntsW.own HO.out) i z hz
              clear hints
              subst hle
              obtain ⟨x0, x1⟩ := box2 HX.out
              have HZM := Lib.hid (List.mem_of_getElem? hz)
              have HZT : Hid ((toL x.tm).take (i + 1) = (toL x.tm).take i ++ [z]) := by
                show _ = _
                rw [List.take_add_one, hz]
                rfl
              clear hz
              by_cases hz1 : z < 1
              · have hd1 : decide (z < 1) = true := decide_eq_true hz1
                have HNG : Hid (¬ GoesF f) := Lib.hid fun h => by have := h j x HXX.out z HZM.out; omega
                go_upto_region 13 with fail
                go_quiet (fail)
                go_wp2
                refine bodyPost_ret (v := .tuple #[.slice none 0 0, .bool false]) (by simp [results, Tryz.results59, go_sem]) rfl ?_
                exact ⟨.inr ⟨rfl, HNG.out⟩, below_drewN HB.out _⟩
              · have hd1 : decide (z < 1) = false := decide_eq_false hz1
                by_cases hz2 : (f.blocks.length : Int) ≤ z
                · have hd2 : decide ((f.blocks.length : Int) ≤ z) = true := decide_eq_true hz2
                  have HNG : Hid (¬ GoesF f) := Lib.hid fun h => by have := h j x HXX.out z HZM.out; omega
                  go_upto_region 13 with fail
                  go_quiet (fail)
                  go_wp2
                  refine bodyPost_ret (v := .tuple #[.slice none 0 0, .bool false]) (by simp [results, Tryz.results59, go_sem]) rfl ?_
                  exact ⟨.inr ⟨rfl, HNG.out⟩, below_drewN HB.out _⟩
                · have hd2 : decide ((f.blocks.length : Int) ≤ z) = false := decide_eq_false hz2
                  go_upto_region 13 with fail
                  obtain ⟨c, rfl⟩ := Int.eq_ofNat_of_zero_le (show 0 ≤ z by omega)
                  go_quiet (fail)
                  have HTq := Lib.hid (HT.out.drewN nq)
                  have HXq := Lib.hid (HX.out.drewN nq)
                  have HBq := Lib.hid (below_drewN HB.out nq)
                  have HOq : Hid (OwnI (wr.drewN nq) WB (.slice (some ⟨lg, lo, none⟩) (toL x.tm).length lc) (toL x.tm)) := HO
                  have lq : (wr.drewN nq).cell? ⟨lg, lo + i, none⟩ = some (.int .i64 c) := l0
                  clear HT HX HB HO l0 x0 x1
                  generalize wr.drewN nq = wq at HTq HXq HBq HOq lq ⊢
                  have hcl : c < f.blocks.length := by omega
                  have hcl' : (c : Int) < f.blocks.length := by omega
                  have hc0 : (0 : Int) ≤ c := by omega
                  have hlen := HM3.out.1.len
                  have kc := truC_at HTq.out (b := c) (by omega)
                  have kj := truC_at HTq.out (b := j) (by omega)
                  have gc := HTq.out.free c
                  have hGs : G < wq.heap.size := HTq.out.lt
                  have HN := Lib.hid (HM3.out.1.step hlj hcl (o3.getD j false) (fun h => ⟨h, x, HXX.out, HZM.out⟩) (fun _ h => HM3.out.1.more j h) stepR)
                  have HN2 : Hid (∀ t ∈ (toL x.tm).take (i + 1), 1 ≤ t ∧ t < f.blocks.length) := Lib.hid fun t ht => by
                    rw [HZT.out] at ht
                    rcases List.mem_append.1 ht with ht | ht
                    · exact HM3.out.2 t ht
                    · simp at ht; subst ht; omega
                  have HTN : Hid (Blk (wq.setCell ⟨G, c, none⟩ (.bool (o3.getD c false || o3.getD j false))) G 4 (truC (o3.set c (o3.getD c false || o3.getD j false)))) := by
                    have h := HTq.out.put c (.bool (o3.getD c false || o3.getD j false))
                    rw [truC_set] at h
                    exact Lib.hid h
                  have HD : Hid (((toL x.tm).take (i + 1)).map Int.toNat = ((toL x.tm).take i).map Int.toNat ++ [c]) := by
                    show _ = _
                    rw [HZT.out, List.map_append]
                    rfl
                  rw [← HD.out] at HN
                  have HO4 := fun u => Lib.hid (own_putB (i := c) (u := u) HOq.out hGw)
                  have HX4 := fun u => Lib.hid (HXq.out.far (p := ⟨G, c, none⟩) (by show w.heap.size ≠ G; omega) u)
                  have HB4 := fun u => Lib.hid (HBq.out.setCell (p := ⟨G, c, none⟩) (by show w.heap.size ≤ G; omega) u)
                  clear hd1 hd2 hlen
                  generalize o3.getD c false = bc0 at kc HN HTN
                  generalize o3.getD j false = bj at kj HN HTN
                  cases bc0
                  · go_wp2_with fail
                    go_region
                    all_goals
                      go_wp2
                      go_roundw
                      case rel => exact ⟨i + 1, _, by go_num, by omega, ⟨HN.out, HN2.out⟩, (HO4 _).out, HTN.out, (HX4 _).out, below_drewN (HB4 _).out 1⟩
                      case measure => simp [intOf]; omega
                  · go_wp2_with fail
                    go_region
                    all_goals
                      go_wp2
                      go_roundw
                      case rel => exact ⟨i + 1, _, by go_num, by omega, ⟨HN.out, HN2.out⟩, (HO4 _).out, HTN.out, (HX4 _).out, below_drewN (HB4 _).out 1⟩
                      case measure => simp [intOf]; omega
            · have e : i = (toL x.tm).length := by omega
              subst e
              rw [List.take_length] at HM3
              have hli' : ¬ ((toL x.tm).length : Int) < (toL x.tm).length := by omega
              have HN : Hid (MidR f r o (j + 1) [] o3) := Lib.hid (HM3.out.1.next (fun c hc => by
                obtain ⟨y, hy, hcl⟩ := hc
                have : y = x := by have := HXX.out; rw [hy] at this; exact Option.some.inj this
                subst this
                exact List.mem_map.2 ⟨c, hcl, by simp⟩) (fun _ => trivial))
              have HN2 : Hid (∀ b y, b < j + 1 → f.blocks[b]? = some y → ∀ t ∈ toL y.tm, 1 ≤ t ∧ t < f.blocks.length) := Lib.hid fun b y hbj hy => by
                by_cases e : b = j
                · subst e
                  have : y = x := by have := HXX.out; rw [hy] at this; exact Option.some.inj this
                  subst this
                  exact HM3.out.2
                · exact HM.out.2 b y (by omega) hy
              go_wp2
              go_roundw
              case rel => exact ⟨j + 1, o3, by go_num, by omega, ⟨HN.out, HN2.out⟩, HT.out, HX.out, HB.out⟩
              case measure => simp [intOf]; omega
        · have e : j = f.blocks.length := by omega
          subst e
          have HN : Hid (InvR f (r + 1) o2) := Lib.hid HM.out.1.stop
          have HG : Hid (GoesF f) := Lib.hid fun b x hx => HM.out.2 b x (List.getElem?_eq_some_iff.1 hx).1 hx
          go_wp2
          go_roundw
          case rel => exact ⟨r + 1, o2, by go_num, by omega, ⟨HN.out, fun _ => HG.out⟩, HT.out, HX.out, HB.out⟩
          case measure => simp [intOf]; omega
    · have e : r = f.blocks.length := by omega
      subst e
      have HG := Lib.hid (HI.out.2 hpos)
      have HR := Lib.hid (fun b => HI.out.1.is (Nat.le_refl _) hpos HG.out b)
      have HL := Lib.hid HI.out.1.len
      go_wp2
      refine bodyPost_ret (v := .tuple #[.slice (some ⟨G, 0, none⟩) f.blocks.length f.blocks.length, .bool true]) (by simp [results, Tryz.results59, go_sem]) rfl ?_
      exact ⟨.inl ⟨G, o, rfl, HG.out, HT.out, HL.out, HR.out⟩, HB.out⟩
end Go.Proofs.YtgpbpbhidemciaaGreat
