/-
  What has a value at the begin of each block, gone through until nothing changes. No condition beyond those that each theorem states.
-/
import Derived.Test.YthiipgahbmoiiaaGreatDoorPk47
import Derived.Test.YthiipgahbmoiiaaGreatDoorPk50
import Derived.Deep.CutRange
namespace Go.Proofs.YthiipgahbmoiiaaGreatDoor
open Go.RowKit

/-- Where it begins: rows of sets and truths, behind two variables. -/
structure Begun (w W : World) (A0 R0 GA GR n : Nat) (fc : Array Value) : Prop where
  hF : Blk W w.heap.size 25 fc
  hA : Blk W A0 75 #[.slice (some ⟨GA, 0, none⟩) n n]
  hR : Blk W R0 76 #[.slice (some ⟨GR, 0, none⟩) n n]
  hGA : Blk W GA 82 (setsC (List.replicate n 0))
  hGR : Blk W GR 4 (truC (List.replicate n false))
  a : w.heap.size ≤ GA
  r : w.heap.size ≤ GR
  B : Below w.heap.size w W
theorem below_alloc {B : Nat} {A W : World} (h : Below B A W) (hB : B ≤ W.heap.size) (o : Obj) : Below B A (W.alloc o) ∧ B ≤ (W.alloc o).heap.size := ⟨h.alloc hB o, by simp; omega⟩
theorem size_alloc (w : World) (o : Obj) : (w.alloc o).heap.size = w.heap.size + 1 := by simp
theorem begun_one (w : World) (n : Nat) (fc : Array Value) : Begun w (((((w.alloc (.cells fc 25)).alloc (.cells #[.slice (some ⟨w.heap.size + 1 + 1 + 1, 0, none⟩) n n] 75)).alloc (.cells #[.slice (some ⟨w.heap.size + 1 + 1 + 1 + 1, 0, none⟩) n n] 76)).alloc (.cells (setsC (List.replicate n 0)) 82)).alloc (.cells (truC (List.replicate n false)) 4)).drew (w.heap.size + 1) (w.heap.size + 1 + 1) (w.heap.size + 1 + 1 + 1) (w.heap.size + 1 + 1 + 1 + 1) n fc := by
  obtain ⟨b1, s1⟩ := below_alloc (Below.refl w.heap.size w) (Nat.le_refl _) (.cells fc 25)
  obtain ⟨b2, s2⟩ := below_alloc b1 s1 (.cells #[.slice (some ⟨w.heap.size + 1 + 1 + 1, 0, none⟩) n n] 75)
  obtain ⟨b3, s3⟩ := below_alloc b2 s2 (.cells #[.slice (some ⟨w.heap.size + 1 + 1 + 1 + 1, 0, none⟩) n n] 76)
  obtain ⟨b4, s4⟩ := below_alloc b3 s3 (.cells (setsC (List.replicate n 0)) 82)
  obtain ⟨b5, s5⟩ := below_alloc b4 s4 (.cells (truC (List.replicate n false)) 4)
  have k0 := Blk.new w 25 fc
  have k1 := Blk.new (w.alloc (.cells fc 25)) 75 #[.slice (some ⟨w.heap.size + 1 + 1 + 1, 0, none⟩) n n]
  have k2 := Blk.new ((w.alloc (.cells fc 25)).alloc (.cells #[.slice (some ⟨w.heap.size + 1 + 1 + 1, 0, none⟩) n n] 75)) 76 #[.slice (some ⟨w.heap.size + 1 + 1 + 1 + 1, 0, none⟩) n n]
  have k3 := Blk.new (((w.alloc (.cells fc 25)).alloc (.cells #[.slice (some ⟨w.heap.size + 1 + 1 + 1, 0, none⟩) n n] 75)).alloc (.cells #[.slice (some ⟨w.heap.size + 1 + 1 + 1 + 1, 0, none⟩) n n] 76)) 82 (setsC (List.replicate n 0))
  have k4 := Blk.new ((((w.alloc (.cells fc 25)).alloc (.cells #[.slice (some ⟨w.heap.size + 1 + 1 + 1, 0, none⟩) n n] 75)).alloc (.cells #[.slice (some ⟨w.heap.size + 1 + 1 + 1 + 1, 0, none⟩) n n] 76)).alloc (.cells (setsC (List.replicate n 0)) 82)) 4 (truC (List.replicate n false))
  simp only [size_alloc] at k1 k2 k3 k4
  exact ⟨blk_drew ((((k0.alloc _).alloc _).alloc _).alloc _), blk_drew (((k1.alloc _).alloc _).alloc _), blk_drew ((k2.alloc _).alloc _), blk_drew (k3.alloc _), blk_drew k4, by omega, by omega, b5.drew⟩
theorem begun_two (w : World) (n : Nat) (fc : Array Value) : Begun w (((((w.alloc (.cells fc 25)).alloc (.cells #[.slice (some ⟨w.heap.size + 1 + 1 + 1 + 1, 0, none⟩) n n] 75)).alloc (.cells #[.slice (some ⟨w.heap.size + 1 + 1 + 1, 0, none⟩) n n] 76)).alloc (.cells (truC (List.replicate n false)) 4)).alloc (.cells (setsC (List.replicate n 0)) 82)).drew (w.heap.size + 1) (w.heap.size + 1 + 1) (w.heap.size + 1 + 1 + 1 + 1) (w.heap.size + 1 + 1 + 1) n fc := by
  obtain ⟨b1, s1⟩ := below_alloc (Below.refl w.heap.size w) (Nat.le_refl _) (.cells fc 25)
  obtain ⟨b2, s2⟩ := below_alloc b1 s1 (.cells #[.slice (some ⟨w.heap.size + 1 + 1 + 1 + 1, 0, none⟩) n n] 75)
  obtain ⟨b3, s3⟩ := below_alloc b2 s2 (.cells #[.slice (some ⟨w.heap.size + 1 + 1 + 1, 0, none⟩) n n] 76)
  obtain ⟨b4, s4⟩ := below_alloc b3 s3 (.cells (truC (List.replicate n false)) 4)
  obtain ⟨b5, s5⟩ := below_alloc b4 s4 (.cells (setsC (List.replicate n 0)) 82)
  have k0 := Blk.new w 25 fc
  have k1 := Blk.new (w.alloc (.cells fc 25)) 75 #[.slice (some ⟨w.heap.size + 1 + 1 + 1 + 1, 0, none⟩) n n]
  have k2 := Blk.new ((w.alloc (.cells fc 25)).alloc (.cells #[.slice (some ⟨w.heap.size + 1 + 1 + 1 + 1, 0, none⟩) n n] 75)) 76 #[.slice (some ⟨w.heap.size + 1 + 1 + 1, 0, none⟩) n n]
  have k3 := Blk.new (((w.alloc (.cells fc 25)).alloc (.cells #[.slice (some ⟨w.heap.size + 1 + 1 + 1 + 1, 0, none⟩) n n] 75)).alloc (.cells #[.slice (some ⟨w.heap.size + 1 + 1 + 1, 0, none⟩) n n] 76)) 4 (truC (List.replicate n false))
  have k4 := Blk.new ((((w.alloc (.cells fc 25)).alloc (.cells #[.slice (some ⟨w.heap.size + 1 + 1 + 1 + 1, 0, none⟩) n n] 75)).alloc (.cells #[.slice (some ⟨w.heap.size + 1 + 1 + 1, 0, none⟩) n n] 76)).alloc (.cells (truC (List.replicate n false)) 4)) 82 (setsC (List.replicate n 0))
  simp only [size_alloc] at k1 k2 k3 k4
  exact ⟨blk_drew ((((k0.alloc _).alloc _).alloc _).alloc _), blk_drew (((k1.alloc _).alloc _).alloc _), blk_drew ((k2.alloc _).alloc _), blk_drew k4, blk_drew (k3.alloc _), by omega, by omega, b5.drew⟩

theorem setV_zero : setV 0 = .agg #[.int .u64 0, .int .u64 0, .int .u64 0, .int .u64 0] := by unfold setV setC; simp [word_zero]
/-- A function's parts, of right shape. -/
theorem shape_parts {f : Ff} (h : shapeN f = 0) : 0 < f.blocks.length ∧ f.blocks.length ≤ 200 ∧ f.params.length ≤ 8 ∧ (∀ v ∈ f.params, 1 ≤ v ∧ v ≤ 200) ∧ ∀ x ∈ f.blocks, x.ins.length ≤ 64 ∧ (∀ i ∈ x.ins, isInsB i = true) ∧ isTermB x.tm = true := by
  obtain ⟨h1, h2⟩ := shape_zero h
  unfold isLongB at h1
  simp only [Bool.or_eq_false_iff, beq_eq_false_iff_ne, decide_eq_false_iff_not, List.any_eq_false, decide_eq_true_eq] at h1
  obtain ⟨⟨⟨a, b⟩, c⟩, d⟩ := h1
  refine ⟨by omega, by omega, by omega, shaped_params h2, fun x hx => ?_⟩
  have := d x hx
  exact ⟨by omega, shaped_blocks h2 hx⟩
/-- The first state. -/
def first (f : Ff) : St := (⟨List.replicate f.blocks.length 0, List.replicate f.blocks.length false, []⟩ : St).come 0 (withM 0 f.params)
theorem first_inv {f : Ff} (h : shapeN f = 0) : Inv f (first f) := by
  obtain ⟨h1, h2, h3, h4, h5⟩ := shape_parts h
  have hr0 : (⟨List.replicate f.blocks.length 0, List.replicate f.blocks.length false, []⟩ : St).rdB 0 = false := by
    unfold St.rdB
    rw [List.getD_eq_getElem?_getD, List.getElem?_replicate, if_pos h1]
    rfl
  have ha0 : ∀ b, (⟨List.replicate f.blocks.length 0, List.replicate f.blocks.length false, []⟩ : St).atN b = 0 := fun b => by
    unfold St.atN
    rw [List.getD_eq_getElem?_getD, List.getElem?_replicate]
    split <;> rfl
  have hrb : ∀ b, (⟨List.replicate f.blocks.length 0, List.replicate f.blocks.length false, []⟩ : St).rdB b = false := fun b => by
    unfold St.rdB
    rw [List.getD_eq_getElem?_getD, List.getElem?_replicate]
    split <;> rfl
  have hS0 : Sound f ⟨List.replicate f.blocks.length 0, List.replicate f.blocks.length false, []⟩ :=
    ⟨by simp, by simp, (fun b => by rw [ha0]; decide), by simp, (fun b hb => by rw [hrb] at hb; cases hb), (fun b hb => by rw [hrb] at hb; cases hb)⟩
  have hlt : withM 0 f.params < 2 ^ 256 := with_lt (by decide) (fun v hv => by have := h4 v hv; omega)
  have hbit : ∀ k : Nat, (withM 0 f.params).testBit k = decide (k ≠ 0 ∧ (k : Int) ∈ f.params) := fun k => by
    rw [with_bit (fun v hv => by have := h4 v hv; omega)]
    simp
  have hst : (⟨List.replicate f.blocks.length 0, List.replicate f.blocks.length false, []⟩ : St).still 0 (withM 0 f.params) = false := by
    unfold St.still
    rw [hr0]
    rfl
  have hch : (first f).ch = [0] := by
    unfold first St.come
    rw [hst]
    rfl
  have hrd : ∀ c, (first f).rdB c = if c = 0 then true else false := fun c => by
    unfold first
    rw [come_rd (by simpa using h1) hst, hrb]
  have hat : ∀ c, (first f).atN c = if c = 0 then withM 0 f.params else 0 := fun c => by
    unfold first
    rw [come_at (by simpa using h1) hst, ha0]
    unfold St.meet
    rw [hr0]
    rfl
  refine ⟨hS0.come h1 hlt .zero (fun v hv0 hv1 hv => .zero (fun hm => ?_)), by rw [hrd]; rfl, ?_, ?_⟩
  · rw [hbit] at hv
    simp only [decide_eq_false_iff_not] at hv
    exact hv ⟨hv0, hm⟩
  · intro k hk
    rw [hat, if_pos rfl, hbit] at hk
    simp at hk
    exact hk.2
  · intro b x hx hr hc
    rw [hrd] at hr
    rw [hch] at hc
    by_cases hb : b = 0
    · subst hb; simp at hc
    · rw [if_neg hb] at hr; cases hr
theorem pot_first {f : Ff} (h : shapeN f = 0) : 2 * (first f).pot f.blocks.length + (first f).ch.length ≤ 102800 := by
  obtain ⟨h1, h2, _, _, _⟩ := shape_parts h
  have ha0 : (⟨List.replicate f.blocks.length 0, List.replicate f.blocks.length false, []⟩ : St).atN 0 < 2 ^ 256 := by
    unfold St.atN
    rw [List.getD_eq_getElem?_getD, List.getElem?_replicate]
    split <;> decide
  have h3 := come_pot (f := f) (s := ⟨List.replicate f.blocks.length 0, List.replicate f.blocks.length false, []⟩) (b := 0) (h := withM 0 f.params) (by simp) (by simp) h1 ha0
  have h4 : (⟨List.replicate f.blocks.length 0, List.replicate f.blocks.length false, []⟩ : St).pot f.blocks.length ≤ 257 * f.blocks.length := by
    unfold St.pot
    have : ∀ l : List Nat, (l.map (⟨List.replicate f.blocks.length 0, List.replicate f.blocks.length false, []⟩ : St).potAt).sum ≤ 257 * l.length := fun l => by
      induction l with
      | nil => simp
      | cons a l ih =>
        rw [List.map_cons, List.sum_cons, List.length_cons]
        have : (⟨List.replicate f.blocks.length 0, List.replicate f.blocks.length false, []⟩ : St).potAt a ≤ 257 := by
          unfold St.potAt
          split
          · have := card_le ((⟨List.replicate f.blocks.length 0, List.replicate f.blocks.length false, []⟩ : St).atN a); omega
          · omega
        omega
    have := this (List.range f.blocks.length)
    simpa using this
  unfold first
  simp only [List.length_nil] at h3
  omega
theorem with_or {l : List Int} {N : Nat} (h : ∀ v ∈ l, 0 ≤ v) : withM N l = N ||| withM 0 l := by
  apply Nat.eq_of_testBit_eq
  intro k
  rw [Nat.testBit_or, with_bit h, with_bit h]
  simp
theorem Held.other {w w' : World} {A0 R0 C0 GA GR B n g : Nat} {cv cv' : Value} {s : St} {t : TypeId} {cs : Array Value} (H : Held w A0 R0 C0 GA GR B n cv s) (M : Moved w w' GA GR C0 cv cv') (h : Blk w g t cs) (hg : g ≠ GA) (h1 : t ≠ 4) (h2 : t ≠ 22) (h3 : 3 ≠ t) : Blk w' g t cs :=
  (M.block g h.lt hg (ir_ne h H.hGR h1) (ir_ne h H.hC h2) (own_not H.own h h3)).trans h
theorem Moved.own {w w' : World} {A0 R0 C0 GA GR B n BT : Nat} {cv cv' v : Value} {s : St} {l : List Int} (H : Held w A0 R0 C0 GA GR B n cv s) (M : Moved w w' GA GR C0 cv cv') (h : OwnI w BT v l) (hne : ∀ k, v.ownBlock = some k → some k ≠ cv.ownBlock) : OwnI w' BT v l := by
  have h0 := h
  obtain ⟨h1, h2 | ⟨g, cap, cur, rfl, hg, hh, r⟩⟩ := h
  · exact ⟨h1, .inl h2⟩
  · have e1 : g ≠ GA := ir_ne (show Blk w g 3 cur from hh) H.hGA (by decide)
    have e2 : g ≠ GR := ir_ne (show Blk w g 3 cur from hh) H.hGR (by decide)
    have e3 : g ≠ C0 := ir_ne (show Blk w g 3 cur from hh) H.hC (by decide)
    exact ⟨h1, .inr ⟨g, cap, cur, rfl, hg, (M.block g (Blk.lt hh) e1 e2 e3 (hne g rfl)).trans hh, r⟩⟩
theorem measure_is (f : Ff) (A0 R0 C0 GA GR B n : Nat) : ∃ mu : World → Nat, ∀ wr cv s, s.at_.length = n → Held wr A0 R0 C0 GA GR B n cv s → Inv f s → mu wr = 2 * s.pot n + s.ch.length := by
  refine ⟨fun wr => Classical.epsilon (fun m => ∃ (cv : Value) (s : St), s.at_.length = n ∧ Held wr A0 R0 C0 GA GR B n cv s ∧ Inv f s ∧ m = 2 * s.pot n + s.ch.length), fun wr cv s hl hH hI => ?_⟩
  have h := Classical.epsilon_spec (p := fun m => ∃ (cv : Value) (s : St), s.at_.length = n ∧ Held wr A0 R0 C0 GA GR B n cv s ∧ Inv f s ∧ m = 2 * s.pot n + s.ch.length) ⟨_, cv, s, hl, hH, hI, rfl⟩
  obtain ⟨cv', s', hl', hH', hI', e⟩ := h
  have := Held.same hH' hH hl' hl hI'.S.lt hI.S.lt
  exact e.trans (by rw [this])
theorem Held.popped {w : World} {A0 R0 C0 GA GR B n : Nat} {cv : Value} {s : St} {l : List Nat} {b : Nat} (H : Held w A0 R0 C0 GA GR B n cv s) (hc : s.ch = l ++ [b]) : ∃ g cap, cv = .slice (some ⟨g, 0, none⟩) (l.length + 1) cap ∧ B ≤ g ∧ g < w.heap.size ∧ l.length + 1 ≤ cap ∧ cap ≤ maxLen ∧ w.cell? ⟨g, l.length, none⟩ = some (.int .i64 b) ∧
    Held (w.setCell ⟨C0, 0, none⟩ (.slice (some ⟨g, 0, none⟩) l.length cap)) A0 R0 C0 GA GR B n (.slice (some ⟨g, 0, none⟩) l.length cap) ⟨s.at_, s.rd, l⟩ := by
  have e : s.ch.map (fun c : Nat => (c : Int)) = l.map (fun c : Nat => (c : Int)) ++ [(b : Int)] := by rw [hc]; simp
  have ho := H.own
  rw [e] at ho
  obtain ⟨g, cap, hv, h1, h2, h3, h4, h5, h6⟩ := ho.pop
  simp only [List.length_map] at hv h3 h5 h6
  have n1 : A0 ≠ C0 := ir_ne H.hA H.hC (by decide)
  have n2 : R0 ≠ C0 := ir_ne H.hR H.hC (by decide)
  have n3 : GA ≠ C0 := ir_ne H.hGA H.hC (by decide)
  have n4 : GR ≠ C0 := ir_ne H.hGR H.hC (by decide)
  exact ⟨g, cap, hv, h1, h2, h3, h4, h5, ⟨Blk.far H.hA (p := ⟨C0, 0, none⟩) n1 _, Blk.far H.hR (p := ⟨C0, 0, none⟩) n2 _, Blk.put H.hC 0 _, Blk.far H.hGA (p := ⟨C0, 0, none⟩) n3 _, Blk.far H.hGR (p := ⟨C0, 0, none⟩) n4 _, own_put (p := ⟨C0, 0, none⟩) h6 (own_not h6 H.hC (by decide)) _⟩⟩
set_option maxHeartbeats 16000000 in
set_option maxRecDepth 100000 in
theorem begins_any (f : Ff) (pa : Option Addr) (pc : Nat) (ba : Option Addr) (bc : Nat) (w : World) (hS : SmallF f) (hF : FnW w f pa pc ba bc) (hsh : shapeN f = 0) (hgo : goesB f = true) :
    Calls Tryz.prog 48 #[fnV f pa pc ba bc] w fun e w' => ∃ GA GR s, e = .returned (.tuple #[.slice (some ⟨GA, 0, none⟩) f.blocks.length f.blocks.length, .slice (some ⟨GR, 0, none⟩) f.blocks.length f.blocks.length]) ∧
      Blk w' GA 82 (setsC s.at_) ∧ Blk w' GR 4 (truC s.rd) ∧ Ended f s ∧ Below w.heap.size w w' := by
  obtain ⟨i0, hi0, hz0, hz1, hz2⟩ := info_parts int_info
  have HF := Lib.hid hF
  have hp := hS.p
  have hb := hS.b
  have HP := Lib.hid (shape_parts hsh)
  have HI0 := Lib.hid (first_inv hsh)
  have HP0 := Lib.hid (pot_first hsh)
  obtain ⟨hpos, hle, _, _, _⟩ := HP.out
  have hmk1 := fun W => make_sets (n := f.blocks.length) hb W
  have hmk2 := fun W => make_truths (n := f.blocks.length) hb W
  have HDL : Hid (∀ (b : Nat) (x : Bb), f.blocks[b]? = some x → ∀ t ∈ toL x.tm, 1 ≤ t ∧ t < f.blocks.length) := fun b x hx t ht => by
    unfold goesB at hgo
    simp only [List.all_eq_true, Bool.and_eq_true, decide_eq_true_eq] at hgo
    exact hgo x (List.mem_of_getElem? hx) t ht
  obtain ⟨gb, ob, rfl⟩ : ∃ gb ob, ba = some ⟨gb, ob, none⟩ := by
    obtain ⟨g, o, _, _, h, _⟩ := hF.blocks 0 _ (List.getElem?_eq_getElem hpos)
    exact ⟨g, o, h⟩
  clear hF hS hsh hgo
  unfold fnV fnC
  go_enter Tryz.func48, Tryz.ntmps48
  go_wp2
  go_cut [15] from 12 to 70 (fun _ W => ∃ GA GR, Begun w W (w.heap.size + 1) (w.heap.size + 1 + 1) GA GR f.blocks.length #[.slice pa f.params.length pc, .slice (some ⟨gb, ob, none⟩) f.blocks.length bc])
  case first =>
    go_region
    · go_wp2_with fail
      go_meet
      exact ⟨_, _, begun_one w f.blocks.length #[.slice pa f.params.length pc, .slice (some ⟨gb, ob, none⟩) f.blocks.length bc]⟩
    · go_wp2_with fail
      go_meet
      exact ⟨_, _, begun_two w f.blocks.length #[.slice pa f.params.length pc, .slice (some ⟨gb, ob, none⟩) f.blocks.length bc]⟩
  case rest =>
    obtain ⟨GA, GR, hG⟩ := hcut
    have HG := Lib.hid hG
    clear hG
    generalize wc = W at *
    have hA0 : w.heap.size ≤ w.heap.size + 1 := by omega
    have hR0 : w.heap.size ≤ w.heap.size + 1 + 1 := by omega
    generalize w.heap.size + 1 + 1 = R0 at *
    generalize w.heap.size + 1 = A0 at *
    have hdef : ∀ x ∈ f.blocks, x.ins.length ≤ 1000000 ∧ ∀ i ∈ x.ins, 0 ≤ i.dst ∧ i.dst ≤ 200 := fun x hx => ⟨by have := (HP.out.2.2.2.2 x hx).1; omega, fun i hi => (ins_parts ((HP.out.2.2.2.2 x hx).2.1 i hi)).1⟩
    have HDD := Lib.hid (defined_any f.blocks (some ⟨gb, ob, none⟩) bc W hb hdef (HF.out.below HG.out.B).blocks)
    clear hdef
    obtain ⟨p0, p1⟩ := box2 (f := f) (pa := pa) (pc := pc) (ba := some ⟨gb, ob, none⟩) (bc := bc) HG.out.hF
    go_wp2_with fail
    refine HDD.out.mono ?_
    rintro e w2 ⟨rfl, hD2, hb2⟩
    have h1F := HG.out.hF.below hb2 HG.out.hF.lt
    have h1A := HG.out.hA.below hb2 HG.out.hA.lt
    have h1R := HG.out.hR.below hb2 HG.out.hR.lt
    have h1GA := HG.out.hGA.below hb2 HG.out.hGA.lt
    have h1GR := HG.out.hGR.below hb2 HG.out.hGR.lt
    have h1B := HG.out.B.trans (hb2.mono HG.out.B.size)
    have hDG : Hid (GA ≠ W.heap.size) := by have := HG.out.hGA.lt; show _ ≠ _; omega
    have hGAw := HG.out.a
    have hGRw := HG.out.r
    have hD0w : w.heap.size ≤ W.heap.size := HG.out.B.size
    clear HG HDD p0 p1 hb2
    generalize W.heap.size = D0 at *
    have h2F := Lib.hid (h1F.alloc (.cells #[.slice none 0 0] 22))
    have h2D := Lib.hid (hD2.alloc (.cells #[.slice none 0 0] 22))
    have h2H : Hid (Held (w2.alloc (.cells #[.slice none 0 0] 22)) A0 R0 w2.heap.size GA GR w.heap.size f.blocks.length (.slice none 0 0) ⟨List.replicate f.blocks.length 0, List.replicate f.blocks.length false, []⟩) := ⟨h1A.alloc _, h1R.alloc _, Blk.new w2 _ _, h1GA.alloc _, h1GR.alloc _, World.ownsRow_nil _ _ _ _⟩
    have h2B : Hid (Below w.heap.size w (w2.alloc (.cells #[.slice none 0 0] 22))) := h1B.alloc h1B.size _
    have hC0w : w.heap.size ≤ w2.heap.size := h1B.size
    have hvp : ∀ v ∈ f.params, 0 ≤ v ∧ v ≤ 200 := fun v hv => by have := HP.out.2.2.2.1 v hv; omega
    have HW := Lib.hid (with_any 0 f.params pa pc (w2.alloc (.cells #[.slice none 0 0] 22)) hp hvp (HF.out.below h2B.out).params)
    rw [setV_zero] at HW
    obtain ⟨p0, p1⟩ := box2 (f := f) (pa := pa) (pc := pc) (ba := some ⟨gb, ob, none⟩) (bc := bc) h2F.out
    clear h1A h1R h1GA h1GR hD2
    go_wp2_with fail
    refine HW.out.mono ?_
    rintro e w3 ⟨rfl, hb3⟩
    have h3F := Lib.hid (h2F.out.below hb3 h2F.out.lt)
    have h3D := Lib.hid (h2D.out.below hb3 h2D.out.lt)
    have h3H := Lib.hid (h2H.out.keep hb3)
    have h3B := Lib.hid (h2B.out.trans (hb3.mono h2B.out.size))
    have hlt : withM 0 f.params < 2 ^ 256 := with_lt (by decide) (fun v hv => by have := hvp v hv; omega)
    clear h2F h2D h2H h2B HW hb3 p0 p1 h1F h1B hvp
    generalize w2.heap.size = C0 at *
    have HC := Lib.hid (come_any A0 R0 C0 GA GR w.heap.size f.blocks.length (.slice none 0 0) _ 0 (withM 0 f.params) w3 h3H.out (by simp) (by simp) hpos (by simp) h3B.out.size (by unfold St.atN; rw [List.getD_eq_getElem?_getD, List.getElem?_replicate]; split <;> decide) hlt)
    rw [show ((0 : Nat) : Int) = 0 from rfl] at HC
    clear hlt
    go_wp2_with fail
    refine HC.out.mono ?_
    rintro e w4 ⟨rfl, cv4, h4H, h4M⟩
    have H4H : Hid (Held w4 A0 R0 C0 GA GR w.heap.size f.blocks.length cv4 (first f)) := h4H
    have H4F := Lib.hid (h3H.out.other h4M h3F.out (ir_ne h3F.out h3H.out.hGA (by decide)) (by decide) (by decide) (by decide))
    have H4D := Lib.hid (h3H.out.other h4M h3D.out (fun e => hDG.out e.symm) (by decide) (by decide) (by decide))
    have H4B := Lib.hid (h3B.out.trans (h4M.below hGAw hGRw hC0w (fun k hk => (h3H.out.own.lt k hk).1) h3B.out.size))
    obtain ⟨mu, hmu⟩ := measure_is f A0 R0 C0 GA GR w.heap.size f.blocks.length
    have HMU := Lib.hid hmu
    clear h4H h4M h3F h3D h3H h3B HC hmu
    have c0 : w4.cell? ⟨C0, 0, none⟩ = some cv4 := H4H.out.hC.cell 0
    go_wp2
    go_loopw [7] (fun _ wr => ∃ (s : St) (cv : Value), Held wr A0 R0 C0 GA GR w.heap.size f.blocks.length cv s ∧ Inv f s ∧ 2 * s.pot f.blocks.length + s.ch.length ≤ 102800 ∧ Blk wr w.heap.size 25 (fnC f pa pc (some ⟨gb, ob, none⟩) bc) ∧ Blk wr D0 82 (setsC (defd f.blocks f.blocks.length 0)) ∧ Below w.heap.size w wr) (fun _ wr => mu wr)
    case atStart => exact ⟨first f, cv4, H4H.out, HI0.out, HP0.out, H4F.out, H4D.out, H4B.out⟩
    case round =>
      obtain ⟨s, cv, hH, hI, hL, hF, hD, hB⟩ := hrel
      have HH := Lib.hid hH
      have HI := Lib.hid hI
      have HFn := Lib.hid hF
      have HDf := Lib.hid hD
      have HB := Lib.hid hB
      clear hH hI hF hD hB H4H H4F H4D H4B c0 HI0 HP0
      rcases s.ch.eq_nil_or_concat with hch | ⟨l, b, hch⟩
      · obtain ⟨cva, cvc, rfl, _, _⟩ := HH.out.own.shape
        have c0 : wr.cell? ⟨C0, 0, none⟩ = some (.slice cva (s.ch.map (fun c : Nat => (c : Int))).length cvc) := HH.out.hC.cell 0
        have hlen : (s.ch.map (fun c : Nat => (c : Int))).length = 0 := by rw [hch]; rfl
        rw [hlen] at c0
        have a0 : wr.cell? ⟨A0, 0, none⟩ = some (.slice (some ⟨GA, 0, none⟩) f.blocks.length f.blocks.length) := HH.out.hA.cell 0
        have r0 : wr.cell? ⟨R0, 0, none⟩ = some (.slice (some ⟨GR, 0, none⟩) f.blocks.length f.blocks.length) := HH.out.hR.cell 0
        have az := HH.out.hA.free 0
        have rz := HH.out.hR.free 0
        have hne1 : A0 ≠ R0 := ir_ne HH.out.hA HH.out.hR (by decide)
        have hne2 : R0 ≠ A0 := hne1.symm
        go_wp2
        have hgA : GA ≠ A0 := ir_ne HH.out.hGA HH.out.hA (by decide)
        have hgR : GA ≠ R0 := ir_ne HH.out.hGA HH.out.hR (by decide)
        have hrA : GR ≠ A0 := ir_ne HH.out.hGR HH.out.hA (by decide)
        have hrR : GR ≠ R0 := ir_ne HH.out.hGR HH.out.hR (by decide)
        have E1 : Hid (Blk (((wr.setCell ⟨A0, 0, none⟩ (.slice (some ⟨GA, 0, none⟩) f.blocks.length f.blocks.length)).setCell ⟨R0, 0, none⟩ (.slice (some ⟨GR, 0, none⟩) f.blocks.length f.blocks.length)).drew) A0 75 #[.slice (some ⟨GA, 0, none⟩) f.blocks.length f.blocks.length]) :=
          blk_drew (Blk.far (Blk.put HH.out.hA 0 (.slice (some ⟨GA, 0, none⟩) f.blocks.length f.blocks.length)) (p := ⟨R0, 0, none⟩) hne1 _)
        have E2 : Hid (Blk (((wr.setCell ⟨A0, 0, none⟩ (.slice (some ⟨GA, 0, none⟩) f.blocks.length f.blocks.length)).setCell ⟨R0, 0, none⟩ (.slice (some ⟨GR, 0, none⟩) f.blocks.length f.blocks.length)).drew) R0 76 #[.slice (some ⟨GR, 0, none⟩) f.blocks.length f.blocks.length]) :=
          blk_drew (Blk.put (Blk.far HH.out.hR (p := ⟨A0, 0, none⟩) hne2 _) 0 (.slice (some ⟨GR, 0, none⟩) f.blocks.length f.blocks.length))
        have E3 : Hid (Blk (((wr.setCell ⟨A0, 0, none⟩ (.slice (some ⟨GA, 0, none⟩) f.blocks.length f.blocks.length)).setCell ⟨R0, 0, none⟩ (.slice (some ⟨GR, 0, none⟩) f.blocks.length f.blocks.length)).drew) GA 82 (setsC s.at_)) :=
          blk_drew (Blk.far (Blk.far HH.out.hGA (p := ⟨A0, 0, none⟩) hgA _) (p := ⟨R0, 0, none⟩) hgR _)
        have E4 : Hid (Blk (((wr.setCell ⟨A0, 0, none⟩ (.slice (some ⟨GA, 0, none⟩) f.blocks.length f.blocks.length)).setCell ⟨R0, 0, none⟩ (.slice (some ⟨GR, 0, none⟩) f.blocks.length f.blocks.length)).drew) GR 4 (truC s.rd)) :=
          blk_drew (Blk.far (Blk.far HH.out.hGR (p := ⟨A0, 0, none⟩) hrA _) (p := ⟨R0, 0, none⟩) hrR _)
        have E5 : Hid (Below w.heap.size w (((wr.setCell ⟨A0, 0, none⟩ (.slice (some ⟨GA, 0, none⟩) f.blocks.length f.blocks.length)).setCell ⟨R0, 0, none⟩ (.slice (some ⟨GR, 0, none⟩) f.blocks.length f.blocks.length)).drew)) :=
          ((HB.out.setCell (p := ⟨A0, 0, none⟩) hA0 _).setCell (p := ⟨R0, 0, none⟩) hR0 _).drew
        have E6 := Lib.hid (HI.out.ended hch (fun x hx i hi => (ins_parts ((HP.out.2.2.2.2 x hx).2.1 i hi)).1.1))
        go_region
        clear a0 r0 az rz c0
        generalize (((wr.setCell ⟨A0, 0, none⟩ (.slice (some ⟨GA, 0, none⟩) f.blocks.length f.blocks.length)).setCell ⟨R0, 0, none⟩ (.slice (some ⟨GR, 0, none⟩) f.blocks.length f.blocks.length)).drew) = W9 at *
        have b0 : W9.cell? ⟨A0, 0, none⟩ = some (.slice (some ⟨GA, 0, none⟩) f.blocks.length f.blocks.length) := E1.out.cell 0
        have b1 : W9.cell? ⟨R0, 0, none⟩ = some (.slice (some ⟨GR, 0, none⟩) f.blocks.length f.blocks.length) := E2.out.cell 0
        go_wp2
        (try simp only [Exit.inBlock, Exit.then])
        refine bodyPost_ret (v := .tuple #[.slice (some ⟨GA, 0, none⟩) f.blocks.length f.blocks.length, .slice (some ⟨GR, 0, none⟩) f.blocks.length f.blocks.length]) ?_ rfl ⟨GA, GR, s, rfl, E3.out, E4.out, E6.out, E5.out⟩
        simp [results, Tryz.results48, go_sem, b0, b1]
      · rw [List.concat_eq_append] at hch
        obtain ⟨g, cap, rfl, hg1, hg2, hcap, hcm, hcell, hpop⟩ := HH.out.popped hch
        have HPOP := Lib.hid hpop
        have c0 : wr.cell? ⟨C0, 0, none⟩ = some (.slice (some ⟨g, 0, none⟩) (l.length + 1) cap) := HH.out.hC.cell 0
        have cz := HH.out.hC.free 0
        have hcl := HH.out.hC.lt
        have hlb : l.length ≤ 102800 := by rw [hch] at hL; simp at hL; omega
        have hgc : g ≠ C0 := fun e => by
          have := own_not HH.out.own HH.out.hC (by decide)
          exact this (by rw [← e]; rfl)
        have hcm' : cap ≤ 9223372036854775807 := by simpa only [maxLen] using hcm
        clear hpop hcm
        go_wp2
        clear c0 cz
        have HM5 : Hid (Moved wr (wr.setCell ⟨C0, 0, none⟩ (.slice (some ⟨g, 0, none⟩) l.length cap)) GA GR C0 (.slice (some ⟨g, 0, none⟩) (l.length + 1) cap) (.slice (some ⟨g, 0, none⟩) l.length cap)) := ⟨rfl, rfl, rfl, by simp [World.setCell], fun k _ _ _ h3 _ => Below.heap_setCell wr _ _ k h3, .inl rfl⟩
        have H5F := Lib.hid (HH.out.other HM5.out HFn.out (ir_ne HFn.out HH.out.hGA (by decide)) (by decide) (by decide) (by decide))
        have H5D := Lib.hid (HH.out.other HM5.out HDf.out (fun e => hDG.out e.symm) (by decide) (by decide) (by decide))
        have H5B := Lib.hid (HB.out.trans (HM5.out.below hGAw hGRw hC0w (fun k hk => by injection hk with hk; rw [← hk]; exact hg1) HB.out.size))
        have hbn := (HI.out.S.ch b (by rw [hch]; simp)).1
        obtain ⟨x, hx⟩ : ∃ x, f.blocks[b]? = some x := ⟨_, List.getElem?_eq_getElem hbn⟩
        obtain ⟨hxi, hxt, hxm⟩ := HP.out.2.2.2.2 x (List.mem_of_getElem? hx)
        have HXT := Lib.hid (HDL.out b x hx)
        have HMid := Lib.hid (HI.out.mid hch hx (fun i hi => (ins_parts (hxt i hi)).1))
        have HWO : Hid (withM (s.atN b) (defsL x) = s.atN b ||| withM 0 (defsL x)) := with_or (fun v hv => by
          unfold defsL at hv
          obtain ⟨i, hi, rfl⟩ := List.mem_map.1 hv
          exact (ins_parts (hxt i hi)).1.1)
        rw [HWO.out] at HMid
        have hmus := HMU.out wr _ s HI.out.S.n1 HH.out HI.out
        have hlc : s.ch.length = l.length + 1 := by rw [hch]; simp
        have HXX := Lib.hid hx
        have HXM := Lib.hid hxm
        have HDE := Lib.hid (defd_end f.blocks b x hx)
        have hsl : b < s.at_.length := by rw [HI.out.S.n1]; exact hbn
        have HBK := Lib.hid (HF.out.blocks b x hx)
        clear hx hxt hxm HM5 HI HH HFn HDf HB hch
        generalize (wr.setCell ⟨C0, 0, none⟩ (.slice (some ⟨g, 0, none⟩) l.length cap)) = W5 at *
        have a0 : W5.cell? ⟨A0, 0, none⟩ = some (.slice (some ⟨GA, 0, none⟩) f.blocks.length f.blocks.length) := HPOP.out.hA.cell 0
        have r := boxR HPOP.out.hGA hsl
        rw [show (⟨s.at_, s.rd, l⟩ : St).at_.getD b 0 = s.atN b from rfl] at r
        obtain ⟨g0, g1, g2, g3⟩ := r
        have r := boxR H5D.out (b := b) (by rw [defd_length]; exact hbn)
        rw [HDE.out] at r
        obtain ⟨d0, d1, d2, d3⟩ := r
        have HC := Lib.hid (both_any (s.atN b) (withM 0 (defsL x)) W5.drew)
        have HS1 := Lib.hid (setC.eq_1 (s.atN b))
        have HS2 := Lib.hid (setC.eq_1 (withM 0 (defsL x)))
        have HS3 := Lib.hid (setC.eq_1 (s.atN b ||| withM 0 (defsL x)))
        unfold setV at HC
        rw [HS1.out, HS2.out, HS3.out] at HC
        have q1 := HPOP.out.hA.lt
        have q2 := HPOP.out.hGA.lt
        have q3 := H5D.out.lt
        have hbi : (b : Int) < f.blocks.length := by omega
        have hbi0 : (0 : Int) ≤ b := by omega
        have HCb := Lib.hid (both_any (s.atN b) (withM 0 (defsL x)) (W5.alloc (.cells #[.int .u64 0, .int .u64 0, .int .u64 0, .int .u64 0] 82)).drew)
        unfold setV at HCb
        rw [HS1.out, HS2.out, HS3.out] at HCb
        have HZb := Blk.new W5 82 #[.int .u64 0, .int .u64 0, .int .u64 0, .int .u64 0]
        go_cut [9] from 30 to 68 (fun hv W => ∃ H0, hv = .pointer (some ⟨H0, 0, none⟩) ∧ Blk W H0 82 (setC (s.atN b ||| withM 0 (defsL x))) ∧ Below W5.heap.size W5 W ∧ W5.heap.size ≤ H0)
        case first =>
          go_region_with (go_at_call 98; first | (refine HC.out.mono ?_; rintro e w6 ⟨rfl, hb6⟩; have HB6 := Lib.hid hb6; clear hb6) | (refine HCb.out.mono ?_; rintro e w6 ⟨rfl, hb6⟩; have HZ6 := (blk_drew HZb).below hb6 (by simp); have HB7 := Lib.hid hb6; obtain ⟨k0, k1, k2, k3⟩ := box4 HZ6; obtain ⟨f0, f1, f2, f3⟩ := boxF HZ6; clear hb6))
          all_goals
            go_wp2_with fail
            go_meet
            first
              | exact ⟨W5.heap.size, rfl, blk_four HZ6 rfl _ _ _ _, below_four ((((Below.refl _ W5).alloc (Nat.le_refl _) _).drew).trans (HB7.out.mono (by simp))) (Nat.le_refl _) _ _ _ _, Nat.le_refl _⟩
              | exact ⟨w6.heap.size, rfl, Blk.new w6 _ _, ((Below.refl _ W5).drew.trans HB6.out).alloc HB6.out.size _, HB6.out.size⟩
              | trace_state
        case rest =>
          obtain ⟨H0, rfl, hHc, hBc, hH0⟩ := hcut
          have H6H := Lib.hid (HPOP.out.keep hBc)
          have H6F := Lib.hid (H5F.out.below hBc H5F.out.lt)
          have H6D := Lib.hid (H5D.out.below hBc H5D.out.lt)
          have H6B := Lib.hid (H5B.out.trans (hBc.mono H5B.out.size))
          have H6S := Lib.hid hHc
          have hH0G : GA ≠ H0 := by omega
          clear HC HCb HZb g0 g1 g2 g3 d0 d1 d2 d3 a0 hHc hBc HS1 HS2 HDE HPOP H5F H5D H5B q1 q2 q3 hcell
          generalize s.atN b ||| withM 0 (defsL x) = h0 at *
          obtain ⟨gb', ob', ya, yc, hba, hgb, hblk⟩ := HBK.out
          simp only [Option.some.injEq, Addr.mk.injEq] at hba
          obtain ⟨rfl, rfl, _⟩ := hba
          have hblk2 := hblk.below hgb H6B.out
          have c0 := hblk2.c0
          have c1 := hblk2.c1
          have c2 := hblk2.c2
          have c3 := hblk2.c3
          have c4 := hblk2.c4
          obtain ⟨p0, p1⟩ := box2 H6F.out
          have HT := Lib.hid (to_any x.tm wc)
          unfold termV at HT
          have htl := toL_few x.tm
          obtain ⟨tl, htle⟩ : ∃ tl, tl = toL x.tm := ⟨_, rfl⟩
          have HTE := Lib.hid htle
          rw [← htle] at HT HXT htl
          clear hblk hblk2 htle
          go_wp2_with fail
          refine HT.out.mono ?_
          rintro e w7 ⟨v, rfl, hvo, hb7⟩
          have H7H := Lib.hid (H6H.out.keep hb7)
          have H7F := Lib.hid (H6F.out.below hb7 H6F.out.lt)
          have H7D := Lib.hid (H6D.out.below hb7 H6D.out.lt)
          have H7S := Lib.hid (H6S.out.below hb7 H6S.out.lt)
          have H7B := Lib.hid (H6B.out.trans (hb7.mono H6B.out.size))
          have H7V := Lib.hid hvo
          have H7N : Hid (∀ k, v.ownBlock = some k → some k ≠ (Value.slice (some ⟨g, 0, none⟩) l.length cap).ownBlock) := fun k hk e => by
            have e1 := (hvo.lt k hk).1
            have e2 := (H6H.out.own.lt k e.symm).2
            omega
          obtain ⟨ta, tc, rfl, _, _⟩ := hvo.shape
          have HTT : Hid (MidG f ⟨s.at_, s.rd, l⟩ b h0 x (tl.take 0)) := HMid.out
          have HEnd : Hid (∀ s' : St, MidG f s' b h0 x (tl.take tl.length) → Inv f s') := fun s' hm => by
            rw [List.take_length, HTE.out] at hm
            exact hm.inv HXX.out
          clear c0 c1 c2 c3 c4 p0 p1 HT hvo hb7 H6H H6F H6D H6B H6S HMid HBK
          go_wp2
          go_loopw [60] (fun k wr => ∃ (i : Nat) (s' : St) (cv' : Value), k = .int .i64 i ∧ i ≤ tl.length ∧ Held wr A0 R0 C0 GA GR w.heap.size f.blocks.length cv' s' ∧ MidG f s' b h0 x (tl.take i) ∧ 2 * s'.pot f.blocks.length + s'.ch.length ≤ 2 * s.pot f.blocks.length + l.length ∧ Blk wr w.heap.size 25 (fnC f pa pc (some ⟨gb, ob, none⟩) bc) ∧ Blk wr D0 82 (setsC (defd f.blocks f.blocks.length 0)) ∧ Blk wr H0 82 (setC h0) ∧ OwnI wr wc.heap.size (.slice ta tl.length tc) tl ∧ (∀ k, (Value.slice ta tl.length tc).ownBlock = some k → some k ≠ cv'.ownBlock) ∧ Below w.heap.size w wr) (fun k _ => tl.length - (intOf k).toNat)
          case atStart => exact ⟨0, ⟨s.at_, s.rd, l⟩, _, rfl, Nat.zero_le _, H7H.out, HTT.out, Nat.le_refl _, H7F.out, H7D.out, H7S.out, H7V.out, H7N.out, H7B.out⟩
          case round =>
            obtain ⟨i, s', cv', rfl, hi, hH, hM, hL2, hF2, hD2, hS2, hV2, hN2, hB2⟩ := hrel
            have IH := Lib.hid hH
            have IM := Lib.hid hM
            have IF := Lib.hid hF2
            have ID := Lib.hid hD2
            have IS := Lib.hid hS2
            have IV := Lib.hid hV2
            have IN := Lib.hid hN2
            have IB := Lib.hid hB2
            clear hH hM hF2 hD2 hS2 hV2 hN2 hB2 H7H HTT H7F H7D H7S H7V H7N H7B
            by_cases hlt2 : i < tl.length
            · have hlt2' : (i : Int) < tl.length := by omega
              have hi0 : (0 : Int) ≤ i := by omega
              obtain ⟨t, ht⟩ : ∃ t, tl[i]? = some t := ⟨_, List.getElem?_eq_getElem hlt2⟩
              obtain ⟨ht1, ht2⟩ := HXT.out t (List.mem_of_getElem? ht)
              obtain ⟨c, rfl⟩ := Int.eq_ofNat_of_zero_le (show 0 ≤ t by omega)
              obtain ⟨_, _, hvv, _, hIt⟩ := IV.out.shape
              injection hvv with hva hvl hvc
              clear hvl
              subst hva
              subst hvc
              obtain ⟨g2, o2, rfl, hg2, t0⟩ := hIt i _ ht
              obtain ⟨x0, x1, x2, x3⟩ := boxS IS.out
              have hcm : ((c : Nat) : Int) ∈ toL x.tm := by rw [← HTE.out]; exact List.mem_of_getElem? ht
              have hcn : c < f.blocks.length := by omega
              have HTk : Hid (tl.take (i + 1) = tl.take i ++ [(c : Int)]) := by
                show _ = _
                rw [List.take_add_one, ht]
                rfl
              have HC := Lib.hid (come_any A0 R0 C0 GA GR w.heap.size f.blocks.length cv' s' c h0 wr IH.out IM.out.S.n1 IM.out.S.n2 hcn (by omega) IB.out.size (IM.out.S.lt c) IM.out.lt)
              unfold setV setC at HC
              clear ht hIt
              go_wp2_with fail
              refine HC.out.mono ?_
              rintro e w8 ⟨rfl, cv8, h8H, h8M⟩
              have J1 := Lib.hid h8H
              have J2 := Lib.hid (IM.out.come HXX.out hcm hcn)
              rw [← HTk.out] at J2
              have J3 := Lib.hid (IH.out.other h8M IF.out (ir_ne IF.out IH.out.hGA (by decide)) (by decide) (by decide) (by decide))
              have J4 := Lib.hid (IH.out.other h8M ID.out (fun e => hDG.out e.symm) (by decide) (by decide) (by decide))
              have J5 := Lib.hid (IH.out.other h8M IS.out (fun e => hH0G e.symm) (by decide) (by decide) (by decide))
              have J6 := Lib.hid (Moved.own IH.out h8M IV.out IN.out)
              have J7 : Hid (∀ k, (Value.slice (some ⟨g2, o2, none⟩) tl.length tc).ownBlock = some k → some k ≠ cv8.ownBlock) := fun k hk e => by
                rcases h8M.row with hr | hr
                · rw [hr] at e
                  exact IN.out k hk e
                · have e1 := hr k e.symm
                  have e2 := (IV.out.lt k hk).2
                  omega
              have J8 := Lib.hid (IB.out.trans (h8M.below hGAw hGRw hC0w (fun k hk => (IH.out.own.lt k hk).1) IB.out.size))
              have J9 : 2 * (s'.come c h0).pot f.blocks.length + (s'.come c h0).ch.length ≤ 2 * s.pot f.blocks.length + l.length := Nat.le_trans (come_pot IM.out.S.n1 IM.out.S.n2 hcn (IM.out.S.lt c)) hL2
              clear h8H h8M HC x0 x1 x2 x3 t0
              go_wp2
              go_roundw
              case rel => exact ⟨i + 1, s'.come c h0, cv8, by go_num, by omega, J1.out, J2.out, J9, J3.out, J4.out, J5.out, J6.out, J7.out, J8.out⟩
              case measure => simp [intOf]; omega
            · have e : i = tl.length := by omega
              subst e
              have HIv := Lib.hid (HEnd.out s' IM.out)
              have hmu2 := HMU.out wr _ s' HIv.out.S.n1 IH.out HIv.out
              go_wp2
              go_roundw
              case rel => exact ⟨s', cv', IH.out, HIv.out, by omega, IF.out, ID.out, IB.out⟩
              case measure => omega
end Go.Proofs.YthiipgahbmoiiaaGreatDoor
