/-
  What the statement MirEnds keeps from round to round: its numbers, its machine, its end, in boxes of their own; an instruction about whose parts it turns. No condition beyond those that each theorem states.
-/
import Derived.Test.YtbckkmicdpjnaaaDoorMiP
import Derived.Test.YtbckkmicdpjnaaaDoorMiW
import Derived.Test.YtbckkmicdpjnaaaDoorKGood
namespace Go.Proofs.YtbckkmicdpjnaaaDoor
open Go.RowKit

def endsC6 : Array Value := #[.int .i64 (-1), .int .i64 0, .int .i64 1, .int .i64 2, .int .i64 3, .int .i64 99, .int .i64 100, .int .i64 399, .int .i64 400, .int .i64 1099511627776, .int .i64 1099511627777, .int .i64 (-1099511627776), .int .i64 (-1099511627777), .int .i64 9223372036854775807, .int .i64 (-9223372036854775808)]
theorem endsC6_at {k : Nat} (h : k < 15) : ∃ v : Int, endsC6[k]? = some (.int .i64 v) := by
  have : k = 0 ∨ k = 1 ∨ k = 2 ∨ k = 3 ∨ k = 4 ∨ k = 5 ∨ k = 6 ∨ k = 7 ∨ k = 8 ∨ k = 9 ∨ k = 10 ∨ k = 11 ∨ k = 12 ∨ k = 13 ∨ k = 14 := by omega
  rcases this with h | h | h | h | h | h | h | h | h | h | h | h | h | h | h <;> subst h <;> exact ⟨_, rfl⟩
/-- The machine, its rows. -/
def edM : Mm := ⟨3, [2, 0], 1, [2]⟩
def edV (B : Nat) : Value := .agg #[.int .i64 3, .slice (some ⟨B + 1, 0, none⟩) 2 2, .int .i64 1, .slice (some ⟨B + 1 + 1, 0, none⟩) 1 1]
def edC (B : Nat) : Array Value := #[.int .i64 3, .slice (some ⟨B + 1, 0, none⟩) 2 2, .int .i64 1, .slice (some ⟨B + 1 + 1, 0, none⟩) 1 1]
def trapC : Array Value := #[.int .i64 4, .int .i64 0, .int .i64 0, .int .i64 0]
structure EdW (B : Nat) (w wr : World) : Prop where
  e : Blk wr B 3 endsC6
  a : Blk wr (B + 1) 3 #[.int .i64 2, .int .i64 0]
  s : Blk wr (B + 1 + 1) 3 #[.int .i64 2]
  m : Blk wr (B + 1 + 1 + 1) 24 (edC B)
  t : Blk wr (B + 1 + 1 + 1 + 1) 28 trapC
  b : Below B w wr
section
variable {B : Nat} {w wr wx : World}
theorem EdW.below (h : EdW B w wr) (hb : Below wr.heap.size wr wx) : EdW B w wx :=
  ⟨h.e.below hb h.e.lt, h.a.below hb h.a.lt, h.s.below hb h.s.lt, h.m.below hb h.m.lt, h.t.below hb h.t.lt, h.b.trans (hb.mono (Nat.le_of_lt h.e.lt))⟩
theorem EdW.far (h : EdW B w wr) {X : Nat} (hX : B + 5 ≤ X) (j : Nat) (u : Value) : EdW B w (wr.setCell ⟨X, j, none⟩ u) :=
  ⟨h.e.far (p := ⟨X, j, none⟩) (by show B ≠ X; omega) _, h.a.far (p := ⟨X, j, none⟩) (by show B + 1 ≠ X; omega) _, h.s.far (p := ⟨X, j, none⟩) (by show B + 1 + 1 ≠ X; omega) _, h.m.far (p := ⟨X, j, none⟩) (by show B + 1 + 1 + 1 ≠ X; omega) _, h.t.far (p := ⟨X, j, none⟩) (by show B + 1 + 1 + 1 + 1 ≠ X; omega) _, h.b.setCell (p := ⟨X, j, none⟩) (by show B ≤ X; omega) _⟩
theorem EdW.alloc (h : EdW B w wr) (o : Obj) : EdW B w (wr.alloc o) := h.below ((Below.refl _ _).alloc (Nat.le_refl _) _)
theorem EdW.lt (h : EdW B w wr) : B + 5 ≤ wr.heap.size := by have := h.t.lt; omega
theorem EdW.ints (h : EdW B w wr) : MaW wr edM (some ⟨B + 1, 0, none⟩) (some ⟨B + 1 + 1, 0, none⟩) :=
  ⟨IntsW.row (l := [2, 0]) h.a (fun k x hx => by
    rcases k with _ | _ | k
    · simpa using hx
    · simpa using hx
    · simp at hx), IntsW.row (l := [2]) h.s (fun k x hx => by
    rcases k with _ | k
    · simpa using hx
    · simp at hx)⟩
theorem EdW.tab (h : EdW w.heap.size w wr) (hT : TabW w) : TabW wr := hT.below h.b
theorem EdW.parts (h : EdW w.heap.size w wr) (hT : TabW w) (x : Ii) (xa : Option Addr) (xc : Nat) (t : Tt) (hx : x.args.length ≤ 100) :
    Calls Tryd.prog 4 #[edV w.heap.size, insV x xa xc, termV t] wr fun e w' => e = .returned (.bool true) ∧ Below wr.heap.size wr w' :=
  mirParts_any edM _ _ 2 1 x xa xc t wr (by decide) (by decide) (by omega) (by decide) (fun h => by cases h) h.ints.args (h.tab hT)
theorem EdW.tells (h : EdW w.heap.size w wr) (hT : TabW w) (t : Gg) (ba : Option Addr) (bc : Nat) (hB : BlsW wr ba t.blocks) (hbl : t.blocks.length ≤ 1000000) (hbs : ∀ x ∈ t.blocks, x.ins.length ≤ 1000000 ∧ ∀ i ∈ x.ins, i.args.length ≤ 1000000) :
    Calls Tryd.prog 5 #[edV w.heap.size, tgV t ba bc] wr fun e w' => e = .returned (.bool true) ∧ Below wr.heap.size wr w' :=
  mirTells_any edM _ _ 2 1 t ba bc wr (by decide) (by decide) (by decide) (fun h => by cases h) (fun h => by cases h) h.ints hB (by omega) (fun x hx => ⟨by have := (hbs x hx).1; omega, fun i hi => by have := (hbs x hx).2 i hi; omega⟩) (h.tab hT)
end
/-- Numbers in a block of their own, or none. -/
def ArgY (w : World) (a : Option Addr) (l : List Int) : Prop := l = [] ∨ ∃ g cs, a = some ⟨g, 0, none⟩ ∧ Blk w g 3 cs ∧ ∀ (k : Nat) (x : Int), l[k]? = some x → cs[k]? = some (Value.int .i64 x)
theorem ArgY.ints {w : World} {a : Option Addr} {l : List Int} (h : ArgY w a l) : IntsW w a l := by
  rcases h with rfl | ⟨g, cs, rfl, hb, hc⟩
  · exact IntsW.nil _ _
  · exact IntsW.row hb hc
/-- Some instruction lies in box X. -/
structure SwM (B : Nat) (w wx : World) (X : Nat) : Prop where
  some_ : ∃ (x : Ii) (a : Option Addr) (c : Nat), Blk wx X 31 (insC x a c) ∧ ArgY wx a x.args ∧ (a = none → c = 0) ∧ x.args.length ≤ 100
  ed : EdW B w wx
  le : B + 5 ≤ X
theorem ne_of_type {w : World} {g g' : Nat} {t t' : TypeId} {cs cs' : Array Value} (h : Blk w g t cs) (h' : Blk w g' t' cs') (ht : t ≠ t') : g ≠ g' := fun e => by
  subst e
  unfold Blk at h h'
  rw [h] at h'
  simp only [Option.some.injEq, Obj.cells.injEq] at h'
  exact ht h'.2.1
section
variable {B X : Nat} {w wx wy : World}
theorem ArgY.far {a : Option Addr} {l : List Int} (h : ArgY wx a l) {cs : Array Value} (hX : Blk wx X 31 cs) (j : Nat) (u : Value) : ArgY (wx.setCell ⟨X, j, none⟩ u) a l := by
  rcases h with h | ⟨g, ds, e, hb, hc⟩
  · exact .inl h
  · exact .inr ⟨g, ds, e, hb.far (p := ⟨X, j, none⟩) (ne_of_type hb hX (by decide)) _, hc⟩
theorem ArgY.below {a : Option Addr} {l : List Int} (h : ArgY wx a l) (hb : Below wx.heap.size wx wy) : ArgY wy a l := by
  rcases h with h | ⟨g, ds, e, hb', hc⟩
  · exact .inl h
  · exact .inr ⟨g, ds, e, hb'.below hb hb'.lt, hc⟩
theorem SwM.put (h : SwM B w wx X) (j : Nat) (v : Int) (hj : j = 1 ∨ j = 2 ∨ j = 3 ∨ j = 4 ∨ j = 5 ∨ j = 7) : SwM B w (wx.setCell ⟨X, j, none⟩ (.int .i64 v)) X := by
  obtain ⟨x, a, c, h1, h2, h3, h4⟩ := h.some_
  have hp := h1.put j (.int .i64 v)
  have h5 := h2.far h1 j (.int .i64 v)
  refine ⟨?_, h.ed.far h.le j _, h.le⟩
  rcases hj with rfl | rfl | rfl | rfl | rfl | rfl
  · exact ⟨{ x with dst := v }, a, c, hp, h5, h3, h4⟩
  · exact ⟨{ x with a := v }, a, c, hp, h5, h3, h4⟩
  · exact ⟨{ x with b := v }, a, c, hp, h5, h3, h4⟩
  · exact ⟨{ x with imm := v }, a, c, hp, h5, h3, h4⟩
  · exact ⟨{ x with callee := v }, a, c, hp, h5, h3, h4⟩
  · exact ⟨{ x with many := v }, a, c, hp, h5, h3, h4⟩
theorem SwM.below (h : SwM B w wx X) (hb : Below wx.heap.size wx wy) : SwM B w wy X := by
  obtain ⟨x, a, c, h1, h2, h3, h4⟩ := h.some_
  exact ⟨⟨x, a, c, h1.below hb h1.lt, h2.below hb, h3, h4⟩, h.ed.below hb, h.le⟩
/-- Numbers are made, and are its arguments; then it gets its number. -/
theorem SwM.putNew (h : SwM B w wx X) {cs : Array Value} {l : List Int} {c : Nat} (hc : ∀ (k : Nat) (x : Int), l[k]? = some x → cs[k]? = some (Value.int .i64 x)) (hlen : l.length ≤ 100) (v : Int) :
    SwM B w (((wx.setCell ⟨X, 6, none⟩ (.slice (some ⟨wx.heap.size, 0, none⟩) l.length c)).setCell ⟨X, 4, none⟩ (.int .i64 v)).alloc (.cells cs 3)) X := by
  obtain ⟨x, a, c0, h1, h2, h3, h4⟩ := h.some_
  have hp := (h1.put 6 (.slice (some ⟨wx.heap.size, 0, none⟩) l.length c)).put 4 (.int .i64 v)
  have hn := Blk.new ((wx.setCell ⟨X, 6, none⟩ (.slice (some ⟨wx.heap.size, 0, none⟩) l.length c)).setCell ⟨X, 4, none⟩ (.int .i64 v)) 3 cs
  have hs : ((wx.setCell ⟨X, 6, none⟩ (.slice (some ⟨wx.heap.size, 0, none⟩) l.length c)).setCell ⟨X, 4, none⟩ (.int .i64 v)).heap.size = wx.heap.size := by simp [World.setCell]
  rw [hs] at hn
  exact ⟨⟨{ x with args := l, imm := v }, _, c, hp.alloc _, .inr ⟨wx.heap.size, cs, rfl, hn, hc⟩, (fun h => by cases h), hlen⟩, ((h.ed.far h.le _ _).far h.le _ _).alloc _, h.le⟩
theorem SwM.new {wr : World} (h : EdW B w wr) (i : Int) : SwM B w (wr.alloc (.cells #[.int .i64 i, .int .i64 0, .int .i64 0, .int .i64 0, .int .i64 0, .int .i64 0, .slice none 0 0, .int .i64 0] 31)) wr.heap.size :=
  ⟨⟨⟨i, 0, 0, 0, 0, 0, [], 0⟩, none, 0, Blk.new wr _ _, .inl rfl, fun _ => rfl, by simp⟩, h.alloc _, h.lt⟩
end
/-- A row of one instruction, a row of two. -/
theorem ins_one6 {W : World} {g : Nat} {ty : TypeId} {x : Ii} {xa : Option Addr} {xc : Nat} (h : Blk W g ty (insC x xa xc)) (hn : xa = none → xc = 0) (hi : IntsW W xa x.args) : InsW W (some ⟨g, 0, none⟩) [x] := fun k y hy => by
  cases k with
  | succ k => simp at hy
  | zero =>
    simp only [List.getElem?_cons_zero, Option.some.injEq] at hy
    subst hy
    exact ⟨g, 0, xa, xc, rfl, h.lt, ⟨h.cell 0, h.cell 1, h.cell 2, h.cell 3, h.cell 4, h.cell 5, h.cell 6, h.cell 7, hn, hi⟩⟩
theorem ins_two6 {W : World} {g : Nat} {ty : TypeId} {x : Ii} {xa : Option Addr} {xc : Nat} (h : Blk W g ty #[.int .i64 1, .int .i64 0, .int .i64 0, .int .i64 0, .int .i64 0, .int .i64 0, .slice none 0 0, .int .i64 0, .int .i64 x.op, .int .i64 x.dst, .int .i64 x.a, .int .i64 x.b, .int .i64 x.imm, .int .i64 x.callee, .slice xa x.args.length xc, .int .i64 x.many]) (hn : xa = none → xc = 0) (hi : IntsW W xa x.args) :
    InsW W (some ⟨g, 0, none⟩) [⟨1, 0, 0, 0, 0, 0, [], 0⟩, x] := fun k y hy => by
  rcases k with _ | _ | k
  · simp only [List.getElem?_cons_zero, Option.some.injEq] at hy
    subst hy
    exact ⟨g, 0, none, 0, rfl, h.lt, ⟨h.cell 0, h.cell 1, h.cell 2, h.cell 3, h.cell 4, h.cell 5, h.cell 6, h.cell 7, fun _ => rfl, IntsW.nil _ _⟩⟩
  · simp only [List.getElem?_cons_zero, List.getElem?_cons_succ, Option.some.injEq] at hy
    subst hy
    exact ⟨g, 0, xa, xc, rfl, h.lt, ⟨h.cell 8, h.cell 9, h.cell 10, h.cell 11, h.cell 12, h.cell 13, h.cell 14, h.cell 15, hn, hi⟩⟩
  · simp at hy
theorem bls_one6 {W : World} {g : Nat} {ty : TypeId} {l : List Ii} {ia : Option Addr} {ic : Nat} {k a b c : Int} (h : Blk W g ty #[.slice ia l.length ic, .int .i64 k, .int .i64 a, .int .i64 b, .int .i64 c]) (hn : ia = none → ic = 0) (hi : InsW W ia l) : BlsW W (some ⟨g, 0, none⟩) [⟨l, ⟨k, a, b, c⟩⟩] := fun j y hy => by
  cases j with
  | succ j => simp at hy
  | zero =>
    simp only [List.getElem?_cons_zero, Option.some.injEq] at hy
    subst hy
    exact ⟨g, 0, ia, ic, rfl, h.lt, ⟨h.cell 0, h.cell 1, h.cell 2, h.cell 3, h.cell 4, hn, hi⟩⟩
theorem bls_two6 {W : World} {g : Nat} {ty : TypeId} {l l' : List Ii} {ia ia' : Option Addr} {ic ic' : Nat} {k a b c k' a' b' c' : Int} (h : Blk W g ty #[.slice ia l.length ic, .int .i64 k, .int .i64 a, .int .i64 b, .int .i64 c, .slice ia' l'.length ic', .int .i64 k', .int .i64 a', .int .i64 b', .int .i64 c'])
    (hn : ia = none → ic = 0) (hi : InsW W ia l) (hn' : ia' = none → ic' = 0) (hi' : InsW W ia' l') : BlsW W (some ⟨g, 0, none⟩) [⟨l, ⟨k, a, b, c⟩⟩, ⟨l', ⟨k', a', b', c'⟩⟩] := fun j y hy => by
  rcases j with _ | _ | j
  · simp only [List.getElem?_cons_zero, Option.some.injEq] at hy
    subst hy
    exact ⟨g, 0, ia, ic, rfl, h.lt, ⟨h.cell 0, h.cell 1, h.cell 2, h.cell 3, h.cell 4, hn, hi⟩⟩
  · simp only [List.getElem?_cons_zero, List.getElem?_cons_succ, Option.some.injEq] at hy
    subst hy
    exact ⟨g, 0, ia', ic', rfl, h.lt, ⟨h.cell 5, h.cell 6, h.cell 7, h.cell 8, h.cell 9, hn', hi'⟩⟩
  · simp at hy
/-- A target in a box of its own, its blocks. -/
structure TgB (W : World) (P : Nat) (g : Gg) (ba : Option Addr) (bc : Nat) : Prop where
  box : Blk W P 37 (tgC g ba bc)
  bls : BlsW W ba g.blocks
  few : g.blocks.length ≤ 1000000
  all : ∀ x ∈ g.blocks, x.ins.length ≤ 1000000 ∧ ∀ i ∈ x.ins, i.args.length ≤ 1000000
theorem TgB.below {W W' : World} {P : Nat} {g : Gg} {ba : Option Addr} {bc : Nat} (h : TgB W P g ba bc) (hb : Below W.heap.size W W') : TgB W' P g ba bc :=
  ⟨h.box.below hb h.box.lt, h.bls.below hb, h.few, h.all⟩
theorem below3 (W : World) (a b c : Obj) : Below W.heap.size W (((W.alloc a).alloc b).alloc c) := (((Below.refl _ W).alloc (Nat.le_refl _) _).alloc (by simp) _).alloc (by simp; omega) _
/-- The statement's two targets, as they are built. -/
theorem tg_first (W : World) (x : Ii) (xa : Option Addr) (xc : Nat) (t : Tt) (fr : Int) (hn : xa = none → xc = 0) (hi : IntsW W xa x.args) (hl : x.args.length ≤ 100) :
    TgB (((W.alloc (.cells (insC x xa xc) 31)).alloc (.cells #[.slice (some ⟨W.heap.size, 0, none⟩) 1 1, .int .i64 t.kind, .int .i64 t.a, .int .i64 t.t0, .int .i64 t.t1, .slice none 0 0, .int .i64 4, .int .i64 0, .int .i64 0, .int .i64 0] 34)).alloc (.cells #[.int .i64 fr, .slice (some ⟨W.heap.size + 1, 0, none⟩) 2 2] 37)) (W.heap.size + 1 + 1) ⟨fr, [⟨[x], t⟩, ⟨[], ⟨4, 0, 0, 0⟩⟩]⟩ (some ⟨W.heap.size + 1, 0, none⟩) 2 := by
  have hb := below3 W (.cells (insC x xa xc) 31) (.cells #[.slice (some ⟨W.heap.size, 0, none⟩) 1 1, .int .i64 t.kind, .int .i64 t.a, .int .i64 t.t0, .int .i64 t.t1, .slice none 0 0, .int .i64 4, .int .i64 0, .int .i64 0, .int .i64 0] 34) (.cells #[.int .i64 fr, .slice (some ⟨W.heap.size + 1, 0, none⟩) 2 2] 37)
  refine ⟨blk_at _ _ (by simp), ?_, by simp, fun b hb => ?_⟩
  · exact bls_two6 (l := [x]) (l' := []) ((blk_at _ _ (by simp)).alloc _) (fun h => by cases h) (ins_one6 (((Blk.new W _ _).alloc _).alloc _) hn (hi.below hb)) (fun _ => rfl) (fun k x hx => by simp at hx)
  · simp only [List.mem_cons, List.not_mem_nil, or_false] at hb
    rcases hb with rfl | rfl
    · exact ⟨by simp, fun i hi => by simp only [List.mem_cons, List.not_mem_nil, or_false] at hi; subst hi; omega⟩
    · exact ⟨by simp, fun i hi => by simp at hi⟩
theorem tg_second (W : World) (x : Ii) (xa : Option Addr) (xc : Nat) (u : Tt) (fr : Int) (hn : xa = none → xc = 0) (hi : IntsW W xa x.args) (hl : x.args.length ≤ 100) :
    TgB (((W.alloc (.cells #[.int .i64 1, .int .i64 0, .int .i64 0, .int .i64 0, .int .i64 0, .int .i64 0, .slice none 0 0, .int .i64 0, .int .i64 x.op, .int .i64 x.dst, .int .i64 x.a, .int .i64 x.b, .int .i64 x.imm, .int .i64 x.callee, .slice xa x.args.length xc, .int .i64 x.many] 31)).alloc (.cells #[.slice none 0 0, .int .i64 u.kind, .int .i64 u.a, .int .i64 u.t0, .int .i64 u.t1, .slice (some ⟨W.heap.size, 0, none⟩) 2 2, .int .i64 4, .int .i64 0, .int .i64 0, .int .i64 0] 34)).alloc (.cells #[.int .i64 fr, .slice (some ⟨W.heap.size + 1, 0, none⟩) 2 2] 37)) (W.heap.size + 1 + 1) ⟨fr, [⟨[], u⟩, ⟨[⟨1, 0, 0, 0, 0, 0, [], 0⟩, x], ⟨4, 0, 0, 0⟩⟩]⟩ (some ⟨W.heap.size + 1, 0, none⟩) 2 := by
  have hb := below3 W (.cells #[.int .i64 1, .int .i64 0, .int .i64 0, .int .i64 0, .int .i64 0, .int .i64 0, .slice none 0 0, .int .i64 0, .int .i64 x.op, .int .i64 x.dst, .int .i64 x.a, .int .i64 x.b, .int .i64 x.imm, .int .i64 x.callee, .slice xa x.args.length xc, .int .i64 x.many] 31) (.cells #[.slice none 0 0, .int .i64 u.kind, .int .i64 u.a, .int .i64 u.t0, .int .i64 u.t1, .slice (some ⟨W.heap.size, 0, none⟩) 2 2, .int .i64 4, .int .i64 0, .int .i64 0, .int .i64 0] 34) (.cells #[.int .i64 fr, .slice (some ⟨W.heap.size + 1, 0, none⟩) 2 2] 37)
  refine ⟨blk_at _ _ (by simp), ?_, by simp, fun b hb => ?_⟩
  · exact bls_two6 (l := []) (l' := [⟨1, 0, 0, 0, 0, 0, [], 0⟩, x]) ((blk_at _ _ (by simp)).alloc _) (fun _ => rfl) (fun k x hx => by simp at hx) (fun h => by cases h) (ins_two6 (((Blk.new W _ _).alloc _).alloc _) hn (hi.below hb))
  · simp only [List.mem_cons, List.not_mem_nil, or_false] at hb
    rcases hb with rfl | rfl
    · exact ⟨by simp, fun i hi => by simp at hi⟩
    · exact ⟨by simp, fun i hi => by
        simp only [List.mem_cons, List.not_mem_nil, or_false] at hi
        rcases hi with rfl | rfl
        · simp
        · omega⟩
/-- The third target, for the machine of two registers. -/
theorem third_any (W : World) (hT : TabW W) (gg gi gb : Nat) (hM : MaW W tMc (some ⟨gg, 0, none⟩) none) (x : Ii) (xa : Option Addr) (xc : Nat) (h1 : Blk W gi 31 (insC x xa xc)) (h2 : Blk W gb 34 #[.slice (some ⟨gi, 0, none⟩) 1 1, .int .i64 4, .int .i64 0, .int .i64 0, .int .i64 0]) (hn : xa = none → xc = 0) (hi : IntsW W xa x.args) (hl : x.args.length ≤ 100) :
    Calls Tryd.prog 5 #[.agg #[.int .i64 2, .slice (some ⟨gg, 0, none⟩) 1 1, .int .i64 0, .slice none 0 0], .agg #[.int .i64 0, .slice (some ⟨gb, 0, none⟩) 1 1]] W fun e w' => e = .returned (.bool true) ∧ Below W.heap.size W w' :=
  mirTells_any tMc _ _ 1 0 ⟨0, [⟨[x], ⟨4, 0, 0, 0⟩⟩]⟩ (some ⟨gb, 0, none⟩) 1 W (by decide) (by decide) (by decide) (fun h => by cases h) (fun _ => rfl) hM (bls_one6 (l := [x]) h2 (fun h => by cases h) (ins_one6 h1 hn hi)) (by simp) (fun b hb => by
    simp only [List.mem_cons, List.not_mem_nil, or_false] at hb
    subst hb
    exact ⟨by simp, fun i hi => by simp only [List.mem_cons, List.not_mem_nil, or_false] at hi; subst hi; omega⟩) hT
theorem Blk.drew' {W : World} {g : Nat} {t : TypeId} {cs : Array Value} (h : Blk W g t cs) : Blk W.drew g t cs := h.below ((Below.refl _ _).drew) h.lt
/-- A long block in box L, its instructions in row G; wide blocks in row H. -/
structure LnW (B : Nat) (w W : World) (L G m : Nat) : Prop where
  ed : EdW B w W
  box : Blk W L 34 #[.slice (some ⟨G, 0, none⟩) m m, .int .i64 4, .int .i64 0, .int .i64 0, .int .i64 0]
  row : ∃ cs, Blk W G 31 cs ∧ Good 8 6 cs m
  l : B + 5 ≤ L
  g : B + 5 ≤ G
structure WdW (B : Nat) (w W : World) (L G m H n : Nat) : Prop where
  ln : LnW B w W L G m
  row : ∃ cs, Blk W H 34 cs ∧ Good 5 0 cs n
  h : B + 5 ≤ H
  ne : L ≠ H
section
variable {B L G H m n : Nat} {w W W' : World}
theorem LnW.below (h : LnW B w W L G m) (hb : Below W.heap.size W W') : LnW B w W' L G m := by
  obtain ⟨cs, h1, h2⟩ := h.row
  exact ⟨h.ed.below hb, h.box.below hb h.box.lt, ⟨cs, h1.below hb h1.lt, h2⟩, h.l, h.g⟩
theorem WdW.below (h : WdW B w W L G m H n) (hb : Below W.heap.size W W') : WdW B w W' L G m H n := by
  obtain ⟨cs, h1, h2⟩ := h.row
  exact ⟨h.ln.below hb, ⟨cs, h1.below hb h1.lt, h2⟩, h.h, h.ne⟩
theorem LnW.new1 (h : EdW B w W) {cs : Array Value} (hg : Good 8 6 cs m) : LnW B w ((W.alloc (.cells cs 31)).alloc (.cells #[.slice (some ⟨W.heap.size, 0, none⟩) m m, .int .i64 4, .int .i64 0, .int .i64 0, .int .i64 0] 34)).drew (W.heap.size + 1) W.heap.size m :=
  LnW.below (W := ((W.alloc (.cells cs 31)).alloc (.cells #[.slice (some ⟨W.heap.size, 0, none⟩) m m, .int .i64 4, .int .i64 0, .int .i64 0, .int .i64 0] 34))) ⟨(h.alloc _).alloc _, blk_at _ _ (by simp), ⟨cs, (Blk.new W _ _).alloc _, hg⟩, by have := h.lt; omega, h.lt⟩ (Below.refl _ _).drew
theorem LnW.new2 (h : EdW B w W) {cs : Array Value} (hg : Good 8 6 cs m) : LnW B w ((W.alloc (.cells #[.slice (some ⟨W.heap.size + 1, 0, none⟩) m m, .int .i64 4, .int .i64 0, .int .i64 0, .int .i64 0] 34)).alloc (.cells cs 31)).drew W.heap.size (W.heap.size + 1) m :=
  LnW.below (W := ((W.alloc (.cells #[.slice (some ⟨W.heap.size + 1, 0, none⟩) m m, .int .i64 4, .int .i64 0, .int .i64 0, .int .i64 0] 34)).alloc (.cells cs 31))) ⟨(h.alloc _).alloc _, (Blk.new W _ _).alloc _, ⟨cs, blk_at _ _ (by simp), hg⟩, h.lt, by have := h.lt; omega⟩ (Below.refl _ _).drew
theorem LnW.cells (h : LnW B w W L G m) : W.cell? ⟨L, 0, none⟩ = some (.slice (some ⟨G, 0, none⟩) m m) ∧ W.cell? ⟨L, 1, none⟩ = some (.int .i64 4) ∧ W.cell? ⟨L, 2, none⟩ = some (.int .i64 0) ∧ W.cell? ⟨L, 3, none⟩ = some (.int .i64 0) ∧ W.cell? ⟨L, 4, none⟩ = some (.int .i64 0) :=
  ⟨h.box.cell 0, h.box.cell 1, h.box.cell 2, h.box.cell 3, h.box.cell 4⟩
theorem LnW.at (h : LnW B w W L G m) {j : Nat} (hj : j < m) : (∃ v : Int, W.cell? ⟨G, j * 8, none⟩ = some (.int .i64 v)) ∧ W.frozen? ⟨G, j * 8, none⟩ = false ∧ G < W.heap.size := by
  obtain ⟨cs, h1, h2⟩ := h.row
  obtain ⟨v, hv⟩ := (h2 j 0 hj (by omega)).2 (by omega)
  exact ⟨⟨v, (h1.cell _).trans hv⟩, h1.free _, h1.lt⟩
theorem LnW.put (h : LnW B w W L G m) (j : Nat) (v : Int) : LnW B w (W.setCell ⟨G, j * 8, none⟩ (.int .i64 v)) L G m := by
  obtain ⟨cs, h1, h2⟩ := h.row
  exact ⟨h.ed.far h.g _ _, h.box.far (p := ⟨G, j * 8, none⟩) (ne_of_type h.box h1 (by decide)) _, ⟨_, h1.put (j * 8) _, h2.put (j := j) (r := 0) (by omega) (by omega) v⟩, h.l, h.g⟩
theorem WdW.at (h : WdW B w W L G m H n) {j : Nat} (hj : j < n) : ((∃ v : Int, W.cell? ⟨H, j * 5 + 1, none⟩ = some (.int .i64 v)) ∧ (∃ v : Int, W.cell? ⟨H, j * 5 + 2, none⟩ = some (.int .i64 v)) ∧ (∃ v : Int, W.cell? ⟨H, j * 5 + 3, none⟩ = some (.int .i64 v)) ∧ (∃ v : Int, W.cell? ⟨H, j * 5 + 4, none⟩ = some (.int .i64 v))) ∧ (∀ k, W.frozen? ⟨H, k, none⟩ = false) ∧ H < W.heap.size := by
  obtain ⟨cs, h1, h2⟩ := h.row
  obtain ⟨v1, hv1⟩ := (h2 j 1 hj (by omega)).2 (by omega)
  obtain ⟨v2, hv2⟩ := (h2 j 2 hj (by omega)).2 (by omega)
  obtain ⟨v3, hv3⟩ := (h2 j 3 hj (by omega)).2 (by omega)
  obtain ⟨v4, hv4⟩ := (h2 j 4 hj (by omega)).2 (by omega)
  exact ⟨⟨⟨v1, (h1.cell _).trans hv1⟩, ⟨v2, (h1.cell _).trans hv2⟩, ⟨v3, (h1.cell _).trans hv3⟩, ⟨v4, (h1.cell _).trans hv4⟩⟩, fun k => h1.free k, h1.lt⟩
theorem WdW.put (h : WdW B w W L G m H n) (j : Nat) (a b c d : Int) : WdW B w ((((W.setCell ⟨H, j * 5 + 1, none⟩ (.int .i64 a)).setCell ⟨H, j * 5 + 2, none⟩ (.int .i64 b)).setCell ⟨H, j * 5 + 3, none⟩ (.int .i64 c)).setCell ⟨H, j * 5 + 4, none⟩ (.int .i64 d)) L G m H n := by
  obtain ⟨cs, h1, h2⟩ := h.row
  obtain ⟨ds, g1, g2⟩ := h.ln.row
  have hgh : G ≠ H := ne_of_type g1 h1 (by decide)
  refine ⟨⟨(((h.ln.ed.far h.h _ _).far h.h _ _).far h.h _ _).far h.h _ _, ?_, ⟨ds, ?_, g2⟩, h.ln.l, h.ln.g⟩, ⟨_, (((h1.put (j * 5 + 1) _).put (j * 5 + 2) _).put (j * 5 + 3) _).put (j * 5 + 4) _, (((h2.put (j := j) (r := 1) (by omega) (by omega) a).put (j := j) (r := 2) (by omega) (by omega) b).put (j := j) (r := 3) (by omega) (by omega) c).put (j := j) (r := 4) (by omega) (by omega) d⟩, h.h, h.ne⟩
  · exact (((h.ln.box.far (p := ⟨H, j * 5 + 1, none⟩) h.ne _).far (p := ⟨H, j * 5 + 2, none⟩) h.ne _).far (p := ⟨H, j * 5 + 3, none⟩) h.ne _).far (p := ⟨H, j * 5 + 4, none⟩) h.ne _
  · exact (((g1.far (p := ⟨H, j * 5 + 1, none⟩) hgh _).far (p := ⟨H, j * 5 + 2, none⟩) hgh _).far (p := ⟨H, j * 5 + 3, none⟩) hgh _).far (p := ⟨H, j * 5 + 4, none⟩) hgh _
/-- The wide target, the long one. -/
theorem WdW.tells (h : WdW w.heap.size w W L G m H n) (hT : TabW w) (hn : n ≤ 1000000) :
    Calls Tryd.prog 5 #[edV w.heap.size, .agg #[.int .i64 0, .slice (some ⟨H, 0, none⟩) n n]] W fun e w' => e = .returned (.bool true) ∧ Below W.heap.size W w' := by
  obtain ⟨cs, h1, h2⟩ := h.row
  obtain ⟨l, hl, hl2, hl3⟩ := good_blocks h1 h2
  subst hl
  exact h.ln.ed.tells hT ⟨0, l⟩ (some ⟨H, 0, none⟩) l.length hl3 hn (fun x hx => by rw [hl2 x hx]; simp)
/-- A target of one long block. -/
structure OneW (W : World) (K m : Nat) (g : Gg) : Prop where
  bls : BlsW W (some ⟨K, 0, none⟩) g.blocks
  len : g.blocks.length = 1
  fr : g.frame = 0
  small : SmallG g
  size : sizeT g = (m : Int) + 1
theorem OneW.below {K : Nat} {g : Gg} (h : OneW W K m g) (hb : Below W.heap.size W W') : OneW W' K m g := ⟨h.bls.below hb, h.len, h.fr, h.small, h.size⟩
theorem LnW.one {K : Nat} (h : LnW B w W L G m) (hm : m ≤ 1000000) (hk : Blk W K 34 #[.slice (some ⟨G, 0, none⟩) m m, .int .i64 4, .int .i64 0, .int .i64 0, .int .i64 0]) : ∃ g, OneW W K m g := by
  obtain ⟨cs, h1, h2⟩ := h.row
  obtain ⟨l, hl, hl2, hl3⟩ := good_ins h1 h2
  subst hl
  refine ⟨⟨0, [⟨l, ⟨4, 0, 0, 0⟩⟩]⟩, bls_one6 hk (fun h => by cases h) hl3, rfl, rfl, ⟨by simp, fun x hx => ?_⟩, ?_⟩
  · simp only [List.mem_cons, List.not_mem_nil, or_false] at hx
    subst hx
    exact ⟨hm, fun i hi => by rw [hl2 i hi]; simp⟩
  · unfold sizeT
    simp
    omega
theorem OneW.calls {K : Nat} {g : Gg} (h : OneW W K m g) (hE : EdW w.heap.size w W) (hT : TabW w) :
    Calls Tryd.prog 7 #[edV w.heap.size, .agg #[.int .i64 0, .slice (some ⟨K, 0, none⟩) 1 1]] W (fun e w' => e = .returned (.int .i64 (rightT edM g)) ∧ Below W.heap.size W w') ∧
    Calls Tryd.prog 8 #[edV w.heap.size, .agg #[.int .i64 0, .slice (some ⟨K, 0, none⟩) 1 1]] W (fun e w' => e = .returned (.int .i64 (rightT edM g)) ∧ Below W.heap.size W w') ∧
    Calls Tryd.prog 9 #[.agg #[.int .i64 0, .slice (some ⟨K, 0, none⟩) 1 1]] W (fun e w' => e = .returned (.int .i64 ((m : Int) + 1)) ∧ Below W.heap.size W w') := by
  have e : tgV g (some ⟨K, 0, none⟩) 1 = .agg #[.int .i64 0, .slice (some ⟨K, 0, none⟩) 1 1] := by
    unfold tgV tgC
    rw [h.len, h.fr]
  have c1 := right_any edM _ _ 2 1 g (some ⟨K, 0, none⟩) 1 W (by decide) (by decide) hE.ints h.bls h.small (hE.tab hT)
  have c2 := right6_any edM _ _ 2 1 g (some ⟨K, 0, none⟩) 1 W (by decide) (by decide) (by decide) hE.ints h.bls h.small
  have c3 := size_any g (some ⟨K, 0, none⟩) 1 W h.small h.bls
  rw [e] at c1 c2 c3
  rw [h.size] at c3
  exact ⟨c1, c2, c3⟩
end
end Go.Proofs.YtbckkmicdpjnaaaDoor
