/-
  Instructions, ends, blocks, functions as plain data, and how they lie in memory. No condition beyond those that each theorem states.
-/
import Derived.Test.YtbckkmicdpjnaaaDoorKInts
namespace Go.Proofs.YtbckkmicdpjnaaaDoor
open Go.RowKit

/-- An instruction. -/
structure Ii where
  op : Int
  dst : Int
  a : Int
  b : Int
  imm : Int
  callee : Int
  args : List Int
  many : Int
/-- An end. -/
structure Tt where
  kind : Int
  a : Int
  t0 : Int
  t1 : Int
/-- A block. -/
structure Bb where
  ins : List Ii
  tm : Tt
/-- A function. -/
structure Ff where
  params : List Int
  blocks : List Bb

/-- An instruction, its arguments' row from there, of that room. -/
def insV (x : Ii) (a : Option Addr) (c : Nat) : Value := .agg #[.int .i64 x.op, .int .i64 x.dst, .int .i64 x.a, .int .i64 x.b, .int .i64 x.imm, .int .i64 x.callee, .slice a x.args.length c, .int .i64 x.many]
def termV (t : Tt) : Value := .agg #[.int .i64 t.kind, .int .i64 t.a, .int .i64 t.t0, .int .i64 t.t1]
/-- An instruction's cells. -/
def insC (x : Ii) (a : Option Addr) (c : Nat) : Array Value := #[.int .i64 x.op, .int .i64 x.dst, .int .i64 x.a, .int .i64 x.b, .int .i64 x.imm, .int .i64 x.callee, .slice a x.args.length c, .int .i64 x.many]
theorem box8 {W : World} {g : Nat} {t : TypeId} {x : Ii} {a : Option Addr} {c : Nat} (h : Blk W g t (insC x a c)) :
    W.cell? ⟨g, 0, none⟩ = some (.int .i64 x.op) ∧ W.cell? ⟨g, 1, none⟩ = some (.int .i64 x.dst) ∧ W.cell? ⟨g, 2, none⟩ = some (.int .i64 x.a) ∧ W.cell? ⟨g, 3, none⟩ = some (.int .i64 x.b) ∧
    W.cell? ⟨g, 4, none⟩ = some (.int .i64 x.imm) ∧ W.cell? ⟨g, 5, none⟩ = some (.int .i64 x.callee) ∧ W.cell? ⟨g, 6, none⟩ = some (.slice a x.args.length c) ∧ W.cell? ⟨g, 7, none⟩ = some (.int .i64 x.many) :=
  ⟨h.cell 0, h.cell 1, h.cell 2, h.cell 3, h.cell 4, h.cell 5, h.cell 6, h.cell 7⟩
/-- An instruction lies in eight cells from there. -/
structure InAt (w : World) (g p : Nat) (x : Ii) (ia : Option Addr) (ic : Nat) : Prop where
  c0 : w.cell? ⟨g, p, none⟩ = some (.int .i64 x.op)
  c1 : w.cell? ⟨g, p + 1, none⟩ = some (.int .i64 x.dst)
  c2 : w.cell? ⟨g, p + 2, none⟩ = some (.int .i64 x.a)
  c3 : w.cell? ⟨g, p + 3, none⟩ = some (.int .i64 x.b)
  c4 : w.cell? ⟨g, p + 4, none⟩ = some (.int .i64 x.imm)
  c5 : w.cell? ⟨g, p + 5, none⟩ = some (.int .i64 x.callee)
  c6 : w.cell? ⟨g, p + 6, none⟩ = some (.slice ia x.args.length ic)
  c7 : w.cell? ⟨g, p + 7, none⟩ = some (.int .i64 x.many)
  nil : ia = none → ic = 0
  args : IntsW w ia x.args
def InsW (w : World) (a : Option Addr) (l : List Ii) : Prop := ∀ (k : Nat) (x : Ii), l[k]? = some x → ∃ g o ia ic, a = some ⟨g, o, none⟩ ∧ g < w.heap.size ∧ InAt w g (o + k * 8) x ia ic
/-- A block lies in five cells from there. -/
structure BlAt (w : World) (g p : Nat) (x : Bb) (ia : Option Addr) (ic : Nat) : Prop where
  c0 : w.cell? ⟨g, p, none⟩ = some (.slice ia x.ins.length ic)
  c1 : w.cell? ⟨g, p + 1, none⟩ = some (.int .i64 x.tm.kind)
  c2 : w.cell? ⟨g, p + 2, none⟩ = some (.int .i64 x.tm.a)
  c3 : w.cell? ⟨g, p + 3, none⟩ = some (.int .i64 x.tm.t0)
  c4 : w.cell? ⟨g, p + 4, none⟩ = some (.int .i64 x.tm.t1)
  nil : ia = none → ic = 0
  ins : InsW w ia x.ins
def BlsW (w : World) (a : Option Addr) (l : List Bb) : Prop := ∀ (k : Nat) (x : Bb), l[k]? = some x → ∃ g o ia ic, a = some ⟨g, o, none⟩ ∧ g < w.heap.size ∧ BlAt w g (o + k * 5) x ia ic
structure FnW (w : World) (f : Ff) (pa : Option Addr) (pc : Nat) (ba : Option Addr) (bc : Nat) : Prop where
  params : IntsW w pa f.params
  blocks : BlsW w ba f.blocks
  pn : pa = none → pc = 0
  bn : ba = none → bc = 0
structure SmallF (f : Ff) : Prop where
  p : f.params.length ≤ 1000000
  b : f.blocks.length ≤ 1000000
  i : ∀ x ∈ f.blocks, x.ins.length ≤ 1000000 ∧ ∀ i ∈ x.ins, i.args.length ≤ 1000000
def fnC (f : Ff) (pa : Option Addr) (pc : Nat) (ba : Option Addr) (bc : Nat) : Array Value := #[.slice pa f.params.length pc, .slice ba f.blocks.length bc]
def fnV (f : Ff) (pa : Option Addr) (pc : Nat) (ba : Option Addr) (bc : Nat) : Value := .agg (fnC f pa pc ba bc)
def blC (x : Bb) (ia : Option Addr) (ic : Nat) : Array Value := #[.slice ia x.ins.length ic, .int .i64 x.tm.kind, .int .i64 x.tm.a, .int .i64 x.tm.t0, .int .i64 x.tm.t1]
def blV (x : Bb) (ia : Option Addr) (ic : Nat) : Value := .agg (blC x ia ic)
theorem InAt.below {w w' : World} {g p : Nat} {x : Ii} {ia : Option Addr} {ic : Nat} (h : InAt w g p x ia ic) (hg : g < w.heap.size) (hb : Below w.heap.size w w') : InAt w' g p x ia ic :=
  ⟨(hb.cell hg).trans h.c0, (hb.cell hg).trans h.c1, (hb.cell hg).trans h.c2, (hb.cell hg).trans h.c3, (hb.cell hg).trans h.c4, (hb.cell hg).trans h.c5, (hb.cell hg).trans h.c6, (hb.cell hg).trans h.c7, h.nil, h.args.below hb⟩
theorem InsW.below {w w' : World} {a : Option Addr} {l : List Ii} (h : InsW w a l) (hb : Below w.heap.size w w') : InsW w' a l := fun k x hx => by
  obtain ⟨g, o, ia, ic, ha, hg, hc⟩ := h k x hx
  exact ⟨g, o, ia, ic, ha, Nat.lt_of_lt_of_le hg hb.size, hc.below hg hb⟩
theorem BlAt.below {w w' : World} {g p : Nat} {x : Bb} {ia : Option Addr} {ic : Nat} (h : BlAt w g p x ia ic) (hg : g < w.heap.size) (hb : Below w.heap.size w w') : BlAt w' g p x ia ic :=
  ⟨(hb.cell hg).trans h.c0, (hb.cell hg).trans h.c1, (hb.cell hg).trans h.c2, (hb.cell hg).trans h.c3, (hb.cell hg).trans h.c4, h.nil, h.ins.below hb⟩
theorem BlsW.below {w w' : World} {a : Option Addr} {l : List Bb} (h : BlsW w a l) (hb : Below w.heap.size w w') : BlsW w' a l := fun k x hx => by
  obtain ⟨g, o, ia, ic, ha, hg, hc⟩ := h k x hx
  exact ⟨g, o, ia, ic, ha, Nat.lt_of_lt_of_le hg hb.size, hc.below hg hb⟩
theorem FnW.below {w w' : World} {f : Ff} {pa : Option Addr} {pc : Nat} {ba : Option Addr} {bc : Nat} (h : FnW w f pa pc ba bc) (hb : Below w.heap.size w w') : FnW w' f pa pc ba bc := ⟨h.params.below hb, h.blocks.below hb, h.pn, h.bn⟩
theorem box5 {W : World} {g : Nat} {t : TypeId} {x : Bb} {ia : Option Addr} {ic : Nat} (h : Blk W g t (blC x ia ic)) :
    W.cell? ⟨g, 0, none⟩ = some (.slice ia x.ins.length ic) ∧ W.cell? ⟨g, 1, none⟩ = some (.int .i64 x.tm.kind) ∧ W.cell? ⟨g, 2, none⟩ = some (.int .i64 x.tm.a) ∧ W.cell? ⟨g, 3, none⟩ = some (.int .i64 x.tm.t0) ∧ W.cell? ⟨g, 4, none⟩ = some (.int .i64 x.tm.t1) :=
  ⟨h.cell 0, h.cell 1, h.cell 2, h.cell 3, h.cell 4⟩
theorem box2 {W : World} {g : Nat} {t : TypeId} {f : Ff} {pa : Option Addr} {pc : Nat} {ba : Option Addr} {bc : Nat} (h : Blk W g t (fnC f pa pc ba bc)) :
    W.cell? ⟨g, 0, none⟩ = some (.slice pa f.params.length pc) ∧ W.cell? ⟨g, 1, none⟩ = some (.slice ba f.blocks.length bc) := ⟨h.cell 0, h.cell 1⟩
end Go.Proofs.YtbckkmicdpjnaaaDoor
