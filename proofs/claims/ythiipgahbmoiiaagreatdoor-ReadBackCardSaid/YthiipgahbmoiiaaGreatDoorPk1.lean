/-
  Small laws: a block of memory that is known whole, what a call may have turned, rows that are owned, and a rune's width. No condition beyond those that each theorem states.
  How rows of numbers lie in memory. No condition beyond those that each theorem states.
  Instructions, ends, blocks, functions as plain data, and how they lie in memory. No condition beyond those that each theorem states.
-/
import Derived.WalkKit
import Derived.Below
import Derived.Laws.OwnMore
import Derived.Deep.Draws
import Derived.Laws.Rows
import Derived.OwnWalk
import Derived.Lib.DecodeN
import Derived.Test.YthiipgahbmoiiaaGreatDoorProg
import Derived.Deep.AppendLies
import Derived.Lib.Hide
namespace Go.Proofs.YthiipgahbmoiiaaGreatDoor
open Go.RowKit

theorem res4 {fn : Func} {t u v x : Tmp} (h : fn.results = #[.tmp t, .tmp u, .tmp v, .tmp x]) (tmps : Array Value) (P : Program) (w : World) :
    (results fn tmps).run P w = .ok (.tuple #[tmps.getD t undef, tmps.getD u undef, tmps.getD v undef, tmps.getD x undef]) w := by simp [results, h]
theorem iter_pos {w : World} {k : Nat} {s : ByteArray} {p : Nat} (h : w.heap[k]? = some (.stringIter s p)) : w.iterPos k = p := by simp [World.iterPos, h]
theorem wide_pos (s : ByteArray) (pos : Nat) (h : pos < s.size) : 1 ≤ (Utf8.decode s pos).2 := by
  by_cases ha : (s[pos]'h).toNat < 128
  · rw [decode_ascii s pos h ha]
    exact Nat.le_refl _
  · exact (decode_high s pos h (by omega)).2
theorem wide_le (s : ByteArray) (pos : Nat) (h : pos < s.size) : pos + (Utf8.decode s pos).2 ≤ s.size := by
  rw [Lib.decode_at]
  generalize (s.get! pos).toNat = b0 at *
  generalize (s.get! (pos + 1)).toNat = b1 at *
  generalize (s.get! (pos + 2)).toNat = b2 at *
  generalize (s.get! (pos + 3)).toNat = b3 at *
  unfold Lib.decodeN
  repeat' split
  all_goals simp only
  all_goals omega
theorem rune_max (s : ByteArray) (pos : Nat) : (Utf8.decode s pos).1 ≤ 1114111 := by
  have h0 := (s.get! pos).toNat_lt
  have h1 := (s.get! (pos + 1)).toNat_lt
  have h2 := (s.get! (pos + 2)).toNat_lt
  have h3 := (s.get! (pos + 3)).toNat_lt
  rw [Lib.decode_at]
  generalize (s.get! pos).toNat = b0 at *
  generalize (s.get! (pos + 1)).toNat = b1 at *
  generalize (s.get! (pos + 2)).toNat = b2 at *
  generalize (s.get! (pos + 3)).toNat = b3 at *
  unfold Lib.decodeN
  repeat' split
  all_goals simp only
  all_goals omega

/-- Block g holds just these cells of that type, and none of them is frozen. -/
def Blk (w : World) (g : Nat) (t : TypeId) (cs : Array Value) : Prop := w.heap[g]? = some (.cells cs t (0, 0))

theorem below_draws {B : Nat} {a w : World} (h : Below B a w) (n : Nat) : Below B a (w.drewN n) := ⟨h.os, h.tape, h.output, h.size, h.block⟩
/-- Only block g, and blocks from b on, may have turned. -/
structure Keep (b g : Nat) (w w' : World) : Prop where
  os : w'.os = w.os
  tape : w'.tape = w.tape
  output : w'.output = w.output
  size : w.heap.size ≤ w'.heap.size
  block : ∀ k, k < b → k ≠ g → w'.heap[k]? = w.heap[k]?

section
variable {w w' : World} {g b : Nat} {t : TypeId} {cs : Array Value}
theorem Blk.lt (h : Blk w g t cs) : g < w.heap.size := (Array.getElem?_eq_some_iff.1 h).1
theorem Blk.cell (h : Blk w g t cs) (i : Nat) : w.cell? ⟨g, i, none⟩ = cs[i]? := cell_of_row w g i cs t (0, 0) h
theorem Blk.free (h : Blk w g t cs) (i : Nat) : w.frozen? ⟨g, i, none⟩ = false := by
  unfold Blk at h
  simp [World.frozen?, h]
theorem Blk.new (w : World) (t : TypeId) (cs : Array Value) : Blk (w.alloc (.cells cs t)) w.heap.size t cs := heap_alloc_new w _
theorem Blk.alloc (h : Blk w g t cs) (o : Obj) : Blk (w.alloc o) g t cs := (Below.heap_alloc w o g h.lt).trans h
theorem Blk.put (h : Blk w g t cs) (i : Nat) (u : Value) : Blk (w.setCell ⟨g, i, none⟩ u) g t (cs.setIfInBounds i u) := by
  unfold Blk at h ⊢
  simp [World.setCell, Array.getElem?_modify, h]
theorem Blk.far (h : Blk w g t cs) {p : Addr} (hp : g ≠ p.block) (u : Value) : Blk (w.setCell p u) g t cs := (Below.heap_setCell w p u g hp).trans h
theorem Blk.drewN (h : Blk w g t cs) (n : Nat) : Blk (w.drewN n) g t cs := h
theorem Blk.drew (h : Blk w g t cs) : Blk w.drew g t cs := h
theorem Blk.grown {row : Option Nat} (h : Blk w g t cs) (hb : w.grownBy w' row) (hg : some g ≠ row) : Blk w' g t cs := (hb.block g h.lt hg).trans h
theorem Blk.below (h : Blk w g t cs) (hb : Below b w w') (hg : g < b) : Blk w' g t cs := (hb.block g hg).trans h

theorem Keep.refl (b g : Nat) (w : World) : Keep b g w w := ⟨rfl, rfl, rfl, Nat.le_refl _, fun _ _ _ => rfl⟩
theorem Keep.trans {w1 : World} (h : Keep b g w w1) (k : Keep b g w1 w') : Keep b g w w' :=
  ⟨k.os.trans h.os, k.tape.trans h.tape, k.output.trans h.output, Nat.le_trans h.size k.size, fun i hi hg => (k.block i hi hg).trans (h.block i hi hg)⟩
theorem Keep.put (b g : Nat) (w : World) (i : Nat) (u : Value) : Keep b g w (w.setCell ⟨g, i, none⟩ u) :=
  ⟨rfl, rfl, rfl, by simp [World.setCell], fun _ _ hk => Below.heap_setCell w _ u _ hk⟩
theorem Keep.alloc (hb : b ≤ w.heap.size) (g : Nat) (o : Obj) : Keep b g w (w.alloc o) :=
  ⟨rfl, rfl, rfl, by simp, fun _ hk _ => Below.heap_alloc w o _ (by omega)⟩
theorem Keep.drewN (b g : Nat) (w : World) (n : Nat) : Keep b g w (w.drewN n) := ⟨rfl, rfl, rfl, Nat.le_refl _, fun _ _ _ => rfl⟩
theorem Keep.drew (b g : Nat) (w : World) : Keep b g w w.drew := ⟨rfl, rfl, rfl, Nat.le_refl _, fun _ _ _ => rfl⟩
theorem Keep.grown {row : Option Nat} (hg : w.grownBy w' row) (hb : b ≤ w.heap.size) (hr : ∀ k, row = some k → b ≤ k) (g : Nat) : Keep b g w w' :=
  ⟨hg.os, hg.tape, hg.output, hg.size, fun k hk _ => hg.block k (by omega) (fun e => by have := hr k e.symm; omega)⟩
theorem Keep.of_below (h : Below b w w') (g : Nat) : Keep b g w w' := ⟨h.os, h.tape, h.output, h.size, fun k hk _ => h.block k hk⟩
/-- Nothing below B has turned, if what may turn lies from B on. -/
theorem Keep.below {B : Nat} (h : Keep b g w w') (hB : B ≤ b) (hg : B ≤ g) : Below B w w' := ⟨h.os, h.tape, h.output, h.size, fun k hk => h.block k (by omega) (by omega)⟩

/-- What lies at two types lies in two blocks. -/
theorem own_far {base : Nat} {e : TypeId} {size n : Nat} {v : Value} {xs : List Value} (h : w.ownsRow base e size v n xs) (hg : Blk w g t cs) (hne : e ≠ t) : some g ≠ v.ownBlock := by
  rcases h.2 with ⟨rfl, _⟩ | ⟨g', cap, cur, rfl, _, hh, _⟩
  · simp [Value.ownBlock]
  · intro he
    simp [Value.ownBlock] at he
    subst he
    unfold Blk at hg
    rw [hg] at hh
    injection hh with hh
    injection hh with _ ht
    exact hne ht.symm
theorem own_put {base : Nat} {e : TypeId} {size n : Nat} {v : Value} {xs : List Value} (h : w.ownsRow base e size v n xs) {p : Addr} (hp : some p.block ≠ v.ownBlock) (u : Value) : (w.setCell p u).ownsRow base e size v n xs := by
  obtain ⟨h1, h2⟩ := h
  refine ⟨h1, ?_⟩
  rcases h2 with h2 | ⟨g, cap, cur, rfl, hg, hh, r⟩
  · exact .inl h2
  · exact .inr ⟨g, cap, cur, rfl, hg, by rw [Below.heap_setCell _ _ _ _ (fun e => hp (by simp [Value.ownBlock, e]))]; exact hh, r⟩
theorem own_base {base base' : Nat} {e : TypeId} {size n : Nat} {v : Value} {xs : List Value} (h : w.ownsRow base e size v n xs) (hb : base' ≤ base) : w.ownsRow base' e size v n xs := by
  obtain ⟨h1, h2⟩ := h
  refine ⟨h1, ?_⟩
  rcases h2 with h2 | ⟨g, cap, cur, hv, hg, r⟩
  · exact .inl h2
  · exact .inr ⟨g, cap, cur, hv, by omega, r⟩
theorem own_keep {b' : Nat} {e : TypeId} {size n : Nat} {v : Value} {xs : List Value} (h : w.ownsRow b' e size v n xs) (hk : w.heap.size ≤ w'.heap.size ∧ ∀ k, b' ≤ k → k < w.heap.size → w'.heap[k]? = w.heap[k]?) : w'.ownsRow b' e size v n xs := by
  obtain ⟨h1, h2⟩ := h
  refine ⟨h1, ?_⟩
  rcases h2 with h2 | ⟨g, cap, cur, hv, hg, hh, r⟩
  · exact .inl h2
  · exact .inr ⟨g, cap, cur, hv, hg, by rw [hk.2 g hg (Array.getElem?_eq_some_iff.1 hh).1]; exact hh, r⟩
theorem own_shape {base : Nat} {e : TypeId} {size n : Nat} {v : Value} {xs : List Value} (h : w.ownsRow base e size v n xs) : ∃ a c, v = .slice a n c := by
  rcases h.2 with ⟨rfl, rfl⟩ | ⟨g', cap, cur, rfl, _⟩
  · exact ⟨none, 0, rfl⟩
  · exact ⟨some ⟨g', 0, none⟩, cap, rfl⟩
theorem own_drewN {base : Nat} {e : TypeId} {size n : Nat} {v : Value} {xs : List Value} (h : w.ownsRow base e size v n xs) (k : Nat) : (w.drewN k).ownsRow base e size v n xs := h
end
end Go.Proofs.YthiipgahbmoiiaaGreatDoor
namespace Go.Proofs.YthiipgahbmoiiaaGreatDoor
open Go.RowKit

/-- Numbers lie in a row from there. -/
def IntsW (w : World) (a : Option Addr) (l : List Int) : Prop := ∀ k x, l[k]? = some x → ∃ g o, a = some ⟨g, o, none⟩ ∧ g < w.heap.size ∧ w.cell? ⟨g, o + k, none⟩ = some (.int .i64 x)
theorem IntsW.below {w w' : World} {a : Option Addr} {l : List Int} (h : IntsW w a l) (hb : Below w.heap.size w w') : IntsW w' a l := fun k x hx => by
  obtain ⟨g, o, ha, hg, h0⟩ := h k x hx
  exact ⟨g, o, ha, Nat.lt_of_lt_of_le hg hb.size, (hb.cell hg).trans h0⟩
theorem IntsW.nil (w : World) (a : Option Addr) : IntsW w a [] := fun k x hx => by simp at hx
/-- A new block of numbers. -/
theorem IntsW.row {w : World} {g : Nat} {t : TypeId} {cs : Array Value} {l : List Int} (h : Blk w g t cs) (hc : ∀ (k : Nat) (x : Int), l[k]? = some x → cs[k]? = some (Value.int .i64 x)) : IntsW w (some ⟨g, 0, none⟩) l := fun k x hx => by
  refine ⟨g, 0, rfl, h.lt, ?_⟩
  rw [Nat.zero_add, h.cell]
  exact hc k x hx
theorem IntsW.own {w : World} {B : Nat} {t : TypeId} {a : Option Addr} {c n : Nat} {l : List Int} (h : w.ownsRow B t 1 (.slice a n c) n (l.map (Value.int .i64))) : IntsW w a l := fun k x hx => by
  have hn : n = l.length := by have := h.1; simpa using this.symm
  have hk := (List.getElem?_eq_some_iff.1 hx).1
  obtain ⟨g, cap, hv, _, hlt⟩ := h.form (by omega)
  injection hv with ha
  subst ha
  refine ⟨g, 0, rfl, hlt, ?_⟩
  have h2 := h.cells (g := g) rfl k (Value.int .i64 x) (by rw [List.getElem?_map, hx]; rfl)
  have e : (⟨g, 0, none⟩ : Addr).add k = ⟨g, 0 + k, none⟩ := by
    unfold Addr.add
    split <;> simp_all
  rw [e] at h2
  exact h2
end Go.Proofs.YthiipgahbmoiiaaGreatDoor
namespace Go.Proofs.YthiipgahbmoiiaaGreatDoor
open Go.RowKit

/-- An instruction. -/
structure Ii where
  op : Int
  dst : Int
  a : Int
  b : Int
  imm : Int
  callee : Int
  args : List Int
  many : Int
/-- An end. -/
structure Tt where
  kind : Int
  a : Int
  t0 : Int
  t1 : Int
/-- A block. -/
structure Bb where
  ins : List Ii
  tm : Tt
/-- A function. -/
structure Ff where
  params : List Int
  blocks : List Bb

/-- An instruction, its arguments' row from there, of that room. -/
def insV (x : Ii) (a : Option Addr) (c : Nat) : Value := .agg #[.int .i64 x.op, .int .i64 x.dst, .int .i64 x.a, .int .i64 x.b, .int .i64 x.imm, .int .i64 x.callee, .slice a x.args.length c, .int .i64 x.many]
def termV (t : Tt) : Value := .agg #[.int .i64 t.kind, .int .i64 t.a, .int .i64 t.t0, .int .i64 t.t1]
/-- An instruction's cells. -/
def insC (x : Ii) (a : Option Addr) (c : Nat) : Array Value := #[.int .i64 x.op, .int .i64 x.dst, .int .i64 x.a, .int .i64 x.b, .int .i64 x.imm, .int .i64 x.callee, .slice a x.args.length c, .int .i64 x.many]
theorem box8 {W : World} {g : Nat} {t : TypeId} {x : Ii} {a : Option Addr} {c : Nat} (h : Blk W g t (insC x a c)) :
    W.cell? ⟨g, 0, none⟩ = some (.int .i64 x.op) ∧ W.cell? ⟨g, 1, none⟩ = some (.int .i64 x.dst) ∧ W.cell? ⟨g, 2, none⟩ = some (.int .i64 x.a) ∧ W.cell? ⟨g, 3, none⟩ = some (.int .i64 x.b) ∧
    W.cell? ⟨g, 4, none⟩ = some (.int .i64 x.imm) ∧ W.cell? ⟨g, 5, none⟩ = some (.int .i64 x.callee) ∧ W.cell? ⟨g, 6, none⟩ = some (.slice a x.args.length c) ∧ W.cell? ⟨g, 7, none⟩ = some (.int .i64 x.many) :=
  ⟨h.cell 0, h.cell 1, h.cell 2, h.cell 3, h.cell 4, h.cell 5, h.cell 6, h.cell 7⟩
/-- An instruction lies in eight cells from there. -/
structure InAt (w : World) (g p : Nat) (x : Ii) (ia : Option Addr) (ic : Nat) : Prop where
  c0 : w.cell? ⟨g, p, none⟩ = some (.int .i64 x.op)
  c1 : w.cell? ⟨g, p + 1, none⟩ = some (.int .i64 x.dst)
  c2 : w.cell? ⟨g, p + 2, none⟩ = some (.int .i64 x.a)
  c3 : w.cell? ⟨g, p + 3, none⟩ = some (.int .i64 x.b)
  c4 : w.cell? ⟨g, p + 4, none⟩ = some (.int .i64 x.imm)
  c5 : w.cell? ⟨g, p + 5, none⟩ = some (.int .i64 x.callee)
  c6 : w.cell? ⟨g, p + 6, none⟩ = some (.slice ia x.args.length ic)
  c7 : w.cell? ⟨g, p + 7, none⟩ = some (.int .i64 x.many)
  nil : ia = none → ic = 0
  args : IntsW w ia x.args
def InsW (w : World) (a : Option Addr) (l : List Ii) : Prop := ∀ (k : Nat) (x : Ii), l[k]? = some x → ∃ g o ia ic, a = some ⟨g, o, none⟩ ∧ g < w.heap.size ∧ InAt w g (o + k * 8) x ia ic
/-- A block lies in five cells from there. -/
structure BlAt (w : World) (g p : Nat) (x : Bb) (ia : Option Addr) (ic : Nat) : Prop where
  c0 : w.cell? ⟨g, p, none⟩ = some (.slice ia x.ins.length ic)
  c1 : w.cell? ⟨g, p + 1, none⟩ = some (.int .i64 x.tm.kind)
  c2 : w.cell? ⟨g, p + 2, none⟩ = some (.int .i64 x.tm.a)
  c3 : w.cell? ⟨g, p + 3, none⟩ = some (.int .i64 x.tm.t0)
  c4 : w.cell? ⟨g, p + 4, none⟩ = some (.int .i64 x.tm.t1)
  nil : ia = none → ic = 0
  ins : InsW w ia x.ins
def BlsW (w : World) (a : Option Addr) (l : List Bb) : Prop := ∀ (k : Nat) (x : Bb), l[k]? = some x → ∃ g o ia ic, a = some ⟨g, o, none⟩ ∧ g < w.heap.size ∧ BlAt w g (o + k * 5) x ia ic
structure FnW (w : World) (f : Ff) (pa : Option Addr) (pc : Nat) (ba : Option Addr) (bc : Nat) : Prop where
  params : IntsW w pa f.params
  blocks : BlsW w ba f.blocks
  pn : pa = none → pc = 0
  bn : ba = none → bc = 0
structure SmallF (f : Ff) : Prop where
  p : f.params.length ≤ 1000000
  b : f.blocks.length ≤ 1000000
  i : ∀ x ∈ f.blocks, x.ins.length ≤ 1000000 ∧ ∀ i ∈ x.ins, i.args.length ≤ 1000000
def fnC (f : Ff) (pa : Option Addr) (pc : Nat) (ba : Option Addr) (bc : Nat) : Array Value := #[.slice pa f.params.length pc, .slice ba f.blocks.length bc]
def fnV (f : Ff) (pa : Option Addr) (pc : Nat) (ba : Option Addr) (bc : Nat) : Value := .agg (fnC f pa pc ba bc)
def blC (x : Bb) (ia : Option Addr) (ic : Nat) : Array Value := #[.slice ia x.ins.length ic, .int .i64 x.tm.kind, .int .i64 x.tm.a, .int .i64 x.tm.t0, .int .i64 x.tm.t1]
def blV (x : Bb) (ia : Option Addr) (ic : Nat) : Value := .agg (blC x ia ic)
theorem InAt.below {w w' : World} {g p : Nat} {x : Ii} {ia : Option Addr} {ic : Nat} (h : InAt w g p x ia ic) (hg : g < w.heap.size) (hb : Below w.heap.size w w') : InAt w' g p x ia ic :=
  ⟨(hb.cell hg).trans h.c0, (hb.cell hg).trans h.c1, (hb.cell hg).trans h.c2, (hb.cell hg).trans h.c3, (hb.cell hg).trans h.c4, (hb.cell hg).trans h.c5, (hb.cell hg).trans h.c6, (hb.cell hg).trans h.c7, h.nil, h.args.below hb⟩
theorem InsW.below {w w' : World} {a : Option Addr} {l : List Ii} (h : InsW w a l) (hb : Below w.heap.size w w') : InsW w' a l := fun k x hx => by
  obtain ⟨g, o, ia, ic, ha, hg, hc⟩ := h k x hx
  exact ⟨g, o, ia, ic, ha, Nat.lt_of_lt_of_le hg hb.size, hc.below hg hb⟩
theorem BlAt.below {w w' : World} {g p : Nat} {x : Bb} {ia : Option Addr} {ic : Nat} (h : BlAt w g p x ia ic) (hg : g < w.heap.size) (hb : Below w.heap.size w w') : BlAt w' g p x ia ic :=
  ⟨(hb.cell hg).trans h.c0, (hb.cell hg).trans h.c1, (hb.cell hg).trans h.c2, (hb.cell hg).trans h.c3, (hb.cell hg).trans h.c4, h.nil, h.ins.below hb⟩
theorem BlsW.below {w w' : World} {a : Option Addr} {l : List Bb} (h : BlsW w a l) (hb : Below w.heap.size w w') : BlsW w' a l := fun k x hx => by
  obtain ⟨g, o, ia, ic, ha, hg, hc⟩ := h k x hx
  exact ⟨g, o, ia, ic, ha, Nat.lt_of_lt_of_le hg hb.size, hc.below hg hb⟩
theorem FnW.below {w w' : World} {f : Ff} {pa : Option Addr} {pc : Nat} {ba : Option Addr} {bc : Nat} (h : FnW w f pa pc ba bc) (hb : Below w.heap.size w w') : FnW w' f pa pc ba bc := ⟨h.params.below hb, h.blocks.below hb, h.pn, h.bn⟩
theorem box5 {W : World} {g : Nat} {t : TypeId} {x : Bb} {ia : Option Addr} {ic : Nat} (h : Blk W g t (blC x ia ic)) :
    W.cell? ⟨g, 0, none⟩ = some (.slice ia x.ins.length ic) ∧ W.cell? ⟨g, 1, none⟩ = some (.int .i64 x.tm.kind) ∧ W.cell? ⟨g, 2, none⟩ = some (.int .i64 x.tm.a) ∧ W.cell? ⟨g, 3, none⟩ = some (.int .i64 x.tm.t0) ∧ W.cell? ⟨g, 4, none⟩ = some (.int .i64 x.tm.t1) :=
  ⟨h.cell 0, h.cell 1, h.cell 2, h.cell 3, h.cell 4⟩
theorem box2 {W : World} {g : Nat} {t : TypeId} {f : Ff} {pa : Option Addr} {pc : Nat} {ba : Option Addr} {bc : Nat} (h : Blk W g t (fnC f pa pc ba bc)) :
    W.cell? ⟨g, 0, none⟩ = some (.slice pa f.params.length pc) ∧ W.cell? ⟨g, 1, none⟩ = some (.slice ba f.blocks.length bc) := ⟨h.cell 0, h.cell 1⟩
end Go.Proofs.YthiipgahbmoiiaaGreatDoor
