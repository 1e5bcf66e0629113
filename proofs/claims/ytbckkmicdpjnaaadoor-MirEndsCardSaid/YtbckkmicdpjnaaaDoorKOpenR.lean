/-
  Instructions, ends, blocks that come in as arguments: their cells, and that nothing in them is beyond the reach. No condition beyond those that each theorem states.
-/
import Derived.Test.YtbckkmicdpjnaaaDoorKRec
import Derived.Test.YtbckkmicdpjnaaaDoorKOpen
import Derived.Deep.Fields
import Derived.ChangeSame
import Derived.OpenShut
import Derived.SizedLaws
namespace Go.Proofs.YtbckkmicdpjnaaaDoor
open Go.ChangeShapes Go.WideShapes Go.Deep Go.RowKit

section
variable {H : Type} {enc : TypeId × Value → H} {w : World} {base : Nat} {spare : Nat → Bool} {held : Bool} {fuel : Nat} {cs : List Value} {x : DataW H × List MemPlace}
/-- One instruction. -/
structure InC (w : World) (y : Ii) (cs : List Value) (ia : Option Addr) (ic : Nat) : Prop where
  cells : cs = [.int .i64 y.op, .int .i64 y.dst, .int .i64 y.a, .int .i64 y.b, .int .i64 y.imm, .int .i64 y.callee, .slice ia y.args.length ic, .int .i64 y.many]
  nil : ia = none → ic = 0
  args : IntsW w ia y.args
theorem ins_cells : Tryd.prog.cellsOf 31 = 8 := by kernel_rfl
set_option maxRecDepth 100000 in
theorem open_one_ins (h : DataW.trod enc Tryd.prog w base spare held fuel 31 cs = some x) (hw : LightW 31 x.1) : ∃ y : Ii, (∃ ia ic, InC w y cs ia ic) ∧ y.args.length ≤ 140737488355328 := by
  obtain ⟨xs, n, _, hx, hcl, hlen, hf⟩ := DataW.trod_struct Tryd.underlying31 h
  rw [ins_cells] at hcl
  match cs, hcl with
  | [c0, c1, c2, c3, c4, c5, c6, c7], _ =>
    match xs, hlen with
    | [y0, y1, y2, y3, y4, y5, y6, y7], _ =>
      have g0 : DataW.trod enc Tryd.prog w base spare held n 29 (([c0, c1, c2, c3, c4, c5, c6, c7].drop 0).take (Tryd.prog.cellsOf 29)) = some y0 := hf 0 _ rfl
      rw [show Tryd.prog.cellsOf 29 = 1 by kernel_rfl] at g0
      have g1 : DataW.trod enc Tryd.prog w base spare held n 3 (([c0, c1, c2, c3, c4, c5, c6, c7].drop 1).take (Tryd.prog.cellsOf 3)) = some y1 := hf 1 _ rfl
      rw [show Tryd.prog.cellsOf 3 = 1 by kernel_rfl] at g1
      have g2 : DataW.trod enc Tryd.prog w base spare held n 3 (([c0, c1, c2, c3, c4, c5, c6, c7].drop 2).take (Tryd.prog.cellsOf 3)) = some y2 := hf 2 _ rfl
      rw [show Tryd.prog.cellsOf 3 = 1 by kernel_rfl] at g2
      have g3 : DataW.trod enc Tryd.prog w base spare held n 3 (([c0, c1, c2, c3, c4, c5, c6, c7].drop 3).take (Tryd.prog.cellsOf 3)) = some y3 := hf 3 _ rfl
      rw [show Tryd.prog.cellsOf 3 = 1 by kernel_rfl] at g3
      have g4 : DataW.trod enc Tryd.prog w base spare held n 3 (([c0, c1, c2, c3, c4, c5, c6, c7].drop 4).take (Tryd.prog.cellsOf 3)) = some y4 := hf 4 _ rfl
      rw [show Tryd.prog.cellsOf 3 = 1 by kernel_rfl] at g4
      have g5 : DataW.trod enc Tryd.prog w base spare held n 3 (([c0, c1, c2, c3, c4, c5, c6, c7].drop 5).take (Tryd.prog.cellsOf 3)) = some y5 := hf 5 _ rfl
      rw [show Tryd.prog.cellsOf 3 = 1 by kernel_rfl] at g5
      have g6 : DataW.trod enc Tryd.prog w base spare held n 22 (([c0, c1, c2, c3, c4, c5, c6, c7].drop 6).take (Tryd.prog.cellsOf 22)) = some y6 := hf 6 _ rfl
      rw [show Tryd.prog.cellsOf 22 = 1 by kernel_rfl] at g6
      have g7 : DataW.trod enc Tryd.prog w base spare held n 3 (([c0, c1, c2, c3, c4, c5, c6, c7].drop 7).take (Tryd.prog.cellsOf 3)) = some y7 := hf 7 _ rfl
      rw [show Tryd.prog.cellsOf 3 = 1 by kernel_rfl] at g7
      obtain ⟨m0, rfl⟩ := open_int1 Tryd.underlying29 g0
      obtain ⟨m1, rfl⟩ := open_int1 Tryd.underlying3 g1
      obtain ⟨m2, rfl⟩ := open_int1 Tryd.underlying3 g2
      obtain ⟨m3, rfl⟩ := open_int1 Tryd.underlying3 g3
      obtain ⟨m4, rfl⟩ := open_int1 Tryd.underlying3 g4
      obtain ⟨m5, rfl⟩ := open_int1 Tryd.underlying3 g5
      obtain ⟨m7, rfl⟩ := open_int1 Tryd.underlying3 g7
      have hw6 : LightW 22 y6.1 := fun k hk => hw k (by
        rw [hx]
        simp only [DataW.weights, Tryd.underlying31, List.map_cons, List.map_nil, DataW.weightsEach, List.mem_append]
        simp [hk])
      obtain ⟨ia, ic, l, e1, e2, e3, e4⟩ := open_intsW g6 hw6
      have e1 : [c6] = _ := e1
      simp only [List.cons.injEq, and_true] at e1
      exact ⟨⟨m0, m1, m2, m3, m4, m5, l, m7⟩, ⟨ia, ic, by rw [e1], e2, e4⟩, e3⟩
def noI : Ii := ⟨0, 0, 0, 0, 0, 0, [], 0⟩
theorem open_insW (h : DataW.trod enc Tryd.prog w base spare held fuel 32 cs = some x) (hw : LightW 32 x.1) :
    ∃ (a : Option Addr) (c : Nat) (l : List Ii), cs = [.slice a l.length c] ∧ (a = none → c = 0) ∧ l.length ≤ 140737488355328 ∧ (∀ i ∈ l, i.args.length ≤ 140737488355328) ∧ InsW w a l := by
  obtain ⟨a, c, l, h1, h2, h3, h4, h5⟩ := open_rowG (R := fun (z : Ii) cs => ∃ ia ic, InC w z cs ia ic) (C := fun z => z.args.length ≤ 140737488355328) noI (sz := 8) Tryd.underlying32 ins_cells (by omega) (by decide +kernel) (fun fuel cs y hy hl => open_one_ins hy hl) h hw
  refine ⟨a, c, l, h1, h2, h3, h4, fun k z hz => ?_⟩
  obtain ⟨g, o, cs', e1, e2, ⟨ia, ic, e3⟩, e4⟩ := h5 k z hz
  have hc := e3.cells
  subst hc
  have q0 := e4 0 _ (by omega) rfl
  have q1 := e4 1 _ (by omega) rfl
  have q2 := e4 2 _ (by omega) rfl
  have q3 := e4 3 _ (by omega) rfl
  have q4 := e4 4 _ (by omega) rfl
  have q5 := e4 5 _ (by omega) rfl
  have q6 := e4 6 _ (by omega) rfl
  have q7 := e4 7 _ (by omega) rfl
  simp only [← Nat.add_assoc] at q0 q1 q2 q3 q4 q5 q6 q7
  exact ⟨g, o, ia, ic, e1, e2, ⟨q0, q1, q2, q3, q4, q5, q6, q7, e3.nil, e3.args⟩⟩
/-- One block. -/
structure BlC (w : World) (y : Bb) (cs : List Value) (ia : Option Addr) (ic : Nat) : Prop where
  cells : cs = [.slice ia y.ins.length ic, .int .i64 y.tm.kind, .int .i64 y.tm.a, .int .i64 y.tm.t0, .int .i64 y.tm.t1]
  nil : ia = none → ic = 0
  ins : InsW w ia y.ins
theorem block_cells : Tryd.prog.cellsOf 34 = 5 := by kernel_rfl
theorem term_cells : Tryd.prog.cellsOf 28 = 4 := by kernel_rfl
theorem arr_cells : Tryd.prog.cellsOf 26 = 2 := by kernel_rfl
theorem row_cells : Tryd.prog.cellsOf 32 = 1 := by kernel_rfl
theorem rowI_cells : Tryd.prog.cellsOf 22 = 1 := by kernel_rfl
theorem rowB_cells : Tryd.prog.cellsOf 35 = 1 := by kernel_rfl
theorem int_cells : Tryd.prog.cellsOf 3 = 1 := by kernel_rfl
theorem kind_cells : Tryd.prog.cellsOf 25 = 1 := by kernel_rfl
set_option maxRecDepth 100000 in
theorem open_term (h : DataW.trod enc Tryd.prog w base spare held fuel 28 cs = some x) : ∃ t : Tt, cs = [.int .i64 t.kind, .int .i64 t.a, .int .i64 t.t0, .int .i64 t.t1] := by
  obtain ⟨xs, n, _, hx, hcl, hlen, hf⟩ := DataW.trod_struct Tryd.underlying28 h
  rw [term_cells] at hcl
  match cs, hcl with
  | [c0, c1, c2, c3], _ =>
    match xs, hlen with
    | [y0, y1, y2], _ =>
      have g0 : DataW.trod enc Tryd.prog w base spare held n 25 (([c0, c1, c2, c3].drop 0).take (Tryd.prog.cellsOf 25)) = some y0 := hf 0 _ rfl
      rw [kind_cells] at g0
      have g1 : DataW.trod enc Tryd.prog w base spare held n 3 (([c0, c1, c2, c3].drop 1).take (Tryd.prog.cellsOf 3)) = some y1 := hf 1 _ rfl
      rw [int_cells] at g1
      have g2 : DataW.trod enc Tryd.prog w base spare held n 26 (([c0, c1, c2, c3].drop 2).take (Tryd.prog.cellsOf 26)) = some y2 := hf 2 _ rfl
      rw [arr_cells] at g2
      obtain ⟨m0, rfl⟩ := open_int1 Tryd.underlying25 g0
      obtain ⟨m1, rfl⟩ := open_int1 Tryd.underlying3 g1
      obtain ⟨zs, k, _, _, _, hzl, hz⟩ := DataW.trod_array Tryd.underlying26 g2
      match zs, hzl with
      | [z0, z1], _ =>
        have k0 := hz 0 (by omega)
        have k1 := hz 1 (by omega)
        rw [int_cells] at k0 k1
        obtain ⟨m2, rfl⟩ := open_int1 Tryd.underlying3 (c := c2) k0
        obtain ⟨m3, rfl⟩ := open_int1 Tryd.underlying3 (c := c3) k1
        exact ⟨⟨m0, m1, m2, m3⟩, rfl⟩
def BigB (y : Bb) : Prop := y.ins.length ≤ 140737488355328 ∧ ∀ i ∈ y.ins, i.args.length ≤ 140737488355328
set_option maxRecDepth 100000 in
theorem open_one_block (h : DataW.trod enc Tryd.prog w base spare held fuel 34 cs = some x) (hw : LightW 34 x.1) : ∃ y : Bb, (∃ ia ic, BlC w y cs ia ic) ∧ BigB y := by
  obtain ⟨xs, n, _, hx, hcl, hlen, hf⟩ := DataW.trod_struct Tryd.underlying34 h
  rw [block_cells] at hcl
  match cs, hcl with
  | [c0, c1, c2, c3, c4], _ =>
    match xs, hlen with
    | [y0, y1], _ =>
      have g0 : DataW.trod enc Tryd.prog w base spare held n 32 (([c0, c1, c2, c3, c4].drop 0).take (Tryd.prog.cellsOf 32)) = some y0 := hf 0 _ rfl
      rw [row_cells] at g0
      have g1 : DataW.trod enc Tryd.prog w base spare held n 28 (([c0, c1, c2, c3, c4].drop 1).take (Tryd.prog.cellsOf 28)) = some y1 := hf 1 _ rfl
      rw [term_cells] at g1
      have hw0 : LightW 32 y0.1 := fun k hk => hw k (by
        rw [hx]
        simp only [DataW.weights, Tryd.underlying34, List.map_cons, List.map_nil]
        simp [DataW.weightsEach, hk])
      obtain ⟨ia, ic, l, e1, e2, e3, e4, e5⟩ := open_insW g0 hw0
      obtain ⟨t, ht⟩ := open_term g1
      have e1 : [c0] = _ := e1
      have ht : [c1, c2, c3, c4] = _ := ht
      simp only [List.cons.injEq, and_true] at e1 ht
      obtain ⟨t0, t1, t2, t3⟩ := ht
      exact ⟨⟨l, t⟩, ⟨ia, ic, by rw [e1, t0, t1, t2, t3], e2, e5⟩, e3, e4⟩
def noB : Bb := ⟨[], ⟨0, 0, 0, 0⟩⟩
theorem open_blocksW (h : DataW.trod enc Tryd.prog w base spare held fuel 35 cs = some x) (hw : LightW 35 x.1) :
    ∃ (a : Option Addr) (c : Nat) (l : List Bb), cs = [.slice a l.length c] ∧ (a = none → c = 0) ∧ l.length ≤ 140737488355328 ∧ (∀ i ∈ l, BigB i) ∧ BlsW w a l := by
  obtain ⟨a, c, l, h1, h2, h3, h4, h5⟩ := open_rowG (R := fun (z : Bb) cs => ∃ ia ic, BlC w z cs ia ic) (C := BigB) noB (sz := 5) Tryd.underlying35 block_cells (by omega) (by decide +kernel) (fun fuel cs y hy hl => open_one_block hy hl) h hw
  refine ⟨a, c, l, h1, h2, h3, h4, fun k z hz => ?_⟩
  obtain ⟨g, o, cs', e1, e2, ⟨ia, ic, e3⟩, e4⟩ := h5 k z hz
  have hc := e3.cells
  subst hc
  have q0 := e4 0 _ (by omega) rfl
  have q1 := e4 1 _ (by omega) rfl
  have q2 := e4 2 _ (by omega) rfl
  have q3 := e4 3 _ (by omega) rfl
  have q4 := e4 4 _ (by omega) rfl
  simp only [← Nat.add_assoc] at q0 q1 q2 q3 q4
  exact ⟨g, o, ia, ic, e1, e2, ⟨q0, q1, q2, q3, q4, e3.nil, e3.ins⟩⟩
end
end Go.Proofs.YtbckkmicdpjnaaaDoor
