/-
  Targets, instructions and ends that come in as arguments, and the table of what each Op has: their cells. No condition beyond those that each theorem states.
-/
import Derived.Test.YtbckkmicdpjnaaaDoorKOpenR
import Derived.Test.YtbckkmicdpjnaaaDoorMaOp
import Derived.Test.YtbckkmicdpjnaaaDoorMiD
import Derived.Test.YtbckkmicdpjnaaaDoorRows
import Derived.Lib.LaidTab
import Derived.MakeChecks
namespace Go.Proofs.YtbckkmicdpjnaaaDoor
open Go.ChangeShapes Go.WideShapes Go.Deep Go.RowKit

/-- From the row's condition: the table lies in its variable. -/
theorem tab_of_laid {W : World} (h : laidMetH Tryd.prog [("intarsia/mir.opHas", Rows.laid_intarsia_mir_opHas)] W) : TabW W := by
  rw [MakeChecks.laidMetH_plain _ _ _ (by kernel_rfl)] at h
  have hg : Tryd.prog.globalNamed "intarsia/mir.opHas" = some 0 := by kernel_rfl
  have hT : Lib.TabIs Tryd.prog W "intarsia/mir.opHas" .i64 opHasL := Lib.tabIs_of_head (t := 85) (e := 66) (n := 18) hg (by kernel_rfl) Tryd.underlying85 Tryd.underlying66 (by kernel_rfl) (by kernel_rfl) h
  exact ⟨World.block_lt_of_cell? W _ (hT.cell hg 0 (by decide)), fun i hi => hT.cell hg i hi⟩
section
variable {H : Type} {enc : TypeId × Value → H} {w : World} {base : Nat} {spare : Nat → Bool} {held : Bool} {fuel : Nat} {cs : List Value} {x : DataW H × List MemPlace}
theorem open_ins_v {cs2 : Array Value} (hcs : cs2.toList = cs) (h : DataW.trod enc Tryd.prog w base spare held fuel 31 cs = some x) (hw : LightW 31 x.1) :
    ∃ (y : Ii) (ia : Option Addr) (ic : Nat), Value.agg cs2 = insV y ia ic ∧ (ia = none → ic = 0) ∧ IntsW w ia y.args ∧ y.args.length ≤ 140737488355328 := by
  obtain ⟨y, ⟨ia, ic, hc⟩, hl⟩ := open_one_ins h hw
  refine ⟨y, ia, ic, ?_, hc.nil, hc.args, hl⟩
  unfold insV
  congr 1
  apply Array.toList_inj.1
  rw [hcs, hc.cells]
theorem open_term_v {cs2 : Array Value} (hcs : cs2.toList = cs) (h : DataW.trod enc Tryd.prog w base spare held fuel 28 cs = some x) : ∃ t : Tt, Value.agg cs2 = termV t := by
  obtain ⟨t, ht⟩ := open_term h
  refine ⟨t, ?_⟩
  unfold termV
  congr 1
  apply Array.toList_inj.1
  rw [hcs, ht]
set_option maxRecDepth 100000 in
/-- A target, by value. -/
theorem open_target {cs2 : Array Value} (hcs : cs2.toList = cs) (h : DataW.trod enc Tryd.prog w base spare held fuel 37 cs = some x) (hw : LightW 37 x.1) :
    ∃ (t : Gg) (ba : Option Addr) (bc : Nat), Value.agg cs2 = tgV t ba bc ∧ BlsW w ba t.blocks ∧ (ba = none → bc = 0) ∧ t.blocks.length ≤ 140737488355328 ∧ ∀ b ∈ t.blocks, BigB b := by
  obtain ⟨xs, n, _, hx, hcl, hlen, hf⟩ := DataW.trod_struct Tryd.underlying37 h
  rw [show Tryd.prog.cellsOf 37 = 2 by kernel_rfl] at hcl
  match cs, hcl with
  | [c0, c1], _ =>
    match xs, hlen with
    | [y0, y1], _ =>
      have g0 : DataW.trod enc Tryd.prog w base spare held n 3 (([c0, c1].drop 0).take (Tryd.prog.cellsOf 3)) = some y0 := hf 0 _ rfl
      rw [int_cells] at g0
      have g1 : DataW.trod enc Tryd.prog w base spare held n 35 (([c0, c1].drop 1).take (Tryd.prog.cellsOf 35)) = some y1 := hf 1 _ rfl
      rw [rowB_cells] at g1
      have hw1 : LightW 35 y1.1 := fun k hk => hw k (by
        rw [hx]
        simp only [DataW.weights, Tryd.underlying37, List.map_cons, List.map_nil]
        simp [DataW.weightsEach, hk])
      obtain ⟨f, rfl⟩ := open_int1 Tryd.underlying3 (c := c0) g0
      obtain ⟨ba, bc, m, d1, d2, d3, d4, d5⟩ := open_blocksW g1 hw1
      have d1 : [c1] = _ := d1
      simp only [List.cons.injEq, and_true] at d1
      refine ⟨⟨f, m⟩, ba, bc, ?_, d5, d2, d3, d4⟩
      unfold tgV tgC
      congr 1
      apply Array.toList_inj.1
      rw [hcs, d1]
end
end Go.Proofs.YtbckkmicdpjnaaaDoor
