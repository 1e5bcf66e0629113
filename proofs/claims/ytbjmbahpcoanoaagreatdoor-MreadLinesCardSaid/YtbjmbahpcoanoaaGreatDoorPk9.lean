/-
  Whether a target is right, how great it is: package mir's own answers. No condition beyond those that each theorem states.
  Targets, instructions and ends that come in as arguments, and the table of what each Op has: their cells. No condition beyond those that each theorem states.
-/
import Derived.Test.YtbjmbahpcoanoaaGreatDoorPk6
import Derived.Test.YtbjmbahpcoanoaaGreatDoorPk8
import Derived.Test.YtbjmbahpcoanoaaGreatDoorPk2
import Derived.Test.YtbjmbahpcoanoaaGreatDoorPk4
import Derived.Test.YtbjmbahpcoanoaaGreatDoorRows
import Derived.Lib.LaidTab
import Derived.MakeChecks
namespace Go.Proofs.YtbjmbahpcoanoaaGreatDoor
open Go.RowKit

def tgC (t : Gg) (ba : Option Addr) (bc : Nat) : Array Value := #[.int .i64 t.frame, .slice ba t.blocks.length bc]
def tgV (t : Gg) (ba : Option Addr) (bc : Nat) : Value := .agg (tgC t ba bc)
theorem boxG {W : World} {g : Nat} {ty : TypeId} {t : Gg} {ba : Option Addr} {bc : Nat} (h : Blk W g ty (tgC t ba bc)) :
    W.cell? ⟨g, 0, none⟩ = some (.int .i64 t.frame) ∧ W.cell? ⟨g, 1, none⟩ = some (.slice ba t.blocks.length bc) := ⟨h.cell 0, h.cell 1⟩
structure SmallG (t : Gg) : Prop where
 b : t.blocks.length ≤ 1000000
 i : ∀ x ∈ t.blocks, x.ins.length ≤ 1000000 ∧ ∀ i ∈ x.ins, i.args.length ≤ 1000000
/-- The function that asks blocks, for the target in that box. -/
def askV (R : Nat) : Value := .func (.func 44) #[] #[.pointer (some ⟨R, 0, none⟩)]
set_option maxHeartbeats 1000000 in
set_option maxRecDepth 100000 in
theorem ask_any (t : Gg) (ba : Option Addr) (bc R : Nat) (l : List Int) (a : Option Addr) (c : Nat) (w : World) (hl : l.length ≤ 140737488355328) (hI : IntsW w a l) (hR : Blk w R 24 (tgC t ba bc)) :
    Calls Tryz.prog 44 #[.slice a l.length c, .pointer (some ⟨R, 0, none⟩)] w fun e w' => e = .returned (.bool (belowB t.blocks.length l)) ∧ w = w' := by
 obtain ⟨c0, c1⟩ := boxG hR
 have HC := Lib.hid (areBelow_any t.blocks.length l a c w hl hI)
 clear hI hR
 go_enter Tryz.func44, Tryz.ntmps44
 go_wp2_with fail
 refine HC.out.mono ?_
 rintro e w1 ⟨rfl, rfl⟩
 go_wp2
 go_ret
 exact ⟨rfl, rfl⟩
set_option maxHeartbeats 4000000 in
set_option maxRecDepth 100000 in
theorem ofEnd_any (m : Mm) (aa sa : Option Addr) (ac sc : Nat) (t : Gg) (ba : Option Addr) (bc R : Nat) (x : Tt) (w : World) (hR : Blk w R 24 (tgC t ba bc)) :
    Calls Tryz.prog 47 #[machV m aa ac sa sc, askV R, termV x] w fun e w' => e = .returned (.int .i64 (ofEndN m t.blocks.length x)) ∧ Below w.heap.size w w' := by
 have HT0 := Lib.hid (TwoT.new w m aa sa ac sc x)
 have HE := Lib.hid (ofEndN.eq_1 m t.blocks.length x)
 have VE := Lib.hid (fun W => isEndT_any x W)
 have VR := Lib.hid (fun W => readsWellT_any m aa sa ac sc x W)
 have HM := Lib.hid (maxC.eq_1 m aa ac sa sc)
 have HC := Lib.hid (tmC.eq_1 x)
 have HR := Lib.hid hR
 rw [HM.out, HC.out] at HT0
 unfold machV at VR
 unfold termV at VR VE
 rw [HM.out] at VR
 clear hR
 unfold machV termV askV
 rw [HM.out]
 go_enter Tryz.func47, Tryz.ntmps47
 go_wp2_with fail
 refine (VE.out _).mono ?_
 rintro e w1 ⟨rfl, hb⟩
 have HT := Lib.hid (HT0.out.below hb)
 clear hb HT0
 obtain ⟨d0, d1, d2, d3⟩ := boxT HT.out.tm
 obtain ⟨c0, c1, c2, c3⟩ := boxMa HT.out.mc
 cases h1 : isEndT x
 · rw [if_neg (by rw [h1]; decide)] at HE
   go_wp2
   go_ret
   exact ⟨by rw [HE.out]; rfl, HT.out.be⟩
 rw [if_pos h1] at HE
 clear h1
 go_wp2_with fail
 refine (VR.out _).mono ?_
 rintro e w2 ⟨rfl, hb⟩
 have HT2 := Lib.hid (HT.out.below hb)
 clear hb HT d0 d1 d2 d3 c0 c1 c2 c3
 obtain ⟨d0, d1, d2, d3⟩ := boxT HT2.out.tm
 cases h2 : readsWellT m x
 · rw [if_neg (by rw [h2]; decide)] at HE
   go_wp2
   go_ret
   exact ⟨by rw [HE.out]; rfl, HT2.out.be⟩
 rw [if_pos h2] at HE
 clear h2
 have HT3 := Lib.hid (HT2.out.alloc (.cells #[.int .i64 x.t0, .int .i64 x.t1] 3))
 have HA := Lib.hid (ask_any t ba bc R [x.t0, x.t1] (some ⟨w2.heap.size, 0, none⟩) 2 (w2.alloc (.cells #[.int .i64 x.t0, .int .i64 x.t1] 3)) (by simp) (ints_two (Blk.new _ _ _)) (HR.out.below HT3.out.be HR.out.lt))
 go_wp2_with fail
 refine HA.out.mono ?_
 rintro e w3 ⟨rfl, rfl⟩
 cases h3 : belowB t.blocks.length [x.t0, x.t1]
 · rw [if_neg (by rw [h3]; decide)] at HE
   go_wp2
   go_ret
   exact ⟨by rw [HE.out]; rfl, HT3.out.be⟩
 · rw [if_pos h3] at HE
   go_wp2
   go_ret
   exact ⟨by rw [HE.out]; rfl, HT3.out.be⟩
set_option maxHeartbeats 4000000 in
set_option maxRecDepth 100000 in
theorem isSmallT_any (t : Gg) (ba : Option Addr) (bc : Nat) (w : World) (hS : SmallG t) (hB : BlsW w ba t.blocks) :
    Calls Tryz.prog 43 #[tgV t ba bc] w fun e w' => e = .returned (.bool (smallT t)) ∧ Below w.heap.size w w' := by
 have HBL := Lib.hid hB
 have HS := Lib.hid hS
 have hb := hS.b
 have HE := Lib.hid (smallT.eq_1 t)
 have HX0 : Hid (Blk (w.alloc (.cells (tgC t ba bc) 24)) w.heap.size 24 (tgC t ba bc)) := Blk.new w _ _
 have HW0 : Hid (Below w.heap.size w (w.alloc (.cells (tgC t ba bc) 24))) := (Below.refl _ w).alloc (Nat.le_refl _) _
 clear hB hS
 unfold tgV tgC
 go_enter Tryz.func43, Tryz.ntmps43
 by_cases h0 : t.blocks.length = 0
 · have q0 : ((t.blocks.length : Int) == 0) = true := by simp [h0]
   have e0 : (t.blocks.length == 0) = true := by simp [h0]
   rw [e0] at HE
   clear h0 e0
   go_wp2
   go_ret
   exact ⟨by rw [HE.out]; simp, HW0.out⟩
 have q0 : ((t.blocks.length : Int) == 0) = false := by rw [beq_eq_false_iff_ne]; omega
 have e0 : (t.blocks.length == 0) = false := by simp [h0]
 rw [e0] at HE
 by_cases h1 : 200 < t.blocks.length
 · have q1 : (200 : Int) < t.blocks.length := by omega
   rw [decide_eq_true h1] at HE
   go_wp2
   go_ret
   exact ⟨by rw [HE.out]; simp, HW0.out⟩
 have q1 : ¬ (200 : Int) < t.blocks.length := by omega
 have e1 : decide (200 < t.blocks.length) = false := by simpa using h1
 rw [e1] at HE
 by_cases h2 : t.frame < 0
 · rw [decide_eq_true h2] at HE
   go_wp2
   go_ret
   exact ⟨by rw [HE.out]; simp, HW0.out⟩
 have e2 : decide (t.frame < 0) = false := by simpa using h2
 rw [e2] at HE
 by_cases h3 : 400 < t.frame
 · rw [decide_eq_true h3] at HE
   go_wp2
   go_ret
   exact ⟨by rw [HE.out]; simp, HW0.out⟩
 have e3 : decide (400 < t.frame) = false := by simpa using h3
 rw [e3] at HE
 clear e0 e1 e2 e3
 go_wp2
 go_loopw [28] (fun k wr => ∃ j : Nat, k = .int .i64 j ∧ j ≤ t.blocks.length ∧ Hid (smallT t = ((t.blocks.drop j).all fun b => !(decide (4000 < b.ins.length)))) ∧ Blk wr w.heap.size 24 (tgC t ba bc) ∧ Below w.heap.size w wr) (fun k _ => t.blocks.length - (intOf k).toNat)
 case atStart => exact ⟨0, rfl, Nat.zero_le _, by have := HE.out; simpa [Hid] using this, HX0.out, HW0.out⟩
 case round =>
  obtain ⟨j, rfl, hj, HA, hX, hB⟩ := hrel
  have HX := Lib.hid hX
  have HB := Lib.hid hB
  clear hX hB HX0 HW0 HE
  by_cases hlt : j < t.blocks.length
  · have hlt' : (j : Int) < t.blocks.length := by omega
    have hj0 : (0 : Int) ≤ j := by omega
    obtain ⟨y, hy⟩ : ∃ y, t.blocks[j]? = some y := ⟨_, List.getElem?_eq_getElem hlt⟩
    obtain ⟨g, o, ya, yc, rfl, hg, hc⟩ := (HBL.out.below HB.out) j y hy
    have hyi := (HS.out.i y (List.mem_of_getElem? hy)).1
    have HD : Hid (smallT t = (!(decide (4000 < y.ins.length)) && ((t.blocks.drop (j + 1)).all fun b => !(decide (4000 < b.ins.length))))) := by
     show _ = _
     rw [HA.out, List.drop_eq_getElem_cons hlt, (List.getElem?_eq_some_iff.1 hy).2]
     rfl
    have c0 := hc.c0
    have c1 := hc.c1
    have c2 := hc.c2
    have c3 := hc.c3
    have c4 := hc.c4
    have HW2 : Hid (Below wr.heap.size wr (wr.alloc (.cells (blC y ya yc) 53))) := (Below.refl _ wr).alloc (Nat.le_refl _) _
    clear hy HA hc
    by_cases h64 : 4000 < y.ins.length
    · have q64 : (4000 : Int) < y.ins.length := by omega
      rw [decide_eq_true h64] at HD
      go_wp2
      go_ret
      exact ⟨by rw [HD.out]; simp, HB.out.trans (HW2.out.mono HB.out.size)⟩
    · have q64 : ¬ (4000 : Int) < y.ins.length := by omega
      have e64 : decide (4000 < y.ins.length) = false := by simpa using h64
      rw [e64] at HD
      go_wp2
      go_roundw
      case rel => exact ⟨j + 1, by go_num, by omega, by have := HD.out; simpa [Hid] using this, HX.out.alloc _, HB.out.trans (HW2.out.mono HB.out.size)⟩
      case measure => simp [intOf]; omega
  · have e : j = t.blocks.length := by omega
    subst e
    go_wp2
    go_ret
    refine ⟨?_, HB.out⟩
    rw [HA.out]
    simp
end Go.Proofs.YtbjmbahpcoanoaaGreatDoor
namespace Go.Proofs.YtbjmbahpcoanoaaGreatDoor
open Go.ChangeShapes Go.WideShapes Go.Deep Go.RowKit

/-- From the row's condition: the table lies in its variable. -/
theorem tab_of_laid {W : World} (h : laidMetH Tryz.prog [("intarsia/mir.opHas", Rows.laid_intarsia_mir_opHas)] W) : TabW W := by
 rw [MakeChecks.laidMetH_plain _ _ _ (by kernel_rfl)] at h
 have hg : Tryz.prog.globalNamed "intarsia/mir.opHas" = some 0 := by kernel_rfl
 have hT : Lib.TabIs Tryz.prog W "intarsia/mir.opHas" .i64 opHasL := Lib.tabIs_of_head (t := 177) (e := 130) (n := 18) hg (by kernel_rfl) Tryz.underlying177 Tryz.underlying130 (by kernel_rfl) (by kernel_rfl) h
 exact ⟨World.block_lt_of_cell? W _ (hT.cell hg 0 (by decide)), fun i hi => hT.cell hg i hi⟩
section
variable {H : Type} {enc : TypeId × Value → H} {w : World} {base : Nat} {spare : Nat → Bool} {held : Bool} {fuel : Nat} {cs : List Value} {x : DataW H × List MemPlace}
theorem open_ins_v {cs2 : Array Value} (hcs : cs2.toList = cs) (h : DataW.trod enc Tryz.prog w base spare held fuel 46 cs = some x) (hw : LightW 46 x.1) :
    ∃ (y : Ii) (ia : Option Addr) (ic : Nat), Value.agg cs2 = insV y ia ic ∧ (ia = none → ic = 0) ∧ IntsW w ia y.args ∧ y.args.length ≤ 140737488355328 := by
 obtain ⟨y, ⟨ia, ic, hc⟩, hl⟩ := open_one_ins h hw
 refine ⟨y, ia, ic, ?_, hc.nil, hc.args, hl⟩
 unfold insV
 congr 1
 apply Array.toList_inj.1
 rw [hcs, hc.cells]
theorem open_term_v {cs2 : Array Value} (hcs : cs2.toList = cs) (h : DataW.trod enc Tryz.prog w base spare held fuel 51 cs = some x) : ∃ t : Tt, Value.agg cs2 = termV t := by
 obtain ⟨t, ht⟩ := open_term h
 refine ⟨t, ?_⟩
 unfold termV
 congr 1
 apply Array.toList_inj.1
 rw [hcs, ht]
set_option maxRecDepth 100000 in
/-- A target, by value. -/
theorem open_target {cs2 : Array Value} (hcs : cs2.toList = cs) (h : DataW.trod enc Tryz.prog w base spare held fuel 24 cs = some x) (hw : LightW 24 x.1) :
    ∃ (t : Gg) (ba : Option Addr) (bc : Nat), Value.agg cs2 = tgV t ba bc ∧ BlsW w ba t.blocks ∧ (ba = none → bc = 0) ∧ t.blocks.length ≤ 140737488355328 ∧ ∀ b ∈ t.blocks, BigB b := by
 obtain ⟨xs, n, _, hx, hcl, hlen, hf⟩ := DataW.trod_struct Tryz.underlying24 h
 rw [show Tryz.prog.cellsOf 24 = 2 by kernel_rfl] at hcl
 match cs, hcl with
 | [c0, c1], _ =>
  match xs, hlen with
  | [y0, y1], _ =>
   have g0 : DataW.trod enc Tryz.prog w base spare held n 3 (([c0, c1].drop 0).take (Tryz.prog.cellsOf 3)) = some y0 := hf 0 _ rfl
   rw [int_cells] at g0
   have g1 : DataW.trod enc Tryz.prog w base spare held n 22 (([c0, c1].drop 1).take (Tryz.prog.cellsOf 22)) = some y1 := hf 1 _ rfl
   rw [rowB_cells] at g1
   have hw1 : LightW 22 y1.1 := fun k hk => hw k (by
    rw [hx]
    simp only [DataW.weights, Tryz.underlying24, List.map_cons, List.map_nil]
    simp [DataW.weightsEach, hk])
   obtain ⟨f, rfl⟩ := open_int1 Tryz.underlying3 (c := c0) g0
   obtain ⟨ba, bc, m, d1, d2, d3, d4, d5⟩ := open_blocksW g1 hw1
   have d1 : [c1] = _ := d1
   simp only [List.cons.injEq, and_true] at d1
   refine ⟨⟨f, m⟩, ba, bc, ?_, d5, d2, d3, d4⟩
   unfold tgV tgC
   congr 1
   apply Array.toList_inj.1
   rw [hcs, d1]
end
end Go.Proofs.YtbjmbahpcoanoaaGreatDoor
