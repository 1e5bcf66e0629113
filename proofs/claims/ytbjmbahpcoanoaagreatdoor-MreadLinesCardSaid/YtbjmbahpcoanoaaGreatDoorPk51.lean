/-
  The same blocks, the same functions are told to be the same. No condition beyond those that each theorem states.
  Targets that are compared: the kit's SameTarget. No condition beyond those that each theorem states.
  MreadParses: the walk (written by gen/pal.py). Conditions: the library's tables, its errors, the Ops' names and parts hold what the text lays.
  The law's own: two readings of one text, however long (written by gen/pal.py). Conditions: the library's tables, its errors, the Ops' names and parts hold what the text lays.
-/
import Derived.Test.YtbjmbahpcoanoaaGreatDoorPk26
import Derived.Test.YtbjmbahpcoanoaaGreatDoorPk6
import Derived.Deep.RegionHeld3
import Derived.Test.YtbjmbahpcoanoaaGreatDoorPk9
import Derived.Test.YtbjmbahpcoanoaaGreatDoorPk50
import Derived.Test.YtbjmbahpcoanoaaGreatDoorPk36
namespace Go.Proofs.YtbjmbahpcoanoaaGreatDoor
open Go.RowKit

theorem arr2_size : (Tryz.prog.info? 49).map (·.size) = some 2 := by kernel_rfl
theorem run_part_arr2 (a b c d : Value) (w : World) : (part 49 #[a, b, c, d] 2).run Tryz.prog w = .ok (.agg #[c, d]) w := by
 obtain ⟨j, hj, hjs⟩ := Option.map_eq_some_iff.1 arr2_size
 simp [part, isAgg, run_underlying Tryz.underlying49, sizeOf, typeInfo, hj, hjs]
theorem eql_term (t : Tt) (W : World) : (Op.equalIn 10000 51 (.agg #[.int .i64 t.kind, .int .i64 t.a, .int .i64 t.t0, .int .i64 t.t1]) (.agg #[.int .i64 t.kind, .int .i64 t.a, .int .i64 t.t0, .int .i64 t.t1])).run Tryz.prog W = .ok true W := by
 rw [show (10000 : Nat) = 9999 + 1 from rfl, run_equalIn_struct W 9999 51 _ _ (by kernel_rfl) (by kernel_rfl)]
 simp only [Program.fieldsOf, Tryz.underlying51, Op.eqFields]
 simp only [show ("Kind" : String) ≠ "_" by decide, show ("A" : String) ≠ "_" by decide, show ("To" : String) ≠ "_" by decide, ne_eq, not_false_eq_true, if_true, Sem.run_bind, Sem.run_ite]
 rw [run_part_int (v := .int .i64 t.kind) Tryz.underlying48 (by rfl)]
 simp only [Result.andThen_ok]
 rw [run_part_int (v := .int .i64 t.kind) Tryz.underlying48 (by rfl)]
 simp only [Result.andThen_ok]
 rw [run_equalIn_int W 9998 _ .i64 .i64 _ _ Tryz.underlying48]
 simp only [Result.andThen_ok, beq_self_eq_true, Bool.not_true, Bool.false_eq_true, if_false]
 rw [run_part_int (v := .int .i64 t.a) Tryz.underlying3 (by rfl)]
 simp only [Result.andThen_ok]
 rw [run_part_int (v := .int .i64 t.a) Tryz.underlying3 (by rfl)]
 simp only [Result.andThen_ok]
 rw [run_equalIn_int W 9998 _ .i64 .i64 _ _ Tryz.underlying3]
 simp only [Result.andThen_ok, beq_self_eq_true, Bool.not_true, Bool.false_eq_true, if_false]
 rw [run_part_arr2]
 simp only [Result.andThen_ok]
 rw [run_part_arr2]
 simp only [Result.andThen_ok]
 rw [eql_arr2_at 9998 (fun x y W => run_equalIn_int W 9997 _ .i64 .i64 x y Tryz.underlying3)]
 simp [Result.andThen_ok]
set_option maxHeartbeats 1000000 in
set_option maxRecDepth 100000 in
theorem sameIns_same (x : Ii) (a a' : Option Addr) (c c' : Nat) (w : World) (hl : x.args.length ≤ 1000000) (hI : IntsW w a x.args) (hJ : IntsW w a' x.args) :
    Calls Tryz.prog 149 #[insV x a c, insV x a' c'] w fun e w' => e = .returned (.bool true) ∧ Below w.heap.size w w' := by
 have HX : Hid (Blk ((w.alloc (.cells (insC x a c) 46)).alloc (.cells (insC x a' c') 46)) w.heap.size 46 (insC x a c)) := Lib.hid ((Blk.new w _ _).alloc _)
 have HY : Hid (Blk ((w.alloc (.cells (insC x a c) 46)).alloc (.cells (insC x a' c') 46)) (w.heap.size + 1) 46 (insC x a' c')) := Lib.hid (new_two w _ _ _)
 have HW : Hid (Below w.heap.size w ((w.alloc (.cells (insC x a c) 46)).alloc (.cells (insC x a' c') 46))) := Lib.hid (((Below.refl _ w).alloc (Nat.le_refl _) _).alloc (by simp) _)
 have HC := Lib.hid (sameInts_any x.args x.args a a' c c' _ (by omega) (by omega) (hI.below HW.out) (hJ.below HW.out))
 rw [decide_eq_true rfl] at HC
 clear hI hJ
 have q0 : (x.op == x.op) = true := by simp
 have q1 : (x.dst == x.dst) = true := by simp
 have q2 : (x.a == x.a) = true := by simp
 have q3 : (x.b == x.b) = true := by simp
 have q4 : (x.imm == x.imm) = true := by simp
 have q5 : (x.callee == x.callee) = true := by simp
 have q7 : (x.many == x.many) = true := by simp
 unfold insV
 go_enter Tryz.func149, Tryz.ntmps149
 go_wp2_with fail
 refine HC.out.mono ?_
 rintro e w1 ⟨rfl, hb⟩
 have HX1 := Lib.hid (HX.out.below hb HX.out.lt)
 have HY1 := Lib.hid (HY.out.below hb HY.out.lt)
 have HW1 : Hid (Below w.heap.size w w1) := Lib.hid (HW.out.trans (hb.mono HW.out.size))
 clear hb HX HY HW HC
 have c7 : w1.cell? ⟨w.heap.size, 7, none⟩ = some (.int .i64 x.many) := HX1.out.cell 7
 have d7 : w1.cell? ⟨w.heap.size + 1, 7, none⟩ = some (.int .i64 x.many) := HY1.out.cell 7
 go_wp2
 go_ret
 exact ⟨rfl, HW1.out⟩
set_option maxHeartbeats 2000000 in
set_option maxRecDepth 100000 in
theorem sameRow_same (l : List Ii) (a a' : Option Addr) (c c' : Nat) (w : World) (hl : l.length ≤ 1000000) (hl2 : ∀ x ∈ l, x.args.length ≤ 1000000) (hI : InsW w a l) (hJ : InsW w a' l) :
    Calls Tryz.prog 106 #[.slice a l.length c, .slice a' l.length c'] w fun e w' => e = .returned (.bool true) ∧ Below w.heap.size w w' := by
 have HI := Lib.hid hI
 have HJ := Lib.hid hJ
 have HL2 := Lib.hid hl2
 clear hI hJ hl2
 have h' : ((l.length : Int) == l.length) = true := by simp
 have h'' : ((l.length : Int) != l.length) = false := by simp
 go_enter Tryz.func106, Tryz.ntmps106
 go_wp2
 go_loopw [5] (fun k wr => ∃ j : Nat, k = .int .i64 j ∧ j ≤ l.length ∧ Below w.heap.size w wr) (fun k _ => l.length - (intOf k).toNat)
 case atStart => exact ⟨0, rfl, Nat.zero_le _, Below.refl _ _⟩
 case round =>
  obtain ⟨j, rfl, hj, hW⟩ := hrel
  have HW := Lib.hid hW
  clear hW
  by_cases hlt : j < l.length
  · have hlt' : (j : Int) < l.length := by omega
    have hj0 : (0 : Int) ≤ j := by omega
    obtain ⟨x, hx⟩ : ∃ x, l[j]? = some x := ⟨_, List.getElem?_eq_getElem hlt⟩
    obtain ⟨g, o, ia, ic, rfl, hg, hc⟩ := (HI.out.below HW.out) j x hx
    obtain ⟨g2, o2, ia2, ic2, rfl, hg2, hc2⟩ := (HJ.out.below HW.out) j x hx
    have HLX := Lib.hid (HL2.out x (List.mem_of_getElem? hx))
    have HC1 := Lib.hid hc
    have HC2 := Lib.hid hc2
    have HG := Lib.hid hg
    have HG2 := Lib.hid hg2
    clear hc hc2 hx hg hg2
    have CS : Hid (∀ W, Below wr.heap.size wr W → Calls Tryz.prog 149 #[insV x ia ic, insV x ia2 ic2] W fun e w' => e = .returned (.bool true) ∧ Below wr.heap.size wr w') := Lib.hid fun W h =>
     (sameIns_same x ia ia2 ic ic2 W HLX.out (HC1.out.args.below h) (HC2.out.args.below h)).mono fun _ _ ⟨he, h2⟩ => ⟨he, h.trans (h2.mono h.size)⟩
    unfold insV at CS
    go_wp2_with fail
    go_region_held3 (fun w' => Below wr.heap.size wr w' ∧ w'.cell? ⟨g, o + j * 8, none⟩ = some (.int .i64 x.op) ∧ w'.cell? ⟨g, o + j * 8 + 1, none⟩ = some (.int .i64 x.dst) ∧ w'.cell? ⟨g, o + j * 8 + 2, none⟩ = some (.int .i64 x.a) ∧ w'.cell? ⟨g, o + j * 8 + 3, none⟩ = some (.int .i64 x.b) ∧ w'.cell? ⟨g, o + j * 8 + 4, none⟩ = some (.int .i64 x.imm) ∧ w'.cell? ⟨g, o + j * 8 + 5, none⟩ = some (.int .i64 x.callee) ∧ w'.cell? ⟨g, o + j * 8 + 6, none⟩ = some (.slice ia x.args.length ic) ∧ w'.cell? ⟨g, o + j * 8 + 7, none⟩ = some (.int .i64 x.many) ∧ w'.cell? ⟨g2, o2 + j * 8, none⟩ = some (.int .i64 x.op) ∧ w'.cell? ⟨g2, o2 + j * 8 + 1, none⟩ = some (.int .i64 x.dst) ∧ w'.cell? ⟨g2, o2 + j * 8 + 2, none⟩ = some (.int .i64 x.a) ∧ w'.cell? ⟨g2, o2 + j * 8 + 3, none⟩ = some (.int .i64 x.b) ∧ w'.cell? ⟨g2, o2 + j * 8 + 4, none⟩ = some (.int .i64 x.imm) ∧ w'.cell? ⟨g2, o2 + j * 8 + 5, none⟩ = some (.int .i64 x.callee) ∧ w'.cell? ⟨g2, o2 + j * 8 + 6, none⟩ = some (.slice ia2 x.args.length ic2) ∧ w'.cell? ⟨g2, o2 + j * 8 + 7, none⟩ = some (.int .i64 x.many))
     (first
       | exact ⟨hb7, (HC1.out.below HG.out hb7).c0, (HC1.out.below HG.out hb7).c1, (HC1.out.below HG.out hb7).c2, (HC1.out.below HG.out hb7).c3, (HC1.out.below HG.out hb7).c4, (HC1.out.below HG.out hb7).c5, (HC1.out.below HG.out hb7).c6, (HC1.out.below HG.out hb7).c7, (HC2.out.below HG2.out hb7).c0, (HC2.out.below HG2.out hb7).c1, (HC2.out.below HG2.out hb7).c2, (HC2.out.below HG2.out hb7).c3, (HC2.out.below HG2.out hb7).c4, (HC2.out.below HG2.out hb7).c5, (HC2.out.below HG2.out hb7).c6, (HC2.out.below HG2.out hb7).c7⟩
       | exact ⟨(Below.refl _ wr).drew, (HC1.out).c0, (HC1.out).c1, (HC1.out).c2, (HC1.out).c3, (HC1.out).c4, (HC1.out).c5, (HC1.out).c6, (HC1.out).c7, (HC2.out).c0, (HC2.out).c1, (HC2.out).c2, (HC2.out).c3, (HC2.out).c4, (HC2.out).c5, (HC2.out).c6, (HC2.out).c7⟩)
     (first
       | (go_at_call 149; refine (CS.out _ (by go_split_ands; assumption)).mono ?_; rintro e w7 ⟨rfl, hb7⟩))
    have HW7 : Hid (Below w.heap.size w w7) := Lib.hid (HW.out.trans (hb7.mono HW.out.size))
    rename_i hHeld
    clear hHeld hb7
    go_wp2
    go_roundw
    case rel => exact ⟨j + 1, by go_num, by omega, HW7.out⟩
    case measure => simp [intOf]; omega
  · have e : j = l.length := by omega
    subst e
    have hlt' : ¬ (l.length : Int) < l.length := by omega
    go_wp2
    go_ret
    exact ⟨rfl, HW.out⟩
end Go.Proofs.YtbjmbahpcoanoaaGreatDoor
namespace Go.Proofs.YtbjmbahpcoanoaaGreatDoor
open Go.RowKit

set_option maxHeartbeats 1000000 in
set_option maxRecDepth 100000 in
theorem sameBlock_same (x : Bb) (a a' : Option Addr) (c c' : Nat) (w : World) (hl : x.ins.length ≤ 1000000) (hl2 : ∀ y ∈ x.ins, y.args.length ≤ 1000000) (hI : InsW w a x.ins) (hJ : InsW w a' x.ins) :
    Calls Tryz.prog 65 #[blV x a c, blV x a' c'] w fun e w' => e = .returned (.bool true) ∧ Below w.heap.size w w' := by
 have HX : Hid (Blk ((w.alloc (.cells (blC x a c) 53)).alloc (.cells (blC x a' c') 53)) w.heap.size 53 (blC x a c)) := Lib.hid ((Blk.new w _ _).alloc _)
 have HY : Hid (Blk ((w.alloc (.cells (blC x a c) 53)).alloc (.cells (blC x a' c') 53)) (w.heap.size + 1) 53 (blC x a' c')) := Lib.hid (new_two w _ _ _)
 have HW : Hid (Below w.heap.size w ((w.alloc (.cells (blC x a c) 53)).alloc (.cells (blC x a' c') 53))) := Lib.hid (((Below.refl _ w).alloc (Nat.le_refl _) _).alloc (by simp) _)
 have HC := Lib.hid (sameRow_same x.ins a a' c c' _ hl hl2 (hI.below HW.out) (hJ.below HW.out))
 clear hI hJ
 have hq := fun W => eql_term x.tm W
 unfold blV blC
 go_enter Tryz.func65, Tryz.ntmps65
 go_wp2_with fail
 refine HC.out.mono ?_
 rintro e w1 ⟨rfl, hb⟩
 have HX1 := Lib.hid (HX.out.below hb HX.out.lt)
 have HY1 := Lib.hid (HY.out.below hb HY.out.lt)
 have HW1 : Hid (Below w.heap.size w w1) := Lib.hid (HW.out.trans (hb.mono HW.out.size))
 clear hb HX HY HW HC
 obtain ⟨c0, c1, c2, c3, c4⟩ := box5 HX1.out
 obtain ⟨d0, d1, d2, d3, d4⟩ := box5 HY1.out
 go_wp2
 go_ret
 exact ⟨rfl, HW1.out⟩
set_option maxHeartbeats 2000000 in
set_option maxRecDepth 100000 in
theorem sameBlocks_same (l : List Bb) (a a' : Option Addr) (c c' : Nat) (w : World) (hl : l.length ≤ 1000000) (hl2 : ∀ x ∈ l, x.ins.length ≤ 1000000 ∧ ∀ y ∈ x.ins, y.args.length ≤ 1000000) (hI : BlsW w a l) (hJ : BlsW w a' l) :
    Calls Tryz.prog 40 #[.slice a l.length c, .slice a' l.length c'] w fun e w' => e = .returned (.bool true) ∧ Below w.heap.size w w' := by
 have HI := Lib.hid hI
 have HJ := Lib.hid hJ
 have HL2 := Lib.hid hl2
 clear hI hJ hl2
 have h' : ((l.length : Int) == l.length) = true := by simp
 have h'' : ((l.length : Int) != l.length) = false := by simp
 go_enter Tryz.func40, Tryz.ntmps40
 go_wp2
 go_loopw [5] (fun k wr => ∃ j : Nat, k = .int .i64 j ∧ j ≤ l.length ∧ Below w.heap.size w wr) (fun k _ => l.length - (intOf k).toNat)
 case atStart => exact ⟨0, rfl, Nat.zero_le _, Below.refl _ _⟩
 case round =>
  obtain ⟨j, rfl, hj, hW⟩ := hrel
  have HW := Lib.hid hW
  clear hW
  by_cases hlt : j < l.length
  · have hlt' : (j : Int) < l.length := by omega
    have hj0 : (0 : Int) ≤ j := by omega
    obtain ⟨x, hx⟩ : ∃ x, l[j]? = some x := ⟨_, List.getElem?_eq_getElem hlt⟩
    obtain ⟨g, o, ia, ic, rfl, hg, hc⟩ := (HI.out.below HW.out) j x hx
    obtain ⟨g2, o2, ia2, ic2, rfl, hg2, hc2⟩ := (HJ.out.below HW.out) j x hx
    have HLX := Lib.hid (HL2.out x (List.mem_of_getElem? hx))
    have HC1 := Lib.hid hc
    have HC2 := Lib.hid hc2
    have HG := Lib.hid hg
    have HG2 := Lib.hid hg2
    clear hc hc2 hx hg hg2
    have CS : Hid (∀ W, Below wr.heap.size wr W → Calls Tryz.prog 65 #[blV x ia ic, blV x ia2 ic2] W fun e w' => e = .returned (.bool true) ∧ Below wr.heap.size wr w') := Lib.hid fun W h =>
     (sameBlock_same x ia ia2 ic ic2 W HLX.out.1 HLX.out.2 (HC1.out.ins.below h) (HC2.out.ins.below h)).mono fun _ _ ⟨he, h2⟩ => ⟨he, h.trans (h2.mono h.size)⟩
    unfold blV blC at CS
    go_wp2_with fail
    go_region_held3 (fun w' => Below wr.heap.size wr w' ∧ w'.cell? ⟨g, o + j * 5, none⟩ = some (.slice ia x.ins.length ic) ∧ w'.cell? ⟨g, o + j * 5 + 1, none⟩ = some (.int .i64 x.tm.kind) ∧ w'.cell? ⟨g, o + j * 5 + 2, none⟩ = some (.int .i64 x.tm.a) ∧ w'.cell? ⟨g, o + j * 5 + 3, none⟩ = some (.int .i64 x.tm.t0) ∧ w'.cell? ⟨g, o + j * 5 + 4, none⟩ = some (.int .i64 x.tm.t1) ∧ w'.cell? ⟨g2, o2 + j * 5, none⟩ = some (.slice ia2 x.ins.length ic2) ∧ w'.cell? ⟨g2, o2 + j * 5 + 1, none⟩ = some (.int .i64 x.tm.kind) ∧ w'.cell? ⟨g2, o2 + j * 5 + 2, none⟩ = some (.int .i64 x.tm.a) ∧ w'.cell? ⟨g2, o2 + j * 5 + 3, none⟩ = some (.int .i64 x.tm.t0) ∧ w'.cell? ⟨g2, o2 + j * 5 + 4, none⟩ = some (.int .i64 x.tm.t1))
     (first
       | exact ⟨hb7, (HC1.out.below HG.out hb7).c0, (HC1.out.below HG.out hb7).c1, (HC1.out.below HG.out hb7).c2, (HC1.out.below HG.out hb7).c3, (HC1.out.below HG.out hb7).c4, (HC2.out.below HG2.out hb7).c0, (HC2.out.below HG2.out hb7).c1, (HC2.out.below HG2.out hb7).c2, (HC2.out.below HG2.out hb7).c3, (HC2.out.below HG2.out hb7).c4⟩
       | exact ⟨(Below.refl _ wr).drew, (HC1.out).c0, (HC1.out).c1, (HC1.out).c2, (HC1.out).c3, (HC1.out).c4, (HC2.out).c0, (HC2.out).c1, (HC2.out).c2, (HC2.out).c3, (HC2.out).c4⟩)
     (first
       | (go_at_call 65; refine (CS.out _ (by go_split_ands; assumption)).mono ?_; rintro e w7 ⟨rfl, hb7⟩))
    have HW7 : Hid (Below w.heap.size w w7) := Lib.hid (HW.out.trans (hb7.mono HW.out.size))
    rename_i hHeld
    clear hHeld hb7
    go_wp2
    go_roundw
    case rel => exact ⟨j + 1, by go_num, by omega, HW7.out⟩
    case measure => simp [intOf]; omega
  · have e : j = l.length := by omega
    subst e
    have hlt' : ¬ (l.length : Int) < l.length := by omega
    go_wp2
    go_ret
    exact ⟨rfl, HW.out⟩
end Go.Proofs.YtbjmbahpcoanoaaGreatDoor
namespace Go.Proofs.YtbjmbahpcoanoaaGreatDoor
open Go.RowKit

set_option maxHeartbeats 1000000 in
set_option maxRecDepth 100000 in
theorem sameTarget_same (t : Gg) (ba ba' : Option Addr) (bc bc' : Nat) (w : World) (hs : SmallG t) (hF : BlsW w ba t.blocks) (hG : BlsW w ba' t.blocks) :
    Calls Tryz.prog 16 #[tgV t ba bc, tgV t ba' bc'] w fun e w' => e = .returned (.bool true) ∧ Below w.heap.size w w' := by
 have HX : Hid (Blk ((w.alloc (.cells (tgC t ba bc) 24)).alloc (.cells (tgC t ba' bc') 24)) w.heap.size 24 (tgC t ba bc)) := Lib.hid ((Blk.new w _ _).alloc _)
 have HY : Hid (Blk ((w.alloc (.cells (tgC t ba bc) 24)).alloc (.cells (tgC t ba' bc') 24)) (w.heap.size + 1) 24 (tgC t ba' bc')) := Lib.hid (new_two w _ _ _)
 have HW : Hid (Below w.heap.size w ((w.alloc (.cells (tgC t ba bc) 24)).alloc (.cells (tgC t ba' bc') 24))) := Lib.hid (((Below.refl _ w).alloc (Nat.le_refl _) _).alloc (by simp) _)
 have HC := Lib.hid (sameBlocks_same t.blocks ba ba' bc bc' _ hs.b hs.i (hF.below HW.out) (hG.below HW.out))
 obtain ⟨c0, c1⟩ := boxG HX.out
 obtain ⟨d0, d1⟩ := boxG HY.out
 clear hF hG hs HX HY
 unfold tgC at HC HW c0 c1 d0 d1
 unfold tgV tgC
 go_enter Tryz.func16, Tryz.ntmps16
 go_wp2_with fail
 refine HC.out.mono ?_
 rintro e w2 ⟨rfl, hb⟩
 have HW2 : Hid (Below w.heap.size w w2) := Lib.hid (HW.out.trans (hb.mono HW.out.size))
 clear hb HC HW c0 c1 d0 d1
 go_wp2
 go_ret
 exact ⟨rfl, HW2.out⟩
end Go.Proofs.YtbjmbahpcoanoaaGreatDoor
namespace Go.Proofs.YtbjmbahpcoanoaaGreatDoor
open Go.RowKit

theorem tg_few : ∀ (f n : Nat) (c : Cu) (bs : List Bb), (tgGo f n c bs).2.length ≤ bs.length + f := by
 intro f
 induction f with
 | zero =>
  intro n c bs
  by_cases hm : n = 0 ∨ c.more = true
  · rw [tg_full hm]; exact Nat.le_refl _
  · rw [tg_stop hm]; exact Nat.le_refl _
 | succ f ih =>
  intro n c bs
  by_cases hm : n = 0 ∨ c.more = true
  · rw [tg_step hm]
    have := ih (n + 1) ((c.headC n).blk []).1 (bs ++ [((c.headC n).blk []).2])
    rw [List.length_append, List.length_singleton] at this
    omega
  · rw [tg_stop hm]; show bs.length ≤ _; omega
theorem blk_few : ∀ (f : Nat) (c : Cu) (l : List Ii), (blkGo f c l).2.ins.length ≤ l.length + f := by
 intro f
 induction f with
 | zero => intro c l; exact Nat.le_refl _
 | succ f ih =>
  intro c l
  rw [blkGo]
  split
  · cases hp : c.partP with
    | inr t => show l.length ≤ _; omega
    | inl x =>
     have := ih (c.longC l.length).end_ (l ++ [x])
     rw [List.length_append, List.length_singleton] at this
     show (blkGo f (c.longC l.length).end_ (l ++ [x])).2.ins.length ≤ _
     omega
  · show l.length ≤ _; omega
theorem tg_ins : ∀ (f n : Nat) (c : Cu) (bs : List Bb), Fit c → (∀ b ∈ bs, b.ins.length ≤ 1000000) → ∀ b ∈ (tgGo f n c bs).2, b.ins.length ≤ 1000000 := by
 intro f
 induction f with
 | zero =>
  intro n c bs _ h
  by_cases hm : n = 0 ∨ c.more = true
  · rw [tg_full hm]; exact h
  · rw [tg_stop hm]; exact h
 | succ f ih =>
  intro n c bs hF h
  by_cases hm : n = 0 ∨ c.more = true
  · rw [tg_step hm]
    have hH := hF.headC n
    refine ih _ _ _ (blkGo_fit _ _ _ hH) (fun b hb => ?_)
    rcases List.mem_append.1 hb with hb | hb
    · exact h b hb
    · rw [List.mem_singleton] at hb; subst hb
      have h1 := blk_few (c.headC n).left.length (c.headC n) []
      have h2 := hH.few
      simp only [List.length_nil] at h1
      unfold Cu.blk
      omega
  · rw [tg_stop hm]; exact h
theorem pr_few (s : ByteArray) (hz : s.size ≤ 100000) : SmallG (prG s) := by
 have h2 : (prG s).blocks.length ≤ 200 ∧ ∀ x ∈ (prG s).blocks, x.ins.length ≤ 1000000 := by
  by_cases h : prE s = 0
  · have e : prG s = (startC s).tgG := by unfold prG; rw [if_pos h]
    rw [e]
    have hF := start_fit s (by omega)
    refine ⟨by have := tg_few 200 0 (startC s).tgHead []; exact (by simpa using this : (tgGo 200 0 (startC s).tgHead []).2.length ≤ 200), tg_ins 200 0 (startC s).tgHead [] (((hF.keyedP _).num 0 400).end_) (by simp)⟩
  · rw [pr_none h]
    exact ⟨by simp [noG], by simp [noG]⟩
 have hb := pr_bare s
 exact ⟨by omega, fun x hx => ⟨h2.2 x hx, fun y hy => by rw [hb x hx y hy]; simp⟩⟩
set_option maxRecDepth 100000 in
set_option maxHeartbeats 4000000 in
theorem mreadParses_any (s : ByteArray) (w : World) (hT : TabA w) : Calls Tryz.prog 4 #[.string s] w fun e w' => e = .returned (.bool true) ∧ Below w.heap.size w w' := by
 have HTA : Hid (∀ W, Below w.heap.size w W → TabA W) := fun W h => hT.below h
 have AW : Hid (∀ W, Below w.heap.size w W → Calls Tryz.prog 9 #[] W fun e w' => e = .returned (.bool true) ∧ Below W.heap.size W w') := fun W h => awake7_any W (HTA.out W h)
 by_cases hz : 3000 < s.size
 · have hz1 : (3000 : Int) < s.size := by omega
   clear hT HTA
   go_enter Tryz.func4, Tryz.ntmps4
   go_wp2_with fail
   refine (AW.out w (Below.refl _ _)).mono ?_
   rintro e w1 ⟨rfl, hb1⟩
   have HB1 := Lib.hid hb1
   clear hb1
   go_wp2
   go_ret
   exact ⟨rfl, HB1.out⟩
 have hz1 : ¬ (3000 : Int) < s.size := by omega
 have P1 := Lib.hid (parse_any s w hT.r)
 have P2 : Hid (∀ W, Below w.heap.size w W → Calls Tryz.prog 15 #[.string s] W fun e w' => ToldT s W w' e) := fun W h => parse7_any s W (HTA.out W h).r.pow (by omega)
 have ST : Hid (∀ (ba ba' : Option Addr) (bc bc' : Nat) (W : World), BlsW W ba (prG s).blocks → BlsW W ba' (prG s).blocks → _) := fun ba ba' bc bc' W h1 h2 => sameTarget_same (prG s) ba ba' bc bc' W (pr_few s (by omega)) h1 h2
 unfold ToldT at P1 P2
 unfold tgV tgC at P1 P2 ST
 generalize prG s = G at *
 generalize prL s = RL at *
 generalize prC s = RC at *
 generalize prE s = RE at *
 clear hT HTA
 go_enter Tryz.func4, Tryz.ntmps4
 go_wp2_with fail
 refine P1.out.mono ?_
 rintro e w1 ⟨ba, bc, rfl, hB1, hb1⟩
 have hal := (Below.refl w1.heap.size w1).alloc (Nat.le_refl _) (.cells #[.int .i64 G.frame, .slice ba G.blocks.length bc] 24)
 have HB1 : Hid (Below w.heap.size w (w1.alloc (.cells #[.int .i64 G.frame, .slice ba G.blocks.length bc] 24))) := hb1.trans (hal.mono hb1.size)
 have HX1 : Hid (Blk (w1.alloc (.cells #[.int .i64 G.frame, .slice ba G.blocks.length bc] 24)) w1.heap.size 24 #[.int .i64 G.frame, .slice ba G.blocks.length bc]) := Blk.new w1 _ _
 have HG1 := Lib.hid (hB1.out.1.below hal)
 clear hal hB1 hb1 P1
 go_wp2_with fail
 refine (P2.out _ HB1.out).mono ?_
 rintro e w2 ⟨ca, cc, rfl, hC2, hb2⟩
 have hal2 := (Below.refl w2.heap.size w2).alloc (Nat.le_refl _) (.cells #[.int .i64 G.frame, .slice ca G.blocks.length cc] 24)
 have HB2 : Hid (Below w.heap.size w (w2.alloc (.cells #[.int .i64 G.frame, .slice ca G.blocks.length cc] 24))) := HB1.out.trans ((hb2.trans (hal2.mono hb2.size)).mono HB1.out.size)
 have HX2 : Hid (Blk (w2.alloc (.cells #[.int .i64 G.frame, .slice ca G.blocks.length cc] 24)) w1.heap.size 24 #[.int .i64 G.frame, .slice ba G.blocks.length bc]) := (HX1.out.below hb2 HX1.out.lt).alloc _
 have HY2 : Hid (Blk (w2.alloc (.cells #[.int .i64 G.frame, .slice ca G.blocks.length cc] 24)) w2.heap.size 24 #[.int .i64 G.frame, .slice ca G.blocks.length cc]) := Blk.new w2 _ _
 have HG2 := Lib.hid ((HG1.out.below hb2).below hal2)
 have HC2 := Lib.hid (hC2.out.1.below hal2)
 clear hal2 hC2 hb2 P2 HG1 HX1 HB1
 go_upto_region 5 with fail
 generalize w2.alloc (.cells #[.int .i64 G.frame, .slice ca G.blocks.length cc] 24) = W2 at *
 have x0 : W2.cell? ⟨w1.heap.size, 0, none⟩ = some (.int .i64 G.frame) := HX2.out.cell 0
 have x1 : W2.cell? ⟨w1.heap.size, 1, none⟩ = some (.slice ba G.blocks.length bc) := HX2.out.cell 1
 have y0 : W2.cell? ⟨w2.heap.size, 0, none⟩ = some (.int .i64 G.frame) := HY2.out.cell 0
 have y1 : W2.cell? ⟨w2.heap.size, 1, none⟩ = some (.slice ca G.blocks.length cc) := HY2.out.cell 1
 go_wp2_with fail
 refine (ST.out ba ca bc cc W2 HG2.out HC2.out).mono ?_
 rintro e w3 ⟨rfl, hb3⟩
 have HB3 : Hid (Below w.heap.size w w3) := HB2.out.trans (hb3.mono HB2.out.size)
 clear hb3 ST HG2 HC2 HX2 HY2 x0 x1 y0 y1
 go_wp2_with fail
 refine (AW.out w3 HB3.out).mono ?_
 rintro e w4 ⟨rfl, hb4⟩
 have HB4 : Hid (Below w.heap.size w w4) := HB3.out.trans (hb4.mono HB3.out.size)
 clear hb4
 go_wp2
 go_ret
 exact ⟨rfl, HB4.out⟩
end Go.Proofs.YtbjmbahpcoanoaaGreatDoor
namespace Go.Proofs.YtbjmbahpcoanoaaGreatDoor
open Go.RowKit

set_option maxRecDepth 100000 in
set_option maxHeartbeats 4000000 in
theorem same7_any (s : ByteArray) (w : World) (hT : TabA w) (hz : s.size ≤ 100000) : Calls Tryz.prog 41 #[.string s] w fun e w' => e = .returned (.bool true) ∧ Below w.heap.size w w' := by
 have HTA : Hid (∀ W, Below w.heap.size w W → TabA W) := fun W h => hT.below h
 have P1 := Lib.hid (parse_any s w hT.r)
 have P2 : Hid (∀ W, Below w.heap.size w W → Calls Tryz.prog 15 #[.string s] W fun e w' => ToldT s W w' e) := fun W h => parse7_any s W (HTA.out W h).r.pow (by omega)
 have ST : Hid (∀ (ba ba' : Option Addr) (bc bc' : Nat) (W : World), BlsW W ba (prG s).blocks → BlsW W ba' (prG s).blocks → _) := fun ba ba' bc bc' W h1 h2 => sameTarget_same (prG s) ba ba' bc bc' W (pr_few s (by omega)) h1 h2
 unfold ToldT at P1 P2
 unfold tgV tgC at P1 P2 ST
 generalize prG s = G at *
 generalize prL s = RL at *
 generalize prC s = RC at *
 generalize prE s = RE at *
 clear hT HTA
 go_enter Tryz.func41, Tryz.ntmps41
 go_wp2_with fail
 refine P1.out.mono ?_
 rintro e w1 ⟨ba, bc, rfl, hB1, hb1⟩
 have hal := (Below.refl w1.heap.size w1).alloc (Nat.le_refl _) (.cells #[.int .i64 G.frame, .slice ba G.blocks.length bc] 24)
 have HB1 : Hid (Below w.heap.size w (w1.alloc (.cells #[.int .i64 G.frame, .slice ba G.blocks.length bc] 24))) := hb1.trans (hal.mono hb1.size)
 have HX1 : Hid (Blk (w1.alloc (.cells #[.int .i64 G.frame, .slice ba G.blocks.length bc] 24)) w1.heap.size 24 #[.int .i64 G.frame, .slice ba G.blocks.length bc]) := Blk.new w1 _ _
 have HG1 := Lib.hid (hB1.out.1.below hal)
 clear hal hB1 hb1 P1
 go_wp2_with fail
 refine (P2.out _ HB1.out).mono ?_
 rintro e w2 ⟨ca, cc, rfl, hC2, hb2⟩
 have hal2 := (Below.refl w2.heap.size w2).alloc (Nat.le_refl _) (.cells #[.int .i64 G.frame, .slice ca G.blocks.length cc] 24)
 have HB2 : Hid (Below w.heap.size w (w2.alloc (.cells #[.int .i64 G.frame, .slice ca G.blocks.length cc] 24))) := HB1.out.trans ((hb2.trans (hal2.mono hb2.size)).mono HB1.out.size)
 have HX2 : Hid (Blk (w2.alloc (.cells #[.int .i64 G.frame, .slice ca G.blocks.length cc] 24)) w1.heap.size 24 #[.int .i64 G.frame, .slice ba G.blocks.length bc]) := (HX1.out.below hb2 HX1.out.lt).alloc _
 have HY2 : Hid (Blk (w2.alloc (.cells #[.int .i64 G.frame, .slice ca G.blocks.length cc] 24)) w2.heap.size 24 #[.int .i64 G.frame, .slice ca G.blocks.length cc]) := Blk.new w2 _ _
 have HG2 := Lib.hid ((HG1.out.below hb2).below hal2)
 have HC2 := Lib.hid (hC2.out.1.below hal2)
 clear hal2 hC2 hb2 P2 HG1 HX1 HB1
 go_upto_region 3 with fail
 generalize w2.alloc (.cells #[.int .i64 G.frame, .slice ca G.blocks.length cc] 24) = W2 at *
 have x0 : W2.cell? ⟨w1.heap.size, 0, none⟩ = some (.int .i64 G.frame) := HX2.out.cell 0
 have x1 : W2.cell? ⟨w1.heap.size, 1, none⟩ = some (.slice ba G.blocks.length bc) := HX2.out.cell 1
 have y0 : W2.cell? ⟨w2.heap.size, 0, none⟩ = some (.int .i64 G.frame) := HY2.out.cell 0
 have y1 : W2.cell? ⟨w2.heap.size, 1, none⟩ = some (.slice ca G.blocks.length cc) := HY2.out.cell 1
 go_wp2_with fail
 refine (ST.out ba ca bc cc W2 HG2.out HC2.out).mono ?_
 rintro e w3 ⟨rfl, hb3⟩
 have HB3 : Hid (Below w.heap.size w w3) := HB2.out.trans (hb3.mono HB2.out.size)
 clear hb3 ST HG2 HC2 HX2 HY2 x0 x1 y0 y1
 go_wp2
 go_ret
 exact ⟨rfl, HB3.out⟩
end Go.Proofs.YtbjmbahpcoanoaaGreatDoor
