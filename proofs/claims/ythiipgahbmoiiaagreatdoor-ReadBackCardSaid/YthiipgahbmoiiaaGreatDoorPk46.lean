/-
  What is written is read, what is read is written; a right function of few blocks can be written (plainly). No condition beyond those that each theorem states.
  The same blocks, the same functions are told to be the same. No condition beyond those that each theorem states.
-/
import Derived.Test.YthiipgahbmoiiaaGreatDoorPk44
import Derived.Test.YthiipgahbmoiiaaGreatDoorPk45
import Derived.Test.YthiipgahbmoiiaaGreatDoorPk31
import Derived.Test.YthiipgahbmoiiaaGreatDoorPk4
import Derived.Deep.RegionHeld3
namespace Go.Proofs.YthiipgahbmoiiaaGreatDoor

/-- What Parse tells can be written, where it tells no error; else there is none. -/
theorem pf_can {s : ByteArray} (h : pfE s = 0) : canF (pfF s) = true := by
  have h0 : (startC s).fqC.eErr = 0 := by
    unfold pfE at h
    split at h
    · cases h
    · exact h
  unfold pfF
  rw [if_pos h]
  exact read_canF h0
/-- A right function of at most 64 blocks can be written. -/
theorem right_canF {f : Ff} (h : RightIs f 0) (hb : f.blocks.length ≤ 64) : canF f = true := by
  have hs : shapeN f = 0 := by
    by_cases hs : shapeN f = 0
    · exact hs
    · exact absurd (h.shape hs).symm hs
  have hg : goesB f = true := by
    cases hg : goesB f
    · have := h.lost hs (.inl hg)
      cases this
    · rfl
  obtain ⟨hl, hd⟩ := shape_zero hs
  have hl2 := hl
  unfold isLongB at hl2
  simp only [Bool.or_eq_false_iff, beq_eq_false_iff_ne, decide_eq_false_iff_not] at hl2
  obtain ⟨⟨⟨h0, _⟩, hp⟩, hi⟩ := hl2
  have hd2 := hd
  unfold shapedB at hd2
  simp only [Bool.and_eq_true] at hd2
  refine canF_intro (fun b hb2 => ?_) ⟨by omega, hb⟩ (by omega) (shaped_params hd) (params_nodup _ _ hd2.1).1
  obtain ⟨p1, p2⟩ := shaped_blocks hd hb2
  have h4 := (List.any_eq_false.1 hi) b hb2
  refine ⟨by simpa using h4, p1, p2, List.any_eq_false.2 fun t ht => ?_⟩
  unfold goesB at hg
  have h5 := (List.all_eq_true.1 ((List.all_eq_true.1 hg) b hb2)) t ht
  simp only [Bool.and_eq_true, decide_eq_true_eq] at h5
  rw [far_ok (by omega)]
  decide
end Go.Proofs.YthiipgahbmoiiaaGreatDoor
namespace Go.Proofs.YthiipgahbmoiiaaGreatDoor
open Go.RowKit

theorem arr2_size : (Tryz.prog.info? 48).map (·.size) = some 2 := by kernel_rfl
theorem run_part_arr2 (a b c d : Value) (w : World) : (part 48 #[a, b, c, d] 2).run Tryz.prog w = .ok (.agg #[c, d]) w := by
  obtain ⟨j, hj, hjs⟩ := Option.map_eq_some_iff.1 arr2_size
  simp [part, isAgg, run_underlying Tryz.underlying48, sizeOf, typeInfo, hj, hjs]
theorem eql_term (t : Tt) (W : World) : (Op.equalIn 10000 50 (.agg #[.int .i64 t.kind, .int .i64 t.a, .int .i64 t.t0, .int .i64 t.t1]) (.agg #[.int .i64 t.kind, .int .i64 t.a, .int .i64 t.t0, .int .i64 t.t1])).run Tryz.prog W = .ok true W := by
  rw [show (10000 : Nat) = 9999 + 1 from rfl, run_equalIn_struct W 9999 50 _ _ (by kernel_rfl) (by kernel_rfl)]
  simp only [Program.fieldsOf, Tryz.underlying50, Op.eqFields]
  simp only [show ("Kind" : String) ≠ "_" by decide, show ("A" : String) ≠ "_" by decide, show ("To" : String) ≠ "_" by decide, ne_eq, not_false_eq_true, if_true, Sem.run_bind, Sem.run_ite]
  rw [run_part_int (v := .int .i64 t.kind) Tryz.underlying47 (by rfl)]
  simp only [Result.andThen_ok]
  rw [run_part_int (v := .int .i64 t.kind) Tryz.underlying47 (by rfl)]
  simp only [Result.andThen_ok]
  rw [run_equalIn_int W 9998 _ .i64 .i64 _ _ Tryz.underlying47]
  simp only [Result.andThen_ok, beq_self_eq_true, Bool.not_true, Bool.false_eq_true, if_false]
  rw [run_part_int (v := .int .i64 t.a) Tryz.underlying3 (by rfl)]
  simp only [Result.andThen_ok]
  rw [run_part_int (v := .int .i64 t.a) Tryz.underlying3 (by rfl)]
  simp only [Result.andThen_ok]
  rw [run_equalIn_int W 9998 _ .i64 .i64 _ _ Tryz.underlying3]
  simp only [Result.andThen_ok, beq_self_eq_true, Bool.not_true, Bool.false_eq_true, if_false]
  rw [run_part_arr2]
  simp only [Result.andThen_ok]
  rw [run_part_arr2]
  simp only [Result.andThen_ok]
  rw [eql_arr2_at 9998 (fun x y W => run_equalIn_int W 9997 _ .i64 .i64 x y Tryz.underlying3)]
  simp [Result.andThen_ok]
set_option maxHeartbeats 1000000 in
set_option maxRecDepth 100000 in
theorem sameIns_same (x : Ii) (a a' : Option Addr) (c c' : Nat) (w : World) (hl : x.args.length ≤ 1000000) (hI : IntsW w a x.args) (hJ : IntsW w a' x.args) :
    Calls Tryz.prog 154 #[insV x a c, insV x a' c'] w fun e w' => e = .returned (.bool true) ∧ Below w.heap.size w w' := by
  have HX : Hid (Blk ((w.alloc (.cells (insC x a c) 45)).alloc (.cells (insC x a' c') 45)) w.heap.size 45 (insC x a c)) := Lib.hid ((Blk.new w _ _).alloc _)
  have HY : Hid (Blk ((w.alloc (.cells (insC x a c) 45)).alloc (.cells (insC x a' c') 45)) (w.heap.size + 1) 45 (insC x a' c')) := Lib.hid (new_two w _ _ _)
  have HW : Hid (Below w.heap.size w ((w.alloc (.cells (insC x a c) 45)).alloc (.cells (insC x a' c') 45))) := Lib.hid (((Below.refl _ w).alloc (Nat.le_refl _) _).alloc (by simp) _)
  have HC := Lib.hid (sameInts_any x.args x.args a a' c c' _ (by omega) (by omega) (hI.below HW.out) (hJ.below HW.out))
  rw [decide_eq_true rfl] at HC
  clear hI hJ
  have q0 : (x.op == x.op) = true := by simp
  have q1 : (x.dst == x.dst) = true := by simp
  have q2 : (x.a == x.a) = true := by simp
  have q3 : (x.b == x.b) = true := by simp
  have q4 : (x.imm == x.imm) = true := by simp
  have q5 : (x.callee == x.callee) = true := by simp
  have q7 : (x.many == x.many) = true := by simp
  unfold insV
  go_enter Tryz.func154, Tryz.ntmps154
  go_wp2_with fail
  refine HC.out.mono ?_
  rintro e w1 ⟨rfl, hb⟩
  have HX1 := Lib.hid (HX.out.below hb HX.out.lt)
  have HY1 := Lib.hid (HY.out.below hb HY.out.lt)
  have HW1 : Hid (Below w.heap.size w w1) := Lib.hid (HW.out.trans (hb.mono HW.out.size))
  clear hb HX HY HW HC
  have c7 : w1.cell? ⟨w.heap.size, 7, none⟩ = some (.int .i64 x.many) := HX1.out.cell 7
  have d7 : w1.cell? ⟨w.heap.size + 1, 7, none⟩ = some (.int .i64 x.many) := HY1.out.cell 7
  go_wp2
  go_ret
  exact ⟨rfl, HW1.out⟩
set_option maxHeartbeats 2000000 in
set_option maxRecDepth 100000 in
theorem sameRow_same (l : List Ii) (a a' : Option Addr) (c c' : Nat) (w : World) (hl : l.length ≤ 1000000) (hl2 : ∀ x ∈ l, x.args.length ≤ 1000000) (hI : InsW w a l) (hJ : InsW w a' l) :
    Calls Tryz.prog 114 #[.slice a l.length c, .slice a' l.length c'] w fun e w' => e = .returned (.bool true) ∧ Below w.heap.size w w' := by
  have HI := Lib.hid hI
  have HJ := Lib.hid hJ
  have HL2 := Lib.hid hl2
  clear hI hJ hl2
  have h' : ((l.length : Int) == l.length) = true := by simp
  have h'' : ((l.length : Int) != l.length) = false := by simp
  go_enter Tryz.func114, Tryz.ntmps114
  go_wp2
  go_loopw [5] (fun k wr => ∃ j : Nat, k = .int .i64 j ∧ j ≤ l.length ∧ Below w.heap.size w wr) (fun k _ => l.length - (intOf k).toNat)
  case atStart => exact ⟨0, rfl, Nat.zero_le _, Below.refl _ _⟩
  case round =>
    obtain ⟨j, rfl, hj, hW⟩ := hrel
    have HW := Lib.hid hW
    clear hW
    by_cases hlt : j < l.length
    · have hlt' : (j : Int) < l.length := by omega
      have hj0 : (0 : Int) ≤ j := by omega
      obtain ⟨x, hx⟩ : ∃ x, l[j]? = some x := ⟨_, List.getElem?_eq_getElem hlt⟩
      obtain ⟨g, o, ia, ic, rfl, hg, hc⟩ := (HI.out.below HW.out) j x hx
      obtain ⟨g2, o2, ia2, ic2, rfl, hg2, hc2⟩ := (HJ.out.below HW.out) j x hx
      have HLX := Lib.hid (HL2.out x (List.mem_of_getElem? hx))
      have HC1 := Lib.hid hc
      have HC2 := Lib.hid hc2
      have HG := Lib.hid hg
      have HG2 := Lib.hid hg2
      clear hc hc2 hx hg hg2
      have CS : Hid (∀ W, Below wr.heap.size wr W → Calls Tryz.prog 154 #[insV x ia ic, insV x ia2 ic2] W fun e w' => e = .returned (.bool true) ∧ Below wr.heap.size wr w') := Lib.hid fun W h =>
        (sameIns_same x ia ia2 ic ic2 W HLX.out (HC1.out.args.below h) (HC2.out.args.below h)).mono fun _ _ ⟨he, h2⟩ => ⟨he, h.trans (h2.mono h.size)⟩
      unfold insV at CS
      go_wp2_with fail
      go_region_held3 (fun w' => Below wr.heap.size wr w' ∧ w'.cell? ⟨g, o + j * 8, none⟩ = some (.int .i64 x.op) ∧ w'.cell? ⟨g, o + j * 8 + 1, none⟩ = some (.int .i64 x.dst) ∧ w'.cell? ⟨g, o + j * 8 + 2, none⟩ = some (.int .i64 x.a) ∧ w'.cell? ⟨g, o + j * 8 + 3, none⟩ = some (.int .i64 x.b) ∧ w'.cell? ⟨g, o + j * 8 + 4, none⟩ = some (.int .i64 x.imm) ∧ w'.cell? ⟨g, o + j * 8 + 5, none⟩ = some (.int .i64 x.callee) ∧ w'.cell? ⟨g, o + j * 8 + 6, none⟩ = some (.slice ia x.args.length ic) ∧ w'.cell? ⟨g, o + j * 8 + 7, none⟩ = some (.int .i64 x.many) ∧ w'.cell? ⟨g2, o2 + j * 8, none⟩ = some (.int .i64 x.op) ∧ w'.cell? ⟨g2, o2 + j * 8 + 1, none⟩ = some (.int .i64 x.dst) ∧ w'.cell? ⟨g2, o2 + j * 8 + 2, none⟩ = some (.int .i64 x.a) ∧ w'.cell? ⟨g2, o2 + j * 8 + 3, none⟩ = some (.int .i64 x.b) ∧ w'.cell? ⟨g2, o2 + j * 8 + 4, none⟩ = some (.int .i64 x.imm) ∧ w'.cell? ⟨g2, o2 + j * 8 + 5, none⟩ = some (.int .i64 x.callee) ∧ w'.cell? ⟨g2, o2 + j * 8 + 6, none⟩ = some (.slice ia2 x.args.length ic2) ∧ w'.cell? ⟨g2, o2 + j * 8 + 7, none⟩ = some (.int .i64 x.many))
        (first
          | exact ⟨hb7, (HC1.out.below HG.out hb7).c0, (HC1.out.below HG.out hb7).c1, (HC1.out.below HG.out hb7).c2, (HC1.out.below HG.out hb7).c3, (HC1.out.below HG.out hb7).c4, (HC1.out.below HG.out hb7).c5, (HC1.out.below HG.out hb7).c6, (HC1.out.below HG.out hb7).c7, (HC2.out.below HG2.out hb7).c0, (HC2.out.below HG2.out hb7).c1, (HC2.out.below HG2.out hb7).c2, (HC2.out.below HG2.out hb7).c3, (HC2.out.below HG2.out hb7).c4, (HC2.out.below HG2.out hb7).c5, (HC2.out.below HG2.out hb7).c6, (HC2.out.below HG2.out hb7).c7⟩
          | exact ⟨(Below.refl _ wr).drew, (HC1.out).c0, (HC1.out).c1, (HC1.out).c2, (HC1.out).c3, (HC1.out).c4, (HC1.out).c5, (HC1.out).c6, (HC1.out).c7, (HC2.out).c0, (HC2.out).c1, (HC2.out).c2, (HC2.out).c3, (HC2.out).c4, (HC2.out).c5, (HC2.out).c6, (HC2.out).c7⟩)
        (first
          | (go_at_call 154; refine (CS.out _ (by go_split_ands; assumption)).mono ?_; rintro e w7 ⟨rfl, hb7⟩))
      have HW7 : Hid (Below w.heap.size w w7) := Lib.hid (HW.out.trans (hb7.mono HW.out.size))
      rename_i hHeld
      clear hHeld hb7
      go_wp2
      go_roundw
      case rel => exact ⟨j + 1, by go_num, by omega, HW7.out⟩
      case measure => simp [intOf]; omega
    · have e : j = l.length := by omega
      subst e
      have hlt' : ¬ (l.length : Int) < l.length := by omega
      go_wp2
      go_ret
      exact ⟨rfl, HW.out⟩
end Go.Proofs.YthiipgahbmoiiaaGreatDoor
namespace Go.Proofs.YthiipgahbmoiiaaGreatDoor
open Go.RowKit

set_option maxHeartbeats 1000000 in
set_option maxRecDepth 100000 in
theorem sameBlock_same (x : Bb) (a a' : Option Addr) (c c' : Nat) (w : World) (hl : x.ins.length ≤ 1000000) (hl2 : ∀ y ∈ x.ins, y.args.length ≤ 1000000) (hI : InsW w a x.ins) (hJ : InsW w a' x.ins) :
    Calls Tryz.prog 73 #[blV x a c, blV x a' c'] w fun e w' => e = .returned (.bool true) ∧ Below w.heap.size w w' := by
  have HX : Hid (Blk ((w.alloc (.cells (blC x a c) 52)).alloc (.cells (blC x a' c') 52)) w.heap.size 52 (blC x a c)) := Lib.hid ((Blk.new w _ _).alloc _)
  have HY : Hid (Blk ((w.alloc (.cells (blC x a c) 52)).alloc (.cells (blC x a' c') 52)) (w.heap.size + 1) 52 (blC x a' c')) := Lib.hid (new_two w _ _ _)
  have HW : Hid (Below w.heap.size w ((w.alloc (.cells (blC x a c) 52)).alloc (.cells (blC x a' c') 52))) := Lib.hid (((Below.refl _ w).alloc (Nat.le_refl _) _).alloc (by simp) _)
  have HC := Lib.hid (sameRow_same x.ins a a' c c' _ hl hl2 (hI.below HW.out) (hJ.below HW.out))
  clear hI hJ
  have hq := fun W => eql_term x.tm W
  unfold blV blC
  go_enter Tryz.func73, Tryz.ntmps73
  go_wp2_with fail
  refine HC.out.mono ?_
  rintro e w1 ⟨rfl, hb⟩
  have HX1 := Lib.hid (HX.out.below hb HX.out.lt)
  have HY1 := Lib.hid (HY.out.below hb HY.out.lt)
  have HW1 : Hid (Below w.heap.size w w1) := Lib.hid (HW.out.trans (hb.mono HW.out.size))
  clear hb HX HY HW HC
  obtain ⟨c0, c1, c2, c3, c4⟩ := box5 HX1.out
  obtain ⟨d0, d1, d2, d3, d4⟩ := box5 HY1.out
  go_wp2
  go_ret
  exact ⟨rfl, HW1.out⟩
set_option maxHeartbeats 2000000 in
set_option maxRecDepth 100000 in
theorem sameBlocks_same (l : List Bb) (a a' : Option Addr) (c c' : Nat) (w : World) (hl : l.length ≤ 1000000) (hl2 : ∀ x ∈ l, x.ins.length ≤ 1000000 ∧ ∀ y ∈ x.ins, y.args.length ≤ 1000000) (hI : BlsW w a l) (hJ : BlsW w a' l) :
    Calls Tryz.prog 44 #[.slice a l.length c, .slice a' l.length c'] w fun e w' => e = .returned (.bool true) ∧ Below w.heap.size w w' := by
  have HI := Lib.hid hI
  have HJ := Lib.hid hJ
  have HL2 := Lib.hid hl2
  clear hI hJ hl2
  have h' : ((l.length : Int) == l.length) = true := by simp
  have h'' : ((l.length : Int) != l.length) = false := by simp
  go_enter Tryz.func44, Tryz.ntmps44
  go_wp2
  go_loopw [5] (fun k wr => ∃ j : Nat, k = .int .i64 j ∧ j ≤ l.length ∧ Below w.heap.size w wr) (fun k _ => l.length - (intOf k).toNat)
  case atStart => exact ⟨0, rfl, Nat.zero_le _, Below.refl _ _⟩
  case round =>
    obtain ⟨j, rfl, hj, hW⟩ := hrel
    have HW := Lib.hid hW
    clear hW
    by_cases hlt : j < l.length
    · have hlt' : (j : Int) < l.length := by omega
      have hj0 : (0 : Int) ≤ j := by omega
      obtain ⟨x, hx⟩ : ∃ x, l[j]? = some x := ⟨_, List.getElem?_eq_getElem hlt⟩
      obtain ⟨g, o, ia, ic, rfl, hg, hc⟩ := (HI.out.below HW.out) j x hx
      obtain ⟨g2, o2, ia2, ic2, rfl, hg2, hc2⟩ := (HJ.out.below HW.out) j x hx
      have HLX := Lib.hid (HL2.out x (List.mem_of_getElem? hx))
      have HC1 := Lib.hid hc
      have HC2 := Lib.hid hc2
      have HG := Lib.hid hg
      have HG2 := Lib.hid hg2
      clear hc hc2 hx hg hg2
      have CS : Hid (∀ W, Below wr.heap.size wr W → Calls Tryz.prog 73 #[blV x ia ic, blV x ia2 ic2] W fun e w' => e = .returned (.bool true) ∧ Below wr.heap.size wr w') := Lib.hid fun W h =>
        (sameBlock_same x ia ia2 ic ic2 W HLX.out.1 HLX.out.2 (HC1.out.ins.below h) (HC2.out.ins.below h)).mono fun _ _ ⟨he, h2⟩ => ⟨he, h.trans (h2.mono h.size)⟩
      unfold blV blC at CS
      go_wp2_with fail
      go_region_held3 (fun w' => Below wr.heap.size wr w' ∧ w'.cell? ⟨g, o + j * 5, none⟩ = some (.slice ia x.ins.length ic) ∧ w'.cell? ⟨g, o + j * 5 + 1, none⟩ = some (.int .i64 x.tm.kind) ∧ w'.cell? ⟨g, o + j * 5 + 2, none⟩ = some (.int .i64 x.tm.a) ∧ w'.cell? ⟨g, o + j * 5 + 3, none⟩ = some (.int .i64 x.tm.t0) ∧ w'.cell? ⟨g, o + j * 5 + 4, none⟩ = some (.int .i64 x.tm.t1) ∧ w'.cell? ⟨g2, o2 + j * 5, none⟩ = some (.slice ia2 x.ins.length ic2) ∧ w'.cell? ⟨g2, o2 + j * 5 + 1, none⟩ = some (.int .i64 x.tm.kind) ∧ w'.cell? ⟨g2, o2 + j * 5 + 2, none⟩ = some (.int .i64 x.tm.a) ∧ w'.cell? ⟨g2, o2 + j * 5 + 3, none⟩ = some (.int .i64 x.tm.t0) ∧ w'.cell? ⟨g2, o2 + j * 5 + 4, none⟩ = some (.int .i64 x.tm.t1))
        (first
          | exact ⟨hb7, (HC1.out.below HG.out hb7).c0, (HC1.out.below HG.out hb7).c1, (HC1.out.below HG.out hb7).c2, (HC1.out.below HG.out hb7).c3, (HC1.out.below HG.out hb7).c4, (HC2.out.below HG2.out hb7).c0, (HC2.out.below HG2.out hb7).c1, (HC2.out.below HG2.out hb7).c2, (HC2.out.below HG2.out hb7).c3, (HC2.out.below HG2.out hb7).c4⟩
          | exact ⟨(Below.refl _ wr).drew, (HC1.out).c0, (HC1.out).c1, (HC1.out).c2, (HC1.out).c3, (HC1.out).c4, (HC2.out).c0, (HC2.out).c1, (HC2.out).c2, (HC2.out).c3, (HC2.out).c4⟩)
        (first
          | (go_at_call 73; refine (CS.out _ (by go_split_ands; assumption)).mono ?_; rintro e w7 ⟨rfl, hb7⟩))
      have HW7 : Hid (Below w.heap.size w w7) := Lib.hid (HW.out.trans (hb7.mono HW.out.size))
      rename_i hHeld
      clear hHeld hb7
      go_wp2
      go_roundw
      case rel => exact ⟨j + 1, by go_num, by omega, HW7.out⟩
      case measure => simp [intOf]; omega
    · have e : j = l.length := by omega
      subst e
      have hlt' : ¬ (l.length : Int) < l.length := by omega
      go_wp2
      go_ret
      exact ⟨rfl, HW.out⟩
set_option maxHeartbeats 1000000 in
set_option maxRecDepth 100000 in
theorem sameFunc_same (f : Ff) (pa ba pa' ba' : Option Addr) (pc bc pc' bc' : Nat) (w : World) (hs : SmallF f) (hF : FnW w f pa pc ba bc) (hG : FnW w f pa' pc' ba' bc') :
    Calls Tryz.prog 16 #[fnV f pa pc ba bc, fnV f pa' pc' ba' bc'] w fun e w' => e = .returned (.bool true) ∧ Below w.heap.size w w' := by
  have HX : Hid (Blk ((w.alloc (.cells (fnC f pa pc ba bc) 25)).alloc (.cells (fnC f pa' pc' ba' bc') 25)) w.heap.size 25 (fnC f pa pc ba bc)) := Lib.hid ((Blk.new w _ _).alloc _)
  have HY : Hid (Blk ((w.alloc (.cells (fnC f pa pc ba bc) 25)).alloc (.cells (fnC f pa' pc' ba' bc') 25)) (w.heap.size + 1) 25 (fnC f pa' pc' ba' bc')) := Lib.hid (new_two w _ _ _)
  have HW : Hid (Below w.heap.size w ((w.alloc (.cells (fnC f pa pc ba bc) 25)).alloc (.cells (fnC f pa' pc' ba' bc') 25))) := Lib.hid (((Below.refl _ w).alloc (Nat.le_refl _) _).alloc (by simp) _)
  have HF := Lib.hid hF
  have HGF := Lib.hid hG
  have HC := Lib.hid (sameInts_any f.params f.params pa pa' pc pc' _ (by have := hs.p; omega) (by have := hs.p; omega) (hF.params.below HW.out) (hG.params.below HW.out))
  rw [decide_eq_true rfl] at HC
  have HS := Lib.hid hs
  clear hF hG hs
  unfold fnV fnC
  go_enter Tryz.func16, Tryz.ntmps16
  go_wp2_with fail
  refine HC.out.mono ?_
  rintro e w1 ⟨rfl, hb⟩
  have HX1 := Lib.hid (HX.out.below hb HX.out.lt)
  have HY1 := Lib.hid (HY.out.below hb HY.out.lt)
  have HW1 : Hid (Below w.heap.size w w1) := Lib.hid (HW.out.trans (hb.mono HW.out.size))
  clear hb HX HY HW HC
  obtain ⟨c0, c1⟩ := box2 HX1.out
  obtain ⟨d0, d1⟩ := box2 HY1.out
  have HC := Lib.hid (sameBlocks_same f.blocks ba ba' bc bc' w1 HS.out.b HS.out.i (HF.out.blocks.below HW1.out) (HGF.out.blocks.below HW1.out))
  go_wp2_with fail
  refine HC.out.mono ?_
  rintro e w2 ⟨rfl, hb⟩
  have HW2 : Hid (Below w.heap.size w w2) := Lib.hid (HW1.out.trans (hb.mono HW1.out.size))
  clear hb HC c0 c1 d0 d1
  go_wp2
  go_ret
  exact ⟨rfl, HW2.out⟩
end Go.Proofs.YthiipgahbmoiiaaGreatDoor
