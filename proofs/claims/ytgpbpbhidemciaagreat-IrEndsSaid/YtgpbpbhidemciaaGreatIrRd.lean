/-
  How many operands, arguments there are at most, as the code tells. No condition beyond those that each theorem states.
-/
import Derived.Test.YtgpbpbhidemciaaGreatIrRb
import Derived.Deep.CutRange
namespace Go.Proofs.YtgpbpbhidemciaaGreat
open Go.RowKit

theorem max_int (n m : Nat) : (Max.max (n : Int) (m : Int)) = ((Max.max n m : Nat) : Int) := by omega
set_option maxHeartbeats 4000000 in
set_option maxRecDepth 100000 in
theorem rmost_any (f : Ff) (pa : Option Addr) (pc : Nat) (ba : Option Addr) (bc : Nat) (w : World) (hS : SmallF f) (hF : FnW w f pa pc ba bc) :
    Calls Tryz.prog 28 #[fnV f pa pc ba bc] w fun e w' => e = .returned (.tuple #[.int .i64 (mostO f), .int .i64 (mostA f)]) ∧ Below w.heap.size w w' := by
  have HF := Lib.hid hF
  have HS := Lib.hid hS
  have hb := hS.b
  have HX0 : Hid (Blk (w.alloc (.cells (fnC f pa pc ba bc) 37)) w.heap.size 37 (fnC f pa pc ba bc)) := Blk.new w _ _
  have HW0 : Hid (Below w.heap.size w (w.alloc (.cells (fnC f pa pc ba bc) 37))) := (Below.refl _ w).alloc (Nat.le_refl _) _
  have HC := Lib.hid (rlong_any f pa pc ba bc (w.alloc (.cells (fnC f pa pc ba bc) 37)) hS (hF.below HW0.out))
  clear hF hS
  unfold fnV fnC at HC
  unfold fnV fnC
  go_enter Tryz.func28, Tryz.ntmps28
  go_wp2_with fail
  refine HC.out.mono ?_
  rintro e w1 ⟨rfl, hb1⟩
  have HX1 : Hid (Blk w1 w.heap.size 37 (fnC f pa pc ba bc)) := HX0.out.below hb1 HX0.out.lt
  have HB1 : Hid (Below w.heap.size w w1) := HW0.out.trans (hb1.mono HW0.out.size)
  clear hb1 HC HX0 HW0
  obtain ⟨c0, c1⟩ := box2 HX1.out
  cases hlg : isLongB f
  case true =>
    have HE : Hid (mostO f = 0 ∧ mostA f = 0) := by
      have : ¬ shapeN f = 0 := fun h => by have := ((shape_is f).1 h).1; rw [hlg] at this; cases this
      exact Lib.hid ⟨if_neg this, if_neg this⟩
    go_wp2
    go_ret2
    exact ⟨by rw [HE.out.1, HE.out.2]; rfl, HB1.out⟩
  have HC := Lib.hid (rshaped_any f pa pc ba bc w1 HS.out (HF.out.below HB1.out))
  unfold fnV fnC at HC
  go_wp2_with fail
  refine HC.out.mono ?_
  rintro e w2 ⟨rfl, hb1⟩
  have HX2 : Hid (Blk w2 w.heap.size 37 (fnC f pa pc ba bc)) := HX1.out.below hb1 HX1.out.lt
  have HB2 : Hid (Below w.heap.size w w2) := HB1.out.trans (hb1.mono HB1.out.size)
  clear hb1 HC HX1 HB1 c0 c1
  cases hsh : shapedB f
  case false =>
    have HE : Hid (mostO f = 0 ∧ mostA f = 0) := by
      have : ¬ shapeN f = 0 := fun h => by have := ((shape_is f).1 h).2; rw [hsh] at this; cases this
      exact Lib.hid ⟨if_neg this, if_neg this⟩
    go_wp2
    go_ret2
    exact ⟨by rw [HE.out.1, HE.out.2]; rfl, HB2.out⟩
  have hsp : shapeN f = 0 := (shape_is f).2 ⟨hlg, hsh⟩
  have HSH := Lib.hid hsp
  have HE : Hid (mostO f = mostBO 0 f.blocks ∧ mostA f = mostBA f.params.length f.blocks) := Lib.hid ⟨if_pos hsp, if_pos hsp⟩
  clear hlg hsh hsp
  obtain ⟨c0, c1⟩ := box2 HX2.out
  go_wp2_with fail
  go_region
  go_wp2
  clear c0 c1
  have HX2 := Lib.hid HX2.out.drew
  have HB2 := Lib.hid HB2.out.drew
  go_loopw [4, 5, 6] (fun v u k wr => ∃ j n m : Nat, v = .int .i64 n ∧ u = .int .i64 m ∧ k = .int .i64 j ∧ j ≤ f.blocks.length ∧ Hid (mostO f = mostBO n (f.blocks.drop j) ∧ mostA f = mostBA m (f.blocks.drop j)) ∧ Blk wr w.heap.size 37 (fnC f pa pc ba bc) ∧ Below w.heap.size w wr) (fun _ _ k _ => f.blocks.length - (intOf k).toNat)
  case atStart => exact ⟨0, 0, f.params.length, rfl, rfl, rfl, Nat.zero_le _, HE, HX2.out, HB2.out⟩
  case round =>
    obtain ⟨j, n, m, rfl, rfl, rfl, hj, HA, hX, hB⟩ := hrel
    clear HX2 HB2 HE
    have HB := Lib.hid hB
    have HX := Lib.hid hX
    clear hB hX
    obtain ⟨x0, x1⟩ := box2 HX.out
    by_cases hlt : j < f.blocks.length
    · have hlt' : (j : Int) < f.blocks.length := by omega
      have hj0 : (0 : Int) ≤ j := by omega
      obtain ⟨y, hy⟩ : ∃ y, f.blocks[j]? = some y := ⟨_, List.getElem?_eq_getElem hlt⟩
      obtain ⟨g, o, ya, yc, rfl, hg, hc⟩ := (HF.out.below HB.out).blocks j y hy
      have hyi := HS.out.i y (List.mem_of_getElem? hy)
      have hyl := hyi.1
      have HYI := Lib.hid hyi
      have HYS := Lib.hid (shaped_ins HSH.out (List.mem_of_getElem? hy))
      have HD : Hid (mostO f = mostBO (max (mostIO n y.ins) (givenL [y.tm.a]).length) (f.blocks.drop (j + 1)) ∧ mostA f = mostBA (mostIA m y.ins) (f.blocks.drop (j + 1))) := by
        show _ ∧ _
        rw [HA.out.1, HA.out.2, List.drop_eq_getElem_cons hlt, (List.getElem?_eq_some_iff.1 hy).2]
        exact ⟨rfl, rfl⟩
      have c0 := hc.c0
      have HCB := Lib.hid hc
      have HG := Lib.hid hg
      clear hy HA hc hg hyi
      obtain ⟨W1, rfl⟩ : ∃ W, W = wr := ⟨wr, rfl⟩
      go_wp2
      go_loopw [4, 5, 7] (fun v u k w2 => ∃ i n1 m1 : Nat, v = .int .i64 n1 ∧ u = .int .i64 m1 ∧ k = .int .i64 i ∧ i ≤ y.ins.length ∧ Hid (mostIO n y.ins = mostIO n1 (y.ins.drop i) ∧ mostIA m y.ins = mostIA m1 (y.ins.drop i)) ∧ Blk w2 w.heap.size 37 (fnC f pa pc (some ⟨g, o, none⟩) bc) ∧ Below W1.heap.size W1 w2) (fun _ _ k _ => y.ins.length - (intOf k).toNat)
      case atStart => exact ⟨0, n, m, rfl, rfl, rfl, Nat.zero_le _, Lib.hid ⟨rfl, rfl⟩, HX.out, Below.refl _ _⟩
      case round =>
        obtain ⟨i, n1, m1, rfl, rfl, rfl, hi, HE, hX, hB2⟩ := hrel
        clear HX x0 x1 c0
        have HX := Lib.hid hX
        have HB2 := Lib.hid hB2
        clear hX hB2
        obtain ⟨x0, x1⟩ := box2 HX.out
        have HCC := Lib.hid (HCB.out.below HG.out HB2.out)
        have c0 := HCC.out.c0
        by_cases hi2 : i < y.ins.length
        · have hi3 : (i : Int) < y.ins.length := by omega
          have hi0 : (0 : Int) ≤ i := by omega
          obtain ⟨z, hz⟩ : ∃ z, y.ins[i]? = some z := ⟨_, List.getElem?_eq_getElem hi2⟩
          obtain ⟨g1, o1, za, zc, he1, hg1, hz1⟩ := HCC.out.ins i z hz
          subst he1
          have HZL := HYI.out.2 z (List.mem_of_getElem? hz)
          have HZS := Lib.hid (HYS.out.1 z (List.mem_of_getElem? hz))
          have HXB : Hid (Below W1.heap.size W1 (wr.alloc (.cells (insC z za zc) 25))) := Lib.hid (HB2.out.alloc HB2.out.size _)
          have HD2 : Hid (mostIO n y.ins = mostIO (max n1 (opsN z)) (y.ins.drop (i + 1)) ∧ mostIA m y.ins = mostIA (max m1 z.args.length) (y.ins.drop (i + 1))) := by
            show _ ∧ _
            rw [HE.out.1, HE.out.2, List.drop_eq_getElem_cons hi2, (List.getElem?_eq_some_iff.1 hz).2]
            exact ⟨rfl, rfl⟩
          have d0 := hz1.c0
          have d1 := hz1.c1
          have d2 := hz1.c2
          have d3 := hz1.c3
          have d4 := hz1.c4
          have d5 := hz1.c5
          have d6 := hz1.c6
          have d7 := hz1.c7
          have hmx := max_int m1 z.args.length
          by_cases h13 : z.op = 13
          · have q13 : (z.op == 13) = true := by simp [h13]
            rw [call_none HZS.out h13] at HD2
            clear hz hz1 HE h13
            go_wp2
            go_roundw
            case rel => exact ⟨i + 1, n1, max m1 z.args.length, rfl, by go_num, by go_num, by omega, by have := HD2.out; rw [Nat.max_zero] at this; exact this, HX.out.alloc _, HXB.out⟩
            case measure => simp [intOf]; omega
          · have q13 : (z.op == 13) = false := by simp [h13]
            have ho := op_none HZS.out h13
            have HRR := Lib.hid (rel_own2 (rreads_any z za zc (wr.alloc (.cells (insC z za zc) 25)) (by omega) hz1.nil (hz1.args.below ((Below.refl _ wr).alloc (Nat.le_refl _) _))))
            rw [ho.2] at HRR
            rw [ho.1, List.length_nil, Nat.max_zero] at HD2
            unfold insV at HRR
            have HX3 := Lib.hid (HX.out.alloc (.cells (insC z za zc) 25))
            have hmo := max_int n1 (opsN z)
            clear hz hz1 HE h13 ho
            go_wp2_with fail
            refine HRR.out.mono ?_
            rintro e w3 ⟨v, c, rfl, hb3⟩
            have HX4 := Lib.hid (HX3.out.below hb3 HX3.out.lt)
            have HB4 : Hid (Below W1.heap.size W1 w3) := Lib.hid (HXB.out.trans (hb3.mono HXB.out.size))
            clear hb3 HRR d0 d1 d2 d3 d4 d5 d6 d7
            go_wp2
            go_roundw
            case rel => exact ⟨i + 1, max n1 (opsN z), m1, by go_num, rfl, by go_num, by omega, HD2, HX4.out, HB4.out⟩
            case measure => simp [intOf]; omega
        · have e : i = y.ins.length := by omega
          subst e
          have hi3 : ¬ (y.ins.length : Int) < y.ins.length := by omega
          have HI9 : Hid (mostIO n y.ins = n1 ∧ mostIA m y.ins = m1) := by
            show _ ∧ _
            rw [HE.out.1, HE.out.2, List.drop_length]
            exact ⟨rfl, rfl⟩
          have c1 := HCC.out.c1
          have c2 := HCC.out.c2
          have c3 := HCC.out.c3
          have c4 := HCC.out.c4
          have HRT := Lib.hid (rel_own2 (rneeds_any y.tm wr))
          have hnd : needsL y.tm = givenL [y.tm.a] := if_pos HYS.out.2
          rw [hnd] at HRT
          unfold termV at HRT
          have hmo := max_int n1 (givenL [y.tm.a]).length
          clear HE hnd
          go_wp2_with fail
          refine HRT.out.mono ?_
          rintro e w3 ⟨v, c, rfl, hb3⟩
          have HX3 := Lib.hid (HX.out.below hb3 HX.out.lt)
          have HB3 : Hid (Below w.heap.size w w3) := Lib.hid ((HB.out.trans (HB2.out.mono HB.out.size)).trans (hb3.mono (Nat.le_trans HB.out.size HB2.out.size)))
          clear hb3 HRT c1 c2 c3 c4
          go_wp2
          go_roundw
          case rel => exact ⟨j + 1, max n1 (givenL [y.tm.a]).length, m1, by go_num, rfl, by go_num, by omega, by have := HD.out; rw [HI9.out.1, HI9.out.2] at this; exact this, HX3.out, HB3.out⟩
          case measure => simp [intOf]; omega
    · have e : j = f.blocks.length := by omega
      subst e
      have hlt' : ¬ (f.blocks.length : Int) < f.blocks.length := by omega
      go_wp2
      go_ret2
      refine ⟨?_, HB.out⟩
      rw [HA.out.1, HA.out.2, List.drop_length]
      rfl
end Go.Proofs.YtgpbpbhidemciaaGreat
namespace Go.Proofs.YtgpbpbhidemciaaGreat
open Go.RowKit

set_option maxHeartbeats 2000000 in
set_option maxRecDepth 100000 in
theorem noteM_any (l : List Int) (a : Option Addr) (c R n : Nat) (w : World) (hl : l.length ≤ 1000000) (hI : IntsW w a l) (hB : Blk w R 3 #[.int .i64 n]) :
    Calls Tryz.prog 52 #[.slice a l.length c, .pointer (some ⟨R, 0, none⟩)] w fun e w' => e = .returned (.tuple #[]) ∧ Blk w' R 3 #[.int .i64 ((max n (givenL l).length : Nat) : Int)] ∧ Keep w.heap.size R w w' := by
  have HB := Lib.hid hB
  have c0 : w.cell? ⟨R, 0, none⟩ = some (.int .i64 n) := hB.cell 0
  have HC := Lib.hid (fun W (h : Below w.heap.size w W) => given_any l a c W hl (hI.below h))
  have hmx := max_int n (givenL l).length
  have f0 := hB.free 0
  clear hB hI
  go_enter Tryz.func52, Tryz.ntmps52
  go_wp2_with fail
  go_region_with (go_at_call 37; refine (HC.out w.drew (Below.refl _ w).drew).mono ?_; rintro e w1 ⟨v, rfl, ho, hb⟩; obtain ⟨va, vc, rfl, _, _⟩ := OwnI.shape ho; have HB1 : Hid (Blk w1 R 3 #[.int .i64 n]) := Lib.hid (HB.out.drew.below hb HB.out.lt); have k0 : w1.cell? ⟨R, 0, none⟩ = some (.int .i64 n) := HB1.out.cell 0; have g0 := HB1.out.free 0; have HK := Lib.hid ((Keep.drew w.heap.size R w).trans (Keep.of_below hb R)); clear hb ho)
  all_goals go_wp2
  all_goals
    (try simp only [Exit.inBlock, Exit.then])
    refine bodyPost_end (results_none rfl _ _ _) rfl ?_
    refine ⟨rfl, ?_, HK.out.trans (Keep.put _ _ _ _ _)⟩
    first
      | (rw [show max n (givenL l).length = (givenL l).length by omega]; exact HB1.out.put 0 _)
      | (rw [show max n (givenL l).length = n by omega]; exact HB1.out.put 0 _)
      | (rw [← hmx]; exact HB1.out.put 0 _)
set_option maxHeartbeats 4000000 in
set_option maxRecDepth 100000 in
theorem most_any (f : Ff) (pa : Option Addr) (pc : Nat) (ba : Option Addr) (bc : Nat) (w : World) (hS : SmallF f) (hF : FnW w f pa pc ba bc) :
    Calls Tryz.prog 27 #[fnV f pa pc ba bc] w fun e w' => e = .returned (.tuple #[.int .i64 (mostO f), .int .i64 (mostA f)]) ∧ Below w.heap.size w w' := by
  have HF := Lib.hid hF
  have HS := Lib.hid hS
  have hp := hS.p
  have hb := hS.b
  have HX0 : Hid (Blk ((w.alloc (.cells (fnC f pa pc ba bc) 37)).alloc (.cells #[.int .i64 0] 3)) w.heap.size 37 (fnC f pa pc ba bc)) := Lib.hid ((Blk.new w _ _).alloc _)
  have HR0 : Hid (Blk ((w.alloc (.cells (fnC f pa pc ba bc) 37)).alloc (.cells #[.int .i64 0] 3)) (w.heap.size + 1) 3 #[.int .i64 0]) := Lib.hid (new_two' w _ _ _)
  have HW0 : Hid (Below w.heap.size w ((w.alloc (.cells (fnC f pa pc ba bc) 37)).alloc (.cells #[.int .i64 0] 3))) := Lib.hid (((Below.refl _ w).alloc (Nat.le_refl _) _).alloc (by simp) _)
  have HC := Lib.hid (shape_any f pa pc ba bc ((w.alloc (.cells (fnC f pa pc ba bc) 37)).alloc (.cells #[.int .i64 0] 3)) hS (hF.below HW0.out))
  clear hF hS
  unfold fnV fnC at HC
  unfold fnV fnC
  go_enter Tryz.func27, Tryz.ntmps27
  go_wp2_with fail
  refine HC.out.mono ?_
  rintro e w1 ⟨rfl, hb1⟩
  have HX1 : Hid (Blk w1 w.heap.size 37 (fnC f pa pc ba bc)) := HX0.out.below hb1 HX0.out.lt
  have HR1 : Hid (Blk w1 (w.heap.size + 1) 3 #[.int .i64 0]) := HR0.out.below hb1 HR0.out.lt
  have HB1 : Hid (Below w.heap.size w w1) := HW0.out.trans (hb1.mono HW0.out.size)
  clear hb1 HC HX0 HW0 HR0
  have r0 : w1.cell? ⟨w.heap.size + 1, 0, none⟩ = some (.int .i64 0) := HR1.out.cell 0
  have s0 := HR1.out.free 0
  by_cases hsh : shapeN f = 0
  case neg =>
    have hq : (shapeN f != 0) = true := by simp [hsh]
    have HE : Hid (mostO f = 0 ∧ mostA f = 0) := Lib.hid ⟨if_neg hsh, if_neg hsh⟩
    clear hsh
    go_wp2
    have HR2 := HR1.out.put 0 (.int .i64 0)
    have k0 : (w1.setCell ⟨w.heap.size + 1, 0, none⟩ (.int .i64 0)).cell? ⟨w.heap.size + 1, 0, none⟩ = some (.int .i64 0) := HR2.cell 0
    refine bodyPost_ret (v := .tuple #[.int .i64 0, .int .i64 0]) (by simp [results, Tryz.results27, go_sem, k0]) rfl ?_
    exact ⟨by rw [HE.out.1, HE.out.2]; rfl, HB1.out.setCell (p := ⟨w.heap.size + 1, 0, none⟩) (by show _ ≤ w.heap.size + 1; omega) _⟩
  have hq : (shapeN f != 0) = false := by simp [hsh]
  have HE : Hid (mostO f = mostBO 0 (f.blocks.drop 0) ∧ mostA f = mostBA f.params.length (f.blocks.drop 0)) := Lib.hid ⟨if_pos hsh, if_pos hsh⟩
  clear hsh
  have hR0 : w.heap.size ≤ w.heap.size + 1 := by omega
  generalize w.heap.size + 1 = R at *
  obtain ⟨c0, c1⟩ := box2 HX1.out
  go_wp2
  clear c0 c1 r0 s0
  go_loopw [3, 19] (fun u k wr => ∃ j n m : Nat, u = .int .i64 m ∧ k = .int .i64 j ∧ j ≤ f.blocks.length ∧ Hid (mostO f = mostBO n (f.blocks.drop j) ∧ mostA f = mostBA m (f.blocks.drop j)) ∧ Blk wr R 3 #[.int .i64 n] ∧ Below w.heap.size w wr) (fun _ k _ => f.blocks.length - (intOf k).toNat)
  case atStart => exact ⟨0, 0, f.params.length, rfl, rfl, Nat.zero_le _, HE, HR1.out, HB1.out⟩
  case round =>
    obtain ⟨j, n, m, rfl, rfl, hj, HA, hSn, hB⟩ := hrel
    have HSn := Lib.hid hSn
    have HB := Lib.hid hB
    clear hSn hB HR1 HB1 HX1 HE
    by_cases hlt : j < f.blocks.length
    · have hlt' : (j : Int) < f.blocks.length := by omega
      have hj0 : (0 : Int) ≤ j := by omega
      obtain ⟨x, hx⟩ : ∃ x, f.blocks[j]? = some x := ⟨_, List.getElem?_eq_getElem hlt⟩
      obtain ⟨g, o, xa, xc, rfl, hg, hcw⟩ := HF.out.blocks j x hx
      have hc := hcw.below hg HB.out
      have hxl := (HS.out.i x (List.mem_of_getElem? hx)).1
      have HXS := Lib.hid ((HS.out.i x (List.mem_of_getElem? hx)).2)
      have HNS := Lib.hid hcw.ins
      have HD : Hid (mostO f = mostBO (max (mostIO n (x.ins.drop 0)) (givenL [x.tm.a]).length) (f.blocks.drop (j + 1)) ∧ mostA f = mostBA (mostIA m (x.ins.drop 0)) (f.blocks.drop (j + 1))) := by
        show _ ∧ _
        rw [HA.out.1, HA.out.2, List.drop_eq_getElem_cons hlt, (List.getElem?_eq_some_iff.1 hx).2]
        exact ⟨rfl, rfl⟩
      have c0 := hc.c0
      have c1 := hc.c1
      have c2 := hc.c2
      have c3 := hc.c3
      have c4 := hc.c4
      have HY : Hid (Blk (wr.alloc (.cells #[.slice xa x.ins.length xc, .int .i64 x.tm.kind, .int .i64 x.tm.a, .int .i64 x.tm.t0, .int .i64 x.tm.t1] 34)) wr.heap.size 34 (blC x xa xc)) := Blk.new wr _ _
      have HSn2 : Hid (Blk (wr.alloc (.cells #[.slice xa x.ins.length xc, .int .i64 x.tm.kind, .int .i64 x.tm.a, .int .i64 x.tm.t0, .int .i64 x.tm.t1] 34)) R 3 #[.int .i64 n]) := HSn.out.alloc _
      have HB2 : Hid (Below w.heap.size w (wr.alloc (.cells #[.slice xa x.ins.length xc, .int .i64 x.tm.kind, .int .i64 x.tm.a, .int .i64 x.tm.t0, .int .i64 x.tm.t1] 34))) := HB.out.alloc HB.out.size _
      have hwrs : w.heap.size ≤ wr.heap.size := HB.out.size
      clear hx hc hcw HA HSn HB
      have hX0 := hwrs
      go_wp2
      clear c0 c1 c2 c3 c4
      generalize (wr.alloc (.cells #[.slice xa x.ins.length xc, .int .i64 x.tm.kind, .int .i64 x.tm.a, .int .i64 x.tm.t0, .int .i64 x.tm.t1] 34)) = W1 at *
      generalize wr.heap.size = X0 at *
      go_loopw [3, 26] (fun u k wr2 => ∃ i n1 m1 : Nat, u = .int .i64 m1 ∧ k = .int .i64 i ∧ i ≤ x.ins.length ∧ Hid (mostO f = mostBO (max (mostIO n1 (x.ins.drop i)) (givenL [x.tm.a]).length) (f.blocks.drop (j + 1)) ∧ mostA f = mostBA (mostIA m1 (x.ins.drop i)) (f.blocks.drop (j + 1))) ∧ Blk wr2 R 3 #[.int .i64 n1] ∧ Blk wr2 X0 34 (blC x xa xc) ∧ Below w.heap.size w wr2) (fun _ k _ => x.ins.length - (intOf k).toNat)
      case atStart => exact ⟨0, n, m, rfl, rfl, Nat.zero_le _, HD, HSn2.out, HY.out, HB2.out⟩
      case round =>
        obtain ⟨i, n1, m1, rfl, rfl, hi, HA2, hSn, hY, hB⟩ := hrel
        have HS5 := Lib.hid hSn
        have HY5 := Lib.hid hY
        have HB5 := Lib.hid hB
        clear hSn hY hB HSn2 HY HB2 HD
        by_cases hlt2 : i < x.ins.length
        · have hlt2' : (i : Int) < x.ins.length := by omega
          have hi0 : (0 : Int) ≤ i := by omega
          obtain ⟨y, hy⟩ : ∃ y, x.ins[i]? = some y := ⟨_, List.getElem?_eq_getElem hlt2⟩
          obtain ⟨g2, o2, ya, yc, rfl, hg2, hc2w⟩ := HNS.out i y hy
          have hc2 := hc2w.below hg2 HB5.out
          have HD2 : Hid (mostO f = mostBO (max (mostIO (max n1 (opsN y)) (x.ins.drop (i + 1))) (givenL [x.tm.a]).length) (f.blocks.drop (j + 1)) ∧ mostA f = mostBA (mostIA (max m1 y.args.length) (x.ins.drop (i + 1))) (f.blocks.drop (j + 1))) := by
            show _ ∧ _
            rw [HA2.out.1, HA2.out.2, List.drop_eq_getElem_cons hlt2, (List.getElem?_eq_some_iff.1 hy).2]
            exact ⟨rfl, rfl⟩
          have h0 := hc2.c0
          have h1 := hc2.c1
          have h2 := hc2.c2
          have h3 := hc2.c3
          have h4 := hc2.c4
          have h5 := hc2.c5
          have h6 := hc2.c6
          have h7 := hc2.c7
          have K0 : Hid (Below wr.heap.size wr (wr.alloc (.cells #[.int .i64 y.op, .int .i64 y.dst, .int .i64 y.a, .int .i64 y.b, .int .i64 y.imm, .int .i64 y.callee, .slice ya y.args.length yc, .int .i64 y.many] 25))) := (Below.refl _ wr).alloc (Nat.le_refl _) _
          have K1 : Hid (Blk (wr.alloc (.cells #[.int .i64 y.op, .int .i64 y.dst, .int .i64 y.a, .int .i64 y.b, .int .i64 y.imm, .int .i64 y.callee, .slice ya y.args.length yc, .int .i64 y.many] 25)) wr.heap.size 25 (insC y ya yc)) := Blk.new wr _ _
          have K2 := Lib.hid (HS5.out.below K0.out HS5.out.lt)
          have K3 := Lib.hid (HY5.out.below K0.out HY5.out.lt)
          have K4 := Lib.hid (HB5.out.trans (K0.out.mono HB5.out.size))
          have hmx := max_int m1 y.args.length
          clear hy hc2 hc2w HA2 HS5 HY5 HB5 K0
          go_upto_region 11 with fail
          clear h0 h1 h2 h3 h4 h5 h6 h7
          generalize (wr.alloc (.cells #[.int .i64 y.op, .int .i64 y.dst, .int .i64 y.a, .int .i64 y.b, .int .i64 y.imm, .int .i64 y.callee, .slice ya y.args.length yc, .int .i64 y.many] 25)) = W2 at *
          generalize wr.heap.size = I0 at *
          have L0 : Hid (Below W2.heap.size W2 (W2.alloc (.cells #[.int .i64 y.a, .int .i64 y.b] 3))) := (Below.refl _ W2).alloc (Nat.le_refl _) _
          have L1 : Hid (IntsW (W2.alloc (.cells #[.int .i64 y.a, .int .i64 y.b] 3)) (some ⟨W2.heap.size, 0, none⟩) [y.a, y.b]) := IntsW.row (Blk.new W2 _ _) (fun k x hx => by
            match k with
            | 0 => simpa using hx
            | 1 => simpa using hx
            | k + 2 => simp at hx)
          have L2 := Lib.hid (noteM_any [y.a, y.b] _ 2 R n1 _ (by simp) L1.out (K2.out.below L0.out K2.out.lt))
          obtain ⟨n0, n1', n2, n3, n4, n5, n6, n7⟩ := box8 K1.out
          go_wp2_with fail
          refine L2.out.mono ?_
          rintro e w3 ⟨rfl, hs3, hk3⟩
          have M1 := Lib.hid (blk_keep (K1.out.below L0.out K1.out.lt) hk3 (ir_ne' K1.out K2.out (by decide)))
          have M2 := Lib.hid hs3
          have M3 := Lib.hid (blk_keep (K3.out.below L0.out K3.out.lt) hk3 (ir_ne' K3.out K2.out (by decide)))
          have M4 := Lib.hid ((K4.out.trans (L0.out.mono K4.out.size)).trans (hk3.below (K4.out.trans (L0.out.mono K4.out.size)).size hR0))
          clear n0 n1' n2 n3 n4 n5 n6 n7 L0 L1 L2 K1 K2 K3 K4 hs3 hk3
          obtain ⟨n0, n1', n2, n3, n4, n5, n6, n7⟩ := box8 M1.out
          go_wp2
          go_roundw
          case rel => exact ⟨i + 1, max n1 (opsN y), max m1 y.args.length, by go_num, by go_num, by omega, HD2, M2.out, M3.out, M4.out⟩
          case measure => simp [intOf]; omega
        · have e : i = x.ins.length := by omega
          subst e
          have HD2 : Hid (mostO f = mostBO (max n1 (givenL [x.tm.a]).length) (f.blocks.drop (j + 1)) ∧ mostA f = mostBA m1 (f.blocks.drop (j + 1))) := by
            show _ ∧ _
            rw [HA2.out.1, HA2.out.2, List.drop_length]
            exact ⟨rfl, rfl⟩
          obtain ⟨d0, d1, d2, d3, d4⟩ := box5 HY5.out
          have L0 : Hid (Below wr.heap.size wr (wr.alloc (.cells #[.int .i64 x.tm.a] 3))) := (Below.refl _ wr).alloc (Nat.le_refl _) _
          have L1 : Hid (IntsW (wr.alloc (.cells #[.int .i64 x.tm.a] 3)) (some ⟨wr.heap.size, 0, none⟩) [x.tm.a]) := IntsW.row (Blk.new wr _ _) (fun k x hx => by
            cases k with
            | zero => simpa using hx
            | succ k => simp at hx)
          have L2 := Lib.hid (noteM_any [x.tm.a] _ 1 R n1 _ (by simp) L1.out (HS5.out.below L0.out HS5.out.lt))
          go_wp2_with fail
          refine L2.out.mono ?_
          rintro e w4 ⟨rfl, hs4, hk4⟩
          have P2 := Lib.hid hs4
          have P4 := Lib.hid ((HB5.out.trans (L0.out.mono HB5.out.size)).trans (hk4.below (HB5.out.trans (L0.out.mono HB5.out.size)).size hR0))
          clear d0 d1 d2 d3 d4 L0 L1 L2 hs4 hk4 HS5 HY5 HB5
          go_wp2
          go_roundw
          case rel => exact ⟨j + 1, max n1 (givenL [x.tm.a]).length, m1, rfl, by go_num, by omega, HD2, P2.out, P4.out⟩
          case measure => simp [intOf]; omega
    · have e : j = f.blocks.length := by omega
      subst e
      have HD : Hid (mostO f = n ∧ mostA f = m) := by
        show _ ∧ _
        rw [HA.out.1, HA.out.2, List.drop_length]
        exact ⟨rfl, rfl⟩
      have r0 : wr.cell? ⟨R, 0, none⟩ = some (.int .i64 n) := HSn.out.cell 0
      have s0 := HSn.out.free 0
      go_wp2
      have HR2 := HSn.out.put 0 (.int .i64 n)
      have k0 : (wr.setCell ⟨R, 0, none⟩ (.int .i64 n)).cell? ⟨R, 0, none⟩ = some (.int .i64 n) := HR2.cell 0
      refine bodyPost_ret (v := .tuple #[.int .i64 n, .int .i64 m]) (by simp [results, Tryz.results27, go_sem, k0]) rfl ?_
      exact ⟨by rw [HD.out.1, HD.out.2], HB.out.setCell (p := ⟨R, 0, none⟩) hR0 _⟩
end Go.Proofs.YtgpbpbhidemciaaGreat
