/-
  The error that a function has in its parts is told as the plain function says. No condition beyond those that each theorem states.
-/
import Derived.Test.YtgpbpbhidemciaaGreatIrU
namespace Go.Proofs.YtgpbpbhidemciaaGreat
open Go.RowKit

set_option maxHeartbeats 1000000 in
set_option maxRecDepth 100000 in
theorem shape_any (f : Ff) (pa : Option Addr) (pc : Nat) (ba : Option Addr) (bc : Nat) (w : World) (hS : SmallF f) (hF : FnW w f pa pc ba bc) :
    Calls Tryz.prog 51 #[fnV f pa pc ba bc] w fun e w' => e = .returned (.int .i64 (shapeN f)) ∧ Below w.heap.size w w' := by
  have HF := Lib.hid hF
  have HS := Lib.hid hS
  have hp := hS.p
  have hb := hS.b
  have HE := Lib.hid (shapeN.eq_1 f)
  have HE2 := Lib.hid (shapedB.eq_1 f)
  have HX0 : Hid (Blk (w.alloc (.cells (fnC f pa pc ba bc) 37)) w.heap.size 37 (fnC f pa pc ba bc)) := Blk.new w _ _
  have HW0 : Hid (Below w.heap.size w (w.alloc (.cells (fnC f pa pc ba bc) 37))) := (Below.refl _ w).alloc (Nat.le_refl _) _
  have HC := Lib.hid (isLong_any f pa pc ba bc _ hS (hF.below HW0.out))
  clear hF hS
  unfold fnV fnC at HC
  unfold fnV fnC
  go_enter Tryz.func51, Tryz.ntmps51
  go_wp2_with fail
  refine HC.out.mono ?_
  rintro e w1 ⟨rfl, hb1⟩
  have HX1 : Hid (Blk w1 w.heap.size 37 (fnC f pa pc ba bc)) := HX0.out.below hb1 HX0.out.lt
  have HB1 : Hid (Below w.heap.size w w1) := HW0.out.trans (hb1.mono HW0.out.size)
  clear hb1 HC HX0 HW0
  cases hlong : isLongB f
  case true =>
    rw [hlong] at HE
    go_wp2
    go_ret
    exact ⟨by rw [HE.out]; rfl, HB1.out⟩
  rw [hlong] at HE
  clear hlong
  obtain ⟨c0, c1⟩ := box2 HX1.out
  have HC := Lib.hid (areParams_any f.params pa pc w1 (by omega) (HF.out.below HB1.out).params)
  go_wp2_with fail
  refine HC.out.mono ?_
  rintro e w2 ⟨rfl, hb2⟩
  have HX2 : Hid (Blk w2 w.heap.size 37 (fnC f pa pc ba bc)) := HX1.out.below hb2 HX1.out.lt
  have HB2 : Hid (Below w.heap.size w w2) := HB1.out.trans (hb2.mono HB1.out.size)
  clear hb2 HC HX1 HB1 c0 c1
  obtain ⟨c0, c1⟩ := box2 HX2.out
  cases hpar : paramsB [] f.params
  case false =>
    rw [hpar] at HE2
    have HE3 : Hid (shapeN f = 2) := by
      show _ = _
      rw [HE.out, HE2.out]
      rfl
    go_wp2
    go_ret
    exact ⟨by rw [HE3.out]; rfl, HB2.out⟩
  rw [hpar] at HE2
  have HE3 : Hid (shapeN f = if f.blocks.all isBlockB then 0 else 2) := by
    show _ = _
    rw [HE.out, HE2.out]
    simp
  clear HE HE2
  go_wp2
  go_loopw [16] (fun k wr => ∃ j : Nat, k = .int .i64 j ∧ j ≤ f.blocks.length ∧ Hid (shapeN f = if (f.blocks.drop j).all isBlockB then 0 else 2) ∧ Below w.heap.size w wr) (fun k _ => f.blocks.length - (intOf k).toNat)
  case atStart => exact ⟨0, rfl, Nat.zero_le _, HE3.out, HB2.out⟩
  case round =>
    obtain ⟨j, rfl, hj, HA, hB⟩ := hrel
    have HB := Lib.hid hB
    clear hB HX2 HB2 HE3 c0 c1
    by_cases hlt : j < f.blocks.length
    · have hlt' : (j : Int) < f.blocks.length := by omega
      have hj0 : (0 : Int) ≤ j := by omega
      obtain ⟨y, hy⟩ : ∃ y, f.blocks[j]? = some y := ⟨_, List.getElem?_eq_getElem hlt⟩
      obtain ⟨g, o, ya, yc, rfl, hg, hc⟩ := (HF.out.below HB.out).blocks j y hy
      have hyi := HS.out.i y (List.mem_of_getElem? hy)
      have HD : Hid (shapeN f = if isBlockB y && (f.blocks.drop (j + 1)).all isBlockB then 0 else 2) := by
        show _ = _
        rw [HA.out, List.drop_eq_getElem_cons hlt, (List.getElem?_eq_some_iff.1 hy).2]
        rfl
      have c0 := hc.c0
      have c1 := hc.c1
      have c2 := hc.c2
      have c3 := hc.c3
      have c4 := hc.c4
      have HW2 : Hid (Below wr.heap.size wr (wr.alloc (.cells (blC y ya yc) 34))) := (Below.refl _ wr).alloc (Nat.le_refl _) _
      have HC := Lib.hid (isBlock_any y ya yc _ hyi.1 hyi.2 (hc.ins.below HW2.out))
      unfold blV blC at HC
      clear hy HA hc
      go_wp2_with fail
      refine HC.out.mono ?_
      rintro e w3 ⟨rfl, hb3⟩
      have HB3 : Hid (Below w.heap.size w w3) := HB.out.trans ((HW2.out.trans (hb3.mono HW2.out.size)).mono HB.out.size)
      clear hb3 HC c0 c1 c2 c3 c4 HW2 HB
      cases hi : isBlockB y
      · rw [hi] at HD
        go_wp2
        go_ret
        exact ⟨by rw [HD.out]; rfl, HB3.out⟩
      · rw [hi] at HD
        go_wp2
        go_roundw
        case rel => exact ⟨j + 1, by go_num, by omega, by have := HD.out; simpa [Hid] using this, HB3.out⟩
        case measure => simp [intOf]; omega
    · have e : j = f.blocks.length := by omega
      subst e
      go_wp2
      go_ret
      refine ⟨?_, HB.out⟩
      rw [HA.out]
      simp
end Go.Proofs.YtgpbpbhidemciaaGreat
