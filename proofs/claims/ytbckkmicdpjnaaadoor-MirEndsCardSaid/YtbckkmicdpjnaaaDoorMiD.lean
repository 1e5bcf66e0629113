/-
  Whether a target is right, how great it is: package mir's own answers. No condition beyond those that each theorem states.
-/
import Derived.Test.YtbckkmicdpjnaaaDoorMiC
import Derived.Test.YtbckkmicdpjnaaaDoorMaG
namespace Go.Proofs.YtbckkmicdpjnaaaDoor
open Go.RowKit

def tgC (t : Gg) (ba : Option Addr) (bc : Nat) : Array Value := #[.int .i64 t.frame, .slice ba t.blocks.length bc]
def tgV (t : Gg) (ba : Option Addr) (bc : Nat) : Value := .agg (tgC t ba bc)
theorem boxG {W : World} {g : Nat} {ty : TypeId} {t : Gg} {ba : Option Addr} {bc : Nat} (h : Blk W g ty (tgC t ba bc)) :
    W.cell? ⟨g, 0, none⟩ = some (.int .i64 t.frame) ∧ W.cell? ⟨g, 1, none⟩ = some (.slice ba t.blocks.length bc) := ⟨h.cell 0, h.cell 1⟩
structure SmallG (t : Gg) : Prop where
  b : t.blocks.length ≤ 1000000
  i : ∀ x ∈ t.blocks, x.ins.length ≤ 1000000 ∧ ∀ i ∈ x.ins, i.args.length ≤ 1000000
/-- The function that asks blocks, for the target in that box. -/
def askV (R : Nat) : Value := .func (.func 29) #[] #[.pointer (some ⟨R, 0, none⟩)]
set_option maxHeartbeats 1000000 in
set_option maxRecDepth 100000 in
theorem ask_any (t : Gg) (ba : Option Addr) (bc R : Nat) (l : List Int) (a : Option Addr) (c : Nat) (w : World) (hl : l.length ≤ 140737488355328) (hI : IntsW w a l) (hR : Blk w R 37 (tgC t ba bc)) :
    Calls Tryd.prog 29 #[.slice a l.length c, .pointer (some ⟨R, 0, none⟩)] w fun e w' => e = .returned (.bool (belowB t.blocks.length l)) ∧ w = w' := by
  obtain ⟨c0, c1⟩ := boxG hR
  have HC := Lib.hid (areBelow_any t.blocks.length l a c w hl hI)
  clear hI hR
  go_enter Tryd.func29, Tryd.ntmps29
  go_wp2_with fail
  refine HC.out.mono ?_
  rintro e w1 ⟨rfl, rfl⟩
  go_wp2
  go_ret
  exact ⟨rfl, rfl⟩
set_option maxHeartbeats 4000000 in
set_option maxRecDepth 100000 in
theorem ofEnd_any (m : Mm) (aa sa : Option Addr) (ac sc : Nat) (t : Gg) (ba : Option Addr) (bc R : Nat) (x : Tt) (w : World) (hR : Blk w R 37 (tgC t ba bc)) :
    Calls Tryd.prog 32 #[machV m aa ac sa sc, askV R, termV x] w fun e w' => e = .returned (.int .i64 (ofEndN m t.blocks.length x)) ∧ Below w.heap.size w w' := by
  have HT0 := Lib.hid (TwoT.new w m aa sa ac sc x)
  have HE := Lib.hid (ofEndN.eq_1 m t.blocks.length x)
  have VE := Lib.hid (fun W => isEndT_any x W)
  have VR := Lib.hid (fun W => readsWellT_any m aa sa ac sc x W)
  have HM := Lib.hid (maxC.eq_1 m aa ac sa sc)
  have HC := Lib.hid (tmC.eq_1 x)
  have HR := Lib.hid hR
  rw [HM.out, HC.out] at HT0
  unfold machV at VR
  unfold termV at VR VE
  rw [HM.out] at VR
  clear hR
  unfold machV termV askV
  rw [HM.out]
  go_enter Tryd.func32, Tryd.ntmps32
  go_wp2_with fail
  refine (VE.out _).mono ?_
  rintro e w1 ⟨rfl, hb⟩
  have HT := Lib.hid (HT0.out.below hb)
  clear hb HT0
  obtain ⟨d0, d1, d2, d3⟩ := boxT HT.out.tm
  obtain ⟨c0, c1, c2, c3⟩ := boxMa HT.out.mc
  cases h1 : isEndT x
  · rw [if_neg (by rw [h1]; decide)] at HE
    go_wp2
    go_ret
    exact ⟨by rw [HE.out]; rfl, HT.out.be⟩
  rw [if_pos h1] at HE
  clear h1
  go_wp2_with fail
  refine (VR.out _).mono ?_
  rintro e w2 ⟨rfl, hb⟩
  have HT2 := Lib.hid (HT.out.below hb)
  clear hb HT d0 d1 d2 d3 c0 c1 c2 c3
  obtain ⟨d0, d1, d2, d3⟩ := boxT HT2.out.tm
  cases h2 : readsWellT m x
  · rw [if_neg (by rw [h2]; decide)] at HE
    go_wp2
    go_ret
    exact ⟨by rw [HE.out]; rfl, HT2.out.be⟩
  rw [if_pos h2] at HE
  clear h2
  have HT3 := Lib.hid (HT2.out.alloc (.cells #[.int .i64 x.t0, .int .i64 x.t1] 3))
  have HA := Lib.hid (ask_any t ba bc R [x.t0, x.t1] (some ⟨w2.heap.size, 0, none⟩) 2 (w2.alloc (.cells #[.int .i64 x.t0, .int .i64 x.t1] 3)) (by simp) (ints_two (Blk.new _ _ _)) (HR.out.below HT3.out.be HR.out.lt))
  go_wp2_with fail
  refine HA.out.mono ?_
  rintro e w3 ⟨rfl, rfl⟩
  cases h3 : belowB t.blocks.length [x.t0, x.t1]
  · rw [if_neg (by rw [h3]; decide)] at HE
    go_wp2
    go_ret
    exact ⟨by rw [HE.out]; rfl, HT3.out.be⟩
  · rw [if_pos h3] at HE
    go_wp2
    go_ret
    exact ⟨by rw [HE.out]; rfl, HT3.out.be⟩
set_option maxHeartbeats 4000000 in
set_option maxRecDepth 100000 in
theorem isSmallT_any (t : Gg) (ba : Option Addr) (bc : Nat) (w : World) (hS : SmallG t) (hB : BlsW w ba t.blocks) :
    Calls Tryd.prog 28 #[tgV t ba bc] w fun e w' => e = .returned (.bool (smallT t)) ∧ Below w.heap.size w w' := by
  have HBL := Lib.hid hB
  have HS := Lib.hid hS
  have hb := hS.b
  have HE := Lib.hid (smallT.eq_1 t)
  have HX0 : Hid (Blk (w.alloc (.cells (tgC t ba bc) 37)) w.heap.size 37 (tgC t ba bc)) := Blk.new w _ _
  have HW0 : Hid (Below w.heap.size w (w.alloc (.cells (tgC t ba bc) 37))) := (Below.refl _ w).alloc (Nat.le_refl _) _
  clear hB hS
  unfold tgV tgC
  go_enter Tryd.func28, Tryd.ntmps28
  by_cases h0 : t.blocks.length = 0
  · have q0 : ((t.blocks.length : Int) == 0) = true := by simp [h0]
    have e0 : (t.blocks.length == 0) = true := by simp [h0]
    rw [e0] at HE
    clear h0 e0
    go_wp2
    go_ret
    exact ⟨by rw [HE.out]; simp, HW0.out⟩
  have q0 : ((t.blocks.length : Int) == 0) = false := by rw [beq_eq_false_iff_ne]; omega
  have e0 : (t.blocks.length == 0) = false := by simp [h0]
  rw [e0] at HE
  by_cases h1 : 200 < t.blocks.length
  · have q1 : (200 : Int) < t.blocks.length := by omega
    rw [decide_eq_true h1] at HE
    go_wp2
    go_ret
    exact ⟨by rw [HE.out]; simp, HW0.out⟩
  have q1 : ¬ (200 : Int) < t.blocks.length := by omega
  have e1 : decide (200 < t.blocks.length) = false := by simpa using h1
  rw [e1] at HE
  by_cases h2 : t.frame < 0
  · rw [decide_eq_true h2] at HE
    go_wp2
    go_ret
    exact ⟨by rw [HE.out]; simp, HW0.out⟩
  have e2 : decide (t.frame < 0) = false := by simpa using h2
  rw [e2] at HE
  by_cases h3 : 400 < t.frame
  · rw [decide_eq_true h3] at HE
    go_wp2
    go_ret
    exact ⟨by rw [HE.out]; simp, HW0.out⟩
  have e3 : decide (400 < t.frame) = false := by simpa using h3
  rw [e3] at HE
  clear e0 e1 e2 e3
  go_wp2
  go_loopw [28] (fun k wr => ∃ j : Nat, k = .int .i64 j ∧ j ≤ t.blocks.length ∧ Hid (smallT t = ((t.blocks.drop j).all fun b => !(decide (4000 < b.ins.length)))) ∧ Blk wr w.heap.size 37 (tgC t ba bc) ∧ Below w.heap.size w wr) (fun k _ => t.blocks.length - (intOf k).toNat)
  case atStart => exact ⟨0, rfl, Nat.zero_le _, by have := HE.out; simpa [Hid] using this, HX0.out, HW0.out⟩
  case round =>
    obtain ⟨j, rfl, hj, HA, hX, hB⟩ := hrel
    have HX := Lib.hid hX
    have HB := Lib.hid hB
    clear hX hB HX0 HW0 HE
    by_cases hlt : j < t.blocks.length
    · have hlt' : (j : Int) < t.blocks.length := by omega
      have hj0 : (0 : Int) ≤ j := by omega
      obtain ⟨y, hy⟩ : ∃ y, t.blocks[j]? = some y := ⟨_, List.getElem?_eq_getElem hlt⟩
      obtain ⟨g, o, ya, yc, rfl, hg, hc⟩ := (HBL.out.below HB.out) j y hy
      have hyi := (HS.out.i y (List.mem_of_getElem? hy)).1
      have HD : Hid (smallT t = (!(decide (4000 < y.ins.length)) && ((t.blocks.drop (j + 1)).all fun b => !(decide (4000 < b.ins.length))))) := by
        show _ = _
        rw [HA.out, List.drop_eq_getElem_cons hlt, (List.getElem?_eq_some_iff.1 hy).2]
        rfl
      have c0 := hc.c0
      have c1 := hc.c1
      have c2 := hc.c2
      have c3 := hc.c3
      have c4 := hc.c4
      have HW2 : Hid (Below wr.heap.size wr (wr.alloc (.cells (blC y ya yc) 34))) := (Below.refl _ wr).alloc (Nat.le_refl _) _
      clear hy HA hc
      by_cases h64 : 4000 < y.ins.length
      · have q64 : (4000 : Int) < y.ins.length := by omega
        rw [decide_eq_true h64] at HD
        go_wp2
        go_ret
        exact ⟨by rw [HD.out]; simp, HB.out.trans (HW2.out.mono HB.out.size)⟩
      · have q64 : ¬ (4000 : Int) < y.ins.length := by omega
        have e64 : decide (4000 < y.ins.length) = false := by simpa using h64
        rw [e64] at HD
        go_wp2
        go_roundw
        case rel => exact ⟨j + 1, by go_num, by omega, by have := HD.out; simpa [Hid] using this, HX.out.alloc _, HB.out.trans (HW2.out.mono HB.out.size)⟩
        case measure => simp [intOf]; omega
    · have e : j = t.blocks.length := by omega
      subst e
      go_wp2
      go_ret
      refine ⟨?_, HB.out⟩
      rw [HA.out]
      simp
end Go.Proofs.YtbckkmicdpjnaaaDoor
