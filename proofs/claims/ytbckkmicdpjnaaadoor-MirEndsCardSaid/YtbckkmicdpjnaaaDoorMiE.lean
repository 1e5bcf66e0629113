/-
  Which error a target has, for a machine: package mir's own answer. No condition beyond those that each theorem states.
-/
import Derived.Test.YtbckkmicdpjnaaaDoorMiD
namespace Go.Proofs.YtbckkmicdpjnaaaDoor
open Go.RowKit

/-- A machine and a target, each in a box of its own. -/
structure TwoG (w W : World) (m : Mm) (aa sa : Option Addr) (ac sc : Nat) (t : Gg) (ba : Option Addr) (bc : Nat) : Prop where
  mc : Blk W w.heap.size 24 (maxC m aa ac sa sc)
  tg : Blk W (w.heap.size + 1) 37 (tgC t ba bc)
  be : Below w.heap.size w W
theorem TwoG.new (w : World) (m : Mm) (aa sa : Option Addr) (ac sc : Nat) (t : Gg) (ba : Option Addr) (bc : Nat) : TwoG w ((w.alloc (.cells (maxC m aa ac sa sc) 24)).alloc (.cells (tgC t ba bc) 37)) m aa sa ac sc t ba bc := by
  refine ⟨(Blk.new w _ _).alloc _, ?_, ((Below.refl _ w).alloc (Nat.le_refl _) _).alloc (by simp) _⟩
  exact blk_at _ _ (by simp)
section
variable {w W W' : World} {m : Mm} {aa sa : Option Addr} {ac sc : Nat} {t : Gg} {ba : Option Addr} {bc : Nat}
theorem TwoG.below (h : TwoG w W m aa sa ac sc t ba bc) (hb : Below W.heap.size W W') : TwoG w W' m aa sa ac sc t ba bc :=
  ⟨h.mc.below hb h.mc.lt, h.tg.below hb h.tg.lt, h.be.trans (hb.mono h.be.size)⟩
theorem TwoG.alloc (h : TwoG w W m aa sa ac sc t ba bc) (o : Obj) : TwoG w (W.alloc o) m aa sa ac sc t ba bc := h.below ((Below.refl _ W).alloc (Nat.le_refl _) _)
end
set_option maxHeartbeats 8000000 in
set_option maxRecDepth 100000 in
theorem right_any (m : Mm) (aa sa : Option Addr) (ac sc : Nat) (t : Gg) (ba : Option Addr) (bc : Nat) (w : World) (hl : m.args.length ≤ 140737488355328) (hs : m.saved.length ≤ 140737488355328) (hM : MaW w m aa sa) (hB : BlsW w ba t.blocks) (hS : SmallG t) (hT : TabW w) :
    Calls Tryd.prog 7 #[machV m aa ac sa sc, tgV t ba bc] w fun e w' => e = .returned (.int .i64 (rightT m t)) ∧ Below w.heap.size w w' := by
  have HG0 := Lib.hid (TwoG.new w m aa sa ac sc t ba bc)
  have VM := Lib.hid (rightM_any m aa sa ac sc _ hl hs (hM.below HG0.out.be))
  have VS := Lib.hid (fun W (h : Below w.heap.size w W) => isSmallT_any t ba bc W hS (hB.below h))
  have VI := Lib.hid (fun (x : Ii) (a : Option Addr) (c : Nat) (h : x.args.length ≤ 140737488355328) W (hW : Below w.heap.size w W) => ofIns_any m aa sa ac sc t.frame x a c W hl h (hT.below hW))
  have VE := Lib.hid (fun (R : Nat) (x : Tt) W (h : Blk W R 37 (tgC t ba bc)) => ofEnd_any m aa sa ac sc t ba bc R x W h)
  have HE := Lib.hid (rightT.eq_1 m t)
  have HBL := Lib.hid hB
  have HS := Lib.hid hS
  have hbl := hS.b
  have HM := Lib.hid (maxC.eq_1 m aa ac sa sc)
  have HC := Lib.hid (tgC.eq_1 t ba bc)
  rw [HM.out, HC.out] at HG0 VM
  unfold machV at VM VI VE
  unfold tgV at VS
  unfold insV at VI
  unfold termV askV at VE
  rw [HM.out] at VM VI VE
  rw [HC.out] at VS
  clear hM hB hS hT hl hs
  unfold machV tgV
  rw [HM.out, HC.out]
  go_enter Tryd.func7, Tryd.ntmps7
  go_wp2_with fail
  refine VM.out.mono ?_
  rintro e w1 ⟨rfl, hb⟩
  have HG := Lib.hid (HG0.out.below hb)
  clear hb HG0 VM
  obtain ⟨c0, c1, c2, c3⟩ := boxMa HG.out.mc
  obtain ⟨d0, d1⟩ := boxG HG.out.tg
  cases h1 : m.rightB
  · rw [if_neg (by rw [h1]; decide)] at HE
    go_wp2
    go_ret
    exact ⟨by rw [HE.out]; rfl, HG.out.be⟩
  rw [if_pos h1] at HE
  clear h1
  go_wp2_with fail
  refine (VS.out _ HG.out.be).mono ?_
  rintro e w2 ⟨rfl, hb⟩
  have HG2 := Lib.hid (HG.out.below hb)
  clear hb HG VS c0 c1 c2 c3 d0 d1
  obtain ⟨d0, d1⟩ := boxG HG2.out.tg
  cases h2 : smallT t
  · rw [if_neg (by rw [h2]; decide)] at HE
    go_wp2
    go_ret
    exact ⟨by rw [HE.out]; rfl, HG2.out.be⟩
  rw [if_pos h2] at HE
  clear h2
  go_wp2
  clear d0 d1
  go_loopw [24] (fun k wr => ∃ j : Nat, k = .int .i64 j ∧ j ≤ t.blocks.length ∧ Hid (rightT m t = blErr m t.frame t.blocks.length (t.blocks.drop j)) ∧ TwoG w wr m aa sa ac sc t ba bc) (fun k _ => t.blocks.length - (intOf k).toNat)
  case atStart => exact ⟨0, rfl, Nat.zero_le _, HE, HG2.out⟩
  case round =>
    obtain ⟨j, rfl, hj, HA, hG⟩ := hrel
    clear HG2 HE
    have HG := Lib.hid hG
    clear hG
    obtain ⟨d0, d1⟩ := boxG HG.out.tg
    by_cases hlt : j < t.blocks.length
    · have hlt' : (j : Int) < t.blocks.length := by omega
      have hj0 : (0 : Int) ≤ j := by omega
      obtain ⟨y, hy⟩ : ∃ y, t.blocks[j]? = some y := ⟨_, List.getElem?_eq_getElem hlt⟩
      obtain ⟨g, o, ya, yc, rfl, hg, hc⟩ := HBL.out j y hy
      have hyi := HS.out.i y (List.mem_of_getElem? hy)
      have hyl := hyi.1
      have HYI := Lib.hid hyi
      have HD : Hid (rightT m t = if insErr m t.frame y.ins = 0 then (if ofEndN m t.blocks.length y.tm = 0 then blErr m t.frame t.blocks.length (t.blocks.drop (j + 1)) else ofEndN m t.blocks.length y.tm) else insErr m t.frame y.ins) := by
        show _ = _
        rw [HA.out, List.drop_eq_getElem_cons hlt, (List.getElem?_eq_some_iff.1 hy).2]
        rfl
      have hcw := hc.below hg HG.out.be
      have c0 := hcw.c0
      have c1 := hcw.c1
      have c2 := hcw.c2
      have c3 := hcw.c3
      have c4 := hcw.c4
      have HIN := Lib.hid hc.ins
      clear hy HA hc hg hcw hyi
      have HG3 := Lib.hid (HG.out.alloc (.cells (blC y ya yc) 34))
      have HBK : Hid (Blk (wr.alloc (.cells (blC y ya yc) 34)) wr.heap.size 34 (blC y ya yc)) := Blk.new _ _ _
      obtain ⟨W1, hW1⟩ : ∃ W, W = wr := ⟨wr, rfl⟩
      subst hW1
      go_wp2
      clear c0 c1 c2 c3 c4 d0 d1
      go_loopw [31] (fun k w3 => ∃ i : Nat, k = .int .i64 i ∧ i ≤ y.ins.length ∧ Hid (insErr m t.frame y.ins = insErr m t.frame (y.ins.drop i)) ∧ TwoG w w3 m aa sa ac sc t (some ⟨g, o, none⟩) bc ∧ Blk w3 W1.heap.size 34 (blC y ya yc)) (fun k _ => y.ins.length - (intOf k).toNat)
      case atStart => exact ⟨0, rfl, Nat.zero_le _, rfl, HG3.out, HBK.out⟩
      case round =>
        obtain ⟨i, rfl, hi, HF, hG, hBK⟩ := hrel
        clear HG HG3 HBK
        have HG := Lib.hid hG
        have HBK := Lib.hid hBK
        clear hG hBK
        obtain ⟨d0, d1⟩ := boxG HG.out.tg
        obtain ⟨c0, c1, c2, c3⟩ := boxMa HG.out.mc
        by_cases hi2 : i < y.ins.length
        · have hi3 : (i : Int) < y.ins.length := by omega
          have hi0 : (0 : Int) ≤ i := by omega
          obtain ⟨z, hz⟩ : ∃ z, y.ins[i]? = some z := ⟨_, List.getElem?_eq_getElem hi2⟩
          obtain ⟨g1, o1, za, zc, he1, hg1, hz1⟩ := (HIN.out.below HG.out.be) i z hz
          subst he1
          have HZL := HYI.out.2 z (List.mem_of_getElem? hz)
          have HD2 : Hid (insErr m t.frame y.ins = if ofInsN m t.frame z = 0 then insErr m t.frame (y.ins.drop (i + 1)) else ofInsN m t.frame z) := by
            show _ = _
            rw [HF.out, List.drop_eq_getElem_cons hi2, (List.getElem?_eq_some_iff.1 hz).2]
            rfl
          have e0 := hz1.c0
          have e1 := hz1.c1
          have e2 := hz1.c2
          have e3 := hz1.c3
          have e4 := hz1.c4
          have e5 := hz1.c5
          have e6 := hz1.c6
          have e7 := hz1.c7
          have HG4 := Lib.hid (HG.out.alloc (.cells (insC z za zc) 31))
          have HBK4 := Lib.hid (HBK.out.alloc (.cells (insC z za zc) 31))
          have HC4 := Lib.hid (VI.out z za zc (by omega) _ HG4.out.be)
          have HIC := insC.eq_1 z za zc
          rw [HIC] at HG4 HBK4 HC4
          clear hz hz1 HF hg1 HIC d0 d1 c0 c1 c2 c3
          obtain ⟨d0, d1⟩ := boxG HG4.out.tg
          obtain ⟨c0, c1, c2, c3⟩ := boxMa HG4.out.mc
          go_wp2_with fail
          refine HC4.out.mono ?_
          rintro e w5 ⟨rfl, hb⟩
          have HG5 := Lib.hid (HG4.out.below hb)
          have HBK5 := Lib.hid (HBK4.out.below hb HBK4.out.lt)
          clear hb HC4 HG4 HBK4 e0 e1 e2 e3 e4 e5 e6 e7 d0 d1 c0 c1 c2 c3
          by_cases hN : ofInsN m t.frame z = 0
          · have hq : (ofInsN m t.frame z != 0) = false := by simp [hN]
            rw [if_pos hN] at HD2
            clear hN
            go_wp2
            go_roundw
            case rel => exact ⟨i + 1, by go_num, by omega, HD2, HG5.out, HBK5.out⟩
            case measure => simp [intOf]; omega
          · have hq : (ofInsN m t.frame z != 0) = true := by simp [hN]
            rw [if_neg hN] at HD2
            rw [if_neg (by rw [HD2.out]; exact hN)] at HD
            clear hN
            go_wp2
            go_ret
            exact ⟨by rw [HD.out, HD2.out]; rfl, HG5.out.be⟩
        · have e : i = y.ins.length := by omega
          subst e
          have hi3 : ¬ (y.ins.length : Int) < y.ins.length := by omega
          have hI0 : insErr m t.frame y.ins = 0 := by
            rw [HF.out, List.drop_length]
            rfl
          rw [if_pos hI0] at HD
          obtain ⟨b0, b1, b2, b3, b4⟩ := box5 HBK.out
          have HC4 := Lib.hid (VE.out (w.heap.size + 1) y.tm _ HG.out.tg)
          clear HF hI0
          go_wp2_with fail
          refine HC4.out.mono ?_
          rintro e w5 ⟨rfl, hb⟩
          have HG5 := Lib.hid (HG.out.below hb)
          clear hb HC4 b0 b1 b2 b3 b4 d0 d1 c0 c1 c2 c3
          by_cases hN : ofEndN m t.blocks.length y.tm = 0
          · have hq : (ofEndN m t.blocks.length y.tm != 0) = false := by simp [hN]
            rw [if_pos hN] at HD
            clear hN
            go_wp2
            go_roundw
            case rel => exact ⟨j + 1, by go_num, by omega, HD, HG5.out⟩
            case measure => simp [intOf]; omega
          · have hq : (ofEndN m t.blocks.length y.tm != 0) = true := by simp [hN]
            rw [if_neg hN] at HD
            clear hN
            go_wp2
            go_ret
            exact ⟨by rw [HD.out]; rfl, HG5.out.be⟩
    · have e : j = t.blocks.length := by omega
      subst e
      have hlt' : ¬ (t.blocks.length : Int) < t.blocks.length := by omega
      go_wp2
      go_ret
      refine ⟨?_, HG.out.be⟩
      rw [HA.out, List.drop_length]
      rfl
end Go.Proofs.YtbckkmicdpjnaaaDoor
