/-
  The walk of the statement MirTells: it answers true for any machine and any target. No condition beyond those that each theorem states.
-/
import Derived.Test.YtbckkmicdpjnaaaDoorMiU
import Derived.Test.YtbckkmicdpjnaaaDoorMiV
import Derived.Test.YtbckkmicdpjnaaaDoorMiK
import Derived.Test.YtbckkmicdpjnaaaDoorMiCt

import Derived.Deep.RegionHeld3
namespace Go.Proofs.YtbckkmicdpjnaaaDoor
open Go.RowKit

def twoA (w : World) (m : Mm) (aa sa : Option Addr) (ac sc : Nat) (t : Gg) (ba : Option Addr) (bc : Nat) : World := (w.alloc (.cells (maxC m aa ac sa sc) 24)).alloc (.cells (tgC t ba bc) 37)
/-- What is lent of a target, in a box of its own. -/
structure TellS (w W : World) (m : Mm) (aa sa : Option Addr) (ac sc : Nat) (t : Gg) (ba : Option Addr) (bc : Nat) (x bg bk : Nat) (es : List BE) : Prop where
  two : TwoG w W m aa sa ac sc t ba bc
  box : Blk W x 37 (tgC t (some ⟨bg, 0, none⟩) bk)
  lent : LTg W 0 t bg bk es
theorem TellS.below {w W W' : World} {m : Mm} {aa sa : Option Addr} {ac sc : Nat} {t : Gg} {ba : Option Addr} {bc : Nat} {x bg bk : Nat} {es : List BE} (h : TellS w W m aa sa ac sc t ba bc x bg bk es) (hb : Below W.heap.size W W') : TellS w W' m aa sa ac sc t ba bc x bg bk es :=
  ⟨h.two.below hb, h.box.below hb h.box.lt, h.lent.below hb⟩
/-- What is lent of a machine. -/
structure TellM (W : World) (m : Mm) (g1 k1 g2 k2 : Nat) : Prop where
  a : IntsW W (some ⟨g1, 0, none⟩) (m.args ++ markL 1 12)
  s : IntsW W (some ⟨g2, 0, none⟩) (m.saved ++ markL 1 12)
  k1 : m.args.length + 12 ≤ k1
  k2 : m.saved.length + 12 ≤ k2
theorem TellM.below {W W' : World} {m : Mm} {g1 k1 g2 k2 : Nat} (h : TellM W m g1 k1 g2 k2) (hb : Below W.heap.size W W') : TellM W' m g1 k1 g2 k2 := ⟨h.a.below hb, h.s.below hb, h.k1, h.k2⟩
theorem TellM.ma {W : World} {m : Mm} {g1 k1 g2 k2 : Nat} (h : TellM W m g1 k1 g2 k2) : MaW W m (some ⟨g1, 0, none⟩) (some ⟨g2, 0, none⟩) := ⟨ints_left' h.a, ints_left' h.s⟩
theorem own_marks {w : World} {b g cap : Nat} {l : List Int} (h : OwnI w b (.slice (some ⟨g, 0, none⟩) (l.length + 12) cap) (l ++ markL 1 12)) : IntsW w (some ⟨g, 0, none⟩) (l ++ markL 1 12) := by
  unfold OwnI at h
  rw [List.length_append, mark_len] at h
  exact IntsW.own h
/-- A call that keeps what there is, from an elder world on. -/
theorem tell_keep {A W : World} {F : Nat} {args : Array Value} {v : Value} (h : Calls Tryd.prog F args W fun e w' => e = .returned v ∧ Below W.heap.size W w') (hb : Below A.heap.size A W) :
    Calls Tryd.prog F args W fun e w' => e = .returned v ∧ Below A.heap.size A w' := h.mono fun _ _ ⟨h1, h2⟩ => ⟨h1, hb.trans (h2.mono hb.size)⟩
set_option maxHeartbeats 16000000 in
set_option maxRecDepth 100000 in
theorem mirTells_any (m : Mm) (aa sa : Option Addr) (ac sc : Nat) (t : Gg) (ba : Option Addr) (bc : Nat) (w : World) (hl : m.args.length ≤ 140737488355328) (hs : m.saved.length ≤ 140737488355328) (hroom : m.args.length ≤ ac) (hna : aa = none → ac = 0) (hns : sa = none → sc = 0) (hM : MaW w m aa sa) (hB : BlsW w ba t.blocks) (hbl : t.blocks.length ≤ 140737488355328) (hbs : ∀ x ∈ t.blocks, x.ins.length ≤ 140737488355328 ∧ ∀ i ∈ x.ins, i.args.length ≤ 140737488355328) (hT : TabW w) :
    Calls Tryd.prog 5 #[machV m aa ac sa sc, tgV t ba bc] w fun e w' => e = .returned (.bool true) ∧ Below w.heap.size w w' := by
  have HG0 : Hid (TwoG w (twoA w m aa sa ac sc t ba bc) m aa sa ac sc t ba bc) := Lib.hid (TwoG.new w m aa sa ac sc t ba bc)
  have HA : Hid (∀ W, Below (twoA w m aa sa ac sc t ba bc).heap.size (twoA w m aa sa ac sc t ba bc) W → TwoG w W m aa sa ac sc t ba bc ∧ MaW W m aa sa ∧ BlsW W ba t.blocks ∧ TabW W) := fun W h =>
    have hw := HG0.out.be.trans (h.mono HG0.out.be.size)
    ⟨HG0.out.below h, hM.below hw, hB.below hw, hT.below hw⟩
  have hU := twoA.eq_1 w m aa sa ac sc t ba bc
  have HM := Lib.hid (maxC.eq_1 m aa ac sa sc)
  have HC := Lib.hid (tgC.eq_1 t ba bc)
  have HBS := Lib.hid hbs
  rw [HM.out, HC.out] at hU
  unfold machV tgV
  rw [HM.out, HC.out]
  clear hM hB hT hbs
  go_enter Tryd.func5, Tryd.ntmps5
  go_upto_region 1 with fail
  rw [← hU]
  clear hU
  generalize twoA w m aa sa ac sc t ba bc = A at *
  have AW : Hid (∀ W, Below A.heap.size A W → Calls Tryd.prog 10 #[] W fun e w' => e = .returned (.bool true) ∧ Below A.heap.size A w') := fun W h => tell_keep (awakeT_any W (HA.out W h).2.2.2) h
  have CT : Hid (∀ W, Below A.heap.size A W → Calls Tryd.prog 20 #[tgV t ba bc, .int .i64 1500] W fun e w' => (∃ n : Nat, e = .returned (.int .i64 n) ∧ n ≤ 1000000000000000 ∧ Hid (n ≤ 1500 → FewG t.blocks)) ∧ Below A.heap.size A w') := fun W h =>
    (targetOf_any t ba bc W hbl HBS.out (HA.out W h).2.2.1).mono fun e w' ⟨h1, h2⟩ => ⟨h1, h.trans (h2.mono h.size)⟩
  have CM : Hid (∀ W, Below A.heap.size A W → Calls Tryd.prog 21 #[machV m aa ac sa sc] W fun e w' => e = .returned (.int .i64 ((m.args.length : Int) + m.saved.length)) ∧ Below A.heap.size A w') := fun W h => tell_keep (machineOf_any m aa sa ac sc W hl hs) h
  unfold machV at CM
  unfold tgV at CT
  rw [HM.out] at CM
  rw [HC.out] at CT
  have HZ : Hid (∀ W, Below A.heap.size A W → Below A.heap.size A W ∧ (W.cell? ⟨w.heap.size, 0, none⟩ = some (.int .i64 m.regs) ∧ W.cell? ⟨w.heap.size, 1, none⟩ = some (.slice aa m.args.length ac) ∧ W.cell? ⟨w.heap.size, 2, none⟩ = some (.int .i64 m.ret) ∧ W.cell? ⟨w.heap.size, 3, none⟩ = some (.slice sa m.saved.length sc)) ∧ (W.cell? ⟨w.heap.size + 1, 0, none⟩ = some (.int .i64 t.frame) ∧ W.cell? ⟨w.heap.size + 1, 1, none⟩ = some (.slice ba t.blocks.length bc))) := fun W h => ⟨h, boxMa (HA.out W h).1.mc, boxG (HA.out W h).1.tg⟩
  have hb0 := (Below.refl A.heap.size A).drew
  go_cut [14] from 9 to 14 (fun v W => ∃ b, v = .bool b ∧ Hid (b = false → FewG t.blocks ∧ m.args.length + m.saved.length ≤ 1500) ∧ Below A.heap.size A W)
  case first =>
    go_region_held3 (fun W => Below A.heap.size A W ∧ (W.cell? ⟨w.heap.size, 0, none⟩ = some (.int .i64 m.regs) ∧ W.cell? ⟨w.heap.size, 1, none⟩ = some (.slice aa m.args.length ac) ∧ W.cell? ⟨w.heap.size, 2, none⟩ = some (.int .i64 m.ret) ∧ W.cell? ⟨w.heap.size, 3, none⟩ = some (.slice sa m.saved.length sc)) ∧ (W.cell? ⟨w.heap.size + 1, 0, none⟩ = some (.int .i64 t.frame) ∧ W.cell? ⟨w.heap.size + 1, 1, none⟩ = some (.slice ba t.blocks.length bc)))
      (first | (refine HZ.out _ ?_; assumption))
      (first
        | (go_at_call 20; refine (CT.out _ (by go_split_ands; assumption)).mono ?_; rintro e w2 ⟨⟨n, rfl, hn, hf⟩, hb2⟩; have hwr : IntKind.i64.wrap ((n : Int) + ((m.args.length : Int) + m.saved.length)) = (n : Int) + ((m.args.length : Int) + m.saved.length) := (by rw [IntKind.wrap_i64]; omega))
        | (go_at_call 21; refine (CM.out _ (by go_split_ands; assumption)).mono ?_; rintro e w3 ⟨rfl, hb3⟩))
    all_goals (
      rename_i hH
      go_wp2_with fail
      go_meet
      refine ⟨_, rfl, Lib.hid fun h => ?_, hH.1⟩
      have h' := of_decide_eq_false h
      exact ⟨hf.out (by omega), by omega⟩)
  case rest =>
    obtain ⟨b, rfl, HF, hb1⟩ := hcut
    have HB1 := Lib.hid hb1
    clear hb1 hb0 CT CM
    cases b
    case true =>
      go_wp2_with fail
      refine (AW.out _ HB1.out).mono ?_
      rintro e w2 ⟨rfl, hb2⟩
      go_wp2
      go_ret
      exact ⟨rfl, HG0.out.be.trans (hb2.mono HG0.out.be.size)⟩
    obtain ⟨hfew, hms⟩ := HF.out rfl
    have HFew := Lib.hid hfew
    clear HF hfew HBS
    have HL2 : Hid (∀ y ∈ t.blocks, y.ins.length ≤ 2000 ∧ ∀ i ∈ y.ins, i.args.length ≤ 2000) := Lib.hid fun y hy => ⟨by have := (HFew.out.2 y hy).1; omega, fun i hi => by have := (HFew.out.2 y hy).2 i hi; omega⟩
    have HSG : Hid (SmallG t) := Lib.hid ⟨by have := HFew.out.1; omega, fun y hy => ⟨by have := (HFew.out.2 y hy).1; omega, fun i hi => by have := (HFew.out.2 y hy).2 i hi; omega⟩⟩
    have hbl2 : t.blocks.length ≤ 2000 := by have := HFew.out.1; omega
    clear HFew
    go_upto_region 3 with fail
    go_cut [5] from 16 to 17 (fun v W => ∃ x bg bk es, v = .pointer (some ⟨x, 0, none⟩) ∧ Below A.heap.size A W ∧ TellS w W m aa sa ac sc t ba bc x bg bk es)
    case first =>
      have HLT := Lib.hid (lentTarget_any t ba bc wc hbl2 HL2.out (HA.out _ HB1.out).2.2.1)
      unfold tgV at HLT
      rw [HC.out] at HLT
      obtain ⟨d0, d1⟩ := boxG (HA.out _ HB1.out).1.tg
      go_wp2_with fail
      refine HLT.out.mono ?_
      rintro e w3 ⟨bg, bk, es, rfl, hL, hb⟩
      have HT3 := Lib.hid ((HA.out _ HB1.out).1.below hb)
      have HB3 := Lib.hid (HB1.out.trans (hb.mono HB1.out.size))
      have HL3 : Hid (LTg w3 0 t bg bk es) := Lib.hid ⟨hL.same, hL.blocks.base (Nat.zero_le _)⟩
      clear hL hb HLT d0 d1
      unfold tgC
      go_wp2_with fail
      go_meet
      have hal := (Below.refl w3.heap.size w3).alloc (Nat.le_refl _) (.cells (tgC t (some ⟨bg, 0, none⟩) bk) 37)
      exact ⟨w3.heap.size, bg, bk, es, rfl, HB3.out.alloc HB3.out.size _, ⟨HT3.out.below hal, Blk.new w3 37 (tgC t (some ⟨bg, 0, none⟩) bk), HL3.out.below hal⟩⟩
    case rest =>
      obtain ⟨x, bg, bk, es, rfl, hb2, hT2⟩ := hcut
      clear HB1
      have HB2 := Lib.hid hb2
      have HT2 := Lib.hid hT2
      clear hb2 hT2
      obtain ⟨Z, hZ⟩ : ∃ Z, Z = wc := ⟨wc, rfl⟩
      subst hZ
      have HZ4 : Hid (∀ W, Below Z.heap.size Z W → (Below Z.heap.size Z W ∧ (W.cell? ⟨w.heap.size, 0, none⟩ = some (.int .i64 m.regs) ∧ W.cell? ⟨w.heap.size, 1, none⟩ = some (.slice aa m.args.length ac) ∧ W.cell? ⟨w.heap.size, 2, none⟩ = some (.int .i64 m.ret) ∧ W.cell? ⟨w.heap.size, 3, none⟩ = some (.slice sa m.saved.length sc)))) := Lib.hid fun W h => ⟨h, boxMa (HT2.out.below h).two.mc⟩
      have HI : Hid (∀ W, Below Z.heap.size Z W → MaW W m aa sa) := Lib.hid fun W h => (HA.out _ (HB2.out.trans (h.mono HB2.out.size))).2.1
      have C1 : Hid (∀ W, Below Z.heap.size Z W → Calls Tryd.prog 23 #[.slice aa m.args.length ac] W fun e w' => ∃ g cap, e = .returned (.slice (some ⟨g, 0, none⟩) m.args.length cap) ∧ Hid (m.args.length + 12 ≤ cap ∧ IntsW w' (some ⟨g, 0, none⟩) (m.args ++ markL 1 12)) ∧ Below Z.heap.size Z w' ∧ Hid (Below W.heap.size W w')) := Lib.hid fun W h =>
        (lentInts_any m.args aa ac W (by omega) hna (HI.out W h).args).mono fun e w' ⟨g, cap, h1, h2, h3, h4, h5⟩ => ⟨g, cap, h1, ⟨h2, own_marks h4⟩, h.trans (h5.mono h.size), h5⟩
      have C2 : Hid (∀ W, Below Z.heap.size Z W → Calls Tryd.prog 23 #[.slice sa m.saved.length sc] W fun e w' => ∃ g cap, e = .returned (.slice (some ⟨g, 0, none⟩) m.saved.length cap) ∧ Hid (m.saved.length + 12 ≤ cap ∧ IntsW w' (some ⟨g, 0, none⟩) (m.saved ++ markL 1 12)) ∧ Below Z.heap.size Z w' ∧ Hid (Below W.heap.size W w')) := Lib.hid fun W h =>
        (lentInts_any m.saved sa sc W (by omega) hns (HI.out W h).saved).mono fun e w' ⟨g, cap, h1, h2, h3, h4, h5⟩ => ⟨g, cap, h1, ⟨h2, own_marks h4⟩, h.trans (h5.mono h.size), h5⟩
      have hb0 := (Below.refl Z.heap.size Z).drew
      go_upto_region 4 with fail
      go_cut [6, 7] from 18 to 23 (fun u v W => ∃ g1 k1 g2 k2, u = .slice (some ⟨g1, 0, none⟩) m.args.length k1 ∧ v = .slice (some ⟨g2, 0, none⟩) m.saved.length k2 ∧ Below Z.heap.size Z W ∧ TellM W m g1 k1 g2 k2)
      case first =>
        go_region_held3 (fun W => Below Z.heap.size Z W ∧ (W.cell? ⟨w.heap.size, 0, none⟩ = some (.int .i64 m.regs) ∧ W.cell? ⟨w.heap.size, 1, none⟩ = some (.slice aa m.args.length ac) ∧ W.cell? ⟨w.heap.size, 2, none⟩ = some (.int .i64 m.ret) ∧ W.cell? ⟨w.heap.size, 3, none⟩ = some (.slice sa m.saved.length sc)))
          (first | (refine HZ4.out _ ?_; assumption))
          (first
            | (go_at_call 23; have hq := hO1; refine (C2.out _ (by go_split_ands; assumption)).mono ?_; rintro e w4 ⟨g2, k2, rfl, hO2, hb4, hW4⟩)
            | (go_at_call 23; refine (C1.out _ (by go_split_ands; assumption)).mono ?_; rintro e w3 ⟨g1, k1, rfl, hO1, hb3, hW3⟩))
        all_goals (
          rename_i hH
          go_wp2_with fail
          go_meet
          exact ⟨g1, k1, g2, k2, rfl, rfl, hH.1, ⟨hO1.out.2.below hW4.out, hO2.out.2, hO1.out.1, hO2.out.1⟩⟩)
      case rest =>
        obtain ⟨g1, k1, g2, k2, rfl, rfl, hb4, hM4⟩ := hcut
        clear C1 C2 HZ4 HI hb0
        have HB4 := Lib.hid (HB2.out.trans (hb4.mono HB2.out.size))
        have HT4 := Lib.hid (HT2.out.below hb4)
        have HM4 := Lib.hid hM4
        clear HB2 HT2 hb4 hM4
        obtain ⟨c0, c1, c2, c3⟩ := boxMa HT4.out.two.mc
        go_upto_region 5 with fail
        go_cut [8] from 24 to 30 (fun v W => ∃ xm, v = .pointer (some ⟨xm, 0, none⟩) ∧ Blk W xm 24 (maxC m (some ⟨g1, 0, none⟩) k1 (some ⟨g2, 0, none⟩) k2) ∧ Below A.heap.size A W ∧ TellM W m g1 k1 g2 k2 ∧ TellS w W m aa sa ac sc t ba bc x bg bk es)
        case first =>
          go_wp2_with fail
          go_meet
          have hal := (Below.refl wc.heap.size wc).alloc (Nat.le_refl _) (.cells (maxC m (some ⟨g1, 0, none⟩) k1 (some ⟨g2, 0, none⟩) k2) 24)
          exact ⟨wc.heap.size, rfl, Blk.new wc 24 (maxC m (some ⟨g1, 0, none⟩) k1 (some ⟨g2, 0, none⟩) k2), HB4.out.alloc HB4.out.size _, HM4.out.below hal, HT4.out.below hal⟩
        case rest =>
        obtain ⟨xm, rfl, hX5, hb5, hM5, hT5⟩ := hcut
        clear HB4 HT4 HM4 c0 c1 c2 c3
        have HB5 := Lib.hid hb5
        have HX5 := Lib.hid hX5
        obtain ⟨Y, hY⟩ : ∃ Y, Y = wc := ⟨wc, rfl⟩
        subst hY
        have HY : Hid (∀ W, Below Y.heap.size Y W → TellS w W m aa sa ac sc t ba bc x bg bk es ∧ TellM W m g1 k1 g2 k2 ∧ MaW W m aa sa ∧ BlsW W ba t.blocks ∧ TabW W) := Lib.hid fun W h => ⟨hT5.below h, hM5.below h, (HA.out _ (HB5.out.trans (h.mono HB5.out.size))).2⟩
        have HZ6 : Hid (∀ W, Below Y.heap.size Y W → (Below Y.heap.size Y W ∧ (W.cell? ⟨w.heap.size, 0, none⟩ = some (.int .i64 m.regs) ∧ W.cell? ⟨w.heap.size, 1, none⟩ = some (.slice aa m.args.length ac) ∧ W.cell? ⟨w.heap.size, 2, none⟩ = some (.int .i64 m.ret) ∧ W.cell? ⟨w.heap.size, 3, none⟩ = some (.slice sa m.saved.length sc)) ∧ (W.cell? ⟨w.heap.size + 1, 0, none⟩ = some (.int .i64 t.frame) ∧ W.cell? ⟨w.heap.size + 1, 1, none⟩ = some (.slice ba t.blocks.length bc)) ∧ (W.cell? ⟨x, 0, none⟩ = some (.int .i64 t.frame) ∧ W.cell? ⟨x, 1, none⟩ = some (.slice (some ⟨bg, 0, none⟩) t.blocks.length bk)) ∧ (W.cell? ⟨xm, 0, none⟩ = some (.int .i64 m.regs) ∧ W.cell? ⟨xm, 1, none⟩ = some (.slice (some ⟨g1, 0, none⟩) m.args.length k1) ∧ W.cell? ⟨xm, 2, none⟩ = some (.int .i64 m.ret) ∧ W.cell? ⟨xm, 3, none⟩ = some (.slice (some ⟨g2, 0, none⟩) m.saved.length k2)))) := Lib.hid fun W h => ⟨h, boxMa (HY.out W h).1.two.mc, boxG (HY.out W h).1.two.tg, boxG (HY.out W h).1.box, boxMa (HX5.out.below h HX5.out.lt)⟩
        clear hX5 hb5 hM5 hT5
        have R1 : Hid (∀ W, Below Y.heap.size Y W → Calls Tryd.prog 7 #[machV m (some ⟨g1, 0, none⟩) k1 (some ⟨g2, 0, none⟩) k2, tgV t (some ⟨bg, 0, none⟩) bk] W fun e w' => e = .returned (.int .i64 (rightT m t)) ∧ Below Y.heap.size Y w') := Lib.hid fun W h => tell_keep (right_any m (some ⟨g1, 0, none⟩) (some ⟨g2, 0, none⟩) k1 k2 t (some ⟨bg, 0, none⟩) bk W hl hs (HY.out W h).2.1.ma (HY.out W h).1.lent.bls HSG.out (HY.out W h).2.2.2.2) h
        have R2 : Hid (∀ W, Below Y.heap.size Y W → Calls Tryd.prog 8 #[machV m aa ac sa sc, tgV t ba bc] W fun e w' => e = .returned (.int .i64 (rightT m t)) ∧ Below Y.heap.size Y w') := Lib.hid fun W h => tell_keep (right6_any m aa sa ac sc t ba bc W hl hs hroom (HY.out W h).2.2.1 (HY.out W h).2.2.2.1 HSG.out) h
        have S1 : Hid (∀ W, Below Y.heap.size Y W → Calls Tryd.prog 9 #[tgV t (some ⟨bg, 0, none⟩) bk] W fun e w' => e = .returned (.int .i64 (sizeT t)) ∧ Below Y.heap.size Y w') := Lib.hid fun W h => tell_keep (size_any t (some ⟨bg, 0, none⟩) bk W HSG.out (HY.out W h).1.lent.bls) h
        have S2 : Hid (∀ W, Below Y.heap.size Y W → Calls Tryd.prog 24 #[tgV t ba bc] W fun e w' => e = .returned (.int .i64 (sizeT t)) ∧ Below Y.heap.size Y w') := Lib.hid fun W h => tell_keep (size6_any t ba bc W HSG.out (HY.out W h).2.2.2.1) h
        have K1 : Hid (∀ W, Below Y.heap.size Y W → Calls Tryd.prog 25 #[tgV t (some ⟨bg, 0, none⟩) bk, tgV t ba bc] W fun e w' => e = .returned (.bool true) ∧ Below Y.heap.size Y w') := Lib.hid fun W h => tell_keep (keptTarget_any t bg bk es 0 ba bc W hbl2 HL2.out (HY.out W h).1.lent (HY.out W h).2.2.2.1) h
        have K2 : Hid (∀ W, Below Y.heap.size Y W → Calls Tryd.prog 26 #[.slice (some ⟨g1, 0, none⟩) m.args.length k1, .slice aa m.args.length ac] W fun e w' => e = .returned (.bool true) ∧ Below Y.heap.size Y w') := Lib.hid fun W h => tell_keep (keptInts_any m.args g1 k1 aa ac W (by omega) (HY.out W h).2.1.k1 (HY.out W h).2.2.1.args (HY.out W h).2.1.a) h
        have K3 : Hid (∀ W, Below Y.heap.size Y W → Calls Tryd.prog 26 #[.slice (some ⟨g2, 0, none⟩) m.saved.length k2, .slice sa m.saved.length sc] W fun e w' => e = .returned (.bool true) ∧ Below Y.heap.size Y w') := Lib.hid fun W h => tell_keep (keptInts_any m.saved g2 k2 sa sc W (by omega) (HY.out W h).2.1.k2 (HY.out W h).2.2.1.saved (HY.out W h).2.1.s) h
        have AW2 : Hid (∀ W, Below Y.heap.size Y W → Calls Tryd.prog 10 #[] W fun e w' => e = .returned (.bool true) ∧ Below Y.heap.size Y w') := Lib.hid fun W h => tell_keep (awakeT_any W (HY.out W h).2.2.2.2) h
        unfold machV tgV at R1 R2
        unfold tgV at S1 S2 K1
        unfold maxC at R1 R2
        unfold tgC at R1 R2 S1 S2 K1
        generalize rightT m t = rt at R1 R2
        generalize sizeT t = sz at S1 S2
        have hq1 : (rt == rt) = true := by simp
        have hq2 : (sz == sz) = true := by simp
        have hb0 := (Below.refl Y.heap.size Y).drew
        go_upto_region 6 with fail
        go_region_held3 (fun W => Below Y.heap.size Y W ∧ (W.cell? ⟨w.heap.size, 0, none⟩ = some (.int .i64 m.regs) ∧ W.cell? ⟨w.heap.size, 1, none⟩ = some (.slice aa m.args.length ac) ∧ W.cell? ⟨w.heap.size, 2, none⟩ = some (.int .i64 m.ret) ∧ W.cell? ⟨w.heap.size, 3, none⟩ = some (.slice sa m.saved.length sc)) ∧ (W.cell? ⟨w.heap.size + 1, 0, none⟩ = some (.int .i64 t.frame) ∧ W.cell? ⟨w.heap.size + 1, 1, none⟩ = some (.slice ba t.blocks.length bc)) ∧ (W.cell? ⟨x, 0, none⟩ = some (.int .i64 t.frame) ∧ W.cell? ⟨x, 1, none⟩ = some (.slice (some ⟨bg, 0, none⟩) t.blocks.length bk)) ∧ (W.cell? ⟨xm, 0, none⟩ = some (.int .i64 m.regs) ∧ W.cell? ⟨xm, 1, none⟩ = some (.slice (some ⟨g1, 0, none⟩) m.args.length k1) ∧ W.cell? ⟨xm, 2, none⟩ = some (.int .i64 m.ret) ∧ W.cell? ⟨xm, 3, none⟩ = some (.slice (some ⟨g2, 0, none⟩) m.saved.length k2)))
          (first | (refine HZ6.out _ ?_; (first | exact Below.refl _ _ | assumption)))
          (first
            | (go_at_call 7; refine (R1.out _ (by go_split_ands; assumption)).mono ?_; rintro e w11 ⟨rfl, hw11⟩)
            | (go_at_call 8; refine (R2.out _ (by go_split_ands; assumption)).mono ?_; rintro e w12 ⟨rfl, hw12⟩)
            | (go_at_call 9; refine (S1.out _ (by go_split_ands; assumption)).mono ?_; rintro e w13 ⟨rfl, hw13⟩)
            | (go_at_call 24; refine (S2.out _ (by go_split_ands; assumption)).mono ?_; rintro e w14 ⟨rfl, hw14⟩)
            | (go_at_call 25; refine (K1.out _ (by go_split_ands; assumption)).mono ?_; rintro e w15 ⟨rfl, hw15⟩)
            | (go_at_call 26; have hq := hw16; refine (K3.out _ (by go_split_ands; assumption)).mono ?_; rintro e w17 ⟨rfl, hw17⟩)
            | (go_at_call 26; refine (K2.out _ (by go_split_ands; assumption)).mono ?_; rintro e w16 ⟨rfl, hw16⟩)
            | (go_at_call 10; refine (AW2.out _ (by go_split_ands; assumption)).mono ?_; rintro e w18 ⟨rfl, hw18⟩))
        all_goals (
          go_wp2
          go_ret
          exact ⟨rfl, (HY.out Y (Below.refl _ _)).1.two.be.trans (hw18.mono (HY.out Y (Below.refl _ _)).1.two.be.size)⟩)
end Go.Proofs.YtbckkmicdpjnaaaDoor
