/-
  The walk of the statement MirPlaces: it answers true for any machine and any target. No condition beyond those that each theorem states.
-/
import Derived.Test.YtjahchoaaggkiaaDoorMiQ
import Derived.Test.YtjahchoaaggkiaaDoorMiCt
import Derived.Test.YtjahchoaaggkiaaDoorMiP
namespace Go.Proofs.YtjahchoaaggkiaaDoor
open Go.RowKit

def cntB (l : List Bb) : Nat := (l.map fun b => b.ins.length + 1).sum
theorem size_cnt (t : Gg) : sizeT t = cntB t.blocks := by
  unfold sizeT cntB
  generalize t.blocks = l
  induction l with
  | nil => rfl
  | cons b l ih =>
    simp only [List.map_cons, List.sum_cons, List.length_cons]
    omega
/-- A call that keeps what there is, from an elder world on. -/
theorem rel_keep {A W : World} {F : Nat} {args : Array Value} {v : Value} (h : Calls Tryd.prog F args W fun e w' => e = .returned v ∧ Below W.heap.size W w') (hb : Below A.heap.size A W) :
    Calls Tryd.prog F args W fun e w' => e = .returned v ∧ Below A.heap.size A w' := h.mono fun _ _ ⟨h1, h2⟩ => ⟨h1, hb.trans (h2.mono hb.size)⟩
set_option maxHeartbeats 16000000 in
set_option maxRecDepth 100000 in
theorem mirPlaces_any (m : Mm) (aa sa : Option Addr) (ac sc : Nat) (t : Gg) (ba : Option Addr) (bc : Nat) (w : World) (hl : m.args.length ≤ 140737488355328) (hs : m.saved.length ≤ 140737488355328) (hroom : m.args.length ≤ ac) (hna : aa = none → ac = 0) (hM : MaW w m aa sa) (hB : BlsW w ba t.blocks) (hbl : t.blocks.length ≤ 140737488355328) (hbs : ∀ x ∈ t.blocks, x.ins.length ≤ 140737488355328 ∧ ∀ i ∈ x.ins, i.args.length ≤ 140737488355328) (hT : TabW w) :
    Calls Tryd.prog 6 #[machV m aa ac sa sc, tgV t ba bc] w fun e w' => e = .returned (.bool true) ∧ Below w.heap.size w w' := by
  have HG0 := Lib.hid (TwoG.new w m aa sa ac sc t ba bc)
  have HBL := Lib.hid hB
  have HBS := Lib.hid hbs
  have HMW := Lib.hid hM
  have HTW := Lib.hid hT
  have HM := Lib.hid (maxC.eq_1 m aa ac sa sc)
  have HC := Lib.hid (tgC.eq_1 t ba bc)
  have HAW := Lib.hid (awakeT_any _ (hT.below HG0.out.be))
  rw [HM.out, HC.out] at HG0 HAW
  have hS9 : Hid ((∀ x ∈ t.blocks, x.ins.length ≤ 140737488355328 ∧ ∀ i ∈ x.ins, i.args.length ≤ 140737488355328)) := HBS.out
  clear hM hB hbs hT hS9
  unfold machV tgV
  rw [HM.out, HC.out]
  go_enter Tryd.func6, Tryd.ntmps6
  go_wp2_with fail
  refine HAW.out.mono ?_
  rintro e w1 ⟨rfl, hb⟩
  have HG := Lib.hid (HG0.out.below hb)
  clear hb HG0 HAW
  have CT : Hid (∀ W, Below w1.heap.size w1 W → Calls Tryd.prog 18 #[tgV t ba bc, .int .i64 1500] W fun e w' => (∃ n : Nat, e = .returned (.int .i64 n) ∧ n ≤ 1000000000000000 ∧ Hid (n ≤ 1500 → FewG t.blocks)) ∧ Below w1.heap.size w1 w') := fun W h =>
    (targetOf_any t ba bc W hbl HBS.out (HBL.out.below (HG.out.be.trans (h.mono HG.out.be.size)))).mono fun e w' ⟨h1, h2⟩ => ⟨h1, h.trans (h2.mono h.size)⟩
  have CM : Hid (∀ W, Below w1.heap.size w1 W → Calls Tryd.prog 19 #[machV m aa ac sa sc] W fun e w' => e = .returned (.int .i64 ((m.args.length : Int) + m.saved.length)) ∧ Below w1.heap.size w1 w') := fun W h => rel_keep (machineOf_any m aa sa ac sc W hl hs) h
  have CR : Hid (FewG t.blocks → ∀ W, Below w1.heap.size w1 W → Calls Tryd.prog 22 #[machV m aa ac sa sc, tgV t ba bc] W fun e w' => e = .returned (.int .i64 (rightT m t)) ∧ Below w1.heap.size w1 w') := fun hf W h =>
    rel_keep (right_any m aa sa ac sc t ba bc W hl hs (HMW.out.below (HG.out.be.trans (h.mono HG.out.be.size))) (HBL.out.below (HG.out.be.trans (h.mono HG.out.be.size))) ⟨by have := hf.1; omega, fun x hx => ⟨by have := (hf.2 x hx).1; omega, fun i hi => by have := (hf.2 x hx).2 i hi; omega⟩⟩ (HTW.out.below (HG.out.be.trans (h.mono HG.out.be.size)))) h
  unfold machV at CM CR
  unfold tgV at CT CR
  rw [HM.out] at CM CR
  rw [HC.out] at CT CR
  have HZ : Hid (∀ W, Below w1.heap.size w1 W → Below w1.heap.size w1 W ∧ (W.cell? ⟨w.heap.size, 0, none⟩ = some (.int .i64 m.regs) ∧ W.cell? ⟨w.heap.size, 1, none⟩ = some (.slice aa m.args.length ac) ∧ W.cell? ⟨w.heap.size, 2, none⟩ = some (.int .i64 m.ret) ∧ W.cell? ⟨w.heap.size, 3, none⟩ = some (.slice sa m.saved.length sc)) ∧ (W.cell? ⟨w.heap.size + 1, 0, none⟩ = some (.int .i64 t.frame) ∧ W.cell? ⟨w.heap.size + 1, 1, none⟩ = some (.slice ba t.blocks.length bc))) := fun W h => ⟨h, boxMa (HG.out.below h).mc, boxG (HG.out.below h).tg⟩
  have hb0 : Below w1.heap.size w1 w1.drew := (Below.refl _ _).drew
  go_upto_region 3 with fail
  refine wp_region_held_drew (S := fun W => Below w1.heap.size w1 W ∧ (W.cell? ⟨w.heap.size, 0, none⟩ = some (.int .i64 m.regs) ∧ W.cell? ⟨w.heap.size, 1, none⟩ = some (.slice aa m.args.length ac) ∧ W.cell? ⟨w.heap.size, 2, none⟩ = some (.int .i64 m.ret) ∧ W.cell? ⟨w.heap.size, 3, none⟩ = some (.slice sa m.saved.length sc)) ∧ (W.cell? ⟨w.heap.size + 1, 0, none⟩ = some (.int .i64 t.frame) ∧ W.cell? ⟨w.heap.size + 1, 1, none⟩ = some (.slice ba t.blocks.length bc))) (by kernel_rfl) ?_ (fun hHeld => ?_)
  · exact HZ.out _ hb0
  refine wpAnyH_take (i := 0) (v := ?vd1) (by simp only [List.getElem?_toArray, List.getElem?_cons_zero]; rfl) (by kernel_rfl) (by kernel_rfl) (by kernel_rfl) (by exact fun _ _ _ h => h) (Or.inl ⟨by rfl, ?yd1⟩) (by assumption) ?_
  case yd1 => (intro W9 hSw; (try dsimp only at hSw); go_simp; try (with_reducible rfl))
  try simp only [Act.put, List.setIfInBounds_toArray, List.set_cons_zero, List.set_cons_succ]
  refine wpAnyH_take (i := 2) (v := ?vd2) (by simp only [List.getElem?_toArray, List.getElem?_cons_succ, List.getElem?_cons_zero]; rfl) (by kernel_rfl) (by kernel_rfl) (by kernel_rfl) (by exact fun _ _ _ h => h) (Or.inl ⟨by rfl, ?yd2⟩) (by assumption) ?_
  case yd2 => (intro W9 hSw; (try dsimp only at hSw); go_simp; try (with_reducible rfl))
  try simp only [Act.put, List.setIfInBounds_toArray, List.set_cons_zero, List.set_cons_succ]
  refine wpAnyH_ready (rs := [1]) (by kernel_rfl) (by simp) ?_
  refine AllReadyH.cons (by simp only [List.getElem?_toArray, List.getElem?_cons_succ, List.getElem?_cons_zero]; rfl) (fun K hK => ?_) AllReadyH.nil
  go_simp
  go_at_call 18
  refine (CT.out _ hb0).mono ?_
  rintro e w2 ⟨⟨n, rfl, hn, hf⟩, hb2⟩
  (try go_wp2_with fail)
  refine hK.out _ _ ?_ (fun hHeld2 => ?_)
  · exact HZ.out _ hb2
  clear hK K hHeld
  have hHeld := hHeld2
  clear hHeld2
  try simp only [Act.put, List.setIfInBounds_toArray, List.set_cons_zero, List.set_cons_succ]
  refine wpAnyH_ready (rs := [3]) (by kernel_rfl) (by simp) ?_
  refine AllReadyH.cons (by simp only [List.getElem?_toArray, List.getElem?_cons_succ, List.getElem?_cons_zero]; rfl) (fun K hK => ?_) AllReadyH.nil
  go_simp
  go_at_call 19
  refine (CM.out _ hb2).mono ?_
  rintro e w3 ⟨rfl, hb3⟩
  (try go_wp2_with fail)
  refine hK.out _ _ ?_ (fun hHeld2 => ?_)
  · exact HZ.out _ hb3
  clear hK K hHeld
  have hHeld := hHeld2
  clear hHeld2
  try simp only [Act.put, List.setIfInBounds_toArray, List.set_cons_zero, List.set_cons_succ]
  have hw : IntKind.i64.wrap ((n : Int) + ((m.args.length : Int) + m.saved.length)) = (n : Int) + ((m.args.length : Int) + m.saved.length) := by rw [IntKind.wrap_i64]; omega
  by_cases hbig : (1500 : Int) < (n : Int) + ((m.args.length : Int) + m.saved.length)
  case pos =>
    refine wpAnyH_take (i := 4) (v := ?vd3) (by simp only [List.getElem?_toArray, List.getElem?_cons_succ, List.getElem?_cons_zero]; rfl) (by kernel_rfl) (by kernel_rfl) (by kernel_rfl) (by exact fun _ _ _ h => h) (Or.inl ⟨by rfl, ?yd3⟩) (by assumption) ?_
    case yd3 => (intro W9 hSw; (try dsimp only at hSw); go_simp; try (with_reducible rfl))
    try simp only [Act.put, List.setIfInBounds_toArray, List.set_cons_zero, List.set_cons_succ]
    refine wpAnyH_take (i := 5) (v := ?vd4) (by simp only [List.getElem?_toArray, List.getElem?_cons_succ, List.getElem?_cons_zero]; rfl) (by kernel_rfl) (by kernel_rfl) (by kernel_rfl) (by exact fun _ _ _ h => h) (Or.inl ⟨by rfl, ?yd4⟩) (by assumption) ?_
    case yd4 => (intro W9 hSw; (try dsimp only at hSw); go_simp; try (with_reducible rfl))
    try simp only [Act.put, List.setIfInBounds_toArray, List.set_cons_zero, List.set_cons_succ]
    refine wpAnyH_take (i := 6) (v := ?vd5) (by simp only [List.getElem?_toArray, List.getElem?_cons_succ, List.getElem?_cons_zero]; rfl) (by kernel_rfl) (by kernel_rfl) (by kernel_rfl) (by exact fun _ _ _ h => h) (Or.inl ⟨by rfl, ?yd5⟩) (by assumption) ?_
    case yd5 => (intro W9 hSw; (try dsimp only at hSw); go_simp; try (with_reducible rfl))
    try simp only [Act.put, List.setIfInBounds_toArray, List.set_cons_zero, List.set_cons_succ]
    refine wpAnyH_take (i := 7) (v := undef) (by simp only [List.getElem?_toArray, List.getElem?_cons_succ, List.getElem?_cons_zero]; rfl) (by kernel_rfl) (by kernel_rfl) (by kernel_rfl) (by exact fun _ _ _ h => h) (Or.inr ⟨by rfl, rfl⟩) (by assumption) ?_
    try simp only [Act.put, List.setIfInBounds_toArray, List.set_cons_zero, List.set_cons_succ]
    refine wpAnyH_take (i := 8) (v := undef) (by simp only [List.getElem?_toArray, List.getElem?_cons_succ, List.getElem?_cons_zero]; rfl) (by kernel_rfl) (by kernel_rfl) (by kernel_rfl) (by exact fun _ _ _ h => h) (Or.inr ⟨by rfl, rfl⟩) (by assumption) ?_
    try simp only [Act.put, List.setIfInBounds_toArray, List.set_cons_zero, List.set_cons_succ]
    refine wpAnyH_take (i := 9) (v := undef) (by simp only [List.getElem?_toArray, List.getElem?_cons_succ, List.getElem?_cons_zero]; rfl) (by kernel_rfl) (by kernel_rfl) (by kernel_rfl) (by exact fun _ _ _ h => h) (Or.inr ⟨by rfl, rfl⟩) (by assumption) ?_
    try simp only [Act.put, List.setIfInBounds_toArray, List.set_cons_zero, List.set_cons_succ]
    refine wpAnyH_take (i := 10) (v := undef) (by simp only [List.getElem?_toArray, List.getElem?_cons_succ, List.getElem?_cons_zero]; rfl) (by kernel_rfl) (by kernel_rfl) (by kernel_rfl) (by exact fun _ _ _ h => h) (Or.inr ⟨by rfl, rfl⟩) (by assumption) ?_
    try simp only [Act.put, List.setIfInBounds_toArray, List.set_cons_zero, List.set_cons_succ]
    refine wpAnyH_take (i := 11) (v := ?vd6) (by simp only [List.getElem?_toArray, List.getElem?_cons_succ, List.getElem?_cons_zero]; rfl) (by kernel_rfl) (by kernel_rfl) (by kernel_rfl) (by exact fun _ _ _ h => h) (Or.inl ⟨by rfl, ?yd6⟩) (by assumption) ?_
    case yd6 => (intro W9 hSw; (try dsimp only at hSw); go_simp; try (with_reducible rfl))
    try simp only [Act.put, List.setIfInBounds_toArray, List.set_cons_zero, List.set_cons_succ]
    refine wpAnyH_done (by kernel_rfl) ?_ _
    clear hHeld
    go_wp2
    go_ret
    exact ⟨rfl, HG.out.be.trans (hb3.mono HG.out.be.size)⟩
  have HF := Lib.hid (hf.out (by omega))
  have hlm : m.args.length ≤ 1500 := by omega
  refine wpAnyH_take (i := 4) (v := ?vd7) (by simp only [List.getElem?_toArray, List.getElem?_cons_succ, List.getElem?_cons_zero]; rfl) (by kernel_rfl) (by kernel_rfl) (by kernel_rfl) (by exact fun _ _ _ h => h) (Or.inl ⟨by rfl, ?yd7⟩) (by assumption) ?_
  case yd7 => (intro W9 hSw; (try dsimp only at hSw); go_simp; try (with_reducible rfl))
  try simp only [Act.put, List.setIfInBounds_toArray, List.set_cons_zero, List.set_cons_succ]
  refine wpAnyH_take (i := 5) (v := ?vd8) (by simp only [List.getElem?_toArray, List.getElem?_cons_succ, List.getElem?_cons_zero]; rfl) (by kernel_rfl) (by kernel_rfl) (by kernel_rfl) (by exact fun _ _ _ h => h) (Or.inl ⟨by rfl, ?yd8⟩) (by assumption) ?_
  case yd8 => (intro W9 hSw; (try dsimp only at hSw); go_simp; try (with_reducible rfl))
  try simp only [Act.put, List.setIfInBounds_toArray, List.set_cons_zero, List.set_cons_succ]
  refine wpAnyH_take (i := 6) (v := ?vd9) (by simp only [List.getElem?_toArray, List.getElem?_cons_succ, List.getElem?_cons_zero]; rfl) (by kernel_rfl) (by kernel_rfl) (by kernel_rfl) (by exact fun _ _ _ h => h) (Or.inl ⟨by rfl, ?yd9⟩) (by assumption) ?_
  case yd9 => (intro W9 hSw; (try dsimp only at hSw); go_simp; try (with_reducible rfl))
  try simp only [Act.put, List.setIfInBounds_toArray, List.set_cons_zero, List.set_cons_succ]
  refine wpAnyH_take (i := 7) (v := ?vd10) (by simp only [List.getElem?_toArray, List.getElem?_cons_succ, List.getElem?_cons_zero]; rfl) (by kernel_rfl) (by kernel_rfl) (by kernel_rfl) (by exact fun _ _ _ h => h) (Or.inl ⟨by rfl, ?yd10⟩) (by assumption) ?_
  case yd10 => (intro W9 hSw; (try dsimp only at hSw); go_simp; try (with_reducible rfl))
  try simp only [Act.put, List.setIfInBounds_toArray, List.set_cons_zero, List.set_cons_succ]
  refine wpAnyH_take (i := 8) (v := ?vd11) (by simp only [List.getElem?_toArray, List.getElem?_cons_succ, List.getElem?_cons_zero]; rfl) (by kernel_rfl) (by kernel_rfl) (by kernel_rfl) (by exact fun _ _ _ h => h) (Or.inl ⟨by rfl, ?yd11⟩) (by assumption) ?_
  case yd11 => (intro W9 hSw; (try dsimp only at hSw); go_simp; try (with_reducible rfl))
  try simp only [Act.put, List.setIfInBounds_toArray, List.set_cons_zero, List.set_cons_succ]
  refine wpAnyH_ready (rs := [9]) (by kernel_rfl) (by simp) ?_
  refine AllReadyH.cons (by simp only [List.getElem?_toArray, List.getElem?_cons_succ, List.getElem?_cons_zero]; rfl) (fun K hK => ?_) AllReadyH.nil
  go_simp
  go_at_call 22
  refine (CR.out HF.out _ hb3).mono ?_
  rintro e w4 ⟨rfl, hb4⟩
  (try go_wp2_with fail)
  refine hK.out _ _ ?_ (fun hHeld2 => ?_)
  · exact HZ.out _ hb4
  clear hK K hHeld
  have hHeld := hHeld2
  clear hHeld2
  try simp only [Act.put, List.setIfInBounds_toArray, List.set_cons_zero, List.set_cons_succ]
  by_cases hr0 : rightT m t = 0
  case neg =>
    have hq0 : (rightT m t != 0) = true := by simp [hr0]
    refine wpAnyH_take (i := 10) (v := ?vd12) (by simp only [List.getElem?_toArray, List.getElem?_cons_succ, List.getElem?_cons_zero]; rfl) (by kernel_rfl) (by kernel_rfl) (by kernel_rfl) (by exact fun _ _ _ h => h) (Or.inl ⟨by rfl, ?yd12⟩) (by assumption) ?_
    case yd12 => (intro W9 hSw; (try dsimp only at hSw); go_simp; try (with_reducible rfl))
    try simp only [Act.put, List.setIfInBounds_toArray, List.set_cons_zero, List.set_cons_succ]
    refine wpAnyH_take (i := 11) (v := ?vd13) (by simp only [List.getElem?_toArray, List.getElem?_cons_succ, List.getElem?_cons_zero]; rfl) (by kernel_rfl) (by kernel_rfl) (by kernel_rfl) (by exact fun _ _ _ h => h) (Or.inl ⟨by rfl, ?yd13⟩) (by assumption) ?_
    case yd13 => (intro W9 hSw; (try dsimp only at hSw); go_simp; try (with_reducible rfl))
    try simp only [Act.put, List.setIfInBounds_toArray, List.set_cons_zero, List.set_cons_succ]
    refine wpAnyH_done (by kernel_rfl) ?_ _
    clear hHeld
    go_wp2
    go_ret
    exact ⟨rfl, HG.out.be.trans (hb4.mono HG.out.be.size)⟩
  have hq0 : (rightT m t != 0) = false := by simp [hr0]
  refine wpAnyH_take (i := 10) (v := ?vd14) (by simp only [List.getElem?_toArray, List.getElem?_cons_succ, List.getElem?_cons_zero]; rfl) (by kernel_rfl) (by kernel_rfl) (by kernel_rfl) (by exact fun _ _ _ h => h) (Or.inl ⟨by rfl, ?yd14⟩) (by assumption) ?_
  case yd14 => (intro W9 hSw; (try dsimp only at hSw); go_simp; try (with_reducible rfl))
  try simp only [Act.put, List.setIfInBounds_toArray, List.set_cons_zero, List.set_cons_succ]
  refine wpAnyH_take (i := 11) (v := ?vd15) (by simp only [List.getElem?_toArray, List.getElem?_cons_succ, List.getElem?_cons_zero]; rfl) (by kernel_rfl) (by kernel_rfl) (by kernel_rfl) (by exact fun _ _ _ h => h) (Or.inl ⟨by rfl, ?yd15⟩) (by assumption) ?_
  case yd15 => (intro W9 hSw; (try dsimp only at hSw); go_simp; try (with_reducible rfl))
  try simp only [Act.put, List.setIfInBounds_toArray, List.set_cons_zero, List.set_cons_succ]
  refine wpAnyH_done (by kernel_rfl) ?_ _
  clear hHeld hq0
  have HG4 := Lib.hid (HG.out.below hb4)
  obtain ⟨hmr, hsm, hbe⟩ := right_parts0 hr0
  have HMR := Lib.hid hmr
  have HBE := Lib.hid (fun b hb => blErr_all (l := t.blocks) hbe b hb)
  clear hsm hbe hmr hb2 hb3 hb4 hb0 HZ CT CM CR HG hw hbig hf hn hr0
  obtain ⟨d0, d1⟩ := boxG HG4.out.tg
  go_wp2
  clear d0 d1
  go_loopw [5, 6] (fun v k wr => ∃ j n : Nat, v = .int .i64 n ∧ k = .int .i64 j ∧ j ≤ t.blocks.length ∧ n ≤ j * 1501 ∧ Hid (cntB t.blocks = n + cntB (t.blocks.drop j)) ∧ TwoG w wr m aa sa ac sc t ba bc) (fun _ k _ => t.blocks.length - (intOf k).toNat)
  case atStart => exact ⟨0, 0, rfl, rfl, Nat.zero_le _, Nat.zero_le _, Lib.hid (by simp), HG4.out⟩
  case round =>
    obtain ⟨j, n, rfl, rfl, hj, hnj, HA, hG⟩ := hrel
    clear HG4
    have HG := Lib.hid hG
    clear hG
    obtain ⟨d0, d1⟩ := boxG HG.out.tg
    by_cases hlt : j < t.blocks.length
    case neg =>
      have e : j = t.blocks.length := by omega
      subst e
      have hlt' : ¬ (t.blocks.length : Int) < t.blocks.length := by omega
      have HSZ : Hid (sizeT t = (n : Int)) := by
        show _ = _
        rw [size_cnt, HA.out, List.drop_length]
        simp [cntB]
      have hqn : (sizeT t == (n : Int)) = true := by rw [HSZ.out]; simp
      obtain ⟨c0, c1, c2, c3⟩ := boxMa HG.out.mc
      have VM := Lib.hid (rightM_any m aa sa ac sc wr hl hs (HMW.out.below HG.out.be))
      rw [HMR.out] at VM
      have VZ : Hid (∀ W, Below w.heap.size w W → Calls Tryd.prog 24 #[tgV t ba bc] W fun e w' => e = .returned (.int .i64 (sizeT t)) ∧ Below W.heap.size W w') := fun W h => size_any t ba bc W ⟨by have := HF.out.1; omega, fun x hx => ⟨by have := (HF.out.2 x hx).1; omega, fun i hi => by have := (HF.out.2 x hx).2 i hi; omega⟩⟩ (HBL.out.below h)
      unfold machV at VM
      unfold tgV at VZ
      rw [HM.out] at VM
      rw [HC.out] at VZ
      go_wp2_with fail
      refine VM.out.mono ?_
      rintro e w5 ⟨rfl, hb5⟩
      have HG5 := Lib.hid (HG.out.below hb5)
      clear hb5 d0 d1 c0 c1 c2 c3
      obtain ⟨d0, d1⟩ := boxG HG5.out.tg
      go_wp2_with fail
      refine (VZ.out _ HG5.out.be).mono ?_
      rintro e w6 ⟨rfl, hb6⟩
      have HG6 := Lib.hid (HG5.out.below hb6)
      clear hb6 d0 d1
      go_wp2
      go_ret
      exact ⟨rfl, HG6.out.be⟩
    have hlt' : (j : Int) < t.blocks.length := by omega
    have hj0 : (0 : Int) ≤ j := by omega
    obtain ⟨y, hy⟩ : ∃ y, t.blocks[j]? = some y := ⟨_, List.getElem?_eq_getElem hlt⟩
    obtain ⟨g, o, ya, yc, rfl, hg, hc⟩ := HBL.out j y hy
    have hym := List.mem_of_getElem? hy
    obtain ⟨hie, hee⟩ := HBE.out y hym
    have HYE := Lib.hid hee
    have HYI := Lib.hid (insErr_all hie)
    obtain ⟨hyl, hyz⟩ := HF.out.2 y hym
    have HYZ := Lib.hid hyz
    have hfb := HF.out.1
    have HD : Hid (cntB t.blocks = (n + y.ins.length + 1) + cntB (t.blocks.drop (j + 1))) := by
      show _ = _
      rw [HA.out, List.drop_eq_getElem_cons hlt, (List.getElem?_eq_some_iff.1 hy).2]
      simp only [cntB, List.map_cons, List.sum_cons]
      omega
    have hcw := hc.below hg HG.out.be
    have c0 := hcw.c0
    have c1 := hcw.c1
    have c2 := hcw.c2
    have c3 := hcw.c3
    have c4 := hcw.c4
    have HIN := Lib.hid hc.ins
    clear hy HA hc hg hcw hym hie hee hyz
    have HG3 := Lib.hid (HG.out.alloc (.cells (blC y ya yc) 54))
    have HBK : Hid (Blk (wr.alloc (.cells (blC y ya yc) 54)) wr.heap.size 54 (blC y ya yc)) := Blk.new _ _ _
    obtain ⟨W1, hW1⟩ : ∃ W, W = wr := ⟨wr, rfl⟩
    subst hW1
    go_wp2
    clear c0 c1 c2 c3 c4 d0 d1
    go_loopw [5, 8] (fun v k w3 => ∃ i : Nat, v = .int .i64 ((n + i : Nat) : Int) ∧ k = .int .i64 i ∧ i ≤ y.ins.length ∧ TwoG w w3 m aa sa ac sc t (some ⟨g, o, none⟩) bc ∧ Blk w3 W1.heap.size 54 (blC y ya yc)) (fun _ k _ => y.ins.length - (intOf k).toNat)
    case atStart => exact ⟨0, by simp, rfl, Nat.zero_le _, HG3.out, HBK.out⟩
    case round =>
      obtain ⟨i, rfl, rfl, hi, hG, hBK⟩ := hrel
      clear HG HG3 HBK
      have HG := Lib.hid hG
      have HBK := Lib.hid hBK
      clear hG hBK
      obtain ⟨d0, d1⟩ := boxG HG.out.tg
      obtain ⟨c0, c1, c2, c3⟩ := boxMa HG.out.mc
      obtain ⟨b0, b1, b2, b3, b4⟩ := box5 HBK.out
      by_cases hi2 : i < y.ins.length
      · have hi3 : (i : Int) < y.ins.length := by omega
        have hi0 : (0 : Int) ≤ i := by omega
        obtain ⟨z, hz⟩ : ∃ z, y.ins[i]? = some z := ⟨_, List.getElem?_eq_getElem hi2⟩
        obtain ⟨g1, o1, za, zc, he1, hg1, hz1⟩ := (HIN.out.below HG.out.be) i z hz
        subst he1
        have hzm := List.mem_of_getElem? hz
        have hzE := HYI.out z hzm
        have HRP := Lib.hid (reads_place (m := m) (fr := t.frame) HMR.out hzE)
        have HWP := Lib.hid (writes_place (m := m) (fr := t.frame) HMR.out hzE)
        have HINS := Lib.hid (fun h => inserted_one m (x := z) h)
        have hop := no_copy hzE
        have hfr := reads_few m z
        have hfw := writes_few m z
        have HIA := Lib.hid hz1
        have CR : Hid (∀ W, Below wr.heap.size wr W → Calls Tryd.prog 10 #[machV m aa ac sa sc, insV z za zc] W fun e w' => ∃ v c, e = .returned (.slice v (readsT m z).length c) ∧ Hid (LocsW w' v (readsT m z)) ∧ Below wr.heap.size wr w' ∧ Hid (Below W.heap.size W w')) := fun W h =>
          rel_locs (reads_any m aa sa ac sc z za zc W (by omega) hroom hna (HMW.out.args.below (HG.out.be.trans (h.mono HG.out.be.size))) (HTW.out.below (HG.out.be.trans (h.mono HG.out.be.size)))) h
        have CW : Hid (∀ W, Below wr.heap.size wr W → Calls Tryd.prog 12 #[machV m aa ac sa sc, insV z za zc] W fun e w' => ∃ v c, e = .returned (.slice v (writesT m z).length c) ∧ Hid (LocsW w' v (writesT m z)) ∧ Below wr.heap.size wr w' ∧ Hid (Below W.heap.size W w')) := fun W h =>
          rel_locs (writes_any m aa sa ac sc z za zc W (HTW.out.below (HG.out.be.trans (h.mono HG.out.be.size)))) h
        have CA : Hid (∀ (l : List Ll) W v c, l.length ≤ 1000000 → (∀ x ∈ l, PlaceB m t.frame x) → Below wr.heap.size wr W → LocsW W v l → Calls Tryd.prog 29 #[machV m aa ac sa sc, .int .i64 t.frame, .slice v l.length c] W fun e w' => e = .returned (.bool true) ∧ Below wr.heap.size wr w' ∧ Hid (Below W.heap.size W w')) := fun l W v c h1 h2 h h3 =>
          (allP_any m aa sa ac sc t.frame l v c W h1 h3 h2).mono fun e w' ⟨h4, h5⟩ => ⟨h4, h.trans (h5.mono h.size), h5⟩
        have CI : Hid (∀ W, Below wr.heap.size wr W → Calls Tryd.prog 16 #[.int .i64 z.op] W fun e w' => e = .returned (.bool (insertedT z.op)) ∧ Below wr.heap.size wr w') := fun W h => (inserted_any z.op W).mono fun e w' ⟨h1, h2⟩ => ⟨h1, h2 ▸ h⟩
        unfold machV at CR CW CA
        unfold insV at CR CW
        rw [HM.out] at CR CW CA
        have CA1 := Lib.hid (fun W v c => CA.out (readsT m z) W v c (by omega) HRP.out)
        have CA2 := Lib.hid (fun W v c => CA.out (writesT m z) W v c (by omega) HWP.out)
        generalize readsT m z = lr at *
        generalize writesT m z = lw at *
        generalize hqi : insertedT z.op = q at *
        have HZ : Hid (∀ W, Below wr.heap.size wr W → Below wr.heap.size wr W ∧ (W.cell? ⟨w.heap.size, 0, none⟩ = some (.int .i64 m.regs) ∧ W.cell? ⟨w.heap.size, 1, none⟩ = some (.slice aa m.args.length ac) ∧ W.cell? ⟨w.heap.size, 2, none⟩ = some (.int .i64 m.ret) ∧ W.cell? ⟨w.heap.size, 3, none⟩ = some (.slice sa m.saved.length sc)) ∧ (W.cell? ⟨W1.heap.size, 0, none⟩ = some (.slice (some ⟨g1, o1, none⟩) y.ins.length yc) ∧ W.cell? ⟨W1.heap.size, 1, none⟩ = some (.int .i64 y.tm.kind) ∧ W.cell? ⟨W1.heap.size, 2, none⟩ = some (.int .i64 y.tm.a) ∧ W.cell? ⟨W1.heap.size, 3, none⟩ = some (.int .i64 y.tm.t0) ∧ W.cell? ⟨W1.heap.size, 4, none⟩ = some (.int .i64 y.tm.t1)) ∧ (W.cell? ⟨g1, o1 + i * 8, none⟩ = some (.int .i64 z.op) ∧ W.cell? ⟨g1, o1 + i * 8 + 1, none⟩ = some (.int .i64 z.dst) ∧ W.cell? ⟨g1, o1 + i * 8 + 2, none⟩ = some (.int .i64 z.a) ∧ W.cell? ⟨g1, o1 + i * 8 + 3, none⟩ = some (.int .i64 z.b) ∧ W.cell? ⟨g1, o1 + i * 8 + 4, none⟩ = some (.int .i64 z.imm) ∧ W.cell? ⟨g1, o1 + i * 8 + 5, none⟩ = some (.int .i64 z.callee) ∧ W.cell? ⟨g1, o1 + i * 8 + 6, none⟩ = some (.slice za z.args.length zc) ∧ W.cell? ⟨g1, o1 + i * 8 + 7, none⟩ = some (.int .i64 z.many)) ∧ (W.cell? ⟨w.heap.size + 1, 0, none⟩ = some (.int .i64 t.frame) ∧ W.cell? ⟨w.heap.size + 1, 1, none⟩ = some (.slice (some ⟨g, o, none⟩) t.blocks.length bc))) := fun W h =>
          ⟨h, boxMa (HG.out.below h).mc, box5 (HBK.out.below h HBK.out.lt), ⟨(HIA.out.below hg1 h).c0, (HIA.out.below hg1 h).c1, (HIA.out.below hg1 h).c2, (HIA.out.below hg1 h).c3, (HIA.out.below hg1 h).c4, (HIA.out.below hg1 h).c5, (HIA.out.below hg1 h).c6, (HIA.out.below hg1 h).c7⟩, boxG (HG.out.below h).tg⟩
        clear hz hz1 hzm hzE
        have hb0 : Below wr.heap.size wr wr.drew := (Below.refl _ _).drew
        go_upto_region 13 with fail
        clear c0 c1 c2 c3 b0 b1 b2 b3 b4 d0 d1
        go_region_held3 (fun W => Below wr.heap.size wr W ∧ (W.cell? ⟨w.heap.size, 0, none⟩ = some (.int .i64 m.regs) ∧ W.cell? ⟨w.heap.size, 1, none⟩ = some (.slice aa m.args.length ac) ∧ W.cell? ⟨w.heap.size, 2, none⟩ = some (.int .i64 m.ret) ∧ W.cell? ⟨w.heap.size, 3, none⟩ = some (.slice sa m.saved.length sc)) ∧ (W.cell? ⟨W1.heap.size, 0, none⟩ = some (.slice (some ⟨g1, o1, none⟩) y.ins.length yc) ∧ W.cell? ⟨W1.heap.size, 1, none⟩ = some (.int .i64 y.tm.kind) ∧ W.cell? ⟨W1.heap.size, 2, none⟩ = some (.int .i64 y.tm.a) ∧ W.cell? ⟨W1.heap.size, 3, none⟩ = some (.int .i64 y.tm.t0) ∧ W.cell? ⟨W1.heap.size, 4, none⟩ = some (.int .i64 y.tm.t1)) ∧ (W.cell? ⟨g1, o1 + i * 8, none⟩ = some (.int .i64 z.op) ∧ W.cell? ⟨g1, o1 + i * 8 + 1, none⟩ = some (.int .i64 z.dst) ∧ W.cell? ⟨g1, o1 + i * 8 + 2, none⟩ = some (.int .i64 z.a) ∧ W.cell? ⟨g1, o1 + i * 8 + 3, none⟩ = some (.int .i64 z.b) ∧ W.cell? ⟨g1, o1 + i * 8 + 4, none⟩ = some (.int .i64 z.imm) ∧ W.cell? ⟨g1, o1 + i * 8 + 5, none⟩ = some (.int .i64 z.callee) ∧ W.cell? ⟨g1, o1 + i * 8 + 6, none⟩ = some (.slice za z.args.length zc) ∧ W.cell? ⟨g1, o1 + i * 8 + 7, none⟩ = some (.int .i64 z.many)) ∧ (W.cell? ⟨w.heap.size + 1, 0, none⟩ = some (.int .i64 t.frame) ∧ W.cell? ⟨w.heap.size + 1, 1, none⟩ = some (.slice (some ⟨g, o, none⟩) t.blocks.length bc)))
          (first | (refine HZ.out _ ?_; first | exact (Below.refl _ _).drew | assumption))
          (first
            | (go_at_call 10; refine (CR.out _ (by go_split_ands; assumption)).mono ?_; rintro e w7 ⟨vx, cx, rfl, hX1, hb7, hW7⟩)
            | (go_at_call 12; refine (CW.out _ (by go_split_ands; assumption)).mono ?_; rintro e w8 ⟨vy, cy, rfl, hY1, hb8, hW8⟩; have hX3 := hX1.out.below hW8.out))
        rename_i hH
        clear hH
        have HX8 := Lib.hid hX3
        have HY8 := Lib.hid hY1.out
        clear hX1 hX3 hW7 hW8 hb7 hb0 CR CW CA hY1
        have hw1 : ¬ (1 : Int) < lw.length := by omega
        obtain ⟨_, ⟨c0, c1, c2, c3⟩, ⟨b0, b1, b2, b3, b4⟩, ⟨e0, e1, e2, e3, e4, e5, e6, e7⟩, ⟨d0, d1⟩⟩ := HZ.out _ hb8
        go_wp2_with fail
        refine (CA1.out _ _ _ hb8 HX8.out).mono ?_
        rintro e w9 ⟨rfl, hb9, hW9⟩
        clear c0 c1 c2 c3 b0 b1 b2 b3 b4 e0 e1 e2 e3 e4 e5 e6 e7 d0 d1
        obtain ⟨_, ⟨c0, c1, c2, c3⟩, ⟨b0, b1, b2, b3, b4⟩, ⟨e0, e1, e2, e3, e4, e5, e6, e7⟩, ⟨d0, d1⟩⟩ := HZ.out _ hb9
        go_wp2_with fail
        refine (CA2.out _ _ _ hb9 (HY8.out.below hW9.out)).mono ?_
        rintro e w10 ⟨rfl, hb10, hW10⟩
        clear c0 c1 c2 c3 b0 b1 b2 b3 b4 e0 e1 e2 e3 e4 e5 e6 e7 d0 d1
        obtain ⟨_, ⟨c0, c1, c2, c3⟩, ⟨b0, b1, b2, b3, b4⟩, ⟨e0, e1, e2, e3, e4, e5, e6, e7⟩, ⟨d0, d1⟩⟩ := HZ.out _ hb10
        go_wp2_with fail
        refine (CI.out _ hb10).mono ?_
        rintro e w11 ⟨rfl, hb11⟩
        clear c0 c1 c2 c3 b0 b1 b2 b3 b4 e0 e1 e2 e3 e4 e5 e6 e7 d0 d1
        obtain ⟨_, ⟨c0, c1, c2, c3⟩, ⟨b0, b1, b2, b3, b4⟩, ⟨e0, e1, e2, e3, e4, e5, e6, e7⟩, ⟨d0, d1⟩⟩ := HZ.out _ hb11
        have HG11 := Lib.hid (HG.out.below hb11)
        have HBK11 := Lib.hid (HBK.out.below hb11 HBK.out.lt)
        clear HZ CA1 CA2 CI hb8 hb9 hb10 hb11 HX8 HY8 hW9 hW10
        cases q
        case false =>
          go_wp2
          go_roundw
          case rel => exact ⟨i + 1, by go_num, by go_num, by omega, HG11.out, HBK11.out⟩
          case measure => simp [intOf]; omega
        case true =>
          obtain ⟨hn1, hn2⟩ := HINS.out rfl
          have hq1 : ((lr.length : Int) != 1) = false := by simp [hn1]
          have hq2 : ((lw.length : Int) != 1) = false := by simp [hn2]
          go_wp2
          go_roundw
          case rel => exact ⟨i + 1, by go_num, by go_num, by omega, HG11.out, HBK11.out⟩
          case measure => simp [intOf]; omega
      · have e : i = y.ins.length := by omega
        subst e
        have hi3 : ¬ (y.ins.length : Int) < y.ins.length := by omega
        have HNP := Lib.hid (needs_place (fr := t.frame) HMR.out HYE.out)
        have HNR := Lib.hid (fun hk hl => needs_ret HYE.out hk hl)
        have hfn := needs_few y.tm
        obtain ⟨_, _, hto⟩ := end_right HYE.out
        have hto2 := below_iff.1 hto
        have ht0 := hto2 y.tm.t0 (by simp)
        have ht1 := hto2 y.tm.t1 (by simp)
        have CN := Lib.hid (rel_locs (A := wr) (needs_any y.tm wr) (Below.refl _ _))
        have CA : Hid (∀ W v c, Below wr.heap.size wr W → LocsW W v (needsT y.tm) → Calls Tryd.prog 29 #[machV m aa ac sa sc, .int .i64 t.frame, .slice v (needsT y.tm).length c] W fun e w' => e = .returned (.bool true) ∧ Below wr.heap.size wr w') := fun W v c h h3 =>
          rel_keep (allP_any m aa sa ac sc t.frame (needsT y.tm) v c W (by omega) h3 HNP.out) h
        unfold machV at CA
        unfold termV at CN
        rw [HM.out] at CA
        generalize needsT y.tm = ln at *
        clear hto hto2
        go_wp2_with fail
        refine CN.out.mono ?_
        rintro e w5 ⟨vl, cl, rfl, hL, hb5, _⟩
        have hb5d : Below wr.heap.size wr w5.drew := hb5.drew
        have HL5 := Lib.hid (hL.out.below (Below.refl _ w5).drew)
        have hL9 := Lib.hid hL.out
        clear CN c0 c1 c2 c3 d0 d1 b0 b1 b2 b3 b4 hL
        have HZ : Hid (∀ W, Below wr.heap.size wr W → Below wr.heap.size wr W ∧ (W.cell? ⟨w.heap.size, 0, none⟩ = some (.int .i64 m.regs) ∧ W.cell? ⟨w.heap.size, 1, none⟩ = some (.slice aa m.args.length ac) ∧ W.cell? ⟨w.heap.size, 2, none⟩ = some (.int .i64 m.ret) ∧ W.cell? ⟨w.heap.size, 3, none⟩ = some (.slice sa m.saved.length sc)) ∧ (W.cell? ⟨W1.heap.size, 0, none⟩ = some (.slice ya y.ins.length yc) ∧ W.cell? ⟨W1.heap.size, 1, none⟩ = some (.int .i64 y.tm.kind) ∧ W.cell? ⟨W1.heap.size, 2, none⟩ = some (.int .i64 y.tm.a) ∧ W.cell? ⟨W1.heap.size, 3, none⟩ = some (.int .i64 y.tm.t0) ∧ W.cell? ⟨W1.heap.size, 4, none⟩ = some (.int .i64 y.tm.t1)) ∧ (W.cell? ⟨w.heap.size + 1, 0, none⟩ = some (.int .i64 t.frame) ∧ W.cell? ⟨w.heap.size + 1, 1, none⟩ = some (.slice (some ⟨g, o, none⟩) t.blocks.length bc))) := fun W h => ⟨h, boxMa (HG.out.below h).mc, box5 (HBK.out.below h HBK.out.lt), boxG (HG.out.below h).tg⟩
        go_upto_region 18 with fail
        cases ln with
        | nil =>
          by_cases hk3 : y.tm.kind = 3
          case neg =>
            have qk : (y.tm.kind == 3) = false := by simp [hk3]
            refine wp_region_held_drew (S := fun W => Below wr.heap.size wr W ∧ (W.cell? ⟨w.heap.size, 0, none⟩ = some (.int .i64 m.regs) ∧ W.cell? ⟨w.heap.size, 1, none⟩ = some (.slice aa m.args.length ac) ∧ W.cell? ⟨w.heap.size, 2, none⟩ = some (.int .i64 m.ret) ∧ W.cell? ⟨w.heap.size, 3, none⟩ = some (.slice sa m.saved.length sc)) ∧ (W.cell? ⟨W1.heap.size, 0, none⟩ = some (.slice ya y.ins.length yc) ∧ W.cell? ⟨W1.heap.size, 1, none⟩ = some (.int .i64 y.tm.kind) ∧ W.cell? ⟨W1.heap.size, 2, none⟩ = some (.int .i64 y.tm.a) ∧ W.cell? ⟨W1.heap.size, 3, none⟩ = some (.int .i64 y.tm.t0) ∧ W.cell? ⟨W1.heap.size, 4, none⟩ = some (.int .i64 y.tm.t1)) ∧ (W.cell? ⟨w.heap.size + 1, 0, none⟩ = some (.int .i64 t.frame) ∧ W.cell? ⟨w.heap.size + 1, 1, none⟩ = some (.slice (some ⟨g, o, none⟩) t.blocks.length bc))) (by kernel_rfl) ?_ (fun hHeld => ?_)
            · exact HZ.out _ hb5d
            refine wpAnyH_take (i := 0) (v := ?vd16) (by simp only [List.getElem?_toArray, List.getElem?_cons_zero]; rfl) (by kernel_rfl) (by kernel_rfl) (by kernel_rfl) (by exact fun _ _ _ h => h) (Or.inl ⟨by rfl, ?yd16⟩) (by assumption) ?_
            case yd16 => (intro W9 hSw; (try dsimp only at hSw); go_simp; try (with_reducible rfl))
            try simp only [Act.put, List.setIfInBounds_toArray, List.set_cons_zero, List.set_cons_succ]
            refine wpAnyH_take (i := 1) (v := ?vd17) (by simp only [List.getElem?_toArray, List.getElem?_cons_succ, List.getElem?_cons_zero]; rfl) (by kernel_rfl) (by kernel_rfl) (by kernel_rfl) (by exact fun _ _ _ h => h) (Or.inl ⟨by rfl, ?yd17⟩) (by assumption) ?_
            case yd17 => (intro W9 hSw; (try dsimp only at hSw); go_simp; try (with_reducible rfl))
            try simp only [Act.put, List.setIfInBounds_toArray, List.set_cons_zero, List.set_cons_succ]
            refine wpAnyH_take (i := 2) (v := ?vd18) (by simp only [List.getElem?_toArray, List.getElem?_cons_succ, List.getElem?_cons_zero]; rfl) (by kernel_rfl) (by kernel_rfl) (by kernel_rfl) (by exact fun _ _ _ h => h) (Or.inl ⟨by rfl, ?yd18⟩) (by assumption) ?_
            case yd18 => (intro W9 hSw; (try dsimp only at hSw); go_simp; try (with_reducible rfl))
            try simp only [Act.put, List.setIfInBounds_toArray, List.set_cons_zero, List.set_cons_succ]
            refine wpAnyH_take (i := 3) (v := ?vd19) (by simp only [List.getElem?_toArray, List.getElem?_cons_succ, List.getElem?_cons_zero]; rfl) (by kernel_rfl) (by kernel_rfl) (by kernel_rfl) (by exact fun _ _ _ h => h) (Or.inl ⟨by rfl, ?yd19⟩) (by assumption) ?_
            case yd19 => (intro W9 hSw; (try dsimp only at hSw); go_simp; try (with_reducible rfl))
            try simp only [Act.put, List.setIfInBounds_toArray, List.set_cons_zero, List.set_cons_succ]
            refine wpAnyH_ready (rs := [4]) (by kernel_rfl) (by simp) ?_
            refine AllReadyH.cons (by simp only [List.getElem?_toArray, List.getElem?_cons_succ, List.getElem?_cons_zero]; rfl) (fun K hK => ?_) AllReadyH.nil
            go_simp
            go_at_call 29
            refine (CA.out _ _ _ hb5d HL5.out).mono ?_
            rintro e w6 ⟨rfl, hb6⟩
            (try go_wp2_with fail)
            refine hK.out _ _ ?_ (fun hHeld2 => ?_)
            · exact HZ.out _ hb6
            clear hK K hHeld
            have hHeld := hHeld2
            clear hHeld2
            try simp only [Act.put, List.setIfInBounds_toArray, List.set_cons_zero, List.set_cons_succ]
            refine wpAnyH_take (i := 5) (v := ?vd20) (by simp only [List.getElem?_toArray, List.getElem?_cons_succ, List.getElem?_cons_zero]; rfl) (by kernel_rfl) (by kernel_rfl) (by kernel_rfl) (by exact fun _ _ _ h => h) (Or.inl ⟨by rfl, ?yd20⟩) (by assumption) ?_
            case yd20 => (intro W9 hSw; (try dsimp only at hSw); go_simp; try (with_reducible rfl))
            try simp only [Act.put, List.setIfInBounds_toArray, List.set_cons_zero, List.set_cons_succ]
            refine wpAnyH_take (i := 6) (v := ?vd21) (by simp only [List.getElem?_toArray, List.getElem?_cons_succ, List.getElem?_cons_zero]; rfl) (by kernel_rfl) (by kernel_rfl) (by kernel_rfl) (by exact fun _ _ _ h => h) (Or.inl ⟨by rfl, ?yd21⟩) (by assumption) ?_
            case yd21 => (intro W9 hSw; (try dsimp only at hSw); go_simp; try (with_reducible rfl))
            try simp only [Act.put, List.setIfInBounds_toArray, List.set_cons_zero, List.set_cons_succ]
            refine wpAnyH_take (i := 7) (v := ?vd22) (by simp only [List.getElem?_toArray, List.getElem?_cons_succ, List.getElem?_cons_zero]; rfl) (by kernel_rfl) (by kernel_rfl) (by kernel_rfl) (by exact fun _ _ _ h => h) (Or.inl ⟨by rfl, ?yd22⟩) (by assumption) ?_
            case yd22 => (intro W9 hSw; (try dsimp only at hSw); go_simp; try (with_reducible rfl))
            try simp only [Act.put, List.setIfInBounds_toArray, List.set_cons_zero, List.set_cons_succ]
            refine wpAnyH_take (i := 8) (v := ?vd23) (by simp only [List.getElem?_toArray, List.getElem?_cons_succ, List.getElem?_cons_zero]; rfl) (by kernel_rfl) (by kernel_rfl) (by kernel_rfl) (by exact fun _ _ _ h => h) (Or.inl ⟨by rfl, ?yd23⟩) (by assumption) ?_
            case yd23 => (intro W9 hSw; (try dsimp only at hSw); go_simp; try (with_reducible rfl))
            try simp only [Act.put, List.setIfInBounds_toArray, List.set_cons_zero, List.set_cons_succ]
            refine wpAnyH_take (i := 9) (v := ?vd24) (by simp only [List.getElem?_toArray, List.getElem?_cons_succ, List.getElem?_cons_zero]; rfl) (by kernel_rfl) (by kernel_rfl) (by kernel_rfl) (by exact fun _ _ _ h => h) (Or.inl ⟨by rfl, ?yd24⟩) (by assumption) ?_
            case yd24 => (intro W9 hSw; (try dsimp only at hSw); go_simp; try (with_reducible rfl))
            try simp only [Act.put, List.setIfInBounds_toArray, List.set_cons_zero, List.set_cons_succ]
            refine wpAnyH_take (i := 10) (v := ?vd25) (by simp only [List.getElem?_toArray, List.getElem?_cons_succ, List.getElem?_cons_zero]; rfl) (by kernel_rfl) (by kernel_rfl) (by kernel_rfl) (by exact fun _ _ _ h => h) (Or.inl ⟨by rfl, ?yd25⟩) (by assumption) ?_
            case yd25 => (intro W9 hSw; (try dsimp only at hSw); go_simp; try (with_reducible rfl))
            try simp only [Act.put, List.setIfInBounds_toArray, List.set_cons_zero, List.set_cons_succ]
            refine wpAnyH_take (i := 11) (v := ?vd26) (by simp only [List.getElem?_toArray, List.getElem?_cons_succ, List.getElem?_cons_zero]; rfl) (by kernel_rfl) (by kernel_rfl) (by kernel_rfl) (by exact fun _ _ _ h => h) (Or.inl ⟨by rfl, ?yd26⟩) (by assumption) ?_
            case yd26 => (intro W9 hSw; (try dsimp only at hSw); go_simp; try (with_reducible rfl))
            try simp only [Act.put, List.setIfInBounds_toArray, List.set_cons_zero, List.set_cons_succ]
            refine wpAnyH_take (i := 12) (v := ?vd27) (by simp only [List.getElem?_toArray, List.getElem?_cons_succ, List.getElem?_cons_zero]; rfl) (by kernel_rfl) (by kernel_rfl) (by kernel_rfl) (by exact fun _ _ _ h => h) (Or.inl ⟨by rfl, ?yd27⟩) (by assumption) ?_
            case yd27 => (intro W9 hSw; (try dsimp only at hSw); go_simp; try (with_reducible rfl))
            try simp only [Act.put, List.setIfInBounds_toArray, List.set_cons_zero, List.set_cons_succ]
            refine wpAnyH_take (i := 13) (v := ?vd28) (by simp only [List.getElem?_toArray, List.getElem?_cons_succ, List.getElem?_cons_zero]; rfl) (by kernel_rfl) (by kernel_rfl) (by kernel_rfl) (by exact fun _ _ _ h => h) (Or.inl ⟨by rfl, ?yd28⟩) (by assumption) ?_
            case yd28 => (intro W9 hSw; (try dsimp only at hSw); go_simp; try (with_reducible rfl))
            try simp only [Act.put, List.setIfInBounds_toArray, List.set_cons_zero, List.set_cons_succ]
            refine wpAnyH_take (i := 14) (v := ?vd29) (by simp only [List.getElem?_toArray, List.getElem?_cons_succ, List.getElem?_cons_zero]; rfl) (by kernel_rfl) (by kernel_rfl) (by kernel_rfl) (by exact fun _ _ _ h => h) (Or.inl ⟨by rfl, ?yd29⟩) (by assumption) ?_
            case yd29 => (intro W9 hSw; (try dsimp only at hSw); go_simp; try (with_reducible rfl))
            try simp only [Act.put, List.setIfInBounds_toArray, List.set_cons_zero, List.set_cons_succ]
            refine wpAnyH_take (i := 15) (v := ?vd30) (by simp only [List.getElem?_toArray, List.getElem?_cons_succ, List.getElem?_cons_zero]; rfl) (by kernel_rfl) (by kernel_rfl) (by kernel_rfl) (by exact fun _ _ _ h => h) (Or.inl ⟨by rfl, ?yd30⟩) (by assumption) ?_
            case yd30 => (intro W9 hSw; (try dsimp only at hSw); go_simp; try (with_reducible rfl))
            try simp only [Act.put, List.setIfInBounds_toArray, List.set_cons_zero, List.set_cons_succ]
            refine wpAnyH_take (i := 16) (v := ?vd31) (by simp only [List.getElem?_toArray, List.getElem?_cons_succ, List.getElem?_cons_zero]; rfl) (by kernel_rfl) (by kernel_rfl) (by kernel_rfl) (by exact fun _ _ _ h => h) (Or.inl ⟨by rfl, ?yd31⟩) (by assumption) ?_
            case yd31 => (intro W9 hSw; (try dsimp only at hSw); go_simp; try (with_reducible rfl))
            try simp only [Act.put, List.setIfInBounds_toArray, List.set_cons_zero, List.set_cons_succ]
            refine wpAnyH_take (i := 17) (v := undef) (by simp only [List.getElem?_toArray, List.getElem?_cons_succ, List.getElem?_cons_zero]; rfl) (by kernel_rfl) (by kernel_rfl) (by kernel_rfl) (by exact fun _ _ _ h => h) (Or.inr ⟨by rfl, rfl⟩) (by assumption) ?_
            try simp only [Act.put, List.setIfInBounds_toArray, List.set_cons_zero, List.set_cons_succ]
            refine wpAnyH_take (i := 18) (v := undef) (by simp only [List.getElem?_toArray, List.getElem?_cons_succ, List.getElem?_cons_zero]; rfl) (by kernel_rfl) (by kernel_rfl) (by kernel_rfl) (by exact fun _ _ _ h => h) (Or.inr ⟨by rfl, rfl⟩) (by assumption) ?_
            try simp only [Act.put, List.setIfInBounds_toArray, List.set_cons_zero, List.set_cons_succ]
            refine wpAnyH_take (i := 19) (v := undef) (by simp only [List.getElem?_toArray, List.getElem?_cons_succ, List.getElem?_cons_zero]; rfl) (by kernel_rfl) (by kernel_rfl) (by kernel_rfl) (by exact fun _ _ _ h => h) (Or.inr ⟨by rfl, rfl⟩) (by assumption) ?_
            try simp only [Act.put, List.setIfInBounds_toArray, List.set_cons_zero, List.set_cons_succ]
            refine wpAnyH_take (i := 20) (v := ?vd32) (by simp only [List.getElem?_toArray, List.getElem?_cons_succ, List.getElem?_cons_zero]; rfl) (by kernel_rfl) (by kernel_rfl) (by kernel_rfl) (by exact fun _ _ _ h => h) (Or.inl ⟨by rfl, ?yd32⟩) (by assumption) ?_
            case yd32 => (intro W9 hSw; (try dsimp only at hSw); go_simp; try (with_reducible rfl))
            try simp only [Act.put, List.setIfInBounds_toArray, List.set_cons_zero, List.set_cons_succ]
            refine wpAnyH_take (i := 21) (v := ?vd33) (by simp only [List.getElem?_toArray, List.getElem?_cons_succ, List.getElem?_cons_zero]; rfl) (by kernel_rfl) (by kernel_rfl) (by kernel_rfl) (by exact fun _ _ _ h => h) (Or.inl ⟨by rfl, ?yd33⟩) (by assumption) ?_
            case yd33 => (intro W9 hSw; (try dsimp only at hSw); go_simp; try (with_reducible rfl))
            try simp only [Act.put, List.setIfInBounds_toArray, List.set_cons_zero, List.set_cons_succ]
            refine wpAnyH_take (i := 22) (v := undef) (by simp only [List.getElem?_toArray, List.getElem?_cons_succ, List.getElem?_cons_zero]; rfl) (by kernel_rfl) (by kernel_rfl) (by kernel_rfl) (by exact fun _ _ _ h => h) (Or.inr ⟨by rfl, rfl⟩) (by assumption) ?_
            try simp only [Act.put, List.setIfInBounds_toArray, List.set_cons_zero, List.set_cons_succ]
            refine wpAnyH_take (i := 23) (v := undef) (by simp only [List.getElem?_toArray, List.getElem?_cons_succ, List.getElem?_cons_zero]; rfl) (by kernel_rfl) (by kernel_rfl) (by kernel_rfl) (by exact fun _ _ _ h => h) (Or.inr ⟨by rfl, rfl⟩) (by assumption) ?_
            try simp only [Act.put, List.setIfInBounds_toArray, List.set_cons_zero, List.set_cons_succ]
            refine wpAnyH_take (i := 24) (v := undef) (by simp only [List.getElem?_toArray, List.getElem?_cons_succ, List.getElem?_cons_zero]; rfl) (by kernel_rfl) (by kernel_rfl) (by kernel_rfl) (by exact fun _ _ _ h => h) (Or.inr ⟨by rfl, rfl⟩) (by assumption) ?_
            try simp only [Act.put, List.setIfInBounds_toArray, List.set_cons_zero, List.set_cons_succ]
            refine wpAnyH_take (i := 25) (v := undef) (by simp only [List.getElem?_toArray, List.getElem?_cons_succ, List.getElem?_cons_zero]; rfl) (by kernel_rfl) (by kernel_rfl) (by kernel_rfl) (by exact fun _ _ _ h => h) (Or.inr ⟨by rfl, rfl⟩) (by assumption) ?_
            try simp only [Act.put, List.setIfInBounds_toArray, List.set_cons_zero, List.set_cons_succ]
            refine wpAnyH_take (i := 26) (v := undef) (by simp only [List.getElem?_toArray, List.getElem?_cons_succ, List.getElem?_cons_zero]; rfl) (by kernel_rfl) (by kernel_rfl) (by kernel_rfl) (by exact fun _ _ _ h => h) (Or.inr ⟨by rfl, rfl⟩) (by assumption) ?_
            try simp only [Act.put, List.setIfInBounds_toArray, List.set_cons_zero, List.set_cons_succ]
            refine wpAnyH_take (i := 27) (v := undef) (by simp only [List.getElem?_toArray, List.getElem?_cons_succ, List.getElem?_cons_zero]; rfl) (by kernel_rfl) (by kernel_rfl) (by kernel_rfl) (by exact fun _ _ _ h => h) (Or.inr ⟨by rfl, rfl⟩) (by assumption) ?_
            try simp only [Act.put, List.setIfInBounds_toArray, List.set_cons_zero, List.set_cons_succ]
            refine wpAnyH_take (i := 28) (v := undef) (by simp only [List.getElem?_toArray, List.getElem?_cons_succ, List.getElem?_cons_zero]; rfl) (by kernel_rfl) (by kernel_rfl) (by kernel_rfl) (by exact fun _ _ _ h => h) (Or.inr ⟨by rfl, rfl⟩) (by assumption) ?_
            try simp only [Act.put, List.setIfInBounds_toArray, List.set_cons_zero, List.set_cons_succ]
            refine wpAnyH_take (i := 29) (v := ?vd34) (by simp only [List.getElem?_toArray, List.getElem?_cons_succ, List.getElem?_cons_zero]; rfl) (by kernel_rfl) (by kernel_rfl) (by kernel_rfl) (by exact fun _ _ _ h => h) (Or.inl ⟨by rfl, ?yd34⟩) (by assumption) ?_
            case yd34 => (intro W9 hSw; (try dsimp only at hSw); go_simp; try (with_reducible rfl))
            try simp only [Act.put, List.setIfInBounds_toArray, List.set_cons_zero, List.set_cons_succ]
            refine wpAnyH_take (i := 30) (v := ?vd35) (by simp only [List.getElem?_toArray, List.getElem?_cons_succ, List.getElem?_cons_zero]; rfl) (by kernel_rfl) (by kernel_rfl) (by kernel_rfl) (by exact fun _ _ _ h => h) (Or.inl ⟨by rfl, ?yd35⟩) (by assumption) ?_
            case yd35 => (intro W9 hSw; (try dsimp only at hSw); go_simp; try (with_reducible rfl))
            try simp only [Act.put, List.setIfInBounds_toArray, List.set_cons_zero, List.set_cons_succ]
            refine wpAnyH_done (by kernel_rfl) ?_ _
            clear hHeld
            have HG6 := Lib.hid (HG.out.below hb6)
            have HBK6 := Lib.hid (HBK.out.below hb6 HBK.out.lt)
            clear HZ CA hb5 hb5d hb6 HL5 hL9 HG HBK
            go_wp2
            go_loopw [12] (fun k w7 => ∃ kk : Nat, k = .int .i64 kk ∧ kk ≤ 2 ∧ TwoG w w7 m aa sa ac sc t (some ⟨g, o, none⟩) bc ∧ Blk w7 W1.heap.size 54 (blC y ya yc)) (fun k _ => 2 - (intOf k).toNat)
            case atStart => exact ⟨0, rfl, by omega, HG6.out, HBK6.out⟩
            case round =>
              obtain ⟨kk, rfl, hkk, hG, hBK⟩ := hrel
              clear HG6 HBK6
              have HG := Lib.hid hG
              have HBK := Lib.hid hBK
              clear hG hBK
              obtain ⟨d0, d1⟩ := boxG HG.out.tg
              obtain ⟨b0, b1, b2, b3, b4⟩ := box5 HBK.out
              have hT0 : ¬ y.tm.t0 < 0 := by omega
              have hT1 : ¬ y.tm.t1 < 0 := by omega
              have hT2 : ¬ (t.blocks.length : Int) ≤ y.tm.t0 := by omega
              have hT3 : ¬ (t.blocks.length : Int) ≤ y.tm.t1 := by omega
              match kk, hkk with
              | 0, _ =>
                go_wp2_with fail
                go_quiet (fail)
                go_wp2
                go_roundw
                case rel => exact ⟨1, by go_num, by omega, HG.out.below (below_drewN (Below.refl _ _) _), HBK.out.below (below_drewN (Below.refl _ _) _) HBK.out.lt⟩
                case measure => simp [intOf]
              | 1, _ =>
                go_wp2_with fail
                go_quiet (fail)
                go_wp2
                go_roundw
                case rel => exact ⟨2, by go_num, by omega, HG.out.below (below_drewN (Below.refl _ _) _), HBK.out.below (below_drewN (Below.refl _ _) _) HBK.out.lt⟩
                case measure => simp [intOf]
              | 2, _ =>
                go_wp2
                go_roundw
                case rel => exact ⟨j + 1, n + y.ins.length + 1, by go_num, by go_num, by omega, by omega, HD, HG.out⟩
                case measure => simp [intOf]; omega
          have qk : (y.tm.kind == 3) = true := by simp [hk3]
          refine wp_region_held_drew (S := fun W => Below wr.heap.size wr W ∧ (W.cell? ⟨w.heap.size, 0, none⟩ = some (.int .i64 m.regs) ∧ W.cell? ⟨w.heap.size, 1, none⟩ = some (.slice aa m.args.length ac) ∧ W.cell? ⟨w.heap.size, 2, none⟩ = some (.int .i64 m.ret) ∧ W.cell? ⟨w.heap.size, 3, none⟩ = some (.slice sa m.saved.length sc)) ∧ (W.cell? ⟨W1.heap.size, 0, none⟩ = some (.slice ya y.ins.length yc) ∧ W.cell? ⟨W1.heap.size, 1, none⟩ = some (.int .i64 y.tm.kind) ∧ W.cell? ⟨W1.heap.size, 2, none⟩ = some (.int .i64 y.tm.a) ∧ W.cell? ⟨W1.heap.size, 3, none⟩ = some (.int .i64 y.tm.t0) ∧ W.cell? ⟨W1.heap.size, 4, none⟩ = some (.int .i64 y.tm.t1)) ∧ (W.cell? ⟨w.heap.size + 1, 0, none⟩ = some (.int .i64 t.frame) ∧ W.cell? ⟨w.heap.size + 1, 1, none⟩ = some (.slice (some ⟨g, o, none⟩) t.blocks.length bc))) (by kernel_rfl) ?_ (fun hHeld => ?_)
          · exact HZ.out _ hb5d
          refine wpAnyH_take (i := 0) (v := ?vd36) (by simp only [List.getElem?_toArray, List.getElem?_cons_zero]; rfl) (by kernel_rfl) (by kernel_rfl) (by kernel_rfl) (by exact fun _ _ _ h => h) (Or.inl ⟨by rfl, ?yd36⟩) (by assumption) ?_
          case yd36 => (intro W9 hSw; (try dsimp only at hSw); go_simp; try (with_reducible rfl))
          try simp only [Act.put, List.setIfInBounds_toArray, List.set_cons_zero, List.set_cons_succ]
          refine wpAnyH_take (i := 1) (v := ?vd37) (by simp only [List.getElem?_toArray, List.getElem?_cons_succ, List.getElem?_cons_zero]; rfl) (by kernel_rfl) (by kernel_rfl) (by kernel_rfl) (by exact fun _ _ _ h => h) (Or.inl ⟨by rfl, ?yd37⟩) (by assumption) ?_
          case yd37 => (intro W9 hSw; (try dsimp only at hSw); go_simp; try (with_reducible rfl))
          try simp only [Act.put, List.setIfInBounds_toArray, List.set_cons_zero, List.set_cons_succ]
          refine wpAnyH_take (i := 2) (v := ?vd38) (by simp only [List.getElem?_toArray, List.getElem?_cons_succ, List.getElem?_cons_zero]; rfl) (by kernel_rfl) (by kernel_rfl) (by kernel_rfl) (by exact fun _ _ _ h => h) (Or.inl ⟨by rfl, ?yd38⟩) (by assumption) ?_
          case yd38 => (intro W9 hSw; (try dsimp only at hSw); go_simp; try (with_reducible rfl))
          try simp only [Act.put, List.setIfInBounds_toArray, List.set_cons_zero, List.set_cons_succ]
          refine wpAnyH_take (i := 3) (v := ?vd39) (by simp only [List.getElem?_toArray, List.getElem?_cons_succ, List.getElem?_cons_zero]; rfl) (by kernel_rfl) (by kernel_rfl) (by kernel_rfl) (by exact fun _ _ _ h => h) (Or.inl ⟨by rfl, ?yd39⟩) (by assumption) ?_
          case yd39 => (intro W9 hSw; (try dsimp only at hSw); go_simp; try (with_reducible rfl))
          try simp only [Act.put, List.setIfInBounds_toArray, List.set_cons_zero, List.set_cons_succ]
          refine wpAnyH_ready (rs := [4]) (by kernel_rfl) (by simp) ?_
          refine AllReadyH.cons (by simp only [List.getElem?_toArray, List.getElem?_cons_succ, List.getElem?_cons_zero]; rfl) (fun K hK => ?_) AllReadyH.nil
          go_simp
          go_at_call 29
          refine (CA.out _ _ _ hb5d HL5.out).mono ?_
          rintro e w6 ⟨rfl, hb6⟩
          (try go_wp2_with fail)
          refine hK.out _ _ ?_ (fun hHeld2 => ?_)
          · exact HZ.out _ hb6
          clear hK K hHeld
          have hHeld := hHeld2
          clear hHeld2
          try simp only [Act.put, List.setIfInBounds_toArray, List.set_cons_zero, List.set_cons_succ]
          refine wpAnyH_take (i := 5) (v := ?vd40) (by simp only [List.getElem?_toArray, List.getElem?_cons_succ, List.getElem?_cons_zero]; rfl) (by kernel_rfl) (by kernel_rfl) (by kernel_rfl) (by exact fun _ _ _ h => h) (Or.inl ⟨by rfl, ?yd40⟩) (by assumption) ?_
          case yd40 => (intro W9 hSw; (try dsimp only at hSw); go_simp; try (with_reducible rfl))
          try simp only [Act.put, List.setIfInBounds_toArray, List.set_cons_zero, List.set_cons_succ]
          refine wpAnyH_take (i := 6) (v := ?vd41) (by simp only [List.getElem?_toArray, List.getElem?_cons_succ, List.getElem?_cons_zero]; rfl) (by kernel_rfl) (by kernel_rfl) (by kernel_rfl) (by exact fun _ _ _ h => h) (Or.inl ⟨by rfl, ?yd41⟩) (by assumption) ?_
          case yd41 => (intro W9 hSw; (try dsimp only at hSw); go_simp; try (with_reducible rfl))
          try simp only [Act.put, List.setIfInBounds_toArray, List.set_cons_zero, List.set_cons_succ]
          refine wpAnyH_take (i := 7) (v := ?vd42) (by simp only [List.getElem?_toArray, List.getElem?_cons_succ, List.getElem?_cons_zero]; rfl) (by kernel_rfl) (by kernel_rfl) (by kernel_rfl) (by exact fun _ _ _ h => h) (Or.inl ⟨by rfl, ?yd42⟩) (by assumption) ?_
          case yd42 => (intro W9 hSw; (try dsimp only at hSw); go_simp; try (with_reducible rfl))
          try simp only [Act.put, List.setIfInBounds_toArray, List.set_cons_zero, List.set_cons_succ]
          refine wpAnyH_take (i := 8) (v := ?vd43) (by simp only [List.getElem?_toArray, List.getElem?_cons_succ, List.getElem?_cons_zero]; rfl) (by kernel_rfl) (by kernel_rfl) (by kernel_rfl) (by exact fun _ _ _ h => h) (Or.inl ⟨by rfl, ?yd43⟩) (by assumption) ?_
          case yd43 => (intro W9 hSw; (try dsimp only at hSw); go_simp; try (with_reducible rfl))
          try simp only [Act.put, List.setIfInBounds_toArray, List.set_cons_zero, List.set_cons_succ]
          refine wpAnyH_take (i := 9) (v := ?vd44) (by simp only [List.getElem?_toArray, List.getElem?_cons_succ, List.getElem?_cons_zero]; rfl) (by kernel_rfl) (by kernel_rfl) (by kernel_rfl) (by exact fun _ _ _ h => h) (Or.inl ⟨by rfl, ?yd44⟩) (by assumption) ?_
          case yd44 => (intro W9 hSw; (try dsimp only at hSw); go_simp; try (with_reducible rfl))
          try simp only [Act.put, List.setIfInBounds_toArray, List.set_cons_zero, List.set_cons_succ]
          refine wpAnyH_take (i := 10) (v := ?vd45) (by simp only [List.getElem?_toArray, List.getElem?_cons_succ, List.getElem?_cons_zero]; rfl) (by kernel_rfl) (by kernel_rfl) (by kernel_rfl) (by exact fun _ _ _ h => h) (Or.inl ⟨by rfl, ?yd45⟩) (by assumption) ?_
          case yd45 => (intro W9 hSw; (try dsimp only at hSw); go_simp; try (with_reducible rfl))
          try simp only [Act.put, List.setIfInBounds_toArray, List.set_cons_zero, List.set_cons_succ]
          refine wpAnyH_take (i := 11) (v := ?vd46) (by simp only [List.getElem?_toArray, List.getElem?_cons_succ, List.getElem?_cons_zero]; rfl) (by kernel_rfl) (by kernel_rfl) (by kernel_rfl) (by exact fun _ _ _ h => h) (Or.inl ⟨by rfl, ?yd46⟩) (by assumption) ?_
          case yd46 => (intro W9 hSw; (try dsimp only at hSw); go_simp; try (with_reducible rfl))
          try simp only [Act.put, List.setIfInBounds_toArray, List.set_cons_zero, List.set_cons_succ]
          refine wpAnyH_take (i := 12) (v := ?vd47) (by simp only [List.getElem?_toArray, List.getElem?_cons_succ, List.getElem?_cons_zero]; rfl) (by kernel_rfl) (by kernel_rfl) (by kernel_rfl) (by exact fun _ _ _ h => h) (Or.inl ⟨by rfl, ?yd47⟩) (by assumption) ?_
          case yd47 => (intro W9 hSw; (try dsimp only at hSw); go_simp; try (with_reducible rfl))
          try simp only [Act.put, List.setIfInBounds_toArray, List.set_cons_zero, List.set_cons_succ]
          refine wpAnyH_take (i := 13) (v := ?vd48) (by simp only [List.getElem?_toArray, List.getElem?_cons_succ, List.getElem?_cons_zero]; rfl) (by kernel_rfl) (by kernel_rfl) (by kernel_rfl) (by exact fun _ _ _ h => h) (Or.inl ⟨by rfl, ?yd48⟩) (by assumption) ?_
          case yd48 => (intro W9 hSw; (try dsimp only at hSw); go_simp; try (with_reducible rfl))
          try simp only [Act.put, List.setIfInBounds_toArray, List.set_cons_zero, List.set_cons_succ]
          refine wpAnyH_take (i := 14) (v := ?vd49) (by simp only [List.getElem?_toArray, List.getElem?_cons_succ, List.getElem?_cons_zero]; rfl) (by kernel_rfl) (by kernel_rfl) (by kernel_rfl) (by exact fun _ _ _ h => h) (Or.inl ⟨by rfl, ?yd49⟩) (by assumption) ?_
          case yd49 => (intro W9 hSw; (try dsimp only at hSw); go_simp; try (with_reducible rfl))
          try simp only [Act.put, List.setIfInBounds_toArray, List.set_cons_zero, List.set_cons_succ]
          refine wpAnyH_take (i := 15) (v := ?vd50) (by simp only [List.getElem?_toArray, List.getElem?_cons_succ, List.getElem?_cons_zero]; rfl) (by kernel_rfl) (by kernel_rfl) (by kernel_rfl) (by exact fun _ _ _ h => h) (Or.inl ⟨by rfl, ?yd50⟩) (by assumption) ?_
          case yd50 => (intro W9 hSw; (try dsimp only at hSw); go_simp; try (with_reducible rfl))
          try simp only [Act.put, List.setIfInBounds_toArray, List.set_cons_zero, List.set_cons_succ]
          refine wpAnyH_take (i := 16) (v := ?vd51) (by simp only [List.getElem?_toArray, List.getElem?_cons_succ, List.getElem?_cons_zero]; rfl) (by kernel_rfl) (by kernel_rfl) (by kernel_rfl) (by exact fun _ _ _ h => h) (Or.inl ⟨by rfl, ?yd51⟩) (by assumption) ?_
          case yd51 => (intro W9 hSw; (try dsimp only at hSw); go_simp; try (with_reducible rfl))
          try simp only [Act.put, List.setIfInBounds_toArray, List.set_cons_zero, List.set_cons_succ]
          refine wpAnyH_take (i := 17) (v := ?vd52) (by simp only [List.getElem?_toArray, List.getElem?_cons_succ, List.getElem?_cons_zero]; rfl) (by kernel_rfl) (by kernel_rfl) (by kernel_rfl) (by exact fun _ _ _ h => h) (Or.inl ⟨by rfl, ?yd52⟩) (by assumption) ?_
          case yd52 => (intro W9 hSw; (try dsimp only at hSw); go_simp; try (with_reducible rfl))
          try simp only [Act.put, List.setIfInBounds_toArray, List.set_cons_zero, List.set_cons_succ]
          refine wpAnyH_take (i := 18) (v := ?vd53) (by simp only [List.getElem?_toArray, List.getElem?_cons_succ, List.getElem?_cons_zero]; rfl) (by kernel_rfl) (by kernel_rfl) (by kernel_rfl) (by exact fun _ _ _ h => h) (Or.inl ⟨by rfl, ?yd53⟩) (by assumption) ?_
          case yd53 => (intro W9 hSw; (try dsimp only at hSw); go_simp; try (with_reducible rfl))
          try simp only [Act.put, List.setIfInBounds_toArray, List.set_cons_zero, List.set_cons_succ]
          refine wpAnyH_take (i := 19) (v := ?vd54) (by simp only [List.getElem?_toArray, List.getElem?_cons_succ, List.getElem?_cons_zero]; rfl) (by kernel_rfl) (by kernel_rfl) (by kernel_rfl) (by exact fun _ _ _ h => h) (Or.inl ⟨by rfl, ?yd54⟩) (by assumption) ?_
          case yd54 => (intro W9 hSw; (try dsimp only at hSw); go_simp; try (with_reducible rfl))
          try simp only [Act.put, List.setIfInBounds_toArray, List.set_cons_zero, List.set_cons_succ]
          refine wpAnyH_take (i := 20) (v := ?vd55) (by simp only [List.getElem?_toArray, List.getElem?_cons_succ, List.getElem?_cons_zero]; rfl) (by kernel_rfl) (by kernel_rfl) (by kernel_rfl) (by exact fun _ _ _ h => h) (Or.inl ⟨by rfl, ?yd55⟩) (by assumption) ?_
          case yd55 => (intro W9 hSw; (try dsimp only at hSw); go_simp; try (with_reducible rfl))
          try simp only [Act.put, List.setIfInBounds_toArray, List.set_cons_zero, List.set_cons_succ]
          refine wpAnyH_take (i := 21) (v := ?vd56) (by simp only [List.getElem?_toArray, List.getElem?_cons_succ, List.getElem?_cons_zero]; rfl) (by kernel_rfl) (by kernel_rfl) (by kernel_rfl) (by exact fun _ _ _ h => h) (Or.inl ⟨by rfl, ?yd56⟩) (by assumption) ?_
          case yd56 => (intro W9 hSw; (try dsimp only at hSw); go_simp; try (with_reducible rfl))
          try simp only [Act.put, List.setIfInBounds_toArray, List.set_cons_zero, List.set_cons_succ]
          refine wpAnyH_take (i := 22) (v := undef) (by simp only [List.getElem?_toArray, List.getElem?_cons_succ, List.getElem?_cons_zero]; rfl) (by kernel_rfl) (by kernel_rfl) (by kernel_rfl) (by exact fun _ _ _ h => h) (Or.inr ⟨by rfl, rfl⟩) (by assumption) ?_
          try simp only [Act.put, List.setIfInBounds_toArray, List.set_cons_zero, List.set_cons_succ]
          refine wpAnyH_take (i := 23) (v := undef) (by simp only [List.getElem?_toArray, List.getElem?_cons_succ, List.getElem?_cons_zero]; rfl) (by kernel_rfl) (by kernel_rfl) (by kernel_rfl) (by exact fun _ _ _ h => h) (Or.inr ⟨by rfl, rfl⟩) (by assumption) ?_
          try simp only [Act.put, List.setIfInBounds_toArray, List.set_cons_zero, List.set_cons_succ]
          refine wpAnyH_take (i := 24) (v := undef) (by simp only [List.getElem?_toArray, List.getElem?_cons_succ, List.getElem?_cons_zero]; rfl) (by kernel_rfl) (by kernel_rfl) (by kernel_rfl) (by exact fun _ _ _ h => h) (Or.inr ⟨by rfl, rfl⟩) (by assumption) ?_
          try simp only [Act.put, List.setIfInBounds_toArray, List.set_cons_zero, List.set_cons_succ]
          refine wpAnyH_take (i := 25) (v := undef) (by simp only [List.getElem?_toArray, List.getElem?_cons_succ, List.getElem?_cons_zero]; rfl) (by kernel_rfl) (by kernel_rfl) (by kernel_rfl) (by exact fun _ _ _ h => h) (Or.inr ⟨by rfl, rfl⟩) (by assumption) ?_
          try simp only [Act.put, List.setIfInBounds_toArray, List.set_cons_zero, List.set_cons_succ]
          refine wpAnyH_take (i := 26) (v := undef) (by simp only [List.getElem?_toArray, List.getElem?_cons_succ, List.getElem?_cons_zero]; rfl) (by kernel_rfl) (by kernel_rfl) (by kernel_rfl) (by exact fun _ _ _ h => h) (Or.inr ⟨by rfl, rfl⟩) (by assumption) ?_
          try simp only [Act.put, List.setIfInBounds_toArray, List.set_cons_zero, List.set_cons_succ]
          refine wpAnyH_take (i := 27) (v := undef) (by simp only [List.getElem?_toArray, List.getElem?_cons_succ, List.getElem?_cons_zero]; rfl) (by kernel_rfl) (by kernel_rfl) (by kernel_rfl) (by exact fun _ _ _ h => h) (Or.inr ⟨by rfl, rfl⟩) (by assumption) ?_
          try simp only [Act.put, List.setIfInBounds_toArray, List.set_cons_zero, List.set_cons_succ]
          refine wpAnyH_take (i := 28) (v := undef) (by simp only [List.getElem?_toArray, List.getElem?_cons_succ, List.getElem?_cons_zero]; rfl) (by kernel_rfl) (by kernel_rfl) (by kernel_rfl) (by exact fun _ _ _ h => h) (Or.inr ⟨by rfl, rfl⟩) (by assumption) ?_
          try simp only [Act.put, List.setIfInBounds_toArray, List.set_cons_zero, List.set_cons_succ]
          refine wpAnyH_take (i := 29) (v := ?vd57) (by simp only [List.getElem?_toArray, List.getElem?_cons_succ, List.getElem?_cons_zero]; rfl) (by kernel_rfl) (by kernel_rfl) (by kernel_rfl) (by exact fun _ _ _ h => h) (Or.inl ⟨by rfl, ?yd57⟩) (by assumption) ?_
          case yd57 => (intro W9 hSw; (try dsimp only at hSw); go_simp; try (with_reducible rfl))
          try simp only [Act.put, List.setIfInBounds_toArray, List.set_cons_zero, List.set_cons_succ]
          refine wpAnyH_take (i := 30) (v := ?vd58) (by simp only [List.getElem?_toArray, List.getElem?_cons_succ, List.getElem?_cons_zero]; rfl) (by kernel_rfl) (by kernel_rfl) (by kernel_rfl) (by exact fun _ _ _ h => h) (Or.inl ⟨by rfl, ?yd58⟩) (by assumption) ?_
          case yd58 => (intro W9 hSw; (try dsimp only at hSw); go_simp; try (with_reducible rfl))
          try simp only [Act.put, List.setIfInBounds_toArray, List.set_cons_zero, List.set_cons_succ]
          refine wpAnyH_done (by kernel_rfl) ?_ _
          clear hHeld
          have HG6 := Lib.hid (HG.out.below hb6)
          have HBK6 := Lib.hid (HBK.out.below hb6 HBK.out.lt)
          clear HZ CA hb5 hb5d hb6 HL5 hL9 HG HBK
          go_wp2
          go_loopw [12] (fun k w7 => ∃ kk : Nat, k = .int .i64 kk ∧ kk ≤ 2 ∧ TwoG w w7 m aa sa ac sc t (some ⟨g, o, none⟩) bc ∧ Blk w7 W1.heap.size 54 (blC y ya yc)) (fun k _ => 2 - (intOf k).toNat)
          case atStart => exact ⟨0, rfl, by omega, HG6.out, HBK6.out⟩
          case round =>
            obtain ⟨kk, rfl, hkk, hG, hBK⟩ := hrel
            clear HG6 HBK6
            have HG := Lib.hid hG
            have HBK := Lib.hid hBK
            clear hG hBK
            obtain ⟨d0, d1⟩ := boxG HG.out.tg
            obtain ⟨b0, b1, b2, b3, b4⟩ := box5 HBK.out
            have hT0 : ¬ y.tm.t0 < 0 := by omega
            have hT1 : ¬ y.tm.t1 < 0 := by omega
            have hT2 : ¬ (t.blocks.length : Int) ≤ y.tm.t0 := by omega
            have hT3 : ¬ (t.blocks.length : Int) ≤ y.tm.t1 := by omega
            match kk, hkk with
            | 0, _ =>
              go_wp2_with fail
              go_quiet (fail)
              go_wp2
              go_roundw
              case rel => exact ⟨1, by go_num, by omega, HG.out.below (below_drewN (Below.refl _ _) _), HBK.out.below (below_drewN (Below.refl _ _) _) HBK.out.lt⟩
              case measure => simp [intOf]
            | 1, _ =>
              go_wp2_with fail
              go_quiet (fail)
              go_wp2
              go_roundw
              case rel => exact ⟨2, by go_num, by omega, HG.out.below (below_drewN (Below.refl _ _) _), HBK.out.below (below_drewN (Below.refl _ _) _) HBK.out.lt⟩
              case measure => simp [intOf]
            | 2, _ =>
              go_wp2
              go_roundw
              case rel => exact ⟨j + 1, n + y.ins.length + 1, by go_num, by go_num, by omega, by omega, HD, HG.out⟩
              case measure => simp [intOf]; omega
        | cons l0 lt =>
        have hlt0 : lt = [] := List.length_eq_zero_iff.1 (by simp at hfn; simpa using hfn)
        subst hlt0
        have hln : 0 < [l0].length := by simp
        by_cases hk3 : y.tm.kind = 3
        case neg =>
          have qk : (y.tm.kind == 3) = false := by simp [hk3]
          refine wp_region_held_drew (S := fun W => Below wr.heap.size wr W ∧ (W.cell? ⟨w.heap.size, 0, none⟩ = some (.int .i64 m.regs) ∧ W.cell? ⟨w.heap.size, 1, none⟩ = some (.slice aa m.args.length ac) ∧ W.cell? ⟨w.heap.size, 2, none⟩ = some (.int .i64 m.ret) ∧ W.cell? ⟨w.heap.size, 3, none⟩ = some (.slice sa m.saved.length sc)) ∧ (W.cell? ⟨W1.heap.size, 0, none⟩ = some (.slice ya y.ins.length yc) ∧ W.cell? ⟨W1.heap.size, 1, none⟩ = some (.int .i64 y.tm.kind) ∧ W.cell? ⟨W1.heap.size, 2, none⟩ = some (.int .i64 y.tm.a) ∧ W.cell? ⟨W1.heap.size, 3, none⟩ = some (.int .i64 y.tm.t0) ∧ W.cell? ⟨W1.heap.size, 4, none⟩ = some (.int .i64 y.tm.t1)) ∧ (W.cell? ⟨w.heap.size + 1, 0, none⟩ = some (.int .i64 t.frame) ∧ W.cell? ⟨w.heap.size + 1, 1, none⟩ = some (.slice (some ⟨g, o, none⟩) t.blocks.length bc))) (by kernel_rfl) ?_ (fun hHeld => ?_)
          · exact HZ.out _ hb5d
          refine wpAnyH_take (i := 0) (v := ?vd59) (by simp only [List.getElem?_toArray, List.getElem?_cons_zero]; rfl) (by kernel_rfl) (by kernel_rfl) (by kernel_rfl) (by exact fun _ _ _ h => h) (Or.inl ⟨by rfl, ?yd59⟩) (by assumption) ?_
          case yd59 => (intro W9 hSw; (try dsimp only at hSw); go_simp; try (with_reducible rfl))
          try simp only [Act.put, List.setIfInBounds_toArray, List.set_cons_zero, List.set_cons_succ]
          refine wpAnyH_take (i := 1) (v := ?vd60) (by simp only [List.getElem?_toArray, List.getElem?_cons_succ, List.getElem?_cons_zero]; rfl) (by kernel_rfl) (by kernel_rfl) (by kernel_rfl) (by exact fun _ _ _ h => h) (Or.inl ⟨by rfl, ?yd60⟩) (by assumption) ?_
          case yd60 => (intro W9 hSw; (try dsimp only at hSw); go_simp; try (with_reducible rfl))
          try simp only [Act.put, List.setIfInBounds_toArray, List.set_cons_zero, List.set_cons_succ]
          refine wpAnyH_take (i := 2) (v := ?vd61) (by simp only [List.getElem?_toArray, List.getElem?_cons_succ, List.getElem?_cons_zero]; rfl) (by kernel_rfl) (by kernel_rfl) (by kernel_rfl) (by exact fun _ _ _ h => h) (Or.inl ⟨by rfl, ?yd61⟩) (by assumption) ?_
          case yd61 => (intro W9 hSw; (try dsimp only at hSw); go_simp; try (with_reducible rfl))
          try simp only [Act.put, List.setIfInBounds_toArray, List.set_cons_zero, List.set_cons_succ]
          refine wpAnyH_take (i := 3) (v := ?vd62) (by simp only [List.getElem?_toArray, List.getElem?_cons_succ, List.getElem?_cons_zero]; rfl) (by kernel_rfl) (by kernel_rfl) (by kernel_rfl) (by exact fun _ _ _ h => h) (Or.inl ⟨by rfl, ?yd62⟩) (by assumption) ?_
          case yd62 => (intro W9 hSw; (try dsimp only at hSw); go_simp; try (with_reducible rfl))
          try simp only [Act.put, List.setIfInBounds_toArray, List.set_cons_zero, List.set_cons_succ]
          refine wpAnyH_ready (rs := [4]) (by kernel_rfl) (by simp) ?_
          refine AllReadyH.cons (by simp only [List.getElem?_toArray, List.getElem?_cons_succ, List.getElem?_cons_zero]; rfl) (fun K hK => ?_) AllReadyH.nil
          go_simp
          go_at_call 29
          refine (CA.out _ _ _ hb5d HL5.out).mono ?_
          rintro e w6 ⟨rfl, hb6⟩
          (try go_wp2_with fail)
          refine hK.out _ _ ?_ (fun hHeld2 => ?_)
          · exact HZ.out _ hb6
          clear hK K hHeld
          have hHeld := hHeld2
          clear hHeld2
          try simp only [Act.put, List.setIfInBounds_toArray, List.set_cons_zero, List.set_cons_succ]
          refine wpAnyH_take (i := 5) (v := ?vd63) (by simp only [List.getElem?_toArray, List.getElem?_cons_succ, List.getElem?_cons_zero]; rfl) (by kernel_rfl) (by kernel_rfl) (by kernel_rfl) (by exact fun _ _ _ h => h) (Or.inl ⟨by rfl, ?yd63⟩) (by assumption) ?_
          case yd63 => (intro W9 hSw; (try dsimp only at hSw); go_simp; try (with_reducible rfl))
          try simp only [Act.put, List.setIfInBounds_toArray, List.set_cons_zero, List.set_cons_succ]
          refine wpAnyH_take (i := 6) (v := ?vd64) (by simp only [List.getElem?_toArray, List.getElem?_cons_succ, List.getElem?_cons_zero]; rfl) (by kernel_rfl) (by kernel_rfl) (by kernel_rfl) (by exact fun _ _ _ h => h) (Or.inl ⟨by rfl, ?yd64⟩) (by assumption) ?_
          case yd64 => (intro W9 hSw; (try dsimp only at hSw); go_simp; try (with_reducible rfl))
          try simp only [Act.put, List.setIfInBounds_toArray, List.set_cons_zero, List.set_cons_succ]
          refine wpAnyH_take (i := 7) (v := ?vd65) (by simp only [List.getElem?_toArray, List.getElem?_cons_succ, List.getElem?_cons_zero]; rfl) (by kernel_rfl) (by kernel_rfl) (by kernel_rfl) (by exact fun _ _ _ h => h) (Or.inl ⟨by rfl, ?yd65⟩) (by assumption) ?_
          case yd65 => (intro W9 hSw; (try dsimp only at hSw); go_simp; try (with_reducible rfl))
          try simp only [Act.put, List.setIfInBounds_toArray, List.set_cons_zero, List.set_cons_succ]
          refine wpAnyH_take (i := 8) (v := ?vd66) (by simp only [List.getElem?_toArray, List.getElem?_cons_succ, List.getElem?_cons_zero]; rfl) (by kernel_rfl) (by kernel_rfl) (by kernel_rfl) (by exact fun _ _ _ h => h) (Or.inl ⟨by rfl, ?yd66⟩) (by assumption) ?_
          case yd66 => (intro W9 hSw; (try dsimp only at hSw); go_simp; try (with_reducible rfl))
          try simp only [Act.put, List.setIfInBounds_toArray, List.set_cons_zero, List.set_cons_succ]
          refine wpAnyH_take (i := 9) (v := ?vd67) (by simp only [List.getElem?_toArray, List.getElem?_cons_succ, List.getElem?_cons_zero]; rfl) (by kernel_rfl) (by kernel_rfl) (by kernel_rfl) (by exact fun _ _ _ h => h) (Or.inl ⟨by rfl, ?yd67⟩) (by assumption) ?_
          case yd67 => (intro W9 hSw; (try dsimp only at hSw); go_simp; try (with_reducible rfl))
          try simp only [Act.put, List.setIfInBounds_toArray, List.set_cons_zero, List.set_cons_succ]
          refine wpAnyH_take (i := 10) (v := ?vd68) (by simp only [List.getElem?_toArray, List.getElem?_cons_succ, List.getElem?_cons_zero]; rfl) (by kernel_rfl) (by kernel_rfl) (by kernel_rfl) (by exact fun _ _ _ h => h) (Or.inl ⟨by rfl, ?yd68⟩) (by assumption) ?_
          case yd68 => (intro W9 hSw; (try dsimp only at hSw); go_simp; try (with_reducible rfl))
          try simp only [Act.put, List.setIfInBounds_toArray, List.set_cons_zero, List.set_cons_succ]
          refine wpAnyH_take (i := 11) (v := ?vd69) (by simp only [List.getElem?_toArray, List.getElem?_cons_succ, List.getElem?_cons_zero]; rfl) (by kernel_rfl) (by kernel_rfl) (by kernel_rfl) (by exact fun _ _ _ h => h) (Or.inl ⟨by rfl, ?yd69⟩) (by assumption) ?_
          case yd69 => (intro W9 hSw; (try dsimp only at hSw); go_simp; try (with_reducible rfl))
          try simp only [Act.put, List.setIfInBounds_toArray, List.set_cons_zero, List.set_cons_succ]
          refine wpAnyH_take (i := 12) (v := ?vd70) (by simp only [List.getElem?_toArray, List.getElem?_cons_succ, List.getElem?_cons_zero]; rfl) (by kernel_rfl) (by kernel_rfl) (by kernel_rfl) (by exact fun _ _ _ h => h) (Or.inl ⟨by rfl, ?yd70⟩) (by assumption) ?_
          case yd70 => (intro W9 hSw; (try dsimp only at hSw); go_simp; try (with_reducible rfl))
          try simp only [Act.put, List.setIfInBounds_toArray, List.set_cons_zero, List.set_cons_succ]
          refine wpAnyH_take (i := 13) (v := ?vd71) (by simp only [List.getElem?_toArray, List.getElem?_cons_succ, List.getElem?_cons_zero]; rfl) (by kernel_rfl) (by kernel_rfl) (by kernel_rfl) (by exact fun _ _ _ h => h) (Or.inl ⟨by rfl, ?yd71⟩) (by assumption) ?_
          case yd71 => (intro W9 hSw; (try dsimp only at hSw); go_simp; try (with_reducible rfl))
          try simp only [Act.put, List.setIfInBounds_toArray, List.set_cons_zero, List.set_cons_succ]
          refine wpAnyH_take (i := 14) (v := ?vd72) (by simp only [List.getElem?_toArray, List.getElem?_cons_succ, List.getElem?_cons_zero]; rfl) (by kernel_rfl) (by kernel_rfl) (by kernel_rfl) (by exact fun _ _ _ h => h) (Or.inl ⟨by rfl, ?yd72⟩) (by assumption) ?_
          case yd72 => (intro W9 hSw; (try dsimp only at hSw); go_simp; try (with_reducible rfl))
          try simp only [Act.put, List.setIfInBounds_toArray, List.set_cons_zero, List.set_cons_succ]
          refine wpAnyH_take (i := 15) (v := ?vd73) (by simp only [List.getElem?_toArray, List.getElem?_cons_succ, List.getElem?_cons_zero]; rfl) (by kernel_rfl) (by kernel_rfl) (by kernel_rfl) (by exact fun _ _ _ h => h) (Or.inl ⟨by rfl, ?yd73⟩) (by assumption) ?_
          case yd73 => (intro W9 hSw; (try dsimp only at hSw); go_simp; try (with_reducible rfl))
          try simp only [Act.put, List.setIfInBounds_toArray, List.set_cons_zero, List.set_cons_succ]
          refine wpAnyH_take (i := 16) (v := ?vd74) (by simp only [List.getElem?_toArray, List.getElem?_cons_succ, List.getElem?_cons_zero]; rfl) (by kernel_rfl) (by kernel_rfl) (by kernel_rfl) (by exact fun _ _ _ h => h) (Or.inl ⟨by rfl, ?yd74⟩) (by assumption) ?_
          case yd74 => (intro W9 hSw; (try dsimp only at hSw); go_simp; try (with_reducible rfl))
          try simp only [Act.put, List.setIfInBounds_toArray, List.set_cons_zero, List.set_cons_succ]
          refine wpAnyH_take (i := 17) (v := undef) (by simp only [List.getElem?_toArray, List.getElem?_cons_succ, List.getElem?_cons_zero]; rfl) (by kernel_rfl) (by kernel_rfl) (by kernel_rfl) (by exact fun _ _ _ h => h) (Or.inr ⟨by rfl, rfl⟩) (by assumption) ?_
          try simp only [Act.put, List.setIfInBounds_toArray, List.set_cons_zero, List.set_cons_succ]
          refine wpAnyH_take (i := 18) (v := undef) (by simp only [List.getElem?_toArray, List.getElem?_cons_succ, List.getElem?_cons_zero]; rfl) (by kernel_rfl) (by kernel_rfl) (by kernel_rfl) (by exact fun _ _ _ h => h) (Or.inr ⟨by rfl, rfl⟩) (by assumption) ?_
          try simp only [Act.put, List.setIfInBounds_toArray, List.set_cons_zero, List.set_cons_succ]
          refine wpAnyH_take (i := 19) (v := undef) (by simp only [List.getElem?_toArray, List.getElem?_cons_succ, List.getElem?_cons_zero]; rfl) (by kernel_rfl) (by kernel_rfl) (by kernel_rfl) (by exact fun _ _ _ h => h) (Or.inr ⟨by rfl, rfl⟩) (by assumption) ?_
          try simp only [Act.put, List.setIfInBounds_toArray, List.set_cons_zero, List.set_cons_succ]
          refine wpAnyH_take (i := 20) (v := ?vd75) (by simp only [List.getElem?_toArray, List.getElem?_cons_succ, List.getElem?_cons_zero]; rfl) (by kernel_rfl) (by kernel_rfl) (by kernel_rfl) (by exact fun _ _ _ h => h) (Or.inl ⟨by rfl, ?yd75⟩) (by assumption) ?_
          case yd75 => (intro W9 hSw; (try dsimp only at hSw); go_simp; try (with_reducible rfl))
          try simp only [Act.put, List.setIfInBounds_toArray, List.set_cons_zero, List.set_cons_succ]
          refine wpAnyH_take (i := 21) (v := ?vd76) (by simp only [List.getElem?_toArray, List.getElem?_cons_succ, List.getElem?_cons_zero]; rfl) (by kernel_rfl) (by kernel_rfl) (by kernel_rfl) (by exact fun _ _ _ h => h) (Or.inl ⟨by rfl, ?yd76⟩) (by assumption) ?_
          case yd76 => (intro W9 hSw; (try dsimp only at hSw); go_simp; try (with_reducible rfl))
          try simp only [Act.put, List.setIfInBounds_toArray, List.set_cons_zero, List.set_cons_succ]
          refine wpAnyH_take (i := 22) (v := undef) (by simp only [List.getElem?_toArray, List.getElem?_cons_succ, List.getElem?_cons_zero]; rfl) (by kernel_rfl) (by kernel_rfl) (by kernel_rfl) (by exact fun _ _ _ h => h) (Or.inr ⟨by rfl, rfl⟩) (by assumption) ?_
          try simp only [Act.put, List.setIfInBounds_toArray, List.set_cons_zero, List.set_cons_succ]
          refine wpAnyH_take (i := 23) (v := undef) (by simp only [List.getElem?_toArray, List.getElem?_cons_succ, List.getElem?_cons_zero]; rfl) (by kernel_rfl) (by kernel_rfl) (by kernel_rfl) (by exact fun _ _ _ h => h) (Or.inr ⟨by rfl, rfl⟩) (by assumption) ?_
          try simp only [Act.put, List.setIfInBounds_toArray, List.set_cons_zero, List.set_cons_succ]
          refine wpAnyH_take (i := 24) (v := undef) (by simp only [List.getElem?_toArray, List.getElem?_cons_succ, List.getElem?_cons_zero]; rfl) (by kernel_rfl) (by kernel_rfl) (by kernel_rfl) (by exact fun _ _ _ h => h) (Or.inr ⟨by rfl, rfl⟩) (by assumption) ?_
          try simp only [Act.put, List.setIfInBounds_toArray, List.set_cons_zero, List.set_cons_succ]
          refine wpAnyH_take (i := 25) (v := undef) (by simp only [List.getElem?_toArray, List.getElem?_cons_succ, List.getElem?_cons_zero]; rfl) (by kernel_rfl) (by kernel_rfl) (by kernel_rfl) (by exact fun _ _ _ h => h) (Or.inr ⟨by rfl, rfl⟩) (by assumption) ?_
          try simp only [Act.put, List.setIfInBounds_toArray, List.set_cons_zero, List.set_cons_succ]
          refine wpAnyH_take (i := 26) (v := undef) (by simp only [List.getElem?_toArray, List.getElem?_cons_succ, List.getElem?_cons_zero]; rfl) (by kernel_rfl) (by kernel_rfl) (by kernel_rfl) (by exact fun _ _ _ h => h) (Or.inr ⟨by rfl, rfl⟩) (by assumption) ?_
          try simp only [Act.put, List.setIfInBounds_toArray, List.set_cons_zero, List.set_cons_succ]
          refine wpAnyH_take (i := 27) (v := undef) (by simp only [List.getElem?_toArray, List.getElem?_cons_succ, List.getElem?_cons_zero]; rfl) (by kernel_rfl) (by kernel_rfl) (by kernel_rfl) (by exact fun _ _ _ h => h) (Or.inr ⟨by rfl, rfl⟩) (by assumption) ?_
          try simp only [Act.put, List.setIfInBounds_toArray, List.set_cons_zero, List.set_cons_succ]
          refine wpAnyH_take (i := 28) (v := undef) (by simp only [List.getElem?_toArray, List.getElem?_cons_succ, List.getElem?_cons_zero]; rfl) (by kernel_rfl) (by kernel_rfl) (by kernel_rfl) (by exact fun _ _ _ h => h) (Or.inr ⟨by rfl, rfl⟩) (by assumption) ?_
          try simp only [Act.put, List.setIfInBounds_toArray, List.set_cons_zero, List.set_cons_succ]
          refine wpAnyH_take (i := 29) (v := ?vd77) (by simp only [List.getElem?_toArray, List.getElem?_cons_succ, List.getElem?_cons_zero]; rfl) (by kernel_rfl) (by kernel_rfl) (by kernel_rfl) (by exact fun _ _ _ h => h) (Or.inl ⟨by rfl, ?yd77⟩) (by assumption) ?_
          case yd77 => (intro W9 hSw; (try dsimp only at hSw); go_simp; try (with_reducible rfl))
          try simp only [Act.put, List.setIfInBounds_toArray, List.set_cons_zero, List.set_cons_succ]
          refine wpAnyH_take (i := 30) (v := ?vd78) (by simp only [List.getElem?_toArray, List.getElem?_cons_succ, List.getElem?_cons_zero]; rfl) (by kernel_rfl) (by kernel_rfl) (by kernel_rfl) (by exact fun _ _ _ h => h) (Or.inl ⟨by rfl, ?yd78⟩) (by assumption) ?_
          case yd78 => (intro W9 hSw; (try dsimp only at hSw); go_simp; try (with_reducible rfl))
          try simp only [Act.put, List.setIfInBounds_toArray, List.set_cons_zero, List.set_cons_succ]
          refine wpAnyH_done (by kernel_rfl) ?_ _
          clear hHeld
          have HG6 := Lib.hid (HG.out.below hb6)
          have HBK6 := Lib.hid (HBK.out.below hb6 HBK.out.lt)
          clear HZ CA hb5 hb5d hb6 HL5 hL9 HG HBK
          go_wp2
          go_loopw [12] (fun k w7 => ∃ kk : Nat, k = .int .i64 kk ∧ kk ≤ 2 ∧ TwoG w w7 m aa sa ac sc t (some ⟨g, o, none⟩) bc ∧ Blk w7 W1.heap.size 54 (blC y ya yc)) (fun k _ => 2 - (intOf k).toNat)
          case atStart => exact ⟨0, rfl, by omega, HG6.out, HBK6.out⟩
          case round =>
            obtain ⟨kk, rfl, hkk, hG, hBK⟩ := hrel
            clear HG6 HBK6
            have HG := Lib.hid hG
            have HBK := Lib.hid hBK
            clear hG hBK
            obtain ⟨d0, d1⟩ := boxG HG.out.tg
            obtain ⟨b0, b1, b2, b3, b4⟩ := box5 HBK.out
            have hT0 : ¬ y.tm.t0 < 0 := by omega
            have hT1 : ¬ y.tm.t1 < 0 := by omega
            have hT2 : ¬ (t.blocks.length : Int) ≤ y.tm.t0 := by omega
            have hT3 : ¬ (t.blocks.length : Int) ≤ y.tm.t1 := by omega
            match kk, hkk with
            | 0, _ =>
              go_wp2_with fail
              go_quiet (fail)
              go_wp2
              go_roundw
              case rel => exact ⟨1, by go_num, by omega, HG.out.below (below_drewN (Below.refl _ _) _), HBK.out.below (below_drewN (Below.refl _ _) _) HBK.out.lt⟩
              case measure => simp [intOf]
            | 1, _ =>
              go_wp2_with fail
              go_quiet (fail)
              go_wp2
              go_roundw
              case rel => exact ⟨2, by go_num, by omega, HG.out.below (below_drewN (Below.refl _ _) _), HBK.out.below (below_drewN (Below.refl _ _) _) HBK.out.lt⟩
              case measure => simp [intOf]
            | 2, _ =>
              go_wp2
              go_roundw
              case rel => exact ⟨j + 1, n + y.ins.length + 1, by go_num, by go_num, by omega, by omega, HD, HG.out⟩
              case measure => simp [intOf]; omega
        have qk : (y.tm.kind == 3) = true := by simp [hk3]
        have hlr : l0 = regL m.ret := by have := HNR.out hk3 hln; simpa using this
        subst hlr
        obtain ⟨g7, o7, rfl, hg7, h70, h71⟩ := hL9.out 0 (regL m.ret) rfl
        have hrr : (m.ret != m.ret) = false := by simp
        have HZ7 : Hid (∀ W, Below wr.heap.size wr W → Below w5.heap.size w5 W → W.cell? ⟨g7, o7 + 0 * 2 + 1, none⟩ = some (.int .i64 m.ret)) := fun W _ h => (h.cell hg7).trans h71
        have CA7 : Hid (∀ W, Below wr.heap.size wr W → LocsW W (some ⟨g7, o7, none⟩) [regL m.ret] → Calls Tryd.prog 29 #[.agg #[.int .i64 m.regs, .slice aa m.args.length ac, .int .i64 m.ret, .slice sa m.saved.length sc], .int .i64 t.frame, .slice (some ⟨g7, o7, none⟩) 1 cl] W fun e w' => e = .returned (.bool true) ∧ Below wr.heap.size wr w' ∧ Hid (Below W.heap.size W w')) := fun W h h3 => by
          have h9 := allP_any m aa sa ac sc t.frame [regL m.ret] (some ⟨g7, o7, none⟩) cl W (by simp) h3 HNP.out
          unfold machV at h9
          rw [HM.out] at h9
          exact h9.mono fun e w' ⟨h1, h2⟩ => ⟨h1, h.trans (h2.mono h.size), h2⟩
        have hc5 : w5.drew.cell? ⟨g7, o7 + 1, none⟩ = some (.int .i64 m.ret) := by have := h71; rw [Nat.zero_mul, Nat.add_zero] at this; exact this
        have hg5 : g7 < w5.drew.heap.size := hg7
        refine wp_region_held_drew (S := fun W => Below wr.heap.size wr W ∧ (W.cell? ⟨w.heap.size, 0, none⟩ = some (.int .i64 m.regs) ∧ W.cell? ⟨w.heap.size, 1, none⟩ = some (.slice aa m.args.length ac) ∧ W.cell? ⟨w.heap.size, 2, none⟩ = some (.int .i64 m.ret) ∧ W.cell? ⟨w.heap.size, 3, none⟩ = some (.slice sa m.saved.length sc)) ∧ (W.cell? ⟨W1.heap.size, 0, none⟩ = some (.slice ya y.ins.length yc) ∧ W.cell? ⟨W1.heap.size, 1, none⟩ = some (.int .i64 y.tm.kind) ∧ W.cell? ⟨W1.heap.size, 2, none⟩ = some (.int .i64 y.tm.a) ∧ W.cell? ⟨W1.heap.size, 3, none⟩ = some (.int .i64 y.tm.t0) ∧ W.cell? ⟨W1.heap.size, 4, none⟩ = some (.int .i64 y.tm.t1)) ∧ (W.cell? ⟨w.heap.size + 1, 0, none⟩ = some (.int .i64 t.frame) ∧ W.cell? ⟨w.heap.size + 1, 1, none⟩ = some (.slice (some ⟨g, o, none⟩) t.blocks.length bc)) ∧ W.cell? ⟨g7, o7 + 1, none⟩ = some (.int .i64 m.ret)) (by kernel_rfl) ?_ (fun hHeld => ?_)
        · exact ⟨(HZ.out _ hb5d).1, (HZ.out _ hb5d).2.1, (HZ.out _ hb5d).2.2.1, (HZ.out _ hb5d).2.2.2, hc5⟩
        refine wpAnyH_take (i := 0) (v := ?vd79) (by simp only [List.getElem?_toArray, List.getElem?_cons_zero]; rfl) (by kernel_rfl) (by kernel_rfl) (by kernel_rfl) (by exact fun _ _ _ h => h) (Or.inl ⟨by rfl, ?yd79⟩) (by assumption) ?_
        case yd79 => (intro W9 hSw; (try dsimp only at hSw); go_simp; try (with_reducible rfl))
        try simp only [Act.put, List.setIfInBounds_toArray, List.set_cons_zero, List.set_cons_succ]
        refine wpAnyH_take (i := 1) (v := ?vd80) (by simp only [List.getElem?_toArray, List.getElem?_cons_succ, List.getElem?_cons_zero]; rfl) (by kernel_rfl) (by kernel_rfl) (by kernel_rfl) (by exact fun _ _ _ h => h) (Or.inl ⟨by rfl, ?yd80⟩) (by assumption) ?_
        case yd80 => (intro W9 hSw; (try dsimp only at hSw); go_simp; try (with_reducible rfl))
        try simp only [Act.put, List.setIfInBounds_toArray, List.set_cons_zero, List.set_cons_succ]
        refine wpAnyH_take (i := 2) (v := ?vd81) (by simp only [List.getElem?_toArray, List.getElem?_cons_succ, List.getElem?_cons_zero]; rfl) (by kernel_rfl) (by kernel_rfl) (by kernel_rfl) (by exact fun _ _ _ h => h) (Or.inl ⟨by rfl, ?yd81⟩) (by assumption) ?_
        case yd81 => (intro W9 hSw; (try dsimp only at hSw); go_simp; try (with_reducible rfl))
        try simp only [Act.put, List.setIfInBounds_toArray, List.set_cons_zero, List.set_cons_succ]
        refine wpAnyH_take (i := 3) (v := ?vd82) (by simp only [List.getElem?_toArray, List.getElem?_cons_succ, List.getElem?_cons_zero]; rfl) (by kernel_rfl) (by kernel_rfl) (by kernel_rfl) (by exact fun _ _ _ h => h) (Or.inl ⟨by rfl, ?yd82⟩) (by assumption) ?_
        case yd82 => (intro W9 hSw; (try dsimp only at hSw); go_simp; try (with_reducible rfl))
        try simp only [Act.put, List.setIfInBounds_toArray, List.set_cons_zero, List.set_cons_succ]
        refine wpAnyH_ready (rs := [4]) (by kernel_rfl) (by simp) ?_
        refine AllReadyH.cons (by simp only [List.getElem?_toArray, List.getElem?_cons_succ, List.getElem?_cons_zero]; rfl) (fun K hK => ?_) AllReadyH.nil
        go_simp
        go_at_call 29
        refine (CA7.out _ hb5d HL5.out).mono ?_
        rintro e w6 ⟨rfl, hb6, hW6⟩
        (try go_wp2_with fail)
        refine hK.out _ _ ?_ (fun hHeld2 => ?_)
        · exact ⟨(HZ.out _ hb6).1, (HZ.out _ hb6).2.1, (HZ.out _ hb6).2.2.1, (HZ.out _ hb6).2.2.2, (hW6.out.cell hg5).trans hc5⟩
        clear hK K hHeld
        have hHeld := hHeld2
        clear hHeld2
        try simp only [Act.put, List.setIfInBounds_toArray, List.set_cons_zero, List.set_cons_succ]
        refine wpAnyH_take (i := 5) (v := ?vd83) (by simp only [List.getElem?_toArray, List.getElem?_cons_succ, List.getElem?_cons_zero]; rfl) (by kernel_rfl) (by kernel_rfl) (by kernel_rfl) (by exact fun _ _ _ h => h) (Or.inl ⟨by rfl, ?yd83⟩) (by assumption) ?_
        case yd83 => (intro W9 hSw; (try dsimp only at hSw); go_simp; try (with_reducible rfl))
        try simp only [Act.put, List.setIfInBounds_toArray, List.set_cons_zero, List.set_cons_succ]
        refine wpAnyH_take (i := 6) (v := ?vd84) (by simp only [List.getElem?_toArray, List.getElem?_cons_succ, List.getElem?_cons_zero]; rfl) (by kernel_rfl) (by kernel_rfl) (by kernel_rfl) (by exact fun _ _ _ h => h) (Or.inl ⟨by rfl, ?yd84⟩) (by assumption) ?_
        case yd84 => (intro W9 hSw; (try dsimp only at hSw); go_simp; try (with_reducible rfl))
        try simp only [Act.put, List.setIfInBounds_toArray, List.set_cons_zero, List.set_cons_succ]
        refine wpAnyH_take (i := 7) (v := ?vd85) (by simp only [List.getElem?_toArray, List.getElem?_cons_succ, List.getElem?_cons_zero]; rfl) (by kernel_rfl) (by kernel_rfl) (by kernel_rfl) (by exact fun _ _ _ h => h) (Or.inl ⟨by rfl, ?yd85⟩) (by assumption) ?_
        case yd85 => (intro W9 hSw; (try dsimp only at hSw); go_simp; try (with_reducible rfl))
        try simp only [Act.put, List.setIfInBounds_toArray, List.set_cons_zero, List.set_cons_succ]
        refine wpAnyH_take (i := 8) (v := ?vd86) (by simp only [List.getElem?_toArray, List.getElem?_cons_succ, List.getElem?_cons_zero]; rfl) (by kernel_rfl) (by kernel_rfl) (by kernel_rfl) (by exact fun _ _ _ h => h) (Or.inl ⟨by rfl, ?yd86⟩) (by assumption) ?_
        case yd86 => (intro W9 hSw; (try dsimp only at hSw); go_simp; try (with_reducible rfl))
        try simp only [Act.put, List.setIfInBounds_toArray, List.set_cons_zero, List.set_cons_succ]
        refine wpAnyH_take (i := 9) (v := ?vd87) (by simp only [List.getElem?_toArray, List.getElem?_cons_succ, List.getElem?_cons_zero]; rfl) (by kernel_rfl) (by kernel_rfl) (by kernel_rfl) (by exact fun _ _ _ h => h) (Or.inl ⟨by rfl, ?yd87⟩) (by assumption) ?_
        case yd87 => (intro W9 hSw; (try dsimp only at hSw); go_simp; try (with_reducible rfl))
        try simp only [Act.put, List.setIfInBounds_toArray, List.set_cons_zero, List.set_cons_succ]
        refine wpAnyH_take (i := 10) (v := ?vd88) (by simp only [List.getElem?_toArray, List.getElem?_cons_succ, List.getElem?_cons_zero]; rfl) (by kernel_rfl) (by kernel_rfl) (by kernel_rfl) (by exact fun _ _ _ h => h) (Or.inl ⟨by rfl, ?yd88⟩) (by assumption) ?_
        case yd88 => (intro W9 hSw; (try dsimp only at hSw); go_simp; try (with_reducible rfl))
        try simp only [Act.put, List.setIfInBounds_toArray, List.set_cons_zero, List.set_cons_succ]
        refine wpAnyH_take (i := 11) (v := ?vd89) (by simp only [List.getElem?_toArray, List.getElem?_cons_succ, List.getElem?_cons_zero]; rfl) (by kernel_rfl) (by kernel_rfl) (by kernel_rfl) (by exact fun _ _ _ h => h) (Or.inl ⟨by rfl, ?yd89⟩) (by assumption) ?_
        case yd89 => (intro W9 hSw; (try dsimp only at hSw); go_simp; try (with_reducible rfl))
        try simp only [Act.put, List.setIfInBounds_toArray, List.set_cons_zero, List.set_cons_succ]
        refine wpAnyH_take (i := 12) (v := ?vd90) (by simp only [List.getElem?_toArray, List.getElem?_cons_succ, List.getElem?_cons_zero]; rfl) (by kernel_rfl) (by kernel_rfl) (by kernel_rfl) (by exact fun _ _ _ h => h) (Or.inl ⟨by rfl, ?yd90⟩) (by assumption) ?_
        case yd90 => (intro W9 hSw; (try dsimp only at hSw); go_simp; try (with_reducible rfl))
        try simp only [Act.put, List.setIfInBounds_toArray, List.set_cons_zero, List.set_cons_succ]
        refine wpAnyH_take (i := 13) (v := ?vd91) (by simp only [List.getElem?_toArray, List.getElem?_cons_succ, List.getElem?_cons_zero]; rfl) (by kernel_rfl) (by kernel_rfl) (by kernel_rfl) (by exact fun _ _ _ h => h) (Or.inl ⟨by rfl, ?yd91⟩) (by assumption) ?_
        case yd91 => (intro W9 hSw; (try dsimp only at hSw); go_simp; try (with_reducible rfl))
        try simp only [Act.put, List.setIfInBounds_toArray, List.set_cons_zero, List.set_cons_succ]
        refine wpAnyH_take (i := 14) (v := ?vd92) (by simp only [List.getElem?_toArray, List.getElem?_cons_succ, List.getElem?_cons_zero]; rfl) (by kernel_rfl) (by kernel_rfl) (by kernel_rfl) (by exact fun _ _ _ h => h) (Or.inl ⟨by rfl, ?yd92⟩) (by assumption) ?_
        case yd92 => (intro W9 hSw; (try dsimp only at hSw); go_simp; try (with_reducible rfl))
        try simp only [Act.put, List.setIfInBounds_toArray, List.set_cons_zero, List.set_cons_succ]
        refine wpAnyH_take (i := 15) (v := ?vd93) (by simp only [List.getElem?_toArray, List.getElem?_cons_succ, List.getElem?_cons_zero]; rfl) (by kernel_rfl) (by kernel_rfl) (by kernel_rfl) (by exact fun _ _ _ h => h) (Or.inl ⟨by rfl, ?yd93⟩) (by assumption) ?_
        case yd93 => (intro W9 hSw; (try dsimp only at hSw); go_simp; try (with_reducible rfl))
        try simp only [Act.put, List.setIfInBounds_toArray, List.set_cons_zero, List.set_cons_succ]
        refine wpAnyH_take (i := 16) (v := ?vd94) (by simp only [List.getElem?_toArray, List.getElem?_cons_succ, List.getElem?_cons_zero]; rfl) (by kernel_rfl) (by kernel_rfl) (by kernel_rfl) (by exact fun _ _ _ h => h) (Or.inl ⟨by rfl, ?yd94⟩) (by assumption) ?_
        case yd94 => (intro W9 hSw; (try dsimp only at hSw); go_simp; try (with_reducible rfl))
        try simp only [Act.put, List.setIfInBounds_toArray, List.set_cons_zero, List.set_cons_succ]
        refine wpAnyH_take (i := 17) (v := ?vd95) (by simp only [List.getElem?_toArray, List.getElem?_cons_succ, List.getElem?_cons_zero]; rfl) (by kernel_rfl) (by kernel_rfl) (by kernel_rfl) (by exact fun _ _ _ h => h) (Or.inl ⟨by rfl, ?yd95⟩) (by assumption) ?_
        case yd95 => (intro W9 hSw; (try dsimp only at hSw); go_simp; try (with_reducible rfl))
        try simp only [Act.put, List.setIfInBounds_toArray, List.set_cons_zero, List.set_cons_succ]
        refine wpAnyH_take (i := 18) (v := ?vd96) (by simp only [List.getElem?_toArray, List.getElem?_cons_succ, List.getElem?_cons_zero]; rfl) (by kernel_rfl) (by kernel_rfl) (by kernel_rfl) (by exact fun _ _ _ h => h) (Or.inl ⟨by rfl, ?yd96⟩) (by assumption) ?_
        case yd96 => (intro W9 hSw; (try dsimp only at hSw); go_simp; try (with_reducible rfl))
        try simp only [Act.put, List.setIfInBounds_toArray, List.set_cons_zero, List.set_cons_succ]
        refine wpAnyH_take (i := 19) (v := ?vd97) (by simp only [List.getElem?_toArray, List.getElem?_cons_succ, List.getElem?_cons_zero]; rfl) (by kernel_rfl) (by kernel_rfl) (by kernel_rfl) (by exact fun _ _ _ h => h) (Or.inl ⟨by rfl, ?yd97⟩) (by assumption) ?_
        case yd97 => (intro W9 hSw; (try dsimp only at hSw); go_simp; try (with_reducible rfl))
        try simp only [Act.put, List.setIfInBounds_toArray, List.set_cons_zero, List.set_cons_succ]
        refine wpAnyH_take (i := 20) (v := ?vd98) (by simp only [List.getElem?_toArray, List.getElem?_cons_succ, List.getElem?_cons_zero]; rfl) (by kernel_rfl) (by kernel_rfl) (by kernel_rfl) (by exact fun _ _ _ h => h) (Or.inl ⟨by rfl, ?yd98⟩) (by assumption) ?_
        case yd98 => (intro W9 hSw; (try dsimp only at hSw); go_simp; try (with_reducible rfl))
        try simp only [Act.put, List.setIfInBounds_toArray, List.set_cons_zero, List.set_cons_succ]
        refine wpAnyH_take (i := 21) (v := ?vd99) (by simp only [List.getElem?_toArray, List.getElem?_cons_succ, List.getElem?_cons_zero]; rfl) (by kernel_rfl) (by kernel_rfl) (by kernel_rfl) (by exact fun _ _ _ h => h) (Or.inl ⟨by rfl, ?yd99⟩) (by assumption) ?_
        case yd99 => (intro W9 hSw; (try dsimp only at hSw); go_simp; try (with_reducible rfl))
        try simp only [Act.put, List.setIfInBounds_toArray, List.set_cons_zero, List.set_cons_succ]
        refine wpAnyH_take (i := 22) (v := ?vd100) (by simp only [List.getElem?_toArray, List.getElem?_cons_succ, List.getElem?_cons_zero]; rfl) (by kernel_rfl) (by kernel_rfl) (by kernel_rfl) (by exact fun _ _ _ h => h) (Or.inl ⟨by rfl, ?yd100⟩) (by assumption) ?_
        case yd100 => (intro W9 hSw; (try dsimp only at hSw); go_simp; try (with_reducible rfl))
        try simp only [Act.put, List.setIfInBounds_toArray, List.set_cons_zero, List.set_cons_succ]
        refine wpAnyH_take (i := 23) (v := ?vd101) (by simp only [List.getElem?_toArray, List.getElem?_cons_succ, List.getElem?_cons_zero]; rfl) (by kernel_rfl) (by kernel_rfl) (by kernel_rfl) (by exact fun _ _ _ h => h) (Or.inl ⟨by rfl, ?yd101⟩) (by assumption) ?_
        case yd101 => (intro W9 hSw; (try dsimp only at hSw); go_simp; try (with_reducible rfl))
        try simp only [Act.put, List.setIfInBounds_toArray, List.set_cons_zero, List.set_cons_succ]
        refine wpAnyH_take (i := 24) (v := ?vd102) (by simp only [List.getElem?_toArray, List.getElem?_cons_succ, List.getElem?_cons_zero]; rfl) (by kernel_rfl) (by kernel_rfl) (by kernel_rfl) (by exact fun _ _ _ h => h) (Or.inl ⟨by rfl, ?yd102⟩) (by assumption) ?_
        case yd102 => (intro W9 hSw; (try dsimp only at hSw); go_simp; try (with_reducible rfl))
        try simp only [Act.put, List.setIfInBounds_toArray, List.set_cons_zero, List.set_cons_succ]
        refine wpAnyH_take (i := 25) (v := ?vd103) (by simp only [List.getElem?_toArray, List.getElem?_cons_succ, List.getElem?_cons_zero]; rfl) (by kernel_rfl) (by kernel_rfl) (by kernel_rfl) (by exact fun _ _ _ h => h) (Or.inl ⟨by rfl, ?yd103⟩) (by assumption) ?_
        case yd103 => (intro W9 hSw; (try dsimp only at hSw); go_simp; try (with_reducible rfl))
        try simp only [Act.put, List.setIfInBounds_toArray, List.set_cons_zero, List.set_cons_succ]
        refine wpAnyH_take (i := 26) (v := ?vd104) (by simp only [List.getElem?_toArray, List.getElem?_cons_succ, List.getElem?_cons_zero]; rfl) (by kernel_rfl) (by kernel_rfl) (by kernel_rfl) (by exact fun _ _ _ h => h) (Or.inl ⟨by rfl, ?yd104⟩) (by assumption) ?_
        case yd104 => (intro W9 hSw; (try dsimp only at hSw); go_simp; try (with_reducible rfl))
        try simp only [Act.put, List.setIfInBounds_toArray, List.set_cons_zero, List.set_cons_succ]
        refine wpAnyH_take (i := 27) (v := ?vd105) (by simp only [List.getElem?_toArray, List.getElem?_cons_succ, List.getElem?_cons_zero]; rfl) (by kernel_rfl) (by kernel_rfl) (by kernel_rfl) (by exact fun _ _ _ h => h) (Or.inl ⟨by rfl, ?yd105⟩) (by assumption) ?_
        case yd105 => (intro W9 hSw; (try dsimp only at hSw); go_simp; try (with_reducible rfl))
        try simp only [Act.put, List.setIfInBounds_toArray, List.set_cons_zero, List.set_cons_succ]
        refine wpAnyH_take (i := 28) (v := ?vd106) (by simp only [List.getElem?_toArray, List.getElem?_cons_succ, List.getElem?_cons_zero]; rfl) (by kernel_rfl) (by kernel_rfl) (by kernel_rfl) (by exact fun _ _ _ h => h) (Or.inl ⟨by rfl, ?yd106⟩) (by assumption) ?_
        case yd106 => (intro W9 hSw; (try dsimp only at hSw); go_simp; try (with_reducible rfl))
        try simp only [Act.put, List.setIfInBounds_toArray, List.set_cons_zero, List.set_cons_succ]
        refine wpAnyH_take (i := 29) (v := ?vd107) (by simp only [List.getElem?_toArray, List.getElem?_cons_succ, List.getElem?_cons_zero]; rfl) (by kernel_rfl) (by kernel_rfl) (by kernel_rfl) (by exact fun _ _ _ h => h) (Or.inl ⟨by rfl, ?yd107⟩) (by assumption) ?_
        case yd107 => (intro W9 hSw; (try dsimp only at hSw); go_simp; try (with_reducible rfl))
        try simp only [Act.put, List.setIfInBounds_toArray, List.set_cons_zero, List.set_cons_succ]
        refine wpAnyH_take (i := 30) (v := ?vd108) (by simp only [List.getElem?_toArray, List.getElem?_cons_succ, List.getElem?_cons_zero]; rfl) (by kernel_rfl) (by kernel_rfl) (by kernel_rfl) (by exact fun _ _ _ h => h) (Or.inl ⟨by rfl, ?yd108⟩) (by assumption) ?_
        case yd108 => (intro W9 hSw; (try dsimp only at hSw); go_simp; try (with_reducible rfl))
        try simp only [Act.put, List.setIfInBounds_toArray, List.set_cons_zero, List.set_cons_succ]
        refine wpAnyH_done (by kernel_rfl) ?_ _
        clear hHeld
        have HG6 := Lib.hid (HG.out.below hb6)
        have HBK6 := Lib.hid (HBK.out.below hb6 HBK.out.lt)
        clear HZ CA hb5 hb5d hb6 HL5 hL9 HG HBK
        go_wp2
        go_loopw [12] (fun k w7 => ∃ kk : Nat, k = .int .i64 kk ∧ kk ≤ 2 ∧ TwoG w w7 m aa sa ac sc t (some ⟨g, o, none⟩) bc ∧ Blk w7 W1.heap.size 54 (blC y ya yc)) (fun k _ => 2 - (intOf k).toNat)
        case atStart => exact ⟨0, rfl, by omega, HG6.out, HBK6.out⟩
        case round =>
          obtain ⟨kk, rfl, hkk, hG, hBK⟩ := hrel
          clear HG6 HBK6
          have HG := Lib.hid hG
          have HBK := Lib.hid hBK
          clear hG hBK
          obtain ⟨d0, d1⟩ := boxG HG.out.tg
          obtain ⟨b0, b1, b2, b3, b4⟩ := box5 HBK.out
          have hT0 : ¬ y.tm.t0 < 0 := by omega
          have hT1 : ¬ y.tm.t1 < 0 := by omega
          have hT2 : ¬ (t.blocks.length : Int) ≤ y.tm.t0 := by omega
          have hT3 : ¬ (t.blocks.length : Int) ≤ y.tm.t1 := by omega
          match kk, hkk with
          | 0, _ =>
            go_wp2_with fail
            go_quiet (fail)
            go_wp2
            go_roundw
            case rel => exact ⟨1, by go_num, by omega, HG.out.below (below_drewN (Below.refl _ _) _), HBK.out.below (below_drewN (Below.refl _ _) _) HBK.out.lt⟩
            case measure => simp [intOf]
          | 1, _ =>
            go_wp2_with fail
            go_quiet (fail)
            go_wp2
            go_roundw
            case rel => exact ⟨2, by go_num, by omega, HG.out.below (below_drewN (Below.refl _ _) _), HBK.out.below (below_drewN (Below.refl _ _) _) HBK.out.lt⟩
            case measure => simp [intOf]
          | 2, _ =>
            go_wp2
            go_roundw
            case rel => exact ⟨j + 1, n + y.ins.length + 1, by go_num, by go_num, by omega, by omega, HD, HG.out⟩
            case measure => simp [intOf]; omega
end Go.Proofs.YtjahchoaaggkiaaDoor
