/-
  The walk of the statement MirParts: it answers true for any machine, instruction and end. No condition beyond those that each theorem states.
-/
import Derived.Test.YtbckkmicdpjnaaaDoorMiS
import Derived.Test.YtbckkmicdpjnaaaDoorMiG
import Derived.Test.YtbckkmicdpjnaaaDoorMiK
import Derived.Deep.RegionHeld3
namespace Go.Proofs.YtbckkmicdpjnaaaDoor
open Go.RowKit

/-- A machine, an instruction, an end, each in a box of its own. -/
structure ThreeP (w W : World) (m : Mm) (aa sa : Option Addr) (ac sc : Nat) (x : Ii) (a : Option Addr) (c : Nat) (t : Tt) : Prop where
  mc : Blk W w.heap.size 24 (maxC m aa ac sa sc)
  ix : Blk W (w.heap.size + 1) 31 (insC x a c)
  tm : Blk W (w.heap.size + 1 + 1) 28 (tmC t)
  be : Below w.heap.size w W
def threeA (w : World) (m : Mm) (aa sa : Option Addr) (ac sc : Nat) (x : Ii) (a : Option Addr) (c : Nat) (t : Tt) : World := ((w.alloc (.cells (maxC m aa ac sa sc) 24)).alloc (.cells (insC x a c) 31)).alloc (.cells (tmC t) 28)
theorem three_new (w : World) (m : Mm) (aa sa : Option Addr) (ac sc : Nat) (x : Ii) (a : Option Addr) (c : Nat) (t : Tt) : ThreeP w (threeA w m aa sa ac sc x a c t) m aa sa ac sc x a c t :=
  ⟨((Blk.new w _ _).alloc _).alloc _, (blk_at _ _ (by simp)).alloc _, blk_at _ _ (by simp), (((Below.refl _ w).alloc (Nat.le_refl _) _).alloc (by simp) _).alloc (by simp; omega) _⟩
theorem ThreeP.below {w W W' : World} {m : Mm} {aa sa : Option Addr} {ac sc : Nat} {x : Ii} {a : Option Addr} {c : Nat} {t : Tt} (h : ThreeP w W m aa sa ac sc x a c t) (hb : Below W.heap.size W W') : ThreeP w W' m aa sa ac sc x a c t :=
  ⟨h.mc.below hb h.mc.lt, h.ix.below hb h.ix.lt, h.tm.below hb h.tm.lt, h.be.trans (hb.mono h.be.size)⟩
/-- A call that tells a row of places, by what is looked at behind it. -/
theorem rel_locs {A W : World} {F : Nat} {args : Array Value} {l : List Ll} (h : Calls Tryd.prog F args W fun e w' => ∃ v, e = .returned v ∧ OwnL w' W.heap.size v l ∧ Below W.heap.size W w') (hb : Below A.heap.size A W) :
    Calls Tryd.prog F args W fun e w' => ∃ v c, e = .returned (.slice v l.length c) ∧ Hid (LocsW w' v l) ∧ Below A.heap.size A w' ∧ Hid (Below W.heap.size W w') := h.mono fun e w' ⟨v, h1, h2, h3⟩ => by
  obtain ⟨a, c, rfl, _, hl⟩ := OwnL.shape h2
  exact ⟨a, c, h1, hl, hb.trans (h3.mono hb.size), h3⟩
theorem reads_few (m : Mm) (x : Ii) : (readsT m x).length ≤ m.args.length + 2 := by
  unfold readsT
  repeat' split
  all_goals simp
  all_goals omega
theorem writes_few (m : Mm) (x : Ii) : (writesT m x).length ≤ 1 := by
  unfold writesT
  repeat' split
  all_goals simp
theorem needs_few (t : Tt) : (needsT t).length ≤ 1 := by
  unfold needsT
  split <;> simp
set_option maxHeartbeats 8000000 in
set_option maxRecDepth 100000 in
theorem mirParts_any (m : Mm) (aa sa : Option Addr) (ac sc : Nat) (x : Ii) (xa : Option Addr) (xc : Nat) (t : Tt) (w : World) (hl : m.args.length ≤ 140737488355328) (hs : m.saved.length ≤ 140737488355328) (hx : x.args.length ≤ 140737488355328) (hroom : m.args.length ≤ ac) (hna : aa = none → ac = 0) (hM : IntsW w aa m.args) (hT : TabW w) :
    Calls Tryd.prog 4 #[machV m aa ac sa sc, insV x xa xc, termV t] w fun e w' => e = .returned (.bool true) ∧ Below w.heap.size w w' := by
  have HP := Lib.hid (three_new w m aa sa ac sc x xa xc t)
  have HB := Lib.hid HP.out.be
  have hU := threeA.eq_1 w m aa sa ac sc x xa xc t
  have HA : Hid (∀ W, Below (threeA w m aa sa ac sc x xa xc t).heap.size (threeA w m aa sa ac sc x xa xc t) W → ThreeP w W m aa sa ac sc x xa xc t ∧ IntsW W aa m.args ∧ TabW W) := fun W h => ⟨HP.out.below h, hM.below (HB.out.trans (h.mono HB.out.size)), hT.below (HB.out.trans (h.mono HB.out.size))⟩
  have HM := Lib.hid (maxC.eq_1 m aa ac sa sc)
  have HC := Lib.hid (insC.eq_1 x xa xc)
  have HD := Lib.hid (tmC.eq_1 t)
  rw [HM.out, HC.out, HD.out] at hU
  have hw1 : IntKind.i64.wrap ((m.args.length : Int) + (m.saved.length : Int)) = (m.args.length : Int) + m.saved.length := by rw [IntKind.wrap_i64]; omega
  have hw2 : IntKind.i64.wrap ((m.args.length : Int) + (m.saved.length : Int) + (x.args.length : Int)) = (m.args.length : Int) + m.saved.length + x.args.length := by rw [IntKind.wrap_i64]; omega
  unfold machV insV termV
  rw [HM.out]
  clear hM hT
  go_enter Tryd.func4, Tryd.ntmps4
  go_upto_region 1 with fail
  rw [← hU]
  clear hU
  generalize threeA w m aa sa ac sc x xa xc t = A at *
  obtain ⟨c0, c1, c2, c3⟩ := boxMa HP.out.mc
  obtain ⟨d0, d1, d2, d3, d4, d5, d6, d7⟩ := box8 HP.out.ix
  have AW : Hid (∀ W, Below A.heap.size A W → Calls Tryd.prog 10 #[] W fun e w' => e = .returned (.bool true) ∧ Below A.heap.size A w') := fun W h => (awakeT_any W (HA.out W h).2.2).mono fun e w' ⟨h1, h2⟩ => ⟨h1, h.trans (h2.mono h.size)⟩
  by_cases hbig : (1500 : Int) < (m.args.length : Int) + m.saved.length + x.args.length
  · go_wp2_with fail
    refine (AW.out A (Below.refl _ _)).mono ?_
    rintro e w2 ⟨rfl, hb2⟩
    go_wp2
    go_ret
    exact ⟨rfl, HB.out.trans (hb2.mono HB.out.size)⟩
  have hlm : m.args.length ≤ 1500 := by omega
  have R1 : Hid (∀ W, Below A.heap.size A W → Calls Tryd.prog 12 #[machV m aa ac sa sc, insV x xa xc] W fun e w' => ∃ v c, e = .returned (.slice v (readsT m x).length c) ∧ Hid (LocsW w' v (readsT m x)) ∧ Below A.heap.size A w' ∧ Hid (Below W.heap.size W w')) := fun W h =>
    rel_locs (reads_any m aa sa ac sc x xa xc W (by omega) hroom hna (HA.out W h).2.1 (HA.out W h).2.2) h
  have R2 : Hid (∀ W, Below A.heap.size A W → Calls Tryd.prog 13 #[machV m aa ac sa sc, insV x xa xc] W fun e w' => ∃ v c, e = .returned (.slice v (readsT m x).length c) ∧ Hid (LocsW w' v (readsT m x)) ∧ Below A.heap.size A w' ∧ Hid (Below W.heap.size W w')) := fun W h =>
    rel_locs (reads6_any m aa sa ac sc x xa xc W (by omega) (HA.out W h).2.1) h
  have W1 : Hid (∀ W, Below A.heap.size A W → Calls Tryd.prog 14 #[machV m aa ac sa sc, insV x xa xc] W fun e w' => ∃ v c, e = .returned (.slice v (writesT m x).length c) ∧ Hid (LocsW w' v (writesT m x)) ∧ Below A.heap.size A w' ∧ Hid (Below W.heap.size W w')) := fun W h =>
    rel_locs (writes_any m aa sa ac sc x xa xc W (HA.out W h).2.2) h
  have W2 : Hid (∀ W, Below A.heap.size A W → Calls Tryd.prog 15 #[machV m aa ac sa sc, insV x xa xc] W fun e w' => ∃ v c, e = .returned (.slice v (writesT m x).length c) ∧ Hid (LocsW w' v (writesT m x)) ∧ Below A.heap.size A w' ∧ Hid (Below W.heap.size W w')) := fun W h =>
    rel_locs (writes6_any m aa sa ac sc x xa xc W) h
  have N1 : Hid (∀ W, Below A.heap.size A W → Calls Tryd.prog 16 #[termV t] W fun e w' => ∃ v c, e = .returned (.slice v (needsT t).length c) ∧ Hid (LocsW w' v (needsT t)) ∧ Below A.heap.size A w' ∧ Hid (Below W.heap.size W w')) := fun W h =>
    rel_locs (needs_any t W) h
  have N2 : Hid (∀ W, Below A.heap.size A W → Calls Tryd.prog 17 #[termV t] W fun e w' => ∃ v c, e = .returned (.slice v (needsT t).length c) ∧ Hid (LocsW w' v (needsT t)) ∧ Below A.heap.size A w' ∧ Hid (Below W.heap.size W w')) := fun W h =>
    rel_locs (needs6_any t W) h
  have S : Hid (∀ (l : List Ll) W a a' c c', l.length ≤ 1000000000 → Below A.heap.size A W → LocsW W a l → LocsW W a' l → Calls Tryd.prog 11 #[.slice a l.length c, .slice a' l.length c'] W fun e w' => e = .returned (.bool true) ∧ Below A.heap.size A w') := fun l W a a' c c' hl h h1 h2 => (sameL_any l a a' c c' W hl h1 h2).mono fun e w' ⟨h3, h4⟩ => ⟨h3, h.trans (h4.mono h.size)⟩
  have I1 : Hid (∀ W, Below A.heap.size A W → Calls Tryd.prog 18 #[.int .i64 x.op] W fun e w' => e = .returned (.bool (insertedT x.op)) ∧ Below A.heap.size A w') := fun W h => (inserted_any x.op W).mono fun e w' ⟨h1, h2⟩ => ⟨h1, h2 ▸ h⟩
  have I2 : Hid (∀ W, Below A.heap.size A W → Calls Tryd.prog 19 #[.int .i64 x.op] W fun e w' => e = .returned (.bool (insertedT x.op)) ∧ Below A.heap.size A w') := fun W h => (inserted6_any x.op W).mono fun e w' ⟨h1, h2⟩ => ⟨h1, h2 ▸ h⟩
  have hn1 := reads_few m x
  have hn2 := writes_few m x
  have hn3 := needs_few t
  unfold machV insV at R1 R2 W1 W2
  unfold termV at N1 N2
  rw [HM.out] at R1 R2 W1 W2
  have S1 := Lib.hid (fun W a a' c c' => S.out (readsT m x) W a a' c c' (by omega))
  have S2 := Lib.hid (fun W a a' c c' => S.out (writesT m x) W a a' c c' (by omega))
  have S3 := Lib.hid (fun W a a' c c' => S.out (needsT t) W a a' c c' (by omega))
  have HZ : Hid (∀ W, Below A.heap.size A W → Below A.heap.size A W ∧ (W.cell? ⟨w.heap.size, 0, none⟩ = some (.int .i64 m.regs) ∧ W.cell? ⟨w.heap.size, 1, none⟩ = some (.slice aa m.args.length ac) ∧ W.cell? ⟨w.heap.size, 2, none⟩ = some (.int .i64 m.ret) ∧ W.cell? ⟨w.heap.size, 3, none⟩ = some (.slice sa m.saved.length sc)) ∧ (W.cell? ⟨w.heap.size + 1, 0, none⟩ = some (.int .i64 x.op) ∧ W.cell? ⟨w.heap.size + 1, 1, none⟩ = some (.int .i64 x.dst) ∧ W.cell? ⟨w.heap.size + 1, 2, none⟩ = some (.int .i64 x.a) ∧ W.cell? ⟨w.heap.size + 1, 3, none⟩ = some (.int .i64 x.b) ∧ W.cell? ⟨w.heap.size + 1, 4, none⟩ = some (.int .i64 x.imm) ∧ W.cell? ⟨w.heap.size + 1, 5, none⟩ = some (.int .i64 x.callee) ∧ W.cell? ⟨w.heap.size + 1, 6, none⟩ = some (.slice xa x.args.length xc) ∧ W.cell? ⟨w.heap.size + 1, 7, none⟩ = some (.int .i64 x.many)) ∧ (W.cell? ⟨w.heap.size + 1 + 1, 0, none⟩ = some (.int .i64 t.kind) ∧ W.cell? ⟨w.heap.size + 1 + 1, 1, none⟩ = some (.int .i64 t.a) ∧ W.cell? ⟨w.heap.size + 1 + 1, 2, none⟩ = some (.int .i64 t.t0) ∧ W.cell? ⟨w.heap.size + 1 + 1, 3, none⟩ = some (.int .i64 t.t1))) := fun W h =>
    ⟨h, boxMa (HA.out W h).1.mc, box8 (HA.out W h).1.ix, boxT (HA.out W h).1.tm⟩
  generalize readsT m x = lr at *
  generalize writesT m x = lw at *
  generalize needsT t = ln at *
  generalize insertedT x.op = q at *
  have hq1 : (q == q) = true := by simp
  have hb0 := (Below.refl A.heap.size A).drew
  go_upto_region 3 with fail
  clear c0 c1 c2 c3 d0 d1 d2 d3 d4 d5 d6 d7
  go_region_held3 (fun W => Below A.heap.size A W ∧ (W.cell? ⟨w.heap.size, 0, none⟩ = some (.int .i64 m.regs) ∧ W.cell? ⟨w.heap.size, 1, none⟩ = some (.slice aa m.args.length ac) ∧ W.cell? ⟨w.heap.size, 2, none⟩ = some (.int .i64 m.ret) ∧ W.cell? ⟨w.heap.size, 3, none⟩ = some (.slice sa m.saved.length sc)) ∧ (W.cell? ⟨w.heap.size + 1, 0, none⟩ = some (.int .i64 x.op) ∧ W.cell? ⟨w.heap.size + 1, 1, none⟩ = some (.int .i64 x.dst) ∧ W.cell? ⟨w.heap.size + 1, 2, none⟩ = some (.int .i64 x.a) ∧ W.cell? ⟨w.heap.size + 1, 3, none⟩ = some (.int .i64 x.b) ∧ W.cell? ⟨w.heap.size + 1, 4, none⟩ = some (.int .i64 x.imm) ∧ W.cell? ⟨w.heap.size + 1, 5, none⟩ = some (.int .i64 x.callee) ∧ W.cell? ⟨w.heap.size + 1, 6, none⟩ = some (.slice xa x.args.length xc) ∧ W.cell? ⟨w.heap.size + 1, 7, none⟩ = some (.int .i64 x.many)) ∧ (W.cell? ⟨w.heap.size + 1 + 1, 0, none⟩ = some (.int .i64 t.kind) ∧ W.cell? ⟨w.heap.size + 1 + 1, 1, none⟩ = some (.int .i64 t.a) ∧ W.cell? ⟨w.heap.size + 1 + 1, 2, none⟩ = some (.int .i64 t.t0) ∧ W.cell? ⟨w.heap.size + 1 + 1, 3, none⟩ = some (.int .i64 t.t1)))
    (first | (refine HZ.out _ ?_; (repeat (first | with_reducible apply belK_alloc | with_reducible apply belK_drew)); (first | exact Below.refl _ _ | assumption)))
    (first
      | (go_at_call 12; refine (R1.out _ (by go_split_ands; assumption)).mono ?_; rintro e w11 ⟨vx, cx, rfl, hX1, hb11, hW11⟩)
      | (go_at_call 13; refine (R2.out _ (by go_split_ands; assumption)).mono ?_; rintro e w12 ⟨vy, cy, rfl, hX2, hb12, hW12⟩; have hX3 := hX1.out.below hW12.out)
      | (go_at_call 14; refine (W1.out _ (by go_split_ands; assumption)).mono ?_; rintro e w14 ⟨vz, cz, rfl, hY1, hb14, hW14⟩)
      | (go_at_call 15; refine (W2.out _ (by go_split_ands; assumption)).mono ?_; rintro e w15 ⟨vu, cu, rfl, hY2, hb15, hW15⟩; have hY3 := hY1.out.below hW15.out)
      | (go_at_call 16; refine (N1.out _ (by go_split_ands; assumption)).mono ?_; rintro e w17 ⟨vs, cs, rfl, hN1, hb17, hW17⟩)
      | (go_at_call 17; refine (N2.out _ (by go_split_ands; assumption)).mono ?_; rintro e w18 ⟨vt, ct, rfl, hN2, hb18, hW18⟩; have hN3 := hN1.out.below hW18.out)
      | (go_at_call 11; have hq := hN3; refine (S3.out _ _ _ _ _ (by go_split_ands; assumption) hN3 hN2.out).mono ?_; rintro e w19 ⟨rfl, hb19⟩)
      | (go_at_call 11; have hq := hY3; refine (S2.out _ _ _ _ _ (by go_split_ands; assumption) hY3 hY2.out).mono ?_; rintro e w16 ⟨rfl, hb16⟩)
      | (go_at_call 11; refine (S1.out _ _ _ _ _ (by go_split_ands; assumption) hX3 hX2.out).mono ?_; rintro e w13 ⟨rfl, hb13⟩)
      | (go_at_call 18; refine (I1.out _ (by go_split_ands; assumption)).mono ?_; rintro e w20 ⟨rfl, hb20⟩)
      | (go_at_call 19; refine (I2.out _ (by go_split_ands; assumption)).mono ?_; rintro e w21 ⟨rfl, hb21⟩)
      | (go_at_call 10; refine (AW.out _ (by go_split_ands; assumption)).mono ?_; rintro e w22 ⟨rfl, hb22⟩))
  all_goals (
    go_wp2
    go_ret
    exact ⟨rfl, HB.out.trans (hb22.mono HB.out.size)⟩)
end Go.Proofs.YtbckkmicdpjnaaaDoor
