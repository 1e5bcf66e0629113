/-
  Targets that are lent, compared, and looked at again: the kit's LentTarget, SameTarget, KeptTarget. No condition beyond those that each theorem states.
  MreadBack: the walk. Conditions: the library's tables, its errors, the Ops' names and parts hold what the text lays.
-/
import Derived.Test.YtjmdgbgjleeloaaGreatDoorPk7
import Derived.Test.YtjmdgbgjleeloaaGreatDoorPk22
import Derived.Test.YtjmdgbgjleeloaaGreatDoorPk37
import Derived.Test.YtjmdgbgjleeloaaGreatDoorPk39
import Derived.Test.YtjmdgbgjleeloaaGreatDoorPk36
import Derived.Deep.RegionHeld3
import Derived.Deep.CutRange
namespace Go.Proofs.YtjmdgbgjleeloaaGreatDoor
open Go.RowKit

theorem targetL_size : (Tryz.prog.info? 24).map (·.size) = some 2 := by kernel_rfl
/-- A target that is lent. -/
structure LTg (w : World) (B : Nat) (t : Gg) (bg bc : Nat) (es : List BE) : Prop where
  same : es.map beB = t.blocks
  blocks : LBls w B bg bc es
theorem LTg.below {w w' : World} {B : Nat} {t : Gg} {bg bc : Nat} {es : List BE} (h : LTg w B t bg bc es) (hb : Below w.heap.size w w') : LTg w' B t bg bc es :=
  ⟨h.same, h.blocks.keepT fun t => KeepT.below hb t⟩
theorem LTg.bls {w : World} {B : Nat} {t : Gg} {bg bc : Nat} {es : List BE} (h : LTg w B t bg bc es) : BlsW w (some ⟨bg, 0, none⟩) t.blocks := by
  rw [← h.same]
  exact h.blocks.bls
set_option maxHeartbeats 1000000 in
set_option maxRecDepth 100000 in
theorem lentTarget_any (t : Gg) (ba : Option Addr) (bc : Nat) (w : World) (hl : t.blocks.length ≤ 2000) (hl2 : ∀ x ∈ t.blocks, x.ins.length ≤ 2000 ∧ ∀ y ∈ x.ins, y.args.length ≤ 2000) (hB : BlsW w ba t.blocks) :
    Calls Tryz.prog 10 #[tgV t ba bc] w fun e w' => ∃ (bg bk : Nat) (es : List BE), e = .returned (tgV t (some ⟨bg, 0, none⟩) bk) ∧ LTg w' w.heap.size t bg bk es ∧ Below w.heap.size w w' := by
  have HX : Hid (Blk ((w.alloc (.cells (tgC t ba bc) 24)).alloc (.cells #[.int .i64 0, .slice none 0 0] 24)) w.heap.size 24 (tgC t ba bc)) := Lib.hid ((Blk.new w _ _).alloc _)
  have HR : Hid (Blk ((w.alloc (.cells (tgC t ba bc) 24)).alloc (.cells #[.int .i64 0, .slice none 0 0] 24)) (w.heap.size + 1) 24 #[.int .i64 0, .slice none 0 0]) := Lib.hid (new_two w _ _ _)
  have HW : Hid (Below w.heap.size w ((w.alloc (.cells (tgC t ba bc) 24)).alloc (.cells #[.int .i64 0, .slice none 0 0] 24))) := Lib.hid (((Below.refl _ w).alloc (Nat.le_refl _) _).alloc (by simp) _)
  have HC := Lib.hid (lentBlocks_any t.blocks ba bc _ hl hl2 (hB.below HW.out))
  have hne : w.heap.size + 1 ≠ w.heap.size := by omega
  clear hB
  unfold tgV tgC
  go_enter Tryz.func10, Tryz.ntmps10
  go_wp2_with fail
  refine HC.out.mono ?_
  rintro e w3 ⟨bg, bk, es, rfl, hes, hrow, hb⟩
  have HX3 := Lib.hid (HX.out.below hb HX.out.lt)
  have HR3 := Lib.hid (HR.out.below hb HR.out.lt)
  have HW3 : Hid (Below w.heap.size w w3) := Lib.hid (HW.out.trans (hb.mono HW.out.size))
  have HL3 := Lib.hid (hrow.base HW.out.size)
  clear hb hrow HX HR HW HC
  have c0 : w3.cell? ⟨w.heap.size, 0, none⟩ = some (.int .i64 t.frame) := HX3.out.cell 0
  have c1 : w3.cell? ⟨w.heap.size, 1, none⟩ = some (.slice ba t.blocks.length bc) := HX3.out.cell 1
  have f1 : w3.frozen? ⟨w.heap.size, 1, none⟩ = false := HX3.out.free 1
  generalize hR0 : w.heap.size + 1 = R0 at HR3 hne ⊢
  have d0 := HR3.out.cell 0
  have d1 := HR3.out.cell 1
  have g0 := HR3.out.free 0
  have g1 := HR3.out.free 1
  simp at d0 d1
  go_wp2
  obtain ⟨hR9, hK9, hB9⟩ := put_all HX3.out HR3.out hne 1 (.slice (some ⟨bg, 0, none⟩) t.blocks.length bk) [.int .i64 t.frame, .slice (some ⟨bg, 0, none⟩) t.blocks.length bk] rfl
  have hL9 := keep_blocks HL3.out (hK9 3 (by decide)) (hK9 46 (by decide)) (hK9 53 (by decide))
  have hW9 := HW3.out.trans (hB9 w.heap.size (Nat.le_refl _) (by omega))
  clear hK9 hB9
  change bodyPost _ _ _ _ _ (putAll (w3.setCell ⟨w.heap.size, 1, none⟩ (.slice (some ⟨bg, 0, none⟩) t.blocks.length bk)) R0 0 [.int .i64 t.frame, .slice (some ⟨bg, 0, none⟩) t.blocks.length bk])
  generalize putAll (w3.setCell ⟨w.heap.size, 1, none⟩ (.slice (some ⟨bg, 0, none⟩) t.blocks.length bk)) R0 0 [.int .i64 t.frame, .slice (some ⟨bg, 0, none⟩) t.blocks.length bk] = W9 at hR9 hL9 hW9 ⊢
  refine bodyPost_ret (results_cell_row rfl _ _ R0 24 _ (0, 0) _ (by simp) hR9 Tryz.underlying24 rfl targetL_size) rfl ?_
  exact ⟨bg, bk, es, rfl, ⟨hes, hL9⟩, hW9⟩
set_option maxHeartbeats 1000000 in
set_option maxRecDepth 100000 in
theorem sameTarget_same (t : Gg) (ba ba' : Option Addr) (bc bc' : Nat) (w : World) (hs : SmallG t) (hF : BlsW w ba t.blocks) (hG : BlsW w ba' t.blocks) :
    Calls Tryz.prog 16 #[tgV t ba bc, tgV t ba' bc'] w fun e w' => e = .returned (.bool true) ∧ Below w.heap.size w w' := by
  have HX : Hid (Blk ((w.alloc (.cells (tgC t ba bc) 24)).alloc (.cells (tgC t ba' bc') 24)) w.heap.size 24 (tgC t ba bc)) := Lib.hid ((Blk.new w _ _).alloc _)
  have HY : Hid (Blk ((w.alloc (.cells (tgC t ba bc) 24)).alloc (.cells (tgC t ba' bc') 24)) (w.heap.size + 1) 24 (tgC t ba' bc')) := Lib.hid (new_two w _ _ _)
  have HW : Hid (Below w.heap.size w ((w.alloc (.cells (tgC t ba bc) 24)).alloc (.cells (tgC t ba' bc') 24))) := Lib.hid (((Below.refl _ w).alloc (Nat.le_refl _) _).alloc (by simp) _)
  have HC := Lib.hid (sameBlocks_same t.blocks ba ba' bc bc' _ hs.b hs.i (hF.below HW.out) (hG.below HW.out))
  obtain ⟨c0, c1⟩ := boxG HX.out
  obtain ⟨d0, d1⟩ := boxG HY.out
  clear hF hG hs HX HY
  unfold tgC at HC HW c0 c1 d0 d1
  unfold tgV tgC
  go_enter Tryz.func16, Tryz.ntmps16
  go_wp2_with fail
  refine HC.out.mono ?_
  rintro e w2 ⟨rfl, hb⟩
  have HW2 : Hid (Below w.heap.size w w2) := Lib.hid (HW.out.trans (hb.mono HW.out.size))
  clear hb HC HW c0 c1 d0 d1
  go_wp2
  go_ret
  exact ⟨rfl, HW2.out⟩
set_option maxHeartbeats 1000000 in
set_option maxRecDepth 100000 in
theorem keptTarget_any (t : Gg) (bg bk : Nat) (es : List BE) (B : Nat) (ba : Option Addr) (bc : Nat) (w : World) (hl : t.blocks.length ≤ 2000) (hl2 : ∀ x ∈ t.blocks, x.ins.length ≤ 2000 ∧ ∀ y ∈ x.ins, y.args.length ≤ 2000) (hL : LTg w B t bg bk es) (hF : BlsW w ba t.blocks) :
    Calls Tryz.prog 13 #[tgV t (some ⟨bg, 0, none⟩) bk, tgV t ba bc] w fun e w' => e = .returned (.bool true) ∧ Below w.heap.size w w' := by
  have HX : Hid (Blk ((w.alloc (.cells (tgC t (some ⟨bg, 0, none⟩) bk) 24)).alloc (.cells (tgC t ba bc) 24)) w.heap.size 24 (tgC t (some ⟨bg, 0, none⟩) bk)) := Lib.hid ((Blk.new w _ _).alloc _)
  have HY : Hid (Blk ((w.alloc (.cells (tgC t (some ⟨bg, 0, none⟩) bk) 24)).alloc (.cells (tgC t ba bc) 24)) (w.heap.size + 1) 24 (tgC t ba bc)) := Lib.hid (new_two w _ _ _)
  have HW : Hid (Below w.heap.size w ((w.alloc (.cells (tgC t (some ⟨bg, 0, none⟩) bk) 24)).alloc (.cells (tgC t ba bc) 24))) := Lib.hid (((Below.refl _ w).alloc (Nat.le_refl _) _).alloc (by simp) _)
  have HC := Lib.hid (sameTarget_same t (some ⟨bg, 0, none⟩) ba bk bc _ ⟨by omega, fun x hx => ⟨by have := (hl2 x hx).1; omega, fun y hy => by have := (hl2 x hx).2 y hy; omega⟩⟩ (hL.bls.below HW.out) (hF.below HW.out))
  have HL := Lib.hid hL
  have HF := Lib.hid hF
  have HL2 := Lib.hid hl2
  obtain ⟨c0, c1⟩ := boxG HX.out
  obtain ⟨d0, d1⟩ := boxG HY.out
  unfold tgV tgC at HC ⊢
  clear hL hF hl2
  go_enter Tryz.func13, Tryz.ntmps13
  go_wp2_with fail
  refine HC.out.mono ?_
  rintro e w1 ⟨rfl, hb⟩
  have HX1 := Lib.hid (HX.out.below hb HX.out.lt)
  have HY1 := Lib.hid (HY.out.below hb HY.out.lt)
  have HW1 : Hid (Below w.heap.size w w1) := Lib.hid (HW.out.trans (hb.mono HW.out.size))
  clear hb HX HY HW HC c0 c1 d0 d1
  obtain ⟨c0, c1⟩ := boxG HX1.out
  obtain ⟨d0, d1⟩ := boxG HY1.out
  have HC := Lib.hid (keptBlocks_any t.blocks es B bg bk ba bc w1 hl HL2.out HL.out.same (HL.out.below HW1.out).blocks (HF.out.below HW1.out))
  go_wp2_with fail
  refine HC.out.mono ?_
  rintro e w3 ⟨rfl, hb⟩
  have HW3 : Hid (Below w.heap.size w w3) := Lib.hid (HW1.out.trans (hb.mono HW1.out.size))
  clear hb HC c0 c1 d0 d1
  go_wp2
  go_ret
  exact ⟨rfl, HW3.out⟩
end Go.Proofs.YtjmdgbgjleeloaaGreatDoor
namespace Go.Proofs.YtjmdgbgjleeloaaGreatDoor
open Go.RowKit

theorem few_small {t : Gg} (h : FewL t.blocks) : SmallG t := ⟨by have := h.b; omega, fun x hx => ⟨by have := (h.i x hx).1; omega, fun y hy => by have := (h.i x hx).2 y hy; omega⟩⟩
/-- A target in a new box, as an assignment makes it. -/
def bxG (w : World) (f : Int) (v : Value) : World := w.alloc (.cells #[.int .i64 f, v] 24)
structure BxG (w W : World) (f : Int) (v : Value) : Prop where
  be : Below w.heap.size w W
  b : Blk W w.heap.size 24 #[.int .i64 f, v]
theorem BxG.new (w : World) (f : Int) (v : Value) : BxG w (bxG w f v) f v :=
  ⟨(Below.refl _ w).alloc (Nat.le_refl _) _, Blk.new w _ _⟩
theorem BxG.cells {w W : World} {f : Int} {v : Value} (h : BxG w W f v) : W.cell? ⟨w.heap.size, 0, none⟩ = some (.int .i64 f) ∧ W.cell? ⟨w.heap.size, 1, none⟩ = some v := ⟨h.b.cell 0, h.b.cell 1⟩
theorem BxG.below {w W W' : World} {f : Int} {v : Value} (h : BxG w W f v) (hb : Below W.heap.size W W') : BxG w W' f v :=
  ⟨h.be.trans (hb.mono h.be.size), h.b.below hb h.b.lt⟩
/-- What is parsed of what is printed, of a text that is read. -/
theorem reparse_any (t : Gg) (w : World) (hT : TabR w) (h : printE t = 0) : Calls Tryz.prog 14 #[.string (printS t)] w fun e w' => ∃ (ba : Option Addr) (bc : Nat) (l c : Int), e = .returned (.tuple #[tgV t ba bc, .int .i64 l, .int .i64 c, .int .i64 0]) ∧ Hid (BlsW w' ba t.blocks ∧ (ba = none → bc = 0)) ∧ Below w.heap.size w w' :=
  (parse_any (printS t) w hT).mono fun e w' ⟨ba, bc, h1, h2, h3⟩ => by
    obtain ⟨e1, e2⟩ := back_print h
    rw [e1, e2] at h1
    have h4 := h2.out
    rw [e2] at h4
    exact ⟨ba, bc, _, _, h1, h4, h3⟩
theorem noG_bls (w : World) : BlsW w none noG.blocks := fun k x hx => by simp [noG] at hx
theorem noG_val : tgV noG none 0 = .agg #[.int .i64 0, .slice none 0 0] := rfl
set_option maxRecDepth 100000 in
set_option maxHeartbeats 8000000 in
theorem mreadBack_any (m : Mm) (aa sa : Option Addr) (ac sc : Nat) (t : Gg) (ba : Option Addr) (bc : Nat) (s : ByteArray) (w : World) (hl : m.args.length ≤ 140737488355328) (hs : m.saved.length ≤ 140737488355328) (hM : MaW w m aa sa) (hB : BlsW w ba t.blocks) (htl : t.blocks.length ≤ 140737488355328) (htb : ∀ x ∈ t.blocks, x.ins.length ≤ 140737488355328 ∧ ∀ i ∈ x.ins, i.args.length ≤ 140737488355328) (hsz : s.size ≤ 140737488355328) (hT : TabA w) :
    Calls Tryz.prog 6 #[machV m aa ac sa sc, tgV t ba bc, .string s] w fun e w' => e = .returned (.bool true) ∧ Below w.heap.size w w' := by
  obtain ⟨A, hA⟩ : ∃ A, A = (w.alloc (.cells (maxC m aa ac sa sc) 39)).alloc (.cells (tgC t ba bc) 24) := ⟨_, rfl⟩
  have hw0 : Below w.heap.size w A := by rw [hA]; exact ((Below.refl _ w).alloc (Nat.le_refl _) _).alloc (by simp) _
  have HX : Hid (∀ W, Below A.heap.size A W → (W.cell? ⟨w.heap.size, 0, none⟩ = some (.int .i64 m.regs) ∧ W.cell? ⟨w.heap.size, 1, none⟩ = some (.slice aa m.args.length ac) ∧ W.cell? ⟨w.heap.size, 2, none⟩ = some (.int .i64 m.ret) ∧ W.cell? ⟨w.heap.size, 3, none⟩ = some (.slice sa m.saved.length sc)) ∧ (W.cell? ⟨w.heap.size + 1, 0, none⟩ = some (.int .i64 t.frame) ∧ W.cell? ⟨w.heap.size + 1, 1, none⟩ = some (.slice ba t.blocks.length bc))) := fun W h => by
    have x1 : Blk A w.heap.size 39 (maxC m aa ac sa sc) := by rw [hA]; exact (Blk.new w _ _).alloc _
    have x2 : Blk A (w.heap.size + 1) 24 (tgC t ba bc) := by rw [hA]; exact new_two w _ _ _
    exact ⟨boxMa (x1.below h x1.lt), boxG (x2.below h x2.lt)⟩
  have HW0 := Lib.hid hw0
  have HSA : Hid (A.heap.size = w.heap.size + 1 + 1) := by show _ = _; rw [hA]; simp
  replace hM := hM.below hw0
  replace hB := hB.below hw0
  replace hT := hT.below hw0
  have AW := Lib.hid (awake7_any A hT)
  have CT : Hid (∀ W, Below A.heap.size A W → _) := fun W h => targetOf6_any t ba bc W htl htb (hB.below h)
  have CM : Hid (∀ W, _) := fun W => machineOf6_any m aa sa ac sc W hl hs
  have PR : Hid (FewL t.blocks → ∀ W, Below A.heap.size A W → _) := fun hf W h => print_any t ba bc W (hB.below h) (few_small hf) (hT.t.below h) (hT.r.pow.below h) (hT.r.names.below h)
  have RP : Hid (printE t = 0 → ∀ W, Below A.heap.size A W → _) := fun he W h => reparse_any t W (hT.r.below h) he
  have RI : Hid (FewL t.blocks → ∀ W, Below A.heap.size A W → _) := fun hf W h => right_any m aa sa ac sc t ba bc W hl hs (hM.below h) (hB.below h) (few_small hf) (hT.t.below h)
  have RN : Hid (FewL t.blocks → printE t ≠ 0 → rightT m t ≠ 0) := fun hf he hr => he (right_print hr hf.n)
  have ST : Hid (FewL t.blocks → ∀ (b2 : Option Addr) (c2 : Nat) W, Below A.heap.size A W → BlsW W b2 t.blocks → _) := fun hf b2 c2 W h hB2 => sameTarget_same t ba b2 bc c2 W (few_small hf) (hB.below h) hB2
  have PN : Hid (printE t ≠ 0 → printS t = ⟨#[]⟩) := fun h => print_none h
  have PS : Hid (∀ W, Below A.heap.size A W → Calls Tryz.prog 14 #[.string s] W fun e w' => ∃ (b : Option Addr) (c : Nat), e = .returned (.tuple #[.agg #[.int .i64 (prG s).frame, .slice b (prG s).blocks.length c], .int .i64 (prL s), .int .i64 (prC s), .int .i64 (prE s)]) ∧ Hid (BlsW w' b (prG s).blocks) ∧ Below W.heap.size W w') := fun W h => (parse_any s W (hT.r.below h)).mono fun e w' ⟨b, c, h1, h2, h3⟩ => ⟨b, c, h1, h2.out.1, h3⟩
  have P2 : Hid (prE s = 0 → s.size ≤ 3000 → printE (prG s) = 0) := fun h1 h2 => back_read h1 h2
  have PU : Hid (∀ (b2 : Option Addr) (c2 : Nat) W, Below A.heap.size A W → BlsW W b2 (prG s).blocks → _) := fun b2 c2 W h hB2 => print_any (prG s) b2 c2 W hB2 (pr_small s).1 (hT.t.below h) (hT.r.pow.below h) (hT.r.names.below h)
  have RU : Hid (printE (prG s) = 0 → ∀ W, Below A.heap.size A W → _) := fun he W h => reparse_any (prG s) W (hT.r.below h) he
  have SU : Hid (∀ (b2 b3 : Option Addr) (c2 c3 : Nat) W, BlsW W b2 (prG s).blocks → BlsW W b3 (prG s).blocks → _) := fun b2 b3 c2 c3 W h2 h3 => sameTarget_same (prG s) b2 b3 c2 c3 W (pr_small s).1 h2 h3
  have hcm := cnt_max htb
  have UN : Hid (prE s ≠ 0 → prG s = noG) := fun h => pr_none h
  have HSZ := Lib.hid hsz
  clear hM hB htb hT
  generalize hpe : printE t = pe at *
  generalize hps : printS t = ps at *
  generalize hrt : rightT m t = rt at *
  generalize hgs : prG s = gs at *
  generalize hes : prE s = es at *
  generalize hpu : printE gs = pu at *
  generalize hsu : printS gs = su at *
  clear hpe hps hrt hgs hes hpu hsu
  have HF : Hid (cntB 0 t.blocks ≤ 600 → FewL t.blocks) := fun h => cnt_few h
  generalize hN : cntB 0 t.blocks = N at *
  clear hN
  have EM : Hid (machV m aa ac sa sc = .agg #[.int .i64 m.regs, .slice aa m.args.length ac, .int .i64 m.ret, .slice sa m.saved.length sc]) := rfl
  have ET : Hid (tgV t ba bc = .agg #[.int .i64 t.frame, .slice ba t.blocks.length bc]) := rfl
  have EMC : Hid (maxC m aa ac sa sc = #[.int .i64 m.regs, .slice aa m.args.length ac, .int .i64 m.ret, .slice sa m.saved.length sc]) := rfl
  have ETC : Hid (tgC t ba bc = #[.int .i64 t.frame, .slice ba t.blocks.length bc]) := rfl
  rw [ET.out] at CT PR RI ST
  rw [EM.out] at CM RI
  rw [EMC.out, ETC.out] at hA
  rw [EM.out, ET.out]
  obtain ⟨⟨p0, p1, p2, p3⟩, t0, t1⟩ := HX.out A (Below.refl _ _)
  clear EM ET EMC ETC hw0
  go_enter Tryz.func6, Tryz.ntmps6
  go_wp2_with fail
  rw [← hA]
  refine AW.out.mono ?_
  rintro e w1 ⟨rfl, hb1⟩
  have HB1 := Lib.hid hb1
  have HS : Hid (∀ W, Below A.heap.size A W → Below A.heap.size A W ∧ (W.cell? ⟨w.heap.size, 0, none⟩ = some (.int .i64 m.regs) ∧ W.cell? ⟨w.heap.size, 1, none⟩ = some (.slice aa m.args.length ac) ∧ W.cell? ⟨w.heap.size, 2, none⟩ = some (.int .i64 m.ret) ∧ W.cell? ⟨w.heap.size, 3, none⟩ = some (.slice sa m.saved.length sc)) ∧ (W.cell? ⟨w.heap.size + 1, 0, none⟩ = some (.int .i64 t.frame) ∧ W.cell? ⟨w.heap.size + 1, 1, none⟩ = some (.slice ba t.blocks.length bc))) := fun W hb => ⟨hb, HX.out W hb⟩
  have CT1 : Hid (∀ W, Below A.heap.size A W → Calls Tryz.prog 8 #[.agg #[.int .i64 t.frame, .slice ba t.blocks.length bc], .int .i64 600] W fun e w' => e = .returned (.int .i64 (N : Nat)) ∧ Below A.heap.size A w') := fun W h => (CT.out W h).mono fun e w' ⟨h1, h2⟩ => ⟨h1, h.trans (h2.mono h.size)⟩
  have CM1 : Hid (∀ W, Below A.heap.size A W → Calls Tryz.prog 18 #[.agg #[.int .i64 m.regs, .slice aa m.args.length ac, .int .i64 m.ret, .slice sa m.saved.length sc]] W fun e w' => e = .returned (.int .i64 ((m.args.length : Int) + m.saved.length)) ∧ Below A.heap.size A w') := fun W h => (CM.out W).mono fun e w' ⟨h1, h2⟩ => ⟨h1, h.trans (h2.mono h.size)⟩
  obtain ⟨KS, hKS⟩ : ∃ KS : Int, KS = (N : Int) + ((m.args.length : Int) + m.saved.length) := ⟨_, rfl⟩
  have hw : IntKind.i64.wrap ((N : Int) + ((m.args.length : Int) + m.saved.length)) = KS := by rw [IntKind.wrap_i64, hKS]; omega
  have HKS := Lib.hid hKS
  clear hKS
  clear AW CT CM hA p0 p1 p2 p3 t0 t1
  go_upto_region 3 with fail
  have hbd := hb1.drew
  clear hb1
  go_cut [35] from 25 to 35 (fun v W => (∃ b, v = .bool b ∧ Hid (b = false → N ≤ 600 ∧ s.size ≤ 3000)) ∧ Below A.heap.size A W)
  case first =>
    by_cases hbig : (600 : Int) < KS
    · have hdb : decide ((600 : Int) < KS) = true := decide_eq_true hbig
      refine wp_region_held_drew (S := fun W => Below A.heap.size A W ∧ (W.cell? ⟨w.heap.size, 0, none⟩ = some (.int .i64 m.regs) ∧ W.cell? ⟨w.heap.size, 1, none⟩ = some (.slice aa m.args.length ac) ∧ W.cell? ⟨w.heap.size, 2, none⟩ = some (.int .i64 m.ret) ∧ W.cell? ⟨w.heap.size, 3, none⟩ = some (.slice sa m.saved.length sc)) ∧ (W.cell? ⟨w.heap.size + 1, 0, none⟩ = some (.int .i64 t.frame) ∧ W.cell? ⟨w.heap.size + 1, 1, none⟩ = some (.slice ba t.blocks.length bc))) (by kernel_rfl) ?_ (fun hHeld => ?_)
      · exact HS.out _ hbd
      refine wpAnyH_take (i := 0) (v := ?vdd1) (by simp only [List.getElem?_toArray, List.getElem?_cons_zero]; rfl) (by kernel_rfl) (by kernel_rfl) (by kernel_rfl) (by exact fun _ _ _ h => h) (Or.inl ⟨by rfl, ?ydd1⟩) (by assumption) ?_
      case ydd1 => (intro W9 hSw; (try dsimp only at hSw); go_simp; try (with_reducible rfl))
      try simp only [Act.put, List.setIfInBounds_toArray, List.set_cons_zero, List.set_cons_succ]
      refine wpAnyH_take (i := 2) (v := ?vdd2) (by simp only [List.getElem?_toArray, List.getElem?_cons_succ, List.getElem?_cons_zero]; rfl) (by kernel_rfl) (by kernel_rfl) (by kernel_rfl) (by exact fun _ _ _ h => h) (Or.inl ⟨by rfl, ?ydd2⟩) (by assumption) ?_
      case ydd2 => (intro W9 hSw; (try dsimp only at hSw); go_simp; try (with_reducible rfl))
      try simp only [Act.put, List.setIfInBounds_toArray, List.set_cons_zero, List.set_cons_succ]
      refine wpAnyH_ready (rs := [1]) (by kernel_rfl) (by simp) ?_
      refine AllReadyH.cons (by simp only [List.getElem?_toArray, List.getElem?_cons_succ, List.getElem?_cons_zero]; rfl) (fun K hK => ?_) AllReadyH.nil
      go_simp
      go_at_call 8
      refine (CT1.out _ hbd).mono ?_
      rintro e w2 ⟨rfl, hb2⟩
      dsimp only
      refine hK.out _ _ ?_ (fun hHeld2 => ?_)
      · exact HS.out _ hb2
      clear hK K
      try clear hHeld
      have hHeld := hHeld2
      clear hHeld2
      try simp only [Act.put, List.setIfInBounds_toArray, List.set_cons_zero, List.set_cons_succ]
      refine wpAnyH_ready (rs := [3]) (by kernel_rfl) (by simp) ?_
      refine AllReadyH.cons (by simp only [List.getElem?_toArray, List.getElem?_cons_succ, List.getElem?_cons_zero]; rfl) (fun K hK => ?_) AllReadyH.nil
      go_simp
      go_at_call 18
      refine (CM1.out _ hb2).mono ?_
      rintro e w3 ⟨rfl, hb3⟩
      dsimp only
      refine hK.out _ _ ?_ (fun hHeld2 => ?_)
      · exact HS.out _ hb3
      clear hK K
      try clear hHeld
      have hHeld := hHeld2
      clear hHeld2
      try simp only [Act.put, List.setIfInBounds_toArray, List.set_cons_zero, List.set_cons_succ]
      refine wpAnyH_take (i := 4) (v := ?vdd3) (by simp only [List.getElem?_toArray, List.getElem?_cons_succ, List.getElem?_cons_zero]; rfl) (by kernel_rfl) (by kernel_rfl) (by kernel_rfl) (by exact fun _ _ _ h => h) (Or.inl ⟨by rfl, ?ydd3⟩) (by assumption) ?_
      case ydd3 => (intro W9 hSw; (try dsimp only at hSw); go_simp; try (with_reducible rfl))
      try simp only [Act.put, List.setIfInBounds_toArray, List.set_cons_zero, List.set_cons_succ]
      refine wpAnyH_take (i := 5) (v := ?vdd4) (by simp only [List.getElem?_toArray, List.getElem?_cons_succ, List.getElem?_cons_zero]; rfl) (by kernel_rfl) (by kernel_rfl) (by kernel_rfl) (by exact fun _ _ _ h => h) (Or.inl ⟨by rfl, ?ydd4⟩) (by assumption) ?_
      case ydd4 => (intro W9 hSw; (try dsimp only at hSw); go_simp; try (with_reducible rfl))
      try simp only [Act.put, List.setIfInBounds_toArray, List.set_cons_zero, List.set_cons_succ]
      refine wpAnyH_take (i := 6) (v := ?vdd5) (by simp only [List.getElem?_toArray, List.getElem?_cons_succ, List.getElem?_cons_zero]; rfl) (by kernel_rfl) (by kernel_rfl) (by kernel_rfl) (by exact fun _ _ _ h => h) (Or.inl ⟨by rfl, ?ydd5⟩) (by assumption) ?_
      case ydd5 => (intro W9 hSw; (try dsimp only at hSw); go_simp; try (with_reducible rfl))
      try simp only [Act.put, List.setIfInBounds_toArray, List.set_cons_zero, List.set_cons_succ]
      refine wpAnyH_take (i := 7) (v := undef) (by simp only [List.getElem?_toArray, List.getElem?_cons_succ, List.getElem?_cons_zero]; rfl) (by kernel_rfl) (by kernel_rfl) (by kernel_rfl) (by exact fun _ _ _ h => h) (Or.inr ⟨by rfl, rfl⟩) (by assumption) ?_
      try simp only [Act.put, List.setIfInBounds_toArray, List.set_cons_zero, List.set_cons_succ]
      refine wpAnyH_take (i := 8) (v := undef) (by simp only [List.getElem?_toArray, List.getElem?_cons_succ, List.getElem?_cons_zero]; rfl) (by kernel_rfl) (by kernel_rfl) (by kernel_rfl) (by exact fun _ _ _ h => h) (Or.inr ⟨by rfl, rfl⟩) (by assumption) ?_
      try simp only [Act.put, List.setIfInBounds_toArray, List.set_cons_zero, List.set_cons_succ]
      refine wpAnyH_take (i := 9) (v := undef) (by simp only [List.getElem?_toArray, List.getElem?_cons_succ, List.getElem?_cons_zero]; rfl) (by kernel_rfl) (by kernel_rfl) (by kernel_rfl) (by exact fun _ _ _ h => h) (Or.inr ⟨by rfl, rfl⟩) (by assumption) ?_
      try simp only [Act.put, List.setIfInBounds_toArray, List.set_cons_zero, List.set_cons_succ]
      refine wpAnyH_take (i := 10) (v := ?vdd6) (by simp only [List.getElem?_toArray, List.getElem?_cons_succ, List.getElem?_cons_zero]; rfl) (by kernel_rfl) (by kernel_rfl) (by kernel_rfl) (by exact fun _ _ _ h => h) (Or.inl ⟨by rfl, ?ydd6⟩) (by assumption) ?_
      case ydd6 => (intro W9 hSw; (try dsimp only at hSw); go_simp; try (with_reducible rfl))
      try simp only [Act.put, List.setIfInBounds_toArray, List.set_cons_zero, List.set_cons_succ]
      refine wpAnyH_done (by kernel_rfl) ?_ _
      clear hHeld
      go_wp2_with fail
      go_meet
      exact ⟨⟨_, rfl, fun h => by cases h⟩, hb3⟩
    · have hdb : decide ((600 : Int) < KS) = false := decide_eq_false hbig
      go_region_held3 (fun W => Below A.heap.size A W ∧ (W.cell? ⟨w.heap.size, 0, none⟩ = some (.int .i64 m.regs) ∧ W.cell? ⟨w.heap.size, 1, none⟩ = some (.slice aa m.args.length ac) ∧ W.cell? ⟨w.heap.size, 2, none⟩ = some (.int .i64 m.ret) ∧ W.cell? ⟨w.heap.size, 3, none⟩ = some (.slice sa m.saved.length sc)) ∧ (W.cell? ⟨w.heap.size + 1, 0, none⟩ = some (.int .i64 t.frame) ∧ W.cell? ⟨w.heap.size + 1, 1, none⟩ = some (.slice ba t.blocks.length bc)))
        (first | (refine HS.out _ ?_; assumption))
        (first
          | (go_at_call 18; refine (CM1.out _ (by go_split_ands; assumption)).mono ?_; rintro e w3 ⟨rfl, hb3⟩)
          | (go_at_call 8; refine (CT1.out _ (by go_split_ands; assumption)).mono ?_; rintro e w2 ⟨rfl, hb2⟩))
      all_goals (
        rename_i hH
        go_wp2_with fail
        go_meet
        exact ⟨⟨_, rfl, fun h => ⟨by have := HKS.out; omega, by have := of_decide_eq_false h; omega⟩⟩, hH.1⟩)
  case rest =>
  obtain ⟨⟨b, rfl, HBF⟩, hb1⟩ := hcut
  have HB3 := Lib.hid hb1
  clear hb1 hbd CT1 CM1 HS
  cases b
  case true =>
    go_wp2
    go_ret
    exact ⟨rfl, HW0.out.trans (HB3.out.mono HW0.out.size)⟩
  obtain ⟨hn6, hsz3⟩ := HBF.out rfl
  have hfew := HF.out (by omega)
  obtain ⟨⟨p0, p1, p2, p3⟩, t0, t1⟩ := HX.out _ HB3.out
  have PR1 := Lib.hid (PR.out hfew)
  have RI1 := Lib.hid (RI.out hfew)
  have RN1 := Lib.hid (RN.out hfew)
  have ST1 := Lib.hid (ST.out hfew)
  have P21 : Hid (es = 0 → pu = 0) := fun h => P2.out h (by omega)
  clear PR RI RN ST HF hfew P2
  have C3 := Lib.hid (PR1.out wc HB3.out)
  clear PR1
  by_cases he : pe = 0
  · subst he
    have RP1 := Lib.hid (RP.out rfl)
    clear RP RI1 RN1 PN
    go_wp2_with fail
    refine C3.out.mono ?_
    rintro e w4 ⟨rfl, hb4⟩
    have HB4 : Hid (Below A.heap.size A w4) := HB3.out.trans (hb4.mono HB3.out.size)
    have C4 := Lib.hid (RP1.out w4 HB4.out)
    clear hb4 C3 HB3 RP1 p0 p1 p2 p3 t0 t1
    go_wp2_with fail
    refine C4.out.mono ?_
    rintro e w5 ⟨b5, c5, l5, k5, rfl, hB5, hb5⟩
    have HB5 : Hid (Below A.heap.size A w5) := HB4.out.trans (hb5.mono HB4.out.size)
    have U5 := Lib.hid (BxG.new w5 t.frame (.slice b5 t.blocks.length c5))
    have HB5u : Hid (Below A.heap.size A (bxG w5 t.frame (.slice b5 t.blocks.length c5))) := HB5.out.trans (U5.out.be.mono HB5.out.size)
    have C5 := Lib.hid (ST1.out b5 c5 _ HB5u.out (hB5.out.1.below U5.out.be))
    obtain ⟨⟨p0, p1, p2, p3⟩, t0, t1⟩ := HX.out _ HB5.out
    have hs5 : w.heap.size + 1 < w5.heap.size := by have := HB5.out.size; have := HSA.out; omega
    have hU5 := bxG.eq_1 w5 t.frame (.slice b5 t.blocks.length c5)
    rw [hU5] at C5 HB5u
    unfold tgV tgC at C5 ⊢
    clear hb5 C4 HB4 ST1 hB5 U5 HB5
    go_wp2_with fail
    refine C5.out.mono ?_
    rintro e w6 ⟨rfl, hb6⟩
    have HB6 : Hid (Below A.heap.size A w6) := HB5u.out.trans (hb6.mono HB5u.out.size)
    clear hU5 HB5u hs5
    clear hb6 C5 p0 p1 p2 p3 t0 t1
    have C6 := Lib.hid (PS.out w6 HB6.out)
    clear PS
    go_wp2_with fail
    refine C6.out.mono ?_
    rintro e w7 ⟨b7, c7, rfl, hB7, hb7⟩
    have HB7' : Hid (Below A.heap.size A w7) := HB6.out.trans (hb7.mono HB6.out.size)
    have U7 := Lib.hid (BxG.new w7 gs.frame (.slice b7 gs.blocks.length c7))
    have HB7 : Hid (Below A.heap.size A (bxG w7 gs.frame (.slice b7 gs.blocks.length c7))) := HB7'.out.trans (U7.out.be.mono HB7'.out.size)
    have hb7u : Hid (BlsW (bxG w7 gs.frame (.slice b7 gs.blocks.length c7)) b7 gs.blocks) := hB7.out.below U7.out.be
    have hU7 := bxG.eq_1 w7 gs.frame (.slice b7 gs.blocks.length c7)
    clear hb7 C6 HB6 HB7' hB7
    by_cases hs0 : es = 0
    · subst hs0
      have hpu := P21.out rfl
      subst hpu
      have C7 := Lib.hid (PU.out b7 c7 _ HB7.out hb7u.out)
      have RU1 := Lib.hid (RU.out rfl)
      rw [hU7] at C7 HB7 hb7u U7
      unfold tgV tgC at C7
      clear PU RU P21 UN
      go_wp2_with fail
      refine C7.out.mono ?_
      rintro e w8 ⟨rfl, hb8⟩
      have HB8 : Hid (Below A.heap.size A w8) := HB7.out.trans (hb8.mono HB7.out.size)
      have hB8 : Hid (BlsW w8 b7 gs.blocks) := hb7u.out.below hb8
      have U8 : Hid (BxG w7 w8 gs.frame (.slice b7 gs.blocks.length c7)) := U7.out.below hb8
      have C8 := Lib.hid (RU1.out w8 HB8.out)
      clear hb8 C7 HB7 RU1 hb7u U7 hU7
      go_wp2_with fail
      refine C8.out.mono ?_
      rintro e w9 ⟨b9, c9, l9, k9, rfl, hB9, hb9⟩
      have HB9' : Hid (Below A.heap.size A w9) := HB8.out.trans (hb9.mono HB8.out.size)
      have V9 := Lib.hid (BxG.new w9 gs.frame (.slice b9 gs.blocks.length c9))
      have HB9 : Hid (Below A.heap.size A (bxG w9 gs.frame (.slice b9 gs.blocks.length c9))) := HB9'.out.trans (V9.out.be.mono HB9'.out.size)
      have U9 : Hid (BxG w7 (bxG w9 gs.frame (.slice b9 gs.blocks.length c9)) gs.frame (.slice b7 gs.blocks.length c7)) := (U8.out.below hb9).below V9.out.be
      have C9 := Lib.hid (SU.out b7 b9 c7 c9 _ ((hB8.out.below hb9).below V9.out.be) (hB9.out.1.below V9.out.be))
      have hU9 := bxG.eq_1 w9 gs.frame (.slice b9 gs.blocks.length c9)
      obtain ⟨u0, u1⟩ := (U8.out.below hb9).cells
      have hs9 : w7.heap.size < w9.heap.size := (U8.out.below hb9).b.lt
      rw [hU9] at C9 HB9
      unfold tgV tgC at C9 ⊢
      clear hb9 C8 HB8 SU hB8 hB9 U8 V9 U9 HB9' hU9
      go_wp2_with fail
      refine C9.out.mono ?_
      rintro e wa ⟨rfl, hba⟩
      have HBa : Hid (Below A.heap.size A wa) := HB9.out.trans (hba.mono HB9.out.size)
      clear hba C9 HB9 u0 u1 hs9
      go_wp2
      go_ret
      exact ⟨rfl, HW0.out.trans (HBa.out.mono HW0.out.size)⟩
    · have hgn := UN.out hs0
      subst hgn
      have C7 := Lib.hid (SU.out b7 none c7 0 _ hb7u.out (noG_bls _))
      rw [noG_val] at C7
      have e0 : noG.frame = 0 := rfl
      have e1 : noG.blocks.length = 0 := rfl
      have e2 : tgV noG b7 c7 = .agg #[.int .i64 0, .slice b7 0 c7] := rfl
      rw [e2] at C7
      rw [e0, e1] at hU7 C7 HB7 hb7u U7 ⊢
      rw [hU7] at C7 HB7
      clear PU RU P21 UN SU hb7u U7 hU7 e0 e1 e2
      go_wp2_with fail
      refine C7.out.mono ?_
      rintro e wa ⟨rfl, hba⟩
      have HBa : Hid (Below A.heap.size A wa) := HB7.out.trans (hba.mono HB7.out.size)
      clear hba C7 HB7
      go_wp2
      go_ret
      exact ⟨rfl, HW0.out.trans (HBa.out.mono HW0.out.size)⟩
  · have hps := PN.out he
    subst hps
    have hrn : ¬ rt = 0 := RN1.out he
    have hrb : (rt == 0) = false := beq_eq_false_iff_ne.2 hrn
    clear RP ST1 PN RN1
    go_wp2_with fail
    refine C3.out.mono ?_
    rintro e w4 ⟨rfl, hb4⟩
    have HB4 : Hid (Below A.heap.size A w4) := HB3.out.trans (hb4.mono HB3.out.size)
    have C4 := Lib.hid (RI1.out w4 HB4.out)
    clear hb4 C3 HB3 RI1 p0 p1 p2 p3 t0 t1
    obtain ⟨⟨p0, p1, p2, p3⟩, t0, t1⟩ := HX.out _ HB4.out
    go_wp2_with fail
    refine C4.out.mono ?_
    rintro e w6 ⟨rfl, hb6⟩
    have HB6 : Hid (Below A.heap.size A w6) := HB4.out.trans (hb6.mono HB4.out.size)
    clear hb6 C4 HB4 p0 p1 p2 p3 t0 t1
    have C6 := Lib.hid (PS.out w6 HB6.out)
    clear PS
    go_wp2_with fail
    refine C6.out.mono ?_
    rintro e w7 ⟨b7, c7, rfl, hB7, hb7⟩
    have HB7' : Hid (Below A.heap.size A w7) := HB6.out.trans (hb7.mono HB6.out.size)
    have U7 := Lib.hid (BxG.new w7 gs.frame (.slice b7 gs.blocks.length c7))
    have HB7 : Hid (Below A.heap.size A (bxG w7 gs.frame (.slice b7 gs.blocks.length c7))) := HB7'.out.trans (U7.out.be.mono HB7'.out.size)
    have hb7u : Hid (BlsW (bxG w7 gs.frame (.slice b7 gs.blocks.length c7)) b7 gs.blocks) := hB7.out.below U7.out.be
    have hU7 := bxG.eq_1 w7 gs.frame (.slice b7 gs.blocks.length c7)
    clear hb7 C6 HB6 HB7' hB7
    by_cases hs0 : es = 0
    · subst hs0
      have hpu := P21.out rfl
      subst hpu
      have C7 := Lib.hid (PU.out b7 c7 _ HB7.out hb7u.out)
      have RU1 := Lib.hid (RU.out rfl)
      rw [hU7] at C7 HB7 hb7u U7
      unfold tgV tgC at C7
      clear PU RU P21 UN
      go_wp2_with fail
      refine C7.out.mono ?_
      rintro e w8 ⟨rfl, hb8⟩
      have HB8 : Hid (Below A.heap.size A w8) := HB7.out.trans (hb8.mono HB7.out.size)
      have hB8 : Hid (BlsW w8 b7 gs.blocks) := hb7u.out.below hb8
      have U8 : Hid (BxG w7 w8 gs.frame (.slice b7 gs.blocks.length c7)) := U7.out.below hb8
      have C8 := Lib.hid (RU1.out w8 HB8.out)
      clear hb8 C7 HB7 RU1 hb7u U7 hU7
      go_wp2_with fail
      refine C8.out.mono ?_
      rintro e w9 ⟨b9, c9, l9, k9, rfl, hB9, hb9⟩
      have HB9' : Hid (Below A.heap.size A w9) := HB8.out.trans (hb9.mono HB8.out.size)
      have V9 := Lib.hid (BxG.new w9 gs.frame (.slice b9 gs.blocks.length c9))
      have HB9 : Hid (Below A.heap.size A (bxG w9 gs.frame (.slice b9 gs.blocks.length c9))) := HB9'.out.trans (V9.out.be.mono HB9'.out.size)
      have U9 : Hid (BxG w7 (bxG w9 gs.frame (.slice b9 gs.blocks.length c9)) gs.frame (.slice b7 gs.blocks.length c7)) := (U8.out.below hb9).below V9.out.be
      have C9 := Lib.hid (SU.out b7 b9 c7 c9 _ ((hB8.out.below hb9).below V9.out.be) (hB9.out.1.below V9.out.be))
      have hU9 := bxG.eq_1 w9 gs.frame (.slice b9 gs.blocks.length c9)
      obtain ⟨u0, u1⟩ := (U8.out.below hb9).cells
      have hs9 : w7.heap.size < w9.heap.size := (U8.out.below hb9).b.lt
      rw [hU9] at C9 HB9
      unfold tgV tgC at C9 ⊢
      clear hb9 C8 HB8 SU hB8 hB9 U8 V9 U9 HB9' hU9
      go_wp2_with fail
      refine C9.out.mono ?_
      rintro e wa ⟨rfl, hba⟩
      have HBa : Hid (Below A.heap.size A wa) := HB9.out.trans (hba.mono HB9.out.size)
      clear hba C9 HB9 u0 u1 hs9
      go_wp2
      go_ret
      exact ⟨rfl, HW0.out.trans (HBa.out.mono HW0.out.size)⟩
    · have hgn := UN.out hs0
      subst hgn
      have C7 := Lib.hid (SU.out b7 none c7 0 _ hb7u.out (noG_bls _))
      rw [noG_val] at C7
      have e0 : noG.frame = 0 := rfl
      have e1 : noG.blocks.length = 0 := rfl
      have e2 : tgV noG b7 c7 = .agg #[.int .i64 0, .slice b7 0 c7] := rfl
      rw [e2] at C7
      rw [e0, e1] at hU7 C7 HB7 hb7u U7 ⊢
      rw [hU7] at C7 HB7
      clear PU RU P21 UN SU hb7u U7 hU7 e0 e1 e2
      go_wp2_with fail
      refine C7.out.mono ?_
      rintro e wa ⟨rfl, hba⟩
      have HBa : Hid (Below A.heap.size A wa) := HB7.out.trans (hba.mono HB7.out.size)
      clear hba C7 HB7
      go_wp2
      go_ret
      exact ⟨rfl, HW0.out.trans (HBa.out.mono HW0.out.size)⟩
end Go.Proofs.YtjmdgbgjleeloaaGreatDoor
