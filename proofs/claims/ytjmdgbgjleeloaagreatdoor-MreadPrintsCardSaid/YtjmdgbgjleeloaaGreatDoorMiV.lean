/-
  Targets that are lent, compared, and looked at again: the kit's LentTarget, SameTarget, KeptTarget. No condition beyond those that each theorem states.
-/
import Derived.Test.YtjmdgbgjleeloaaGreatDoorPk7
import Derived.Test.YtjmdgbgjleeloaaGreatDoorPk22
import Derived.Test.YtjmdgbgjleeloaaGreatDoorIrQd
import Derived.Test.YtjmdgbgjleeloaaGreatDoorIrQf
namespace Go.Proofs.YtjmdgbgjleeloaaGreatDoor
open Go.RowKit

theorem target_size : (Tryz.prog.info? 24).map (·.size) = some 2 := by kernel_rfl
/-- A target that is lent. -/
structure LTg (w : World) (B : Nat) (t : Gg) (bg bc : Nat) (es : List BE) : Prop where
  same : es.map beB = t.blocks
  blocks : LBls w B bg bc es
theorem LTg.below {w w' : World} {B : Nat} {t : Gg} {bg bc : Nat} {es : List BE} (h : LTg w B t bg bc es) (hb : Below w.heap.size w w') : LTg w' B t bg bc es :=
  ⟨h.same, h.blocks.keepT fun t => KeepT.below hb t⟩
theorem LTg.bls {w : World} {B : Nat} {t : Gg} {bg bc : Nat} {es : List BE} (h : LTg w B t bg bc es) : BlsW w (some ⟨bg, 0, none⟩) t.blocks := by
  rw [← h.same]
  exact h.blocks.bls
set_option maxHeartbeats 1000000 in
set_option maxRecDepth 100000 in
theorem lentTarget_any (t : Gg) (ba : Option Addr) (bc : Nat) (w : World) (hl : t.blocks.length ≤ 2000) (hl2 : ∀ x ∈ t.blocks, x.ins.length ≤ 2000 ∧ ∀ y ∈ x.ins, y.args.length ≤ 2000) (hB : BlsW w ba t.blocks) :
    Calls Tryz.prog 10 #[tgV t ba bc] w fun e w' => ∃ (bg bk : Nat) (es : List BE), e = .returned (tgV t (some ⟨bg, 0, none⟩) bk) ∧ LTg w' w.heap.size t bg bk es ∧ Below w.heap.size w w' := by
  have HX : Hid (Blk ((w.alloc (.cells (tgC t ba bc) 24)).alloc (.cells #[.int .i64 0, .slice none 0 0] 24)) w.heap.size 24 (tgC t ba bc)) := Lib.hid ((Blk.new w _ _).alloc _)
  have HR : Hid (Blk ((w.alloc (.cells (tgC t ba bc) 24)).alloc (.cells #[.int .i64 0, .slice none 0 0] 24)) (w.heap.size + 1) 24 #[.int .i64 0, .slice none 0 0]) := Lib.hid (new_two w _ _ _)
  have HW : Hid (Below w.heap.size w ((w.alloc (.cells (tgC t ba bc) 24)).alloc (.cells #[.int .i64 0, .slice none 0 0] 24))) := Lib.hid (((Below.refl _ w).alloc (Nat.le_refl _) _).alloc (by simp) _)
  have HC := Lib.hid (lentBlocks_any t.blocks ba bc _ hl hl2 (hB.below HW.out))
  have hne : w.heap.size + 1 ≠ w.heap.size := by omega
  clear hB
  unfold tgV tgC
  go_enter Tryz.func10, Tryz.ntmps10
  go_wp2_with fail
  refine HC.out.mono ?_
  rintro e w3 ⟨bg, bk, es, rfl, hes, hrow, hb⟩
  have HX3 := Lib.hid (HX.out.below hb HX.out.lt)
  have HR3 := Lib.hid (HR.out.below hb HR.out.lt)
  have HW3 : Hid (Below w.heap.size w w3) := Lib.hid (HW.out.trans (hb.mono HW.out.size))
  have HL3 := Lib.hid (hrow.base HW.out.size)
  clear hb hrow HX HR HW HC
  have c0 : w3.cell? ⟨w.heap.size, 0, none⟩ = some (.int .i64 t.frame) := HX3.out.cell 0
  have c1 : w3.cell? ⟨w.heap.size, 1, none⟩ = some (.slice ba t.blocks.length bc) := HX3.out.cell 1
  have f1 : w3.frozen? ⟨w.heap.size, 1, none⟩ = false := HX3.out.free 1
  generalize hR0 : w.heap.size + 1 = R0 at HR3 hne ⊢
  have d0 := HR3.out.cell 0
  have d1 := HR3.out.cell 1
  have g0 := HR3.out.free 0
  have g1 := HR3.out.free 1
  simp at d0 d1
  go_wp2
  obtain ⟨hR9, hK9, hB9⟩ := put_all HX3.out HR3.out hne 1 (.slice (some ⟨bg, 0, none⟩) t.blocks.length bk) [.int .i64 t.frame, .slice (some ⟨bg, 0, none⟩) t.blocks.length bk] rfl
  have hL9 := keep_blocks HL3.out (hK9 3 (by decide)) (hK9 46 (by decide)) (hK9 53 (by decide))
  have hW9 := HW3.out.trans (hB9 w.heap.size (Nat.le_refl _) (by omega))
  clear hK9 hB9
  change bodyPost _ _ _ _ _ (putAll (w3.setCell ⟨w.heap.size, 1, none⟩ (.slice (some ⟨bg, 0, none⟩) t.blocks.length bk)) R0 0 [.int .i64 t.frame, .slice (some ⟨bg, 0, none⟩) t.blocks.length bk])
  generalize putAll (w3.setCell ⟨w.heap.size, 1, none⟩ (.slice (some ⟨bg, 0, none⟩) t.blocks.length bk)) R0 0 [.int .i64 t.frame, .slice (some ⟨bg, 0, none⟩) t.blocks.length bk] = W9 at hR9 hL9 hW9 ⊢
  refine bodyPost_ret (results_cell_row rfl _ _ R0 24 _ (0, 0) _ (by simp) hR9 Tryz.underlying24 rfl target_size) rfl ?_
  exact ⟨bg, bk, es, rfl, ⟨hes, hL9⟩, hW9⟩
set_option maxHeartbeats 1000000 in
set_option maxRecDepth 100000 in
theorem sameTarget_same (t : Gg) (ba ba' : Option Addr) (bc bc' : Nat) (w : World) (hs : SmallG t) (hF : BlsW w ba t.blocks) (hG : BlsW w ba' t.blocks) :
    Calls Tryz.prog 16 #[tgV t ba bc, tgV t ba' bc'] w fun e w' => e = .returned (.bool true) ∧ Below w.heap.size w w' := by
  have HX : Hid (Blk ((w.alloc (.cells (tgC t ba bc) 24)).alloc (.cells (tgC t ba' bc') 24)) w.heap.size 24 (tgC t ba bc)) := Lib.hid ((Blk.new w _ _).alloc _)
  have HY : Hid (Blk ((w.alloc (.cells (tgC t ba bc) 24)).alloc (.cells (tgC t ba' bc') 24)) (w.heap.size + 1) 24 (tgC t ba' bc')) := Lib.hid (new_two w _ _ _)
  have HW : Hid (Below w.heap.size w ((w.alloc (.cells (tgC t ba bc) 24)).alloc (.cells (tgC t ba' bc') 24))) := Lib.hid (((Below.refl _ w).alloc (Nat.le_refl _) _).alloc (by simp) _)
  have HC := Lib.hid (sameBlocks_same t.blocks ba ba' bc bc' _ hs.b hs.i (hF.below HW.out) (hG.below HW.out))
  obtain ⟨c0, c1⟩ := boxG HX.out
  obtain ⟨d0, d1⟩ := boxG HY.out
  clear hF hG hs HX HY
  unfold tgC at HC HW c0 c1 d0 d1
  unfold tgV tgC
  go_enter Tryz.func16, Tryz.ntmps16
  go_wp2_with fail
  refine HC.out.mono ?_
  rintro e w2 ⟨rfl, hb⟩
  have HW2 : Hid (Below w.heap.size w w2) := Lib.hid (HW.out.trans (hb.mono HW.out.size))
  clear hb HC HW c0 c1 d0 d1
  go_wp2
  go_ret
  exact ⟨rfl, HW2.out⟩
set_option maxHeartbeats 1000000 in
set_option maxRecDepth 100000 in
theorem keptTarget_any (t : Gg) (bg bk : Nat) (es : List BE) (B : Nat) (ba : Option Addr) (bc : Nat) (w : World) (hl : t.blocks.length ≤ 2000) (hl2 : ∀ x ∈ t.blocks, x.ins.length ≤ 2000 ∧ ∀ y ∈ x.ins, y.args.length ≤ 2000) (hL : LTg w B t bg bk es) (hF : BlsW w ba t.blocks) :
    Calls Tryz.prog 13 #[tgV t (some ⟨bg, 0, none⟩) bk, tgV t ba bc] w fun e w' => e = .returned (.bool true) ∧ Below w.heap.size w w' := by
  have HX : Hid (Blk ((w.alloc (.cells (tgC t (some ⟨bg, 0, none⟩) bk) 24)).alloc (.cells (tgC t ba bc) 24)) w.heap.size 24 (tgC t (some ⟨bg, 0, none⟩) bk)) := Lib.hid ((Blk.new w _ _).alloc _)
  have HY : Hid (Blk ((w.alloc (.cells (tgC t (some ⟨bg, 0, none⟩) bk) 24)).alloc (.cells (tgC t ba bc) 24)) (w.heap.size + 1) 24 (tgC t ba bc)) := Lib.hid (new_two w _ _ _)
  have HW : Hid (Below w.heap.size w ((w.alloc (.cells (tgC t (some ⟨bg, 0, none⟩) bk) 24)).alloc (.cells (tgC t ba bc) 24))) := Lib.hid (((Below.refl _ w).alloc (Nat.le_refl _) _).alloc (by simp) _)
  have HC := Lib.hid (sameTarget_same t (some ⟨bg, 0, none⟩) ba bk bc _ ⟨by omega, fun x hx => ⟨by have := (hl2 x hx).1; omega, fun y hy => by have := (hl2 x hx).2 y hy; omega⟩⟩ (hL.bls.below HW.out) (hF.below HW.out))
  have HL := Lib.hid hL
  have HF := Lib.hid hF
  have HL2 := Lib.hid hl2
  obtain ⟨c0, c1⟩ := boxG HX.out
  obtain ⟨d0, d1⟩ := boxG HY.out
  unfold tgV tgC at HC ⊢
  clear hL hF hl2
  go_enter Tryz.func13, Tryz.ntmps13
  go_wp2_with fail
  refine HC.out.mono ?_
  rintro e w1 ⟨rfl, hb⟩
  have HX1 := Lib.hid (HX.out.below hb HX.out.lt)
  have HY1 := Lib.hid (HY.out.below hb HY.out.lt)
  have HW1 : Hid (Below w.heap.size w w1) := Lib.hid (HW.out.trans (hb.mono HW.out.size))
  clear hb HX HY HW HC c0 c1 d0 d1
  obtain ⟨c0, c1⟩ := boxG HX1.out
  obtain ⟨d0, d1⟩ := boxG HY1.out
  have HC := Lib.hid (keptBlocks_any t.blocks es B bg bk ba bc w1 hl HL2.out HL.out.same (HL.out.below HW1.out).blocks (HF.out.below HW1.out))
  go_wp2_with fail
  refine HC.out.mono ?_
  rintro e w3 ⟨rfl, hb⟩
  have HW3 : Hid (Below w.heap.size w w3) := Lib.hid (HW1.out.trans (hb.mono HW1.out.size))
  clear hb HC c0 c1 d0 d1
  go_wp2
  go_ret
  exact ⟨rfl, HW3.out⟩
end Go.Proofs.YtjmdgbgjleeloaaGreatDoor
