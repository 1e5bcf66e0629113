/-
  Targets that are copied: the kit's CopyTarget. No condition beyond those that each theorem states.
-/
import Derived.Test.YtjahchoaaggkiaaDoorMiV
import Derived.Test.YtjahchoaaggkiaaDoorIrVb
namespace Go.Proofs.YtjahchoaaggkiaaDoor
open Go.RowKit

/-- A target that is copied. -/
structure CTg (w : World) (B : Nat) (t : Gg) (ba : Option Addr) (bc : Nat) (es : List BE) : Prop where
  same : es.map beB = t.blocks
  blocks : CBls w B (.slice ba es.length bc) es
  bn : ba = none → bc = 0
set_option maxHeartbeats 1000000 in
set_option maxRecDepth 100000 in
theorem copyTarget_any (t : Gg) (ba : Option Addr) (bc : Nat) (w : World) (hl : t.blocks.length ≤ 2000) (hl2 : ∀ x ∈ t.blocks, x.ins.length ≤ 2000 ∧ ∀ y ∈ x.ins, y.args.length ≤ 2000) (hB : BlsW w ba t.blocks) :
    Calls Tryd.prog 31 #[tgV t ba bc] w fun e w' => ∃ (da : Option Addr) (bk : Nat) (es : List BE), e = .returned (tgV t da bk) ∧ CTg w' w.heap.size t da bk es ∧ Below w.heap.size w w' := by
  have HX : Hid (Blk ((w.alloc (.cells (tgC t ba bc) 41)).alloc (.cells #[.int .i64 0, .slice none 0 0] 41)) w.heap.size 41 (tgC t ba bc)) := Lib.hid ((Blk.new w _ _).alloc _)
  have HR : Hid (Blk ((w.alloc (.cells (tgC t ba bc) 41)).alloc (.cells #[.int .i64 0, .slice none 0 0] 41)) (w.heap.size + 1) 41 #[.int .i64 0, .slice none 0 0]) := Lib.hid (new_two w _ _ _)
  have HW : Hid (Below w.heap.size w ((w.alloc (.cells (tgC t ba bc) 41)).alloc (.cells #[.int .i64 0, .slice none 0 0] 41))) := Lib.hid (((Below.refl _ w).alloc (Nat.le_refl _) _).alloc (by simp) _)
  have HC := Lib.hid (copyBlocks_any t.blocks ba bc _ hl hl2 (hB.below HW.out))
  have hne : w.heap.size + 1 ≠ w.heap.size := by omega
  clear hB
  unfold tgV tgC
  go_enter Tryd.func31, Tryd.ntmps31
  go_wp2_with fail
  refine HC.out.mono ?_
  rintro e w3 ⟨v3, es, rfl, hes, hrow, hb⟩
  obtain ⟨da, bk, rfl, hn3⟩ := rowB_shape hrow.row
  have hlen : es.length = t.blocks.length := by have := congrArg List.length hes; simpa using this
  rw [hlen] at hrow ⊢
  have HX3 := Lib.hid (HX.out.below hb HX.out.lt)
  have HR3 := Lib.hid (HR.out.below hb HR.out.lt)
  have HW3 : Hid (Below w.heap.size w w3) := Lib.hid (HW.out.trans (hb.mono HW.out.size))
  have HL3 := Lib.hid (hrow.base HW.out.size)
  clear hb hrow HX HR HW HC
  have c0 : w3.cell? ⟨w.heap.size, 0, none⟩ = some (.int .i64 t.frame) := HX3.out.cell 0
  have c1 : w3.cell? ⟨w.heap.size, 1, none⟩ = some (.slice ba t.blocks.length bc) := HX3.out.cell 1
  have f1 : w3.frozen? ⟨w.heap.size, 1, none⟩ = false := HX3.out.free 1
  generalize hR0 : w.heap.size + 1 = R0 at HR3 hne ⊢
  have d0 := HR3.out.cell 0
  have d1 := HR3.out.cell 1
  have g0 := HR3.out.free 0
  have g1 := HR3.out.free 1
  simp at d0 d1
  go_wp2
  obtain ⟨hR9, hK9, hB9⟩ := put_all HX3.out HR3.out hne 1 (.slice da t.blocks.length bk) [.int .i64 t.frame, .slice da t.blocks.length bk] rfl
  have hL9 := HL3.out.keepT (hK9 3 (by decide)) (hK9 27 (by decide)) (hK9 54 (by decide))
  have hW9 := HW3.out.trans (hB9 w.heap.size (Nat.le_refl _) (by omega))
  clear hK9 hB9
  change bodyPost _ _ _ _ _ (putAll (w3.setCell ⟨w.heap.size, 1, none⟩ (.slice da t.blocks.length bk)) R0 0 [.int .i64 t.frame, .slice da t.blocks.length bk])
  generalize putAll (w3.setCell ⟨w.heap.size, 1, none⟩ (.slice da t.blocks.length bk)) R0 0 [.int .i64 t.frame, .slice da t.blocks.length bk] = W9 at hR9 hL9 hW9 ⊢
  refine bodyPost_ret (results_cell_row rfl _ _ R0 41 _ (0, 0) _ (by simp) hR9 Tryd.underlying41 rfl target_size) rfl ?_
  exact ⟨da, bk, es, rfl, ⟨hes, by rw [← hlen] at hL9; exact hL9, hn3⟩, hW9⟩
end Go.Proofs.YtjahchoaaggkiaaDoor
