/-
  Whether two machines are the same: of one machine that lies twice. No condition beyond those that each theorem states.
-/
import Derived.Test.YtkfplffcegbdfaaGreatDoorPk11
namespace Go.Proofs.YtkfplffcegbdfaaGreatDoor
open Go.RowKit

set_option maxHeartbeats 4000000 in
set_option maxRecDepth 100000 in
theorem sameM_any (m : Mm) (aa sa aa' sa' : Option Addr) (ac sc ac' sc' : Nat) (w : World) (hl : m.args.length ≤ 1000000000) (hs : m.saved.length ≤ 1000000000) (hM : MaW w m aa sa) (hM' : MaW w m aa' sa') :
    Calls Tryz.prog 39 #[machV m aa ac sa sc, machV m aa' ac' sa' sc'] w fun e w' => e = .returned (.bool true) ∧ Below w.heap.size w w' := by
  have hb2 : Below w.heap.size w ((w.alloc (.cells (maxC m aa ac sa sc) 24)).alloc (.cells (maxC m aa' ac' sa' sc') 24)) := ((Below.refl _ w).alloc (Nat.le_refl _) _).alloc (by simp) _
  have HX : Hid (Blk ((w.alloc (.cells (maxC m aa ac sa sc) 24)).alloc (.cells (maxC m aa' ac' sa' sc') 24)) w.heap.size 24 (maxC m aa ac sa sc)) := (Blk.new w _ _).alloc _
  have HY : Hid (Blk ((w.alloc (.cells (maxC m aa ac sa sc) 24)).alloc (.cells (maxC m aa' ac' sa' sc') 24)) (w.heap.size + 1) 24 (maxC m aa' ac' sa' sc')) := by
    have := Blk.new (w.alloc (.cells (maxC m aa ac sa sc) 24)) 24 (maxC m aa' ac' sa' sc')
    rw [show (w.alloc (.cells (maxC m aa ac sa sc) 24)).heap.size = w.heap.size + 1 by simp] at this
    exact this
  have HB := Lib.hid hb2
  have S1 : Hid (∀ w1, Below ((w.alloc (.cells (maxC m aa ac sa sc) 24)).alloc (.cells (maxC m aa' ac' sa' sc') 24)).heap.size ((w.alloc (.cells (maxC m aa ac sa sc) 24)).alloc (.cells (maxC m aa' ac' sa' sc') 24)) w1 → Calls Tryz.prog 14 #[.slice aa m.args.length ac, .slice aa' m.args.length ac'] w1 fun e w' => e = .returned (.bool true) ∧ Below w1.heap.size w1 w') := fun w1 h => by
    have := sameInts_any m.args m.args aa aa' ac ac' w1 hl hl ((hM.args.below hb2).below h) ((hM'.args.below hb2).below h)
    rw [decide_eq_true rfl] at this
    exact this
  have S2 : Hid (∀ w1, Below ((w.alloc (.cells (maxC m aa ac sa sc) 24)).alloc (.cells (maxC m aa' ac' sa' sc') 24)).heap.size ((w.alloc (.cells (maxC m aa ac sa sc) 24)).alloc (.cells (maxC m aa' ac' sa' sc') 24)) w1 → Calls Tryz.prog 14 #[.slice sa m.saved.length sc, .slice sa' m.saved.length sc'] w1 fun e w' => e = .returned (.bool true) ∧ Below w1.heap.size w1 w') := fun w1 h => by
    have := sameInts_any m.saved m.saved sa sa' sc sc' w1 hs hs ((hM.saved.below hb2).below h) ((hM'.saved.below hb2).below h)
    rw [decide_eq_true rfl] at this
    exact this
  have HM : Hid (maxC m aa ac sa sc = _) := maxC.eq_1 m aa ac sa sc
  have HM' : Hid (maxC m aa' ac' sa' sc' = _) := maxC.eq_1 m aa' ac' sa' sc'
  obtain ⟨c0, c1, c2, c3⟩ := boxMa HX.out
  obtain ⟨d0, d1, d2, d3⟩ := boxMa HY.out
  unfold machV
  rw [HM.out, HM'.out] at HB HX HY S1 S2 c0 c1 c2 c3 d0 d1 d2 d3
  rw [HM.out, HM'.out]
  clear hM hM' hb2
  go_enter Tryz.func39, Tryz.ntmps39
  go_wp2_with fail
  refine (S1.out _ (Below.refl _ _)).mono ?_
  rintro e w1 ⟨rfl, hb⟩
  have S3 := Lib.hid (S2.out w1 hb)
  have e0 := hb.cell (p := ⟨w.heap.size, 3, none⟩) HX.out.lt
  have e1 := hb.cell (p := ⟨w.heap.size + 1, 3, none⟩) HY.out.lt
  rw [c3] at e0
  rw [d3] at e1
  have B1 : Hid (Below w.heap.size w w1) := HB.out.trans (hb.mono HB.out.size)
  clear hb S1 S2 HX HY c0 c1 c2 c3 d0 d1 d2 d3 HB
  go_wp2_with fail
  refine S3.out.mono ?_
  rintro e w2 ⟨rfl, hb⟩
  have B2 : Hid (Below w.heap.size w w2) := B1.out.trans (hb.mono B1.out.size)
  clear hb
  go_wp2
  go_ret
  exact ⟨rfl, B2.out⟩
theorem told_small (s : ByteArray) (h : s.size ≤ 100000) : (toldM (startC s)).args.length ≤ 1000000000 ∧ (toldM (startC s)).saved.length ≤ 1000000000 := by
  have h1 := got_len (startC s)
  have h2 := start_few s
  unfold toldM
  split
  · omega
  · exact ⟨by simp [noM], by simp [noM]⟩
end Go.Proofs.YtkfplffcegbdfaaGreatDoor
