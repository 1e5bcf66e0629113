/-
  What an instruction and an end of a target read and write; what is inserted; how great a target is: package mir's own answers. No condition beyond those that each theorem states.
-/
import Derived.Test.YtbckkmicdpjnaaaDoorMiF
namespace Go.Proofs.YtbckkmicdpjnaaaDoor
open Go.RowKit

set_option maxHeartbeats 4000000 in
set_option maxRecDepth 100000 in
theorem writes_any (m : Mm) (aa sa : Option Addr) (ac sc : Nat) (x : Ii) (a : Option Addr) (c : Nat) (w : World) (hT : TabW w) :
    Calls Tryd.prog 14 #[machV m aa ac sa sc, insV x a c] w fun e w' => ∃ v, e = .returned v ∧ OwnL w' w.heap.size v (writesT m x) ∧ Below w.heap.size w w' := by
  have HT0 := Lib.hid (TwoM.new w m aa sa ac sc x a c)
  have HP := Lib.hid (partsOf_any x.op _ (hT.below HT0.out.be))
  have HE := Lib.hid (writesT.eq_1 m x)
  have V64 := Lib.hid (fun W => have_any x.op 64 W (by unfold KeyB; omega))
  have V32 := Lib.hid (fun W => have_any x.op 32 W (by unfold KeyB; omega))
  have V1 := Lib.hid (fun W => have_any x.op 1 W (by unfold KeyB; omega))
  have HM := Lib.hid (maxC.eq_1 m aa ac sa sc)
  have HC := Lib.hid (insC.eq_1 x a c)
  rw [HM.out, HC.out] at HT0 HP
  generalize partsN x.op = p at *
  generalize hasB x.op 64 = t64 at *
  generalize hasB x.op 32 = t32 at *
  generalize hasB x.op 1 = t1 at *
  clear hT
  unfold machV insV
  rw [HM.out]
  go_enter Tryd.func14, Tryd.ntmps14
  go_wp2_with fail
  refine HP.out.mono ?_
  rintro e w1 ⟨rfl, hb⟩
  have HT := Lib.hid (HT0.out.below hb)
  clear hb HT0 HP
  obtain ⟨d0, d1, d2, d3, d4, d5, d6, d7⟩ := box8 HT.out.ix
  obtain ⟨c0, c1, c2, c3⟩ := boxMa HT.out.mc
  go_wp2_with fail
  refine (V64.out _).mono ?_
  rintro e w2 ⟨rfl, rfl⟩
  cases t64
  case true =>
    rw [if_pos rfl] at HE
    have HB2 := Lib.hid (HT.out.alloc (.cells #[.int .i64 m.ret] 3)).be
    go_wp2_with fail
    refine (regs_one (ints_one (Blk.new _ _ _))).mono ?_
    rintro e w3 ⟨v, rfl, ho, hb⟩
    go_wp2
    go_ret
    exact ⟨v, rfl, by rw [HE.out]; exact own_base ho HB2.out.size, HB2.out.trans (hb.mono HB2.out.size)⟩
  rw [if_neg (by decide)] at HE
  go_wp2_with fail
  refine (V32.out _).mono ?_
  rintro e w2 ⟨rfl, rfl⟩
  cases t32
  case true =>
    rw [if_pos rfl] at HE
    have HO : Hid (OwnL (w1.alloc (.cells #[.bool true, .int .i64 x.imm] 65)) w.heap.size (.slice (some ⟨w1.heap.size, 0, none⟩) 1 1) [(true, x.imm)]) := Lib.hid (OwnL.one (Blk.new _ _ _) HT.out.be.size)
    have HB2 := Lib.hid (HT.out.alloc (.cells #[.bool true, .int .i64 x.imm] 65)).be
    go_wp2
    go_ret
    exact ⟨_, rfl, by rw [HE.out]; exact HO.out, HB2.out⟩
  rw [if_neg (by decide)] at HE
  go_wp2_with fail
  refine (V1.out _).mono ?_
  rintro e w2 ⟨rfl, rfl⟩
  cases t1
  case true =>
    rw [if_pos rfl] at HE
    have HB2 := Lib.hid (HT.out.alloc (.cells #[.int .i64 x.dst] 3)).be
    go_wp2_with fail
    refine (regs_one (ints_one (Blk.new _ _ _))).mono ?_
    rintro e w3 ⟨v, rfl, ho, hb⟩
    go_wp2
    go_ret
    exact ⟨v, rfl, by rw [HE.out]; exact own_base ho HB2.out.size, HB2.out.trans (hb.mono HB2.out.size)⟩
  rw [if_neg (by decide)] at HE
  go_wp2
  go_ret
  exact ⟨_, rfl, by rw [HE.out]; exact OwnL.none _ _, HT.out.be⟩
end Go.Proofs.YtbckkmicdpjnaaaDoor
