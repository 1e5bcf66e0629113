/-
  What an instruction and an end of a target read and write; what is inserted; how great a target is: package mir's own answers. No condition beyond those that each theorem states.
-/
import Derived.Test.YtbckkmicdpjnaaaDoorMiF
namespace Go.Proofs.YtbckkmicdpjnaaaDoor
open Go.RowKit

theorem many_nat (m : Mm) (x : Ii) : ∃ k : Nat, manyT m x = k ∧ k ≤ m.args.length ∧ (manyT m x).toNat = k := by
  unfold manyT
  refine ⟨(min (max x.many 0) (m.args.length : Int)).toNat, ?_, ?_, rfl⟩ <;> omega
theorem ints_take {w : World} {a : Option Addr} {l : List Int} (h : IntsW w a l) (k : Nat) : IntsW w a (l.take k) := fun i x hx => h i x (by
  rw [List.getElem?_take] at hx
  split at hx
  · exact hx
  · cases hx)
set_option maxHeartbeats 4000000 in
set_option maxRecDepth 100000 in
theorem reads_any (m : Mm) (aa sa : Option Addr) (ac sc : Nat) (x : Ii) (a : Option Addr) (c : Nat) (w : World) (hl : m.args.length ≤ 1000000) (hroom : m.args.length ≤ ac) (hna : aa = none → ac = 0) (hM : IntsW w aa m.args) (hT : TabW w) :
    Calls Tryd.prog 12 #[machV m aa ac sa sc, insV x a c] w fun e w' => ∃ v, e = .returned v ∧ OwnL w' w.heap.size v (readsT m x) ∧ Below w.heap.size w w' := by
  have HT0 := Lib.hid (TwoM.new w m aa sa ac sc x a c)
  have HP := Lib.hid (partsOf_any x.op _ (hT.below HT0.out.be))
  have HE := Lib.hid (readsT.eq_1 m x)
  have V64 := Lib.hid (fun W => have_any x.op 64 W (by unfold KeyB; omega))
  have V16 := Lib.hid (fun W => have_any x.op 16 W (by unfold KeyB; omega))
  have V4 := Lib.hid (fun W => have_any x.op 4 W (by unfold KeyB; omega))
  have V2 := Lib.hid (fun W => have_any x.op 2 W (by unfold KeyB; omega))
  have HM := Lib.hid (maxC.eq_1 m aa ac sa sc)
  have HC := Lib.hid (insC.eq_1 x a c)
  have HI := Lib.hid hM
  rw [HM.out, HC.out] at HT0 HP
  generalize partsN x.op = p at *
  generalize hasB x.op 64 = t64 at *
  generalize hasB x.op 16 = t16 at *
  generalize hasB x.op 4 = t4 at *
  generalize hasB x.op 2 = t2 at *
  clear hT hM
  unfold machV insV
  rw [HM.out]
  go_enter Tryd.func12, Tryd.ntmps12
  go_wp2_with fail
  refine HP.out.mono ?_
  rintro e w1 ⟨rfl, hb⟩
  have HT := Lib.hid (HT0.out.below hb)
  clear hb HT0 HP
  obtain ⟨d0, d1, d2, d3, d4, d5, d6, d7⟩ := box8 HT.out.ix
  obtain ⟨c0, c1, c2, c3⟩ := boxMa HT.out.mc
  go_wp2_with fail
  refine (V64.out _).mono ?_
  rintro e w2 ⟨rfl, rfl⟩
  cases t64
  case true =>
    rw [if_pos rfl] at HE
    obtain ⟨k, hk1, hk2, hk3⟩ := many_nat m x
    rw [hk3] at HE
    have hk6 : (if (m.args.length : Int) < (if x.many < 0 then 0 else x.many) then (m.args.length : Int) else if x.many < 0 then 0 else x.many) = (k : Int) := by
      rw [← hk1]
      unfold manyT
      by_cases h1 : x.many < 0
      · simp only [if_pos h1]
        split <;> omega
      · simp only [if_neg h1]
        split <;> omega
    clear hk1
    have hk4 : (k : Int) ≤ ac := by omega
    have hk5 : (0 : Int) ≤ k := by omega
    have HR := Lib.hid (registers_any (m.args.take k) aa ac w1 (by rw [List.length_take]; omega) (ints_take (HI.out.below HT.out.be) k))
    rw [show (m.args.take k).length = k by rw [List.length_take]; omega] at HR
    clear hk3
    go_upto_region 4 with fail
    clear hk6
    cases aa with
    | none =>
      have hac := hna rfl
      subst hac
      have hk0 : k = 0 := by omega
      subst hk0
      go_wp2_with fail
      all_goals
        refine HR.out.mono ?_
        rintro e w3 ⟨v, rfl, ho, hb⟩
        go_wp2
        go_ret
        exact ⟨v, rfl, by rw [HE.out]; exact own_base ho HT.out.be.size, HT.out.be.trans (hb.mono HT.out.be.size)⟩
    | some ad =>
      go_wp2_with fail
      all_goals
        refine HR.out.mono ?_
        rintro e w3 ⟨v, rfl, ho, hb⟩
        go_wp2
        go_ret
        exact ⟨v, rfl, by rw [HE.out]; exact own_base ho HT.out.be.size, HT.out.be.trans (hb.mono HT.out.be.size)⟩
  rw [if_neg (by decide)] at HE
  go_wp2_with fail
  refine (V16.out _).mono ?_
  rintro e w2 ⟨rfl, rfl⟩
  cases t16
  case true =>
    rw [if_pos rfl] at HE
    have HO : Hid (OwnL (w1.alloc (.cells #[.bool true, .int .i64 x.imm] 65)) w.heap.size (.slice (some ⟨w1.heap.size, 0, none⟩) 1 1) [(true, x.imm)]) := Lib.hid (OwnL.one (Blk.new _ _ _) HT.out.be.size)
    have HB2 := Lib.hid (HT.out.alloc (.cells #[.bool true, .int .i64 x.imm] 65)).be
    go_wp2
    go_ret
    exact ⟨_, rfl, by rw [HE.out]; exact HO.out, HB2.out⟩
  rw [if_neg (by decide)] at HE
  go_wp2_with fail
  refine (V4.out _).mono ?_
  rintro e w2 ⟨rfl, rfl⟩
  cases t4
  case true =>
    rw [if_pos rfl] at HE
    have HB2 := Lib.hid (HT.out.alloc (.cells #[.int .i64 x.a, .int .i64 x.b] 3)).be
    go_wp2_with fail
    refine (regs_two (ints_two (Blk.new _ _ _))).mono ?_
    rintro e w3 ⟨v, rfl, ho, hb⟩
    go_wp2
    go_ret
    exact ⟨v, rfl, by rw [HE.out]; exact own_base ho HB2.out.size, HB2.out.trans (hb.mono HB2.out.size)⟩
  rw [if_neg (by decide)] at HE
  go_wp2_with fail
  refine (V2.out _).mono ?_
  rintro e w2 ⟨rfl, rfl⟩
  cases t2
  case true =>
    rw [if_pos rfl] at HE
    have HB2 := Lib.hid (HT.out.alloc (.cells #[.int .i64 x.a] 3)).be
    go_wp2_with fail
    refine (regs_one (ints_one (Blk.new _ _ _))).mono ?_
    rintro e w3 ⟨v, rfl, ho, hb⟩
    go_wp2
    go_ret
    exact ⟨v, rfl, by rw [HE.out]; exact own_base ho HB2.out.size, HB2.out.trans (hb.mono HB2.out.size)⟩
  rw [if_neg (by decide)] at HE
  go_wp2
  go_ret
  exact ⟨_, rfl, by rw [HE.out]; exact OwnL.none _ _, HT.out.be⟩
end Go.Proofs.YtbckkmicdpjnaaaDoor
