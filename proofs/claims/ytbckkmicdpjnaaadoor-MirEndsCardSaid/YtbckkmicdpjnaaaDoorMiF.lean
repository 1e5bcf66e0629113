/-
  What an instruction and an end of a target read and write; what is inserted; how great a target is: package mir's own answers. No condition beyond those that each theorem states.
-/
import Derived.Test.YtbckkmicdpjnaaaDoorMiL
import Derived.Test.YtbckkmicdpjnaaaDoorMiD
namespace Go.Proofs.YtbckkmicdpjnaaaDoor
open Go.RowKit

theorem inserted_any (o : Int) (w : World) : Calls Tryd.prog 18 #[.int .i64 o] w fun e w' => e = .returned (.bool (insertedT o)) ∧ w = w' := by
  go_enter Tryd.func18, Tryd.ntmps18
  cases h1 : (o == 15)
  · cases h2 : (o == 16)
    · cases h3 : (o == 17)
      · go_wp2
        go_ret
        exact ⟨by simp [insertedT, h1, h2, h3], rfl⟩
      · go_wp2
        go_ret
        exact ⟨by simp [insertedT, h1, h2, h3], rfl⟩
    · go_wp2
      go_ret
      exact ⟨by simp [insertedT, h1, h2], rfl⟩
  · go_wp2
    go_ret
    exact ⟨by simp [insertedT, h1], rfl⟩
set_option maxHeartbeats 2000000 in
set_option maxRecDepth 100000 in
theorem size_any (t : Gg) (ba : Option Addr) (bc : Nat) (w : World) (hS : SmallG t) (hB : BlsW w ba t.blocks) :
    Calls Tryd.prog 9 #[tgV t ba bc] w fun e w' => e = .returned (.int .i64 (sizeT t)) ∧ Below w.heap.size w w' := by
  have HBL := Lib.hid hB
  have HS := Lib.hid hS
  have hb := hS.b
  have HX0 : Hid (Blk (w.alloc (.cells (tgC t ba bc) 37)) w.heap.size 37 (tgC t ba bc)) := Blk.new w _ _
  have HW0 : Hid (Below w.heap.size w (w.alloc (.cells (tgC t ba bc) 37))) := (Below.refl _ w).alloc (Nat.le_refl _) _
  clear hB hS
  unfold tgV tgC
  go_enter Tryd.func9, Tryd.ntmps9
  go_wp2
  go_loopw [3, 12] (fun v k wr => ∃ (j : Nat) (n : Int), v = .int .i64 n ∧ k = .int .i64 j ∧ j ≤ t.blocks.length ∧ (0 ≤ n ∧ n ≤ 1000000 + j * 1000000) ∧ Hid (sizeT t = n + ((t.blocks.drop j).map fun b => (b.ins.length : Int)).sum) ∧ Below w.heap.size w wr) (fun _ k _ => t.blocks.length - (intOf k).toNat)
  case atStart => exact ⟨0, t.blocks.length, rfl, rfl, Nat.zero_le _, by omega, rfl, HW0.out⟩
  case round =>
    obtain ⟨j, n, rfl, rfl, hj, hn, HA, hB⟩ := hrel
    have HB := Lib.hid hB
    clear hB HX0 HW0
    by_cases hlt : j < t.blocks.length
    · have hlt' : (j : Int) < t.blocks.length := by omega
      have hj0 : (0 : Int) ≤ j := by omega
      obtain ⟨y, hy⟩ : ∃ y, t.blocks[j]? = some y := ⟨_, List.getElem?_eq_getElem hlt⟩
      obtain ⟨g, o, ya, yc, rfl, hg, hc⟩ := (HBL.out.below HB.out) j y hy
      have hyi := (HS.out.i y (List.mem_of_getElem? hy)).1
      have HD : Hid (sizeT t = (n + y.ins.length) + ((t.blocks.drop (j + 1)).map fun b => (b.ins.length : Int)).sum) := by
        show _ = _
        rw [HA.out, List.drop_eq_getElem_cons hlt, (List.getElem?_eq_some_iff.1 hy).2]
        simp [Int.add_assoc]
      have c0 := hc.c0
      have c1 := hc.c1
      have c2 := hc.c2
      have c3 := hc.c3
      have c4 := hc.c4
      have HW2 : Hid (Below wr.heap.size wr (wr.alloc (.cells (blC y ya yc) 34))) := (Below.refl _ wr).alloc (Nat.le_refl _) _
      have hw : IntKind.i64.wrap (n + y.ins.length) = n + y.ins.length := by rw [IntKind.wrap_i64]; omega
      clear hy HA hc
      go_wp2
      go_roundw
      case rel => exact ⟨j + 1, n + y.ins.length, rfl, by go_num, by omega, by omega, HD, HB.out.trans (HW2.out.mono HB.out.size)⟩
      case measure => simp [intOf]; omega
    · have e : j = t.blocks.length := by omega
      subst e
      have hlt' : ¬ (t.blocks.length : Int) < t.blocks.length := by omega
      go_wp2
      go_ret
      refine ⟨?_, HB.out⟩
      rw [HA.out]
      simp
theorem regs_one {w : World} {a : Option Addr} {c : Nat} {x : Int} (hI : IntsW w a [x]) :
    Calls Tryd.prog 39 #[.slice a 1 c] w fun e w' => ∃ v, e = .returned v ∧ OwnL w' w.heap.size v [regL x] ∧ Below w.heap.size w w' := registers_any [x] a c w (by simp) hI
theorem regs_two {w : World} {a : Option Addr} {c : Nat} {x y : Int} (hI : IntsW w a [x, y]) :
    Calls Tryd.prog 39 #[.slice a 2 c] w fun e w' => ∃ v, e = .returned v ∧ OwnL w' w.heap.size v [regL x, regL y] ∧ Below w.heap.size w w' := registers_any [x, y] a c w (by simp) hI
set_option maxHeartbeats 4000000 in
set_option maxRecDepth 100000 in
theorem needs_any (t : Tt) (w : World) : Calls Tryd.prog 16 #[termV t] w fun e w' => ∃ v, e = .returned v ∧ OwnL w' w.heap.size v (needsT t) ∧ Below w.heap.size w w' := by
  have HE := Lib.hid (needsT.eq_1 t)
  have HC := Lib.hid (tmC.eq_1 t)
  have HB : Hid (Below w.heap.size w (w.alloc (.cells (tmC t) 28))) := (Below.refl _ w).alloc (Nat.le_refl _) _
  have HB2 : Hid (Below w.heap.size w ((w.alloc (.cells (tmC t) 28)).alloc (.cells #[.int .i64 t.a] 3))) := Lib.hid (((Below.refl _ w).alloc (Nat.le_refl _) _).alloc (by simp) _)
  have HN := Lib.hid (regs_one (c := 1) (ints_one (blk_at (W := w.alloc (.cells (tmC t) 28)) 3 #[.int .i64 t.a] (show _ = w.heap.size + 1 by simp))))
  rw [HC.out] at HB HB2 HN
  unfold termV
  by_cases h2 : t.kind = 2
  · have q2 : (t.kind == 2) = true := by simp [h2]
    rw [if_pos (.inl h2)] at HE
    clear h2
    go_enter Tryd.func16, Tryd.ntmps16
    go_wp2_with fail
    refine HN.out.mono ?_
    rintro e w1 ⟨v, rfl, ho, hb⟩
    go_wp2
    go_ret
    exact ⟨v, rfl, by rw [HE.out]; exact own_base ho HB2.out.size, HB2.out.trans (hb.mono HB2.out.size)⟩
  have q2 : (t.kind == 2) = false := by simp [h2]
  by_cases h3 : t.kind = 3
  · have q3 : (t.kind == 3) = true := by simp [h3]
    by_cases h4 : t.a = -1
    · have q4 : (t.a != -1) = false := by simp [h4]
      rw [if_neg (by omega)] at HE
      clear h2 h3 h4
      go_enter Tryd.func16, Tryd.ntmps16
      go_wp2
      go_ret
      exact ⟨_, rfl, by rw [HE.out]; exact OwnL.none _ _, HB.out⟩
    · have q4 : (t.a != -1) = true := by simp [h4]
      rw [if_pos (.inr ⟨h3, h4⟩)] at HE
      clear h2 h3 h4
      go_enter Tryd.func16, Tryd.ntmps16
      go_wp2_with fail
      refine HN.out.mono ?_
      rintro e w1 ⟨v, rfl, ho, hb⟩
      go_wp2
      go_ret
      exact ⟨v, rfl, by rw [HE.out]; exact own_base ho HB2.out.size, HB2.out.trans (hb.mono HB2.out.size)⟩
  · have q3 : (t.kind == 3) = false := by simp [h3]
    rw [if_neg (by omega)] at HE
    clear h2 h3
    go_enter Tryd.func16, Tryd.ntmps16
    go_wp2
    go_ret
    exact ⟨_, rfl, by rw [HE.out]; exact OwnL.none _ _, HB.out⟩
end Go.Proofs.YtbckkmicdpjnaaaDoor
