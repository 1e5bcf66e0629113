/-
  Package mach's registers, and sets of them: whether some are of a machine, unlike, rising; with more of them, whether they are in it. No condition beyond those that each theorem states.
-/
import Derived.Test.YtfcnclnebnmdiaaMaA
namespace Go.Proofs.Ytfcnclnebnmdiaa
open Go.RowKit

set_option maxHeartbeats 1000000 in
set_option maxRecDepth 100000 in
theorem areRegs_any (m : Mm) (aa sa : Option Addr) (ac sc : Nat) (l : List Int) (a : Option Addr) (c : Nat) (w : World) (hl : l.length ≤ 140737488355328) (hI : IntsW w a l) :
    Calls Try.prog 25 #[machV m aa ac sa sc, .slice a l.length c] w fun e w' => e = .returned (.bool (l.all m.regB)) ∧ Below w.heap.size w w' := by
  have HB0 : Hid (Below w.heap.size w (w.alloc (.cells (maxC m aa ac sa sc) 25))) := (Below.refl _ w).alloc (Nat.le_refl _) _
  have HX0 : Hid (Blk (w.alloc (.cells (maxC m aa ac sa sc) 25)) w.heap.size 25 (maxC m aa ac sa sc)) := Blk.new w _ _
  have HI := Lib.hid hI
  clear hI
  have HM : Hid (maxC m aa ac sa sc = _) := maxC.eq_1 m aa ac sa sc
  unfold machV
  rw [HM.out] at HB0 HX0 ⊢
  go_enter Try.func25, Try.ntmps25
  go_wp2
  go_loopw [9] (fun k wr => ∃ j : Nat, k = .int .i64 j ∧ j ≤ l.length ∧ Hid (l.all m.regB = (l.drop j).all m.regB) ∧ Blk wr w.heap.size 25 (maxC m aa ac sa sc) ∧ Below w.heap.size w wr) (fun k _ => l.length - (intOf k).toNat)
  case atStart => exact ⟨0, rfl, Nat.zero_le _, rfl, by rw [HM.out]; exact HX0.out, HB0.out⟩
  case round =>
    obtain ⟨j, rfl, hj, HA, hX, hB⟩ := hrel
    have HX := Lib.hid hX
    have HB := Lib.hid hB
    clear hX hB HX0 HB0
    by_cases hlt : j < l.length
    · have hlt' : (j : Int) < l.length := by omega
      have hj0 : (0 : Int) ≤ j := by omega
      obtain ⟨x, hx⟩ : ∃ x, l[j]? = some x := ⟨_, List.getElem?_eq_getElem hlt⟩
      obtain ⟨g, o, rfl, hg, h0⟩ := (HI.out.below HB.out) j x hx
      have HD : Hid (l.all m.regB = (m.regB x && (l.drop (j + 1)).all m.regB)) := by
        show _ = _
        rw [HA.out, List.drop_eq_getElem_cons hlt, (List.getElem?_eq_some_iff.1 hx).2]
        rfl
      clear hx HA
      obtain ⟨c0, _, _, _⟩ := boxMa HX.out
      by_cases h1 : x < 0
      · go_wp2
        go_ret
        exact ⟨by rw [HD.out]; simp [Mm.regB]; intro h; omega, HB.out⟩
      · by_cases h2 : m.regs ≤ x
        · go_wp2
          go_ret
          exact ⟨by rw [HD.out]; simp [Mm.regB]; intro h h'; omega, HB.out⟩
        · have HE : Hid (l.all m.regB = (l.drop (j + 1)).all m.regB) := by
            show _ = _
            rw [HD.out]
            have : m.regB x = true := by simp [Mm.regB]; omega
            rw [this]
            rfl
          go_wp2
          go_roundw
          case rel => exact ⟨j + 1, by go_num, by omega, HE, HX.out, HB.out⟩
          case measure => simp [intOf]; omega
    · have e : j = l.length := by omega
      subst e
      go_wp2
      go_ret
      exact ⟨by rw [HA.out]; simp, HB.out⟩

set_option maxHeartbeats 1000000 in
set_option maxRecDepth 100000 in
theorem rise_any (l : List Int) (a : Option Addr) (c : Nat) (w : World) (hl : l.length ≤ 140737488355328) (hI : IntsW w a l) :
    Calls Try.prog 27 #[.slice a l.length c] w fun e w' => e = .returned (.bool (riseB l)) ∧ Below w.heap.size w w' := by
  have HI := Lib.hid hI
  clear hI
  go_enter Try.func27, Try.ntmps27
  go_wp2
  go_loopw [3] (fun k wr => ∃ i : Int, k = .int .i64 i ∧ 1 ≤ i ∧ (i ≤ l.length ∨ i = 1) ∧ Hid (riseB l = riseB (l.drop (i - 1).toNat)) ∧ Below w.heap.size w wr) (fun k _ => l.length + 1 - (intOf k).toNat)
  case atStart => exact ⟨1, rfl, Int.le_refl _, .inr rfl, rfl, Below.refl _ _⟩
  case round =>
    obtain ⟨i, rfl, hi1, hi2, HA, hB⟩ := hrel
    have HB := Lib.hid hB
    clear hB
    by_cases hlt : i < l.length
    · have hm0 : 0 ≤ i := by omega
      have hm1 : 0 ≤ i - 1 := by omega
      have hm2 : i - 1 < l.length := by omega
      have hbig : i ≤ 140737488355328 := by omega
      have hwr : IntKind.i64.wrap (i - 1) = i - 1 := by rw [IntKind.wrap_i64]; omega
      obtain ⟨x, hx⟩ : ∃ x, l[(i - 1).toNat]? = some x := ⟨_, List.getElem?_eq_getElem (by omega)⟩
      obtain ⟨y, hy⟩ : ∃ y, l[i.toNat]? = some y := ⟨_, List.getElem?_eq_getElem (by omega)⟩
      obtain ⟨g, o, rfl, hg, h0⟩ := (HI.out.below HB.out) _ x hx
      obtain ⟨g', o', e, _, h1⟩ := (HI.out.below HB.out) _ y hy
      simp only [Option.some.injEq, Addr.mk.injEq, and_true] at e
      obtain ⟨rfl, rfl⟩ := e
      rw [show (i - 1).toNat = i.toNat - 1 by omega] at h0
      have HD : Hid (riseB l = (decide (x < y) && riseB (l.drop (i + 1 - 1).toNat))) := by
        show _ = _
        have e1 : (i - 1).toNat < l.length := by omega
        have e2 : (i - 1).toNat + 1 = i.toNat := by omega
        have e3 : i.toNat < l.length := by omega
        have e4 : (i + 1 - 1).toNat = i.toNat := by omega
        rw [HA.out, e4, List.drop_eq_getElem_cons e1, (List.getElem?_eq_some_iff.1 hx).2, e2, List.drop_eq_getElem_cons e3, (List.getElem?_eq_some_iff.1 hy).2]
        rfl
      clear hx hy HA
      by_cases h2 : y ≤ x
      · go_wp2
        go_quiet (fail)
        go_wp2
        go_ret
        exact ⟨by rw [HD.out]; simp; intro h; omega, below_draws HB.out _⟩
      · have HE : Hid (riseB l = riseB (l.drop (i + 1 - 1).toNat)) := by
          show _ = _
          rw [HD.out]
          simp
          intro h
          omega
        go_wp2
        go_quiet (fail)
        go_wp2
        go_roundw
        case rel => exact ⟨i + 1, by go_num, by omega, by omega, HE, below_draws HB.out _⟩
        case measure => simp [intOf]; omega
    · have HE : Hid (riseB l = true) := by
        show _ = _
        rw [HA.out]
        have : (l.drop (i - 1).toNat).length ≤ 1 := by simp; omega
        match l.drop (i - 1).toNat, this with
        | [], _ => rfl
        | [_], _ => rfl
      go_wp2
      go_ret
      exact ⟨by rw [HE.out]; rfl, HB.out⟩
end Go.Proofs.Ytfcnclnebnmdiaa
