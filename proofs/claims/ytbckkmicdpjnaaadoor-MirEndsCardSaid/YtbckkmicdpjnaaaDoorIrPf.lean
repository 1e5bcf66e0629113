/-
  Numbers that were lent are as they were, behind them too. No condition beyond those that each theorem states.
-/
import Derived.Test.YtbckkmicdpjnaaaDoorIrPe
import Derived.Deep.QuietTactic
import Derived.BigQuiet
import Derived.IntWalk
namespace Go.Proofs.YtbckkmicdpjnaaaDoor
open Go.RowKit

set_option maxHeartbeats 4000000 in
set_option maxRecDepth 100000 in
theorem keptInts_any (l : List Int) (g cap : Nat) (a : Option Addr) (c : Nat) (w : World) (hl : l.length ≤ 100000) (hcap : l.length + 12 ≤ cap) (hI : IntsW w a l) (hO : IntsW w (some ⟨g, 0, none⟩) (l ++ markL 1 12)) :
    Calls Tryd.prog 26 #[.slice (some ⟨g, 0, none⟩) l.length cap, .slice a l.length c] w fun e w' => e = .returned (.bool true) ∧ Below w.heap.size w w' := by
  have HI := Lib.hid hI
  have HO := Lib.hid hO
  clear hI hO
  have hm : (0 : Int) ≤ (l.length : Int) + 12 := by omega
  have hc1 : (l.length : Int) + 12 ≤ cap := by omega
  have ht : ((l.length : Int) + 12).toNat = l.length + 12 := by omega
  go_enter Tryd.func26, Tryd.ntmps26
  go_wp2
  go_loopw [6] (fun k wr => ∃ j : Nat, k = .int .i64 j ∧ j ≤ l.length + 12 ∧ Below w.heap.size w wr) (fun k _ => l.length + 12 - (intOf k).toNat)
  case atStart => exact ⟨0, rfl, Nat.zero_le _, Below.refl _ _⟩
  case round =>
    obtain ⟨j, rfl, hj, hW⟩ := hrel
    have HW := Lib.hid hW
    clear hW
    have hj0 : (0 : Int) ≤ j := by omega
    by_cases h1 : j < l.length
    · have hlt' : (j : Int) < (l.length : Int) + 12 := by omega
      have hlt2 : (j : Int) < ((l.length + 12 : Nat) : Int) := by omega
      have h1' : (j : Int) < l.length := by omega
      have h2' : decide ((l.length : Int) ≤ j) = false := by simp; omega
      have h2b : decide (l.length ≤ j) = false := by simp; omega
      obtain ⟨x, hx⟩ : ∃ x, l[j]? = some x := ⟨_, List.getElem?_eq_getElem h1⟩
      obtain ⟨g1, o1, rfl, hg1, c1⟩ := (HI.out.below HW.out) j x hx
      obtain ⟨g2, o2, he, hg2, c2⟩ := (HO.out.below HW.out) j x (by rw [List.getElem?_append_left h1]; exact hx)
      injection he with he
      injection he with he1 he2
      subst he1
      subst he2
      rw [Nat.zero_add] at c2
      have q : (x == x) = true := by simp
      clear hx
      go_wp2_with fail
      go_quiet (fail)
      go_wp2
      go_roundw
      case rel => exact ⟨j + 1, by go_num, by omega, below_drewN HW.out _⟩
      case measure => simp [intOf]; omega
    · by_cases h2 : j < l.length + 12
      · have hlt' : (j : Int) < (l.length : Int) + 12 := by omega
        have hlt2 : (j : Int) < ((l.length + 12 : Nat) : Int) := by omega
        have h1' : decide ((j : Int) < l.length) = false := by simp; omega
        have h1b : decide (j < l.length) = false := by simp; omega
        have h2' : (l.length : Int) ≤ j := by omega
        obtain ⟨d, hd⟩ : ∃ d : Nat, j = l.length + d := ⟨j - l.length, by omega⟩
        have hd2 : d < 12 := by omega
        have hs : IntKind.i64.wrap ((j : Int) - l.length) = (d : Int) := by rw [IntWalk.i64_in _ (by omega)]; omega
        have hs0 : (0 : Int) ≤ (d : Int) := by omega
        obtain ⟨g2, o2, he, hg2, c2⟩ := (HO.out.below HW.out) j (1000003 * (1 + 7) + (d : Int)) (by
          rw [List.getElem?_append_right (by omega), show j - l.length = d by omega]
          simp [markL, hd2])
        injection he with he
        injection he with he1 he2
        subst he1
        subst he2
        rw [Nat.zero_add] at c2
        have HM := Lib.hid (fun W => mark_any 1 d W (by omega) (by omega) (by omega) (by omega))
        generalize 1000003 * (1 + 7) + (d : Int) = y at c2 HM
        have q : (y == y) = true := by simp
        clear hd hd2
        go_wp2_with fail
        go_quiet ((go_at_call 45; refine Calls.quiet_of_same ((HM.out _).mono fun _ _ h => ⟨h.1, h.2.symm⟩)))
        go_wp2
        go_roundw
        case rel => exact ⟨j + 1, by go_num, by omega, below_drewN HW.out _⟩
        case measure => simp [intOf]; omega
      · have e : j = l.length + 12 := by omega
        subst e
        have hlt' : ¬ ((l.length + 12 : Nat) : Int) < (l.length : Int) + 12 := by omega
        have hlt2 : ¬ ((l.length + 12 : Nat) : Int) < ((l.length + 12 : Nat) : Int) := by omega
        go_wp2
        go_ret
        exact ⟨rfl, HW.out⟩
end Go.Proofs.YtbckkmicdpjnaaaDoor
