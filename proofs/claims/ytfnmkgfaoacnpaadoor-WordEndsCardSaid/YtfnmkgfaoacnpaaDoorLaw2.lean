/-
  The law's comparison of two equal rows of words answers true. No condition beyond those that each theorem states.
-/
import Derived.Test.YtfnmkgfaoacnpaaDoorLaw1
import Derived.BigQuiet
import Derived.Deep.QuietTactic
namespace Go.Proofs.YtfnmkgfaoacnpaaDoor
open Go.RowKit

set_option maxHeartbeats 2000000 in
set_option maxRecDepth 1000000 in
theorem same_some (xs : List Wd) (ga gb ca cb Ba Bb : Nat) (w : World) (hn : xs.length ≤ 100000)
    (ha : w.ownsRow Ba 25 5 (.slice (some ⟨ga, 0, none⟩) xs.length ca) xs.length (xs.flatMap flatW))
    (hb : w.ownsRow Bb 56 5 (.slice (some ⟨gb, 0, none⟩) xs.length cb) xs.length (xs.flatMap flatW)) :
    Calls Tryd.prog 26 #[.slice (some ⟨ga, 0, none⟩) xs.length ca, .slice (some ⟨gb, 0, none⟩) xs.length cb] w fun e w' => e = .returned (.bool true) ∧ ∃ d, w' = w.drewN d := by
  have HA := Lib.hid ha
  have HB := Lib.hid hb
  clear ha hb
  go_enter Tryd.func26, Tryd.ntmps26
  go_wp2
  go_loopw [5] (fun k wr => ∃ j d : Nat, k = .int .i64 j ∧ j ≤ xs.length ∧ wr = w.drewN d) (fun k _ => xs.length - (intOf k).toNat)
  case atStart => exact ⟨0, 0, rfl, Nat.zero_le _, rfl⟩
  case round =>
    obtain ⟨j, d, rfl, hj, rfl⟩ := hrel
    by_cases hlt : j < xs.length
    · have hlt' : (j : Int) < xs.length := by omega
      have hj0 : (0 : Int) ≤ j := by omega
      obtain ⟨x, hx⟩ : ∃ x, xs[j]? = some x := ⟨xs[j], List.getElem?_eq_getElem hlt⟩
      obtain ⟨a0, a1, a2, a3, a4⟩ := own_word HA.out hx
      obtain ⟨b0, b1, b2, b3, b4⟩ := own_word HB.out hx
      have HX := Lib.hid hx
      clear hx
      go_wp2_with fail
      go_quiet (fail)
      go_wp2
      go_roundw
      case rel => exact ⟨j + 1, _, by go_num, by omega, rfl⟩
      case measure => simp [intOf]; omega
    · have hlt' : (xs.length : Int) ≤ j := by omega
      go_wp2
      go_ret
      exact ⟨rfl, d, rfl⟩
theorem same_none (a b : Option Addr) (ca cb : Nat) (w : World) : Calls Tryd.prog 26 #[.slice a 0 ca, .slice b 0 cb] w fun e w' => e = .returned (.bool true) ∧ ∃ d, w' = w.drewN d := by
  go_enter Tryd.func26, Tryd.ntmps26
  go_wp2
  go_loopw [5] (fun k wr => k = .int .i64 0 ∧ wr = w) (fun _ _ => 0)
  case atStart => exact ⟨rfl, rfl⟩
  case round =>
    obtain ⟨rfl, rfl⟩ := hrel
    go_wp2
    go_ret
    exact ⟨rfl, 0, rfl⟩
end Go.Proofs.YtfnmkgfaoacnpaaDoor
