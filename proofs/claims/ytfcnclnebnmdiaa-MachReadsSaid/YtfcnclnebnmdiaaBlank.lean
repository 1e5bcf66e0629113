/-
  The document's test for a blank answers what the plain function says. No condition.
-/
import Derived.Test.YtfcnclnebnmdiaaRef1
namespace Go.Proofs.Ytfcnclnebnmdiaa
open Go.RowKit

theorem blank_any (r : Int) (w : World) : Calls Try.prog 61 #[.int .i32 r] w fun e w' => e = .returned (.bool (decide (r = 32 ∨ r = 9))) ∧ w = w' := by
  by_cases h : r = 32
  all_goals
    go_enter Try.func61, Try.ntmps61
    go_wp2
    go_ret
    refine ⟨ret_bool ?_, rfl⟩
    simp [h]
end Go.Proofs.Ytfcnclnebnmdiaa
