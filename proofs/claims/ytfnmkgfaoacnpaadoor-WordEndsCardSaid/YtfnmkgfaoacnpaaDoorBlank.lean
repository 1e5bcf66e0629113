/-
  The document's test for a blank answers what the plain function says. No condition.
-/
import Derived.Test.YtfnmkgfaoacnpaaDoorRef1
namespace Go.Proofs.YtfnmkgfaoacnpaaDoor
open Go.RowKit

theorem blank_any (r : Int) (w : World) : Calls Tryd.prog 38 #[.int .i32 r] w fun e w' => e = .returned (.bool (decide (r = 32 ∨ r = 9))) ∧ w = w' := by
  by_cases h : r = 32
  all_goals
    go_enter Tryd.func38, Tryd.ntmps38
    go_wp2
    go_ret
    refine ⟨ret_bool ?_, rfl⟩
    simp [h]
end Go.Proofs.YtfnmkgfaoacnpaaDoor
