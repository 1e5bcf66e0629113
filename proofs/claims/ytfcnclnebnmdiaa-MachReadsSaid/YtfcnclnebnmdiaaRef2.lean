/-
  The document's test for a sign answers what the plain function says. No condition beyond those that each theorem states.
-/
import Derived.Test.YtfcnclnebnmdiaaRef1
namespace Go.Proofs.Ytfcnclnebnmdiaa
open Go.RowKit

theorem rsign_any (r : Int) (w : World) : Calls Try.prog 66 #[.int .i32 r] w fun e w' => e = .returned (.bool (signB r)) ∧ w = w' := by
  by_cases h0 : r = 61
  · go_enter Try.func66, Try.ntmps66
    go_wp2
    go_ret
    refine ⟨ret_bool ?_, rfl⟩
    simp [signB, h0]
  by_cases h1 : r = 44
  · go_enter Try.func66, Try.ntmps66
    go_wp2
    go_ret
    refine ⟨ret_bool ?_, rfl⟩
    simp [signB, h1]
  by_cases h2 : r = 58
  · go_enter Try.func66, Try.ntmps66
    go_wp2
    go_ret
    refine ⟨ret_bool ?_, rfl⟩
    simp [signB, h2]
  by_cases h3 : r = 40
  · go_enter Try.func66, Try.ntmps66
    go_wp2
    go_ret
    refine ⟨ret_bool ?_, rfl⟩
    simp [signB, h3]
  by_cases h4 : r = 41
  · go_enter Try.func66, Try.ntmps66
    go_wp2
    go_ret
    refine ⟨ret_bool ?_, rfl⟩
    simp [signB, h4]
  by_cases h5 : r = 91
  · go_enter Try.func66, Try.ntmps66
    go_wp2
    go_ret
    refine ⟨ret_bool ?_, rfl⟩
    simp [signB, h5]
  by_cases h6 : r = 93
  · go_enter Try.func66, Try.ntmps66
    go_wp2
    go_ret
    refine ⟨ret_bool ?_, rfl⟩
    simp [signB, h6]
  by_cases h7 : r = 43
  · go_enter Try.func66, Try.ntmps66
    go_wp2
    go_ret
    refine ⟨ret_bool ?_, rfl⟩
    simp [signB, h7]
  by_cases h8 : r = 8594
  · go_enter Try.func66, Try.ntmps66
    go_wp2
    go_ret
    refine ⟨ret_bool ?_, rfl⟩
    simp [signB, h8]
  by_cases h9 : r = 8592
  · go_enter Try.func66, Try.ntmps66
    go_wp2
    go_ret
    refine ⟨ret_bool ?_, rfl⟩
    simp [signB, h9]
  go_enter Try.func66, Try.ntmps66
  go_wp2
  go_ret
  refine ⟨ret_bool ?_, rfl⟩
  simp [signB, h0, h1, h2, h3, h4, h5, h6, h7, h8, h9]
end Go.Proofs.Ytfcnclnebnmdiaa
