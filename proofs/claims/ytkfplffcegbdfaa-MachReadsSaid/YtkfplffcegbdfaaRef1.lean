/-
  The document's tests on a rune answer what the plain functions say. No condition beyond those that each theorem states.
-/
import Derived.Test.YtkfplffcegbdfaaLeaf
import Derived.Test.YtkfplffcegbdfaaRefM
import Derived.Lib.Hide
namespace Go.Proofs.Ytkfplffcegbdfaa
open Go.RowKit

theorem within_any (r lo hi : Int) (w : World) : Calls Try.prog 77 #[.int .i32 r, .int .i32 lo, .int .i32 hi] w fun e w' => e = .returned (.bool (decide (lo ≤ r ∧ r ≤ hi))) ∧ w = w' := by
  by_cases h : lo ≤ r
  all_goals
    go_enter Try.func77, Try.ntmps77
    go_wp2
    go_ret
    refine ⟨ret_bool ?_, rfl⟩
    simp
    try omega
theorem rdigit_any (r : Int) (w : World) : Calls Try.prog 78 #[.int .i32 r] w fun e w' => e = .returned (.bool (digitB r)) ∧ w = w' := by
  go_enter Try.func78, Try.ntmps78
  go_wp2_with fail
  refine (within_any _ _ _ _).mono ?_
  rintro e w1 ⟨rfl, rfl⟩
  go_wp2
  go_ret
  refine ⟨ret_bool ?_, rfl⟩
  simp [digitB]
theorem rletter_any (r : Int) (w : World) : Calls Try.prog 64 #[.int .i32 r] w fun e w' => e = .returned (.bool (letterB r)) ∧ w = w' := by
  cases h1 : decide (97 ≤ r ∧ r ≤ 122)
  · cases h2 : decide (945 ≤ r ∧ r ≤ 969)
    · go_enter Try.func64, Try.ntmps64
      go_wp2_with fail
      refine (within_any _ _ _ _).mono ?_
      rintro e w1 ⟨rfl, rfl⟩
      rw [h1]
      go_wp2_with fail
      refine (within_any _ _ _ _).mono ?_
      rintro e w1 ⟨rfl, rfl⟩
      rw [h2]
      go_wp2
      go_ret
      refine ⟨ret_bool ?_, rfl⟩
      simp at h1 h2 ⊢
      simp [letterB]
      omega
    · go_enter Try.func64, Try.ntmps64
      go_wp2_with fail
      refine (within_any _ _ _ _).mono ?_
      rintro e w1 ⟨rfl, rfl⟩
      rw [h1]
      go_wp2_with fail
      refine (within_any _ _ _ _).mono ?_
      rintro e w1 ⟨rfl, rfl⟩
      rw [h2]
      go_wp2
      go_ret
      refine ⟨ret_bool ?_, rfl⟩
      simp at h1 h2 ⊢
      simp [letterB]
      omega
  · go_enter Try.func64, Try.ntmps64
    go_wp2_with fail
    refine (within_any _ _ _ _).mono ?_
    rintro e w1 ⟨rfl, rfl⟩
    rw [h1]
    go_wp2
    go_ret
    refine ⟨ret_bool ?_, rfl⟩
    simp at h1 ⊢
    simp [letterB]
    omega
end Go.Proofs.Ytkfplffcegbdfaa
