/-
  The reader's tests on a rune and on a number answer what the plain functions say. No condition beyond those that each theorem states.
-/
import Derived.Test.YtkfplffcegbdfaaProg
import Derived.Test.YtkfplffcegbdfaaKit
import Derived.Test.YtkfplffcegbdfaaWordM
import Derived.WalkSpells
import Derived.WalkLawsBesides
import Derived.BigQuiet
import Derived.Deep.QuietTactic
namespace Go.Proofs.Ytkfplffcegbdfaa
open Go.RowKit

theorem ret_bool {a b : Bool} (h : a = true ↔ b = true) : Ending.returned (.bool a) = .returned (.bool b) := by rw [Bool.eq_iff_iff.2 h]
theorem isDigit_any (r : Int) (w : World) : Calls Try.prog 83 #[.int .i32 r] w fun e w' => e = .returned (.bool (digitB r)) ∧ w = w' := by
  by_cases h : 48 ≤ r
  all_goals
    go_enter Try.func83, Try.ntmps83
    go_wp2
    go_ret
    refine ⟨ret_bool ?_, rfl⟩
    simp [digitB]
    try omega
theorem letter_any (r : Int) (w : World) : Calls Try.prog 82 #[.int .i32 r] w fun e w' => e = .returned (.bool (letterB r)) ∧ w = w' := by
  by_cases h : 97 ≤ r <;> by_cases h1 : r ≤ 122 <;> by_cases h2 : 945 ≤ r <;> by_cases h3 : r ≤ 969
  all_goals try (exfalso; omega)
  all_goals
    go_enter Try.func82, Try.ntmps82
    go_wp2
    go_ret
    refine ⟨ret_bool ?_, rfl⟩
    simp [letterB]
    try omega
theorem bound_any (n : Int) (w : World) : Calls Try.prog 86 #[.int .i64 n] w fun e w' => e = .returned (.bool (boundB n)) ∧ w = w' := by
  by_cases h : -1099511627776 ≤ n
  all_goals
    go_enter Try.func86, Try.ntmps86
    go_wp2
    go_ret
    refine ⟨ret_bool ?_, rfl⟩
    simp [boundB]
    try omega
theorem sign_any (r : Int) (w : World) : Calls Try.prog 80 #[.int .i32 r] w fun e w' => e = .returned (.bool (signB r)) ∧ w = w' := by
  go_enter Try.func80, Try.ntmps80
  go_wp2
  all_goals
    go_ret
    refine ⟨ret_bool ?_, rfl⟩
    simp_all [signB]

end Go.Proofs.Ytkfplffcegbdfaa
