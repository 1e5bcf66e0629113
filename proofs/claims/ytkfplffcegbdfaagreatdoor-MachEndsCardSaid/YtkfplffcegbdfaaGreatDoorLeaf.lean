/-
  The reader's tests on a rune and on a number answer what the plain functions say. No condition beyond those that each theorem states.
-/
import Derived.Test.YtkfplffcegbdfaaGreatDoorProg
import Derived.Test.YtkfplffcegbdfaaGreatDoorPk2
import Derived.Test.YtkfplffcegbdfaaGreatDoorPk1
import Derived.WalkSpells
import Derived.WalkLawsBesides
import Derived.BigQuiet
import Derived.Deep.QuietTactic
namespace Go.Proofs.YtkfplffcegbdfaaGreatDoor
open Go.RowKit

theorem ret_bool {a b : Bool} (h : a = true ↔ b = true) : Ending.returned (.bool a) = .returned (.bool b) := by rw [Bool.eq_iff_iff.2 h]
theorem isDigit_any (r : Int) (w : World) : Calls Tryz.prog 153 #[.int .i32 r] w fun e w' => e = .returned (.bool (digitB r)) ∧ w = w' := by
  by_cases h : 48 ≤ r
  all_goals
    go_enter Tryz.func153, Tryz.ntmps153
    go_wp2
    go_ret
    refine ⟨ret_bool ?_, rfl⟩
    simp [digitB]
    try omega
theorem letter_any (r : Int) (w : World) : Calls Tryz.prog 152 #[.int .i32 r] w fun e w' => e = .returned (.bool (letterB r)) ∧ w = w' := by
  by_cases h : 97 ≤ r <;> by_cases h1 : r ≤ 122 <;> by_cases h2 : 945 ≤ r <;> by_cases h3 : r ≤ 969
  all_goals try (exfalso; omega)
  all_goals
    go_enter Tryz.func152, Tryz.ntmps152
    go_wp2
    go_ret
    refine ⟨ret_bool ?_, rfl⟩
    simp [letterB]
    try omega
theorem bound_any (n : Int) (w : World) : Calls Tryz.prog 161 #[.int .i64 n] w fun e w' => e = .returned (.bool (boundB n)) ∧ w = w' := by
  by_cases h : -1099511627776 ≤ n
  all_goals
    go_enter Tryz.func161, Tryz.ntmps161
    go_wp2
    go_ret
    refine ⟨ret_bool ?_, rfl⟩
    simp [boundB]
    try omega
theorem sign_any (r : Int) (w : World) : Calls Tryz.prog 150 #[.int .i32 r] w fun e w' => e = .returned (.bool (signB r)) ∧ w = w' := by
  go_enter Tryz.func150, Tryz.ntmps150
  go_wp2
  all_goals
    go_ret
    refine ⟨ret_bool ?_, rfl⟩
    simp_all [signB]

end Go.Proofs.YtkfplffcegbdfaaGreatDoor
