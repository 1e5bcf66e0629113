/-
  Both readings of a text are one. No condition beyond those that each theorem states.
  The reader's tests on a rune and on a number answer what the plain functions say. No condition beyond those that each theorem states.
-/
import Derived.Test.YtkfplffcegbdfaaDoorSame4
import Derived.Test.YtkfplffcegbdfaaDoorProg
import Derived.Test.YtkfplffcegbdfaaDoorKit
import Derived.Test.YtkfplffcegbdfaaDoorWordM
import Derived.WalkSpells
import Derived.WalkLawsBesides
import Derived.BigQuiet
import Derived.Deep.QuietTactic
namespace Go.Proofs.YtkfplffcegbdfaaDoor
theorem read_eq (s : ByteArray) : refRead s = (readWords s, readLine s, readCol s, readErr s) := by
  rw [← fin_last]
  exact read_same s s.size 0 s.size startRd [] 1 1 false ⟨rfl, rfl, rfl, rfl, rfl, fun h => by have h : (0 : Int) = 1 ∨ (0 : Int) = 2 := h; omega⟩ (by omega) (by omega) (by omega)
end Go.Proofs.YtkfplffcegbdfaaDoor
namespace Go.Proofs.YtkfplffcegbdfaaDoor
open Go.RowKit

theorem ret_bool {a b : Bool} (h : a = true ↔ b = true) : Ending.returned (.bool a) = .returned (.bool b) := by rw [Bool.eq_iff_iff.2 h]
theorem isDigit_any (r : Int) (w : World) : Calls Tryd.prog 72 #[.int .i32 r] w fun e w' => e = .returned (.bool (digitB r)) ∧ w = w' := by
  by_cases h : 48 ≤ r
  all_goals
    go_enter Tryd.func72, Tryd.ntmps72
    go_wp2
    go_ret
    refine ⟨ret_bool ?_, rfl⟩
    simp [digitB]
    try omega
theorem letter_any (r : Int) (w : World) : Calls Tryd.prog 71 #[.int .i32 r] w fun e w' => e = .returned (.bool (letterB r)) ∧ w = w' := by
  by_cases h : 97 ≤ r <;> by_cases h1 : r ≤ 122 <;> by_cases h2 : 945 ≤ r <;> by_cases h3 : r ≤ 969
  all_goals try (exfalso; omega)
  all_goals
    go_enter Tryd.func71, Tryd.ntmps71
    go_wp2
    go_ret
    refine ⟨ret_bool ?_, rfl⟩
    simp [letterB]
    try omega
theorem bound_any (n : Int) (w : World) : Calls Tryd.prog 79 #[.int .i64 n] w fun e w' => e = .returned (.bool (boundB n)) ∧ w = w' := by
  by_cases h : -1099511627776 ≤ n
  all_goals
    go_enter Tryd.func79, Tryd.ntmps79
    go_wp2
    go_ret
    refine ⟨ret_bool ?_, rfl⟩
    simp [boundB]
    try omega
theorem sign_any (r : Int) (w : World) : Calls Tryd.prog 69 #[.int .i32 r] w fun e w' => e = .returned (.bool (signB r)) ∧ w = w' := by
  go_enter Tryd.func69, Tryd.ntmps69
  go_wp2
  all_goals
    go_ret
    refine ⟨ret_bool ?_, rfl⟩
    simp_all [signB]

end Go.Proofs.YtkfplffcegbdfaaDoor
