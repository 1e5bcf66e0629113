/-
  Both readings of a text are one. No condition beyond those that each theorem states.
-/
import Derived.Test.YtkfplffcegbdfaaSame4
namespace Go.Proofs.Ytkfplffcegbdfaa
theorem read_eq (s : ByteArray) : refRead s = (readWords s, readLine s, readCol s, readErr s) := by
  rw [← fin_last]
  exact read_same s s.size 0 s.size startRd [] 1 1 false ⟨rfl, rfl, rfl, rfl, rfl, fun h => by have h : (0 : Int) = 1 ∨ (0 : Int) = 2 := h; omega⟩ (by omega) (by omega) (by omega)
end Go.Proofs.Ytkfplffcegbdfaa
