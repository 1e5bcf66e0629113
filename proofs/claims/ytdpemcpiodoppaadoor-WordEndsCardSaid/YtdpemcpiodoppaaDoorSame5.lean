/-
  Both readings of a text are one; the chapter's two examples. No condition beyond those that each theorem states.
-/
import Derived.Test.YtdpemcpiodoppaaDoorSame4
namespace Go.Proofs.YtdpemcpiodoppaaDoor
theorem read_eq (s : ByteArray) : refRead s = (readWords s, readLine s, readCol s, readErr s) := by
  rw [← fin_last]
  exact read_same s s.size 0 s.size startRd [] 1 1 false ⟨rfl, rfl, rfl, rfl, rfl, fun h => by have h : (0 : Int) = 1 ∨ (0 : Int) = 2 := h; omega⟩ (by omega) (by omega) (by omega)
def ex1 : ByteArray := ⟨#[120, 49, 32, 61, 32, 45, 53, 32, 59, 32, 102, 105, 118, 101]⟩
def ex2 : ByteArray := ⟨#[97, 98, 226, 134, 146, 99]⟩
/-- The chapter's examples. -/
theorem ex1_reads : readErr ex1 = 0 ∧ (readWords ex1).map (fun x => (x.k, x.n)) = [(1, 0), (3, 0), (2, -5)] := by decide +kernel
theorem ex2_reads : readErr ex2 = 0 ∧ (readWords ex2).map (fun x => x.c) = [1, 3, 4] := by decide +kernel
end Go.Proofs.YtdpemcpiodoppaaDoor
