/-
  The document's function that decodes a rune answers what the plain function says. No condition beyond those that each theorem states.
-/
import Derived.Test.YtfcnclnebnmdiaaDoorRef1
import Derived.Test.YtfcnclnebnmdiaaDoorAtP
namespace Go.Proofs.YtfcnclnebnmdiaaDoor
open Go.RowKit

theorem get_ok (s : ByteArray) (i : Nat) (h : i < s.size) : s.get! i = s[i]'h := by simp [ByteArray.get!, getElem!_pos, h]; rfl
theorem acc_small (s : ByteArray) (i : Nat) (c : Int) (m j : Nat) (hc0 : 0 ≤ c) (hc : m = 2 ∧ c ≤ 31 ∨ m = 3 ∧ c ≤ 15 ∨ m = 4 ∧ c ≤ 7) (hj : j < m) (hk : ∀ t, 1 ≤ t → t ≤ j → contB s (i + t)) :
    0 ≤ accR s i c j ∧ accR s i c j ≤ 2097151 ∧ (j + 1 < m → accR s i c j ≤ 32767) := by
  have h4 : j = 0 ∨ j = 1 ∨ j = 2 ∨ j = 3 := by omega
  rcases h4 with rfl | rfl | rfl | rfl
  · show 0 ≤ c ∧ c ≤ 2097151 ∧ _
    show 0 ≤ c ∧ c ≤ 2097151 ∧ (_ → c ≤ 32767)
    omega
  · have h1 := hk 1 (by omega) (by omega)
    unfold contB at h1
    rw [accR_one]
    omega
  · have h1 := hk 1 (by omega) (by omega)
    have h2 := hk 2 (by omega) (by omega)
    unfold contB at h1 h2
    rw [accR_two]
    omega
  · have h1 := hk 1 (by omega) (by omega)
    have h2 := hk 2 (by omega) (by omega)
    have h3 := hk 3 (by omega) (by omega)
    unfold contB at h1 h2 h3
    rw [accR_three]
    omega




end Go.Proofs.YtfcnclnebnmdiaaDoor
