/-
  The document's test of a word that may be shown answers what package word's own test answers. No condition beyond those that each theorem states.
-/
import Derived.Test.YtfcnclnebnmdiaaDoorCan
import Derived.Test.YtfcnclnebnmdiaaDoorRef2
namespace Go.Proofs.YtfcnclnebnmdiaaDoor
open Go.RowKit

theorem isSignB_ref (s : ByteArray) : isSignB s = (decide (0 < (atP s 0).2) && decide ((atP s 0).2 = s.size) && signB (atP s 0).1) := by
  have hff : signB ((65533 : Nat) : Int) = false := by decide
  have h0 : signB ((0 : Nat) : Int) = false := by decide
  unfold isSignB Lib.decodeGo atP
  by_cases hs : s.size = 0
  · simp [hs]
    exact hff
  · have hs' : 0 < s.size := by omega
    rw [if_neg hs, if_pos hs']
    by_cases hb : (Utf8.decode s 0).1 = 65533 ∧ (Utf8.decode s 0).2 = 1
    · rw [if_pos hb, hb.1, hff]
      simp
    · rw [if_neg hb]
      have := wide_pos s 0 hs'
      have h1 : decide (0 < (Utf8.decode s 0).2) = true := by simp; omega
      rw [h1, Bool.true_and]
end Go.Proofs.YtfcnclnebnmdiaaDoor
