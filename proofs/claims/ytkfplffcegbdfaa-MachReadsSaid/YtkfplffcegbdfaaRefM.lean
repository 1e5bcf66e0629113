/-
  The document's rune at a place, as a plain function. No condition beyond those that each theorem states.
-/
import Derived.Test.YtkfplffcegbdfaaWordM
namespace Go.Proofs.Ytkfplffcegbdfaa
/-- The document's rune at a place, and its width; 0, 0: there is none. -/
def atP (s : ByteArray) (i : Nat) : Nat × Nat :=
  if i < s.size then (if (Utf8.decode s i).1 = 65533 ∧ (Utf8.decode s i).2 = 1 then (0, 0) else Utf8.decode s i) else (0, 0)
/-- A rune's value behind so many bytes more. -/
def accR (s : ByteArray) (i : Nat) (r0 : Int) : Nat → Int
  | 0 => r0
  | j + 1 => 64 * accR s i r0 j + ((s.get! (i + (j + 1))).toNat : Int) - 128
end Go.Proofs.Ytkfplffcegbdfaa
