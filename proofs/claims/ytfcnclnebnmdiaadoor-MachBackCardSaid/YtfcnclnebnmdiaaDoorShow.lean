/-
  Show of package word, of words that lie in a row of cells, each text of at most 100000 bytes and at most 100000 words, answers what a plain function of the words says and turns nothing that was there.
-/
import Derived.Test.YtfcnclnebnmdiaaDoorCan
namespace Go.Proofs.YtfcnclnebnmdiaaDoor
open Go.RowKit

def showGo : List Wd → Bool → List UInt8 → Option (List UInt8)
  | [], _, out => some out
  | x :: r, b, out =>
    if canB x = false then none
    else if x.k = 4 then showGo r false (out ++ [10])
    else showGo r true ((if b then out ++ [32] else out) ++ x.t.data.toList)
def showText (ws : List Wd) : ByteArray := match showGo ws false [] with | some l => ⟨l.toArray⟩ | none => ⟨#[]⟩
def showErr (ws : List Wd) : Int := match showGo ws false [] with | some _ => 0 | none => 2
/-- Word number k lies in five cells. -/
def CellsAt (w : World) (g o : Nat) (ws : List Wd) : Prop := ∀ k x, ws[k]? = some x →
  w.cell? ⟨g, o + k * 5, none⟩ = some (.int .i64 x.k) ∧ w.cell? ⟨g, o + k * 5 + 1, none⟩ = some (.string x.t) ∧ w.cell? ⟨g, o + k * 5 + 2, none⟩ = some (.int .i64 x.n) ∧
  w.cell? ⟨g, o + k * 5 + 3, none⟩ = some (.int .i64 x.l) ∧ w.cell? ⟨g, o + k * 5 + 4, none⟩ = some (.int .i64 x.c)
theorem builder_below {T e : TypeId} {B b : Nat} {bs : List Value} {w w' : World} (h : Lib.IsBuilder T e B b bs w) (hb : Below w.heap.size w w') : Lib.IsBuilder T e B b bs w' := by
  rcases h with ⟨hB, v, hk, hown, hne⟩ | ⟨hB, v, hk, hown, hne⟩
  · exact Or.inl ⟨hB, v, heap_below hb hk, hown.kept (row := some b) ⟨hb.os, hb.tape, hb.output, hb.size, fun k hk _ => hb.block k hk⟩ (Or.inr hne), hne⟩
  · exact Or.inr ⟨hB, v, heap_below hb hk, hown.kept (row := some b) ⟨hb.os, hb.tape, hb.output, hb.size, fun k hk _ => hb.block k hk⟩ (Or.inr hne), hne⟩
theorem cells_append (a b : List UInt8) : Lib.byteCells (a ++ b) = Lib.byteCells a ++ Lib.byteCells b := by simp [Lib.byteCells]

end Go.Proofs.YtfcnclnebnmdiaaDoor
