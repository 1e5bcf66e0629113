/-
  A row of the document's words that a call made. No condition beyond those that each theorem states.
-/
import Derived.Test.YtfcnclnebnmdiaaRead1
namespace Go.Proofs.Ytfcnclnebnmdiaa
open Go.RowKit

theorem rword_info : (Try.prog.info? 84).map (fun i => (i.zero, i.size, i.bytes)) = some (some (.agg #[.int .i64 0, .string noText, .int .i64 0, .int .i64 0, .int .i64 0]), 5, 48) := by kernel_rfl
/-- The words so far. -/
def Outs (w : World) (B : Nat) (v : Value) (ws : List Wd) : Prop := w.ownsRow B 84 5 v ws.length (ws.flatMap flatW)
theorem Outs.more {w2 : World} {B gg cap : Nat} {ws : List Wd} {x : Wd} (h : w2.ownsRow B 84 5 (.slice (some ⟨gg, 0, none⟩) (ws.length + 1) cap) (ws.length + 1) (ws.flatMap flatW ++ flatW x)) :
    Outs w2 B (.slice (some ⟨gg, 0, none⟩) (ws.length + 1) cap) (ws ++ [x]) := by
  unfold Outs
  rw [List.length_append, List.flatMap_append]
  simpa using h
end Go.Proofs.Ytfcnclnebnmdiaa
