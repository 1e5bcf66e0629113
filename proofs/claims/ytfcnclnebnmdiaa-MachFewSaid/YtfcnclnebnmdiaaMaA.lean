/-
  The small calls of package mach answer what the plain functions say. No condition beyond those that each theorem states.
-/
import Derived.Test.YtfcnclnebnmdiaaMaS
import Derived.Test.YtfcnclnebnmdiaaKInts
import Derived.RegionTactic
import Derived.BigQuiet
import Derived.Deep.QuietTactic
import Derived.Deep.RegionWith
import Derived.Deep.WholeRow
namespace Go.Proofs.Ytfcnclnebnmdiaa
open Go.RowKit

def maxC (m : Mm) (aa : Option Addr) (ac : Nat) (sa : Option Addr) (sc : Nat) : Array Value := #[.int .i64 m.regs, .slice aa m.args.length ac, .int .i64 m.ret, .slice sa m.saved.length sc]
def machV (m : Mm) (aa : Option Addr) (ac : Nat) (sa : Option Addr) (sc : Nat) : Value := .agg (maxC m aa ac sa sc)
/-- A machine's rows lie there. -/
structure MaW (w : World) (m : Mm) (aa sa : Option Addr) : Prop where
  args : IntsW w aa m.args
  saved : IntsW w sa m.saved
theorem MaW.below {w w' : World} {m : Mm} {aa sa : Option Addr} (h : MaW w m aa sa) (hb : Below w.heap.size w w') : MaW w' m aa sa := ⟨h.args.below hb, h.saved.below hb⟩
theorem boxMa {W : World} {g : Nat} {t : TypeId} {m : Mm} {aa sa : Option Addr} {ac sc : Nat} (h : Blk W g t (maxC m aa ac sa sc)) :
    W.cell? ⟨g, 0, none⟩ = some (.int .i64 m.regs) ∧ W.cell? ⟨g, 1, none⟩ = some (.slice aa m.args.length ac) ∧ W.cell? ⟨g, 2, none⟩ = some (.int .i64 m.ret) ∧ W.cell? ⟨g, 3, none⟩ = some (.slice sa m.saved.length sc) := ⟨h.cell 0, h.cell 1, h.cell 2, h.cell 3⟩
def big47 : Nat := 140737488355328
set_option maxHeartbeats 1000000 in
set_option maxRecDepth 100000 in
theorem isSmall_any (m : Mm) (aa sa : Option Addr) (ac sc : Nat) (w : World) (hl : m.args.length ≤ 140737488355328) (_hs : m.saved.length ≤ 140737488355328) :
    Calls Try.prog 24 #[machV m aa ac sa sc] w fun e w' => e = .returned (.bool m.smallB) ∧ Below w.heap.size w w' := by
  have HB : Hid (Below w.heap.size w (w.alloc (.cells (maxC m aa ac sa sc) 25))) := (Below.refl _ w).alloc (Nat.le_refl _) _
  unfold machV maxC at *
  go_enter Try.func24, Try.ntmps24
  by_cases h1 : (1 : Int) ≤ m.regs
  · by_cases h2 : m.regs ≤ 64
    · by_cases h3 : (m.args.length : Int) ≤ 8
      · go_wp2
        go_ret
        exact ⟨by simp [Mm.smallB]; omega, HB.out⟩
      · go_wp2
        go_ret
        exact ⟨by simp [Mm.smallB]; omega, HB.out⟩
    · go_wp2
      go_ret
      exact ⟨by simp [Mm.smallB]; omega, HB.out⟩
  · go_wp2
    go_ret
    exact ⟨by simp [Mm.smallB]; omega, HB.out⟩
end Go.Proofs.Ytfcnclnebnmdiaa
