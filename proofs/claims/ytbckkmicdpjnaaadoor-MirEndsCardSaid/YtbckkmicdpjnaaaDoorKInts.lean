/-
  How rows of numbers lie in memory. No condition beyond those that each theorem states.
-/
import Derived.Test.YtbckkmicdpjnaaaDoorKit
import Derived.Test.YtbckkmicdpjnaaaDoorProg
import Derived.Laws.OwnMore
import Derived.Deep.AppendLies
import Derived.Deep.Draws
import Derived.Lib.Hide
namespace Go.Proofs.YtbckkmicdpjnaaaDoor
open Go.RowKit

/-- Numbers lie in a row from there. -/
def IntsW (w : World) (a : Option Addr) (l : List Int) : Prop := ∀ k x, l[k]? = some x → ∃ g o, a = some ⟨g, o, none⟩ ∧ g < w.heap.size ∧ w.cell? ⟨g, o + k, none⟩ = some (.int .i64 x)
theorem IntsW.below {w w' : World} {a : Option Addr} {l : List Int} (h : IntsW w a l) (hb : Below w.heap.size w w') : IntsW w' a l := fun k x hx => by
  obtain ⟨g, o, ha, hg, h0⟩ := h k x hx
  exact ⟨g, o, ha, Nat.lt_of_lt_of_le hg hb.size, (hb.cell hg).trans h0⟩
theorem IntsW.nil (w : World) (a : Option Addr) : IntsW w a [] := fun k x hx => by simp at hx
/-- A new block of numbers. -/
theorem IntsW.row {w : World} {g : Nat} {t : TypeId} {cs : Array Value} {l : List Int} (h : Blk w g t cs) (hc : ∀ (k : Nat) (x : Int), l[k]? = some x → cs[k]? = some (Value.int .i64 x)) : IntsW w (some ⟨g, 0, none⟩) l := fun k x hx => by
  refine ⟨g, 0, rfl, h.lt, ?_⟩
  rw [Nat.zero_add, h.cell]
  exact hc k x hx
theorem IntsW.own {w : World} {B : Nat} {t : TypeId} {a : Option Addr} {c n : Nat} {l : List Int} (h : w.ownsRow B t 1 (.slice a n c) n (l.map (Value.int .i64))) : IntsW w a l := fun k x hx => by
  have hn : n = l.length := by have := h.1; simpa using this.symm
  have hk := (List.getElem?_eq_some_iff.1 hx).1
  obtain ⟨g, cap, hv, _, hlt⟩ := h.form (by omega)
  injection hv with ha
  subst ha
  refine ⟨g, 0, rfl, hlt, ?_⟩
  have h2 := h.cells (g := g) rfl k (Value.int .i64 x) (by rw [List.getElem?_map, hx]; rfl)
  have e : (⟨g, 0, none⟩ : Addr).add k = ⟨g, 0 + k, none⟩ := by
    unfold Addr.add
    split <;> simp_all
  rw [e] at h2
  exact h2
end Go.Proofs.YtbckkmicdpjnaaaDoor
