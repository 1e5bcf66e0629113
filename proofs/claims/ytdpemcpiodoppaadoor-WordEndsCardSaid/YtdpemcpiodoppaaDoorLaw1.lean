/-
  A word's cells in a row that is owned. No condition beyond those that each theorem states.
-/
import Derived.Test.YtdpemcpiodoppaaDoorRefRead
import Derived.Test.YtdpemcpiodoppaaDoorRead
import Derived.Test.YtdpemcpiodoppaaDoorName
import Derived.Test.YtdpemcpiodoppaaDoorSame5
namespace Go.Proofs.YtdpemcpiodoppaaDoor
open Go.RowKit
theorem flat_at (xs : List Wd) (k j : Nat) (hj : j < 5) : (xs.flatMap flatW)[k * 5 + j]? = (xs[k]?).bind (fun x => (flatW x)[j]?) := by
  induction xs generalizing k with
  | nil => simp
  | cons x xs ih =>
    cases k with
    | zero =>
      simp only [List.flatMap_cons, Nat.zero_mul, Nat.zero_add, List.getElem?_cons_zero, Option.bind_some]
      rw [List.getElem?_append_left (by simp [flatW]; omega)]
    | succ k =>
      have e : (k + 1) * 5 + j = (flatW x).length + (k * 5 + j) := by simp [flatW]; omega
      rw [List.flatMap_cons, e, List.getElem?_append_right (by omega), Nat.add_sub_cancel_left, ih k]
      simp
/-- A word's cells in a row that is owned. -/
theorem own_word {w : World} {B e g n cap : Nat} {xs : List Wd} (h : w.ownsRow B e 5 (.slice (some ⟨g, 0, none⟩) n cap) n (xs.flatMap flatW)) {k : Nat} {x : Wd} (hk : xs[k]? = some x) :
    w.cell? ⟨g, k * 5, none⟩ = some (.int .i64 x.k) ∧ w.cell? ⟨g, k * 5 + 1, none⟩ = some (.string x.t) ∧ w.cell? ⟨g, k * 5 + 2, none⟩ = some (.int .i64 x.n) ∧ w.cell? ⟨g, k * 5 + 3, none⟩ = some (.int .i64 x.l) ∧ w.cell? ⟨g, k * 5 + 4, none⟩ = some (.int .i64 x.c) := by
  have hc := fun j u hu => h.cells (g := g) rfl j u hu
  have ha : ∀ j, (⟨g, 0, none⟩ : Addr).add j = ⟨g, j, none⟩ := fun j => by unfold Addr.add; split <;> simp_all
  have f := fun j hj => flat_at xs k j hj
  simp only [hk, Option.bind_some] at f
  refine ⟨?_, ?_, ?_, ?_, ?_⟩
  · have := hc (k * 5) _ (f 0 (by omega)); rw [ha] at this; exact this
  · have := hc (k * 5 + 1) _ (f 1 (by omega)); rw [ha] at this; exact this
  · have := hc (k * 5 + 2) _ (f 2 (by omega)); rw [ha] at this; exact this
  · have := hc (k * 5 + 3) _ (f 3 (by omega)); rw [ha] at this; exact this
  · have := hc (k * 5 + 4) _ (f 4 (by omega)); rw [ha] at this; exact this
end Go.Proofs.YtdpemcpiodoppaaDoor
