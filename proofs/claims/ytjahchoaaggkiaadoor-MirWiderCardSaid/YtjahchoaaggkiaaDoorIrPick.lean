/-
  What Pick answers. No condition beyond those that each theorem states.
-/
import Derived.Test.YtjahchoaaggkiaaDoorKRec
namespace Go.Proofs.YtjahchoaaggkiaaDoor
open Go.RowKit

set_option maxRecDepth 100000 in
theorem pick_any (x n : Int) (w : World) (hn : 1 ≤ n ∧ n ≤ 1000000) :
    Calls Tryd.prog 32 #[.int .i64 x, .int .i64 n] w fun e w' => (∃ k : Nat, e = .returned (.int .i64 k) ∧ (k : Int) < n) ∧ w = w' := by
  have hq : ¬ n < 1 := by omega
  have h0 : ¬ n = 0 := by omega
  have h1 : -n < x.tmod n ∧ x.tmod n < n := ⟨by have := Int.lt_tmod_of_pos x (show 0 < n by omega); omega, Int.tmod_lt_of_pos x (by omega)⟩
  generalize hr : x.tmod n = r at *
  go_enter Tryd.func32, Tryd.ntmps32
  by_cases hneg : r < 0
  · go_wp2
    go_ret
    exact ⟨⟨(r + n).toNat, by rw [Int.toNat_of_nonneg (by omega)]; rfl, by omega⟩, rfl⟩
  · go_wp2
    go_ret
    exact ⟨⟨r.toNat, by rw [Int.toNat_of_nonneg (by omega)]; rfl, by omega⟩, rfl⟩
end Go.Proofs.YtjahchoaaggkiaaDoor
