/-
  Sets of registers in memory: whether two are one. No condition beyond those that each theorem states.
-/
import Derived.Test.YtfcnclnebnmdiaaMaM
import Derived.Test.YtfcnclnebnmdiaaProg
import Derived.ChangeKeysEq
import Derived.Laws.StructEq
namespace Go.Proofs.Ytfcnclnebnmdiaa
open Go.RowKit

def maV (S : List Int) : Value := .agg (maC S)
theorem ma_size : (Try.prog.info? 53).map (·.size) = some 64 := by kernel_rfl
theorem ma_bool : (Try.prog.info? 4).map (·.size) = some 1 := by kernel_rfl
theorem ma_cells : Try.prog.cellsOf 4 = 1 := by kernel_rfl
theorem run_part_bool {cs : Array Value} {o : Nat} {v : Value} (hv : cs[o]? = some v) (w : World) : (part 4 cs o).run Try.prog w = .ok v w := by
  simp [part, isAgg, run_underlying Try.underlying4, hv]
theorem items_bool (d0 : Nat) (A B : List Int) (W : World) : ∀ (is : List Nat), (∀ i ∈ is, i < 64) →
    (Op.eqItems (d0 + 1) 4 1 (maC A) (maC B) is).run Try.prog W = .ok (is.all fun i => A.contains (i : Int) == B.contains (i : Int)) W
  | [], _ => by simp [Op.eqItems]
  | i :: is, h => by
    have hi : i < 64 := h i (by simp)
    have ih := items_bool d0 A B W is (fun j hj => h j (by simp [hj]))
    simp only [Op.eqItems, Sem.run_bind, Nat.mul_one, List.all_cons]
    rw [run_part_bool (maC_get A hi)]
    simp only [Result.andThen_ok]
    rw [run_part_bool (maC_get B hi)]
    simp only [Result.andThen_ok]
    rw [run_equalIn_bool' W d0 4 _ _ Try.underlying4]
    simp only [Result.andThen_ok]
    cases hq : (A.contains (i : Int) == B.contains (i : Int))
    · simp
    · simp only [Bool.not_true, Bool.false_eq_true, if_false, ih, Bool.true_and]
theorem eql_ma (A B : List Int) (W : World) : (Op.equalIn 10000 53 (.agg (maC A)) (.agg (maC B))).run Try.prog W = .ok ((List.range 64).all fun i => A.contains (i : Int) == B.contains (i : Int)) W := by
  obtain ⟨j, hj, hjs⟩ := Option.map_eq_some_iff.1 ma_bool
  rw [run_equalIn_array W 9999 (maC A) (maC B) Try.underlying53 hj, ma_cells]
  exact items_bool 9998 A B W _ (fun i hi => by simpa using hi)
theorem eql_in {S l : List Int} (hl : ∀ r ∈ l, 0 ≤ r ∧ r < 64) : ((List.range 64).all fun i => (l ++ S).contains (i : Int) == S.contains (i : Int)) = inB S l := by
  rw [Bool.eq_iff_iff, ← in_cells hl, List.all_eq_true]
  constructor
  · intro h k hk
    have := h k (by simpa using hk)
    simpa using this
  · intro h k hk
    have := h k (by simpa using hk)
    simp only [this, beq_self_eq_true]
end Go.Proofs.Ytfcnclnebnmdiaa
