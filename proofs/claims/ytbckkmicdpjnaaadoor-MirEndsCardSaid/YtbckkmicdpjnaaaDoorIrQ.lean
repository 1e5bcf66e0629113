/-
  Arrays of numbers are one just if all their numbers are. No condition beyond those that each theorem states.
-/
import Derived.Test.YtbckkmicdpjnaaaDoorKInts
import Derived.Laws.StructEq
namespace Go.Proofs.YtbckkmicdpjnaaaDoor
open Go.RowKit

theorem int_size : (Tryd.prog.info? 3).map (·.size) = some 1 := by kernel_rfl
theorem run_part_int {t : TypeId} {k : IntKind} (h : Tryd.prog.underlying t = some (.int k)) {cs : Array Value} {o : Nat} {v : Value} (hv : cs[o]? = some v) (w : World) : (part t cs o).run Tryd.prog w = .ok v w := by
  simp [part, isAgg, run_underlying h, hv]
theorem eql_arr2_at (d0 : Nat) (h3 : ∀ (x y : Int) (W : World), (Op.equalIn d0 3 (.int .i64 x) (.int .i64 y)).run Tryd.prog W = .ok (x == y) W) (a b c d : Int) (W : World) :
    (Op.equalIn (d0 + 1) 26 (.agg #[.int .i64 a, .int .i64 b]) (.agg #[.int .i64 c, .int .i64 d])).run Tryd.prog W = .ok (a == c && b == d) W := by
  obtain ⟨j, hj, hjs⟩ := Option.map_eq_some_iff.1 int_size
  simp only [Op.equalIn, Sem.run_bind, run_underlying Tryd.underlying26, Result.andThen_ok, Std.Legacy.Range.forIn_eq_forIn_range', Std.Legacy.Range.size]
  simp [sizeOf, typeInfo, hj, hjs, List.range']
  rw [run_part_int (v := .int .i64 a) Tryd.underlying3 (by rfl)]
  simp only [Result.andThen_ok]
  rw [run_part_int (v := .int .i64 c) Tryd.underlying3 (by rfl)]
  simp only [Result.andThen_ok]
  rw [h3]
  simp only [Result.andThen_ok]
  cases h : a == c
  · simp
  · simp only [Bool.true_eq_false, if_false, Bool.true_and]
    rw [run_part_int (v := .int .i64 b) Tryd.underlying3 (by rfl)]
    simp only [Result.andThen_ok]
    rw [run_part_int (v := .int .i64 d) Tryd.underlying3 (by rfl)]
    simp only [Result.andThen_ok]
    rw [h3]
    simp only [Result.andThen_ok]
    cases h : b == d <;> simp
theorem eql_arr2 (a b c d : Int) (W : World) : (Op.equalIn 10000 26 (.agg #[.int .i64 a, .int .i64 b]) (.agg #[.int .i64 c, .int .i64 d])).run Tryd.prog W = .ok (a == c && b == d) W :=
  eql_arr2_at 9999 (fun x y W => run_equalIn_int W 9998 _ .i64 .i64 x y Tryd.underlying3) a b c d W
end Go.Proofs.YtbckkmicdpjnaaaDoor
