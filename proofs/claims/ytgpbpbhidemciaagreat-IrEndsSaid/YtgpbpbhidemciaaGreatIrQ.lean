/-
  Arrays of numbers are one just if all their numbers are. No condition beyond those that each theorem states.
-/
import Derived.Test.YtgpbpbhidemciaaGreatIrD
import Derived.Laws.StructEq
namespace Go.Proofs.YtgpbpbhidemciaaGreat
open Go.RowKit

theorem int_size : (Tryz.prog.info? 3).map (·.size) = some 1 := by kernel_rfl
theorem u64_size : (Tryz.prog.info? 97).map (·.size) = some 1 := by kernel_rfl
theorem run_part_int {t : TypeId} {k : IntKind} (h : Tryz.prog.underlying t = some (.int k)) {cs : Array Value} {o : Nat} {v : Value} (hv : cs[o]? = some v) (w : World) : (part t cs o).run Tryz.prog w = .ok v w := by
  simp [part, isAgg, run_underlying h, hv]
theorem eql_arr2_at (d0 : Nat) (h3 : ∀ (x y : Int) (W : World), (Op.equalIn d0 3 (.int .i64 x) (.int .i64 y)).run Tryz.prog W = .ok (x == y) W) (a b c d : Int) (W : World) :
    (Op.equalIn (d0 + 1) 28 (.agg #[.int .i64 a, .int .i64 b]) (.agg #[.int .i64 c, .int .i64 d])).run Tryz.prog W = .ok (a == c && b == d) W := by
  obtain ⟨j, hj, hjs⟩ := Option.map_eq_some_iff.1 int_size
  simp only [Op.equalIn, Sem.run_bind, run_underlying Tryz.underlying28, Result.andThen_ok, Std.Legacy.Range.forIn_eq_forIn_range', Std.Legacy.Range.size]
  simp [sizeOf, typeInfo, hj, hjs, List.range']
  rw [run_part_int (v := .int .i64 a) Tryz.underlying3 (by rfl)]
  simp only [Result.andThen_ok]
  rw [run_part_int (v := .int .i64 c) Tryz.underlying3 (by rfl)]
  simp only [Result.andThen_ok]
  rw [h3]
  simp only [Result.andThen_ok]
  cases h : a == c
  · simp
  · simp only [Bool.true_eq_false, if_false, Bool.true_and]
    rw [run_part_int (v := .int .i64 b) Tryz.underlying3 (by rfl)]
    simp only [Result.andThen_ok]
    rw [run_part_int (v := .int .i64 d) Tryz.underlying3 (by rfl)]
    simp only [Result.andThen_ok]
    rw [h3]
    simp only [Result.andThen_ok]
    cases h : b == d <;> simp
theorem eql_arr2 (a b c d : Int) (W : World) : (Op.equalIn 10000 28 (.agg #[.int .i64 a, .int .i64 b]) (.agg #[.int .i64 c, .int .i64 d])).run Tryz.prog W = .ok (a == c && b == d) W :=
  eql_arr2_at 9999 (fun x y W => run_equalIn_int W 9998 _ .i64 .i64 x y Tryz.underlying3) a b c d W
theorem eql_arr4_at (d0 : Nat) (h3 : ∀ (x y : Int) (W : World), (Op.equalIn d0 97 (.int .u64 x) (.int .u64 y)).run Tryz.prog W = .ok (x == y) W) (a b c d a' b' c' d' : Int) (W : World) :
    (Op.equalIn (d0 + 1) 99 (.agg #[.int .u64 a, .int .u64 b, .int .u64 c, .int .u64 d]) (.agg #[.int .u64 a', .int .u64 b', .int .u64 c', .int .u64 d'])).run Tryz.prog W = .ok (a == a' && b == b' && c == c' && d == d') W := by
  obtain ⟨j, hj, hjs⟩ := Option.map_eq_some_iff.1 u64_size
  simp only [Op.equalIn, Sem.run_bind, run_underlying Tryz.underlying99, Result.andThen_ok, Std.Legacy.Range.forIn_eq_forIn_range', Std.Legacy.Range.size]
  simp [sizeOf, typeInfo, hj, hjs, List.range']
  rw [run_part_int (v := .int .u64 a) Tryz.underlying97 (by rfl)]
  simp only [Result.andThen_ok]
  rw [run_part_int (v := .int .u64 a') Tryz.underlying97 (by rfl)]
  simp only [Result.andThen_ok]
  rw [h3]
  simp only [Result.andThen_ok]
  cases h : a == a'
  · simp
  simp only [Bool.true_eq_false, if_false, Bool.true_and]
  rw [run_part_int (v := .int .u64 b) Tryz.underlying97 (by rfl)]
  simp only [Result.andThen_ok]
  rw [run_part_int (v := .int .u64 b') Tryz.underlying97 (by rfl)]
  simp only [Result.andThen_ok]
  rw [h3]
  simp only [Result.andThen_ok]
  cases h : b == b'
  · simp
  simp only [Bool.true_eq_false, if_false, Bool.true_and]
  rw [run_part_int (v := .int .u64 c) Tryz.underlying97 (by rfl)]
  simp only [Result.andThen_ok]
  rw [run_part_int (v := .int .u64 c') Tryz.underlying97 (by rfl)]
  simp only [Result.andThen_ok]
  rw [h3]
  simp only [Result.andThen_ok]
  cases h : c == c'
  · simp
  simp only [Bool.true_eq_false, if_false, Bool.true_and]
  rw [run_part_int (v := .int .u64 d) Tryz.underlying97 (by rfl)]
  simp only [Result.andThen_ok]
  rw [run_part_int (v := .int .u64 d') Tryz.underlying97 (by rfl)]
  simp only [Result.andThen_ok]
  rw [h3]
  simp only [Result.andThen_ok]
  cases h : d == d' <;> simp
theorem eql_set (a b c d a' b' c' d' : Int) (W : World) :
    (Op.equalIn 10000 99 (.agg #[.int .u64 a, .int .u64 b, .int .u64 c, .int .u64 d]) (.agg #[.int .u64 a', .int .u64 b', .int .u64 c', .int .u64 d'])).run Tryz.prog W = .ok (a == a' && b == b' && c == c' && d == d') W :=
  eql_arr4_at 9999 (fun x y W => run_equalIn_int W 9998 _ .u64 .u64 x y Tryz.underlying97) a b c d a' b' c' d' W
end Go.Proofs.YtgpbpbhidemciaaGreat
