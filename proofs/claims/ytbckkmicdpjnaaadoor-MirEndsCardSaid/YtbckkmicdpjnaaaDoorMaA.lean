/-
  The small calls of package mach answer what the plain functions say. No condition beyond those that each theorem states.
-/
import Derived.Test.YtbckkmicdpjnaaaDoorMaP
import Derived.Test.YtbckkmicdpjnaaaDoorProg
import Derived.ChangeKeysEq
import Derived.Laws.StructEq
import Derived.Test.YtbckkmicdpjnaaaDoorKInts
import Derived.RegionTactic
import Derived.BigQuiet
import Derived.Deep.QuietTactic
import Derived.Deep.RegionWith
import Derived.Deep.WholeRow
namespace Go.Proofs.YtbckkmicdpjnaaaDoor
open Go.RowKit

def maV (S : List Int) : Value := .agg (maC S)
theorem ma_size : (Tryd.prog.info? 79).map (·.size) = some 64 := by kernel_rfl
theorem ma_bool : (Tryd.prog.info? 4).map (·.size) = some 1 := by kernel_rfl
theorem ma_cells : Tryd.prog.cellsOf 4 = 1 := by kernel_rfl
theorem run_part_bool {cs : Array Value} {o : Nat} {v : Value} (hv : cs[o]? = some v) (w : World) : (part 4 cs o).run Tryd.prog w = .ok v w := by
  simp [part, isAgg, run_underlying Tryd.underlying4, hv]
theorem items_bool (d0 : Nat) (A B : List Int) (W : World) : ∀ (is : List Nat), (∀ i ∈ is, i < 64) →
    (Op.eqItems (d0 + 1) 4 1 (maC A) (maC B) is).run Tryd.prog W = .ok (is.all fun i => A.contains (i : Int) == B.contains (i : Int)) W
  | [], _ => by simp [Op.eqItems]
  | i :: is, h => by
    have hi : i < 64 := h i (by simp)
    have ih := items_bool d0 A B W is (fun j hj => h j (by simp [hj]))
    simp only [Op.eqItems, Sem.run_bind, Nat.mul_one, List.all_cons]
    rw [run_part_bool (maC_get A hi)]
    simp only [Result.andThen_ok]
    rw [run_part_bool (maC_get B hi)]
    simp only [Result.andThen_ok]
    rw [run_equalIn_bool' W d0 4 _ _ Tryd.underlying4]
    simp only [Result.andThen_ok]
    cases hq : (A.contains (i : Int) == B.contains (i : Int))
    · simp
    · simp only [Bool.not_true, Bool.false_eq_true, if_false, ih, Bool.true_and]
theorem eql_ma (A B : List Int) (W : World) : (Op.equalIn 10000 79 (.agg (maC A)) (.agg (maC B))).run Tryd.prog W = .ok ((List.range 64).all fun i => A.contains (i : Int) == B.contains (i : Int)) W := by
  obtain ⟨j, hj, hjs⟩ := Option.map_eq_some_iff.1 ma_bool
  rw [run_equalIn_array W 9999 (maC A) (maC B) Tryd.underlying79 hj, ma_cells]
  exact items_bool 9998 A B W _ (fun i hi => by simpa using hi)
theorem eql_in {S l : List Int} (hl : ∀ r ∈ l, 0 ≤ r ∧ r < 64) : ((List.range 64).all fun i => (l ++ S).contains (i : Int) == S.contains (i : Int)) = inB S l := by
  rw [Bool.eq_iff_iff, ← in_cells hl, List.all_eq_true]
  constructor
  · intro h k hk
    have := h k (by simpa using hk)
    simpa using this
  · intro h k hk
    have := h k (by simpa using hk)
    simp only [this, beq_self_eq_true]
end Go.Proofs.YtbckkmicdpjnaaaDoor
namespace Go.Proofs.YtbckkmicdpjnaaaDoor
open Go.RowKit

def maxC (m : Mm) (aa : Option Addr) (ac : Nat) (sa : Option Addr) (sc : Nat) : Array Value := #[.int .i64 m.regs, .slice aa m.args.length ac, .int .i64 m.ret, .slice sa m.saved.length sc]
def machV (m : Mm) (aa : Option Addr) (ac : Nat) (sa : Option Addr) (sc : Nat) : Value := .agg (maxC m aa ac sa sc)
/-- A machine's rows lie there. -/
structure MaW (w : World) (m : Mm) (aa sa : Option Addr) : Prop where
  args : IntsW w aa m.args
  saved : IntsW w sa m.saved
theorem MaW.below {w w' : World} {m : Mm} {aa sa : Option Addr} (h : MaW w m aa sa) (hb : Below w.heap.size w w') : MaW w' m aa sa := ⟨h.args.below hb, h.saved.below hb⟩
theorem boxMa {W : World} {g : Nat} {t : TypeId} {m : Mm} {aa sa : Option Addr} {ac sc : Nat} (h : Blk W g t (maxC m aa ac sa sc)) :
    W.cell? ⟨g, 0, none⟩ = some (.int .i64 m.regs) ∧ W.cell? ⟨g, 1, none⟩ = some (.slice aa m.args.length ac) ∧ W.cell? ⟨g, 2, none⟩ = some (.int .i64 m.ret) ∧ W.cell? ⟨g, 3, none⟩ = some (.slice sa m.saved.length sc) := ⟨h.cell 0, h.cell 1, h.cell 2, h.cell 3⟩
def big47 : Nat := 140737488355328
set_option maxHeartbeats 1000000 in
set_option maxRecDepth 100000 in
theorem isSmall_any (m : Mm) (aa sa : Option Addr) (ac sc : Nat) (w : World) (hl : m.args.length ≤ 140737488355328) (_hs : m.saved.length ≤ 140737488355328) :
    Calls Tryd.prog 48 #[machV m aa ac sa sc] w fun e w' => e = .returned (.bool m.smallB) ∧ Below w.heap.size w w' := by
  have HB : Hid (Below w.heap.size w (w.alloc (.cells (maxC m aa ac sa sc) 24))) := (Below.refl _ w).alloc (Nat.le_refl _) _
  unfold machV maxC at *
  go_enter Tryd.func48, Tryd.ntmps48
  by_cases h1 : (1 : Int) ≤ m.regs
  · by_cases h2 : m.regs ≤ 64
    · by_cases h3 : (m.args.length : Int) ≤ 8
      · go_wp2
        go_ret
        exact ⟨by simp [Mm.smallB]; omega, HB.out⟩
      · go_wp2
        go_ret
        exact ⟨by simp [Mm.smallB]; omega, HB.out⟩
    · go_wp2
      go_ret
      exact ⟨by simp [Mm.smallB]; omega, HB.out⟩
  · go_wp2
    go_ret
    exact ⟨by simp [Mm.smallB]; omega, HB.out⟩
end Go.Proofs.YtbckkmicdpjnaaaDoor
