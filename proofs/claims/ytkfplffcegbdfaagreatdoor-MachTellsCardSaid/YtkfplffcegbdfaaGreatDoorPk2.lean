/-
  The small calls of package mach answer what the plain functions say. No condition beyond those that each theorem states.
  Machines that come in as arguments: their cells. No condition beyond those that each theorem states.
-/
import Derived.Test.YtkfplffcegbdfaaGreatDoorMaP
import Derived.Test.YtkfplffcegbdfaaGreatDoorProg
import Derived.ChangeKeysEq
import Derived.Laws.StructEq
import Derived.Test.YtkfplffcegbdfaaGreatDoorPk1
import Derived.RegionTactic
import Derived.BigQuiet
import Derived.Deep.QuietTactic
import Derived.Deep.RegionWith
import Derived.Deep.WholeRow
namespace Go.Proofs.YtkfplffcegbdfaaGreatDoor
open Go.RowKit

def maV (S : List Int) : Value := .agg (maC S)
theorem ma_size : (Tryz.prog.info? 50).map (·.size) = some 64 := by kernel_rfl
theorem ma_bool : (Tryz.prog.info? 4).map (·.size) = some 1 := by kernel_rfl
theorem ma_cells : Tryz.prog.cellsOf 4 = 1 := by kernel_rfl
theorem run_part_bool {cs : Array Value} {o : Nat} {v : Value} (hv : cs[o]? = some v) (w : World) : (part 4 cs o).run Tryz.prog w = .ok v w := by
  simp [part, isAgg, run_underlying Tryz.underlying4, hv]
theorem items_bool (d0 : Nat) (A B : List Int) (W : World) : ∀ (is : List Nat), (∀ i ∈ is, i < 64) →
    (Op.eqItems (d0 + 1) 4 1 (maC A) (maC B) is).run Tryz.prog W = .ok (is.all fun i => A.contains (i : Int) == B.contains (i : Int)) W
  | [], _ => by simp [Op.eqItems]
  | i :: is, h => by
    have hi : i < 64 := h i (by simp)
    have ih := items_bool d0 A B W is (fun j hj => h j (by simp [hj]))
    simp only [Op.eqItems, Sem.run_bind, Nat.mul_one, List.all_cons]
    rw [run_part_bool (maC_get A hi)]
    simp only [Result.andThen_ok]
    rw [run_part_bool (maC_get B hi)]
    simp only [Result.andThen_ok]
    rw [run_equalIn_bool' W d0 4 _ _ Tryz.underlying4]
    simp only [Result.andThen_ok]
    cases hq : (A.contains (i : Int) == B.contains (i : Int))
    · simp
    · simp only [Bool.not_true, Bool.false_eq_true, if_false, ih, Bool.true_and]
theorem eql_ma (A B : List Int) (W : World) : (Op.equalIn 10000 50 (.agg (maC A)) (.agg (maC B))).run Tryz.prog W = .ok ((List.range 64).all fun i => A.contains (i : Int) == B.contains (i : Int)) W := by
  obtain ⟨j, hj, hjs⟩ := Option.map_eq_some_iff.1 ma_bool
  rw [run_equalIn_array W 9999 (maC A) (maC B) Tryz.underlying50 hj, ma_cells]
  exact items_bool 9998 A B W _ (fun i hi => by simpa using hi)
theorem eql_in {S l : List Int} (hl : ∀ r ∈ l, 0 ≤ r ∧ r < 64) : ((List.range 64).all fun i => (l ++ S).contains (i : Int) == S.contains (i : Int)) = inB S l := by
  rw [Bool.eq_iff_iff, ← in_cells hl, List.all_eq_true]
  constructor
  · intro h k hk
    have := h k (by simpa using hk)
    simpa using this
  · intro h k hk
    have := h k (by simpa using hk)
    simp only [this, beq_self_eq_true]
end Go.Proofs.YtkfplffcegbdfaaGreatDoor
namespace Go.Proofs.YtkfplffcegbdfaaGreatDoor
open Go.RowKit

def maxC (m : Mm) (aa : Option Addr) (ac : Nat) (sa : Option Addr) (sc : Nat) : Array Value := #[.int .i64 m.regs, .slice aa m.args.length ac, .int .i64 m.ret, .slice sa m.saved.length sc]
def machV (m : Mm) (aa : Option Addr) (ac : Nat) (sa : Option Addr) (sc : Nat) : Value := .agg (maxC m aa ac sa sc)
/-- A machine's rows lie there. -/
structure MaW (w : World) (m : Mm) (aa sa : Option Addr) : Prop where
  args : IntsW w aa m.args
  saved : IntsW w sa m.saved
theorem MaW.below {w w' : World} {m : Mm} {aa sa : Option Addr} (h : MaW w m aa sa) (hb : Below w.heap.size w w') : MaW w' m aa sa := ⟨h.args.below hb, h.saved.below hb⟩
theorem boxMa {W : World} {g : Nat} {t : TypeId} {m : Mm} {aa sa : Option Addr} {ac sc : Nat} (h : Blk W g t (maxC m aa ac sa sc)) :
    W.cell? ⟨g, 0, none⟩ = some (.int .i64 m.regs) ∧ W.cell? ⟨g, 1, none⟩ = some (.slice aa m.args.length ac) ∧ W.cell? ⟨g, 2, none⟩ = some (.int .i64 m.ret) ∧ W.cell? ⟨g, 3, none⟩ = some (.slice sa m.saved.length sc) := ⟨h.cell 0, h.cell 1, h.cell 2, h.cell 3⟩
def big47 : Nat := 140737488355328
set_option maxHeartbeats 1000000 in
set_option maxRecDepth 100000 in
theorem isSmall_any (m : Mm) (aa sa : Option Addr) (ac sc : Nat) (w : World) (hl : m.args.length ≤ 140737488355328) (_hs : m.saved.length ≤ 140737488355328) :
    Calls Tryz.prog 30 #[machV m aa ac sa sc] w fun e w' => e = .returned (.bool m.smallB) ∧ Below w.heap.size w w' := by
  have HB : Hid (Below w.heap.size w (w.alloc (.cells (maxC m aa ac sa sc) 24))) := (Below.refl _ w).alloc (Nat.le_refl _) _
  unfold machV maxC at *
  go_enter Tryz.func30, Tryz.ntmps30
  by_cases h1 : (1 : Int) ≤ m.regs
  · by_cases h2 : m.regs ≤ 64
    · by_cases h3 : (m.args.length : Int) ≤ 8
      · go_wp2
        go_ret
        exact ⟨by simp [Mm.smallB]; omega, HB.out⟩
      · go_wp2
        go_ret
        exact ⟨by simp [Mm.smallB]; omega, HB.out⟩
    · go_wp2
      go_ret
      exact ⟨by simp [Mm.smallB]; omega, HB.out⟩
  · go_wp2
    go_ret
    exact ⟨by simp [Mm.smallB]; omega, HB.out⟩
end Go.Proofs.YtkfplffcegbdfaaGreatDoor
namespace Go.Proofs.YtkfplffcegbdfaaGreatDoor
open Go.ChangeShapes Go.WideShapes Go.Deep Go.RowKit

section
variable {H : Type} {enc : TypeId × Value → H} {w : World} {base : Nat} {spare : Nat → Bool} {held : Bool} {fuel : Nat} {cs : List Value} {x : DataW H × List MemPlace}
theorem room_of {t e : TypeId} {a : Option Addr} {n c : Nat} (ht : Tryz.prog.underlying t = some (.slice e)) (h : DataW.trod enc Tryz.prog w base spare held fuel t [.slice a n c] = some x) : n ≤ c := by
  rcases open_slice ht h with ⟨h0, _⟩ | ⟨_, _, _, _, _, _, _, hcs, _, hl, _⟩
  · simp only [List.cons.injEq, Value.slice.injEq, and_true] at h0
    omega
  · simp only [List.cons.injEq, Value.slice.injEq, and_true] at hcs
    omega
set_option maxRecDepth 100000 in
/-- A machine, by value, and the room of its rows. -/
theorem open_machine_room {cs2 : Array Value} (hcs : cs2.toList = cs) (h : DataW.trod enc Tryz.prog w base spare held fuel 24 cs = some x) (hw : LightW 24 x.1) :
    ∃ (m : Mm) (aa : Option Addr) (ac : Nat) (sa : Option Addr) (sc : Nat), Value.agg cs2 = machV m aa ac sa sc ∧ MaW w m aa sa ∧ m.args.length ≤ 140737488355328 ∧ m.saved.length ≤ 140737488355328 ∧ m.args.length ≤ ac ∧ (aa = none → ac = 0) ∧ (sa = none → sc = 0) := by
  obtain ⟨xs, n, _, hx, hcl, hlen, hf⟩ := DataW.trod_struct Tryz.underlying24 h
  rw [show Tryz.prog.cellsOf 24 = 4 by kernel_rfl] at hcl
  match cs, hcl with
  | [c0, c1, c2, c3], _ =>
    match xs, hlen with
    | [y0, y1, y2, y3], _ =>
      have g0 : DataW.trod enc Tryz.prog w base spare held n 3 (([c0, c1, c2, c3].drop 0).take (Tryz.prog.cellsOf 3)) = some y0 := hf 0 _ rfl
      rw [show Tryz.prog.cellsOf 3 = 1 by kernel_rfl] at g0
      have g1 : DataW.trod enc Tryz.prog w base spare held n 22 (([c0, c1, c2, c3].drop 1).take (Tryz.prog.cellsOf 22)) = some y1 := hf 1 _ rfl
      rw [show Tryz.prog.cellsOf 22 = 1 by kernel_rfl] at g1
      have g2 : DataW.trod enc Tryz.prog w base spare held n 3 (([c0, c1, c2, c3].drop 2).take (Tryz.prog.cellsOf 3)) = some y2 := hf 2 _ rfl
      rw [show Tryz.prog.cellsOf 3 = 1 by kernel_rfl] at g2
      have g3 : DataW.trod enc Tryz.prog w base spare held n 22 (([c0, c1, c2, c3].drop 3).take (Tryz.prog.cellsOf 22)) = some y3 := hf 3 _ rfl
      rw [show Tryz.prog.cellsOf 22 = 1 by kernel_rfl] at g3
      have hw1 : LightW 22 y1.1 := fun k hk => hw k (by
        rw [hx]
        simp only [DataW.weights, Tryz.underlying24, List.map_cons, List.map_nil]
        simp [DataW.weightsEach, hk])
      have hw3 : LightW 22 y3.1 := fun k hk => hw k (by
        rw [hx]
        simp only [DataW.weights, Tryz.underlying24, List.map_cons, List.map_nil]
        simp [DataW.weightsEach, hk])
      obtain ⟨m0, rfl⟩ := open_int1 Tryz.underlying3 (c := c0) g0
      obtain ⟨m2, rfl⟩ := open_int1 Tryz.underlying3 (c := c2) g2
      obtain ⟨aa, ac, l, e1, e2, e3, e4⟩ := open_intsW g1 hw1
      obtain ⟨sa, sc, k, d1, d2, d3, d4⟩ := open_intsW g3 hw3
      have e1 : [c1] = _ := e1
      have d1 : [c3] = _ := d1
      have hroom : l.length ≤ ac := by
        have g9 : DataW.trod enc Tryz.prog w base spare held n 22 [c1] = some y1 := g1
        rw [e1] at g9
        exact room_of Tryz.underlying22 g9
      simp only [List.cons.injEq, and_true] at e1 d1
      refine ⟨⟨m0, l, m2, k⟩, aa, ac, sa, sc, ?_, ⟨e4, d4⟩, e3, d3, hroom, e2, d2⟩
      unfold machV maxC
      congr 1
      apply Array.toList_inj.1
      rw [hcs, e1, d1]
/-- A machine, by value. -/
theorem open_machine {cs2 : Array Value} (hcs : cs2.toList = cs) (h : DataW.trod enc Tryz.prog w base spare held fuel 24 cs = some x) (hw : LightW 24 x.1) :
    ∃ (m : Mm) (aa : Option Addr) (ac : Nat) (sa : Option Addr) (sc : Nat), Value.agg cs2 = machV m aa ac sa sc ∧ MaW w m aa sa ∧ m.args.length ≤ 140737488355328 ∧ m.saved.length ≤ 140737488355328 := by
  obtain ⟨m, aa, ac, sa, sc, h1, h2, h3, h4, _⟩ := open_machine_room hcs h hw
  exact ⟨m, aa, ac, sa, sc, h1, h2, h3, h4⟩
end
end Go.Proofs.YtkfplffcegbdfaaGreatDoor
