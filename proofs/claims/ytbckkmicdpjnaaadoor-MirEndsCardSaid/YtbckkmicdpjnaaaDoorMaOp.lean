/-
  Machines that come in as arguments: their cells. No condition beyond those that each theorem states.
-/
import Derived.Test.YtbckkmicdpjnaaaDoorKOpen
import Derived.Test.YtbckkmicdpjnaaaDoorMaA
namespace Go.Proofs.YtbckkmicdpjnaaaDoor
open Go.ChangeShapes Go.WideShapes Go.Deep Go.RowKit

section
variable {H : Type} {enc : TypeId × Value → H} {w : World} {base : Nat} {spare : Nat → Bool} {held : Bool} {fuel : Nat} {cs : List Value} {x : DataW H × List MemPlace}
theorem room_of {t e : TypeId} {a : Option Addr} {n c : Nat} (ht : Tryd.prog.underlying t = some (.slice e)) (h : DataW.trod enc Tryd.prog w base spare held fuel t [.slice a n c] = some x) : n ≤ c := by
  rcases open_slice ht h with ⟨h0, _⟩ | ⟨_, _, _, _, _, _, _, hcs, _, hl, _⟩
  · simp only [List.cons.injEq, Value.slice.injEq, and_true] at h0
    omega
  · simp only [List.cons.injEq, Value.slice.injEq, and_true] at hcs
    omega
set_option maxRecDepth 100000 in
/-- A machine, by value, and the room of its rows. -/
theorem open_machine_room {cs2 : Array Value} (hcs : cs2.toList = cs) (h : DataW.trod enc Tryd.prog w base spare held fuel 24 cs = some x) (hw : LightW 24 x.1) :
    ∃ (m : Mm) (aa : Option Addr) (ac : Nat) (sa : Option Addr) (sc : Nat), Value.agg cs2 = machV m aa ac sa sc ∧ MaW w m aa sa ∧ m.args.length ≤ 140737488355328 ∧ m.saved.length ≤ 140737488355328 ∧ m.args.length ≤ ac ∧ (aa = none → ac = 0) ∧ (sa = none → sc = 0) := by
  obtain ⟨xs, n, _, hx, hcl, hlen, hf⟩ := DataW.trod_struct Tryd.underlying24 h
  rw [show Tryd.prog.cellsOf 24 = 4 by kernel_rfl] at hcl
  match cs, hcl with
  | [c0, c1, c2, c3], _ =>
    match xs, hlen with
    | [y0, y1, y2, y3], _ =>
      have g0 : DataW.trod enc Tryd.prog w base spare held n 3 (([c0, c1, c2, c3].drop 0).take (Tryd.prog.cellsOf 3)) = some y0 := hf 0 _ rfl
      rw [show Tryd.prog.cellsOf 3 = 1 by kernel_rfl] at g0
      have g1 : DataW.trod enc Tryd.prog w base spare held n 22 (([c0, c1, c2, c3].drop 1).take (Tryd.prog.cellsOf 22)) = some y1 := hf 1 _ rfl
      rw [show Tryd.prog.cellsOf 22 = 1 by kernel_rfl] at g1
      have g2 : DataW.trod enc Tryd.prog w base spare held n 3 (([c0, c1, c2, c3].drop 2).take (Tryd.prog.cellsOf 3)) = some y2 := hf 2 _ rfl
      rw [show Tryd.prog.cellsOf 3 = 1 by kernel_rfl] at g2
      have g3 : DataW.trod enc Tryd.prog w base spare held n 22 (([c0, c1, c2, c3].drop 3).take (Tryd.prog.cellsOf 22)) = some y3 := hf 3 _ rfl
      rw [show Tryd.prog.cellsOf 22 = 1 by kernel_rfl] at g3
      have hw1 : LightW 22 y1.1 := fun k hk => hw k (by
        rw [hx]
        simp only [DataW.weights, Tryd.underlying24, List.map_cons, List.map_nil]
        simp [DataW.weightsEach, hk])
      have hw3 : LightW 22 y3.1 := fun k hk => hw k (by
        rw [hx]
        simp only [DataW.weights, Tryd.underlying24, List.map_cons, List.map_nil]
        simp [DataW.weightsEach, hk])
      obtain ⟨m0, rfl⟩ := open_int1 Tryd.underlying3 (c := c0) g0
      obtain ⟨m2, rfl⟩ := open_int1 Tryd.underlying3 (c := c2) g2
      obtain ⟨aa, ac, l, e1, e2, e3, e4⟩ := open_intsW g1 hw1
      obtain ⟨sa, sc, k, d1, d2, d3, d4⟩ := open_intsW g3 hw3
      have e1 : [c1] = _ := e1
      have d1 : [c3] = _ := d1
      have hroom : l.length ≤ ac := by
        have g9 : DataW.trod enc Tryd.prog w base spare held n 22 [c1] = some y1 := g1
        rw [e1] at g9
        exact room_of Tryd.underlying22 g9
      simp only [List.cons.injEq, and_true] at e1 d1
      refine ⟨⟨m0, l, m2, k⟩, aa, ac, sa, sc, ?_, ⟨e4, d4⟩, e3, d3, hroom, e2, d2⟩
      unfold machV maxC
      congr 1
      apply Array.toList_inj.1
      rw [hcs, e1, d1]
/-- A machine, by value. -/
theorem open_machine {cs2 : Array Value} (hcs : cs2.toList = cs) (h : DataW.trod enc Tryd.prog w base spare held fuel 24 cs = some x) (hw : LightW 24 x.1) :
    ∃ (m : Mm) (aa : Option Addr) (ac : Nat) (sa : Option Addr) (sc : Nat), Value.agg cs2 = machV m aa ac sa sc ∧ MaW w m aa sa ∧ m.args.length ≤ 140737488355328 ∧ m.saved.length ≤ 140737488355328 := by
  obtain ⟨m, aa, ac, sa, sc, h1, h2, h3, h4, _⟩ := open_machine_room hcs h hw
  exact ⟨m, aa, ac, sa, sc, h1, h2, h3, h4⟩
end
end Go.Proofs.YtbckkmicdpjnaaaDoor
