/-
  Functions of variables that come in as arguments: their cells, and that nothing in them is beyond the reach. No condition beyond those that each theorem states.
-/
import Derived.Test.YtcofoeenfohpnaaIrCt
import Derived.Deep.Fields
import Derived.ChangeSame
import Derived.OpenShut
import Derived.SizedLaws
namespace Go.Proofs.Ytcofoeenfohpnaa
open Go.ChangeShapes Go.WideShapes Go.Deep Go.RowKit

theorem ir_spot {w : World} {a : Addr} {v : Value} (h : w.cell? a = some v) : a = ⟨a.block, a.off, none⟩ := by
  obtain ⟨g, o, s⟩ := a
  cases s with
  | none => rfl
  | some e =>
    exfalso
    unfold World.cell? at h
    simp only [Option.isSome_some, if_true] at h
    split at h <;> simp at h
theorem ir_off (a : Addr) (ha : a = ⟨a.block, a.off, none⟩) (j : Nat) : a.add j = ⟨a.block, a.off + j, none⟩ := by
  unfold Addr.add
  split
  · subst_vars; exact ha
  · rfl
theorem ir_head {w : World} {a : Addr} {v : Value} (h : w.cell? (a.add 0) = some v) : a = ⟨a.block, a.off, none⟩ ∧ a.block < w.heap.size := by
  have e : a.add 0 = a := by unfold Addr.add; simp
  rw [e] at h
  exact ⟨ir_spot h, World.block_lt_of_cell? w _ h⟩
theorem ir_all_mem {H : Type} {P : Program} {e : TypeId} : ∀ {l : List (DataW H)} {d : DataW H}, d ∈ l → ∀ n ∈ d.weights P e, n ∈ DataW.weightsAll P e l
  | _ :: r, d, hd, n, hn => by
    simp only [DataW.weightsAll, List.mem_append]
    rcases List.mem_cons.1 hd with rfl | h
    · exact .inl hn
    · exact .inr (ir_all_mem h n hn)
theorem reach_is : reachBytes = 140737488351232 := by decide
/-- No weight of it is beyond the reach. -/
def LightW {H : Type} (t : TypeId) (d : DataW H) : Prop := ∀ n ∈ d.weights Try.prog t, n ≤ 140737488351232
section
variable {H : Type} {enc : TypeId × Value → H} {w : World} {base : Nat} {spare : Nat → Bool} {held : Bool} {fuel : Nat} {cs : List Value} {x : DataW H × List MemPlace}
theorem light_slice {t e : TypeId} {ds sp : List (DataW H)} (ht : Try.prog.underlying t = some (.slice e)) (h : LightW t (.slice ds sp)) : ds.length * Try.prog.bytesOf e ≤ 140737488351232 ∧ ∀ d ∈ ds, LightW e d := by
  constructor
  · have h1 : (ds.length + sp.length) * Try.prog.bytesOf e ≤ 140737488351232 := h _ (by simp only [DataW.weights, ht, List.mem_cons]; exact .inl trivial)
    exact Nat.le_trans (Nat.mul_le_mul_right _ (by omega)) h1
  · intro d hd n hn
    refine h n ?_
    simp only [DataW.weights, ht, List.mem_cons, List.mem_append]
    exact .inr (.inl (ir_all_mem hd _ hn))
/-- A row of elements: the cells of each, opened by what opens one. -/
theorem open_rowG {t e : TypeId} {sz : Nat} {α : Type} {R : α → List Value → Prop} {C : α → Prop} (d0 : α) (ht : Try.prog.underlying t = some (.slice e)) (hC : Try.prog.cellsOf e = sz) (hsz : 0 < sz) (hb : 1 ≤ Try.prog.bytesOf e)
    (hone : ∀ (fuel : Nat) (cs : List Value) (y : DataW H × List MemPlace), DataW.trod enc Try.prog w base spare held fuel e cs = some y → LightW e y.1 → ∃ z, R z cs ∧ C z)
    (h : DataW.trod enc Try.prog w base spare held fuel t cs = some x) (hw : LightW t x.1) :
    ∃ (a : Option Addr) (c : Nat) (l : List α), cs = [.slice a l.length c] ∧ (a = none → c = 0) ∧ l.length ≤ 140737488355328 ∧ (∀ z ∈ l, C z) ∧
      ∀ (k : Nat) (z : α), l[k]? = some z → ∃ g o cs', a = some ⟨g, o, none⟩ ∧ g < w.heap.size ∧ R z cs' ∧ ∀ j v, j < sz → cs'[j]? = some v → w.cell? ⟨g, o + (k * sz + j), none⟩ = some v := by
  rcases open_slice ht h with ⟨h0, _⟩ | ⟨a, len, cap, m, n, D, Pl, hcs, hbb, hl, hm, hmm, hx, hi⟩
  · exact ⟨none, 0, [], h0, fun _ => rfl, by simp, by simp, fun k z hz => by simp at hz⟩
  · have hlm : len ≤ m := by rw [hmm]; split <;> omega
    rw [hx] at hw
    obtain ⟨hw1, hw2⟩ := light_slice ht hw
    have hex : ∀ i, ∃ z, i < len → C z ∧ ∃ cs', R z cs' ∧ ∀ j v, j < sz → cs'[j]? = some v → w.cell? (a.add (i * sz + j)) = some v := by
      intro i
      by_cases hil : i < len
      · obtain ⟨cs', hc, ht'⟩ := hi i (by omega)
        obtain ⟨z, hz1, hz2⟩ := hone _ _ _ ht' (hw2 _ (List.mem_map.2 ⟨i, List.mem_range.2 hil, rfl⟩))
        rw [hC] at hc
        obtain ⟨_, _, hat⟩ := World.cells?_some hc
        simp only [Go.Deep.add_add] at hat
        refine ⟨z, fun _ => ⟨hz2, cs', hz1, fun j v hj hv => ?_⟩⟩
        have h9 := hat j hj
        rw [h9]
        exact hv
      · exact ⟨d0, fun h => absurd h hil⟩
    refine ⟨some a, cap, (List.range len).map (fun i => (hex i).choose), by simpa using hcs, (fun h => by cases h), ?_, ?_, ?_⟩
    · simp only [List.length_map, List.length_range] at hw1 ⊢
      have := Nat.mul_le_mul_left len hb
      omega
    · intro z hz
      obtain ⟨i, hir, rfl⟩ := List.mem_map.1 hz
      exact ((hex i).choose_spec (List.mem_range.1 hir)).1
    · intro k z hz
      rw [List.getElem?_map] at hz
      by_cases hkl : k < len
      · rw [List.getElem?_range hkl] at hz
        simp only [Option.map_some, Option.some.injEq] at hz
        rw [← hz]
        obtain ⟨cs0, hc0, ht0⟩ := hi 0 (by omega)
        rw [hC] at hc0
        obtain ⟨_, hlen0, hat0⟩ := World.cells?_some hc0
        have h00 := hat0 0 hsz
        rw [Nat.zero_mul, Go.Deep.add_add, List.getElem?_eq_getElem (by omega)] at h00
        obtain ⟨ha, hg⟩ := ir_head h00
        obtain ⟨cs', hR, hcell⟩ := ((hex k).choose_spec hkl).2
        refine ⟨a.block, a.off, cs', congrArg some ha, hg, hR, fun j v hj hv => ?_⟩
        have := hcell j v hj hv
        rw [ir_off a ha] at this
        exact this
      · rw [List.getElem?_eq_none (by simpa using hkl)] at hz
        simp at hz
theorem open_int1 {k : TypeId} (hk : Try.prog.underlying k = some (.int .i64)) {c : Value} {y : DataW H × List MemPlace} {n : Nat} (h : DataW.trod enc Try.prog w base spare held n k [c] = some y) : ∃ m : Int, c = .int .i64 m := by
  obtain ⟨m, e, _, _⟩ := DataW.trod_int hk h
  have e : [c] = _ := e
  simp only [List.cons.injEq, and_true] at e
  exact ⟨m, e⟩
theorem open_intsW (h : DataW.trod enc Try.prog w base spare held fuel 23 cs = some x) (hw : LightW 23 x.1) :
    ∃ (a : Option Addr) (c : Nat) (l : List Int), cs = [.slice a l.length c] ∧ (a = none → c = 0) ∧ l.length ≤ 140737488355328 ∧ IntsW w a l := by
  obtain ⟨a, c, l, h1, h2, h3, _, h5⟩ := open_rowG (R := fun (z : Int) cs => cs = [.int .i64 z]) (C := fun _ => True) 0 (sz := 1) Try.underlying23 (by kernel_rfl) (by omega) (by decide +kernel) (fun fuel cs y hy _ => by
    obtain ⟨m, e, _, _⟩ := DataW.trod_int Try.underlying3 hy
    exact ⟨m, e, trivial⟩) h hw
  refine ⟨a, c, l, h1, h2, h3, fun k z hz => ?_⟩
  obtain ⟨g, o, cs', e1, e2, e3, e4⟩ := h5 k z hz
  subst e3
  have := e4 0 _ (by omega) rfl
  rw [Nat.mul_one, Nat.add_zero] at this
  exact ⟨g, o, e1, e2, this⟩
/-- One instruction. -/
structure InC (w : World) (y : Ii) (cs : List Value) (ia : Option Addr) (ic : Nat) : Prop where
  cells : cs = [.int .i64 y.op, .int .i64 y.dst, .int .i64 y.a, .int .i64 y.b, .int .i64 y.imm, .int .i64 y.callee, .slice ia y.args.length ic, .int .i64 y.many]
  nil : ia = none → ic = 0
  args : IntsW w ia y.args
theorem ins_cells : Try.prog.cellsOf 25 = 8 := by kernel_rfl
set_option maxRecDepth 100000 in
theorem open_one_ins (h : DataW.trod enc Try.prog w base spare held fuel 25 cs = some x) (hw : LightW 25 x.1) : ∃ y : Ii, (∃ ia ic, InC w y cs ia ic) ∧ y.args.length ≤ 140737488355328 := by
  obtain ⟨xs, n, _, hx, hcl, hlen, hf⟩ := DataW.trod_struct Try.underlying25 h
  rw [ins_cells] at hcl
  match cs, hcl with
  | [c0, c1, c2, c3, c4, c5, c6, c7], _ =>
    match xs, hlen with
    | [y0, y1, y2, y3, y4, y5, y6, y7], _ =>
      have g0 : DataW.trod enc Try.prog w base spare held n 22 (([c0, c1, c2, c3, c4, c5, c6, c7].drop 0).take (Try.prog.cellsOf 22)) = some y0 := hf 0 _ rfl
      rw [show Try.prog.cellsOf 22 = 1 by kernel_rfl] at g0
      have g1 : DataW.trod enc Try.prog w base spare held n 3 (([c0, c1, c2, c3, c4, c5, c6, c7].drop 1).take (Try.prog.cellsOf 3)) = some y1 := hf 1 _ rfl
      rw [show Try.prog.cellsOf 3 = 1 by kernel_rfl] at g1
      have g2 : DataW.trod enc Try.prog w base spare held n 3 (([c0, c1, c2, c3, c4, c5, c6, c7].drop 2).take (Try.prog.cellsOf 3)) = some y2 := hf 2 _ rfl
      rw [show Try.prog.cellsOf 3 = 1 by kernel_rfl] at g2
      have g3 : DataW.trod enc Try.prog w base spare held n 3 (([c0, c1, c2, c3, c4, c5, c6, c7].drop 3).take (Try.prog.cellsOf 3)) = some y3 := hf 3 _ rfl
      rw [show Try.prog.cellsOf 3 = 1 by kernel_rfl] at g3
      have g4 : DataW.trod enc Try.prog w base spare held n 3 (([c0, c1, c2, c3, c4, c5, c6, c7].drop 4).take (Try.prog.cellsOf 3)) = some y4 := hf 4 _ rfl
      rw [show Try.prog.cellsOf 3 = 1 by kernel_rfl] at g4
      have g5 : DataW.trod enc Try.prog w base spare held n 3 (([c0, c1, c2, c3, c4, c5, c6, c7].drop 5).take (Try.prog.cellsOf 3)) = some y5 := hf 5 _ rfl
      rw [show Try.prog.cellsOf 3 = 1 by kernel_rfl] at g5
      have g6 : DataW.trod enc Try.prog w base spare held n 23 (([c0, c1, c2, c3, c4, c5, c6, c7].drop 6).take (Try.prog.cellsOf 23)) = some y6 := hf 6 _ rfl
      rw [show Try.prog.cellsOf 23 = 1 by kernel_rfl] at g6
      have g7 : DataW.trod enc Try.prog w base spare held n 3 (([c0, c1, c2, c3, c4, c5, c6, c7].drop 7).take (Try.prog.cellsOf 3)) = some y7 := hf 7 _ rfl
      rw [show Try.prog.cellsOf 3 = 1 by kernel_rfl] at g7
      obtain ⟨m0, rfl⟩ := open_int1 Try.underlying22 g0
      obtain ⟨m1, rfl⟩ := open_int1 Try.underlying3 g1
      obtain ⟨m2, rfl⟩ := open_int1 Try.underlying3 g2
      obtain ⟨m3, rfl⟩ := open_int1 Try.underlying3 g3
      obtain ⟨m4, rfl⟩ := open_int1 Try.underlying3 g4
      obtain ⟨m5, rfl⟩ := open_int1 Try.underlying3 g5
      obtain ⟨m7, rfl⟩ := open_int1 Try.underlying3 g7
      have hw6 : LightW 23 y6.1 := fun k hk => hw k (by
        rw [hx]
        simp only [DataW.weights, Try.underlying25, List.map_cons, List.map_nil, DataW.weightsEach, List.mem_append]
        simp [hk])
      obtain ⟨ia, ic, l, e1, e2, e3, e4⟩ := open_intsW g6 hw6
      have e1 : [c6] = _ := e1
      simp only [List.cons.injEq, and_true] at e1
      exact ⟨⟨m0, m1, m2, m3, m4, m5, l, m7⟩, ⟨ia, ic, by rw [e1], e2, e4⟩, e3⟩
def noI : Ii := ⟨0, 0, 0, 0, 0, 0, [], 0⟩
theorem open_insW (h : DataW.trod enc Try.prog w base spare held fuel 55 cs = some x) (hw : LightW 55 x.1) :
    ∃ (a : Option Addr) (c : Nat) (l : List Ii), cs = [.slice a l.length c] ∧ (a = none → c = 0) ∧ l.length ≤ 140737488355328 ∧ (∀ i ∈ l, i.args.length ≤ 140737488355328) ∧ InsW w a l := by
  obtain ⟨a, c, l, h1, h2, h3, h4, h5⟩ := open_rowG (R := fun (z : Ii) cs => ∃ ia ic, InC w z cs ia ic) (C := fun z => z.args.length ≤ 140737488355328) noI (sz := 8) Try.underlying55 ins_cells (by omega) (by decide +kernel) (fun fuel cs y hy hl => open_one_ins hy hl) h hw
  refine ⟨a, c, l, h1, h2, h3, h4, fun k z hz => ?_⟩
  obtain ⟨g, o, cs', e1, e2, ⟨ia, ic, e3⟩, e4⟩ := h5 k z hz
  have hc := e3.cells
  subst hc
  have q0 := e4 0 _ (by omega) rfl
  have q1 := e4 1 _ (by omega) rfl
  have q2 := e4 2 _ (by omega) rfl
  have q3 := e4 3 _ (by omega) rfl
  have q4 := e4 4 _ (by omega) rfl
  have q5 := e4 5 _ (by omega) rfl
  have q6 := e4 6 _ (by omega) rfl
  have q7 := e4 7 _ (by omega) rfl
  simp only [← Nat.add_assoc] at q0 q1 q2 q3 q4 q5 q6 q7
  exact ⟨g, o, ia, ic, e1, e2, ⟨q0, q1, q2, q3, q4, q5, q6, q7, e3.nil, e3.args⟩⟩
/-- One block. -/
structure BlC (w : World) (y : Bb) (cs : List Value) (ia : Option Addr) (ic : Nat) : Prop where
  cells : cs = [.slice ia y.ins.length ic, .int .i64 y.tm.kind, .int .i64 y.tm.a, .int .i64 y.tm.t0, .int .i64 y.tm.t1]
  nil : ia = none → ic = 0
  ins : InsW w ia y.ins
theorem block_cells : Try.prog.cellsOf 57 = 5 := by kernel_rfl
theorem term_cells : Try.prog.cellsOf 29 = 4 := by kernel_rfl
theorem arr_cells : Try.prog.cellsOf 27 = 2 := by kernel_rfl
theorem row_cells : Try.prog.cellsOf 55 = 1 := by kernel_rfl
theorem rowI_cells : Try.prog.cellsOf 23 = 1 := by kernel_rfl
theorem rowB_cells : Try.prog.cellsOf 41 = 1 := by kernel_rfl
theorem int_cells : Try.prog.cellsOf 3 = 1 := by kernel_rfl
theorem kind_cells : Try.prog.cellsOf 26 = 1 := by kernel_rfl
set_option maxRecDepth 100000 in
theorem open_term (h : DataW.trod enc Try.prog w base spare held fuel 29 cs = some x) : ∃ t : Tt, cs = [.int .i64 t.kind, .int .i64 t.a, .int .i64 t.t0, .int .i64 t.t1] := by
  obtain ⟨xs, n, _, hx, hcl, hlen, hf⟩ := DataW.trod_struct Try.underlying29 h
  rw [term_cells] at hcl
  match cs, hcl with
  | [c0, c1, c2, c3], _ =>
    match xs, hlen with
    | [y0, y1, y2], _ =>
      have g0 : DataW.trod enc Try.prog w base spare held n 26 (([c0, c1, c2, c3].drop 0).take (Try.prog.cellsOf 26)) = some y0 := hf 0 _ rfl
      rw [kind_cells] at g0
      have g1 : DataW.trod enc Try.prog w base spare held n 3 (([c0, c1, c2, c3].drop 1).take (Try.prog.cellsOf 3)) = some y1 := hf 1 _ rfl
      rw [int_cells] at g1
      have g2 : DataW.trod enc Try.prog w base spare held n 27 (([c0, c1, c2, c3].drop 2).take (Try.prog.cellsOf 27)) = some y2 := hf 2 _ rfl
      rw [arr_cells] at g2
      obtain ⟨m0, rfl⟩ := open_int1 Try.underlying26 g0
      obtain ⟨m1, rfl⟩ := open_int1 Try.underlying3 g1
      obtain ⟨zs, k, _, _, _, hzl, hz⟩ := DataW.trod_array Try.underlying27 g2
      match zs, hzl with
      | [z0, z1], _ =>
        have k0 := hz 0 (by omega)
        have k1 := hz 1 (by omega)
        rw [int_cells] at k0 k1
        obtain ⟨m2, rfl⟩ := open_int1 Try.underlying3 (c := c2) k0
        obtain ⟨m3, rfl⟩ := open_int1 Try.underlying3 (c := c3) k1
        exact ⟨⟨m0, m1, m2, m3⟩, rfl⟩
def BigB (y : Bb) : Prop := y.ins.length ≤ 140737488355328 ∧ ∀ i ∈ y.ins, i.args.length ≤ 140737488355328
set_option maxRecDepth 100000 in
theorem open_one_block (h : DataW.trod enc Try.prog w base spare held fuel 57 cs = some x) (hw : LightW 57 x.1) : ∃ y : Bb, (∃ ia ic, BlC w y cs ia ic) ∧ BigB y := by
  obtain ⟨xs, n, _, hx, hcl, hlen, hf⟩ := DataW.trod_struct Try.underlying57 h
  rw [block_cells] at hcl
  match cs, hcl with
  | [c0, c1, c2, c3, c4], _ =>
    match xs, hlen with
    | [y0, y1], _ =>
      have g0 : DataW.trod enc Try.prog w base spare held n 55 (([c0, c1, c2, c3, c4].drop 0).take (Try.prog.cellsOf 55)) = some y0 := hf 0 _ rfl
      rw [row_cells] at g0
      have g1 : DataW.trod enc Try.prog w base spare held n 29 (([c0, c1, c2, c3, c4].drop 1).take (Try.prog.cellsOf 29)) = some y1 := hf 1 _ rfl
      rw [term_cells] at g1
      have hw0 : LightW 55 y0.1 := fun k hk => hw k (by
        rw [hx]
        simp only [DataW.weights, Try.underlying57, List.map_cons, List.map_nil]
        simp [DataW.weightsEach, hk])
      obtain ⟨ia, ic, l, e1, e2, e3, e4, e5⟩ := open_insW g0 hw0
      obtain ⟨t, ht⟩ := open_term g1
      have e1 : [c0] = _ := e1
      have ht : [c1, c2, c3, c4] = _ := ht
      simp only [List.cons.injEq, and_true] at e1 ht
      obtain ⟨t0, t1, t2, t3⟩ := ht
      exact ⟨⟨l, t⟩, ⟨ia, ic, by rw [e1, t0, t1, t2, t3], e2, e5⟩, e3, e4⟩
def noB : Bb := ⟨[], ⟨0, 0, 0, 0⟩⟩
theorem open_blocksW (h : DataW.trod enc Try.prog w base spare held fuel 41 cs = some x) (hw : LightW 41 x.1) :
    ∃ (a : Option Addr) (c : Nat) (l : List Bb), cs = [.slice a l.length c] ∧ (a = none → c = 0) ∧ l.length ≤ 140737488355328 ∧ (∀ i ∈ l, BigB i) ∧ BlsW w a l := by
  obtain ⟨a, c, l, h1, h2, h3, h4, h5⟩ := open_rowG (R := fun (z : Bb) cs => ∃ ia ic, BlC w z cs ia ic) (C := BigB) noB (sz := 5) Try.underlying41 block_cells (by omega) (by decide +kernel) (fun fuel cs y hy hl => open_one_block hy hl) h hw
  refine ⟨a, c, l, h1, h2, h3, h4, fun k z hz => ?_⟩
  obtain ⟨g, o, cs', e1, e2, ⟨ia, ic, e3⟩, e4⟩ := h5 k z hz
  have hc := e3.cells
  subst hc
  have q0 := e4 0 _ (by omega) rfl
  have q1 := e4 1 _ (by omega) rfl
  have q2 := e4 2 _ (by omega) rfl
  have q3 := e4 3 _ (by omega) rfl
  have q4 := e4 4 _ (by omega) rfl
  simp only [← Nat.add_assoc] at q0 q1 q2 q3 q4
  exact ⟨g, o, ia, ic, e1, e2, ⟨q0, q1, q2, q3, q4, e3.nil, e3.ins⟩⟩
set_option maxRecDepth 100000 in
/-- A function, by value. -/
theorem open_func {cs2 : Array Value} (hcs : cs2.toList = cs) (h : DataW.trod enc Try.prog w base spare held fuel 43 cs = some x) (hw : LightW 43 x.1) :
    ∃ (f : Ff) (pa : Option Addr) (pc : Nat) (ba : Option Addr) (bc : Nat), Value.agg cs2 = fnV f pa pc ba bc ∧ FnW w f pa pc ba bc ∧ BigF f := by
  obtain ⟨xs, n, _, hx, hcl, hlen, hf⟩ := DataW.trod_struct Try.underlying43 h
  rw [show Try.prog.cellsOf 43 = 2 by kernel_rfl] at hcl
  match cs, hcl with
  | [c0, c1], _ =>
    match xs, hlen with
    | [y0, y1], _ =>
      have g0 : DataW.trod enc Try.prog w base spare held n 23 (([c0, c1].drop 0).take (Try.prog.cellsOf 23)) = some y0 := hf 0 _ rfl
      rw [rowI_cells] at g0
      have g1 : DataW.trod enc Try.prog w base spare held n 41 (([c0, c1].drop 1).take (Try.prog.cellsOf 41)) = some y1 := hf 1 _ rfl
      rw [rowB_cells] at g1
      have hw0 : LightW 23 y0.1 := fun k hk => hw k (by
        rw [hx]
        simp only [DataW.weights, Try.underlying43, List.map_cons, List.map_nil]
        simp [DataW.weightsEach, hk])
      have hw1 : LightW 41 y1.1 := fun k hk => hw k (by
        rw [hx]
        simp only [DataW.weights, Try.underlying43, List.map_cons, List.map_nil]
        simp [DataW.weightsEach, hk])
      obtain ⟨pa, pc, l, e1, e2, e3, e4⟩ := open_intsW g0 hw0
      obtain ⟨ba, bc, m, d1, d2, d3, d4, d5⟩ := open_blocksW g1 hw1
      have e1 : [c0] = _ := e1
      have d1 : [c1] = _ := d1
      simp only [List.cons.injEq, and_true] at e1 d1
      refine ⟨⟨l, m⟩, pa, pc, ba, bc, ?_, ⟨e4, d5, e2, d2⟩, ⟨e3, d3, d4⟩⟩
      unfold fnV fnC
      congr 1
      apply Array.toList_inj.1
      rw [hcs, e1, d1]
end
theorem light_of {H : Type} {ts : List TypeId} {ds : List (DataW H)} (h : (DataW.weightsEach Try.prog ts ds).all (· ≤ reachBytes) = true) {j : Nat} {t : TypeId} {d : DataW H} (ht : ts[j]? = some t) (hd : ds[j]? = some d) : LightW t d := fun n hn => by
  rw [← reach_is]
  exact of_decide_eq_true (List.all_eq_true.1 h _ (DataW.weights_mem_each ht hd _ hn))
end Go.Proofs.Ytcofoeenfohpnaa
