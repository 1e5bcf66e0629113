/-
  How great a function is, counted until a bound is passed; a number brought into a range. No condition beyond those that each theorem states.
  Rows of numbers that come in as arguments: their cells, and that nothing in them is beyond the reach. No condition beyond those that each theorem states.
  Instructions, ends, blocks that come in as arguments: their cells, and that nothing in them is beyond the reach. No condition beyond those that each theorem states.
  Functions of variables that come in as arguments: their cells, and that nothing in them is beyond the reach. No condition beyond those that each theorem states.
-/
import Derived.Test.YthiipgahbmoiiaaGreatDoorPk6
import Derived.Deep.RegionWith
import Derived.Test.YthiipgahbmoiiaaGreatDoorPk1
import Derived.Deep.Fields
import Derived.ChangeSame
import Derived.OpenShut
import Derived.SizedLaws
namespace Go.Proofs.YthiipgahbmoiiaaGreatDoor
open Go.RowKit

/-- Nothing in it is longer than may lie in memory. -/
structure BigF (f : Ff) : Prop where
  p : f.params.length ≤ 140737488355328
  b : f.blocks.length ≤ 140737488355328
  i : ∀ x ∈ f.blocks, x.ins.length ≤ 140737488355328 ∧ ∀ i ∈ x.ins, i.args.length ≤ 140737488355328
def FewB (l : List Bb) : Prop := l.length ≤ 700 ∧ ∀ x ∈ l, x.ins.length ≤ 700 ∧ ∀ i ∈ x.ins, i.args.length ≤ 700
set_option maxHeartbeats 2000000 in
set_option maxRecDepth 100000 in
theorem blocksOf_any (l : List Bb) (a : Option Addr) (c : Nat) (w : World) (hl : l.length ≤ 140737488355328) (hs : ∀ x ∈ l, x.ins.length ≤ 140737488355328 ∧ ∀ i ∈ x.ins, i.args.length ≤ 140737488355328) (hI : BlsW w a l) :
    Calls Tryz.prog 20 #[.slice a l.length c, .int .i64 700] w fun e w' => (∃ n : Nat, e = .returned (.int .i64 n) ∧ n ≤ 1000000000000000 ∧ (n ≤ 700 → FewB l)) ∧ w = w' := by
  have HI := Lib.hid hI
  have HS := Lib.hid hs
  clear hI hs
  go_enter Tryz.func20, Tryz.ntmps20
  go_wp2
  go_loopw [5, 6] (fun m k wr => ∃ n j : Nat, m = .int .i64 n ∧ k = .int .i64 j ∧ j ≤ l.length ∧ j ≤ n ∧ n ≤ 1000000000000000 ∧ Hid (n ≤ 700 → ∀ (b : Nat) (x : Bb), b < j → l[b]? = some x → x.ins.length ≤ 700 ∧ ∀ i ∈ x.ins, i.args.length ≤ 700) ∧ w = wr) (fun _ k _ => l.length - (intOf k).toNat)
  case atStart => exact ⟨0, 0, rfl, rfl, Nat.zero_le _, Nat.le_refl _, by omega, fun _ b x h => absurd h (Nat.not_lt_zero _), rfl⟩
  case round =>
    obtain ⟨n, j, rfl, rfl, hj, hn, hnb, HA, rfl⟩ := hrel
    by_cases hlt : j < l.length
    · have hlt' : (j : Int) < l.length := by omega
      have hj0 : (0 : Int) ≤ j := by omega
      by_cases hfew : n ≤ 700
      · have hfew' : (n : Int) ≤ 700 := by omega
        obtain ⟨x, hx⟩ : ∃ x, l[j]? = some x := ⟨_, List.getElem?_eq_getElem hlt⟩
        obtain ⟨g, o, ya, yc, rfl, hg, hc⟩ := HI.out j x hx
        obtain ⟨hx1, hx2⟩ := HS.out x (List.mem_of_getElem? hx)
        have HX2 := Lib.hid hx2
        have HXX := Lib.hid hx
        have HIN := Lib.hid hc.ins
        have c0 := hc.c0
        clear hx hx2 hc
        go_wp2
        go_loopw [5, 7] (fun m k wr => ∃ n2 i : Nat, m = .int .i64 n2 ∧ k = .int .i64 i ∧ i ≤ x.ins.length ∧ j + 1 ≤ n2 ∧ n2 ≤ 1000000000000000 ∧ n ≤ n2 ∧ x.ins.length ≤ n2 ∧ Hid (n2 ≤ 700 → ∀ (b : Nat) (y : Ii), b < i → x.ins[b]? = some y → y.args.length ≤ 700) ∧ w = wr) (fun _ k _ => x.ins.length - (intOf k).toNat)
        case atStart => exact ⟨n + 1 + x.ins.length, 0, by go_num, rfl, Nat.zero_le _, by omega, by omega, by omega, by omega, fun _ b x h => absurd h (Nat.not_lt_zero _), rfl⟩
        case round =>
          obtain ⟨n2, i, rfl, rfl, hi, hn2, hn2b, hn3, hn4, HA2, rfl⟩ := hrel
          by_cases hlt2 : i < x.ins.length
          · have hlt2' : (i : Int) < x.ins.length := by omega
            have hi0 : (0 : Int) ≤ i := by omega
            by_cases hfew2 : n2 ≤ 700
            · have hfew2' : (n2 : Int) ≤ 700 := by omega
              obtain ⟨y, hy⟩ : ∃ y, x.ins[i]? = some y := ⟨_, List.getElem?_eq_getElem hlt2⟩
              obtain ⟨g2, o2, za, zc, rfl, hg2, hc2⟩ := HIN.out i y hy
              have hya := HX2.out y (List.mem_of_getElem? hy)
              have h6 := hc2.c6
              have HA3 : Hid (n2 + y.args.length ≤ 700 → ∀ (b : Nat) (z : Ii), b < i + 1 → x.ins[b]? = some z → z.args.length ≤ 700) := fun h b z hb hz => by
                by_cases e : b = i
                · subst e
                  rw [hy] at hz
                  rw [← Option.some.inj hz]
                  omega
                · exact HA2.out (by omega) b z (by omega) hz
              clear hy hc2
              go_wp2
              go_roundw
              case rel => exact ⟨n2 + y.args.length, i + 1, by go_num, by go_num, by omega, by omega, by omega, by omega, by omega, HA3.out, trivial⟩
              case measure => simp [intOf]; omega
            · have hfew2' : ¬ (n2 : Int) ≤ 700 := by omega
              have HA3 : Hid (n2 ≤ 700 → ∀ (b : Nat) (x : Bb), b < j + 1 → l[b]? = some x → x.ins.length ≤ 700 ∧ ∀ i ∈ x.ins, i.args.length ≤ 700) := fun h => absurd h hfew2
              go_wp2
              go_roundw
              case rel => exact ⟨n2, j + 1, rfl, by go_num, by omega, by omega, by omega, HA3.out, trivial⟩
              case measure => simp [intOf]; omega
          · have hlt2' : ¬ (i : Int) < x.ins.length := by omega
            have HA3 : Hid (n2 ≤ 700 → ∀ (b : Nat) (x : Bb), b < j + 1 → l[b]? = some x → x.ins.length ≤ 700 ∧ ∀ i ∈ x.ins, i.args.length ≤ 700) := fun h b z hb hz => by
              by_cases e : b = j
              · subst e
                have hzx : z = x := by have := HXX.out; rw [hz] at this; exact Option.some.inj this
                subst hzx
                refine ⟨by omega, fun y hy => ?_⟩
                obtain ⟨k, hk, hky⟩ := List.getElem_of_mem hy
                exact HA2.out h k y (by omega) (by rw [List.getElem?_eq_getElem hk, hky])
              · exact HA.out (by omega) b z (by omega) hz
            go_wp2
            go_roundw
            case rel => exact ⟨n2, j + 1, rfl, by go_num, by omega, by omega, by omega, HA3.out, trivial⟩
            case measure => simp [intOf]; omega
      · have hfew' : ¬ (n : Int) ≤ 700 := by omega
        go_wp2
        go_ret
        exact ⟨⟨n, rfl, hnb, fun h => absurd h hfew⟩, rfl⟩
    · have hlt' : ¬ (j : Int) < l.length := by omega
      have hjl : j = l.length := by omega
      go_wp2
      go_ret
      refine ⟨⟨n, rfl, hnb, fun h => ⟨by omega, fun x hx => ?_⟩⟩, rfl⟩
      obtain ⟨k, hk, hky⟩ := List.getElem_of_mem hx
      exact HA.out h k x (by omega) (by rw [List.getElem?_eq_getElem hk, hky])
set_option maxHeartbeats 2000000 in
set_option maxRecDepth 100000 in
theorem funcOf_any (f : Ff) (pa : Option Addr) (pc : Nat) (ba : Option Addr) (bc : Nat) (w : World) (hB : BigF f) (hF : FnW w f pa pc ba bc) :
    Calls Tryz.prog 8 #[fnV f pa pc ba bc, .int .i64 700] w fun e w' => (∃ n : Nat, e = .returned (.int .i64 n) ∧ (n ≤ 700 → f.params.length ≤ 700 ∧ FewB f.blocks)) ∧ Below w.heap.size w w' := by
  have hp := hB.p
  have HW0 : Hid (Below w.heap.size w (w.alloc (.cells (fnC f pa pc ba bc) 25))) := (Below.refl _ w).alloc (Nat.le_refl _) _
  have HX0 : Hid (Blk (w.alloc (.cells (fnC f pa pc ba bc) 25)) w.heap.size 25 (fnC f pa pc ba bc)) := Blk.new w _ _
  have HC := Lib.hid (blocksOf_any f.blocks ba bc (w.alloc (.cells (fnC f pa pc ba bc) 25)).drew hB.b hB.i (hF.blocks.below HW0.out.drew))
  clear hB hF
  unfold fnV
  have HE := Lib.hid (fnC.eq_1 f pa pc ba bc)
  rw [HE.out] at HC HW0 ⊢
  go_enter Tryz.func8, Tryz.ntmps8
  go_wp2
  go_region_with (go_at_call 20; refine HC.out.mono ?_; rintro e w1 ⟨⟨n, rfl, hnb, hn⟩, rfl⟩; have HN := Lib.hid hn; clear hn)
  all_goals
    have hwrap : IntKind.i64.wrap ((f.params.length : Int) + n) = ((f.params.length + n : Nat) : Int) := by rw [IntKind.wrap_i64]; omega
    have HWR := Lib.hid hwrap
    clear hwrap
    go_wp2
    go_ret
    exact ⟨⟨f.params.length + n, by rw [← HWR.out]; rfl, fun (h : f.params.length + n ≤ 700) => ⟨by omega, HN.out (by omega)⟩⟩, HW0.out.drew⟩
end Go.Proofs.YthiipgahbmoiiaaGreatDoor
namespace Go.Proofs.YthiipgahbmoiiaaGreatDoor
open Go.ChangeShapes Go.WideShapes Go.Deep Go.RowKit

theorem ir_spot {w : World} {a : Addr} {v : Value} (h : w.cell? a = some v) : a = ⟨a.block, a.off, none⟩ := by
  obtain ⟨g, o, s⟩ := a
  cases s with
  | none => rfl
  | some e =>
    exfalso
    unfold World.cell? at h
    simp only [Option.isSome_some, if_true] at h
    split at h <;> simp at h
theorem ir_off (a : Addr) (ha : a = ⟨a.block, a.off, none⟩) (j : Nat) : a.add j = ⟨a.block, a.off + j, none⟩ := by
  unfold Addr.add
  split
  · subst_vars; exact ha
  · rfl
theorem ir_head {w : World} {a : Addr} {v : Value} (h : w.cell? (a.add 0) = some v) : a = ⟨a.block, a.off, none⟩ ∧ a.block < w.heap.size := by
  have e : a.add 0 = a := by unfold Addr.add; simp
  rw [e] at h
  exact ⟨ir_spot h, World.block_lt_of_cell? w _ h⟩
theorem ir_all_mem {H : Type} {P : Program} {e : TypeId} : ∀ {l : List (DataW H)} {d : DataW H}, d ∈ l → ∀ n ∈ d.weights P e, n ∈ DataW.weightsAll P e l
  | _ :: r, d, hd, n, hn => by
    simp only [DataW.weightsAll, List.mem_append]
    rcases List.mem_cons.1 hd with rfl | h
    · exact .inl hn
    · exact .inr (ir_all_mem h n hn)
theorem reach_is : reachBytes = 140737488351232 := by decide
/-- No weight of it is beyond the reach. -/
def LightW {H : Type} (t : TypeId) (d : DataW H) : Prop := ∀ n ∈ d.weights Tryz.prog t, n ≤ 140737488351232
section
variable {H : Type} {enc : TypeId × Value → H} {w : World} {base : Nat} {spare : Nat → Bool} {held : Bool} {fuel : Nat} {cs : List Value} {x : DataW H × List MemPlace}
theorem light_slice {t e : TypeId} {ds sp : List (DataW H)} (ht : Tryz.prog.underlying t = some (.slice e)) (h : LightW t (.slice ds sp)) : ds.length * Tryz.prog.bytesOf e ≤ 140737488351232 ∧ ∀ d ∈ ds, LightW e d := by
  constructor
  · have h1 : (ds.length + sp.length) * Tryz.prog.bytesOf e ≤ 140737488351232 := h _ (by simp only [DataW.weights, ht, List.mem_cons]; exact .inl trivial)
    exact Nat.le_trans (Nat.mul_le_mul_right _ (by omega)) h1
  · intro d hd n hn
    refine h n ?_
    simp only [DataW.weights, ht, List.mem_cons, List.mem_append]
    exact .inr (.inl (ir_all_mem hd _ hn))
/-- A row of elements: the cells of each, opened by what opens one. -/
theorem open_rowG {t e : TypeId} {sz : Nat} {α : Type} {R : α → List Value → Prop} {C : α → Prop} (d0 : α) (ht : Tryz.prog.underlying t = some (.slice e)) (hC : Tryz.prog.cellsOf e = sz) (hsz : 0 < sz) (hb : 1 ≤ Tryz.prog.bytesOf e)
    (hone : ∀ (fuel : Nat) (cs : List Value) (y : DataW H × List MemPlace), DataW.trod enc Tryz.prog w base spare held fuel e cs = some y → LightW e y.1 → ∃ z, R z cs ∧ C z)
    (h : DataW.trod enc Tryz.prog w base spare held fuel t cs = some x) (hw : LightW t x.1) :
    ∃ (a : Option Addr) (c : Nat) (l : List α), cs = [.slice a l.length c] ∧ (a = none → c = 0) ∧ l.length ≤ 140737488355328 ∧ (∀ z ∈ l, C z) ∧
      ∀ (k : Nat) (z : α), l[k]? = some z → ∃ g o cs', a = some ⟨g, o, none⟩ ∧ g < w.heap.size ∧ R z cs' ∧ ∀ j v, j < sz → cs'[j]? = some v → w.cell? ⟨g, o + (k * sz + j), none⟩ = some v := by
  rcases open_slice ht h with ⟨h0, _⟩ | ⟨a, len, cap, m, n, D, Pl, hcs, hbb, hl, hm, hmm, hx, hi⟩
  · exact ⟨none, 0, [], h0, fun _ => rfl, by simp, by simp, fun k z hz => by simp at hz⟩
  · have hlm : len ≤ m := by rw [hmm]; split <;> omega
    rw [hx] at hw
    obtain ⟨hw1, hw2⟩ := light_slice ht hw
    have hex : ∀ i, ∃ z, i < len → C z ∧ ∃ cs', R z cs' ∧ ∀ j v, j < sz → cs'[j]? = some v → w.cell? (a.add (i * sz + j)) = some v := by
      intro i
      by_cases hil : i < len
      · obtain ⟨cs', hc, ht'⟩ := hi i (by omega)
        obtain ⟨z, hz1, hz2⟩ := hone _ _ _ ht' (hw2 _ (List.mem_map.2 ⟨i, List.mem_range.2 hil, rfl⟩))
        rw [hC] at hc
        obtain ⟨_, _, hat⟩ := World.cells?_some hc
        simp only [Go.Deep.add_add] at hat
        refine ⟨z, fun _ => ⟨hz2, cs', hz1, fun j v hj hv => ?_⟩⟩
        have h9 := hat j hj
        rw [h9]
        exact hv
      · exact ⟨d0, fun h => absurd h hil⟩
    refine ⟨some a, cap, (List.range len).map (fun i => (hex i).choose), by simpa using hcs, (fun h => by cases h), ?_, ?_, ?_⟩
    · simp only [List.length_map, List.length_range] at hw1 ⊢
      have := Nat.mul_le_mul_left len hb
      omega
    · intro z hz
      obtain ⟨i, hir, rfl⟩ := List.mem_map.1 hz
      exact ((hex i).choose_spec (List.mem_range.1 hir)).1
    · intro k z hz
      rw [List.getElem?_map] at hz
      by_cases hkl : k < len
      · rw [List.getElem?_range hkl] at hz
        simp only [Option.map_some, Option.some.injEq] at hz
        rw [← hz]
        obtain ⟨cs0, hc0, ht0⟩ := hi 0 (by omega)
        rw [hC] at hc0
        obtain ⟨_, hlen0, hat0⟩ := World.cells?_some hc0
        have h00 := hat0 0 hsz
        rw [Nat.zero_mul, Go.Deep.add_add, List.getElem?_eq_getElem (by omega)] at h00
        obtain ⟨ha, hg⟩ := ir_head h00
        obtain ⟨cs', hR, hcell⟩ := ((hex k).choose_spec hkl).2
        refine ⟨a.block, a.off, cs', congrArg some ha, hg, hR, fun j v hj hv => ?_⟩
        have := hcell j v hj hv
        rw [ir_off a ha] at this
        exact this
      · rw [List.getElem?_eq_none (by simpa using hkl)] at hz
        simp at hz
theorem open_int1 {k : TypeId} (hk : Tryz.prog.underlying k = some (.int .i64)) {c : Value} {y : DataW H × List MemPlace} {n : Nat} (h : DataW.trod enc Tryz.prog w base spare held n k [c] = some y) : ∃ m : Int, c = .int .i64 m := by
  obtain ⟨m, e, _, _⟩ := DataW.trod_int hk h
  have e : [c] = _ := e
  simp only [List.cons.injEq, and_true] at e
  exact ⟨m, e⟩
theorem open_intsW (h : DataW.trod enc Tryz.prog w base spare held fuel 22 cs = some x) (hw : LightW 22 x.1) :
    ∃ (a : Option Addr) (c : Nat) (l : List Int), cs = [.slice a l.length c] ∧ (a = none → c = 0) ∧ l.length ≤ 140737488355328 ∧ IntsW w a l := by
  obtain ⟨a, c, l, h1, h2, h3, _, h5⟩ := open_rowG (R := fun (z : Int) cs => cs = [.int .i64 z]) (C := fun _ => True) 0 (sz := 1) Tryz.underlying22 (by kernel_rfl) (by omega) (by decide +kernel) (fun fuel cs y hy _ => by
    obtain ⟨m, e, _, _⟩ := DataW.trod_int Tryz.underlying3 hy
    exact ⟨m, e, trivial⟩) h hw
  refine ⟨a, c, l, h1, h2, h3, fun k z hz => ?_⟩
  obtain ⟨g, o, cs', e1, e2, e3, e4⟩ := h5 k z hz
  subst e3
  have := e4 0 _ (by omega) rfl
  rw [Nat.mul_one, Nat.add_zero] at this
  exact ⟨g, o, e1, e2, this⟩
end
theorem light_of {H : Type} {ts : List TypeId} {ds : List (DataW H)} (h : (DataW.weightsEach Tryz.prog ts ds).all (· ≤ reachBytes) = true) {j : Nat} {t : TypeId} {d : DataW H} (ht : ts[j]? = some t) (hd : ds[j]? = some d) : LightW t d := fun n hn => by
  rw [← reach_is]
  exact of_decide_eq_true (List.all_eq_true.1 h _ (DataW.weights_mem_each ht hd _ hn))
end Go.Proofs.YthiipgahbmoiiaaGreatDoor
namespace Go.Proofs.YthiipgahbmoiiaaGreatDoor
open Go.ChangeShapes Go.WideShapes Go.Deep Go.RowKit

section
variable {H : Type} {enc : TypeId × Value → H} {w : World} {base : Nat} {spare : Nat → Bool} {held : Bool} {fuel : Nat} {cs : List Value} {x : DataW H × List MemPlace}
/-- One instruction. -/
structure InC (w : World) (y : Ii) (cs : List Value) (ia : Option Addr) (ic : Nat) : Prop where
  cells : cs = [.int .i64 y.op, .int .i64 y.dst, .int .i64 y.a, .int .i64 y.b, .int .i64 y.imm, .int .i64 y.callee, .slice ia y.args.length ic, .int .i64 y.many]
  nil : ia = none → ic = 0
  args : IntsW w ia y.args
theorem ins_cells : Tryz.prog.cellsOf 45 = 8 := by kernel_rfl
set_option maxRecDepth 100000 in
theorem open_one_ins (h : DataW.trod enc Tryz.prog w base spare held fuel 45 cs = some x) (hw : LightW 45 x.1) : ∃ y : Ii, (∃ ia ic, InC w y cs ia ic) ∧ y.args.length ≤ 140737488355328 := by
  obtain ⟨xs, n, _, hx, hcl, hlen, hf⟩ := DataW.trod_struct Tryz.underlying45 h
  rw [ins_cells] at hcl
  match cs, hcl with
  | [c0, c1, c2, c3, c4, c5, c6, c7], _ =>
    match xs, hlen with
    | [y0, y1, y2, y3, y4, y5, y6, y7], _ =>
      have g0 : DataW.trod enc Tryz.prog w base spare held n 43 (([c0, c1, c2, c3, c4, c5, c6, c7].drop 0).take (Tryz.prog.cellsOf 43)) = some y0 := hf 0 _ rfl
      rw [show Tryz.prog.cellsOf 43 = 1 by kernel_rfl] at g0
      have g1 : DataW.trod enc Tryz.prog w base spare held n 3 (([c0, c1, c2, c3, c4, c5, c6, c7].drop 1).take (Tryz.prog.cellsOf 3)) = some y1 := hf 1 _ rfl
      rw [show Tryz.prog.cellsOf 3 = 1 by kernel_rfl] at g1
      have g2 : DataW.trod enc Tryz.prog w base spare held n 3 (([c0, c1, c2, c3, c4, c5, c6, c7].drop 2).take (Tryz.prog.cellsOf 3)) = some y2 := hf 2 _ rfl
      rw [show Tryz.prog.cellsOf 3 = 1 by kernel_rfl] at g2
      have g3 : DataW.trod enc Tryz.prog w base spare held n 3 (([c0, c1, c2, c3, c4, c5, c6, c7].drop 3).take (Tryz.prog.cellsOf 3)) = some y3 := hf 3 _ rfl
      rw [show Tryz.prog.cellsOf 3 = 1 by kernel_rfl] at g3
      have g4 : DataW.trod enc Tryz.prog w base spare held n 3 (([c0, c1, c2, c3, c4, c5, c6, c7].drop 4).take (Tryz.prog.cellsOf 3)) = some y4 := hf 4 _ rfl
      rw [show Tryz.prog.cellsOf 3 = 1 by kernel_rfl] at g4
      have g5 : DataW.trod enc Tryz.prog w base spare held n 3 (([c0, c1, c2, c3, c4, c5, c6, c7].drop 5).take (Tryz.prog.cellsOf 3)) = some y5 := hf 5 _ rfl
      rw [show Tryz.prog.cellsOf 3 = 1 by kernel_rfl] at g5
      have g6 : DataW.trod enc Tryz.prog w base spare held n 22 (([c0, c1, c2, c3, c4, c5, c6, c7].drop 6).take (Tryz.prog.cellsOf 22)) = some y6 := hf 6 _ rfl
      rw [show Tryz.prog.cellsOf 22 = 1 by kernel_rfl] at g6
      have g7 : DataW.trod enc Tryz.prog w base spare held n 3 (([c0, c1, c2, c3, c4, c5, c6, c7].drop 7).take (Tryz.prog.cellsOf 3)) = some y7 := hf 7 _ rfl
      rw [show Tryz.prog.cellsOf 3 = 1 by kernel_rfl] at g7
      obtain ⟨m0, rfl⟩ := open_int1 Tryz.underlying43 g0
      obtain ⟨m1, rfl⟩ := open_int1 Tryz.underlying3 g1
      obtain ⟨m2, rfl⟩ := open_int1 Tryz.underlying3 g2
      obtain ⟨m3, rfl⟩ := open_int1 Tryz.underlying3 g3
      obtain ⟨m4, rfl⟩ := open_int1 Tryz.underlying3 g4
      obtain ⟨m5, rfl⟩ := open_int1 Tryz.underlying3 g5
      obtain ⟨m7, rfl⟩ := open_int1 Tryz.underlying3 g7
      have hw6 : LightW 22 y6.1 := fun k hk => hw k (by
        rw [hx]
        simp only [DataW.weights, Tryz.underlying45, List.map_cons, List.map_nil, DataW.weightsEach, List.mem_append]
        simp [hk])
      obtain ⟨ia, ic, l, e1, e2, e3, e4⟩ := open_intsW g6 hw6
      have e1 : [c6] = _ := e1
      simp only [List.cons.injEq, and_true] at e1
      exact ⟨⟨m0, m1, m2, m3, m4, m5, l, m7⟩, ⟨ia, ic, by rw [e1], e2, e4⟩, e3⟩
def noI : Ii := ⟨0, 0, 0, 0, 0, 0, [], 0⟩
theorem open_insW (h : DataW.trod enc Tryz.prog w base spare held fuel 46 cs = some x) (hw : LightW 46 x.1) :
    ∃ (a : Option Addr) (c : Nat) (l : List Ii), cs = [.slice a l.length c] ∧ (a = none → c = 0) ∧ l.length ≤ 140737488355328 ∧ (∀ i ∈ l, i.args.length ≤ 140737488355328) ∧ InsW w a l := by
  obtain ⟨a, c, l, h1, h2, h3, h4, h5⟩ := open_rowG (R := fun (z : Ii) cs => ∃ ia ic, InC w z cs ia ic) (C := fun z => z.args.length ≤ 140737488355328) noI (sz := 8) Tryz.underlying46 ins_cells (by omega) (by decide +kernel) (fun fuel cs y hy hl => open_one_ins hy hl) h hw
  refine ⟨a, c, l, h1, h2, h3, h4, fun k z hz => ?_⟩
  obtain ⟨g, o, cs', e1, e2, ⟨ia, ic, e3⟩, e4⟩ := h5 k z hz
  have hc := e3.cells
  subst hc
  have q0 := e4 0 _ (by omega) rfl
  have q1 := e4 1 _ (by omega) rfl
  have q2 := e4 2 _ (by omega) rfl
  have q3 := e4 3 _ (by omega) rfl
  have q4 := e4 4 _ (by omega) rfl
  have q5 := e4 5 _ (by omega) rfl
  have q6 := e4 6 _ (by omega) rfl
  have q7 := e4 7 _ (by omega) rfl
  simp only [← Nat.add_assoc] at q0 q1 q2 q3 q4 q5 q6 q7
  exact ⟨g, o, ia, ic, e1, e2, ⟨q0, q1, q2, q3, q4, q5, q6, q7, e3.nil, e3.args⟩⟩
/-- One block. -/
structure BlC (w : World) (y : Bb) (cs : List Value) (ia : Option Addr) (ic : Nat) : Prop where
  cells : cs = [.slice ia y.ins.length ic, .int .i64 y.tm.kind, .int .i64 y.tm.a, .int .i64 y.tm.t0, .int .i64 y.tm.t1]
  nil : ia = none → ic = 0
  ins : InsW w ia y.ins
theorem block_cells : Tryz.prog.cellsOf 52 = 5 := by kernel_rfl
theorem term_cells : Tryz.prog.cellsOf 50 = 4 := by kernel_rfl
theorem arr_cells : Tryz.prog.cellsOf 48 = 2 := by kernel_rfl
theorem row_cells : Tryz.prog.cellsOf 46 = 1 := by kernel_rfl
theorem rowI_cells : Tryz.prog.cellsOf 22 = 1 := by kernel_rfl
theorem rowB_cells : Tryz.prog.cellsOf 23 = 1 := by kernel_rfl
theorem int_cells : Tryz.prog.cellsOf 3 = 1 := by kernel_rfl
theorem kind_cells : Tryz.prog.cellsOf 47 = 1 := by kernel_rfl
set_option maxRecDepth 100000 in
theorem open_term (h : DataW.trod enc Tryz.prog w base spare held fuel 50 cs = some x) : ∃ t : Tt, cs = [.int .i64 t.kind, .int .i64 t.a, .int .i64 t.t0, .int .i64 t.t1] := by
  obtain ⟨xs, n, _, hx, hcl, hlen, hf⟩ := DataW.trod_struct Tryz.underlying50 h
  rw [term_cells] at hcl
  match cs, hcl with
  | [c0, c1, c2, c3], _ =>
    match xs, hlen with
    | [y0, y1, y2], _ =>
      have g0 : DataW.trod enc Tryz.prog w base spare held n 47 (([c0, c1, c2, c3].drop 0).take (Tryz.prog.cellsOf 47)) = some y0 := hf 0 _ rfl
      rw [kind_cells] at g0
      have g1 : DataW.trod enc Tryz.prog w base spare held n 3 (([c0, c1, c2, c3].drop 1).take (Tryz.prog.cellsOf 3)) = some y1 := hf 1 _ rfl
      rw [int_cells] at g1
      have g2 : DataW.trod enc Tryz.prog w base spare held n 48 (([c0, c1, c2, c3].drop 2).take (Tryz.prog.cellsOf 48)) = some y2 := hf 2 _ rfl
      rw [arr_cells] at g2
      obtain ⟨m0, rfl⟩ := open_int1 Tryz.underlying47 g0
      obtain ⟨m1, rfl⟩ := open_int1 Tryz.underlying3 g1
      obtain ⟨zs, k, _, _, _, hzl, hz⟩ := DataW.trod_array Tryz.underlying48 g2
      match zs, hzl with
      | [z0, z1], _ =>
        have k0 := hz 0 (by omega)
        have k1 := hz 1 (by omega)
        rw [int_cells] at k0 k1
        obtain ⟨m2, rfl⟩ := open_int1 Tryz.underlying3 (c := c2) k0
        obtain ⟨m3, rfl⟩ := open_int1 Tryz.underlying3 (c := c3) k1
        exact ⟨⟨m0, m1, m2, m3⟩, rfl⟩
def BigB (y : Bb) : Prop := y.ins.length ≤ 140737488355328 ∧ ∀ i ∈ y.ins, i.args.length ≤ 140737488355328
set_option maxRecDepth 100000 in
theorem open_one_block (h : DataW.trod enc Tryz.prog w base spare held fuel 52 cs = some x) (hw : LightW 52 x.1) : ∃ y : Bb, (∃ ia ic, BlC w y cs ia ic) ∧ BigB y := by
  obtain ⟨xs, n, _, hx, hcl, hlen, hf⟩ := DataW.trod_struct Tryz.underlying52 h
  rw [block_cells] at hcl
  match cs, hcl with
  | [c0, c1, c2, c3, c4], _ =>
    match xs, hlen with
    | [y0, y1], _ =>
      have g0 : DataW.trod enc Tryz.prog w base spare held n 46 (([c0, c1, c2, c3, c4].drop 0).take (Tryz.prog.cellsOf 46)) = some y0 := hf 0 _ rfl
      rw [row_cells] at g0
      have g1 : DataW.trod enc Tryz.prog w base spare held n 50 (([c0, c1, c2, c3, c4].drop 1).take (Tryz.prog.cellsOf 50)) = some y1 := hf 1 _ rfl
      rw [term_cells] at g1
      have hw0 : LightW 46 y0.1 := fun k hk => hw k (by
        rw [hx]
        simp only [DataW.weights, Tryz.underlying52, List.map_cons, List.map_nil]
        simp [DataW.weightsEach, hk])
      obtain ⟨ia, ic, l, e1, e2, e3, e4, e5⟩ := open_insW g0 hw0
      obtain ⟨t, ht⟩ := open_term g1
      have e1 : [c0] = _ := e1
      have ht : [c1, c2, c3, c4] = _ := ht
      simp only [List.cons.injEq, and_true] at e1 ht
      obtain ⟨t0, t1, t2, t3⟩ := ht
      exact ⟨⟨l, t⟩, ⟨ia, ic, by rw [e1, t0, t1, t2, t3], e2, e5⟩, e3, e4⟩
def noB : Bb := ⟨[], ⟨0, 0, 0, 0⟩⟩
theorem open_blocksW (h : DataW.trod enc Tryz.prog w base spare held fuel 23 cs = some x) (hw : LightW 23 x.1) :
    ∃ (a : Option Addr) (c : Nat) (l : List Bb), cs = [.slice a l.length c] ∧ (a = none → c = 0) ∧ l.length ≤ 140737488355328 ∧ (∀ i ∈ l, BigB i) ∧ BlsW w a l := by
  obtain ⟨a, c, l, h1, h2, h3, h4, h5⟩ := open_rowG (R := fun (z : Bb) cs => ∃ ia ic, BlC w z cs ia ic) (C := BigB) noB (sz := 5) Tryz.underlying23 block_cells (by omega) (by decide +kernel) (fun fuel cs y hy hl => open_one_block hy hl) h hw
  refine ⟨a, c, l, h1, h2, h3, h4, fun k z hz => ?_⟩
  obtain ⟨g, o, cs', e1, e2, ⟨ia, ic, e3⟩, e4⟩ := h5 k z hz
  have hc := e3.cells
  subst hc
  have q0 := e4 0 _ (by omega) rfl
  have q1 := e4 1 _ (by omega) rfl
  have q2 := e4 2 _ (by omega) rfl
  have q3 := e4 3 _ (by omega) rfl
  have q4 := e4 4 _ (by omega) rfl
  simp only [← Nat.add_assoc] at q0 q1 q2 q3 q4
  exact ⟨g, o, ia, ic, e1, e2, ⟨q0, q1, q2, q3, q4, e3.nil, e3.ins⟩⟩
end
end Go.Proofs.YthiipgahbmoiiaaGreatDoor
namespace Go.Proofs.YthiipgahbmoiiaaGreatDoor
open Go.ChangeShapes Go.WideShapes Go.Deep Go.RowKit

section
variable {H : Type} {enc : TypeId × Value → H} {w : World} {base : Nat} {spare : Nat → Bool} {held : Bool} {fuel : Nat} {cs : List Value} {x : DataW H × List MemPlace}
set_option maxRecDepth 100000 in
/-- A function, by value. -/
theorem open_func {cs2 : Array Value} (hcs : cs2.toList = cs) (h : DataW.trod enc Tryz.prog w base spare held fuel 25 cs = some x) (hw : LightW 25 x.1) :
    ∃ (f : Ff) (pa : Option Addr) (pc : Nat) (ba : Option Addr) (bc : Nat), Value.agg cs2 = fnV f pa pc ba bc ∧ FnW w f pa pc ba bc ∧ BigF f := by
  obtain ⟨xs, n, _, hx, hcl, hlen, hf⟩ := DataW.trod_struct Tryz.underlying25 h
  rw [show Tryz.prog.cellsOf 25 = 2 by kernel_rfl] at hcl
  match cs, hcl with
  | [c0, c1], _ =>
    match xs, hlen with
    | [y0, y1], _ =>
      have g0 : DataW.trod enc Tryz.prog w base spare held n 22 (([c0, c1].drop 0).take (Tryz.prog.cellsOf 22)) = some y0 := hf 0 _ rfl
      rw [rowI_cells] at g0
      have g1 : DataW.trod enc Tryz.prog w base spare held n 23 (([c0, c1].drop 1).take (Tryz.prog.cellsOf 23)) = some y1 := hf 1 _ rfl
      rw [rowB_cells] at g1
      have hw0 : LightW 22 y0.1 := fun k hk => hw k (by
        rw [hx]
        simp only [DataW.weights, Tryz.underlying25, List.map_cons, List.map_nil]
        simp [DataW.weightsEach, hk])
      have hw1 : LightW 23 y1.1 := fun k hk => hw k (by
        rw [hx]
        simp only [DataW.weights, Tryz.underlying25, List.map_cons, List.map_nil]
        simp [DataW.weightsEach, hk])
      obtain ⟨pa, pc, l, e1, e2, e3, e4⟩ := open_intsW g0 hw0
      obtain ⟨ba, bc, m, d1, d2, d3, d4, d5⟩ := open_blocksW g1 hw1
      have e1 : [c0] = _ := e1
      have d1 : [c1] = _ := d1
      simp only [List.cons.injEq, and_true] at e1 d1
      refine ⟨⟨l, m⟩, pa, pc, ba, bc, ?_, ⟨e4, d5, e2, d2⟩, ⟨e3, d3, d4⟩⟩
      unfold fnV fnC
      congr 1
      apply Array.toList_inj.1
      rw [hcs, e1, d1]
end
end Go.Proofs.YthiipgahbmoiiaaGreatDoor
