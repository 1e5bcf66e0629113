/-
  Rows of numbers that come in as arguments: their cells, and that nothing in them is beyond the reach. No condition beyond those that each theorem states.
-/
import Derived.Test.YtbckkmicdpjnaaaDoorKInts
import Derived.Deep.Fields
import Derived.ChangeSame
import Derived.OpenShut
import Derived.SizedLaws
namespace Go.Proofs.YtbckkmicdpjnaaaDoor
open Go.ChangeShapes Go.WideShapes Go.Deep Go.RowKit

theorem ir_spot {w : World} {a : Addr} {v : Value} (h : w.cell? a = some v) : a = ⟨a.block, a.off, none⟩ := by
  obtain ⟨g, o, s⟩ := a
  cases s with
  | none => rfl
  | some e =>
    exfalso
    unfold World.cell? at h
    simp only [Option.isSome_some, if_true] at h
    split at h <;> simp at h
theorem ir_off (a : Addr) (ha : a = ⟨a.block, a.off, none⟩) (j : Nat) : a.add j = ⟨a.block, a.off + j, none⟩ := by
  unfold Addr.add
  split
  · subst_vars; exact ha
  · rfl
theorem ir_head {w : World} {a : Addr} {v : Value} (h : w.cell? (a.add 0) = some v) : a = ⟨a.block, a.off, none⟩ ∧ a.block < w.heap.size := by
  have e : a.add 0 = a := by unfold Addr.add; simp
  rw [e] at h
  exact ⟨ir_spot h, World.block_lt_of_cell? w _ h⟩
theorem ir_all_mem {H : Type} {P : Program} {e : TypeId} : ∀ {l : List (DataW H)} {d : DataW H}, d ∈ l → ∀ n ∈ d.weights P e, n ∈ DataW.weightsAll P e l
  | _ :: r, d, hd, n, hn => by
    simp only [DataW.weightsAll, List.mem_append]
    rcases List.mem_cons.1 hd with rfl | h
    · exact .inl hn
    · exact .inr (ir_all_mem h n hn)
theorem reach_is : reachBytes = 140737488351232 := by decide
/-- No weight of it is beyond the reach. -/
def LightW {H : Type} (t : TypeId) (d : DataW H) : Prop := ∀ n ∈ d.weights Tryd.prog t, n ≤ 140737488351232
section
variable {H : Type} {enc : TypeId × Value → H} {w : World} {base : Nat} {spare : Nat → Bool} {held : Bool} {fuel : Nat} {cs : List Value} {x : DataW H × List MemPlace}
theorem light_slice {t e : TypeId} {ds sp : List (DataW H)} (ht : Tryd.prog.underlying t = some (.slice e)) (h : LightW t (.slice ds sp)) : ds.length * Tryd.prog.bytesOf e ≤ 140737488351232 ∧ ∀ d ∈ ds, LightW e d := by
  constructor
  · have h1 : (ds.length + sp.length) * Tryd.prog.bytesOf e ≤ 140737488351232 := h _ (by simp only [DataW.weights, ht, List.mem_cons]; exact .inl trivial)
    exact Nat.le_trans (Nat.mul_le_mul_right _ (by omega)) h1
  · intro d hd n hn
    refine h n ?_
    simp only [DataW.weights, ht, List.mem_cons, List.mem_append]
    exact .inr (.inl (ir_all_mem hd _ hn))
/-- A row of elements: the cells of each, opened by what opens one. -/
theorem open_rowG {t e : TypeId} {sz : Nat} {α : Type} {R : α → List Value → Prop} {C : α → Prop} (d0 : α) (ht : Tryd.prog.underlying t = some (.slice e)) (hC : Tryd.prog.cellsOf e = sz) (hsz : 0 < sz) (hb : 1 ≤ Tryd.prog.bytesOf e)
    (hone : ∀ (fuel : Nat) (cs : List Value) (y : DataW H × List MemPlace), DataW.trod enc Tryd.prog w base spare held fuel e cs = some y → LightW e y.1 → ∃ z, R z cs ∧ C z)
    (h : DataW.trod enc Tryd.prog w base spare held fuel t cs = some x) (hw : LightW t x.1) :
    ∃ (a : Option Addr) (c : Nat) (l : List α), cs = [.slice a l.length c] ∧ (a = none → c = 0) ∧ l.length ≤ 140737488355328 ∧ (∀ z ∈ l, C z) ∧
      ∀ (k : Nat) (z : α), l[k]? = some z → ∃ g o cs', a = some ⟨g, o, none⟩ ∧ g < w.heap.size ∧ R z cs' ∧ ∀ j v, j < sz → cs'[j]? = some v → w.cell? ⟨g, o + (k * sz + j), none⟩ = some v := by
  rcases open_slice ht h with ⟨h0, _⟩ | ⟨a, len, cap, m, n, D, Pl, hcs, hbb, hl, hm, hmm, hx, hi⟩
  · exact ⟨none, 0, [], h0, fun _ => rfl, by simp, by simp, fun k z hz => by simp at hz⟩
  · have hlm : len ≤ m := by rw [hmm]; split <;> omega
    rw [hx] at hw
    obtain ⟨hw1, hw2⟩ := light_slice ht hw
    have hex : ∀ i, ∃ z, i < len → C z ∧ ∃ cs', R z cs' ∧ ∀ j v, j < sz → cs'[j]? = some v → w.cell? (a.add (i * sz + j)) = some v := by
      intro i
      by_cases hil : i < len
      · obtain ⟨cs', hc, ht'⟩ := hi i (by omega)
        obtain ⟨z, hz1, hz2⟩ := hone _ _ _ ht' (hw2 _ (List.mem_map.2 ⟨i, List.mem_range.2 hil, rfl⟩))
        rw [hC] at hc
        obtain ⟨_, _, hat⟩ := World.cells?_some hc
        simp only [Go.Deep.add_add] at hat
        refine ⟨z, fun _ => ⟨hz2, cs', hz1, fun j v hj hv => ?_⟩⟩
        have h9 := hat j hj
        rw [h9]
        exact hv
      · exact ⟨d0, fun h => absurd h hil⟩
    refine ⟨some a, cap, (List.range len).map (fun i => (hex i).choose), by simpa using hcs, (fun h => by cases h), ?_, ?_, ?_⟩
    · simp only [List.length_map, List.length_range] at hw1 ⊢
      have := Nat.mul_le_mul_left len hb
      omega
    · intro z hz
      obtain ⟨i, hir, rfl⟩ := List.mem_map.1 hz
      exact ((hex i).choose_spec (List.mem_range.1 hir)).1
    · intro k z hz
      rw [List.getElem?_map] at hz
      by_cases hkl : k < len
      · rw [List.getElem?_range hkl] at hz
        simp only [Option.map_some, Option.some.injEq] at hz
        rw [← hz]
        obtain ⟨cs0, hc0, ht0⟩ := hi 0 (by omega)
        rw [hC] at hc0
        obtain ⟨_, hlen0, hat0⟩ := World.cells?_some hc0
        have h00 := hat0 0 hsz
        rw [Nat.zero_mul, Go.Deep.add_add, List.getElem?_eq_getElem (by omega)] at h00
        obtain ⟨ha, hg⟩ := ir_head h00
        obtain ⟨cs', hR, hcell⟩ := ((hex k).choose_spec hkl).2
        refine ⟨a.block, a.off, cs', congrArg some ha, hg, hR, fun j v hj hv => ?_⟩
        have := hcell j v hj hv
        rw [ir_off a ha] at this
        exact this
      · rw [List.getElem?_eq_none (by simpa using hkl)] at hz
        simp at hz
theorem open_int1 {k : TypeId} (hk : Tryd.prog.underlying k = some (.int .i64)) {c : Value} {y : DataW H × List MemPlace} {n : Nat} (h : DataW.trod enc Tryd.prog w base spare held n k [c] = some y) : ∃ m : Int, c = .int .i64 m := by
  obtain ⟨m, e, _, _⟩ := DataW.trod_int hk h
  have e : [c] = _ := e
  simp only [List.cons.injEq, and_true] at e
  exact ⟨m, e⟩
theorem open_intsW (h : DataW.trod enc Tryd.prog w base spare held fuel 22 cs = some x) (hw : LightW 22 x.1) :
    ∃ (a : Option Addr) (c : Nat) (l : List Int), cs = [.slice a l.length c] ∧ (a = none → c = 0) ∧ l.length ≤ 140737488355328 ∧ IntsW w a l := by
  obtain ⟨a, c, l, h1, h2, h3, _, h5⟩ := open_rowG (R := fun (z : Int) cs => cs = [.int .i64 z]) (C := fun _ => True) 0 (sz := 1) Tryd.underlying22 (by kernel_rfl) (by omega) (by decide +kernel) (fun fuel cs y hy _ => by
    obtain ⟨m, e, _, _⟩ := DataW.trod_int Tryd.underlying3 hy
    exact ⟨m, e, trivial⟩) h hw
  refine ⟨a, c, l, h1, h2, h3, fun k z hz => ?_⟩
  obtain ⟨g, o, cs', e1, e2, e3, e4⟩ := h5 k z hz
  subst e3
  have := e4 0 _ (by omega) rfl
  rw [Nat.mul_one, Nat.add_zero] at this
  exact ⟨g, o, e1, e2, this⟩
end
theorem light_of {H : Type} {ts : List TypeId} {ds : List (DataW H)} (h : (DataW.weightsEach Tryd.prog ts ds).all (· ≤ reachBytes) = true) {j : Nat} {t : TypeId} {d : DataW H} (ht : ts[j]? = some t) (hd : ds[j]? = some d) : LightW t d := fun n hn => by
  rw [← reach_is]
  exact of_decide_eq_true (List.all_eq_true.1 h _ (DataW.weights_mem_each ht hd _ hn))
end Go.Proofs.YtbckkmicdpjnaaaDoor
