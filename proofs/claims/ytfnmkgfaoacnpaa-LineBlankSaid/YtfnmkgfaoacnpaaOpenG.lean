/-
  A row of things that are got that comes in as an argument: its cells, its datum, and that no text of it is beyond the reach. No condition beyond those that each theorem states.
-/
import Derived.Test.YtfnmkgfaoacnpaaOpenW
import Derived.Test.YtfnmkgfaoacnpaaSize
namespace Go.Proofs.Ytfnmkgfaoacnpaa
open Go.ChangeShapes Go.WideShapes Go.Deep Go.RowKit

def datG {H : Type} (x : Gt) : DataW H := .agg [.lit (.int .i64 x.what), .lit (.int .i64 x.least), .lit (.int .i64 x.most), .lit (.string x.s.data.toList), .lit (.string x.t.data.toList)]
/-- Thing number k lies in five cells, from a on. -/
def AtG (w : World) (a : Addr) (k : Nat) (x : Gt) : Prop :=
  w.cell? (a.add (k * 5 + 0)) = some (.int .i64 x.what) ∧ w.cell? (a.add (k * 5 + 1)) = some (.int .i64 x.least) ∧ w.cell? (a.add (k * 5 + 2)) = some (.int .i64 x.most) ∧ w.cell? (a.add (k * 5 + 3)) = some (.string x.s) ∧ w.cell? (a.add (k * 5 + 4)) = some (.string x.t)
theorem gets_cells5 : Try.prog.cellsOf 46 = 5 := by kernel_rfl
set_option maxRecDepth 100000 in
theorem one_get {H : Type} {enc : TypeId × Value → H} {w : World} {base : Nat} {spare : Nat → Bool} {held : Bool} {fuel : Nat} {cs : List Value} {x : DataW H × List MemPlace} (h : DataW.trod enc Try.prog w base spare held fuel 46 cs = some x) :
    ∃ y : Gt, x.1 = datG y ∧ cs = [.int .i64 y.what, .int .i64 y.least, .int .i64 y.most, .string y.s, .string y.t] := by
  obtain ⟨xs, n, _, hx, hcl, hlen, hf⟩ := DataW.trod_struct Try.underlying46 h
  rw [gets_cells5] at hcl
  match cs, hcl with
  | [c0, c1, c2, c3, c4], _ =>
    match xs, hlen with
    | [y0, y1, y2, y3, y4], _ =>
      have k1 : Try.prog.cellsOf 3 = 1 := by kernel_rfl
      have k2 : Try.prog.cellsOf 9 = 1 := by kernel_rfl
      have g0 : DataW.trod enc Try.prog w base spare held n 3 (([c0, c1, c2, c3, c4].drop 0).take (Try.prog.cellsOf 3)) = some y0 := hf 0 _ rfl
      rw [k1] at g0
      have g1 : DataW.trod enc Try.prog w base spare held n 3 (([c0, c1, c2, c3, c4].drop 1).take (Try.prog.cellsOf 3)) = some y1 := hf 1 _ rfl
      rw [k1] at g1
      have g2 : DataW.trod enc Try.prog w base spare held n 3 (([c0, c1, c2, c3, c4].drop 2).take (Try.prog.cellsOf 3)) = some y2 := hf 2 _ rfl
      rw [k1] at g2
      have g3 : DataW.trod enc Try.prog w base spare held n 9 (([c0, c1, c2, c3, c4].drop 3).take (Try.prog.cellsOf 9)) = some y3 := hf 3 _ rfl
      rw [k2] at g3
      have g4 : DataW.trod enc Try.prog w base spare held n 9 (([c0, c1, c2, c3, c4].drop 4).take (Try.prog.cellsOf 9)) = some y4 := hf 4 _ rfl
      rw [k2] at g4
      obtain ⟨m0, e0, r0, _⟩ := DataW.trod_int Try.underlying3 g0
      obtain ⟨m1, e1, r1, _⟩ := DataW.trod_int Try.underlying3 g1
      obtain ⟨m2, e2, r2, _⟩ := DataW.trod_int Try.underlying3 g2
      obtain ⟨m3, e3, r3, _⟩ := DataW.trod_string Try.underlying9 g3
      obtain ⟨m4, e4, r4, _⟩ := DataW.trod_string Try.underlying9 g4
      have e0 : [c0] = _ := e0
      have e1 : [c1] = _ := e1
      have e2 : [c2] = _ := e2
      have e3 : [c3] = _ := e3
      have e4 : [c4] = _ := e4
      simp only [List.cons.injEq, and_true] at e0 e1 e2 e3 e4
      refine ⟨⟨m0, m1, m2, m3, m4⟩, ?_, by rw [e0, e1, e2, e3, e4]⟩
      rw [hx, r0, r1, r2, r3, r4]
      rfl
def noGt : Gt := ⟨0, 0, 0, noText, noText⟩
set_option maxRecDepth 100000 in
theorem open_gets {H : Type} {enc : TypeId × Value → H} {w : World} {base : Nat} {spare : Nat → Bool} {held : Bool} {fuel : Nat} {cs : List Value} {x : DataW H × List MemPlace} (h : DataW.trod enc Try.prog w base spare held fuel 37 cs = some x) :
    cs = [.slice none 0 0] ∧ x = (.nil, []) ∨
    ∃ (a : Addr) (cap : Nat) (ws : List Gt) (sp : List (DataW H)) (pl : List MemPlace), cs = [.slice (some a) ws.length cap] ∧ ws.length ≤ cap ∧ cap ≤ maxLen ∧ x = (.slice (ws.map datG) sp, pl) ∧ ∀ k y, ws[k]? = some y → AtG w a k y := by
  rcases open_slice Try.underlying37 h with h0 | ⟨a, len, cap, m, n, D, Pl, hcs, hb, hl, hm, hmm, hx, hi⟩
  · exact .inl h0
  · have hlm : len ≤ m := by rw [hmm]; split <;> omega
    have hex : ∀ i, ∃ y : Gt, i < len → D i = datG y ∧ AtG w a i y := by
      intro i
      by_cases hil : i < len
      · obtain ⟨cs', hc, ht'⟩ := hi i (by omega)
        obtain ⟨y, hy, rfl⟩ := one_get ht'
        rw [gets_cells5] at hc
        obtain ⟨_, _, hat⟩ := World.cells?_some hc
        refine ⟨y, fun _ => ⟨hy, ?_⟩⟩
        simp only [Go.Deep.add_add] at hat
        exact ⟨hat 0 (by omega), hat 1 (by omega), hat 2 (by omega), hat 3 (by omega), hat 4 (by omega)⟩
      · exact ⟨noGt, fun h => absurd h hil⟩
    refine .inr ⟨a, cap, (List.range len).map (fun i => (hex i).choose), (List.range (m - len)).map (fun j => D (len + j)), x.2, by simpa using hcs, by simpa using hl, hm, ?_, ?_⟩
    · rw [hx]
      congr 2
      rw [List.map_map]
      apply List.map_congr_left
      intro i hir
      exact ((hex i).choose_spec (List.mem_range.1 hir)).1
    · intro k y hk
      rw [List.getElem?_map] at hk
      by_cases hkl : k < len
      · rw [List.getElem?_range hkl] at hk
        simp only [Option.map_some, Option.some.injEq] at hk
        rw [← hk]
        exact ((hex k).choose_spec hkl).2
      · rw [List.getElem?_eq_none (by simpa using hkl)] at hk
        simp at hk
theorem gets_bytes : Try.prog.bytesOf 46 = 56 := by kernel_rfl
/-- No text of a row that comes in is beyond the reach, nor is the row. -/
theorem gets_reach {H : Type} {ts : List TypeId} {ds : List (DataW H)} (h : (DataW.weightsEach Try.prog ts ds).all (· ≤ reachBytes) = true) {j : Nat} {ws : List Gt} {sp : List (DataW H)} (ht : ts[j]? = some 37) (hd : ds[j]? = some (.slice (ws.map datG) sp)) :
    ws.length ≤ 140737488351232 ∧ ∀ x ∈ ws, x.s.size ≤ 140737488351232 ∧ x.t.size ≤ 140737488351232 := by
  constructor
  · have h1 : (ws.length + sp.length) * 56 ≤ reachBytes := by
      refine of_decide_eq_true (List.all_eq_true.1 h _ (DataW.weights_mem_each ht hd _ ?_))
      simp only [DataW.weights, Try.underlying37, List.mem_cons, gets_bytes, List.length_map]
      simp
    have h2 : reachBytes = 140737488351232 := by decide
    omega
  · intro x hx
    have hm : ∀ n, n ∈ (datG (H := H) x).weights Try.prog 46 → n ≤ reachBytes := fun n hn => by
      refine of_decide_eq_true (List.all_eq_true.1 h _ (DataW.weights_mem_each ht hd _ ?_))
      simp only [DataW.weights, Try.underlying37, List.mem_cons, List.mem_append]
      exact .inr (.inl (all_mem (List.mem_map_of_mem hx) _ hn))
    have h2 : reachBytes = 140737488351232 := by decide
    rw [h2] at hm
    constructor
    · refine hm _ ?_
      simp [datG, DataW.weights, Try.underlying46, DataW.weightsEach]
    · refine hm _ ?_
      simp [datG, DataW.weights, Try.underlying46, DataW.weightsEach]
theorem string_reach {H : Type} {ts : List TypeId} {ds : List (DataW H)} (h : (DataW.weightsEach Try.prog ts ds).all (· ≤ reachBytes) = true) {j : Nat} {a : ByteArray} (ht : ts[j]? = some 9) (hd : ds[j]? = some (.lit (.string a.data.toList))) : a.size ≤ 140737488351232 := by
  have h2 : reachBytes = 140737488351232 := by decide
  rw [← h2]
  refine of_decide_eq_true (List.all_eq_true.1 h _ (DataW.weights_mem_each ht hd _ ?_))
  simp [DataW.weights]
theorem off_atG (a : Addr) (ha : a = ⟨a.block, a.off, none⟩) (j : Nat) : a.add j = ⟨a.block, a.off + j, none⟩ := by
  unfold Addr.add
  split
  · subst_vars; exact ha
  · rfl
theorem gets_at {w : World} {a : Addr} {l : List Gt} (h : ∀ k y, l[k]? = some y → AtG w a k y) : GetsAt w (some a) l := fun k x hk => by
  obtain ⟨h0, h1, h2, h3, h4⟩ := h k x hk
  have hkl : k < l.length := (List.getElem?_eq_some_iff.1 hk).1
  have h00 := (h 0 _ (List.getElem?_eq_getElem (by omega))).1
  have ha : a = ⟨a.block, a.off, none⟩ := by
    have := spot_none h00
    unfold Addr.add at this
    simpa using this
  have hlt : a.block < w.heap.size := by
    have := World.block_lt_of_cell? w _ h1
    rw [ha, off_atG _ rfl] at this
    exact this
  rw [off_atG a ha] at h0 h1 h2 h3 h4
  exact ⟨a.block, a.off, congrArg some ha, hlt, h0, h1, h2, h3, h4⟩
end Go.Proofs.Ytfnmkgfaoacnpaa
