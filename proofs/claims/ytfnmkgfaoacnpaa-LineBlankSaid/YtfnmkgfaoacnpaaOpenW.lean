/-
  A row of words that comes in as an argument: its cells, its datum, and that no text of it is beyond the reach. No condition beyond those that each theorem states.
-/
import Derived.Test.YtfnmkgfaoacnpaaChecked
import Derived.Test.YtfnmkgfaoacnpaaAwake
import Derived.Deep.Slices
import Derived.Deep.Fields
import Derived.ChangeSame
import Derived.SizedLaws
namespace Go.Proofs.Ytfnmkgfaoacnpaa
open Go.ChangeShapes Go.WideShapes Go.Deep Go.RowKit

def datW {H : Type} (x : Wd) : DataW H := .agg [.lit (.int .i64 x.k), .lit (.string x.t.data.toList), .lit (.int .i64 x.n), .lit (.int .i64 x.l), .lit (.int .i64 x.c)]
/-- Word number k lies in five cells, from a on. -/
def AtA (w : World) (a : Addr) (k : Nat) (x : Wd) : Prop :=
  w.cell? (a.add (k * 5 + 0)) = some (.int .i64 x.k) ∧ w.cell? (a.add (k * 5 + 1)) = some (.string x.t) ∧ w.cell? (a.add (k * 5 + 2)) = some (.int .i64 x.n) ∧ w.cell? (a.add (k * 5 + 3)) = some (.int .i64 x.l) ∧ w.cell? (a.add (k * 5 + 4)) = some (.int .i64 x.c)
theorem spot_none {w : World} {a : Addr} {v : Value} (h : w.cell? a = some v) : a = ⟨a.block, a.off, none⟩ := by
  obtain ⟨b, o, s⟩ := a
  cases s with
  | none => rfl
  | some e =>
    exfalso
    unfold World.cell? at h
    simp only [Option.isSome_some, if_true] at h
    split at h <;> simp at h
theorem words_cells5 : Try.prog.cellsOf 36 = 5 := by kernel_rfl
set_option maxRecDepth 100000 in
theorem one_word {H : Type} {enc : TypeId × Value → H} {w : World} {base : Nat} {spare : Nat → Bool} {held : Bool} {fuel : Nat} {cs : List Value} {x : DataW H × List MemPlace} (h : DataW.trod enc Try.prog w base spare held fuel 36 cs = some x) :
    ∃ y : Wd, x.1 = datW y ∧ cs = [.int .i64 y.k, .string y.t, .int .i64 y.n, .int .i64 y.l, .int .i64 y.c] := by
  obtain ⟨xs, n, _, hx, hcl, hlen, hf⟩ := DataW.trod_struct Try.underlying36 h
  rw [words_cells5] at hcl
  match cs, hcl with
  | [c0, c1, c2, c3, c4], _ =>
    match xs, hlen with
    | [y0, y1, y2, y3, y4], _ =>
      have k1 : Try.prog.cellsOf 3 = 1 := by kernel_rfl
      have k2 : Try.prog.cellsOf 9 = 1 := by kernel_rfl
      have k3 : Try.prog.cellsOf 34 = 1 := by kernel_rfl
      have g0 : DataW.trod enc Try.prog w base spare held n 34 (([c0, c1, c2, c3, c4].drop 0).take (Try.prog.cellsOf 34)) = some y0 := hf 0 _ rfl
      rw [k3] at g0
      have g1 : DataW.trod enc Try.prog w base spare held n 9 (([c0, c1, c2, c3, c4].drop 1).take (Try.prog.cellsOf 9)) = some y1 := hf 1 _ rfl
      rw [k2] at g1
      have g2 : DataW.trod enc Try.prog w base spare held n 3 (([c0, c1, c2, c3, c4].drop 2).take (Try.prog.cellsOf 3)) = some y2 := hf 2 _ rfl
      rw [k1] at g2
      have g3 : DataW.trod enc Try.prog w base spare held n 3 (([c0, c1, c2, c3, c4].drop 3).take (Try.prog.cellsOf 3)) = some y3 := hf 3 _ rfl
      rw [k1] at g3
      have g4 : DataW.trod enc Try.prog w base spare held n 3 (([c0, c1, c2, c3, c4].drop 4).take (Try.prog.cellsOf 3)) = some y4 := hf 4 _ rfl
      rw [k1] at g4
      obtain ⟨m0, e0, r0, _⟩ := DataW.trod_int Try.underlying34 g0
      obtain ⟨m1, e1, r1, _⟩ := DataW.trod_string Try.underlying9 g1
      obtain ⟨m2, e2, r2, _⟩ := DataW.trod_int Try.underlying3 g2
      obtain ⟨m3, e3, r3, _⟩ := DataW.trod_int Try.underlying3 g3
      obtain ⟨m4, e4, r4, _⟩ := DataW.trod_int Try.underlying3 g4
      have e0 : [c0] = _ := e0
      have e1 : [c1] = _ := e1
      have e2 : [c2] = _ := e2
      have e3 : [c3] = _ := e3
      have e4 : [c4] = _ := e4
      simp only [List.cons.injEq, and_true] at e0 e1 e2 e3 e4
      refine ⟨⟨m0, m1, m2, m3, m4⟩, ?_, by rw [e0, e1, e2, e3, e4]⟩
      rw [hx, r0, r1, r2, r3, r4]
      rfl
set_option maxRecDepth 100000 in
theorem open_words {H : Type} {enc : TypeId × Value → H} {w : World} {base : Nat} {spare : Nat → Bool} {held : Bool} {fuel : Nat} {cs : List Value} {x : DataW H × List MemPlace} (h : DataW.trod enc Try.prog w base spare held fuel 23 cs = some x) :
    cs = [.slice none 0 0] ∧ x = (.nil, []) ∨
    ∃ (a : Addr) (cap : Nat) (ws : List Wd) (sp : List (DataW H)) (pl : List MemPlace), cs = [.slice (some a) ws.length cap] ∧ ws.length ≤ cap ∧ cap ≤ maxLen ∧ x = (.slice (ws.map datW) sp, pl) ∧ ∀ k y, ws[k]? = some y → AtA w a k y := by
  rcases open_slice Try.underlying23 h with h0 | ⟨a, len, cap, m, n, D, Pl, hcs, hb, hl, hm, hmm, hx, hi⟩
  · exact .inl h0
  · have hlm : len ≤ m := by rw [hmm]; split <;> omega
    have hex : ∀ i, ∃ y : Wd, i < len → D i = datW y ∧ AtA w a i y := by
      intro i
      by_cases hil : i < len
      · obtain ⟨cs', hc, ht'⟩ := hi i (by omega)
        obtain ⟨y, hy, rfl⟩ := one_word ht'
        rw [words_cells5] at hc
        obtain ⟨_, _, hat⟩ := World.cells?_some hc
        refine ⟨y, fun _ => ⟨hy, ?_⟩⟩
        simp only [Go.Deep.add_add] at hat
        exact ⟨hat 0 (by omega), hat 1 (by omega), hat 2 (by omega), hat 3 (by omega), hat 4 (by omega)⟩
      · exact ⟨noWd, fun h => absurd h hil⟩
    refine .inr ⟨a, cap, (List.range len).map (fun i => (hex i).choose), (List.range (m - len)).map (fun j => D (len + j)), x.2, by simpa using hcs, by simpa using hl, hm, ?_, ?_⟩
    · rw [hx]
      congr 2
      rw [List.map_map]
      apply List.map_congr_left
      intro i hir
      exact ((hex i).choose_spec (List.mem_range.1 hir)).1
    · intro k y hk
      rw [List.getElem?_map] at hk
      by_cases hkl : k < len
      · rw [List.getElem?_range hkl] at hk
        simp only [Option.map_some, Option.some.injEq] at hk
        rw [← hk]
        exact ((hex k).choose_spec hkl).2
      · rw [List.getElem?_eq_none (by simpa using hkl)] at hk
        simp at hk
theorem all_mem {H : Type} {P : Program} {e : TypeId} : ∀ {l : List (DataW H)} {d : DataW H}, d ∈ l → ∀ n ∈ d.weights P e, n ∈ DataW.weightsAll P e l
  | _ :: r, d, hd, n, hn => by
    simp only [DataW.weightsAll, List.mem_append]
    rcases List.mem_cons.1 hd with rfl | h
    · exact .inl hn
    · exact .inr (all_mem h n hn)
/-- No text of a row that comes in is beyond the reach. -/
theorem texts_reach {H : Type} {ts : List TypeId} {ds : List (DataW H)} (h : (DataW.weightsEach Try.prog ts ds).all (· ≤ reachBytes) = true) {j : Nat} {ws : List Wd} {sp : List (DataW H)} (ht : ts[j]? = some 23) (hd : ds[j]? = some (.slice (ws.map datW) sp)) :
    ∀ x ∈ ws, x.t.size ≤ 140737488351232 := by
  intro x hx
  have h1 : x.t.size ≤ reachBytes := by
    refine of_decide_eq_true (List.all_eq_true.1 h _ (DataW.weights_mem_each ht hd _ ?_))
    simp only [DataW.weights, Try.underlying23, List.mem_cons, List.mem_append]
    refine .inr (.inl (all_mem (List.mem_map_of_mem hx) _ ?_))
    simp [datW, DataW.weights, Try.underlying36, DataW.weightsEach]
  exact h1
end Go.Proofs.Ytfnmkgfaoacnpaa
