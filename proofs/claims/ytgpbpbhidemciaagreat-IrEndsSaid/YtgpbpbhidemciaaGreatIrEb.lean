/-
  What the law's helper 'set' gives, and rows of blocks and of instructions that are made. No condition beyond those that each theorem states.
-/
import Derived.Test.YtgpbpbhidemciaaGreatIrEa
namespace Go.Proofs.YtgpbpbhidemciaaGreat
open Go.RowKit

/-- A constant. -/
def setI (v : Int) : Ii := ⟨1, v, 0, 0, 0, 0, [], 0⟩
set_option maxRecDepth 100000 in
theorem set_any (v : Int) (w : World) : Calls Tryz.prog 5 #[.int .i64 v] w fun e w' => e = .returned (insV (setI v) none 0) ∧ Below w.heap.size w w' := by
  go_enter Tryz.func5, Tryz.ntmps5
  go_wp2
  refine bodyPost_ret (results_cell_row rfl _ _ w.heap.size 25 _ (0, 0) _ (by simp) (Blk.new w _ _) Tryz.underlying25 rfl ins_size) rfl ?_
  exact ⟨rfl, (Below.refl _ w).alloc (Nat.le_refl _) _⟩
/-- Instructions, all nought. -/
theorem make_ins {n : Nat} (hn : n ≤ 1000000) : ∃ cs, Good 8 6 cs n ∧ ∀ W : World, (Instr.makeSlice 32 (.int .i64 n) (.int .i64 n)).run Tryz.prog W = .ok (.slice (some ⟨W.heap.size, 0, none⟩) n n) (W.alloc (.cells cs 25)) := by
  obtain ⟨i, hi, hz, hs, hb⟩ := info_parts ins_info
  have h := fun W => run_make (P := Tryz.prog) W 32 25 i _ Tryz.underlying32 hi hz .i64 .i64 (n : Int) (n : Int) (by omega) (Int.le_refl _) (by rw [hb]; omega) (by omega)
  rw [hs] at h
  simp only [Int.toNat_natCast] at h
  refine ⟨_, made_good 8 6 n _ rfl (by omega) (fun r hr => ?_), h⟩
  have h8 : r = 0 ∨ r = 1 ∨ r = 2 ∨ r = 3 ∨ r = 4 ∨ r = 5 ∨ r = 6 ∨ r = 7 := by omega
  rcases h8 with h | h | h | h | h | h | h | h <;> subst h <;> refine ⟨fun h => ?_, fun h => ?_⟩ <;> first | (exact absurd h (by decide)) | exact ⟨0, rfl⟩ | rfl
/-- Blocks, all nought. -/
theorem make_blocks {n : Nat} (hn : n ≤ 1000000) : ∃ cs, Good 5 0 cs n ∧ ∀ W : World, (Instr.makeSlice 35 (.int .i64 n) (.int .i64 n)).run Tryz.prog W = .ok (.slice (some ⟨W.heap.size, 0, none⟩) n n) (W.alloc (.cells cs 34)) := by
  obtain ⟨i, hi, hz, hs, hb⟩ := info_parts block_info
  have h := fun W => run_make (P := Tryz.prog) W 35 34 i _ Tryz.underlying35 hi hz .i64 .i64 (n : Int) (n : Int) (by omega) (Int.le_refl _) (by rw [hb]; omega) (by omega)
  rw [hs] at h
  simp only [Int.toNat_natCast] at h
  refine ⟨_, made_good 5 0 n _ rfl (by omega) (fun r hr => ?_), h⟩
  have h5 : r = 0 ∨ r = 1 ∨ r = 2 ∨ r = 3 ∨ r = 4 := by omega
  rcases h5 with h | h | h | h | h <;> subst h <;> refine ⟨fun h => ?_, fun h => ?_⟩ <;> first | (exact absurd h (by decide)) | exact ⟨0, rfl⟩ | rfl
/-- A block's end is stored. -/
theorem Good.term {w : World} {g : Nat} {t : TypeId} {cs : Array Value} {n j : Nat} (hb : Blk w g t cs) (h : Good 5 0 cs n) (a b c d : Int) :
    ∃ cs', Blk ((((w.setCell ⟨g, j * 5 + 1, none⟩ (.int .i64 a)).setCell ⟨g, j * 5 + 2, none⟩ (.int .i64 b)).setCell ⟨g, j * 5 + 3, none⟩ (.int .i64 c)).setCell ⟨g, j * 5 + 4, none⟩ (.int .i64 d)) g t cs' ∧ Good 5 0 cs' n :=
  ⟨_, (((hb.put (j * 5 + 1) _).put (j * 5 + 2) _).put (j * 5 + 3) _).put (j * 5 + 4) _, (((h.put (r := 1) (by omega) (by omega) a).put (r := 2) (by omega) (by omega) b).put (r := 3) (by omega) (by omega) c).put (r := 4) (by omega) (by omega) d⟩
def nilB (t : Tt) : BE := (t, [], none, 0)
/-- A row of blocks without instructions that is owned. -/
theorem good_of_row {w : World} {B : Nat} {v : Value} {ts : List Tt} (h : RowB w B v (ts.map nilB)) (hn : 0 < ts.length) : ∃ g cap cs, v = .slice (some ⟨g, 0, none⟩) ts.length cap ∧ B ≤ g ∧ ts.length ≤ cap ∧ Blk w g 34 cs ∧ Good 5 0 cs ts.length := by
  have h0 := h
  rcases h.2 with ⟨_, h1⟩ | ⟨g, cap, cur, hv, hB, hg, hle, _, hsz, htk⟩
  · rw [List.length_map] at h1; omega
  · rw [List.length_map] at hv hle
    refine ⟨g, cap, cur, hv, hB, hle, hg, fun j r hj hr => ?_⟩
    obtain ⟨t, ht⟩ : ∃ t, ts[j]? = some t := ⟨_, List.getElem?_eq_getElem hj⟩
    have hb : Blk w g 34 cur := hg
    have h2 : RowB w B (.slice (some ⟨g, 0, none⟩) (ts.map nilB).length cap) (ts.map nilB) := by rw [List.length_map, ← hv]; exact h0
    have hc : cur[j * 5 + r]? = (beC (nilB t))[r]? := by
      rw [← hb.cell, World.ownsRow.cellAt h2 (j * 5 + r) (by simp; omega), flat_cell beC 5 be_len (ts.map nilB) j (nilB t) r (by rw [List.getElem?_map, ht]; rfl) hr]
    rw [hc]
    have h5 : r = 0 ∨ r = 1 ∨ r = 2 ∨ r = 3 ∨ r = 4 := by omega
    rcases h5 with h | h | h | h | h <;> subst h <;> refine ⟨fun h => ?_, fun h => ?_⟩ <;> first | (exact absurd h (by decide)) | exact ⟨_, rfl⟩ | rfl
theorem new_three (W : World) (t1 t2 t3 : TypeId) (c1 c2 c3 : Array Value) :
    Blk (((W.alloc (.cells c1 t1)).alloc (.cells c2 t2)).alloc (.cells c3 t3)) W.heap.size t1 c1 ∧ Blk (((W.alloc (.cells c1 t1)).alloc (.cells c2 t2)).alloc (.cells c3 t3)) (W.heap.size + 1) t2 c2 ∧
    Blk (((W.alloc (.cells c1 t1)).alloc (.cells c2 t2)).alloc (.cells c3 t3)) (W.heap.size + 1 + 1) t3 c3 ∧ Below W.heap.size W (((W.alloc (.cells c1 t1)).alloc (.cells c2 t2)).alloc (.cells c3 t3)) := by
  have h3 := Blk.new ((W.alloc (.cells c1 t1)).alloc (.cells c2 t2)) t3 c3
  have e : ((W.alloc (.cells c1 t1)).alloc (.cells c2 t2)).heap.size = W.heap.size + 1 + 1 := by simp
  rw [e] at h3
  exact ⟨((Blk.new W _ _).alloc _).alloc _, (new_two W _ _ _).alloc _, h3, (((Below.refl _ W).alloc (Nat.le_refl _) _).alloc (by simp) _).alloc (by simp; omega) _⟩
set_option maxRecDepth 100000 in
theorem set_any' (v : Int) (w : World) : Calls Tryz.prog 5 #[.int .i64 v] w fun e w' => e = .returned (.agg #[.int .i64 1, .int .i64 v, .int .i64 0, .int .i64 0, .int .i64 0, .int .i64 0, .slice none 0 0, .int .i64 0]) ∧ Below w.heap.size w w' := set_any v w
/-- An instruction is stored. -/
theorem Good.ins {w : World} {g : Nat} {t : TypeId} {cs : Array Value} {n j : Nat} (hb : Blk w g t cs) (h : Good 8 6 cs n) (a b c d e f k : Int) :
    ∃ cs', Blk ((((((((w.setCell ⟨g, j * 8, none⟩ (.int .i64 a)).setCell ⟨g, j * 8 + 1, none⟩ (.int .i64 b)).setCell ⟨g, j * 8 + 2, none⟩ (.int .i64 c)).setCell ⟨g, j * 8 + 3, none⟩ (.int .i64 d)).setCell ⟨g, j * 8 + 4, none⟩ (.int .i64 e)).setCell ⟨g, j * 8 + 5, none⟩ (.int .i64 f)).setCell ⟨g, j * 8 + 6, none⟩ (.slice none 0 0)).setCell ⟨g, j * 8 + 7, none⟩ (.int .i64 k)) g t cs' ∧ Good 8 6 cs' n :=
  ⟨_, (((((((hb.put (j * 8) _).put (j * 8 + 1) _).put (j * 8 + 2) _).put (j * 8 + 3) _).put (j * 8 + 4) _).put (j * 8 + 5) _).put (j * 8 + 6) _).put (j * 8 + 7) _,
    (((((((h.put (j := j) (r := 0) (by omega) (by omega) a).put (j := j) (r := 1) (by omega) (by omega) b).put (j := j) (r := 2) (by omega) (by omega) c).put (j := j) (r := 3) (by omega) (by omega) d).put (j := j) (r := 4) (by omega) (by omega) e).put (j := j) (r := 5) (by omega) (by omega) f).putNil (j := j) (by omega)).put (j := j) (r := 7) (by omega) (by omega) k⟩
theorem far_eight {w : World} {g g' : Nat} {t t' : TypeId} {cs cs' : Array Value} (hb : Blk w g t cs) (hb' : Blk w g' t' cs') (ht : t ≠ t') (o0 o1 o2 o3 o4 o5 o6 o7 : Nat) (a b c d e f k l : Value) :
    Blk ((((((((w.setCell ⟨g', o0, none⟩ a).setCell ⟨g', o1, none⟩ b).setCell ⟨g', o2, none⟩ c).setCell ⟨g', o3, none⟩ d).setCell ⟨g', o4, none⟩ e).setCell ⟨g', o5, none⟩ f).setCell ⟨g', o6, none⟩ k).setCell ⟨g', o7, none⟩ l) g t cs := by
  have hne : g ≠ g' := ir_ne' hb hb' ht
  exact (((((((hb.far (p := ⟨g', o0, none⟩) hne _).far (p := ⟨g', o1, none⟩) hne _).far (p := ⟨g', o2, none⟩) hne _).far (p := ⟨g', o3, none⟩) hne _).far (p := ⟨g', o4, none⟩) hne _).far (p := ⟨g', o5, none⟩) hne _).far (p := ⟨g', o6, none⟩) hne _).far (p := ⟨g', o7, none⟩) hne _
theorem below_eight {B : Nat} {A w : World} {g : Nat} (h : Below B A w) (hg : B ≤ g) (o0 o1 o2 o3 o4 o5 o6 o7 : Nat) (a b c d e f k l : Value) :
    Below B A ((((((((w.setCell ⟨g, o0, none⟩ a).setCell ⟨g, o1, none⟩ b).setCell ⟨g, o2, none⟩ c).setCell ⟨g, o3, none⟩ d).setCell ⟨g, o4, none⟩ e).setCell ⟨g, o5, none⟩ f).setCell ⟨g, o6, none⟩ k).setCell ⟨g, o7, none⟩ l) :=
  (((((((h.setCell (p := ⟨g, o0, none⟩) hg _).setCell (p := ⟨g, o1, none⟩) hg _).setCell (p := ⟨g, o2, none⟩) hg _).setCell (p := ⟨g, o3, none⟩) hg _).setCell (p := ⟨g, o4, none⟩) hg _).setCell (p := ⟨g, o5, none⟩) hg _).setCell (p := ⟨g, o6, none⟩) hg _).setCell (p := ⟨g, o7, none⟩) hg _
/-- Numbers, all nought. -/
theorem make_ints {n : Nat} (hn : n ≤ 1000000) : ∃ cs, Good 1 1 cs n ∧ ∀ W : World, (Instr.makeSlice 22 (.int .i64 n) (.int .i64 n)).run Tryz.prog W = .ok (.slice (some ⟨W.heap.size, 0, none⟩) n n) (W.alloc (.cells cs 3)) := by
  obtain ⟨i, hi, hz, hs, hb⟩ := info_parts int_info
  have h := fun W => run_make (P := Tryz.prog) W 22 3 i _ Tryz.underlying22 hi hz .i64 .i64 (n : Int) (n : Int) (by omega) (Int.le_refl _) (by rw [hb]; omega) (by omega)
  rw [hs] at h
  simp only [Int.toNat_natCast] at h
  refine ⟨_, made_good 1 1 n _ rfl (by omega) (fun r hr => ?_), h⟩
  have h1 : r = 0 := by omega
  subst h1
  exact ⟨fun h => absurd h (by decide), fun _ => ⟨0, rfl⟩⟩
theorem good_ints {w : World} {g : Nat} {t : TypeId} {cs : Array Value} {n : Nat} (hb : Blk w g t cs) (h : Good 1 1 cs n) : ∃ l : List Int, l.length = n ∧ IntsW w (some ⟨g, 0, none⟩) l := by
  have key : ∀ j, ∃ x : Int, j < n → w.cell? ⟨g, j, none⟩ = some (.int .i64 x) := fun j => by
    by_cases hj : j < n
    · obtain ⟨v, hv⟩ := (h j 0 hj (by omega)).2 (by omega)
      rw [Nat.mul_one, Nat.add_zero] at hv
      exact ⟨v, fun _ => (hb.cell _).trans hv⟩
    · exact ⟨0, fun h => absurd h hj⟩
  refine ⟨(List.range n).map fun j => (key j).choose, by simp, fun j x hx => ?_⟩
  rw [List.getElem?_map, Option.map_eq_some_iff] at hx
  obtain ⟨i, hi, rfl⟩ := hx
  obtain ⟨hj, hij⟩ := List.getElem?_eq_some_iff.1 hi
  rw [List.getElem_range] at hij
  subst hij
  exact ⟨g, 0, rfl, hb.lt, by rw [Nat.zero_add]; exact (key j).choose_spec (by simpa using hj)⟩
/-- A function of one block of such instructions, or of such parameters, answers as it should. -/
theorem tells_one {w : World} {gp gi : Nat} {t t2 : TypeId} {cs : Array Value} {n : Nat} (hb : Blk w gi t cs) (h : Good 8 6 cs n) (hn : n ≤ 1000000) (hp : Blk w gp t2 #[.slice (some ⟨gi, 0, none⟩) n n, .int .i64 4, .int .i64 0, .int .i64 0, .int .i64 0]) :
    Calls Tryz.prog 6 #[.agg #[.slice none 0 0, .slice (some ⟨gp, 0, none⟩) 1 1]] w fun e w' => e = .returned (.bool true) ∧ Below w.heap.size w w' := by
  obtain ⟨l, hl, hl2, hl3⟩ := good_ins hb h
  have h1 := tells_any ⟨[], [⟨l, ⟨4, 0, 0, 0⟩⟩]⟩ none 0 (some ⟨gp, 0, none⟩) 1 w ⟨by simp, by simp, fun x hx => by
    simp at hx
    subst hx
    exact ⟨by simp only; omega, fun i hi => by rw [hl2 i hi]; simp⟩⟩ ⟨IntsW.nil _ _, fun k x hx => by
    cases k with
    | zero =>
      simp at hx
      subst hx
      exact ⟨gp, 0, some ⟨gi, 0, none⟩, n, rfl, hp.lt, by rw [hl.symm] at hp ⊢; exact ⟨hp.cell 0, hp.cell 1, hp.cell 2, hp.cell 3, hp.cell 4, fun h => (by cases h), hl3⟩⟩
    | succ k => simp at hx, fun _ => rfl, fun h => by cases h⟩
  unfold fnV fnC at h1
  exact h1
theorem tells_pars {w : World} {gp gi c : Nat} {t t2 : TypeId} {cs : Array Value} {n : Nat} (hb : Blk w gi t cs) (h : Good 1 1 cs n) (hn : n ≤ 1000000) (hp : Blk w gp t2 #[.slice none 0 0, .int .i64 4, .int .i64 0, .int .i64 0, .int .i64 0]) :
    Calls Tryz.prog 6 #[.agg #[.slice (some ⟨gi, 0, none⟩) n c, .slice (some ⟨gp, 0, none⟩) 1 1]] w fun e w' => e = .returned (.bool true) ∧ Below w.heap.size w w' := by
  obtain ⟨l, hl, hl3⟩ := good_ints hb h
  have h1 := tells_any ⟨l, [⟨[], ⟨4, 0, 0, 0⟩⟩]⟩ (some ⟨gi, 0, none⟩) c (some ⟨gp, 0, none⟩) 1 w ⟨by simp only; omega, by simp, fun x hx => by
    simp at hx
    subst hx
    simp⟩ ⟨hl3, fun k x hx => by
    cases k with
    | zero =>
      simp at hx
      subst hx
      exact ⟨gp, 0, none, 0, rfl, hp.lt, ⟨hp.cell 0, hp.cell 1, hp.cell 2, hp.cell 3, hp.cell 4, fun _ => rfl, fun k x hx => by simp at hx⟩⟩
    | succ k => simp at hx, fun h => (by cases h), fun h => by cases h⟩
  unfold fnV fnC at h1
  simp only [hl] at h1
  exact h1
end Go.Proofs.YtgpbpbhidemciaaGreat
