/-
  Rows of blocks, of instructions, of numbers that are made and written to: whatever their numbers are. No condition beyond those that each theorem states.
-/
import Derived.Test.YtbckkmicdpjnaaaDoorIrQb
import Derived.Test.YtbckkmicdpjnaaaDoorKOwn
namespace Go.Proofs.YtbckkmicdpjnaaaDoor
open Go.RowKit

/-- A row of n parts of s cells each: the one at q is no row, the others are numbers. -/
def Good (s q : Nat) (cs : Array Value) (n : Nat) : Prop := ∀ j r, j < n → r < s → (r = q → cs[j * s + r]? = some (.slice none 0 0)) ∧ (r ≠ q → ∃ v : Int, cs[j * s + r]? = some (.int .i64 v))
theorem place_one {s j r j' r' : Nat} (hr : r < s) (hr' : r' < s) (h : j * s + r = j' * s + r') : j = j' ∧ r = r' := by
  have h1 : (j * s + r) / s = j := by rw [Nat.mul_comm, Nat.mul_add_div (by omega), Nat.div_eq_of_lt hr]; rfl
  have h2 : (j' * s + r') / s = j' := by rw [Nat.mul_comm, Nat.mul_add_div (by omega), Nat.div_eq_of_lt hr']; rfl
  have hj : j = j' := by rw [← h1, ← h2, h]
  subst hj
  exact ⟨rfl, by omega⟩
theorem Good.put {s q n : Nat} {cs : Array Value} (h : Good s q cs n) {j r : Nat} (hr : r < s) (hq : r ≠ q) (v : Int) : Good s q (cs.setIfInBounds (j * s + r) (.int .i64 v)) n := by
  intro j' r' hj' hr'
  obtain ⟨h1, h2⟩ := h j' r' hj' hr'
  rw [Array.getElem?_setIfInBounds]
  by_cases he : j * s + r = j' * s + r'
  · obtain ⟨e1, e2⟩ := place_one hr hr' he
    subst e1 e2
    refine ⟨fun hh => absurd hh hq, fun _ => ⟨v, ?_⟩⟩
    obtain ⟨u, hu⟩ := h2 hq
    have hb : j * s + r < cs.size := (Array.getElem?_eq_some_iff.1 hu).1
    rw [if_pos rfl, if_pos hb]
  · rw [if_neg he]
    exact ⟨h1, h2⟩
theorem Good.putNil {s q n : Nat} {cs : Array Value} (h : Good s q cs n) {j : Nat} (hq : q < s) : Good s q (cs.setIfInBounds (j * s + q) (.slice none 0 0)) n := by
  intro j' r' hj' hr'
  obtain ⟨h1, h2⟩ := h j' r' hj' hr'
  rw [Array.getElem?_setIfInBounds]
  by_cases he : j * s + q = j' * s + r'
  · obtain ⟨e1, e2⟩ := place_one hq hr' he
    subst e1 e2
    refine ⟨fun _ => ?_, fun hh => absurd rfl hh⟩
    have hb : j * s + q < cs.size := (Array.getElem?_eq_some_iff.1 (h1 rfl)).1
    rw [if_pos rfl, if_pos hb]
  · rw [if_neg he]
    exact ⟨h1, h2⟩
theorem Good.less {s q n m : Nat} {cs : Array Value} (h : Good s q cs n) (hm : m ≤ n) : Good s q cs m := fun j r hj hr => h j r (by omega) hr
/-- A row of blocks without instructions. -/
theorem good_blocks {w : World} {g : Nat} {t : TypeId} {cs : Array Value} {n : Nat} (hb : Blk w g t cs) (h : Good 5 0 cs n) : ∃ l : List Bb, l.length = n ∧ (∀ x ∈ l, x.ins = []) ∧ BlsW w (some ⟨g, 0, none⟩) l := by
  have key : ∀ j, ∃ x : Bb, x.ins = [] ∧ (j < n → BlAt w g (j * 5) x none 0) := fun j => by
    by_cases hj : j < n
    · obtain ⟨k, hk⟩ := (h j 1 hj (by omega)).2 (by omega)
      obtain ⟨a, ha⟩ := (h j 2 hj (by omega)).2 (by omega)
      obtain ⟨t0, h0⟩ := (h j 3 hj (by omega)).2 (by omega)
      obtain ⟨t1, h1⟩ := (h j 4 hj (by omega)).2 (by omega)
      exact ⟨⟨[], ⟨k, a, t0, t1⟩⟩, rfl, fun _ => ⟨(hb.cell _).trans ((h j 0 hj (by omega)).1 rfl), (hb.cell _).trans hk, (hb.cell _).trans ha, (hb.cell _).trans h0, (hb.cell _).trans h1, fun _ => rfl, fun k x hx => by simp at hx⟩⟩
    · exact ⟨⟨[], ⟨0, 0, 0, 0⟩⟩, rfl, fun h => absurd h hj⟩
  refine ⟨(List.range n).map fun j => (key j).choose, by simp, fun x hx => ?_, fun j x hx => ?_⟩
  · obtain ⟨j, _, rfl⟩ := List.mem_map.1 hx
    exact (key j).choose_spec.1
  · rw [List.getElem?_map, Option.map_eq_some_iff] at hx
    obtain ⟨i, hi, rfl⟩ := hx
    obtain ⟨hj, hij⟩ := List.getElem?_eq_some_iff.1 hi
    rw [List.getElem_range] at hij
    subst hij
    exact ⟨g, 0, none, 0, rfl, hb.lt, by rw [Nat.zero_add]; exact (key j).choose_spec.2 (by simpa using hj)⟩
/-- A row of instructions without arguments. -/
theorem good_ins {w : World} {g : Nat} {t : TypeId} {cs : Array Value} {n : Nat} (hb : Blk w g t cs) (h : Good 8 6 cs n) : ∃ l : List Ii, l.length = n ∧ (∀ x ∈ l, x.args = []) ∧ InsW w (some ⟨g, 0, none⟩) l := by
  have key : ∀ j, ∃ x : Ii, x.args = [] ∧ (j < n → InAt w g (j * 8) x none 0) := fun j => by
    by_cases hj : j < n
    · obtain ⟨a0, h0⟩ := (h j 0 hj (by omega)).2 (by omega)
      obtain ⟨a1, h1⟩ := (h j 1 hj (by omega)).2 (by omega)
      obtain ⟨a2, h2⟩ := (h j 2 hj (by omega)).2 (by omega)
      obtain ⟨a3, h3⟩ := (h j 3 hj (by omega)).2 (by omega)
      obtain ⟨a4, h4⟩ := (h j 4 hj (by omega)).2 (by omega)
      obtain ⟨a5, h5⟩ := (h j 5 hj (by omega)).2 (by omega)
      obtain ⟨a7, h7⟩ := (h j 7 hj (by omega)).2 (by omega)
      exact ⟨⟨a0, a1, a2, a3, a4, a5, [], a7⟩, rfl, fun _ => ⟨(hb.cell _).trans h0, (hb.cell _).trans h1, (hb.cell _).trans h2, (hb.cell _).trans h3, (hb.cell _).trans h4, (hb.cell _).trans h5, (hb.cell _).trans ((h j 6 hj (by omega)).1 rfl), (hb.cell _).trans h7, fun _ => rfl, IntsW.nil _ _⟩⟩
    · exact ⟨⟨0, 0, 0, 0, 0, 0, [], 0⟩, rfl, fun h => absurd h hj⟩
  refine ⟨(List.range n).map fun j => (key j).choose, by simp, fun x hx => ?_, fun j x hx => ?_⟩
  · obtain ⟨j, _, rfl⟩ := List.mem_map.1 hx
    exact (key j).choose_spec.1
  · rw [List.getElem?_map, Option.map_eq_some_iff] at hx
    obtain ⟨i, hi, rfl⟩ := hx
    obtain ⟨hj, hij⟩ := List.getElem?_eq_some_iff.1 hi
    rw [List.getElem_range] at hij
    subst hij
    exact ⟨g, 0, none, 0, rfl, hb.lt, by rw [Nat.zero_add]; exact (key j).choose_spec.2 (by simpa using hj)⟩
theorem made_good (s q n : Nat) (z : Array Value) (hz : z.size = s) (_hs : 0 < s) (h : ∀ r, r < s → (r = q → z[r]? = some (.slice none 0 0)) ∧ (r ≠ q → ∃ v : Int, z[r]? = some (.int .i64 v))) : Good s q (madeCells z (n * s)) n := by
  intro j r hj hr
  have hlt : j * s + r < n * s := by
    have := Nat.mul_le_mul_right s (show j + 1 ≤ n by omega)
    rw [Nat.add_mul] at this
    omega
  have hm : (j * s + r) % s = r := by rw [Nat.mul_comm, Nat.mul_add_mod]; exact Nat.mod_eq_of_lt hr
  have e : (madeCells z (n * s))[j * s + r]? = z[r]? := by
    unfold madeCells
    rw [Array.getElem?_map, Array.getElem?_range, if_pos hlt]
    simp only [Option.map_some, hz, hm]
    rw [Array.getElem?_eq_getElem (by omega)]
    simp [hz, hr]
  rw [e]
  exact h r hr
/-- Instructions, all nought. -/
theorem make_ins {n : Nat} (hn : n ≤ 1000000) : ∃ cs, Good 8 6 cs n ∧ ∀ W : World, (Instr.makeSlice 32 (.int .i64 n) (.int .i64 n)).run Tryd.prog W = .ok (.slice (some ⟨W.heap.size, 0, none⟩) n n) (W.alloc (.cells cs 31)) := by
  obtain ⟨i, hi, hz, hs, hb⟩ := info_parts ins_info
  have h := fun W => run_make (P := Tryd.prog) W 32 31 i _ Tryd.underlying32 hi hz .i64 .i64 (n : Int) (n : Int) (by omega) (Int.le_refl _) (by rw [hb]; omega) (by omega)
  rw [hs] at h
  simp only [Int.toNat_natCast] at h
  refine ⟨_, made_good 8 6 n _ rfl (by omega) (fun r hr => ?_), h⟩
  have h8 : r = 0 ∨ r = 1 ∨ r = 2 ∨ r = 3 ∨ r = 4 ∨ r = 5 ∨ r = 6 ∨ r = 7 := by omega
  rcases h8 with h | h | h | h | h | h | h | h <;> subst h <;> refine ⟨fun h => ?_, fun h => ?_⟩ <;> first | (exact absurd h (by decide)) | exact ⟨0, rfl⟩ | rfl
/-- Blocks, all nought. -/
theorem make_blocks {n : Nat} (hn : n ≤ 1000000) : ∃ cs, Good 5 0 cs n ∧ ∀ W : World, (Instr.makeSlice 35 (.int .i64 n) (.int .i64 n)).run Tryd.prog W = .ok (.slice (some ⟨W.heap.size, 0, none⟩) n n) (W.alloc (.cells cs 34)) := by
  obtain ⟨i, hi, hz, hs, hb⟩ := info_parts block_info
  have h := fun W => run_make (P := Tryd.prog) W 35 34 i _ Tryd.underlying35 hi hz .i64 .i64 (n : Int) (n : Int) (by omega) (Int.le_refl _) (by rw [hb]; omega) (by omega)
  rw [hs] at h
  simp only [Int.toNat_natCast] at h
  refine ⟨_, made_good 5 0 n _ rfl (by omega) (fun r hr => ?_), h⟩
  have h5 : r = 0 ∨ r = 1 ∨ r = 2 ∨ r = 3 ∨ r = 4 := by omega
  rcases h5 with h | h | h | h | h <;> subst h <;> refine ⟨fun h => ?_, fun h => ?_⟩ <;> first | (exact absurd h (by decide)) | exact ⟨0, rfl⟩ | rfl
/-- Numbers, all nought. -/
theorem make_ints {n : Nat} (hn : n ≤ 1000000) : ∃ cs, Good 1 1 cs n ∧ ∀ W : World, (Instr.makeSlice 22 (.int .i64 n) (.int .i64 n)).run Tryd.prog W = .ok (.slice (some ⟨W.heap.size, 0, none⟩) n n) (W.alloc (.cells cs 3)) := by
  obtain ⟨i, hi, hz, hs, hb⟩ := info_parts int_info
  have h := fun W => run_make (P := Tryd.prog) W 22 3 i _ Tryd.underlying22 hi hz .i64 .i64 (n : Int) (n : Int) (by omega) (Int.le_refl _) (by rw [hb]; omega) (by omega)
  rw [hs] at h
  simp only [Int.toNat_natCast] at h
  refine ⟨_, made_good 1 1 n _ rfl (by omega) (fun r hr => ?_), h⟩
  have h1 : r = 0 := by omega
  subst h1
  exact ⟨fun h => absurd h (by decide), fun _ => ⟨0, rfl⟩⟩
theorem good_ints {w : World} {g : Nat} {t : TypeId} {cs : Array Value} {n : Nat} (hb : Blk w g t cs) (h : Good 1 1 cs n) : ∃ l : List Int, l.length = n ∧ IntsW w (some ⟨g, 0, none⟩) l := by
  have key : ∀ j, ∃ x : Int, j < n → w.cell? ⟨g, j, none⟩ = some (.int .i64 x) := fun j => by
    by_cases hj : j < n
    · obtain ⟨v, hv⟩ := (h j 0 hj (by omega)).2 (by omega)
      rw [Nat.mul_one, Nat.add_zero] at hv
      exact ⟨v, fun _ => (hb.cell _).trans hv⟩
    · exact ⟨0, fun h => absurd h hj⟩
  refine ⟨(List.range n).map fun j => (key j).choose, by simp, fun j x hx => ?_⟩
  rw [List.getElem?_map, Option.map_eq_some_iff] at hx
  obtain ⟨i, hi, rfl⟩ := hx
  obtain ⟨hj, hij⟩ := List.getElem?_eq_some_iff.1 hi
  rw [List.getElem_range] at hij
  subst hij
  exact ⟨g, 0, rfl, hb.lt, by rw [Nat.zero_add]; exact (key j).choose_spec (by simpa using hj)⟩
theorem good_list {cs : Array Value} {n : Nat} (h : Good 1 1 cs n) : ∃ l : List Int, l.length = n ∧ ∀ (k : Nat) (x : Int), l[k]? = some x → cs[k]? = some (Value.int .i64 x) := by
  have key : ∀ j, ∃ x : Int, j < n → cs[j]? = some (.int .i64 x) := fun j => by
    by_cases hj : j < n
    · obtain ⟨v, hv⟩ := (h j 0 hj (by omega)).2 (by omega)
      rw [Nat.mul_one, Nat.add_zero] at hv
      exact ⟨v, fun _ => hv⟩
    · exact ⟨0, fun h => absurd h hj⟩
  refine ⟨(List.range n).map fun j => (key j).choose, by simp, fun j x hx => ?_⟩
  rw [List.getElem?_map, Option.map_eq_some_iff] at hx
  obtain ⟨i, hi, rfl⟩ := hx
  obtain ⟨hj, hij⟩ := List.getElem?_eq_some_iff.1 hi
  rw [List.getElem_range] at hij
  subst hij
  exact (key j).choose_spec (by simpa using hj)
end Go.Proofs.YtbckkmicdpjnaaaDoor
