/-
  Rows of blocks and of instructions that hold no rows themselves, whatever their numbers are: they are functions in memory. No condition beyond those that each theorem states.
-/
import Derived.Test.YtgpbpbhidemciaaGreatIrSe
namespace Go.Proofs.YtgpbpbhidemciaaGreat
open Go.RowKit

/-- A row of n parts of s cells each: the one at q is no row, the others are numbers. -/
def Good (s q : Nat) (cs : Array Value) (n : Nat) : Prop := ∀ j r, j < n → r < s → (r = q → cs[j * s + r]? = some (.slice none 0 0)) ∧ (r ≠ q → ∃ v : Int, cs[j * s + r]? = some (.int .i64 v))
theorem place_one {s j r j' r' : Nat} (hr : r < s) (hr' : r' < s) (h : j * s + r = j' * s + r') : j = j' ∧ r = r' := by
  have h1 : (j * s + r) / s = j := by rw [Nat.mul_comm, Nat.mul_add_div (by omega), Nat.div_eq_of_lt hr]; rfl
  have h2 : (j' * s + r') / s = j' := by rw [Nat.mul_comm, Nat.mul_add_div (by omega), Nat.div_eq_of_lt hr']; rfl
  have hj : j = j' := by rw [← h1, ← h2, h]
  subst hj
  exact ⟨rfl, by omega⟩
theorem Good.put {s q n : Nat} {cs : Array Value} (h : Good s q cs n) {j r : Nat} (hr : r < s) (hq : r ≠ q) (v : Int) : Good s q (cs.setIfInBounds (j * s + r) (.int .i64 v)) n := by
  intro j' r' hj' hr'
  obtain ⟨h1, h2⟩ := h j' r' hj' hr'
  rw [Array.getElem?_setIfInBounds]
  by_cases he : j * s + r = j' * s + r'
  · obtain ⟨e1, e2⟩ := place_one hr hr' he
    subst e1 e2
    refine ⟨fun hh => absurd hh hq, fun _ => ⟨v, ?_⟩⟩
    obtain ⟨u, hu⟩ := h2 hq
    have hb : j * s + r < cs.size := (Array.getElem?_eq_some_iff.1 hu).1
    rw [if_pos rfl, if_pos hb]
  · rw [if_neg he]
    exact ⟨h1, h2⟩
theorem Good.putNil {s q n : Nat} {cs : Array Value} (h : Good s q cs n) {j : Nat} (hq : q < s) : Good s q (cs.setIfInBounds (j * s + q) (.slice none 0 0)) n := by
  intro j' r' hj' hr'
  obtain ⟨h1, h2⟩ := h j' r' hj' hr'
  rw [Array.getElem?_setIfInBounds]
  by_cases he : j * s + q = j' * s + r'
  · obtain ⟨e1, e2⟩ := place_one hq hr' he
    subst e1 e2
    refine ⟨fun _ => ?_, fun hh => absurd rfl hh⟩
    have hb : j * s + q < cs.size := (Array.getElem?_eq_some_iff.1 (h1 rfl)).1
    rw [if_pos rfl, if_pos hb]
  · rw [if_neg he]
    exact ⟨h1, h2⟩
theorem Good.less {s q n m : Nat} {cs : Array Value} (h : Good s q cs n) (hm : m ≤ n) : Good s q cs m := fun j r hj hr => h j r (by omega) hr
/-- A row of blocks without instructions. -/
theorem good_blocks {w : World} {g : Nat} {t : TypeId} {cs : Array Value} {n : Nat} (hb : Blk w g t cs) (h : Good 5 0 cs n) : ∃ l : List Bb, l.length = n ∧ (∀ x ∈ l, x.ins = []) ∧ BlsW w (some ⟨g, 0, none⟩) l := by
  have key : ∀ j, ∃ x : Bb, x.ins = [] ∧ (j < n → BlAt w g (j * 5) x none 0) := fun j => by
    by_cases hj : j < n
    · obtain ⟨k, hk⟩ := (h j 1 hj (by omega)).2 (by omega)
      obtain ⟨a, ha⟩ := (h j 2 hj (by omega)).2 (by omega)
      obtain ⟨t0, h0⟩ := (h j 3 hj (by omega)).2 (by omega)
      obtain ⟨t1, h1⟩ := (h j 4 hj (by omega)).2 (by omega)
      exact ⟨⟨[], ⟨k, a, t0, t1⟩⟩, rfl, fun _ => ⟨(hb.cell _).trans ((h j 0 hj (by omega)).1 rfl), (hb.cell _).trans hk, (hb.cell _).trans ha, (hb.cell _).trans h0, (hb.cell _).trans h1, fun _ => rfl, fun k x hx => by simp at hx⟩⟩
    · exact ⟨⟨[], ⟨0, 0, 0, 0⟩⟩, rfl, fun h => absurd h hj⟩
  refine ⟨(List.range n).map fun j => (key j).choose, by simp, fun x hx => ?_, fun j x hx => ?_⟩
  · obtain ⟨j, _, rfl⟩ := List.mem_map.1 hx
    exact (key j).choose_spec.1
  · rw [List.getElem?_map, Option.map_eq_some_iff] at hx
    obtain ⟨i, hi, rfl⟩ := hx
    obtain ⟨hj, hij⟩ := List.getElem?_eq_some_iff.1 hi
    rw [List.getElem_range] at hij
    subst hij
    exact ⟨g, 0, none, 0, rfl, hb.lt, by rw [Nat.zero_add]; exact (key j).choose_spec.2 (by simpa using hj)⟩
/-- A row of instructions without arguments. -/
theorem good_ins {w : World} {g : Nat} {t : TypeId} {cs : Array Value} {n : Nat} (hb : Blk w g t cs) (h : Good 8 6 cs n) : ∃ l : List Ii, l.length = n ∧ (∀ x ∈ l, x.args = []) ∧ InsW w (some ⟨g, 0, none⟩) l := by
  have key : ∀ j, ∃ x : Ii, x.args = [] ∧ (j < n → InAt w g (j * 8) x none 0) := fun j => by
    by_cases hj : j < n
    · obtain ⟨a0, h0⟩ := (h j 0 hj (by omega)).2 (by omega)
      obtain ⟨a1, h1⟩ := (h j 1 hj (by omega)).2 (by omega)
      obtain ⟨a2, h2⟩ := (h j 2 hj (by omega)).2 (by omega)
      obtain ⟨a3, h3⟩ := (h j 3 hj (by omega)).2 (by omega)
      obtain ⟨a4, h4⟩ := (h j 4 hj (by omega)).2 (by omega)
      obtain ⟨a5, h5⟩ := (h j 5 hj (by omega)).2 (by omega)
      obtain ⟨a7, h7⟩ := (h j 7 hj (by omega)).2 (by omega)
      exact ⟨⟨a0, a1, a2, a3, a4, a5, [], a7⟩, rfl, fun _ => ⟨(hb.cell _).trans h0, (hb.cell _).trans h1, (hb.cell _).trans h2, (hb.cell _).trans h3, (hb.cell _).trans h4, (hb.cell _).trans h5, (hb.cell _).trans ((h j 6 hj (by omega)).1 rfl), (hb.cell _).trans h7, fun _ => rfl, IntsW.nil _ _⟩⟩
    · exact ⟨⟨0, 0, 0, 0, 0, 0, [], 0⟩, rfl, fun h => absurd h hj⟩
  refine ⟨(List.range n).map fun j => (key j).choose, by simp, fun x hx => ?_, fun j x hx => ?_⟩
  · obtain ⟨j, _, rfl⟩ := List.mem_map.1 hx
    exact (key j).choose_spec.1
  · rw [List.getElem?_map, Option.map_eq_some_iff] at hx
    obtain ⟨i, hi, rfl⟩ := hx
    obtain ⟨hj, hij⟩ := List.getElem?_eq_some_iff.1 hi
    rw [List.getElem_range] at hij
    subst hij
    exact ⟨g, 0, none, 0, rfl, hb.lt, by rw [Nat.zero_add]; exact (key j).choose_spec.2 (by simpa using hj)⟩
/-- A function of such a row answers as it should. -/
theorem tells_good {w : World} {g : Nat} {t : TypeId} {cs : Array Value} {n c : Nat} (hb : Blk w g t cs) (h : Good 5 0 cs n) (hn : n ≤ 1000000) :
    Calls Tryz.prog 6 #[.agg #[.slice none 0 0, .slice (some ⟨g, 0, none⟩) n c]] w fun e w' => e = .returned (.bool true) ∧ Below w.heap.size w w' := by
  obtain ⟨l, hl, hl2, hl3⟩ := good_blocks hb h
  have h1 := tells_any ⟨[], l⟩ none 0 (some ⟨g, 0, none⟩) c w ⟨by simp, by simp only; omega, fun x hx => by rw [hl2 x hx]; simp⟩ ⟨IntsW.nil _ _, hl3, fun _ => rfl, fun h => by cases h⟩
  unfold fnV fnC at h1
  simp only [hl, List.length_nil] at h1
  exact h1
theorem made_good (s q n : Nat) (z : Array Value) (hz : z.size = s) (hs : 0 < s) (h : ∀ r, r < s → (r = q → z[r]? = some (.slice none 0 0)) ∧ (r ≠ q → ∃ v : Int, z[r]? = some (.int .i64 v))) : Good s q (madeCells z (n * s)) n := by
  intro j r hj hr
  have hlt : j * s + r < n * s := by
    have := Nat.mul_le_mul_right s (show j + 1 ≤ n by omega)
    rw [Nat.add_mul] at this
    omega
  have hm : (j * s + r) % s = r := by rw [Nat.mul_comm, Nat.mul_add_mod]; exact Nat.mod_eq_of_lt hr
  have e : (madeCells z (n * s))[j * s + r]? = z[r]? := by
    unfold madeCells
    rw [Array.getElem?_map, Array.getElem?_range, if_pos hlt]
    simp only [Option.map_some, hz, hm]
    rw [Array.getElem?_eq_getElem (by omega)]
    simp [Array.getD, hz, hr]
  rw [e]
  exact h r hr
end Go.Proofs.YtgpbpbhidemciaaGreat
