/-
  A word's cells in a row that is owned; the chapter's two examples are read as it says. No condition beyond those that each theorem states.
  The document's rune at a place, as a plain function. No condition beyond those that each theorem states.
-/
import Derived.Test.YtkfplffcegbdfaaGreatDoorRead
import Derived.Test.YtkfplffcegbdfaaGreatDoorWordM
namespace Go.Proofs.YtkfplffcegbdfaaGreatDoor
open Go.RowKit
theorem flat_at (xs : List Wd) (k j : Nat) (hj : j < 5) : (xs.flatMap flatW)[k * 5 + j]? = (xs[k]?).bind (fun x => (flatW x)[j]?) := by
  induction xs generalizing k with
  | nil => simp
  | cons x xs ih =>
    cases k with
    | zero =>
      simp only [List.flatMap_cons, Nat.zero_mul, Nat.zero_add, List.getElem?_cons_zero, Option.bind_some]
      rw [List.getElem?_append_left (by simp [flatW]; omega)]
    | succ k =>
      have e : (k + 1) * 5 + j = (flatW x).length + (k * 5 + j) := by simp [flatW]; omega
      rw [List.flatMap_cons, e, List.getElem?_append_right (by omega), Nat.add_sub_cancel_left, ih k]
      simp
/-- A word's cells in a row that is owned. -/
theorem own_word {w : World} {B e g n cap : Nat} {xs : List Wd} (h : w.ownsRow B e 5 (.slice (some ⟨g, 0, none⟩) n cap) n (xs.flatMap flatW)) {k : Nat} {x : Wd} (hk : xs[k]? = some x) :
    w.cell? ⟨g, k * 5, none⟩ = some (.int .i64 x.k) ∧ w.cell? ⟨g, k * 5 + 1, none⟩ = some (.string x.t) ∧ w.cell? ⟨g, k * 5 + 2, none⟩ = some (.int .i64 x.n) ∧ w.cell? ⟨g, k * 5 + 3, none⟩ = some (.int .i64 x.l) ∧ w.cell? ⟨g, k * 5 + 4, none⟩ = some (.int .i64 x.c) := by
  have hc := fun j u hu => h.cells (g := g) rfl j u hu
  have ha : ∀ j, (⟨g, 0, none⟩ : Addr).add j = ⟨g, j, none⟩ := fun j => by unfold Addr.add; split <;> simp_all
  have f := fun j hj => flat_at xs k j hj
  simp only [hk, Option.bind_some] at f
  refine ⟨?_, ?_, ?_, ?_, ?_⟩
  · have := hc (k * 5) _ (f 0 (by omega)); rw [ha] at this; exact this
  · have := hc (k * 5 + 1) _ (f 1 (by omega)); rw [ha] at this; exact this
  · have := hc (k * 5 + 2) _ (f 2 (by omega)); rw [ha] at this; exact this
  · have := hc (k * 5 + 3) _ (f 3 (by omega)); rw [ha] at this; exact this
  · have := hc (k * 5 + 4) _ (f 4 (by omega)); rw [ha] at this; exact this
def ex1 : ByteArray := ⟨#[120, 49, 32, 61, 32, 45, 53, 32, 59, 32, 102, 105, 118, 101]⟩
def ex2 : ByteArray := ⟨#[97, 98, 226, 134, 146, 99]⟩
/-- The chapter's examples. -/
theorem ex1_reads : readErr ex1 = 0 ∧ (readWords ex1).map (fun x => (x.k, x.n)) = [(1, 0), (3, 0), (2, -5)] := by decide +kernel
theorem ex2_reads : readErr ex2 = 0 ∧ (readWords ex2).map (fun x => x.c) = [1, 3, 4] := by decide +kernel
theorem ex1_words : ∃ x0 x1 x2, readWords ex1 = [x0, x1, x2] ∧ x2.k = 2 ∧ x2.n = -5 := by
  have h := ex1_reads.2
  rcases hw : readWords ex1 with _ | ⟨x0, _ | ⟨x1, _ | ⟨x2, _ | ⟨x3, t⟩⟩⟩⟩ <;> rw [hw] at h <;> simp at h
  exact ⟨x0, x1, x2, rfl, h.2.2.1, h.2.2.2⟩
theorem ex2_words : ∃ x0 x1 x2, readWords ex2 = [x0, x1, x2] ∧ x1.c = 3 ∧ x2.c = 4 := by
  have h := ex2_reads.2
  rcases hw : readWords ex2 with _ | ⟨x0, _ | ⟨x1, _ | ⟨x2, _ | ⟨x3, t⟩⟩⟩⟩ <;> rw [hw] at h <;> simp at h
  exact ⟨x0, x1, x2, rfl, h.2.1, h.2.2⟩
theorem read_ex1 (w : World) : Calls Tryz.prog 70 #[.string ex1] w fun e w' => ∃ (g cap : Nat) (l c : Int), e = .returned (.tuple #[.slice (some ⟨g, 0, none⟩) 3 cap, .int .i64 l, .int .i64 c, .int .i64 0]) ∧
    w'.cell? ⟨g, 10, none⟩ = some (.int .i64 2) ∧ w'.cell? ⟨g, 12, none⟩ = some (.int .i64 (-5)) ∧ Below w.heap.size w w' ∧ g < w'.heap.size := by
  obtain ⟨x0, x1, x2, hx, hk, hn⟩ := ex1_words
  refine (read_any ex1 w (by decide)).mono ?_
  rintro e w' ⟨v, rfl, ho, hb⟩
  rw [hx] at ho
  obtain ⟨g, cap, rfl, _, hg⟩ := ho.form (by simp)
  have hc := own_word (k := 2) (x := x2) ho rfl
  rw [hk, hn] at hc
  exact ⟨g, cap, _, _, by rw [ex1_reads.1]; rfl, hc.1, hc.2.2.1, hb, hg⟩
theorem read_ex2 (w : World) : Calls Tryz.prog 70 #[.string ex2] w fun e w' => ∃ (g cap : Nat) (l c : Int), e = .returned (.tuple #[.slice (some ⟨g, 0, none⟩) 3 cap, .int .i64 l, .int .i64 c, .int .i64 0]) ∧
    w'.cell? ⟨g, 9, none⟩ = some (.int .i64 3) ∧ w'.cell? ⟨g, 14, none⟩ = some (.int .i64 4) ∧ Below w.heap.size w w' := by
  obtain ⟨x0, x1, x2, hx, hk, hn⟩ := ex2_words
  refine (read_any ex2 w (by decide)).mono ?_
  rintro e w' ⟨v, rfl, ho, hb⟩
  rw [hx] at ho
  obtain ⟨g, cap, rfl, _, hg⟩ := ho.form (by simp)
  have hc := own_word (k := 1) (x := x1) ho rfl
  have hd := own_word (k := 2) (x := x2) ho rfl
  rw [hk] at hc
  rw [hn] at hd
  exact ⟨g, cap, _, _, by rw [ex2_reads.1]; rfl, hc.2.2.2.2, hd.2.2.2.2, hb⟩
end Go.Proofs.YtkfplffcegbdfaaGreatDoor
namespace Go.Proofs.YtkfplffcegbdfaaGreatDoor
/-- The document's rune at a place, and its width; 0, 0: there is none. -/
def atP (s : ByteArray) (i : Nat) : Nat × Nat :=
  if i < s.size then (if (Utf8.decode s i).1 = 65533 ∧ (Utf8.decode s i).2 = 1 then (0, 0) else Utf8.decode s i) else (0, 0)
/-- A rune's value behind so many bytes more. -/
def accR (s : ByteArray) (i : Nat) (r0 : Int) : Nat → Int
  | 0 => r0
  | j + 1 => 64 * accR s i r0 j + ((s.get! (i + (j + 1))).toNat : Int) - 128
end Go.Proofs.YtkfplffcegbdfaaGreatDoor
