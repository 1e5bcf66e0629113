/-
  Both readings of a text are one. No condition beyond those that each theorem states.
  Package line's cursor over a text. No condition beyond those that each theorem states.
-/
import Derived.Test.YtkfplffcegbdfaaGreatDoorSame4
import Derived.Test.YtkfplffcegbdfaaGreatDoorWof
import Derived.Test.YtkfplffcegbdfaaGreatDoorPk6
namespace Go.Proofs.YtkfplffcegbdfaaGreatDoor
theorem read_eq (s : ByteArray) : refRead s = (readWords s, readLine s, readCol s, readErr s) := by
  rw [← fin_last]
  exact read_same s s.size 0 s.size startRd [] 1 1 false ⟨rfl, rfl, rfl, rfl, rfl, fun h => by have h : (0 : Int) = 1 ∨ (0 : Int) = 2 := h; omega⟩ (by omega) (by omega) (by omega)
end Go.Proofs.YtkfplffcegbdfaaGreatDoor
namespace Go.Proofs.YtkfplffcegbdfaaGreatDoor
open Go.RowKit

/-- The words that are read are of the four kinds. -/
theorem go_kinds (s : ByteArray) : ∀ (f i : Nat) (out : List Wd) (l c : Int) (r : Bool), (∀ x ∈ out, x.k = 1 ∨ x.k = 2 ∨ x.k = 3 ∨ x.k = 4) → ∀ x ∈ (refGo s f out l c r i).1, x.k = 1 ∨ x.k = 2 ∨ x.k = 3 ∨ x.k = 4 := by
  intro f
  induction f with
  | zero => intro i out l c r h; rw [refGo]; exact h
  | succ f ih =>
    intro i out l c r h
    have more : ∀ y : Wd, (y.k = 1 ∨ y.k = 2 ∨ y.k = 3 ∨ y.k = 4) → ∀ x ∈ out ++ [y], x.k = 1 ∨ x.k = 2 ∨ x.k = 3 ∨ x.k = 4 := by
      intro y hy x hx
      rcases List.mem_append.1 hx with hx | hx
      · exact h x hx
      · simp at hx; subst hx; exact hy
    rw [refGo]
    by_cases hlt : i < s.size
    · rw [if_pos hlt]
      split
      · simp
      split
      · exact ih _ _ _ _ _ (more _ (by simp))
      split
      · exact ih _ _ _ _ _ h
      split
      · split
        · split
          · simp
          · exact ih _ _ _ _ _ (more _ (by simp))
        · simp
      split
      · split
        · simp
        · exact ih _ _ _ _ _ (more _ (by simp))
      split
      · exact ih _ _ _ _ _ (more _ (by simp))
      · simp
    · rw [if_neg hlt]
      exact h
theorem read_kinds (s : ByteArray) : ∀ x ∈ readWords s, x.k = 1 ∨ x.k = 2 ∨ x.k = 3 ∨ x.k = 4 := by
  have h := go_kinds s s.size 0 [] 1 1 false (by simp)
  have e := read_eq s
  unfold refRead at e
  rw [e] at h
  exact h
/-- A text has no more words than bytes. -/
theorem go_few (s : ByteArray) : ∀ (f i : Nat) (out : List Wd) (l c : Int) (r : Bool), out.length ≤ i → i ≤ s.size → (refGo s f out l c r i).1.length ≤ s.size := by
  intro f
  induction f with
  | zero => intro i out l c r h1 h2; rw [refGo]; simp only; omega
  | succ f ih =>
    intro i out l c r h1 h2
    rw [refGo]
    by_cases hlt : i < s.size
    · rw [if_pos hlt]
      have hal := atP_le s i hlt
      by_cases hm : (atP s i).2 = 0
      · rw [if_pos hm]; simp
      rw [if_neg hm]
      split
      · exact ih _ _ _ _ _ (by simp; omega) (by omega)
      split
      · exact ih _ _ _ _ _ (by omega) hal
      split
      · rename_i hz
        have hle := numLen_le s i hlt
        split
        · split
          · simp
          · exact ih _ _ _ _ _ (by unfold numEnd; simp; omega) hle
        · simp
      split
      · rename_i hl
        split
        · simp
        · have hr := runTo_le s false i h2
          have hpos : i < (runTo s false i).1 := by
            unfold runTo
            obtain ⟨q, hq⟩ : ∃ q, s.size = q + 1 := ⟨s.size - 1, by omega⟩
            rw [hq, runEnd, if_pos hlt, if_neg (by simp [stopB, hl]; omega)]
            have := (runEnd_le s false q (i + (atP s i).2) (0 + 1) hal).1
            omega
          exact ih _ _ _ _ _ (by simp; omega) hr.2.1
      split
      · exact ih _ _ _ _ _ (by simp; omega) hal
      · simp
    · rw [if_neg hlt]
      simp only
      omega
theorem read_few (s : ByteArray) : (readWords s).length ≤ s.size := by
  have h := go_few s s.size 0 [] 1 1 false (by simp) (by omega)
  have e := read_eq s
  unfold refRead at e
  rw [e] at h
  exact h
/-- A cursor over a text, before anything is got. -/
def startC (s : ByteArray) : Cu := ⟨pruned (readWords s), readLine s, readCol s, readErr s⟩
theorem start_ok (s : ByteArray) : (startC s).Ok := by
  refine ⟨fun h => ?_, fun h => ?_, pruned_kinds _ (read_kinds s)⟩
  · have h : readErr s ≠ 0 := h
    have e : readWords s = [] := by unfold readWords; unfold readErr at h; rw [if_neg h]
    show pruned (readWords s) = []
    rw [e]
    rfl
  · have h : readErr s = 0 := h
    unfold readErr at h
    exact ⟨by show readLine s = 0; unfold readLine; rw [if_pos h], by show readCol s = 0; unfold readCol; rw [if_pos h]⟩
theorem cells_of_own {w : World} {B : Nat} {e : TypeId} {a : Option Addr} {c : Nat} {ws : List Wd} (h : w.ownsRow B e 5 (.slice a ws.length c) ws.length (ws.flatMap flatW)) : CellsA w a ws := fun k x hx => by
  have hlt : k < ws.length := (List.getElem?_eq_some_iff.1 hx).1
  obtain ⟨g, cap, hv, hg, hgl⟩ := h.form (by omega)
  rw [hv] at h
  simp only [Value.slice.injEq] at hv
  exact ⟨g, hv.1, hgl, own_word h hx⟩
theorem flatI_at (xs : List Wd) (k j : Nat) (hj : j < 3) : (xs.flatMap flatI)[k * 3 + j]? = (xs[k]?).bind (fun x => (flatI x)[j]?) := by
  induction xs generalizing k with
  | nil => simp
  | cons x xs ih =>
    cases k with
    | zero =>
      simp only [List.flatMap_cons, Nat.zero_mul, Nat.zero_add, List.getElem?_cons_zero, Option.bind_some]
      rw [List.getElem?_append_left (by simp [flatI]; omega)]
    | succ k =>
      have e : (k + 1) * 3 + j = (flatI x).length + (k * 3 + j) := by simp [flatI]; omega
      rw [List.flatMap_cons, e, List.getElem?_append_right (by omega), Nat.add_sub_cancel_left, ih k]
      simp
theorem row_of_own {w : World} {B : Nat} {a : Option Addr} {c : Nat} {ws : List Wd} (h : w.ownsRow B 127 3 (.slice a ws.length c) ws.length (ws.flatMap flatI)) : RowI w a ws ∧ ws.length ≤ c ∧ c ≤ 9223372036854775807 := by
  obtain ⟨_, h2⟩ := h
  rcases h2 with ⟨hv, hn⟩ | ⟨g, cap, cur, hv, _, hh, hcap, hm, hs, ht⟩
  · have : ws = [] := List.length_eq_zero_iff.1 hn
    subst this
    simp only [Value.slice.injEq] at hv
    exact ⟨RowI.nil _ _, Nat.zero_le _, by omega⟩
  · simp only [Value.slice.injEq] at hv
    obtain ⟨rfl, _, rfl⟩ := hv
    refine ⟨fun k x hx => ⟨g, 0, cur, rfl, hh, ?_⟩, hcap, by unfold maxLen at hm; omega⟩
    have hlt : k < ws.length := (List.getElem?_eq_some_iff.1 hx).1
    have f : ∀ j, j < 3 → cur[k * 3 + j]? = (flatI x)[j]? := fun j hj => by
      have h1 := flatI_at ws k j hj
      rw [hx, ← ht, List.getElem?_take, if_pos (by omega)] at h1
      simpa using h1
    simp only [Nat.zero_add]
    exact ⟨f 0 (by omega), f 1 (by omega), f 2 (by omega)⟩
set_option maxRecDepth 100000 in
theorem overC_any (s : ByteArray) (w : World) (hz : s.size ≤ 300000) : Calls Tryz.prog 40 #[.string s] w fun e w' => ∃ g, e = .returned (.pointer (some ⟨g, 0, none⟩)) ∧ CurC w' g (startC s) ∧ w.heap.size ≤ g ∧ Below w.heap.size w w' := by
  have hfew := read_few s
  go_enter Tryz.func40, Tryz.ntmps40
  go_wp2_with fail
  refine (read_any s _ hz).mono ?_
  rintro e w1 ⟨v, rfl, ho1, hb1⟩
  obtain ⟨a, c, rfl⟩ := own_shape ho1
  have HC := Lib.hid (cells_of_own ho1)
  have HB1 := Lib.hid hb1
  clear ho1 hb1
  go_wp2_with fail
  refine (words_any (readWords s) a c w1 HC.out (by omega)).mono ?_
  rintro e w2 ⟨b, cap, rfl, ho2, hb2⟩
  have HR := Lib.hid (row_of_own ho2)
  have HB2 := Lib.hid (HB1.out.trans (hb2.mono HB1.out.size))
  clear ho2 hb2 HB1 HC
  have HE : Hid (startC s = ⟨pruned (readWords s), readLine s, readCol s, readErr s⟩) := rfl
  generalize pruned (readWords s) = P at *
  generalize readLine s = L at *
  generalize readCol s = C at *
  generalize readErr s = E at *
  go_wp2
  go_ret
  have hbn : Below w2.heap.size w2 (w2.alloc (.cells #[.slice b P.length cap, .pointer (some ⟨w2.heap.size, 0, none⟩), .int .i64 L, .int .i64 C, .int .i64 E] 121)) := (Below.refl _ _).alloc (Nat.le_refl _) _
  refine ⟨w2.heap.size, rfl, ?_, HB2.out.size, HB2.out.trans (hbn.mono HB2.out.size)⟩
  rw [HE.out]
  exact ⟨b, cap, Blk.new w2 _ _, HR.out.2.1, HR.out.2.2, HR.out.1.below hbn⟩
end Go.Proofs.YtkfplffcegbdfaaGreatDoor
