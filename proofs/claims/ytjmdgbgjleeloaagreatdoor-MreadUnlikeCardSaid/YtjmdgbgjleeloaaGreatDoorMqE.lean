/-
  A target's text with blanks and remarks more tells the same target; unlike targets have unlike texts (plainly). No condition beyond those that each theorem states.
-/
import Derived.Test.YtjmdgbgjleeloaaGreatDoorPk36
import Derived.Test.YtjmdgbgjleeloaaGreatDoorMuS
namespace Go.Proofs.YtjmdgbgjleeloaaGreatDoor

theorem num_no10 (n : Int) : (10 : UInt8) ∉ (itS n).data.toList := by
  intro h
  obtain ⟨i, hi⟩ := List.mem_iff_getElem?.1 h
  obtain ⟨h1, h2⟩ := get_list (s := itS n) (k := i) hi
  obtain ⟨a, m, _, _, hz, _, g1, _, g3⟩ := itoa_text n (itS n) rfl
  by_cases hlt : i < a
  · have e : i = 0 := by omega
    subst e
    have := (g1 (by omega)).1
    rw [h2] at this
    cases this
  · have := g3 (i - a) (by omega)
    rw [show a + (i - a) = i by omega, h2] at this
    exact absurd this.1 (by decide)
theorem fine_no10 {x : Wo} (h : x.fine) : (10 : UInt8) ∉ x.b.data.toList := by
  have app : ∀ (p : UInt8) (n : Int), p ≠ 10 → (10 : UInt8) ∉ ((⟨#[p]⟩ ++ itS n : ByteArray)).data.toList := fun p n hp hm => by
    rw [ByteArray.data_append, Array.toList_append] at hm
    rcases List.mem_append.1 hm with hm | hm
    · simp at hm; exact hp hm.symm
    · exact num_no10 n hm
  cases x with
  | tx s =>
    have : (txL.all fun s => !(s.data.toList.contains 10)) = true := by decide +kernel
    have := List.all_eq_true.1 this s h
    show (10 : UInt8) ∉ s.data.toList
    simpa using this
  | rg n => exact app 114 n (by decide)
  | sl n => exact app 115 n (by decide)
  | nm n => exact num_no10 n
theorem tail_count : ∀ xs : List (List UInt8), (∀ x ∈ xs, (10 : UInt8) ∉ x) → (Lib.joinTail [32] xs).count 10 = 0 := by
  intro xs
  induction xs with
  | nil => intro _; simp [Lib.joinTail]
  | cons x r ih =>
    intro h
    have h1 := ih (fun y hy => h y (by simp [hy]))
    have h2 := List.count_eq_zero.2 (h x (by simp))
    rw [join_tail_cons, List.count_cons, List.count_append, h1, h2]
    rfl
theorem row_count {l : List Wo} (hne : l ≠ []) (h : ∀ x ∈ l, x.fine) : (rowL l).count 10 = 1 := by
  have h1 : rowL l = Lib.join (l.map fun x => x.b.data.toList) [32] ++ [10] := by
    unfold rowL rowB joinB
    rw [ByteArray.data_append, Array.toList_append, List.map_map]
    rfl
  cases l with
  | nil => exact absurd rfl hne
  | cons x r =>
    have h2 := List.count_eq_zero.2 (fine_no10 (h x (by simp)))
    have h3 := tail_count (r.map fun x => x.b.data.toList) (fun y hy => by
      obtain ⟨z, hz, rfl⟩ := List.mem_map.1 hy
      exact fine_no10 (h z (by simp [hz])))
    rw [h1, List.map_cons, Lib.join_cons, List.count_append, List.count_append, h2, h3]
    rfl
theorem rows_count : ∀ ls : List (List Wo), (∀ l ∈ ls, l ≠ [] ∧ ∀ x ∈ l, x.fine) → (ls.flatMap rowL).count 10 = ls.length := by
  intro ls
  induction ls with
  | nil => intro _; rfl
  | cons l r ih =>
    intro h
    rw [List.flatMap_cons, List.count_append, row_count (h l (by simp)).1 (h l (by simp)).2, ih (fun y hy => h y (by simp [hy])), List.length_cons]
    omega
theorem expand_count (l : List UInt8) : (expand l).length = l.length + 7 * l.count 10 := by
  induction l with
  | nil => rfl
  | cons b r ih =>
    have hi : insB.length = 7 := rfl
    rw [expand, List.count_cons]
    by_cases h : b = 10
    · rw [if_pos h]
      simp only [List.length_cons, List.length_append, ih, hi, h, beq_self_eq_true, if_true]
      omega
    · rw [if_neg h]
      have : (b == 10) = false := by simpa using h
      simp only [List.length_cons, ih, this, Bool.false_eq_true, if_false]
      omega
theorem expand_snoc (l : List UInt8) (b : UInt8) : expand (l ++ [b]) = expand l ++ (b :: if b = 10 then insB else []) := by
  induction l with
  | nil => by_cases h : b = 10 <;> simp [expand, h]
  | cons a r ih =>
    rw [List.cons_append, expand, expand, ih]
    by_cases h : a = 10 <;> simp [h]
theorem expand_max (l : List UInt8) : (expand l).length ≤ 8 * l.length := by
  rw [expand_count]
  have := List.count_le_length (a := (10 : UInt8)) (l := l)
  omega
theorem wide_max (l : List UInt8) : (wideU l).size ≤ 8 * l.length + 2 := by
  rw [wide_size]
  have := expand_max l
  omega
theorem one_byte (s : ByteArray) (k : Nat) (h : k < s.size) : (s.extract k (k + 1)).data.toList = [s.get! k] := by
  have := part_text s k 1 (by omega)
  unfold partOf at this
  rw [this]
  unfold textL restB
  have hd : s.data.toList.drop k = s.get! k :: s.data.toList.drop (k + 1) := by
    rw [List.drop_eq_getElem_cons (by simp only [Array.length_toList]; exact h), get_eq s k h]
    rfl
  rw [hd]
  rfl
theorem take_next (s : ByteArray) (k : Nat) (h : k < s.size) : s.data.toList.take (k + 1) = s.data.toList.take k ++ [s.get! k] := by
  rw [List.take_add_one, List.getElem?_eq_getElem (by simp only [Array.length_toList]; exact h), get_eq s k h]
  rfl
theorem wide_plain (s : ByteArray) (k : Nat) (h : k < s.size) (hb : (s.get! k).toNat ≠ 10) : wideU (s.data.toList.take k) ++ s.extract k (k + 1) = wideU (s.data.toList.take (k + 1)) := by
  have h10 : s.get! k ≠ 10 := fun e => hb (by rw [e]; rfl)
  apply ByteArray.ext
  apply Array.toList_inj.1
  rw [ByteArray.data_append, Array.toList_append, one_byte s k h, wide_list, wide_list, take_next s k h, expand_snoc, if_neg h10]
  simp
theorem wide_line (s : ByteArray) (k : Nat) (h : k < s.size) (hb : (s.get! k).toNat = 10) : wideU (s.data.toList.take k) ++ s.extract k (k + 1) ++ ⟨#[32, 59, 32, 226, 134, 146, 10]⟩ = wideU (s.data.toList.take (k + 1)) := by
  have h10 : s.get! k = 10 := UInt8.toNat_inj.1 hb
  apply ByteArray.ext
  apply Array.toList_inj.1
  rw [ByteArray.data_append, ByteArray.data_append, Array.toList_append, Array.toList_append, one_byte s k h, wide_list, wide_list, take_next s k h, expand_snoc, if_pos h10]
  simp [insB]
/-- The text with more between its lines tells the same target. -/
theorem wide_told {t : Gg} (h : printE t = 0) (hn : linesN t.blocks ≤ 1200) : prE (wideU (printS t).data.toList) = 0 ∧ prG (wideU (printS t).data.toList) = t ∧ (wideU (printS t).data.toList).size ≤ 262144 ∧ (printS t).size ≤ 139316 := by
  obtain ⟨h1, h2, h3⟩ := print_some h
  have hs := start_target h1 (printS t) h3
  obtain ⟨b1, b2⟩ := blank_same (printS t)
  have hl := text_len h1
  have hm : (linesN t.blocks + 1) * 116 ≤ 1201 * 116 := Nat.mul_le_mul (by omega) (Nat.le_refl _)
  have hf := lns_fine h1
  have hc : (gtxL t).count 10 ≤ 1201 := by
    have e : gtxL t = t.lns.flatMap rowL := rfl
    rw [e, rows_count t.lns hf]
    unfold Gg.lns
    rw [List.length_cons, bls_lines]
    omega
  have hz : (printS t).size = (gtxL t).length := by
    have : (printS t).size = (printS t).data.toList.length := by rw [Array.length_toList]; rfl
    rw [this, h3]
  have hw : (wideU (printS t).data.toList).size ≤ 262144 := by
    rw [wide_size, expand_count, h3]
    omega
  have hf0 : readErr (printS t) = 0 := hs.fault
  obtain ⟨g1, g2⟩ := told_of (s := wideU (printS t).data.toList) h1 hw ⟨by
    have e : (startC (printS t)).left.map key = linesK t.lns := hs.left
    have e2 : (pruned (readWords (printS t))).map keyW = (pruned (readWords (wideU (printS t).data.toList))).map keyW := b2 hf0
    show (pruned (readWords (wideU (printS t).data.toList))).map key = _
    have e3 : (pruned (readWords (wideU (printS t).data.toList))).map keyW = linesK t.lns := e2.symm.trans e
    exact e3, b1.trans hf0⟩
  exact ⟨g1, g2, hw, by omega⟩
theorem unlike_text {t u : Gg} (h1 : printE t = 0) (h2 : printE u = 0) : printS t = printS u ↔ t = u := by
  constructor
  · intro e
    have a := (back_print h1).2
    have b := (back_print h2).2
    rw [e] at a
    exact a.symm.trans b
  · intro e; rw [e]
end Go.Proofs.YtjmdgbgjleeloaaGreatDoor
