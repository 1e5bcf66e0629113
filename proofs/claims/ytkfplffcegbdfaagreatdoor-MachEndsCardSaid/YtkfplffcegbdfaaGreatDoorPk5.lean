/-
  A machine's text as the document has it: a row of numbers behind words. No condition beyond those that each theorem states.
  Whether two rows of numbers are the same, and the mark of a place. No condition beyond those that each theorem states.
-/
import Derived.Test.YtkfplffcegbdfaaGreatDoorMaPs
import Derived.Test.YtkfplffcegbdfaaGreatDoorPk2
import Derived.Deep.QuietTactic
import Derived.BigQuiet
namespace Go.Proofs.YtkfplffcegbdfaaGreatDoor
open Go.RowKit

/-- Words ahead, and numbers. -/
def rowS (s : ByteArray) (l : List Int) : ByteArray := l.foldl (fun s x => s ++ ⟨#[32]⟩ ++ numS x) s
theorem rowS_nil (s : ByteArray) : rowS s [] = s := rfl
theorem rowS_snoc (s : ByteArray) (l : List Int) (x : Int) : rowS s (l ++ [x]) = rowS s l ++ ⟨#[32]⟩ ++ numS x := by simp [rowS]
theorem ba_app (a b : ByteArray) : (a ++ b).data.toList = a.data.toList ++ b.data.toList := by simp
theorem ba_ext {a b : ByteArray} (h : a.data.toList = b.data.toList) : a = b := by
  cases a; cases b
  simp only at h
  congr 1
  exact Array.toList_inj.1 h
theorem rowS_list (l : List Int) : ∀ s : ByteArray, (rowS s l).data.toList = s.data.toList ++ Lib.joinTail [32] (l.map fun x => (numS x).data.toList) := by
  induction l with
  | nil => intro s; simp [rowS, Lib.joinTail]
  | cons x r ih =>
    intro s
    show (rowS (s ++ ⟨#[32]⟩ ++ numS x) r).data.toList = _
    rw [ih, ba_app, ba_app]
    simp [Lib.joinTail]
theorem join_row (name : ByteArray) (l : List Int) : joinS (partS name l) = rowS name l := by
  refine ba_ext ?_
  rw [rowS_list]
  show (Lib.join ((name :: l.map numS).map (·.data.toList)) [32]).toArray.toList = _
  rw [List.map_cons, Lib.join_cons]
  simp [Function.comp_def]
theorem rowS_ahead (a s : ByteArray) (l : List Int) : rowS (a ++ s) l = a ++ rowS s l := by
  refine ba_ext ?_
  rw [rowS_list, ba_app, ba_app, rowS_list, List.append_assoc]
def rMachine : ByteArray := ⟨#[109, 97, 99, 104, 105, 110, 101]⟩
def rArgs : ByteArray := ⟨#[32, 97, 114, 103, 115]⟩
def rRet : ByteArray := ⟨#[32, 114, 101, 116]⟩
def rSaved : ByteArray := ⟨#[32, 115, 97, 118, 101, 100]⟩
/-- The document's text is the one that is printed. -/
theorem text_rows (m : Mm) : m.textS = rowS rMachine [m.regs] ++ rowS rArgs m.args ++ rowS rRet [m.ret] ++ rowS rSaved m.saved ++ ⟨#[10]⟩ := by
  have h1 : rArgs = ⟨#[32]⟩ ++ kArgs := by decide
  have h2 : rRet = ⟨#[32]⟩ ++ kRet := by decide
  have h3 : rSaved = ⟨#[32]⟩ ++ kSaved := by decide
  rw [h1, h2, h3, rowS_ahead, rowS_ahead, rowS_ahead]
  unfold Mm.textS Mm.partsL
  rw [join_row, join_row, join_row, join_row]
  refine ba_ext ?_
  simp only [ba_app]
  congr 1
  show (Lib.join _ [32]).toArray.toList = _
  rw [List.map_cons, Lib.join_cons]
  simp [Lib.joinTail, rMachine]
theorem rowS_size (l : List Int) (hx : ∀ x ∈ l, 0 ≤ x ∧ x < 100) : ∀ s : ByteArray, (rowS s l).size ≤ s.size + l.length * 3 := by
  induction l with
  | nil => intro s; simp [rowS]
  | cons x r ih =>
    intro s
    have h1 := ih (fun y hy => hx y (by simp [hy])) (s ++ ⟨#[32]⟩ ++ numS x)
    have h2 := numS_len x (hx x (by simp))
    show (rowS (s ++ ⟨#[32]⟩ ++ numS x) r).size ≤ _
    rw [ByteArray.size_append, ByteArray.size_append] at h1
    have h3 : (⟨#[32]⟩ : ByteArray).size = 1 := rfl
    rw [h3] at h1
    simp only [List.length_cons]
    omega
end Go.Proofs.YtkfplffcegbdfaaGreatDoor
namespace Go.Proofs.YtkfplffcegbdfaaGreatDoor
open Go.RowKit

theorem below_drewN {B : Nat} {a w : World} (h : Below B a w) (n : Nat) : Below B a (w.drewN n) := ⟨h.os, h.tape, h.output, h.size, h.block⟩
theorem mark_any (k i : Int) (w : World) (hk : 0 ≤ k) (hk2 : k ≤ 1000000) (hi : 0 ≤ i) (hi2 : i ≤ 1000000000) : Calls Tryz.prog 25 #[.int .i64 k, .int .i64 i] w fun e w' => e = .returned (.int .i64 (1000003 * (k + 7) + i)) ∧ w = w' := by
  go_enter Tryz.func25, Tryz.ntmps25
  go_wp2
  go_ret
  exact ⟨rfl, rfl⟩
set_option maxHeartbeats 1000000 in
set_option maxRecDepth 100000 in
theorem sameInts_any (l m : List Int) (a a' : Option Addr) (c c' : Nat) (w : World) (hl : l.length ≤ 1000000000) (_hm : m.length ≤ 1000000000) (hI : IntsW w a l) (hJ : IntsW w a' m) : Calls Tryz.prog 14 #[.slice a l.length c, .slice a' m.length c'] w fun e w' => e = .returned (.bool (decide (l = m))) ∧ Below w.heap.size w w' := by
  have HI := Lib.hid hI
  have HJ := Lib.hid hJ
  clear hI hJ
  have HE : Hid (decide (l = m) = decide (l = m)) := rfl
  generalize hb : decide (l = m) = b at HE ⊢
  have HB := Lib.hid hb
  clear hb HE
  go_enter Tryz.func14, Tryz.ntmps14
  by_cases h : l.length = m.length
  case neg =>
    have h' : ((l.length : Int) == m.length) = false := by rw [beq_eq_false_iff_ne]; omega
    have h'' : ((l.length : Int) != m.length) = true := by simp [bne, h']
    have hb : b = false := by
      rw [← HB.out, decide_eq_false_iff_not]
      intro e; exact h (by rw [e])
    subst hb
    go_wp2
    go_ret
    exact ⟨rfl, Below.refl _ _⟩
  have h' : ((l.length : Int) == m.length) = true := by rw [beq_iff_eq]; omega
  have h'' : ((l.length : Int) != m.length) = false := by simp [bne, h']
  go_wp2
  go_loopw [5] (fun k wr => ∃ j : Nat, k = .int .i64 j ∧ j ≤ l.length ∧ Hid (decide (l.drop j = m.drop j) = b) ∧ Below w.heap.size w wr) (fun k _ => l.length - (intOf k).toNat)
  case atStart => exact ⟨0, rfl, Nat.zero_le _, HB.out, Below.refl _ _⟩
  case round =>
    obtain ⟨j, rfl, hj, HA, hW⟩ := hrel
    have HW := Lib.hid hW
    clear hW
    by_cases hlt : j < l.length
    · have hlt' : (j : Int) < l.length := by omega
      have hlm : (j : Int) < m.length := by omega
      have hj0 : (0 : Int) ≤ j := by omega
      obtain ⟨x, hx⟩ : ∃ x, l[j]? = some x := ⟨_, List.getElem?_eq_getElem hlt⟩
      obtain ⟨y, hy⟩ : ∃ y, m[j]? = some y := ⟨_, List.getElem?_eq_getElem (by omega)⟩
      obtain ⟨g, o, rfl, hg, h0⟩ := (HI.out.below HW.out) j x hx
      obtain ⟨g', o', rfl, hg', h0'⟩ := (HJ.out.below HW.out) j y hy
      have HD : Hid (decide (x = y ∧ l.drop (j + 1) = m.drop (j + 1)) = b) := by
        show _ = _
        rw [← HA.out, List.drop_eq_getElem_cons hlt, List.drop_eq_getElem_cons (show j < m.length by omega), (List.getElem?_eq_some_iff.1 hx).2, (List.getElem?_eq_some_iff.1 hy).2]
        simp
      clear hx hy HA
      by_cases he : x = y
      · have q : (x == y) = true := by simp [he]
        have q' : (x != y) = false := by simp [he]
        go_wp2_with fail
        go_quiet (fail)
        go_wp2
        go_roundw
        case rel => exact ⟨j + 1, by go_num, by omega, by have := HD.out; simpa [Hid, he] using this, below_drewN HW.out _⟩
        case measure => simp [intOf]; omega
      · have q : (x == y) = false := by simp [he]
        have q' : (x != y) = true := by simp [he]
        have hb : b = false := by rw [← HD.out]; simp [he]
        go_wp2_with fail
        go_quiet (fail)
        go_wp2
        go_ret
        exact ⟨by rw [hb]; rfl, below_drewN HW.out _⟩
    · have e : j = l.length := by omega
      subst e
      have hlt' : ¬ (l.length : Int) < l.length := by omega
      go_wp2
      go_ret
      refine ⟨?_, HW.out⟩
      rw [← HA.out, List.drop_length, h, List.drop_length]
      rfl
end Go.Proofs.YtkfplffcegbdfaaGreatDoor
