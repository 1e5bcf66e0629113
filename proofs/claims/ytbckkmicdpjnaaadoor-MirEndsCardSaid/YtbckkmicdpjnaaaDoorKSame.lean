/-
  Whether two rows of numbers are the same, and the mark of a place. No condition beyond those that each theorem states.
-/
import Derived.Test.YtbckkmicdpjnaaaDoorKInts
import Derived.Deep.QuietTactic
import Derived.BigQuiet
namespace Go.Proofs.YtbckkmicdpjnaaaDoor
open Go.RowKit

theorem below_drewN {B : Nat} {a w : World} (h : Below B a w) (n : Nat) : Below B a (w.drewN n) := ⟨h.os, h.tape, h.output, h.size, h.block⟩
theorem mark_any (k i : Int) (w : World) (hk : 0 ≤ k) (hk2 : k ≤ 1000000) (hi : 0 ≤ i) (hi2 : i ≤ 1000000000) : Calls Tryd.prog 45 #[.int .i64 k, .int .i64 i] w fun e w' => e = .returned (.int .i64 (1000003 * (k + 7) + i)) ∧ w = w' := by
  go_enter Tryd.func45, Tryd.ntmps45
  go_wp2
  go_ret
  exact ⟨rfl, rfl⟩
set_option maxHeartbeats 1000000 in
set_option maxRecDepth 100000 in
theorem sameInts_any (l m : List Int) (a a' : Option Addr) (c c' : Nat) (w : World) (hl : l.length ≤ 1000000000) (_hm : m.length ≤ 1000000000) (hI : IntsW w a l) (hJ : IntsW w a' m) : Calls Tryd.prog 73 #[.slice a l.length c, .slice a' m.length c'] w fun e w' => e = .returned (.bool (decide (l = m))) ∧ Below w.heap.size w w' := by
  have HI := Lib.hid hI
  have HJ := Lib.hid hJ
  clear hI hJ
  have HE : Hid (decide (l = m) = decide (l = m)) := rfl
  generalize hb : decide (l = m) = b at HE ⊢
  have HB := Lib.hid hb
  clear hb HE
  go_enter Tryd.func73, Tryd.ntmps73
  by_cases h : l.length = m.length
  case neg =>
    have h' : ((l.length : Int) == m.length) = false := by rw [beq_eq_false_iff_ne]; omega
    have h'' : ((l.length : Int) != m.length) = true := by simp [bne, h']
    have hb : b = false := by
      rw [← HB.out, decide_eq_false_iff_not]
      intro e; exact h (by rw [e])
    subst hb
    go_wp2
    go_ret
    exact ⟨rfl, Below.refl _ _⟩
  have h' : ((l.length : Int) == m.length) = true := by rw [beq_iff_eq]; omega
  have h'' : ((l.length : Int) != m.length) = false := by simp [bne, h']
  go_wp2
  go_loopw [5] (fun k wr => ∃ j : Nat, k = .int .i64 j ∧ j ≤ l.length ∧ Hid (decide (l.drop j = m.drop j) = b) ∧ Below w.heap.size w wr) (fun k _ => l.length - (intOf k).toNat)
  case atStart => exact ⟨0, rfl, Nat.zero_le _, HB.out, Below.refl _ _⟩
  case round =>
    obtain ⟨j, rfl, hj, HA, hW⟩ := hrel
    have HW := Lib.hid hW
    clear hW
    by_cases hlt : j < l.length
    · have hlt' : (j : Int) < l.length := by omega
      have hlm : (j : Int) < m.length := by omega
      have hj0 : (0 : Int) ≤ j := by omega
      obtain ⟨x, hx⟩ : ∃ x, l[j]? = some x := ⟨_, List.getElem?_eq_getElem hlt⟩
      obtain ⟨y, hy⟩ : ∃ y, m[j]? = some y := ⟨_, List.getElem?_eq_getElem (by omega)⟩
      obtain ⟨g, o, rfl, hg, h0⟩ := (HI.out.below HW.out) j x hx
      obtain ⟨g', o', rfl, hg', h0'⟩ := (HJ.out.below HW.out) j y hy
      have HD : Hid (decide (x = y ∧ l.drop (j + 1) = m.drop (j + 1)) = b) := by
        show _ = _
        rw [← HA.out, List.drop_eq_getElem_cons hlt, List.drop_eq_getElem_cons (show j < m.length by omega), (List.getElem?_eq_some_iff.1 hx).2, (List.getElem?_eq_some_iff.1 hy).2]
        simp
      clear hx hy HA
      by_cases he : x = y
      · have q : (x == y) = true := by simp [he]
        have q' : (x != y) = false := by simp [he]
        go_wp2_with fail
        go_quiet (fail)
        go_wp2
        go_roundw
        case rel => exact ⟨j + 1, by go_num, by omega, by have := HD.out; simpa [Hid, he] using this, below_drewN HW.out _⟩
        case measure => simp [intOf]; omega
      · have q : (x == y) = false := by simp [he]
        have q' : (x != y) = true := by simp [he]
        have hb : b = false := by rw [← HD.out]; simp [he]
        go_wp2_with fail
        go_quiet (fail)
        go_wp2
        go_ret
        exact ⟨by rw [hb]; rfl, below_drewN HW.out _⟩
    · have e : j = l.length := by omega
      subst e
      have hlt' : ¬ (l.length : Int) < l.length := by omega
      go_wp2
      go_ret
      refine ⟨?_, HW.out⟩
      rw [← HA.out, List.drop_length, h, List.drop_length]
      rfl
end Go.Proofs.YtbckkmicdpjnaaaDoor
