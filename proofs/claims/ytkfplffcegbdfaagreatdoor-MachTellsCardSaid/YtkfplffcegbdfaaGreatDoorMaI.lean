/-
  Package mach's IsSaved. No condition beyond those that each theorem states.
-/
import Derived.Test.YtkfplffcegbdfaaGreatDoorMaK
namespace Go.Proofs.YtkfplffcegbdfaaGreatDoor
open Go.RowKit

set_option maxHeartbeats 1000000 in
set_option maxRecDepth 100000 in
theorem indexI_any (l : List Int) (v : Int) (a : Option Addr) (c : Nat) (w : World) (hl : l.length ≤ 140737488355328) (hI : IntsW w a l) :
    Calls Tryz.prog 47 #[.slice a l.length c, .int .i64 v] w fun e w' => (∃ n : Int, e = .returned (.int .i64 n) ∧ decide (0 ≤ n) = l.contains v) ∧ w = w' := by
  have HI := Lib.hid hI
  clear hI
  go_enter Tryz.func47, Tryz.ntmps47
  go_wp2
  go_loopw [8] (fun k wr => ∃ j : Nat, k = .int .i64 j ∧ j ≤ l.length ∧ Hid (l.contains v = (l.drop j).contains v) ∧ w = wr) (fun k _ => l.length - (intOf k).toNat)
  case atStart => exact ⟨0, rfl, Nat.zero_le _, rfl, rfl⟩
  case round =>
    obtain ⟨j, rfl, hj, HA, rfl⟩ := hrel
    by_cases hlt : j < l.length
    · have hlt' : (j : Int) < l.length := by omega
      have hj0 : (0 : Int) ≤ j := by omega
      obtain ⟨x, hx⟩ : ∃ x, l[j]? = some x := ⟨_, List.getElem?_eq_getElem hlt⟩
      obtain ⟨g, o, rfl, hg, h0⟩ := HI.out j x hx
      have HD : Hid (l.contains v = (v == x || (l.drop (j + 1)).contains v)) := by
        show _ = _
        rw [HA.out, List.drop_eq_getElem_cons hlt, (List.getElem?_eq_some_iff.1 hx).2]
        rw [List.contains_cons]
      clear hx HA
      cases hq : v == x
      · rw [hq] at HD
        go_wp2
        go_roundw
        case rel => exact ⟨j + 1, by go_num, by omega, by have := HD.out; simpa [Hid] using this, trivial⟩
        case measure => simp [intOf]; omega
      · rw [hq] at HD
        go_wp2
        go_ret
        exact ⟨⟨j, rfl, by rw [HD.out]; simp⟩, rfl⟩
    · have e : j = l.length := by omega
      subst e
      go_wp2
      go_ret
      exact ⟨⟨-1, rfl, by rw [HA.out]; simp⟩, rfl⟩
set_option maxRecDepth 100000 in
theorem containsI_any (l : List Int) (v : Int) (a : Option Addr) (c : Nat) (w : World) (hl : l.length ≤ 140737488355328) (hI : IntsW w a l) :
    Calls Tryz.prog 35 #[.slice a l.length c, .int .i64 v] w fun e w' => e = .returned (.bool (l.contains v)) ∧ w = w' := by
  go_enter Tryz.func35, Tryz.ntmps35
  go_wp2_with fail
  refine (indexI_any l v a c w hl hI).mono ?_
  rintro e w1 ⟨⟨n, rfl, hn⟩, rfl⟩
  have HN := Lib.hid hn
  clear hn
  go_wp2
  go_ret
  exact ⟨by rw [← HN.out]; rfl, rfl⟩
/-- What IsSaved tells at this commit. -/
def Mm.isSavedB (m : Mm) (r : Int) : Bool := m.saved.contains r
theorem saved_of {m : Mm} {r : Int} (_h : m.rightB = true) (hr : m.saved.contains r = true) : m.isSavedB r = true := hr
theorem saved_not {m : Mm} {r : Int} (hr : m.saved.contains r = false) : m.isSavedB r = false := hr
set_option maxHeartbeats 2000000 in
set_option maxRecDepth 100000 in
theorem isSaved_any (m : Mm) (aa sa : Option Addr) (ac sc : Nat) (r : Int) (w : World) (_hl : m.args.length ≤ 140737488355328) (hs : m.saved.length ≤ 140737488355328) (hM : MaW w m aa sa) :
    Calls Tryz.prog 12 #[machV m aa ac sa sc, .int .i64 r] w fun e w' => e = .returned (.bool (m.isSavedB r)) ∧ Below w.heap.size w w' := by
  have HB0 : Hid (Below w.heap.size w (w.alloc (.cells (maxC m aa ac sa sc) 24))) := (Below.refl _ w).alloc (Nat.le_refl _) _
  have HX0 : Hid (Blk (w.alloc (.cells (maxC m aa ac sa sc) 24)) w.heap.size 24 (maxC m aa ac sa sc)) := Blk.new w _ _
  have HC := Lib.hid (containsI_any m.saved r sa sc (w.alloc (.cells (maxC m aa ac sa sc) 24)) hs (hM.saved.below HB0.out))
  obtain ⟨c0, c1, c2, c3⟩ := boxMa (m := m) (aa := aa) (sa := sa) (ac := ac) (sc := sc) HX0.out
  have HM : Hid (maxC m aa ac sa sc = _) := maxC.eq_1 m aa ac sa sc
  have HE : Hid (m.isSavedB r = m.saved.contains r) := rfl
  generalize m.isSavedB r = res at *
  obtain ⟨cb, hcb⟩ : ∃ cb, m.saved.contains r = cb := ⟨_, rfl⟩
  rw [hcb] at HC HE
  unfold machV
  clear hM HX0 hcb
  rw [HM.out] at HB0 HC c0 c1 c2 c3 ⊢
  go_enter Tryz.func12, Tryz.ntmps12
  go_wp2_with fail
  refine HC.out.mono ?_
  rintro e w1 ⟨rfl, rfl⟩
  go_wp2
  go_ret
  exact ⟨by rw [HE.out]; rfl, HB0.out⟩
end Go.Proofs.YtkfplffcegbdfaaGreatDoor
