/-
  The small calls of package ir answer what the plain functions say. No condition beyond those that each theorem states.
-/
import Derived.Test.YtgpbpbhidemciaaGreatIrD
namespace Go.Proofs.YtgpbpbhidemciaaGreat
open Go.RowKit

set_option maxHeartbeats 1000000 in
set_option maxRecDepth 100000 in
theorem areVars_any (l : List Int) (a : Option Addr) (c : Nat) (w : World) (hl : l.length ≤ 140737488355328) (hI : IntsW w a l) :
    Calls Tryz.prog 46 #[.slice a l.length c] w fun e w' => e = .returned (.bool (l.all varB)) ∧ w = w' := by
  have HI := Lib.hid hI
  clear hI
  go_enter Tryz.func46, Tryz.ntmps46
  go_wp2
  go_loopw [7] (fun k wr => ∃ j : Nat, k = .int .i64 j ∧ j ≤ l.length ∧ Hid (l.all varB = (l.drop j).all varB) ∧ w = wr) (fun k _ => l.length - (intOf k).toNat)
  case atStart => exact ⟨0, rfl, Nat.zero_le _, rfl, rfl⟩
  case round =>
    obtain ⟨j, rfl, hj, HA, rfl⟩ := hrel
    by_cases hlt : j < l.length
    · have hlt' : (j : Int) < l.length := by omega
      have hj0 : (0 : Int) ≤ j := by omega
      obtain ⟨x, hx⟩ : ∃ x, l[j]? = some x := ⟨_, List.getElem?_eq_getElem hlt⟩
      obtain ⟨g, o, rfl, hg, h0⟩ := HI.out j x hx
      have HD : Hid (l.all varB = (varB x && (l.drop (j + 1)).all varB)) := by
        show _ = _
        rw [HA.out, List.drop_eq_getElem_cons hlt, (List.getElem?_eq_some_iff.1 hx).2]
        rfl
      clear hx HA
      by_cases h1 : x < 1
      · go_wp2
        go_ret
        exact ⟨by rw [HD.out]; simp [varB]; intro h; omega, rfl⟩
      · by_cases h2 : 200 < x
        · go_wp2
          go_ret
          exact ⟨by rw [HD.out]; simp [varB]; intro h h'; omega, rfl⟩
        · have HE : Hid (l.all varB = (l.drop (j + 1)).all varB) := by
            show _ = _
            rw [HD.out, var_iff.2 ⟨by omega, by omega⟩]
            rfl
          go_wp2
          go_roundw
          case rel => exact ⟨j + 1, by go_num, by omega, HE, trivial⟩
          case measure => simp [intOf]; omega
    · have e : j = l.length := by omega
      subst e
      go_wp2
      go_ret
      exact ⟨by rw [HA.out]; simp, rfl⟩

theorem isImm_any (n : Int) (w : World) : Calls Tryz.prog 41 #[.int .i64 n] w fun e w' => e = .returned (.bool (immB n)) ∧ w = w' := by
  go_enter Tryz.func41, Tryz.ntmps41
  by_cases h1 : (-1099511627776 : Int) ≤ n
  · go_wp2
    go_ret
    exact ⟨by simp [immB]; try omega, rfl⟩
  · go_wp2
    go_ret
    exact ⟨by simp [immB]; try omega, rfl⟩

set_option maxRecDepth 100000 in
theorem fits_any (h : Bool) (n : Int) (w : World) : Calls Tryz.prog 40 #[.bool h, .int .i64 n] w fun e w' => e = .returned (.bool (fitsB h n)) ∧ Below w.heap.size w w' := by
  go_enter Tryz.func40, Tryz.ntmps40
  cases h
  · go_wp2
    go_ret
    exact ⟨by simp [fitsB], Below.refl _ _⟩
  · have HI : Hid (IntsW (w.alloc (.cells #[.int .i64 n] 3)) (some ⟨w.heap.size, 0, none⟩) [n]) := IntsW.row (Blk.new w _ _) (fun k x hx => by
      cases k with
      | zero => simpa using hx
      | succ k => simp at hx)
    go_wp2_with fail
    refine (areVars_any [n] _ 1 _ (by simp) HI.out).mono ?_
    rintro e w1 ⟨rfl, rfl⟩
    go_wp2
    go_ret
    exact ⟨by simp [fitsB], (Below.refl _ w).alloc (Nat.le_refl _) _⟩
end Go.Proofs.YtgpbpbhidemciaaGreat
