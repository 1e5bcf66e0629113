/-
  The small calls of package mir answer what the plain functions say. No condition beyond those that each theorem states.
-/
import Derived.Test.YtbckkmicdpjnaaaDoorMiM
import Derived.Test.YtbckkmicdpjnaaaDoorMaA
import Derived.Deep.CutRange
namespace Go.Proofs.YtbckkmicdpjnaaaDoor
open Go.RowKit

/-- The table of what each Op has lies in its variable. -/
def TabW (w : World) : Prop := 0 < w.heap.size ∧ ∀ i : Nat, i < 18 → w.cell? ⟨0, i, none⟩ = some (.int .i64 (opHasL.getD i 0))
theorem TabW.below {w w' : World} (h : TabW w) (hb : Below w.heap.size w w') : TabW w' := ⟨Nat.lt_of_lt_of_le h.1 hb.size, fun i hi => (hb.cell h.1).trans (h.2 i hi)⟩
theorem below_nil (n : Int) : belowB n [] = true := rfl
theorem ints_one {w : World} {g : Nat} {t : TypeId} {x : Int} (h : Blk w g t #[.int .i64 x]) : IntsW w (some ⟨g, 0, none⟩) [x] := IntsW.row h (fun k y hy => by
  cases k with
  | zero => simpa using hy
  | succ k => simp at hy)
theorem ints_two {w : World} {g : Nat} {t : TypeId} {x y : Int} (h : Blk w g t #[.int .i64 x, .int .i64 y]) : IntsW w (some ⟨g, 0, none⟩) [x, y] := IntsW.row h (fun k z hz => by
  match k, hz with
  | 0, hz => simpa using hz
  | 1, hz => simpa using hz
  | k + 2, hz => simp at hz)
theorem ints_three {w : World} {g : Nat} {t : TypeId} {x y z : Int} (h : Blk w g t #[.int .i64 x, .int .i64 y, .int .i64 z]) : IntsW w (some ⟨g, 0, none⟩) [x, y, z] := IntsW.row h (fun k v hv => by
  match k, hv with
  | 0, hv => simpa using hv
  | 1, hv => simpa using hv
  | 2, hv => simpa using hv
  | k + 3, hv => simp at hv)
set_option maxHeartbeats 1000000 in
set_option maxRecDepth 100000 in
theorem areBelow_any (n : Int) (l : List Int) (a : Option Addr) (c : Nat) (w : World) (hl : l.length ≤ 140737488355328) (hI : IntsW w a l) :
    Calls Tryd.prog 30 #[.int .i64 n, .slice a l.length c] w fun e w' => e = .returned (.bool (belowB n l)) ∧ w = w' := by
  have HI := Lib.hid hI
  clear hI
  go_enter Tryd.func30, Tryd.ntmps30
  go_wp2
  go_loopw [9] (fun k wr => ∃ j : Nat, k = .int .i64 j ∧ j ≤ l.length ∧ Hid (belowB n l = belowB n (l.drop j)) ∧ w = wr) (fun k _ => l.length - (intOf k).toNat)
  case atStart => exact ⟨0, rfl, Nat.zero_le _, rfl, rfl⟩
  case round =>
    obtain ⟨j, rfl, hj, HA, rfl⟩ := hrel
    by_cases hlt : j < l.length
    · have hlt' : (j : Int) < l.length := by omega
      have hj0 : (0 : Int) ≤ j := by omega
      obtain ⟨x, hx⟩ : ∃ x, l[j]? = some x := ⟨_, List.getElem?_eq_getElem hlt⟩
      obtain ⟨g, o, rfl, hg, h0⟩ := HI.out j x hx
      have HD : Hid (belowB n l = (decide (0 ≤ x) && decide (x < n) && belowB n (l.drop (j + 1)))) := by
        show _ = _
        rw [HA.out, List.drop_eq_getElem_cons hlt, (List.getElem?_eq_some_iff.1 hx).2]
        rfl
      clear hx HA
      by_cases h1 : x < 0
      · have e1 : decide (0 ≤ x) = false := decide_eq_false (by omega)
        rw [e1] at HD
        clear e1
        go_wp2
        go_ret
        exact ⟨by rw [HD.out]; rfl, rfl⟩
      · have e1 : decide (0 ≤ x) = true := decide_eq_true (by omega)
        rw [e1] at HD
        clear e1
        by_cases h2 : n ≤ x
        · have e2 : decide (x < n) = false := decide_eq_false (by omega)
          rw [e2] at HD
          clear e2
          go_wp2
          go_ret
          exact ⟨by rw [HD.out]; rfl, rfl⟩
        · have e2 : decide (x < n) = true := decide_eq_true (by omega)
          rw [e2] at HD
          clear e2
          go_wp2
          go_roundw
          case rel => exact ⟨j + 1, by go_num, by omega, by have := HD.out; simpa [Hid] using this, trivial⟩
          case measure => simp [intOf]; omega
    · have e : j = l.length := by omega
      subst e
      go_wp2
      go_ret
      exact ⟨by rw [HA.out]; simp [belowB], rfl⟩
set_option maxHeartbeats 1000000 in
set_option maxRecDepth 100000 in
theorem partsOf_any (o : Int) (w : World) (hT : TabW w) : Calls Tryd.prog 37 #[.int .i64 o] w fun e w' => e = .returned (.int .i64 (partsN o)) ∧ Below w.heap.size w w' := by
  have HB : Hid (Blk (w.alloc (.cells #[.int .i64 o] 3)) w.heap.size 3 #[.int .i64 o]) := Blk.new w _ _
  have HW : Hid (Below w.heap.size w (w.alloc (.cells #[.int .i64 o] 3))) := (Below.refl _ w).alloc (Nat.le_refl _) _
  have HC := Lib.hid (areBelow_any 18 [o] (some ⟨w.heap.size, 0, none⟩) 1 (w.alloc (.cells #[.int .i64 o] 3)) (by simp) (ints_one HB.out))
  have HT := Lib.hid (hT.below HW.out)
  clear hT HB
  go_enter Tryd.func37, Tryd.ntmps37
  go_wp2_with fail
  refine HC.out.mono ?_
  rintro e w1 ⟨rfl, rfl⟩
  by_cases h : 0 ≤ o ∧ o < 18
  · have hb : belowB 18 [o] = true := by simp [belowB, h.1, h.2]
    rw [hb]
    obtain ⟨u, rfl⟩ := Int.eq_ofNat_of_zero_le h.1
    have hu : u < 18 := by omega
    have hu2 : (u : Int) < 18 := by omega
    have hu0 : (0 : Int) ≤ u := by omega
    have c0 := HT.out.2 u hu
    have HE : Hid (partsN u = opHasL[u]?.getD 0) := by
      show _ = _
      unfold partsN
      rw [if_pos h]
      rfl
    clear h hb HC
    go_wp2
    go_ret
    exact ⟨by rw [HE.out]; rfl, HW.out⟩
  · have hb : belowB 18 [o] = false := by
      simp [belowB]
      omega
    have HE : Hid (partsN o = 0) := if_neg h
    rw [hb]
    clear h hb HC
    go_wp2
    go_ret
    exact ⟨by rw [HE.out]; rfl, HW.out⟩
theorem parts_mem (o : Int) : partsN o = 0 ∨ partsN o = 9 ∨ partsN o = 7 ∨ partsN o = 11 ∨ partsN o = 14 ∨ partsN o = 64 ∨ partsN o = 3 ∨ partsN o = 34 ∨ partsN o = 17 := by
  rcases op_cases o with ⟨h, _⟩ | rfl | rfl | rfl | rfl | rfl | rfl | rfl | rfl | rfl | rfl | rfl | rfl | rfl | rfl | rfl | rfl
  · exact .inl h
  all_goals decide
def KeyB (k : Int) : Prop := k = 1 ∨ k = 2 ∨ k = 4 ∨ k = 8 ∨ k = 16 ∨ k = 32 ∨ k = 48 ∨ k = 64
set_option maxHeartbeats 4000000 in
set_option maxRecDepth 100000 in
theorem have_any (o k : Int) (w : World) (hk : KeyB k) : Calls Tryd.prog 38 #[.int .i64 (partsN o), .int .i64 k] w fun e w' => e = .returned (.bool (hasB o k)) ∧ w = w' := by
  unfold hasB
  have hp := parts_mem o
  generalize partsN o = p at hp ⊢
  rcases hk with rfl | rfl | rfl | rfl | rfl | rfl | rfl | rfl <;> rcases hp with rfl | rfl | rfl | rfl | rfl | rfl | rfl | rfl | rfl
  all_goals (go_enter Tryd.func38, Tryd.ntmps38; go_wp2; go_ret; exact ⟨rfl, rfl⟩)
theorem immT_any (n : Int) (w : World) : Calls Tryd.prog 64 #[.int .i64 n] w fun e w' => e = .returned (.bool (immT n)) ∧ w = w' := by
  go_enter Tryd.func64, Tryd.ntmps64
  by_cases h1 : (-1099511627776 : Int) ≤ n
  · go_wp2
    go_ret
    exact ⟨by simp [immT]; try omega, rfl⟩
  · go_wp2
    go_ret
    exact ⟨by simp [immT]; try omega, rfl⟩
end Go.Proofs.YtbckkmicdpjnaaaDoor
