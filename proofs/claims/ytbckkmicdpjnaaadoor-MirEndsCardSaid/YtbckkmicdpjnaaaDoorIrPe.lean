/-
  Numbers that are lent: a copy with a tail of marks. No condition beyond those that each theorem states.
-/
import Derived.Test.YtbckkmicdpjnaaaDoorKOwn
import Derived.Test.YtbckkmicdpjnaaaDoorKSame
namespace Go.Proofs.YtbckkmicdpjnaaaDoor
open Go.RowKit

/-- The first marks of a kind. -/
def markL (k : Int) (j : Nat) : List Int := (List.range j).map fun (i : Nat) => 1000003 * (k + 7) + (i : Int)
theorem mark_len (k : Int) (j : Nat) : (markL k j).length = j := by simp [markL]
theorem mark_more (k : Int) (j : Nat) : markL k (j + 1) = markL k j ++ [1000003 * (k + 7) + (j : Int)] := by simp [markL, List.range_succ]
theorem OwnI.seat {w : World} {B : Nat} {v : Value} {l : List Int} (h : OwnI w B v l) (hl : 0 < l.length) : ∃ g cap, v = .slice (some ⟨g, 0, none⟩) l.length cap ∧ l.length ≤ cap ∧ cap ≤ maxLen := by
  rcases h.2 with ⟨_, h1⟩ | ⟨g, cap, cur, hv, _, _, h2, h3, _⟩
  · omega
  · exact ⟨g, cap, hv, h2, h3⟩
set_option maxHeartbeats 4000000 in
set_option maxRecDepth 100000 in
theorem lentInts_any (l : List Int) (a : Option Addr) (c : Nat) (w : World) (hl : l.length ≤ 100000) (hn : a = none → c = 0) (hI : IntsW w a l) :
    Calls Tryd.prog 23 #[.slice a l.length c] w fun e w' => ∃ g cap, e = .returned (.slice (some ⟨g, 0, none⟩) l.length cap) ∧ l.length + 12 ≤ cap ∧ cap ≤ maxLen ∧ OwnI w' w.heap.size (.slice (some ⟨g, 0, none⟩) (l.length + 12) cap) (l ++ markL 1 12) ∧ Below w.heap.size w w' := by
  obtain ⟨i0, hi0, hz0, hz1, hz2⟩ := info_parts int_info
  have HI := Lib.hid hI
  clear hI
  have hm : (0 : Int) ≤ (l.length : Int) + 12 := by omega
  go_enter Tryd.func23, Tryd.ntmps23
  go_wp2_with (first | (at_make; go_must (refine wpList_make_own _ rfl _ _ _ rfl w.heap.size 3 i0 _ 1 Tryd.underlying22 hi0 hz0 hz1 .i64 .i64 ((l.length : Int) + 12) (l.length + 12) rfl rfl (by omega) (by rw [hz2]; omega) (by simp only [maxLen]; omega) (Nat.le_refl _) ?_; intro w1 hown1 hgrow1; have HB1 : Hid (Below w.heap.size w w1) := (by exact (Below.refl _ w).grown hgrow1 (Nat.le_refl _) (fun k hk => by cases hk)))) | (at_builtin; go_must (refine wpList_append_ints rfl _ _ rfl w.heap.size _ [] rfl hown1 a c l rfl hn (HI.out.below HB1.out) (by simp; omega) HB1.out.size ?_; intro v2 w2 hown2 hgrow2 hat2; have HB2 : Hid (Below w.heap.size w w2) := (by exact HB1.out.grown hgrow2 HB1.out.size (fun k hk => (World.ownsRow.lt hown1 k hk).1)))))
  have HO2 := Lib.hid hown2
  clear hown2 hgrow2 hat2 hown1 hgrow1 HB1
  go_loopw [3, 4] (fun v k wr => ∃ (j : Nat), k = .int .i64 j ∧ j ≤ 12 ∧ OwnI wr w.heap.size v (l ++ markL 1 j) ∧ Below w.heap.size w wr) (fun _ k _ => 12 - (intOf k).toNat)
  case atStart => exact ⟨0, rfl, Nat.zero_le _, by simpa [markL] using HO2.out, HB2.out⟩
  case round =>
    obtain ⟨j, rfl, hj, hO, hB⟩ := hrel
    have HO := Lib.hid hO
    have HB := Lib.hid hB
    clear hO hB HO2 HB2
    by_cases hlt : j < 12
    · have hlt' : (j : Int) < 12 := by omega
      have hj0 : (0 : Int) ≤ j := by omega
      have HI3 : Hid (IntsW (wr.alloc (.cells #[.int .i64 (1000003 * (1 + 7) + (j : Int))] 3)) (some ⟨wr.heap.size, 0, none⟩) [1000003 * (1 + 7) + (j : Int)]) := IntsW.row (l := [1000003 * (1 + 7) + (j : Int)]) (Blk.new wr 3 #[.int .i64 (1000003 * (1 + 7) + (j : Int))]) (fun k x hx => by
        cases k with
        | zero => simpa using hx
        | succ k => simp at hx)
      go_wp2_with fail
      refine (mark_any 1 j wr (by omega) (by omega) (by omega) (by omega)).mono ?_
      rintro e w3 ⟨rfl, rfl⟩
      have HL3 : Hid (w.heap.size ≤ (wr.alloc (.cells #[.int .i64 (1000003 * (1 + 7) + (j : Int))] 3)).heap.size) := (HB.out.alloc HB.out.size (.cells #[.int .i64 (1000003 * (1 + 7) + (j : Int))] 3)).size
      generalize hy : 1000003 * (1 + 7) + (j : Int) = y at HI3 HL3
      have HY := Lib.hid hy
      clear hy
      go_wp2_with (at_builtin; go_must (refine wpList_append_ints rfl _ _ rfl w.heap.size _ (l ++ markL 1 j) rfl (World.ownsRow.alloc HO.out _) (some ⟨wr.heap.size, 0, none⟩) 1 [y] rfl (by simp) HI3.out (by simp [mark_len]; omega) HL3.out ?_; intro v4 w4 hown4 hgrow4 hat4))
      have HB4 : Hid (Below w.heap.size w w4) := (HB.out.alloc HB.out.size _).grown hgrow4 HL3.out (fun k hk => (World.ownsRow.lt HO.out k hk).1)
      have HO4 : Hid (OwnI w4 w.heap.size v4 (l ++ markL 1 (j + 1))) := by
        show OwnI _ _ _ _
        rw [mark_more, HY.out, ← List.append_assoc]
        exact hown4
      clear hown4 hgrow4 hat4
      go_roundw
      case rel => exact ⟨j + 1, by go_num, by omega, HO4.out, HB4.out⟩
      case measure => simp [intOf]; omega
    · have e : j = 12 := by omega
      subst e
      obtain ⟨g, cap, rfl, h1, h2⟩ := OwnI.seat HO.out (by simp [mark_len])
      have e12 : (l ++ markL 1 12).length = l.length + 12 := by simp [mark_len]
      rw [e12] at h1 HO ⊢
      have hc1 : (l.length : Int) ≤ cap := by omega
      go_wp2
      go_ret
      exact ⟨g, cap, rfl, h1, h2, HO.out, HB.out⟩
end Go.Proofs.YtbckkmicdpjnaaaDoor
