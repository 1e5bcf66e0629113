/-
  Whether two rows of numbers are the same, and the mark of a place. No condition beyond those that each theorem states.
  Numbers that are lent: a copy with a tail of marks. No condition beyond those that each theorem states.
  Numbers that were lent are as they were, behind them too. No condition beyond those that each theorem states.
-/
import Derived.Test.YtbjmbahpcoanoaaGreatDoorPk1
import Derived.Deep.QuietTactic
import Derived.BigQuiet
import Derived.Test.YtbjmbahpcoanoaaGreatDoorPk11
import Derived.IntWalk
namespace Go.Proofs.YtbjmbahpcoanoaaGreatDoor
open Go.RowKit

theorem below_drewN {B : Nat} {a w : World} (h : Below B a w) (n : Nat) : Below B a (w.drewN n) := ⟨h.os, h.tape, h.output, h.size, h.block⟩
theorem mark_any (k i : Int) (w : World) (hk : 0 ≤ k) (hk2 : k ≤ 1000000) (hi : 0 ≤ i) (hi2 : i ≤ 1000000000) : Calls Tryz.prog 92 #[.int .i64 k, .int .i64 i] w fun e w' => e = .returned (.int .i64 (1000003 * (k + 7) + i)) ∧ w = w' := by
 go_enter Tryz.func92, Tryz.ntmps92
 go_wp2
 go_ret
 exact ⟨rfl, rfl⟩
set_option maxHeartbeats 1000000 in
set_option maxRecDepth 100000 in
theorem sameInts_any (l m : List Int) (a a' : Option Addr) (c c' : Nat) (w : World) (hl : l.length ≤ 1000000000) (_hm : m.length ≤ 1000000000) (hI : IntsW w a l) (hJ : IntsW w a' m) : Calls Tryz.prog 177 #[.slice a l.length c, .slice a' m.length c'] w fun e w' => e = .returned (.bool (decide (l = m))) ∧ Below w.heap.size w w' := by
 have HI := Lib.hid hI
 have HJ := Lib.hid hJ
 clear hI hJ
 have HE : Hid (decide (l = m) = decide (l = m)) := rfl
 generalize hb : decide (l = m) = b at HE ⊢
 have HB := Lib.hid hb
 clear hb HE
 go_enter Tryz.func177, Tryz.ntmps177
 by_cases h : l.length = m.length
 case neg =>
  have h' : ((l.length : Int) == m.length) = false := by rw [beq_eq_false_iff_ne]; omega
  have h'' : ((l.length : Int) != m.length) = true := by simp [bne, h']
  have hb : b = false := by
   rw [← HB.out, decide_eq_false_iff_not]
   intro e; exact h (by rw [e])
  subst hb
  go_wp2
  go_ret
  exact ⟨rfl, Below.refl _ _⟩
 have h' : ((l.length : Int) == m.length) = true := by rw [beq_iff_eq]; omega
 have h'' : ((l.length : Int) != m.length) = false := by simp [bne, h']
 go_wp2
 go_loopw [5] (fun k wr => ∃ j : Nat, k = .int .i64 j ∧ j ≤ l.length ∧ Hid (decide (l.drop j = m.drop j) = b) ∧ Below w.heap.size w wr) (fun k _ => l.length - (intOf k).toNat)
 case atStart => exact ⟨0, rfl, Nat.zero_le _, HB.out, Below.refl _ _⟩
 case round =>
  obtain ⟨j, rfl, hj, HA, hW⟩ := hrel
  have HW := Lib.hid hW
  clear hW
  by_cases hlt : j < l.length
  · have hlt' : (j : Int) < l.length := by omega
    have hlm : (j : Int) < m.length := by omega
    have hj0 : (0 : Int) ≤ j := by omega
    obtain ⟨x, hx⟩ : ∃ x, l[j]? = some x := ⟨_, List.getElem?_eq_getElem hlt⟩
    obtain ⟨y, hy⟩ : ∃ y, m[j]? = some y := ⟨_, List.getElem?_eq_getElem (by omega)⟩
    obtain ⟨g, o, rfl, hg, h0⟩ := (HI.out.below HW.out) j x hx
    obtain ⟨g', o', rfl, hg', h0'⟩ := (HJ.out.below HW.out) j y hy
    have HD : Hid (decide (x = y ∧ l.drop (j + 1) = m.drop (j + 1)) = b) := by
     show _ = _
     rw [← HA.out, List.drop_eq_getElem_cons hlt, List.drop_eq_getElem_cons (show j < m.length by omega), (List.getElem?_eq_some_iff.1 hx).2, (List.getElem?_eq_some_iff.1 hy).2]
     simp
    clear hx hy HA
    by_cases he : x = y
    · have q : (x == y) = true := by simp [he]
      have q' : (x != y) = false := by simp [he]
      go_wp2_with fail
      go_quiet (fail)
      go_wp2
      go_roundw
      case rel => exact ⟨j + 1, by go_num, by omega, by have := HD.out; simpa [Hid, he] using this, below_drewN HW.out _⟩
      case measure => simp [intOf]; omega
    · have q : (x == y) = false := by simp [he]
      have q' : (x != y) = true := by simp [he]
      have hb : b = false := by rw [← HD.out]; simp [he]
      go_wp2_with fail
      go_quiet (fail)
      go_wp2
      go_ret
      exact ⟨by rw [hb]; rfl, below_drewN HW.out _⟩
  · have e : j = l.length := by omega
    subst e
    have hlt' : ¬ (l.length : Int) < l.length := by omega
    go_wp2
    go_ret
    refine ⟨?_, HW.out⟩
    rw [← HA.out, List.drop_length, h, List.drop_length]
    rfl
end Go.Proofs.YtbjmbahpcoanoaaGreatDoor
namespace Go.Proofs.YtbjmbahpcoanoaaGreatDoor
open Go.RowKit

/-- The first marks of a kind. -/
def markL (k : Int) (j : Nat) : List Int := (List.range j).map fun (i : Nat) => 1000003 * (k + 7) + (i : Int)
theorem mark_len (k : Int) (j : Nat) : (markL k j).length = j := by simp [markL]
theorem mark_more (k : Int) (j : Nat) : markL k (j + 1) = markL k j ++ [1000003 * (k + 7) + (j : Int)] := by simp [markL, List.range_succ]
theorem OwnI.seat {w : World} {B : Nat} {v : Value} {l : List Int} (h : OwnI w B v l) (hl : 0 < l.length) : ∃ g cap, v = .slice (some ⟨g, 0, none⟩) l.length cap ∧ l.length ≤ cap ∧ cap ≤ maxLen := by
 rcases h.2 with ⟨_, h1⟩ | ⟨g, cap, cur, hv, _, _, h2, h3, _⟩
 · omega
 · exact ⟨g, cap, hv, h2, h3⟩
set_option maxHeartbeats 4000000 in
set_option maxRecDepth 100000 in
theorem lentInts_any (l : List Int) (a : Option Addr) (c : Nat) (w : World) (hl : l.length ≤ 100000) (hn : a = none → c = 0) (hI : IntsW w a l) :
    Calls Tryz.prog 169 #[.slice a l.length c] w fun e w' => ∃ g cap, e = .returned (.slice (some ⟨g, 0, none⟩) l.length cap) ∧ l.length + 12 ≤ cap ∧ cap ≤ maxLen ∧ OwnI w' w.heap.size (.slice (some ⟨g, 0, none⟩) (l.length + 12) cap) (l ++ markL 1 12) ∧ Below w.heap.size w w' := by
 obtain ⟨i0, hi0, hz0, hz1, hz2⟩ := info_parts int_info
 have HI := Lib.hid hI
 clear hI
 have hm : (0 : Int) ≤ (l.length : Int) + 12 := by omega
 go_enter Tryz.func169, Tryz.ntmps169
 go_wp2_with (first | (at_make; go_must (refine wpList_make_own _ rfl _ _ _ rfl w.heap.size 3 i0 _ 1 Tryz.underlying37 hi0 hz0 hz1 .i64 .i64 ((l.length : Int) + 12) (l.length + 12) rfl rfl (by omega) (by rw [hz2]; omega) (by simp only [maxLen]; omega) (Nat.le_refl _) ?_; intro w1 hown1 hgrow1; have HB1 : Hid (Below w.heap.size w w1) := (by exact (Below.refl _ w).grown hgrow1 (Nat.le_refl _) (fun k hk => by cases hk)))) | (at_builtin; go_must (refine wpList_append_ints rfl _ _ rfl w.heap.size _ [] rfl hown1 a c l rfl hn (HI.out.below HB1.out) (by simp; omega) HB1.out.size ?_; intro v2 w2 hown2 hgrow2 hat2; have HB2 : Hid (Below w.heap.size w w2) := (by exact HB1.out.grown hgrow2 HB1.out.size (fun k hk => (World.ownsRow.lt hown1 k hk).1)))))
 have HO2 := Lib.hid hown2
 clear hown2 hgrow2 hat2 hown1 hgrow1 HB1
 go_loopw [3, 4] (fun v k wr => ∃ (j : Nat), k = .int .i64 j ∧ j ≤ 12 ∧ OwnI wr w.heap.size v (l ++ markL 1 j) ∧ Below w.heap.size w wr) (fun _ k _ => 12 - (intOf k).toNat)
 case atStart => exact ⟨0, rfl, Nat.zero_le _, by simpa [markL] using HO2.out, HB2.out⟩
 case round =>
  obtain ⟨j, rfl, hj, hO, hB⟩ := hrel
  have HO := Lib.hid hO
  have HB := Lib.hid hB
  clear hO hB HO2 HB2
  by_cases hlt : j < 12
  · have hlt' : (j : Int) < 12 := by omega
    have hj0 : (0 : Int) ≤ j := by omega
    have HI3 : Hid (IntsW (wr.alloc (.cells #[.int .i64 (1000003 * (1 + 7) + (j : Int))] 3)) (some ⟨wr.heap.size, 0, none⟩) [1000003 * (1 + 7) + (j : Int)]) := IntsW.row (l := [1000003 * (1 + 7) + (j : Int)]) (Blk.new wr 3 #[.int .i64 (1000003 * (1 + 7) + (j : Int))]) (fun k x hx => by
     cases k with
     | zero => simpa using hx
     | succ k => simp at hx)
    go_wp2_with fail
    refine (mark_any 1 j wr (by omega) (by omega) (by omega) (by omega)).mono ?_
    rintro e w3 ⟨rfl, rfl⟩
    have HL3 : Hid (w.heap.size ≤ (wr.alloc (.cells #[.int .i64 (1000003 * (1 + 7) + (j : Int))] 3)).heap.size) := (HB.out.alloc HB.out.size (.cells #[.int .i64 (1000003 * (1 + 7) + (j : Int))] 3)).size
    generalize hy : 1000003 * (1 + 7) + (j : Int) = y at HI3 HL3
    have HY := Lib.hid hy
    clear hy
    go_wp2_with (at_builtin; go_must (refine wpList_append_ints rfl _ _ rfl w.heap.size _ (l ++ markL 1 j) rfl (World.ownsRow.alloc HO.out _) (some ⟨wr.heap.size, 0, none⟩) 1 [y] rfl (by simp) HI3.out (by simp [mark_len]; omega) HL3.out ?_; intro v4 w4 hown4 hgrow4 hat4))
    have HB4 : Hid (Below w.heap.size w w4) := (HB.out.alloc HB.out.size _).grown hgrow4 HL3.out (fun k hk => (World.ownsRow.lt HO.out k hk).1)
    have HO4 : Hid (OwnI w4 w.heap.size v4 (l ++ markL 1 (j + 1))) := by
     show OwnI _ _ _ _
     rw [mark_more, HY.out, ← List.append_assoc]
     exact hown4
    clear hown4 hgrow4 hat4
    go_roundw
    case rel => exact ⟨j + 1, by go_num, by omega, HO4.out, HB4.out⟩
    case measure => simp [intOf]; omega
  · have e : j = 12 := by omega
    subst e
    obtain ⟨g, cap, rfl, h1, h2⟩ := OwnI.seat HO.out (by simp [mark_len])
    have e12 : (l ++ markL 1 12).length = l.length + 12 := by simp [mark_len]
    rw [e12] at h1 HO ⊢
    have hc1 : (l.length : Int) ≤ cap := by omega
    go_wp2
    go_ret
    exact ⟨g, cap, rfl, h1, h2, HO.out, HB.out⟩
end Go.Proofs.YtbjmbahpcoanoaaGreatDoor
namespace Go.Proofs.YtbjmbahpcoanoaaGreatDoor
open Go.RowKit

set_option maxHeartbeats 4000000 in
set_option maxRecDepth 100000 in
theorem keptInts_any (l : List Int) (g cap : Nat) (a : Option Addr) (c : Nat) (w : World) (hl : l.length ≤ 100000) (hcap : l.length + 12 ≤ cap) (hI : IntsW w a l) (hO : IntsW w (some ⟨g, 0, none⟩) (l ++ markL 1 12)) :
    Calls Tryz.prog 176 #[.slice (some ⟨g, 0, none⟩) l.length cap, .slice a l.length c] w fun e w' => e = .returned (.bool true) ∧ Below w.heap.size w w' := by
 have HI := Lib.hid hI
 have HO := Lib.hid hO
 clear hI hO
 have hm : (0 : Int) ≤ (l.length : Int) + 12 := by omega
 have hc1 : (l.length : Int) + 12 ≤ cap := by omega
 have ht : ((l.length : Int) + 12).toNat = l.length + 12 := by omega
 go_enter Tryz.func176, Tryz.ntmps176
 go_wp2
 go_loopw [6] (fun k wr => ∃ j : Nat, k = .int .i64 j ∧ j ≤ l.length + 12 ∧ Below w.heap.size w wr) (fun k _ => l.length + 12 - (intOf k).toNat)
 case atStart => exact ⟨0, rfl, Nat.zero_le _, Below.refl _ _⟩
 case round =>
  obtain ⟨j, rfl, hj, hW⟩ := hrel
  have HW := Lib.hid hW
  clear hW
  have hj0 : (0 : Int) ≤ j := by omega
  by_cases h1 : j < l.length
  · have hlt' : (j : Int) < (l.length : Int) + 12 := by omega
    have hlt2 : (j : Int) < ((l.length + 12 : Nat) : Int) := by omega
    have h1' : (j : Int) < l.length := by omega
    have h2' : decide ((l.length : Int) ≤ j) = false := by simp; omega
    have h2b : decide (l.length ≤ j) = false := by simp; omega
    obtain ⟨x, hx⟩ : ∃ x, l[j]? = some x := ⟨_, List.getElem?_eq_getElem h1⟩
    obtain ⟨g1, o1, rfl, hg1, c1⟩ := (HI.out.below HW.out) j x hx
    obtain ⟨g2, o2, he, hg2, c2⟩ := (HO.out.below HW.out) j x (by rw [List.getElem?_append_left h1]; exact hx)
    injection he with he
    injection he with he1 he2
    subst he1
    subst he2
    rw [Nat.zero_add] at c2
    have q : (x == x) = true := by simp
    clear hx
    go_wp2_with fail
    go_quiet (fail)
    go_wp2
    go_roundw
    case rel => exact ⟨j + 1, by go_num, by omega, below_drewN HW.out _⟩
    case measure => simp [intOf]; omega
  · by_cases h2 : j < l.length + 12
    · have hlt' : (j : Int) < (l.length : Int) + 12 := by omega
      have hlt2 : (j : Int) < ((l.length + 12 : Nat) : Int) := by omega
      have h1' : decide ((j : Int) < l.length) = false := by simp; omega
      have h1b : decide (j < l.length) = false := by simp; omega
      have h2' : (l.length : Int) ≤ j := by omega
      obtain ⟨d, hd⟩ : ∃ d : Nat, j = l.length + d := ⟨j - l.length, by omega⟩
      have hd2 : d < 12 := by omega
      have hs : IntKind.i64.wrap ((j : Int) - l.length) = (d : Int) := by rw [IntWalk.i64_in _ (by omega)]; omega
      have hs0 : (0 : Int) ≤ (d : Int) := by omega
      obtain ⟨g2, o2, he, hg2, c2⟩ := (HO.out.below HW.out) j (1000003 * (1 + 7) + (d : Int)) (by
       rw [List.getElem?_append_right (by omega), show j - l.length = d by omega]
       simp [markL, hd2])
      injection he with he
      injection he with he1 he2
      subst he1
      subst he2
      rw [Nat.zero_add] at c2
      have HM := Lib.hid (fun W => mark_any 1 d W (by omega) (by omega) (by omega) (by omega))
      generalize 1000003 * (1 + 7) + (d : Int) = y at c2 HM
      have q : (y == y) = true := by simp
      clear hd hd2
      go_wp2_with fail
      go_quiet ((go_at_call 92; refine Calls.quiet_of_same ((HM.out _).mono fun _ _ h => ⟨h.1, h.2.symm⟩)))
      go_wp2
      go_roundw
      case rel => exact ⟨j + 1, by go_num, by omega, below_drewN HW.out _⟩
      case measure => simp [intOf]; omega
    · have e : j = l.length + 12 := by omega
      subst e
      have hlt' : ¬ ((l.length + 12 : Nat) : Int) < (l.length : Int) + 12 := by omega
      have hlt2 : ¬ ((l.length + 12 : Nat) : Int) < ((l.length + 12 : Nat) : Int) := by omega
      go_wp2
      go_ret
      exact ⟨rfl, HW.out⟩
end Go.Proofs.YtbjmbahpcoanoaaGreatDoor
