/-
  The reader's draft is shut, begun and grown in memory as the plain functions say. No condition beyond those that each theorem states.
-/
import Derived.Test.YthiipgahbmoiiaaGreatDoorPk11
namespace Go.Proofs.YthiipgahbmoiiaaGreatDoor
open Go.RowKit

theorem Lies.draft {w : World} {b g : Nat} {s : ByteArray} {σ : Rd} (h : Lies w b g s σ) (x : Wd) (fm mn : Int) (bl : Bool) :
    Lies ((((((((w.setCell ⟨g, 2, none⟩ (.int .i64 x.k)).setCell ⟨g, 3, none⟩ (.string x.t)).setCell ⟨g, 4, none⟩ (.int .i64 x.n)).setCell ⟨g, 5, none⟩ (.int .i64 x.l)).setCell ⟨g, 6, none⟩ (.int .i64 x.c)).setCell ⟨g, 7, none⟩ (.int .i64 fm)).setCell
      ⟨g, 8, none⟩ (.int .i64 mn)).setCell ⟨g, 9, none⟩ (.bool bl)) b g s { σ with w := x, frm := fm, many := mn, below := bl } ∧
    Keep b g w ((((((((w.setCell ⟨g, 2, none⟩ (.int .i64 x.k)).setCell ⟨g, 3, none⟩ (.string x.t)).setCell ⟨g, 4, none⟩ (.int .i64 x.n)).setCell ⟨g, 5, none⟩ (.int .i64 x.l)).setCell ⟨g, 6, none⟩ (.int .i64 x.c)).setCell ⟨g, 7, none⟩ (.int .i64 fm)).setCell
      ⟨g, 8, none⟩ (.int .i64 mn)).setCell ⟨g, 9, none⟩ (.bool bl)) :=
  ⟨(((((((h.put { σ with w := { σ.w with k := x.k } } 2 _ rfl (fun _ => rfl)).put { σ with w := { σ.w with k := x.k, t := x.t } } 3 _ rfl (fun _ => rfl)).put { σ with w := { σ.w with k := x.k, t := x.t, n := x.n } } 4 _ rfl (fun _ => rfl)).put
    { σ with w := { x with c := σ.w.c } } 5 _ rfl (fun _ => rfl)).put { σ with w := x } 6 _ rfl (fun _ => rfl)).put { σ with w := x, frm := fm } 7 _ rfl (fun _ => rfl)).put { σ with w := x, frm := fm, many := mn } 8 _ rfl (fun _ => rfl)).put
    { σ with w := x, frm := fm, many := mn, below := bl } 9 _ rfl (fun _ => rfl),
   ((((((((Keep.put b g w 2 _).trans (Keep.put _ _ _ _ _)).trans (Keep.put _ _ _ _ _)).trans (Keep.put _ _ _ _ _)).trans (Keep.put _ _ _ _ _)).trans (Keep.put _ _ _ _ _)).trans (Keep.put _ _ _ _ _)).trans (Keep.put _ _ _ _ _))⟩

theorem shut_any (g : Nat) (s : ByteArray) (σ : Rd) (i : Nat) (b : Nat) (w : World) (h : Lies w b g s σ) (hm : σ.ws.length ≤ 300000) (hf0 : 0 ≤ σ.frm) (hf1 : σ.frm ≤ i) (hi : i ≤ s.size) :
    Calls Tryz.prog 118 #[.pointer (some ⟨g, 0, none⟩), .int .i64 i] w fun e w' => e = .returned (.tuple #[]) ∧ Lies w' b g s (σ.shut s i) ∧ Keep b g w w' := by
  by_cases hk : σ.w.k = 0
  · have E : Hid (σ.shut s i = σ) := if_pos hk
    have c2 : w.cell? ⟨g, 2, none⟩ = some (.int .i64 σ.w.k) := by obtain ⟨a, c, hb, _⟩ := h; exact hb.cell 2
    have k0 : (σ.w.k == 0) = true := by simp [hk]
    have H := Lib.hid h
    clear h hk
    go_enter Tryz.func118, Tryz.ntmps118
    go_wp2
    refine bodyPost_ret (results_none rfl _ _ _) rfl ⟨rfl, ?_, Keep.refl _ _ _⟩
    rw [E.out]
    exact H.out
  · exact shut_some g s σ i b w w (Keep.refl _ _ _) h hk hm hf0 hf1 hi

set_option maxHeartbeats 1000000 in
set_option maxRecDepth 100000 in
theorem begin_any (g : Nat) (s : ByteArray) (σ : Rd) (k : Int) (i : Nat) (b : Nat) (w : World) (h : Lies w b g s σ) (hm : σ.ws.length ≤ 300000) (hf0 : 0 ≤ σ.frm) (hf1 : σ.frm ≤ i) (hi : i ≤ s.size) :
    Calls Tryz.prog 157 #[.pointer (some ⟨g, 0, none⟩), .int .i64 k, .int .i64 i] w fun e w' => e = .returned (.tuple #[]) ∧ Lies w' b g s (σ.begin_ s k i) ∧ Keep b g w w' := by
  have C := shut_any g s σ i b w h hm hf0 hf1 hi
  have E : Hid (σ.begin_ s k i = { σ.shut s i with w := ⟨k, noText, 0, (σ.shut s i).line, (σ.shut s i).col⟩, frm := i, many := 0, below := false }) := by
    show _ = _
    have e1 : (σ.shut s i).line = σ.line := by unfold Rd.shut; split <;> rfl
    have e2 : (σ.shut s i).col = σ.col := by unfold Rd.shut; split <;> rfl
    rw [e1, e2]
    rfl
  have HC := Lib.hid C
  clear C h hf0 hf1 hm
  go_enter Tryz.func157, Tryz.ntmps157
  go_wp2_with (go_at_call 118; refine HC.out.mono ?_; rintro e w1 ⟨rfl, h1, k1⟩)
  generalize σ.shut s i = τ at *
  have H1 := Lib.hid h1
  have K1 := Lib.hid k1
  obtain ⟨a, c, hb, ho, hg, hs⟩ := id h1
  have m0 := hb.cell 0
  have m1 := hb.cell 1
  have m2 := hb.cell 2
  have m3 := hb.cell 3
  have m4 := hb.cell 4
  have m5 := hb.cell 5
  have m6 := hb.cell 6
  have m7 := hb.cell 7
  have m8 := hb.cell 8
  have m9 := hb.cell 9
  simp only [cellsR, List.getElem?_toArray, List.getElem?_cons_succ, List.getElem?_cons_zero] at m0 m1 m2 m3 m4 m5 m6 m7 m8 m9
  have n2 := hb.free 2
  have n3 := hb.free 3
  have n4 := hb.free 4
  have n5 := hb.free 5
  have n6 := hb.free 6
  have n7 := hb.free 7
  have n8 := hb.free 8
  have n9 := hb.free 9
  clear hb ho h1 k1 HC
  go_wp2_with fail
  go_region
  go_wp2
  go_end0
  obtain ⟨h2, k2⟩ := H1.out.draft ⟨k, noText, 0, τ.line, τ.col⟩ i 0 false
  have h3 := h2.drewN 1
  have k3 := (K1.out.trans k2).trans (Keep.drew _ _ _)
  rw [E.out]
  exact ⟨rfl, h3, k3⟩

theorem digit_behind_any (g : Nat) (s : ByteArray) (σ : Rd) (i : Nat) (b : Nat) (w : World) (h : Lies w b g s σ) (hi : i < s.size) (hz : s.size ≤ 300000) :
    Calls Tryz.prog 187 #[.pointer (some ⟨g, 0, none⟩), .int .i64 i] w fun e w' => e = .returned (.bool (behindB s i)) ∧ w = w' := by
  have m10 : w.cell? ⟨g, 10, none⟩ = some (.string s) := by obtain ⟨a, c, hb, _⟩ := h; exact hb.cell 10
  have H := Lib.hid h
  clear h
  by_cases hl : i + 1 < s.size
  · have hw : wrap32 ((s[i + 1]'hl).toNat : Int) = (s[i + 1]'hl).toNat := by
      have := (s[i + 1]'hl).toNat_lt
      unfold wrap32
      omega
    have E : Hid (behindB s i = digitB (wrap32 ((s[i + 1]'hl).toNat : Int))) := by
      show _ = _
      have e1 : s.get! (i + 1) = s[i + 1]'hl := by simp [ByteArray.get!, getElem!_pos, hl]; rfl
      rw [hw, behindB, e1]
      simp [hl]
    have hl' : (i : Int) + 1 < s.size := by omega
    clear hw
    go_enter Tryz.func187, Tryz.ntmps187
    go_wp2_with (go_at_call 189; refine (isDigit_any _ _).mono ?_; rintro e w1 ⟨rfl, rfl⟩)
    go_ret
    exact ⟨by rw [E.out]; rfl, rfl⟩
  · have E : Hid (behindB s i = false) := by show _ = _; simp [behindB, hl]
    have hl' : decide ((i : Int) + 1 < s.size) = false := by simp; omega
    go_enter Tryz.func187, Tryz.ntmps187
    go_wp2
    go_ret
    exact ⟨by rw [E.out]; rfl, rfl⟩

theorem grows_any (g : Nat) (s : ByteArray) (σ : Rd) (r : Int) (b : Nat) (w : World) (h : Lies w b g s σ) (hk : σ.w.k = 1 ∨ 48 ≤ r ∧ r ≤ 57) (hr : 0 ≤ r ∧ r ≤ 2000000) (hm : 0 ≤ σ.many ∧ σ.many ≤ 300000) (hn : -1099511627776 ≤ σ.w.n ∧ σ.w.n ≤ 1099511627776) :
    Calls Tryz.prog 190 #[.pointer (some ⟨g, 2, none⟩), .int .i32 r] w fun e w' => e = .returned (.bool (σ.fits r)) ∧ Lies w' b g s (σ.grown r) ∧ Keep b g w w' := by
  obtain ⟨a, c, hb, ho, hg, hs⟩ := id h
  have c2 : w.cell? ⟨g, 2, none⟩ = some (.int .i64 σ.w.k) := hb.cell 2
  have c4 : w.cell? ⟨g, 4, none⟩ = some (.int .i64 σ.w.n) := hb.cell 4
  have c8 : w.cell? ⟨g, 8, none⟩ = some (.int .i64 σ.many) := hb.cell 8
  have c9 : w.cell? ⟨g, 9, none⟩ = some (.bool σ.below) := hb.cell 9
  have f4 := hb.free 4
  have f8 := hb.free 8
  have H := Lib.hid h
  clear h hb ho
  obtain ⟨hn1, hn2⟩ := hn
  obtain ⟨hr1, hr2⟩ := hr
  obtain ⟨hm1, hm2⟩ := hm
  by_cases h1 : σ.w.k = 1
  · have k1 : (σ.w.k == 1) = true := by simp [h1]
    have E : Hid (σ.fits r = decide (σ.many + 1 ≤ 16) ∧ σ.grown r = { σ with many := σ.many + 1 }) := ⟨if_pos h1, if_pos h1⟩
    clear h1 hk
    go_enter Tryz.func190, Tryz.ntmps190
    go_wp2
    go_ret
    rw [E.out.1, E.out.2]
    exact ⟨rfl, H.out.put _ 8 _ rfl (fun _ => rfl), Keep.put _ _ _ _ _⟩
  · have k1 : (σ.w.k == 1) = false := by simp [h1]
    obtain ⟨hr3, hr4⟩ : 48 ≤ r ∧ r ≤ 57 := hk.resolve_left h1
    have hw : wrap32 (r - 48) = r - 48 := by unfold wrap32; omega
    have hd0 : 0 ≤ r - 48 := by omega
    cases hbl : σ.below
    · have E : Hid (σ.fits r = boundB (σ.w.n * 10 + (r - 48)) ∧ σ.grown r = { σ with w := { σ.w with n := σ.w.n * 10 + (r - 48) } }) := by
        refine ⟨?_, ?_⟩
        · rw [Rd.fits, if_neg h1, hbl]; rfl
        · rw [Rd.grown, if_neg h1, hbl]; rfl
      rw [hbl] at c9
      clear h1 hk hbl hw
      go_enter Tryz.func190, Tryz.ntmps190
      go_wp2_with (go_at_call 201; refine (bound_any _ _).mono ?_; rintro e w1 ⟨rfl, rfl⟩)
      go_ret
      rw [E.out.1, E.out.2]
      exact ⟨rfl, H.out.put _ 4 _ rfl (fun _ => rfl), Keep.put _ _ _ _ _⟩
    · have E : Hid (σ.fits r = boundB (σ.w.n * 10 + -(r - 48)) ∧ σ.grown r = { σ with w := { σ.w with n := σ.w.n * 10 + -(r - 48) } }) := by
        refine ⟨?_, ?_⟩
        · rw [Rd.fits, if_neg h1, hbl]; rfl
        · rw [Rd.grown, if_neg h1, hbl]; rfl
      rw [hbl] at c9
      clear h1 hk hbl hw
      go_enter Tryz.func190, Tryz.ntmps190
      go_wp2_with (go_at_call 201; refine (bound_any _ _).mono ?_; rintro e w1 ⟨rfl, rfl⟩)
      go_ret
      rw [E.out.1, E.out.2]
      exact ⟨rfl, H.out.put _ 4 _ rfl (fun _ => rfl), Keep.put _ _ _ _ _⟩
end Go.Proofs.YthiipgahbmoiiaaGreatDoor
