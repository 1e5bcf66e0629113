/-
  The reader takes a rune in memory as the plain function says. No condition beyond those that each theorem states.
-/
import Derived.Test.YtkfplffcegbdfaaGreatDoorSpell
namespace Go.Proofs.YtkfplffcegbdfaaGreatDoor
open Go.RowKit

theorem use_range (s : ByteArray) (m : Bool) (i : Nat) (r : Int) : 0 ≤ useOf s m i r ∧ useOf s m i r ≤ 7 := by
  unfold useOf
  repeat' split
  all_goals omega
theorem use_seven {s : ByteArray} {m : Bool} {i : Nat} {r : Int} (h : useOf s m i r = 7) : 48 ≤ r ∧ r ≤ 57 := by
  have hd : digitB r = true := by
    revert h
    unfold useOf
    repeat' split
    all_goals first | (intro _; assumption) | (intro h; omega)
  simpa [digitB] using hd
set_option maxHeartbeats 1000000 in
set_option maxRecDepth 100000 in
theorem take_end (g : Nat) (s : ByteArray) (σ : Rd) (i : Nat) (r : Int) (b : Nat) (w : World) (h : Lies w b g s σ) (hF : Fine σ i) (hi : i < s.size) (hz : s.size ≤ 300000) (hu : useOf s σ.remark i r = 1) :
    Calls Tryz.prog 107 #[.pointer (some ⟨g, 0, none⟩), .int .i64 i, .int .i32 r] w fun e w' => e = .returned (.tuple #[]) ∧ Lies w' b g s (σ.take s i r) ∧ Keep b g w w'  := by
  have U := Lib.hid (use_any g s σ i r b w h hi (by omega))
  rw [hu] at U
  have E : Hid (σ.take s i r = { σ.begin_ s 4 i with remark := false }) := by show _ = _; simp [Rd.take, hu]
  have C := Lib.hid (begin_any g s σ 4 i b w h (by have := hF.words; omega) hF.frm0 hF.frm1 (by omega))
  clear h hF hu
  go_enter Tryz.func107, Tryz.ntmps107
  go_wp2_with fail
  refine U.out.mono ?_
  rintro e w1 ⟨rfl, rfl⟩
  go_wp2_with fail
  refine C.out.mono ?_
  rintro e w2 ⟨rfl, h2, k2⟩
  generalize σ.begin_ s 4 i = τ at *
  have m12 : w2.cell? ⟨g, 12, none⟩ = some (.bool τ.remark) := by obtain ⟨a, c, hb, _⟩ := h2; exact hb.cell 12
  have n12 : w2.frozen? ⟨g, 12, none⟩ = false := by obtain ⟨a, c, hb, _⟩ := h2; exact hb.free 12
  have H2 := Lib.hid h2
  have K2 := Lib.hid k2
  clear h2 k2 C U
  go_wp2
  go_end0
  rw [E.out]
  exact ⟨rfl, H2.out.put _ 12 _ rfl (fun _ => rfl), K2.out.trans (Keep.put _ _ _ _ _)⟩

set_option maxHeartbeats 1000000 in
set_option maxRecDepth 100000 in
theorem take_rem (g : Nat) (s : ByteArray) (σ : Rd) (i : Nat) (r : Int) (b : Nat) (w : World) (h : Lies w b g s σ) (hF : Fine σ i) (hi : i < s.size) (hz : s.size ≤ 300000) (hu : useOf s σ.remark i r = 2) :
    Calls Tryz.prog 107 #[.pointer (some ⟨g, 0, none⟩), .int .i64 i, .int .i32 r] w fun e w' => e = .returned (.tuple #[]) ∧ Lies w' b g s (σ.take s i r) ∧ Keep b g w w'  := by
  have U := Lib.hid (use_any g s σ i r b w h hi (by omega))
  rw [hu] at U
  have E : Hid (σ.take s i r = ({ σ with remark := true } : Rd).shut s i) := by show _ = _; simp [Rd.take, hu]
  have m12 : w.cell? ⟨g, 12, none⟩ = some (.bool σ.remark) := by obtain ⟨a, c, hb, _⟩ := h; exact hb.cell 12
  have n12 : w.frozen? ⟨g, 12, none⟩ = false := by obtain ⟨a, c, hb, _⟩ := h; exact hb.free 12
  have C := Lib.hid (shut_any g s { σ with remark := true } i b (w.setCell ⟨g, 12, none⟩ (.bool true)) (h.put _ 12 _ rfl (fun _ => rfl)) (by have := hF.words; simp only; omega) hF.frm0 hF.frm1 (by omega))
  clear h hF hu
  go_enter Tryz.func107, Tryz.ntmps107
  go_wp2_with fail
  refine U.out.mono ?_
  rintro e w1 ⟨rfl, rfl⟩
  go_wp2_with (go_at_call 109; refine C.out.mono ?_; rintro e w2 ⟨rfl, h2, k2⟩)
  have H2 := Lib.hid h2
  have K2 := Lib.hid k2
  clear h2 k2 C U
  go_wp2
  go_end0
  rw [E.out]
  exact ⟨rfl, H2.out, (Keep.put _ _ _ 12 _).trans K2.out⟩

set_option maxHeartbeats 1000000 in
set_option maxRecDepth 100000 in
theorem take_blank (g : Nat) (s : ByteArray) (σ : Rd) (i : Nat) (r : Int) (b : Nat) (w : World) (h : Lies w b g s σ) (hF : Fine σ i) (hi : i < s.size) (hz : s.size ≤ 300000) (hu : useOf s σ.remark i r = 3) :
    Calls Tryz.prog 107 #[.pointer (some ⟨g, 0, none⟩), .int .i64 i, .int .i32 r] w fun e w' => e = .returned (.tuple #[]) ∧ Lies w' b g s (σ.take s i r) ∧ Keep b g w w'  := by
  have U := Lib.hid (use_any g s σ i r b w h hi (by omega))
  rw [hu] at U
  have E : Hid (σ.take s i r = σ.shut s i) := by show _ = _; simp [Rd.take, hu]
  have C := Lib.hid (shut_any g s σ i b w h (by have := hF.words; omega) hF.frm0 hF.frm1 (by omega))
  clear h hF hu
  go_enter Tryz.func107, Tryz.ntmps107
  go_wp2_with fail
  refine U.out.mono ?_
  rintro e w1 ⟨rfl, rfl⟩
  go_wp2_with (go_at_call 109; refine C.out.mono ?_; rintro e w2 ⟨rfl, h2, k2⟩)
  have H2 := Lib.hid h2
  have K2 := Lib.hid k2
  clear h2 k2 C U
  go_wp2
  go_end0
  rw [E.out]
  exact ⟨rfl, H2.out, K2.out⟩

set_option maxHeartbeats 1000000 in
set_option maxRecDepth 100000 in
theorem take_sign (g : Nat) (s : ByteArray) (σ : Rd) (i : Nat) (r : Int) (b : Nat) (w : World) (h : Lies w b g s σ) (hF : Fine σ i) (hi : i < s.size) (hz : s.size ≤ 300000) (hu : useOf s σ.remark i r = 4) :
    Calls Tryz.prog 107 #[.pointer (some ⟨g, 0, none⟩), .int .i64 i, .int .i32 r] w fun e w' => e = .returned (.tuple #[]) ∧ Lies w' b g s (σ.take s i r) ∧ Keep b g w w'  := by
  have U := Lib.hid (use_any g s σ i r b w h hi (by omega))
  rw [hu] at U
  have E : Hid (σ.take s i r = σ.begin_ s 3 i) := by show _ = _; simp [Rd.take, hu]
  have C := Lib.hid (begin_any g s σ 3 i b w h (by have := hF.words; omega) hF.frm0 hF.frm1 (by omega))
  clear h hF hu
  go_enter Tryz.func107, Tryz.ntmps107
  go_wp2_with fail
  refine U.out.mono ?_
  rintro e w1 ⟨rfl, rfl⟩
  go_wp2_with (go_at_call 135; refine C.out.mono ?_; rintro e w2 ⟨rfl, h2, k2⟩)
  have H2 := Lib.hid h2
  have K2 := Lib.hid k2
  clear h2 k2 C U
  go_wp2
  go_end0
  rw [E.out]
  exact ⟨rfl, H2.out, K2.out⟩

set_option maxHeartbeats 1000000 in
set_option maxRecDepth 100000 in
theorem take_minus (g : Nat) (s : ByteArray) (σ : Rd) (i : Nat) (r : Int) (b : Nat) (w : World) (h : Lies w b g s σ) (hF : Fine σ i) (hi : i < s.size) (hz : s.size ≤ 300000) (hu : useOf s σ.remark i r = 5) :
    Calls Tryz.prog 107 #[.pointer (some ⟨g, 0, none⟩), .int .i64 i, .int .i32 r] w fun e w' => e = .returned (.tuple #[]) ∧ Lies w' b g s (σ.take s i r) ∧ Keep b g w w'  := by
  have U := Lib.hid (use_any g s σ i r b w h hi (by omega))
  rw [hu] at U
  have E : Hid (σ.take s i r = { σ.begin_ s 2 i with below := true }) := by show _ = _; simp [Rd.take, hu]
  have C := Lib.hid (begin_any g s σ 2 i b w h (by have := hF.words; omega) hF.frm0 hF.frm1 (by omega))
  clear h hF hu
  go_enter Tryz.func107, Tryz.ntmps107
  go_wp2_with fail
  refine U.out.mono ?_
  rintro e w1 ⟨rfl, rfl⟩
  go_wp2_with fail
  refine C.out.mono ?_
  rintro e w2 ⟨rfl, h2, k2⟩
  generalize σ.begin_ s 2 i = τ at *
  have m9 : w2.cell? ⟨g, 9, none⟩ = some (.bool τ.below) := by obtain ⟨a, c, hb, _⟩ := h2; exact hb.cell 9
  have n9 : w2.frozen? ⟨g, 9, none⟩ = false := by obtain ⟨a, c, hb, _⟩ := h2; exact hb.free 9
  have H2 := Lib.hid h2
  have K2 := Lib.hid k2
  clear h2 k2 C U
  go_wp2
  go_end0
  rw [E.out]
  exact ⟨rfl, H2.out.put _ 9 _ rfl (fun _ => rfl), K2.out.trans (Keep.put _ _ _ _ _)⟩

set_option maxHeartbeats 1000000 in
set_option maxRecDepth 100000 in
theorem take_digit (g : Nat) (s : ByteArray) (σ : Rd) (i : Nat) (r : Int) (b : Nat) (w : World) (h : Lies w b g s σ) (hF : Fine σ i) (hi : i < s.size) (hz : s.size ≤ 300000) (hu : useOf s σ.remark i r = 7) (hr : 0 ≤ r ∧ r ≤ 2000000) :
    Calls Tryz.prog 107 #[.pointer (some ⟨g, 0, none⟩), .int .i64 i, .int .i32 r] w fun e w' => e = .returned (.tuple #[]) ∧ Lies w' b g s (σ.take s i r) ∧ Keep b g w w'  := by
  have U := Lib.hid (use_any g s σ i r b w h hi (by omega))
  rw [hu] at U
  have E : Hid (σ.take s i r = σ.spell s 2 i r) := by show _ = _; simp [Rd.take, hu]
  have C := Lib.hid (spell_any g s σ 2 i r b w h hF hi hz hr (.inr (.inl (use_seven hu))))
  clear h hF hu
  go_enter Tryz.func107, Tryz.ntmps107
  go_wp2_with fail
  refine U.out.mono ?_
  rintro e w1 ⟨rfl, rfl⟩
  go_wp2_with (go_at_call 136; refine C.out.mono ?_; rintro e w2 ⟨rfl, h2, k2⟩)
  have H2 := Lib.hid h2
  have K2 := Lib.hid k2
  clear h2 k2 C U
  go_wp2
  go_end0
  rw [E.out]
  exact ⟨rfl, H2.out, K2.out⟩

set_option maxHeartbeats 1000000 in
set_option maxRecDepth 100000 in
theorem take_letter (g : Nat) (s : ByteArray) (σ : Rd) (i : Nat) (r : Int) (b : Nat) (w : World) (h : Lies w b g s σ) (hF : Fine σ i) (hi : i < s.size) (hz : s.size ≤ 300000) (hu : useOf s σ.remark i r = 6) (hr : 0 ≤ r ∧ r ≤ 2000000) (hk : σ.w.k ≠ 2) :
    Calls Tryz.prog 107 #[.pointer (some ⟨g, 0, none⟩), .int .i64 i, .int .i32 r] w fun e w' => e = .returned (.tuple #[]) ∧ Lies w' b g s (σ.take s i r) ∧ Keep b g w w'  := by
  have U := Lib.hid (use_any g s σ i r b w h hi (by omega))
  rw [hu] at U
  have E : Hid (σ.take s i r = σ.spell s 1 i r) := by show _ = _; simp [Rd.take, hu, hk]
  have C := Lib.hid (spell_any g s σ 1 i r b w h hF hi hz hr (.inr (.inr ⟨hk, rfl⟩)))
  have m2 : w.cell? ⟨g, 2, none⟩ = some (.int .i64 σ.w.k) := by obtain ⟨a, c, hb, _⟩ := h; exact hb.cell 2
  have q : (σ.w.k != 2) = true := by simp [hk]
  clear h hF hu hk
  go_enter Tryz.func107, Tryz.ntmps107
  go_wp2_with fail
  refine U.out.mono ?_
  rintro e w1 ⟨rfl, rfl⟩
  go_wp2_with (go_at_call 136; refine C.out.mono ?_; rintro e w2 ⟨rfl, h2, k2⟩)
  have H2 := Lib.hid h2
  have K2 := Lib.hid k2
  clear h2 k2 C U
  go_wp2
  go_end0
  rw [E.out]
  exact ⟨rfl, H2.out, K2.out⟩

set_option maxHeartbeats 1000000 in
set_option maxRecDepth 100000 in
theorem take_stuck (g : Nat) (s : ByteArray) (σ : Rd) (i : Nat) (r : Int) (b : Nat) (w : World) (h : Lies w b g s σ) (_hF : Fine σ i) (hi : i < s.size) (hz : s.size ≤ 300000) (hu : useOf s σ.remark i r = 6) (hk : σ.w.k = 2) :
    Calls Tryz.prog 107 #[.pointer (some ⟨g, 0, none⟩), .int .i64 i, .int .i32 r] w fun e w' => e = .returned (.tuple #[]) ∧ Lies w' b g s (σ.take s i r) ∧ Keep b g w w'  := by
  have U := Lib.hid (use_any g s σ i r b w h hi (by omega))
  rw [hu] at U
  have E : Hid (σ.take s i r = σ.fail σ.line σ.col 6) := by show _ = _; simp [Rd.take, hu, hk]
  have m2 : w.cell? ⟨g, 2, none⟩ = some (.int .i64 σ.w.k) := by obtain ⟨a, c, hb, _⟩ := h; exact hb.cell 2
  have q : (σ.w.k != 2) = false := by simp [hk]
  clear hk
  have m0 : w.cell? ⟨g, 0, none⟩ = some (.int .i64 σ.line) := by obtain ⟨a, c, hb, _⟩ := h; exact hb.cell 0
  have m1 : w.cell? ⟨g, 1, none⟩ = some (.int .i64 σ.col) := by obtain ⟨a, c, hb, _⟩ := h; exact hb.cell 1
  have C := Lib.hid (fail_any g s σ σ.line σ.col 6 b w h)
  clear h hu
  go_enter Tryz.func107, Tryz.ntmps107
  go_wp2_with fail
  refine U.out.mono ?_
  rintro e w1 ⟨rfl, rfl⟩
  go_wp2_with (go_at_call 137; refine C.out.mono ?_; rintro e w2 ⟨rfl, h2, k2⟩)
  have H2 := Lib.hid h2
  have K2 := Lib.hid k2
  clear h2 k2 C U
  go_wp2
  go_end0
  rw [E.out]
  exact ⟨rfl, H2.out, K2.out⟩

set_option maxHeartbeats 1000000 in
set_option maxRecDepth 100000 in
theorem take_none (g : Nat) (s : ByteArray) (σ : Rd) (i : Nat) (r : Int) (b : Nat) (w : World) (h : Lies w b g s σ) (_hF : Fine σ i) (hi : i < s.size) (hz : s.size ≤ 300000) (hu : useOf s σ.remark i r = 0) :
    Calls Tryz.prog 107 #[.pointer (some ⟨g, 0, none⟩), .int .i64 i, .int .i32 r] w fun e w' => e = .returned (.tuple #[]) ∧ Lies w' b g s (σ.take s i r) ∧ Keep b g w w'  := by
  have U := Lib.hid (use_any g s σ i r b w h hi (by omega))
  rw [hu] at U
  have E : Hid (σ.take s i r = σ.fail σ.line σ.col 6) := by show _ = _; simp [Rd.take, hu]
  have m0 : w.cell? ⟨g, 0, none⟩ = some (.int .i64 σ.line) := by obtain ⟨a, c, hb, _⟩ := h; exact hb.cell 0
  have m1 : w.cell? ⟨g, 1, none⟩ = some (.int .i64 σ.col) := by obtain ⟨a, c, hb, _⟩ := h; exact hb.cell 1
  have C := Lib.hid (fail_any g s σ σ.line σ.col 6 b w h)
  clear h hu
  go_enter Tryz.func107, Tryz.ntmps107
  go_wp2_with fail
  refine U.out.mono ?_
  rintro e w1 ⟨rfl, rfl⟩
  go_wp2_with (go_at_call 137; refine C.out.mono ?_; rintro e w2 ⟨rfl, h2, k2⟩)
  have H2 := Lib.hid h2
  have K2 := Lib.hid k2
  clear h2 k2 C U
  go_wp2
  go_end0
  rw [E.out]
  exact ⟨rfl, H2.out, K2.out⟩

theorem take_any (g : Nat) (s : ByteArray) (σ : Rd) (i : Nat) (r : Int) (b : Nat) (w : World) (h : Lies w b g s σ) (hF : Fine σ i) (hi : i < s.size) (hz : s.size ≤ 300000) (hr : 0 ≤ r ∧ r ≤ 2000000) :
    Calls Tryz.prog 107 #[.pointer (some ⟨g, 0, none⟩), .int .i64 i, .int .i32 r] w fun e w' => e = .returned (.tuple #[]) ∧ Lies w' b g s (σ.take s i r) ∧ Keep b g w w'  := by
  have hu := use_range s σ.remark i r
  obtain ⟨u, hu'⟩ : ∃ u, u = useOf s σ.remark i r := ⟨_, rfl⟩
  rw [← hu'] at hu
  have h8 : u = 0 ∨ u = 1 ∨ u = 2 ∨ u = 3 ∨ u = 4 ∨ u = 5 ∨ u = 6 ∨ u = 7 := by omega
  rcases h8 with h8 | h8 | h8 | h8 | h8 | h8 | h8 | h8 <;> rw [h8] at hu'
  · exact take_none g s σ i r b w h hF hi hz hu'.symm
  · exact take_end g s σ i r b w h hF hi hz hu'.symm
  · exact take_rem g s σ i r b w h hF hi hz hu'.symm
  · exact take_blank g s σ i r b w h hF hi hz hu'.symm
  · exact take_sign g s σ i r b w h hF hi hz hu'.symm
  · exact take_minus g s σ i r b w h hF hi hz hu'.symm
  · by_cases hk : σ.w.k = 2
    · exact take_stuck g s σ i r b w h hF hi hz hu'.symm hk
    · exact take_letter g s σ i r b w h hF hi hz hu'.symm hr hk
  · exact take_digit g s σ i r b w h hF hi hz hu'.symm hr
end Go.Proofs.YtkfplffcegbdfaaGreatDoor
