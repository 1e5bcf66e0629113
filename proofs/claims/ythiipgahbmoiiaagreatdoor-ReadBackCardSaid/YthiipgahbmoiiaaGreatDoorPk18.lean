/-
  A name or a number goes on in memory as the plain function says. No condition beyond those that each theorem states.
  The reader takes a rune in memory as the plain function says. No condition beyond those that each theorem states.
  What holds of the reader's state is kept by each rune that is no fault. No condition beyond those that each theorem states.
-/
import Derived.Test.YthiipgahbmoiiaaGreatDoorPk17
import Derived.Deep.RegionWith
import Derived.Test.YthiipgahbmoiiaaGreatDoorPk10
namespace Go.Proofs.YthiipgahbmoiiaaGreatDoor
open Go.RowKit

set_option maxHeartbeats 1000000 in
set_option maxRecDepth 100000 in
theorem spell_any (g : Nat) (s : ByteArray) (σ : Rd) (k : Int) (i : Nat) (r : Int) (b : Nat) (w : World) (h : Lies w b g s σ) (hF : Fine σ i) (hi : i < s.size) (hz : s.size ≤ 300000) (hr : 0 ≤ r ∧ r ≤ 2000000)
    (hk : σ.w.k = 1 ∨ (48 ≤ r ∧ r ≤ 57) ∨ (σ.w.k ≠ 2 ∧ k = 1)) :
    Calls Tryz.prog 158 #[.pointer (some ⟨g, 0, none⟩), .int .i64 k, .int .i64 i, .int .i32 r] w fun e w' => e = .returned (.tuple #[]) ∧ Lies w' b g s (σ.spell s k i r) ∧ Keep b g w w' := by
  have c2 : w.cell? ⟨g, 2, none⟩ = some (.int .i64 σ.w.k) := by obtain ⟨a, c, hb, _⟩ := h; exact hb.cell 2
  have B := Lib.hid (begin_any g s σ k i b w h (by have := hF.words; omega) hF.frm0 hF.frm1 (by omega))
  obtain ⟨τ, hτ⟩ : ∃ τ, τ = σ.opened s k i := ⟨_, rfl⟩
  have E : Hid (σ.spell s k i r = if τ.fits r then τ.grown r else (τ.grown r).fail τ.w.l τ.w.c 3) := by
    show _ = _
    rw [hτ]; rfl
  have hG : ∀ w1, Lies w1 b g s τ → Calls Tryz.prog 190 #[.pointer (some ⟨g, 2, none⟩), .int .i32 r] w1 fun e w' => e = .returned (.bool (τ.fits r)) ∧ Lies w' b g s (τ.grown r) ∧ Keep b g w1 w' := by
    intro w1 h1
    refine grows_any g s τ r b w1 h1 ?_ hr ?_ ?_
    · rw [hτ]
      unfold Rd.opened
      split
      · rcases hk with hk | hk | ⟨hk, _⟩
        · exact .inl hk
        · exact .inr hk
        · omega
      · rename_i hn
        rcases hk with hk | hk | ⟨_, hk⟩
        · exact absurd (.inl hk) hn
        · exact .inr hk
        · exact .inl hk
    · rw [hτ]
      unfold Rd.opened
      split
      · exact ⟨hF.many0, by have := hF.many1; omega⟩
      · simp [Rd.begin_]
    · rw [hτ]
      unfold Rd.opened
      split
      · exact ⟨hF.n0, hF.n1⟩
      · simp [Rd.begin_]
  have HG := Lib.hid hG
  clear hG
  by_cases ho : σ.w.k = 1 ∨ σ.w.k = 2
  · have hτ' : τ = σ := by rw [hτ]; exact if_pos ho
    have H1 : Hid (Lies w b g s τ) := by rw [hτ']; exact h
    have K1 : Hid (Keep b g w w) := Keep.refl _ _ _
    clear hτ hτ' h B hk hF
    rcases ho with ho | ho
    · have q : (σ.w.k != 1) = false := by simp [ho]
      clear ho
      go_enter Tryz.func158, Tryz.ntmps158
      go_wp2_with fail
      refine (HG.out _ H1.out).mono ?_
      rintro e w2 ⟨rfl, h2, k2⟩
      have gl : (τ.grown r).w.l = τ.w.l := by unfold Rd.grown; split <;> rfl
      have gc : (τ.grown r).w.c = τ.w.c := by unfold Rd.grown; split <;> rfl
      have m5 : w2.cell? ⟨g, 5, none⟩ = some (.int .i64 τ.w.l) := by rw [← gl]; obtain ⟨a, c, hb, _⟩ := h2; exact hb.cell 5
      have m6 : w2.cell? ⟨g, 6, none⟩ = some (.int .i64 τ.w.c) := by rw [← gc]; obtain ⟨a, c, hb, _⟩ := h2; exact hb.cell 6
      have H2 := Lib.hid h2
      have K2 := Lib.hid k2
      clear h2 k2 gl gc HG H1
      generalize τ.grown r = ρ at *
      cases hft : τ.fits r
      · have E2 : Hid (σ.spell s k i r = ρ.fail τ.w.l τ.w.c 3) := by show _ = _; rw [E.out, hft]; rfl
        clear E
        go_wp2_with fail
        go_region_with (go_at_call 159; refine (fail_any g s ρ τ.w.l τ.w.c 3 b w2.drew H2.out).mono ?_; rintro e w3 ⟨rfl, h3, k3⟩)
        all_goals
          go_wp2
          go_end0
          rw [E2.out]
          exact ⟨rfl, h3, K1.out.trans (K2.out.trans ((Keep.drew _ _ _).trans k3))⟩
      · have E2 : Hid (σ.spell s k i r = ρ) := by show _ = _; rw [E.out, hft]; rfl
        clear E
        go_wp2
        go_end0
        rw [E2.out]
        exact ⟨rfl, H2.out, K1.out.trans K2.out⟩
    · have q : (σ.w.k != 1) = true := by simp [ho]
      have q2 : (σ.w.k != 2) = false := by simp [ho]
      clear ho
      go_enter Tryz.func158, Tryz.ntmps158
      go_wp2_with fail
      refine (HG.out _ H1.out).mono ?_
      rintro e w2 ⟨rfl, h2, k2⟩
      have gl : (τ.grown r).w.l = τ.w.l := by unfold Rd.grown; split <;> rfl
      have gc : (τ.grown r).w.c = τ.w.c := by unfold Rd.grown; split <;> rfl
      have m5 : w2.cell? ⟨g, 5, none⟩ = some (.int .i64 τ.w.l) := by rw [← gl]; obtain ⟨a, c, hb, _⟩ := h2; exact hb.cell 5
      have m6 : w2.cell? ⟨g, 6, none⟩ = some (.int .i64 τ.w.c) := by rw [← gc]; obtain ⟨a, c, hb, _⟩ := h2; exact hb.cell 6
      have H2 := Lib.hid h2
      have K2 := Lib.hid k2
      clear h2 k2 gl gc HG H1
      generalize τ.grown r = ρ at *
      cases hft : τ.fits r
      · have E2 : Hid (σ.spell s k i r = ρ.fail τ.w.l τ.w.c 3) := by show _ = _; rw [E.out, hft]; rfl
        clear E
        go_wp2_with fail
        go_region_with (go_at_call 159; refine (fail_any g s ρ τ.w.l τ.w.c 3 b w2.drew H2.out).mono ?_; rintro e w3 ⟨rfl, h3, k3⟩)
        all_goals
          go_wp2
          go_end0
          rw [E2.out]
          exact ⟨rfl, h3, K1.out.trans (K2.out.trans ((Keep.drew _ _ _).trans k3))⟩
      · have E2 : Hid (σ.spell s k i r = ρ) := by show _ = _; rw [E.out, hft]; rfl
        clear E
        go_wp2
        go_end0
        rw [E2.out]
        exact ⟨rfl, H2.out, K1.out.trans K2.out⟩
  · have q : (σ.w.k != 1) = true := by simp; exact fun e => ho (.inl e)
    have q2 : (σ.w.k != 2) = true := by simp; exact fun e => ho (.inr e)
    have hτ' : σ.begin_ s k i = τ := by rw [hτ]; exact (if_neg ho).symm
    rw [hτ'] at B
    clear hτ hτ' h hk hF ho
    go_enter Tryz.func158, Tryz.ntmps158
    go_wp2_with fail
    refine B.out.mono ?_
    rintro e w1 ⟨rfl, h1, k1⟩
    have H1 := Lib.hid h1
    have K1 := Lib.hid k1
    clear h1 k1 B c2
    go_wp2_with fail
    refine (HG.out _ H1.out).mono ?_
    rintro e w2 ⟨rfl, h2, k2⟩
    have gl : (τ.grown r).w.l = τ.w.l := by unfold Rd.grown; split <;> rfl
    have gc : (τ.grown r).w.c = τ.w.c := by unfold Rd.grown; split <;> rfl
    have m5 : w2.cell? ⟨g, 5, none⟩ = some (.int .i64 τ.w.l) := by rw [← gl]; obtain ⟨a, c, hb, _⟩ := h2; exact hb.cell 5
    have m6 : w2.cell? ⟨g, 6, none⟩ = some (.int .i64 τ.w.c) := by rw [← gc]; obtain ⟨a, c, hb, _⟩ := h2; exact hb.cell 6
    have H2 := Lib.hid h2
    have K2 := Lib.hid k2
    clear h2 k2 gl gc HG H1
    generalize τ.grown r = ρ at *
    cases hft : τ.fits r
    · have E2 : Hid (σ.spell s k i r = ρ.fail τ.w.l τ.w.c 3) := by show _ = _; rw [E.out, hft]; rfl
      clear E
      go_wp2_with fail
      go_region_with (go_at_call 159; refine (fail_any g s ρ τ.w.l τ.w.c 3 b w2.drew H2.out).mono ?_; rintro e w3 ⟨rfl, h3, k3⟩)
      all_goals
        go_wp2
        go_end0
        rw [E2.out]
        exact ⟨rfl, h3, K1.out.trans (K2.out.trans ((Keep.drew _ _ _).trans k3))⟩
    · have E2 : Hid (σ.spell s k i r = ρ) := by show _ = _; rw [E.out, hft]; rfl
      clear E
      go_wp2
      go_end0
      rw [E2.out]
      exact ⟨rfl, H2.out, K1.out.trans K2.out⟩

end Go.Proofs.YthiipgahbmoiiaaGreatDoor
namespace Go.Proofs.YthiipgahbmoiiaaGreatDoor
open Go.RowKit

theorem use_range (s : ByteArray) (m : Bool) (i : Nat) (r : Int) : 0 ≤ useOf s m i r ∧ useOf s m i r ≤ 7 := by
  unfold useOf
  repeat' split
  all_goals omega
theorem use_seven {s : ByteArray} {m : Bool} {i : Nat} {r : Int} (h : useOf s m i r = 7) : 48 ≤ r ∧ r ≤ 57 := by
  have hd : digitB r = true := by
    revert h
    unfold useOf
    repeat' split
    all_goals first | (intro _; assumption) | (intro h; omega)
  simpa [digitB] using hd
set_option maxHeartbeats 1000000 in
set_option maxRecDepth 100000 in
theorem take_end (g : Nat) (s : ByteArray) (σ : Rd) (i : Nat) (r : Int) (b : Nat) (w : World) (h : Lies w b g s σ) (hF : Fine σ i) (hi : i < s.size) (hz : s.size ≤ 300000) (hu : useOf s σ.remark i r = 1) :
    Calls Tryz.prog 116 #[.pointer (some ⟨g, 0, none⟩), .int .i64 i, .int .i32 r] w fun e w' => e = .returned (.tuple #[]) ∧ Lies w' b g s (σ.take s i r) ∧ Keep b g w w'  := by
  have U := Lib.hid (use_any g s σ i r b w h hi (by omega))
  rw [hu] at U
  have E : Hid (σ.take s i r = { σ.begin_ s 4 i with remark := false }) := by show _ = _; simp [Rd.take, hu]
  have C := Lib.hid (begin_any g s σ 4 i b w h (by have := hF.words; omega) hF.frm0 hF.frm1 (by omega))
  clear h hF hu
  go_enter Tryz.func116, Tryz.ntmps116
  go_wp2_with fail
  refine U.out.mono ?_
  rintro e w1 ⟨rfl, rfl⟩
  go_wp2_with fail
  refine C.out.mono ?_
  rintro e w2 ⟨rfl, h2, k2⟩
  generalize σ.begin_ s 4 i = τ at *
  have m12 : w2.cell? ⟨g, 12, none⟩ = some (.bool τ.remark) := by obtain ⟨a, c, hb, _⟩ := h2; exact hb.cell 12
  have n12 : w2.frozen? ⟨g, 12, none⟩ = false := by obtain ⟨a, c, hb, _⟩ := h2; exact hb.free 12
  have H2 := Lib.hid h2
  have K2 := Lib.hid k2
  clear h2 k2 C U
  go_wp2
  go_end0
  rw [E.out]
  exact ⟨rfl, H2.out.put _ 12 _ rfl (fun _ => rfl), K2.out.trans (Keep.put _ _ _ _ _)⟩

set_option maxHeartbeats 1000000 in
set_option maxRecDepth 100000 in
theorem take_rem (g : Nat) (s : ByteArray) (σ : Rd) (i : Nat) (r : Int) (b : Nat) (w : World) (h : Lies w b g s σ) (hF : Fine σ i) (hi : i < s.size) (hz : s.size ≤ 300000) (hu : useOf s σ.remark i r = 2) :
    Calls Tryz.prog 116 #[.pointer (some ⟨g, 0, none⟩), .int .i64 i, .int .i32 r] w fun e w' => e = .returned (.tuple #[]) ∧ Lies w' b g s (σ.take s i r) ∧ Keep b g w w'  := by
  have U := Lib.hid (use_any g s σ i r b w h hi (by omega))
  rw [hu] at U
  have E : Hid (σ.take s i r = ({ σ with remark := true } : Rd).shut s i) := by show _ = _; simp [Rd.take, hu]
  have m12 : w.cell? ⟨g, 12, none⟩ = some (.bool σ.remark) := by obtain ⟨a, c, hb, _⟩ := h; exact hb.cell 12
  have n12 : w.frozen? ⟨g, 12, none⟩ = false := by obtain ⟨a, c, hb, _⟩ := h; exact hb.free 12
  have C := Lib.hid (shut_any g s { σ with remark := true } i b (w.setCell ⟨g, 12, none⟩ (.bool true)) (h.put _ 12 _ rfl (fun _ => rfl)) (by have := hF.words; simp only; omega) hF.frm0 hF.frm1 (by omega))
  clear h hF hu
  go_enter Tryz.func116, Tryz.ntmps116
  go_wp2_with fail
  refine U.out.mono ?_
  rintro e w1 ⟨rfl, rfl⟩
  go_wp2_with (go_at_call 118; refine C.out.mono ?_; rintro e w2 ⟨rfl, h2, k2⟩)
  have H2 := Lib.hid h2
  have K2 := Lib.hid k2
  clear h2 k2 C U
  go_wp2
  go_end0
  rw [E.out]
  exact ⟨rfl, H2.out, (Keep.put _ _ _ 12 _).trans K2.out⟩

set_option maxHeartbeats 1000000 in
set_option maxRecDepth 100000 in
theorem take_blank (g : Nat) (s : ByteArray) (σ : Rd) (i : Nat) (r : Int) (b : Nat) (w : World) (h : Lies w b g s σ) (hF : Fine σ i) (hi : i < s.size) (hz : s.size ≤ 300000) (hu : useOf s σ.remark i r = 3) :
    Calls Tryz.prog 116 #[.pointer (some ⟨g, 0, none⟩), .int .i64 i, .int .i32 r] w fun e w' => e = .returned (.tuple #[]) ∧ Lies w' b g s (σ.take s i r) ∧ Keep b g w w'  := by
  have U := Lib.hid (use_any g s σ i r b w h hi (by omega))
  rw [hu] at U
  have E : Hid (σ.take s i r = σ.shut s i) := by show _ = _; simp [Rd.take, hu]
  have C := Lib.hid (shut_any g s σ i b w h (by have := hF.words; omega) hF.frm0 hF.frm1 (by omega))
  clear h hF hu
  go_enter Tryz.func116, Tryz.ntmps116
  go_wp2_with fail
  refine U.out.mono ?_
  rintro e w1 ⟨rfl, rfl⟩
  go_wp2_with (go_at_call 118; refine C.out.mono ?_; rintro e w2 ⟨rfl, h2, k2⟩)
  have H2 := Lib.hid h2
  have K2 := Lib.hid k2
  clear h2 k2 C U
  go_wp2
  go_end0
  rw [E.out]
  exact ⟨rfl, H2.out, K2.out⟩

set_option maxHeartbeats 1000000 in
set_option maxRecDepth 100000 in
theorem take_sign (g : Nat) (s : ByteArray) (σ : Rd) (i : Nat) (r : Int) (b : Nat) (w : World) (h : Lies w b g s σ) (hF : Fine σ i) (hi : i < s.size) (hz : s.size ≤ 300000) (hu : useOf s σ.remark i r = 4) :
    Calls Tryz.prog 116 #[.pointer (some ⟨g, 0, none⟩), .int .i64 i, .int .i32 r] w fun e w' => e = .returned (.tuple #[]) ∧ Lies w' b g s (σ.take s i r) ∧ Keep b g w w'  := by
  have U := Lib.hid (use_any g s σ i r b w h hi (by omega))
  rw [hu] at U
  have E : Hid (σ.take s i r = σ.begin_ s 3 i) := by show _ = _; simp [Rd.take, hu]
  have C := Lib.hid (begin_any g s σ 3 i b w h (by have := hF.words; omega) hF.frm0 hF.frm1 (by omega))
  clear h hF hu
  go_enter Tryz.func116, Tryz.ntmps116
  go_wp2_with fail
  refine U.out.mono ?_
  rintro e w1 ⟨rfl, rfl⟩
  go_wp2_with (go_at_call 157; refine C.out.mono ?_; rintro e w2 ⟨rfl, h2, k2⟩)
  have H2 := Lib.hid h2
  have K2 := Lib.hid k2
  clear h2 k2 C U
  go_wp2
  go_end0
  rw [E.out]
  exact ⟨rfl, H2.out, K2.out⟩

set_option maxHeartbeats 1000000 in
set_option maxRecDepth 100000 in
theorem take_minus (g : Nat) (s : ByteArray) (σ : Rd) (i : Nat) (r : Int) (b : Nat) (w : World) (h : Lies w b g s σ) (hF : Fine σ i) (hi : i < s.size) (hz : s.size ≤ 300000) (hu : useOf s σ.remark i r = 5) :
    Calls Tryz.prog 116 #[.pointer (some ⟨g, 0, none⟩), .int .i64 i, .int .i32 r] w fun e w' => e = .returned (.tuple #[]) ∧ Lies w' b g s (σ.take s i r) ∧ Keep b g w w'  := by
  have U := Lib.hid (use_any g s σ i r b w h hi (by omega))
  rw [hu] at U
  have E : Hid (σ.take s i r = { σ.begin_ s 2 i with below := true }) := by show _ = _; simp [Rd.take, hu]
  have C := Lib.hid (begin_any g s σ 2 i b w h (by have := hF.words; omega) hF.frm0 hF.frm1 (by omega))
  clear h hF hu
  go_enter Tryz.func116, Tryz.ntmps116
  go_wp2_with fail
  refine U.out.mono ?_
  rintro e w1 ⟨rfl, rfl⟩
  go_wp2_with fail
  refine C.out.mono ?_
  rintro e w2 ⟨rfl, h2, k2⟩
  generalize σ.begin_ s 2 i = τ at *
  have m9 : w2.cell? ⟨g, 9, none⟩ = some (.bool τ.below) := by obtain ⟨a, c, hb, _⟩ := h2; exact hb.cell 9
  have n9 : w2.frozen? ⟨g, 9, none⟩ = false := by obtain ⟨a, c, hb, _⟩ := h2; exact hb.free 9
  have H2 := Lib.hid h2
  have K2 := Lib.hid k2
  clear h2 k2 C U
  go_wp2
  go_end0
  rw [E.out]
  exact ⟨rfl, H2.out.put _ 9 _ rfl (fun _ => rfl), K2.out.trans (Keep.put _ _ _ _ _)⟩

set_option maxHeartbeats 1000000 in
set_option maxRecDepth 100000 in
theorem take_digit (g : Nat) (s : ByteArray) (σ : Rd) (i : Nat) (r : Int) (b : Nat) (w : World) (h : Lies w b g s σ) (hF : Fine σ i) (hi : i < s.size) (hz : s.size ≤ 300000) (hu : useOf s σ.remark i r = 7) (hr : 0 ≤ r ∧ r ≤ 2000000) :
    Calls Tryz.prog 116 #[.pointer (some ⟨g, 0, none⟩), .int .i64 i, .int .i32 r] w fun e w' => e = .returned (.tuple #[]) ∧ Lies w' b g s (σ.take s i r) ∧ Keep b g w w'  := by
  have U := Lib.hid (use_any g s σ i r b w h hi (by omega))
  rw [hu] at U
  have E : Hid (σ.take s i r = σ.spell s 2 i r) := by show _ = _; simp [Rd.take, hu]
  have C := Lib.hid (spell_any g s σ 2 i r b w h hF hi hz hr (.inr (.inl (use_seven hu))))
  clear h hF hu
  go_enter Tryz.func116, Tryz.ntmps116
  go_wp2_with fail
  refine U.out.mono ?_
  rintro e w1 ⟨rfl, rfl⟩
  go_wp2_with (go_at_call 158; refine C.out.mono ?_; rintro e w2 ⟨rfl, h2, k2⟩)
  have H2 := Lib.hid h2
  have K2 := Lib.hid k2
  clear h2 k2 C U
  go_wp2
  go_end0
  rw [E.out]
  exact ⟨rfl, H2.out, K2.out⟩

set_option maxHeartbeats 1000000 in
set_option maxRecDepth 100000 in
theorem take_letter (g : Nat) (s : ByteArray) (σ : Rd) (i : Nat) (r : Int) (b : Nat) (w : World) (h : Lies w b g s σ) (hF : Fine σ i) (hi : i < s.size) (hz : s.size ≤ 300000) (hu : useOf s σ.remark i r = 6) (hr : 0 ≤ r ∧ r ≤ 2000000) (hk : σ.w.k ≠ 2) :
    Calls Tryz.prog 116 #[.pointer (some ⟨g, 0, none⟩), .int .i64 i, .int .i32 r] w fun e w' => e = .returned (.tuple #[]) ∧ Lies w' b g s (σ.take s i r) ∧ Keep b g w w'  := by
  have U := Lib.hid (use_any g s σ i r b w h hi (by omega))
  rw [hu] at U
  have E : Hid (σ.take s i r = σ.spell s 1 i r) := by show _ = _; simp [Rd.take, hu, hk]
  have C := Lib.hid (spell_any g s σ 1 i r b w h hF hi hz hr (.inr (.inr ⟨hk, rfl⟩)))
  have m2 : w.cell? ⟨g, 2, none⟩ = some (.int .i64 σ.w.k) := by obtain ⟨a, c, hb, _⟩ := h; exact hb.cell 2
  have q : (σ.w.k != 2) = true := by simp [hk]
  clear h hF hu hk
  go_enter Tryz.func116, Tryz.ntmps116
  go_wp2_with fail
  refine U.out.mono ?_
  rintro e w1 ⟨rfl, rfl⟩
  go_wp2_with (go_at_call 158; refine C.out.mono ?_; rintro e w2 ⟨rfl, h2, k2⟩)
  have H2 := Lib.hid h2
  have K2 := Lib.hid k2
  clear h2 k2 C U
  go_wp2
  go_end0
  rw [E.out]
  exact ⟨rfl, H2.out, K2.out⟩

set_option maxHeartbeats 1000000 in
set_option maxRecDepth 100000 in
theorem take_stuck (g : Nat) (s : ByteArray) (σ : Rd) (i : Nat) (r : Int) (b : Nat) (w : World) (h : Lies w b g s σ) (_hF : Fine σ i) (hi : i < s.size) (hz : s.size ≤ 300000) (hu : useOf s σ.remark i r = 6) (hk : σ.w.k = 2) :
    Calls Tryz.prog 116 #[.pointer (some ⟨g, 0, none⟩), .int .i64 i, .int .i32 r] w fun e w' => e = .returned (.tuple #[]) ∧ Lies w' b g s (σ.take s i r) ∧ Keep b g w w'  := by
  have U := Lib.hid (use_any g s σ i r b w h hi (by omega))
  rw [hu] at U
  have E : Hid (σ.take s i r = σ.fail σ.line σ.col 6) := by show _ = _; simp [Rd.take, hu, hk]
  have m2 : w.cell? ⟨g, 2, none⟩ = some (.int .i64 σ.w.k) := by obtain ⟨a, c, hb, _⟩ := h; exact hb.cell 2
  have q : (σ.w.k != 2) = false := by simp [hk]
  clear hk
  have m0 : w.cell? ⟨g, 0, none⟩ = some (.int .i64 σ.line) := by obtain ⟨a, c, hb, _⟩ := h; exact hb.cell 0
  have m1 : w.cell? ⟨g, 1, none⟩ = some (.int .i64 σ.col) := by obtain ⟨a, c, hb, _⟩ := h; exact hb.cell 1
  have C := Lib.hid (fail_any g s σ σ.line σ.col 6 b w h)
  clear h hu
  go_enter Tryz.func116, Tryz.ntmps116
  go_wp2_with fail
  refine U.out.mono ?_
  rintro e w1 ⟨rfl, rfl⟩
  go_wp2_with (go_at_call 159; refine C.out.mono ?_; rintro e w2 ⟨rfl, h2, k2⟩)
  have H2 := Lib.hid h2
  have K2 := Lib.hid k2
  clear h2 k2 C U
  go_wp2
  go_end0
  rw [E.out]
  exact ⟨rfl, H2.out, K2.out⟩

set_option maxHeartbeats 1000000 in
set_option maxRecDepth 100000 in
theorem take_none (g : Nat) (s : ByteArray) (σ : Rd) (i : Nat) (r : Int) (b : Nat) (w : World) (h : Lies w b g s σ) (_hF : Fine σ i) (hi : i < s.size) (hz : s.size ≤ 300000) (hu : useOf s σ.remark i r = 0) :
    Calls Tryz.prog 116 #[.pointer (some ⟨g, 0, none⟩), .int .i64 i, .int .i32 r] w fun e w' => e = .returned (.tuple #[]) ∧ Lies w' b g s (σ.take s i r) ∧ Keep b g w w'  := by
  have U := Lib.hid (use_any g s σ i r b w h hi (by omega))
  rw [hu] at U
  have E : Hid (σ.take s i r = σ.fail σ.line σ.col 6) := by show _ = _; simp [Rd.take, hu]
  have m0 : w.cell? ⟨g, 0, none⟩ = some (.int .i64 σ.line) := by obtain ⟨a, c, hb, _⟩ := h; exact hb.cell 0
  have m1 : w.cell? ⟨g, 1, none⟩ = some (.int .i64 σ.col) := by obtain ⟨a, c, hb, _⟩ := h; exact hb.cell 1
  have C := Lib.hid (fail_any g s σ σ.line σ.col 6 b w h)
  clear h hu
  go_enter Tryz.func116, Tryz.ntmps116
  go_wp2_with fail
  refine U.out.mono ?_
  rintro e w1 ⟨rfl, rfl⟩
  go_wp2_with (go_at_call 159; refine C.out.mono ?_; rintro e w2 ⟨rfl, h2, k2⟩)
  have H2 := Lib.hid h2
  have K2 := Lib.hid k2
  clear h2 k2 C U
  go_wp2
  go_end0
  rw [E.out]
  exact ⟨rfl, H2.out, K2.out⟩

theorem take_any (g : Nat) (s : ByteArray) (σ : Rd) (i : Nat) (r : Int) (b : Nat) (w : World) (h : Lies w b g s σ) (hF : Fine σ i) (hi : i < s.size) (hz : s.size ≤ 300000) (hr : 0 ≤ r ∧ r ≤ 2000000) :
    Calls Tryz.prog 116 #[.pointer (some ⟨g, 0, none⟩), .int .i64 i, .int .i32 r] w fun e w' => e = .returned (.tuple #[]) ∧ Lies w' b g s (σ.take s i r) ∧ Keep b g w w'  := by
  have hu := use_range s σ.remark i r
  obtain ⟨u, hu'⟩ : ∃ u, u = useOf s σ.remark i r := ⟨_, rfl⟩
  rw [← hu'] at hu
  have h8 : u = 0 ∨ u = 1 ∨ u = 2 ∨ u = 3 ∨ u = 4 ∨ u = 5 ∨ u = 6 ∨ u = 7 := by omega
  rcases h8 with h8 | h8 | h8 | h8 | h8 | h8 | h8 | h8 <;> rw [h8] at hu'
  · exact take_none g s σ i r b w h hF hi hz hu'.symm
  · exact take_end g s σ i r b w h hF hi hz hu'.symm
  · exact take_rem g s σ i r b w h hF hi hz hu'.symm
  · exact take_blank g s σ i r b w h hF hi hz hu'.symm
  · exact take_sign g s σ i r b w h hF hi hz hu'.symm
  · exact take_minus g s σ i r b w h hF hi hz hu'.symm
  · by_cases hk : σ.w.k = 2
    · exact take_stuck g s σ i r b w h hF hi hz hu'.symm hk
    · exact take_letter g s σ i r b w h hF hi hz hu'.symm hr hk
  · exact take_digit g s σ i r b w h hF hi hz hu'.symm hr
end Go.Proofs.YthiipgahbmoiiaaGreatDoor
namespace Go.Proofs.YthiipgahbmoiiaaGreatDoor
theorem shut_f (s : ByteArray) (σ : Rd) (i : Int) : (σ.shut s i).f = σ.f := by unfold Rd.shut; split <;> rfl
theorem shut_line (s : ByteArray) (σ : Rd) (i : Int) : (σ.shut s i).line = σ.line := by unfold Rd.shut; split <;> rfl
theorem shut_col (s : ByteArray) (σ : Rd) (i : Int) : (σ.shut s i).col = σ.col := by unfold Rd.shut; split <;> rfl
theorem shut_words (s : ByteArray) (σ : Rd) (i : Int) : (σ.shut s i).ws.length ≤ σ.ws.length + 1 := by unfold Rd.shut; split <;> simp
/-- Fine, but for the step over the rune. -/
structure Near (σ : Rd) (i : Nat) (l c : Int) : Prop where
  words : σ.ws.length ≤ i + 1
  frm0 : 0 ≤ σ.frm
  frm1 : σ.frm ≤ i
  many0 : 0 ≤ σ.many
  many1 : σ.many ≤ i + 1
  n0 : -1099511627776 ≤ σ.w.n
  n1 : σ.w.n ≤ 1099511627776
  line : σ.line = l
  col : σ.col = c

theorem Near.shut {σ : Rd} {i : Nat} (h : Fine σ i) (s : ByteArray) : Near (σ.shut s i) i σ.line σ.col := by
  unfold Rd.shut
  split
  · exact ⟨by have := h.words; omega, h.frm0, h.frm1, h.many0, by have := h.many1; omega, h.n0, h.n1, rfl, rfl⟩
  · exact ⟨by have := h.words; simp; omega, Int.le_refl _, by simp, Int.le_refl _, by simp; omega, by simp [noWd], by simp [noWd], rfl, rfl⟩
theorem Near.begin_ {σ : Rd} {i : Nat} (h : Fine σ i) (s : ByteArray) (k : Int) : Near (σ.begin_ s k i) i σ.line σ.col := by
  refine ⟨?_, by simp [Rd.begin_], by simp [Rd.begin_], by simp [Rd.begin_], by simp [Rd.begin_]; omega, by simp [Rd.begin_], by simp [Rd.begin_], shut_line _ _ _, shut_col _ _ _⟩
  have := shut_words s σ i
  have := h.words
  simp only [Rd.begin_]
  omega
theorem spell_ok {σ : Rd} {s : ByteArray} {k i r : Int} (h : (σ.spell s k i r).f = 0) : (σ.opened s k i).fits r = true ∧ σ.spell s k i r = (σ.opened s k i).grown r := by
  unfold Rd.spell at h ⊢
  simp only at h ⊢
  split at h
  · rename_i hf
    exact ⟨hf, if_pos hf⟩
  · simp [Rd.fail] at h
theorem Near.spell {σ : Rd} {i : Nat} (h : Fine σ i) (s : ByteArray) (k r : Int) (hf : (σ.spell s k i r).f = 0) : Near (σ.spell s k i r) i σ.line σ.col := by
  obtain ⟨h1, h2⟩ := spell_ok hf
  rw [h2]
  have hn : Near (σ.opened s k i) i σ.line σ.col ∧ (σ.opened s k i).many ≤ i := by
    unfold Rd.opened
    split
    · exact ⟨⟨by have := h.words; omega, h.frm0, h.frm1, h.many0, by have := h.many1; omega, h.n0, h.n1, rfl, rfl⟩, h.many1⟩
    · exact ⟨Near.begin_ h s k, by simp [Rd.begin_]⟩
  generalize σ.opened s k i = τ at *
  obtain ⟨hn, hm⟩ := hn
  unfold Rd.grown
  split
  · exact ⟨hn.words, hn.frm0, hn.frm1, by have := hn.many0; simp only; omega, by simp only; omega, hn.n0, hn.n1, hn.line, hn.col⟩
  · rename_i hk
    rw [Rd.fits, if_neg hk, boundB] at h1
    have h3 := of_decide_eq_true h1
    exact ⟨hn.words, hn.frm0, hn.frm1, hn.many0, hn.many1, h3.1, h3.2, hn.line, hn.col⟩
theorem Near.take {σ : Rd} {i : Nat} (h : Fine σ i) (s : ByteArray) (r : Int) (hf : (σ.take s i r).f = 0) : Near (σ.take s i r) i σ.line σ.col := by
  unfold Rd.take at hf ⊢
  simp only at hf ⊢
  split at hf
  · rename_i hu
    rw [if_pos hu]
    have := Near.begin_ h s 4
    exact ⟨this.words, this.frm0, this.frm1, this.many0, this.many1, this.n0, this.n1, this.line, this.col⟩
  rename_i hu
  rw [if_neg hu]
  clear hu
  split at hf
  · rename_i hu
    rw [if_pos hu]
    exact Near.shut (σ := { σ with remark := true }) ⟨h.words, h.frm0, h.frm1, h.many0, h.many1, h.n0, h.n1, h.line0, h.line1, h.col0, h.col1⟩ s
  rename_i hu
  rw [if_neg hu]
  clear hu
  split at hf
  · rename_i hu
    rw [if_pos hu]
    exact Near.shut h s
  rename_i hu
  rw [if_neg hu]
  clear hu
  split at hf
  · rename_i hu
    rw [if_pos hu]
    exact Near.begin_ h s 3
  rename_i hu
  rw [if_neg hu]
  clear hu
  split at hf
  · rename_i hu
    rw [if_pos hu]
    have := Near.begin_ h s 2
    exact ⟨this.words, this.frm0, this.frm1, this.many0, this.many1, this.n0, this.n1, this.line, this.col⟩
  rename_i hu
  rw [if_neg hu]
  clear hu
  split at hf
  · rename_i hu
    rw [if_pos hu]
    exact Near.spell h s 2 r hf
  rename_i hu
  rw [if_neg hu]
  clear hu
  split at hf
  · rename_i hu
    rw [if_pos hu]
    exact Near.spell h s 1 r hf
  · simp [Rd.fail] at hf
theorem Fine.next {σ : Rd} {i n : Nat} (h : Fine σ i) (s : ByteArray) (r : Int) (hf : (σ.take s i r).f = 0) (hn : 1 ≤ n) : Fine ((σ.take s i r).pass r) (i + n) := by
  have t := Near.take h s r hf
  have h1 := h.line0
  have h2 := h.line1
  have h3 := h.col0
  have h4 := h.col1
  have t1 := t.words
  have t2 := t.frm1
  have t3 := t.many1
  have t4 := t.line
  have t5 := t.col
  unfold Rd.pass
  split
  · exact ⟨by simp only; omega, t.frm0, by simp only; omega, t.many0, by simp only; omega, t.n0, t.n1, by simp only; omega, by simp only; omega, by simp, by simp only; omega⟩
  · exact ⟨by simp only; omega, t.frm0, by simp only; omega, t.many0, by simp only; omega, t.n0, t.n1, by simp only; omega, by simp only; omega, by simp only; omega, by simp only; omega⟩
theorem Fine.start : Fine startRd 0 := ⟨by simp [startRd], by simp [startRd], by simp [startRd], by simp [startRd], by simp [startRd], by simp [startRd, noWd], by simp [startRd, noWd], by simp [startRd], by simp [startRd], by simp [startRd], by simp [startRd]⟩
theorem pass_f (σ : Rd) (r : Int) : (σ.pass r).f = σ.f := by unfold Rd.pass; split <;> rfl
theorem Rd.run_end (s : ByteArray) (n i : Nat) (σ : Rd) (h : ¬ i < s.size) : Rd.run s n i σ = σ := by
  cases n with
  | zero => rfl
  | succ n => simp [Rd.run, h]
end Go.Proofs.YthiipgahbmoiiaaGreatDoor
