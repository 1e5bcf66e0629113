/-
  A name or a number goes on in memory as the plain function says. No condition beyond those that each theorem states.
-/
import Derived.Test.YtkfplffcegbdfaaGreatDoorUse
import Derived.Deep.RegionWith
namespace Go.Proofs.YtkfplffcegbdfaaGreatDoor
open Go.RowKit

set_option maxHeartbeats 1000000 in
set_option maxRecDepth 100000 in
theorem spell_any (g : Nat) (s : ByteArray) (σ : Rd) (k : Int) (i : Nat) (r : Int) (b : Nat) (w : World) (h : Lies w b g s σ) (hF : Fine σ i) (hi : i < s.size) (hz : s.size ≤ 300000) (hr : 0 ≤ r ∧ r ≤ 2000000)
    (hk : σ.w.k = 1 ∨ (48 ≤ r ∧ r ≤ 57) ∨ (σ.w.k ≠ 2 ∧ k = 1)) :
    Calls Tryz.prog 136 #[.pointer (some ⟨g, 0, none⟩), .int .i64 k, .int .i64 i, .int .i32 r] w fun e w' => e = .returned (.tuple #[]) ∧ Lies w' b g s (σ.spell s k i r) ∧ Keep b g w w' := by
  have c2 : w.cell? ⟨g, 2, none⟩ = some (.int .i64 σ.w.k) := by obtain ⟨a, c, hb, _⟩ := h; exact hb.cell 2
  have B := Lib.hid (begin_any g s σ k i b w h (by have := hF.words; omega) hF.frm0 hF.frm1 (by omega))
  obtain ⟨τ, hτ⟩ : ∃ τ, τ = σ.opened s k i := ⟨_, rfl⟩
  have E : Hid (σ.spell s k i r = if τ.fits r then τ.grown r else (τ.grown r).fail τ.w.l τ.w.c 3) := by
    show _ = _
    rw [hτ]; rfl
  have hG : ∀ w1, Lies w1 b g s τ → Calls Tryz.prog 154 #[.pointer (some ⟨g, 2, none⟩), .int .i32 r] w1 fun e w' => e = .returned (.bool (τ.fits r)) ∧ Lies w' b g s (τ.grown r) ∧ Keep b g w1 w' := by
    intro w1 h1
    refine grows_any g s τ r b w1 h1 ?_ hr ?_ ?_
    · rw [hτ]
      unfold Rd.opened
      split
      · rcases hk with hk | hk | ⟨hk, _⟩
        · exact .inl hk
        · exact .inr hk
        · omega
      · rename_i hn
        rcases hk with hk | hk | ⟨_, hk⟩
        · exact absurd (.inl hk) hn
        · exact .inr hk
        · exact .inl hk
    · rw [hτ]
      unfold Rd.opened
      split
      · exact ⟨hF.many0, by have := hF.many1; omega⟩
      · simp [Rd.begin_]
    · rw [hτ]
      unfold Rd.opened
      split
      · exact ⟨hF.n0, hF.n1⟩
      · simp [Rd.begin_]
  have HG := Lib.hid hG
  clear hG
  by_cases ho : σ.w.k = 1 ∨ σ.w.k = 2
  · have hτ' : τ = σ := by rw [hτ]; exact if_pos ho
    have H1 : Hid (Lies w b g s τ) := by rw [hτ']; exact h
    have K1 : Hid (Keep b g w w) := Keep.refl _ _ _
    clear hτ hτ' h B hk hF
    rcases ho with ho | ho
    · have q : (σ.w.k != 1) = false := by simp [ho]
      clear ho
      go_enter Tryz.func136, Tryz.ntmps136
      go_wp2_with fail
      refine (HG.out _ H1.out).mono ?_
      rintro e w2 ⟨rfl, h2, k2⟩
      have gl : (τ.grown r).w.l = τ.w.l := by unfold Rd.grown; split <;> rfl
      have gc : (τ.grown r).w.c = τ.w.c := by unfold Rd.grown; split <;> rfl
      have m5 : w2.cell? ⟨g, 5, none⟩ = some (.int .i64 τ.w.l) := by rw [← gl]; obtain ⟨a, c, hb, _⟩ := h2; exact hb.cell 5
      have m6 : w2.cell? ⟨g, 6, none⟩ = some (.int .i64 τ.w.c) := by rw [← gc]; obtain ⟨a, c, hb, _⟩ := h2; exact hb.cell 6
      have H2 := Lib.hid h2
      have K2 := Lib.hid k2
      clear h2 k2 gl gc HG H1
      generalize τ.grown r = ρ at *
      cases hft : τ.fits r
      · have E2 : Hid (σ.spell s k i r = ρ.fail τ.w.l τ.w.c 3) := by show _ = _; rw [E.out, hft]; rfl
        clear E
        go_wp2_with fail
        go_region_with (go_at_call 137; refine (fail_any g s ρ τ.w.l τ.w.c 3 b w2.drew H2.out).mono ?_; rintro e w3 ⟨rfl, h3, k3⟩)
        all_goals
          go_wp2
          go_end0
          rw [E2.out]
          exact ⟨rfl, h3, K1.out.trans (K2.out.trans ((Keep.drew _ _ _).trans k3))⟩
      · have E2 : Hid (σ.spell s k i r = ρ) := by show _ = _; rw [E.out, hft]; rfl
        clear E
        go_wp2
        go_end0
        rw [E2.out]
        exact ⟨rfl, H2.out, K1.out.trans K2.out⟩
    · have q : (σ.w.k != 1) = true := by simp [ho]
      have q2 : (σ.w.k != 2) = false := by simp [ho]
      clear ho
      go_enter Tryz.func136, Tryz.ntmps136
      go_wp2_with fail
      refine (HG.out _ H1.out).mono ?_
      rintro e w2 ⟨rfl, h2, k2⟩
      have gl : (τ.grown r).w.l = τ.w.l := by unfold Rd.grown; split <;> rfl
      have gc : (τ.grown r).w.c = τ.w.c := by unfold Rd.grown; split <;> rfl
      have m5 : w2.cell? ⟨g, 5, none⟩ = some (.int .i64 τ.w.l) := by rw [← gl]; obtain ⟨a, c, hb, _⟩ := h2; exact hb.cell 5
      have m6 : w2.cell? ⟨g, 6, none⟩ = some (.int .i64 τ.w.c) := by rw [← gc]; obtain ⟨a, c, hb, _⟩ := h2; exact hb.cell 6
      have H2 := Lib.hid h2
      have K2 := Lib.hid k2
      clear h2 k2 gl gc HG H1
      generalize τ.grown r = ρ at *
      cases hft : τ.fits r
      · have E2 : Hid (σ.spell s k i r = ρ.fail τ.w.l τ.w.c 3) := by show _ = _; rw [E.out, hft]; rfl
        clear E
        go_wp2_with fail
        go_region_with (go_at_call 137; refine (fail_any g s ρ τ.w.l τ.w.c 3 b w2.drew H2.out).mono ?_; rintro e w3 ⟨rfl, h3, k3⟩)
        all_goals
          go_wp2
          go_end0
          rw [E2.out]
          exact ⟨rfl, h3, K1.out.trans (K2.out.trans ((Keep.drew _ _ _).trans k3))⟩
      · have E2 : Hid (σ.spell s k i r = ρ) := by show _ = _; rw [E.out, hft]; rfl
        clear E
        go_wp2
        go_end0
        rw [E2.out]
        exact ⟨rfl, H2.out, K1.out.trans K2.out⟩
  · have q : (σ.w.k != 1) = true := by simp; exact fun e => ho (.inl e)
    have q2 : (σ.w.k != 2) = true := by simp; exact fun e => ho (.inr e)
    have hτ' : σ.begin_ s k i = τ := by rw [hτ]; exact (if_neg ho).symm
    rw [hτ'] at B
    clear hτ hτ' h hk hF ho
    go_enter Tryz.func136, Tryz.ntmps136
    go_wp2_with fail
    refine B.out.mono ?_
    rintro e w1 ⟨rfl, h1, k1⟩
    have H1 := Lib.hid h1
    have K1 := Lib.hid k1
    clear h1 k1 B c2
    go_wp2_with fail
    refine (HG.out _ H1.out).mono ?_
    rintro e w2 ⟨rfl, h2, k2⟩
    have gl : (τ.grown r).w.l = τ.w.l := by unfold Rd.grown; split <;> rfl
    have gc : (τ.grown r).w.c = τ.w.c := by unfold Rd.grown; split <;> rfl
    have m5 : w2.cell? ⟨g, 5, none⟩ = some (.int .i64 τ.w.l) := by rw [← gl]; obtain ⟨a, c, hb, _⟩ := h2; exact hb.cell 5
    have m6 : w2.cell? ⟨g, 6, none⟩ = some (.int .i64 τ.w.c) := by rw [← gc]; obtain ⟨a, c, hb, _⟩ := h2; exact hb.cell 6
    have H2 := Lib.hid h2
    have K2 := Lib.hid k2
    clear h2 k2 gl gc HG H1
    generalize τ.grown r = ρ at *
    cases hft : τ.fits r
    · have E2 : Hid (σ.spell s k i r = ρ.fail τ.w.l τ.w.c 3) := by show _ = _; rw [E.out, hft]; rfl
      clear E
      go_wp2_with fail
      go_region_with (go_at_call 137; refine (fail_any g s ρ τ.w.l τ.w.c 3 b w2.drew H2.out).mono ?_; rintro e w3 ⟨rfl, h3, k3⟩)
      all_goals
        go_wp2
        go_end0
        rw [E2.out]
        exact ⟨rfl, h3, K1.out.trans (K2.out.trans ((Keep.drew _ _ _).trans k3))⟩
    · have E2 : Hid (σ.spell s k i r = ρ) := by show _ = _; rw [E.out, hft]; rfl
      clear E
      go_wp2
      go_end0
      rw [E2.out]
      exact ⟨rfl, H2.out, K1.out.trans K2.out⟩

end Go.Proofs.YtkfplffcegbdfaaGreatDoor
