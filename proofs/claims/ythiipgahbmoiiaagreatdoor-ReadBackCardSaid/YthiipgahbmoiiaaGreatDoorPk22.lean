/-
  Both readings, as plain functions, tell the same. No condition beyond those that each theorem states.
-/
import Derived.Test.YthiipgahbmoiiaaGreatDoorPk21
namespace Go.Proofs.YthiipgahbmoiiaaGreatDoor
theorem fin_fail {s : ByteArray} {τ : Rd} {l c e : Int} (hf : τ.f = e) (he : e ≠ 0) (hl : τ.bl = l) (hc : τ.bc = c) : fin s τ = ([], l, c, e) := by
  unfold fin
  rw [if_neg (by omega), hf, hl, hc]
theorem begin_done (s : ByteArray) (σ : Rd) (k i : Int) : (σ.begin_ s k i).ws = (σ.shut s i).ws ∧ (σ.begin_ s k i).w = ⟨k, noText, 0, σ.line, σ.col⟩ ∧ (σ.begin_ s k i).frm = i ∧ (σ.begin_ s k i).line = σ.line ∧ (σ.begin_ s k i).col = σ.col ∧ (σ.begin_ s k i).remark = σ.remark ∧ (σ.begin_ s k i).f = σ.f ∧ (σ.begin_ s k i).many = 0 ∧ (σ.begin_ s k i).below = false :=
  ⟨rfl, rfl, rfl, shut_line s σ i, shut_col s σ i, shut_rem s σ i, shut_f s σ i, rfl, rfl⟩

theorem read_same (s : ByteArray) : ∀ (f i N : Nat) (σ : Rd) (ws : List Wd) (line col : Int) (rem : Bool), Rel s σ ws line col rem i → i ≤ s.size → s.size ≤ i + f → s.size ≤ i + N →
    refGo s f ws line col rem i = fin s (Rd.run s N i σ) := by
  intro f
  induction f with
  | zero =>
    intro i N σ ws line col rem h hi hf hN
    have : i = s.size := by omega
    subst this
    rw [refGo, Rd.run_end s N _ σ (by omega), fin, if_pos h.f, h.words]
  | succ f ih =>
    intro i N σ ws line col rem h hi hf hN
    by_cases hlt : i < s.size
    · obtain ⟨N, rfl⟩ : ∃ N', N = N' + 1 := ⟨N - 1, by omega⟩
      obtain ⟨hf0, rfl, rfl, rfl, hws, hov⟩ := h
      rw [refGo, if_pos hlt]
      by_cases h2 : (atP s i).2 = 0
      · rw [if_pos h2]
        obtain ⟨hraw, hd⟩ := rawB_bad hlt h2
        have hu : useOf s σ.remark i (Utf8.decode s i).1 = 0 := by unfold useOf; rw [if_pos hraw]
        rw [run_stop hlt (by rw [take0 hu]; simp [Rd.fail]), take0 hu]
        exact (fin_fail (τ := σ.fail σ.line σ.col 6) (e := 6) (l := σ.line) (c := σ.col) rfl (by decide) rfl rfl).symm
      rw [if_neg h2]
      obtain ⟨hraw, hdec⟩ := rawB_good hlt h2
      have hov2 := fun hk => hov hk hlt h2
      have hw1 : 1 ≤ (Utf8.decode s i).2 := by rw [← hdec]; omega
      have hwle : i + (Utf8.decode s i).2 ≤ s.size := by rw [← hdec]; exact atP_le s i hlt
      have hsmall : (Utf8.decode s i).1 < 128 → (Utf8.decode s i).2 = 1 ∧ (s.get! i).toNat = (Utf8.decode s i).1 := by
        intro hh
        have := atP_small s i hlt h2 (by rw [hdec]; exact hh)
        rw [hdec] at this
        exact this
      rw [hdec] at hov2 h2 ⊢
      obtain ⟨c, hc⟩ : ∃ c : Nat, c = (Utf8.decode s i).1 := ⟨_, rfl⟩
      obtain ⟨m, hm⟩ : ∃ m : Nat, m = (Utf8.decode s i).2 := ⟨_, rfl⟩
      rw [← hc] at hov2 hsmall hraw ⊢
      rw [← hm] at hw1 hwle hsmall h2 ⊢
      have go : ∀ τ : Rd, σ.take s i (c : Int) = τ → τ.f = 0 → Rd.run s (N + 1) i σ = Rd.run s N (i + m) (τ.pass (c : Int)) := by
        intro τ ht h0
        rw [run_go hlt (by rw [← hc, ht]; exact h0), ← hc, ← hm, ht]
      have stop : ∀ τ : Rd, σ.take s i (c : Int) = τ → τ.f ≠ 0 → Rd.run s (N + 1) i σ = τ := by
        intro τ ht h0
        rw [run_stop hlt (by rw [← hc, ht]; exact h0), ← hc, ht]
      by_cases h10 : c = 10
      · rw [if_pos h10]
        subst h10
        obtain ⟨hm1, _⟩ := hsmall (by omega)
        have hraw' : rawB s i 10 = false := hraw
        have hu : useOf s σ.remark i ((10 : Nat) : Int) = 1 := by show useOf s σ.remark i 10 = 1; simp [useOf, hraw']
        rw [go _ (take1 hu) (by show (σ.shut s i).f = 0; rw [shut_f]; exact hf0), hm1]
        refine ih (i + 1) N _ _ _ _ _ ?_ (by omega) (by omega) (by omega)
        have hp : ({ σ.begin_ s 4 i with remark := false } : Rd).pass ((10 : Nat) : Int) = { ({ σ.begin_ s 4 i with remark := false } : Rd) with line := (σ.shut s i).line + 1, col := 1 } := rfl
        rw [hp, shut_line]
        exact Rel.of_done ⟨4, noText, 0, σ.line, σ.col⟩ (by show (σ.shut s i).f = 0; rw [shut_f]; exact hf0) (by show (4 : Int) ≠ 0; decide) rfl (by show (σ.shut s i).ws ++ _ = _; rw [hws]) (fun h => by have h : (4 : Int) = 1 ∨ (4 : Int) = 2 := h; omega)
      rw [if_neg h10]
      by_cases hbl : σ.remark = true ∨ c = 32 ∨ c = 9 ∨ c = 59
      · rw [if_pos hbl]
        have hu : useOf s σ.remark i (c : Int) = if σ.remark = false ∧ c = 59 then 2 else 3 := by
          unfold useOf
          rw [if_neg (by simp [hraw]), if_neg (by omega)]
          cases hr : σ.remark
          · by_cases h59 : c = 59
            · rw [if_neg (by simp; omega), if_pos (by omega), if_pos ⟨rfl, h59⟩]
            · rw [if_pos (by simp [hr] at hbl; simp; omega), if_neg (by simp [h59])]
          · rw [if_pos (by simp), if_neg (by simp)]
        have ht : σ.take s i (c : Int) = { σ.shut s i with remark := σ.remark || decide (c = 59) } := by
          by_cases hr : σ.remark = false ∧ c = 59
          · rw [if_pos hr] at hu
            rw [take2 hu, hr.1, hr.2]
            unfold Rd.shut
            by_cases hk : σ.w.k = 0
            · rw [if_pos hk, if_pos hk]; rfl
            · rw [if_neg hk, if_neg hk]; rfl
          · rw [if_neg hr] at hu
            rw [take3 hu]
            have e : (σ.remark || decide (c = 59)) = (σ.shut s i).remark := by
              rw [shut_rem]
              cases hr2 : σ.remark
              · have : c ≠ 59 := fun h => hr ⟨hr2, h⟩
                simp [this]
              · rfl
            rw [e]
        rw [go _ ht (by show (σ.shut s i).f = 0; rw [shut_f]; exact hf0), pass_not (by omega)]
        refine ih (i + m) N _ _ _ _ _ ⟨?_, ?_, ?_, rfl, ?_, ?_⟩ (by omega) (by omega) (by omega)
        · show (σ.shut s i).f = 0; rw [shut_f]; exact hf0
        · exact shut_line s σ i
        · show (σ.shut s i).col + 1 = _; rw [shut_col]
        · rw [shut_idle _ (by exact shut_k s σ i)]; exact hws
        · intro hk
          have := shut_k s σ i
          rcases hk with hk | hk
          · have h3 : (σ.shut s i).w.k = 1 := hk; omega
          · have h3 : (σ.shut s i).w.k = 2 := hk; omega
      rw [if_neg hbl]
      have hrem : σ.remark = false := by cases hr : σ.remark <;> simp_all
      have hcn : (c : Int) ≠ 10 ∧ ¬ ((c : Int) = 32 ∨ (c : Int) = 9) ∧ (c : Int) ≠ 59 := by omega
      have hu := use_plain hraw hcn.1 hcn.2.1 hcn.2.2
      have hnl := numLen_iff s i hlt
      by_cases hz : 0 < numLen s i
      · rw [if_pos hz]
        have hle := numLen_le s i hlt
        obtain ⟨he1, he2⟩ := numEnd_eq s i hlt hz
        have hel : numEnd s i ≤ s.size := hle
        have heq : numEnd s i = i + numLen s i := rfl
        have hT := part_size s i (numEnd s i) hel
        have hD := num_digs s i hlt hz
        have hg : ∀ k, k < (partOf s i (numEnd s i)).size → (partOf s i (numEnd s i)).get! k = s.get! (i + k) := fun k hk => part_get s i _ k hel (by omega)
        have hdig : ∀ k, headOf s i ≤ k → k < numEnd s i → 48 ≤ (s.get! k).toNat ∧ (s.get! k).toNat ≤ 57 := fun k h1 h3 => runEnd_digits s _ _ _ (headOf_le s i hlt).2.2 k h1 (by rw [he1] at h3; exact h3)
        have hg0 : (partOf s i (numEnd s i)).get! 0 = s.get! i := hg 0 (by omega)
        have hv1 : valT (partOf s i (numEnd s i)) (i + 1 - i) = if (s.get! i).toNat = 45 then 0 else ((s.get! i).toNat : Int) - 48 := by
          rw [Nat.add_sub_cancel_left, valT, hg0]
          split
          · rfl
          · show 10 * (0 : Int) + _ = _; omega
        have key : ∃ b : Bool, (valOk (partOf s i (numEnd s i)) = true → ∃ N', s.size ≤ numEnd s i + N' ∧ Rd.run s (N + 1) i σ = Rd.run s N' (numEnd s i) { σ.begin_ s 2 i with below := b, w := ⟨2, noText, valN (partOf s i (numEnd s i)), σ.line, σ.col⟩, col := σ.col + numLen s i }) ∧
            (valOk (partOf s i (numEnd s i)) = false → (Rd.run s (N + 1) i σ).f = 3 ∧ (Rd.run s (N + 1) i σ).bl = σ.line ∧ (Rd.run s (N + 1) i σ).bc = σ.col) := by
          rcases hnl.1 hz with ⟨h45, hbh⟩ | hdg
          · have hat := atP_one s i hlt (by omega)
            rw [hdec] at hat
            have hc45 : c = 45 := by rw [hc, hat]; exact h45
            have hm1 : m = 1 := by rw [hm, hat]
            have hh : headOf s i = i + 1 := by unfold headOf; rw [if_pos h45]
            subst hc45
            subst hm1
            have hu5 : useOf s σ.remark i ((45 : Nat) : Int) = 5 := by
              rw [hrem, hu, if_neg (by decide), if_pos ⟨rfl, hbh⟩]
            have hr := go _ (take5 hu5) (by show (σ.shut s i).f = 0; rw [shut_f]; exact hf0)
            rw [pass_not hcn.1] at hr
            rw [if_pos h45] at hv1
            obtain ⟨n1, n2⟩ := num_run s (partOf s i (numEnd s i)) i (numEnd s i) hel hT hg hD (numEnd s i - (i + 1)) (i + 1) N { ({ σ.begin_ s 2 i with below := true } : Rd) with col := ({ σ.begin_ s 2 i with below := true } : Rd).col + 1 } (by omega) (by omega)
              (fun k h1 h3 => hdig k (by omega) h3) (by omega) (by show (σ.shut s i).f = 0; rw [shut_f]; exact hf0) rfl (by show (σ.shut s i).remark = false; rw [shut_rem]; exact hrem) (by rw [hv1]; rfl) (by rw [hv1]; decide)
            rw [← hr] at n1 n2
            refine ⟨true, fun h => ?_, n2⟩
            obtain ⟨N', h1, h3⟩ := n1 h
            refine ⟨N', h1, ?_⟩
            rw [h3]
            congr 1
            have hvn : valN (partOf s i (numEnd s i)) = -valT (partOf s i (numEnd s i)) (partOf s i (numEnd s i)).size := by
              unfold valN
              rw [if_pos h, hg0, if_pos h45]
            rw [hvn]
            have hsg : ∀ v, sgn ({ σ.begin_ s 2 i with below := true } : Rd).below v = -v := fun _ => rfl
            simp only [hsg]
            simp only [Rd.begin_, Rd.mk.injEq, shut_col, true_and, and_true]
            omega
          · have hat := atP_one s i hlt (by omega)
            rw [hdec] at hat
            have hcd : (s.get! i).toNat = c := by rw [hc, hat]
            have hm1 : m = 1 := by rw [hm, hat]
            have hh : headOf s i = i := by unfold headOf; rw [if_neg (by omega)]
            subst hm1
            have hdc : digitB (c : Int) = true := by simp [digitB]; omega
            have hk1 : ¬ (σ.w.k = 1 ∨ σ.w.k = 2) := fun hk => by have := (hov2 hk).2; rw [hdc] at this; cases this
            have hu7 : useOf s σ.remark i (c : Int) = 7 := by rw [hrem]; exact use_digit hraw hdc
            have hft : (σ.begin_ s 2 i).fits (c : Int) = true := by
              show boundB (0 * 10 + ((c : Int) - 48)) = true
              unfold boundB
              simp only [decide_eq_true_eq]
              omega
            have ht : σ.take s i (c : Int) = { σ.begin_ s 2 i with w := ⟨2, noText, (c : Int) - 48, σ.line, σ.col⟩ } := by
              rw [take7 hu7]
              unfold Rd.spell Rd.opened
              rw [if_neg hk1]
              simp only
              rw [if_pos hft]
              show ({ σ.begin_ s 2 i with w := ⟨2, noText, 0 * 10 + ((c : Int) - 48), σ.line, σ.col⟩ } : Rd) = _
              rw [Int.zero_mul, Int.zero_add]
            have hr := go _ ht (by show (σ.shut s i).f = 0; rw [shut_f]; exact hf0)
            rw [pass_not hcn.1] at hr
            rw [if_neg (by omega), hcd] at hv1
            obtain ⟨n1, n2⟩ := num_run s (partOf s i (numEnd s i)) i (numEnd s i) hel hT hg hD (numEnd s i - (i + 1)) (i + 1) N { ({ σ.begin_ s 2 i with w := ⟨2, noText, (c : Int) - 48, σ.line, σ.col⟩ } : Rd) with col := ({ σ.begin_ s 2 i with w := ⟨2, noText, (c : Int) - 48, σ.line, σ.col⟩ } : Rd).col + 1 } (by omega) (by omega)
              (fun k h1 h3 => hdig k (by omega) h3) (by omega) (by show (σ.shut s i).f = 0; rw [shut_f]; exact hf0) rfl (by show (σ.shut s i).remark = false; rw [shut_rem]; exact hrem) (by rw [hv1]; rfl) (by rw [hv1]; omega)
            rw [← hr] at n1 n2
            refine ⟨false, fun h => ?_, n2⟩
            obtain ⟨N', h1, h3⟩ := n1 h
            refine ⟨N', h1, ?_⟩
            rw [h3]
            congr 1
            have hvn : valN (partOf s i (numEnd s i)) = valT (partOf s i (numEnd s i)) (partOf s i (numEnd s i)).size := by
              unfold valN
              rw [if_pos h, hg0, if_neg (by omega)]
            rw [hvn]
            have hsg : sgn (σ.begin_ s 2 i).below (valT (partOf s i (numEnd s i)) (partOf s i (numEnd s i)).size) = valT (partOf s i (numEnd s i)) (partOf s i (numEnd s i)).size := rfl
            rw [hsg]
            simp only [Rd.begin_, Rd.mk.injEq, shut_col, true_and, and_true]
            omega
        obtain ⟨b, k1, k2⟩ := key
        cases hv : valOk (partOf s i (numEnd s i))
        · rw [if_neg (by simp)]
          obtain ⟨a1, a2, a3⟩ := k2 hv
          exact (fin_fail a1 (by decide) a2 a3).symm
        · rw [if_pos rfl]
          obtain ⟨N', h1, h3⟩ := k1 hv
          rw [h3]
          by_cases hlet : 0 < (atP s (numEnd s i)).2 ∧ letterB (atP s (numEnd s i)).1 = true
          · rw [if_pos hlet]
            have hlt2 : numEnd s i < s.size := by
              by_cases hh : numEnd s i < s.size
              · exact hh
              · have := hlet.1
                unfold atP at this
                rw [if_neg hh] at this
                simp at this
            obtain ⟨N', rfl⟩ : ∃ N'', N' = N'' + 1 := ⟨N' - 1, by omega⟩
            obtain ⟨hraw2, hdec2⟩ := rawB_good hlt2 (by omega)
            have hl2 := hlet.2
            rw [hdec2] at hl2
            have ht : Rd.take s { σ.begin_ s 2 i with below := b, w := ⟨2, noText, valN (partOf s i (numEnd s i)), σ.line, σ.col⟩, col := σ.col + numLen s i } (numEnd s i) (Utf8.decode s (numEnd s i)).1 = ({ σ.begin_ s 2 i with below := b, w := ⟨2, noText, valN (partOf s i (numEnd s i)), σ.line, σ.col⟩, col := σ.col + numLen s i } : Rd).fail (σ.begin_ s 2 i).line (σ.col + numLen s i) 6 :=
              take62 (by show useOf s (σ.shut s i).remark _ _ = 6; rw [shut_rem, hrem]; exact use_letter hraw2 hl2) rfl
            rw [run_stop hlt2 (by rw [ht]; simp [Rd.fail]), ht]
            exact (fin_fail (e := 6) (l := σ.line) (c := σ.col + numLen s i) (τ := ({ σ.begin_ s 2 i with below := b, w := ⟨2, noText, valN (partOf s i (numEnd s i)), σ.line, σ.col⟩, col := σ.col + numLen s i } : Rd).fail (σ.begin_ s 2 i).line (σ.col + numLen s i) 6) rfl (by decide) (shut_line s σ i) rfl).symm
          · rw [if_neg hlet]
            refine ih _ N' _ _ _ _ _ ⟨?_, ?_, ?_, ?_, ?_, ?_⟩ hel (by omega) h1
            · show (σ.shut s i).f = 0; rw [shut_f]; exact hf0
            · exact shut_line s σ i
            · rfl
            · show (σ.shut s i).remark = _; rw [shut_rem]; exact hrem
            · unfold Rd.shut
              rw [if_neg (by show ¬ (2 : Int) = 0; decide)]
              show (σ.shut s i).ws ++ [_] = _
              rw [hws]
              rfl
            · intro _ hlt2 h4
              refine ⟨?_, ?_⟩
              · cases hh : letterB ((atP s (numEnd s i)).1 : Int)
                · rfl
                · exact absurd ⟨by omega, hh⟩ hlet
              · rw [he1] at hlt2 h4 ⊢
                have := runEnd_behind s true s.size (headOf s i) 0 (headOf_le s i hlt).2.2 (by omega) hlt2 h4
                have e : stopB true ((atP s (runTo s true (headOf s i)).1).1 : Int) = true := this
                simpa [stopB] using e
      rw [if_neg hz]
      have hnod : digitB (c : Int) = false := by
        cases hd : digitB (c : Int)
        · rfl
        · have := of_decide_eq_true hd
          obtain ⟨_, hg⟩ := hsmall (by omega)
          exact absurd (hnl.2 (.inr (by omega))) hz
      have hnom : ¬ ((c : Int) = 45 ∧ behindB s i = true) := by
        rintro ⟨hc45, hb⟩
        obtain ⟨_, hg⟩ := hsmall (by omega)
        exact hz (hnl.2 (.inl ⟨by omega, hb⟩))
      cases hl : letterB (c : Int)
      · rw [if_neg (by simp)]
        cases hs : signB (c : Int)
        · rw [if_neg (by simp)]
          rw [hs, hl, hnod, if_neg (by simp), if_neg hnom, if_neg (by simp), if_neg (by simp)] at hu
          rw [← hrem] at hu
          rw [stop _ (take0 hu) (by simp [Rd.fail])]
          exact (fin_fail (τ := σ.fail σ.line σ.col 6) (e := 6) (l := σ.line) (c := σ.col) rfl (by decide) rfl rfl).symm
        · rw [if_pos rfl]
          rw [hs, if_pos rfl, ← hrem] at hu
          rw [go _ (take4 hu) (by show (σ.shut s i).f = 0; rw [shut_f]; exact hf0), pass_not hcn.1]
          obtain ⟨b1, b2, b3, b4, b5, b6, b7, _⟩ := begin_done s σ 3 i
          refine ih (i + m) N _ _ _ _ _ ⟨?_, ?_, ?_, ?_, ?_, ?_⟩ (by omega) (by omega) (by omega)
          · show (σ.begin_ s 3 i).f = 0; rw [b7]; exact hf0
          · exact b4
          · show (σ.begin_ s 3 i).col + 1 = _; rw [b5]
          · show (σ.begin_ s 3 i).remark = _; rw [b6]; exact hrem
          · unfold Rd.shut
            rw [if_neg (show ¬ ({ σ.begin_ s 3 i with col := (σ.begin_ s 3 i).col + 1 } : Rd).w.k = 0 by show ¬ (3 : Int) = 0; decide)]
            show (σ.shut s i).ws ++ [_] = _
            rw [hws]
            rfl
          · intro hk
            have hk : (3 : Int) = 1 ∨ (3 : Int) = 2 := hk
            omega
      · rw [if_pos rfl]
        have hk1 : σ.w.k ≠ 1 ∧ σ.w.k ≠ 2 := by
          refine ⟨fun e => ?_, fun e => ?_⟩
          · have := (hov2 (.inl e)).1; rw [hl] at this; cases this
          · have := (hov2 (.inr e)).1; rw [hl] at this; cases this
        have hu6 : useOf s σ.remark i (c : Int) = 6 := by rw [hrem]; exact use_letter hraw hl
        have ht : σ.take s i (c : Int) = { σ.begin_ s 1 i with many := 1 } := by
          have e : σ.opened s 1 i = σ.begin_ s 1 i := if_neg (fun h => h.elim hk1.1 hk1.2)
          have hft : (σ.begin_ s 1 i).fits (c : Int) = true := by show decide ((0 : Int) + 1 ≤ 16) = true; decide
          rw [take6 hu6 hk1.2]
          unfold Rd.spell
          simp only [e]
          rw [if_pos hft]
          rfl
        have hr := go _ ht (by show (σ.shut s i).f = 0; rw [shut_f]; exact hf0)
        rw [pass_not hcn.1] at hr
        obtain ⟨q, hq⟩ : ∃ q, s.size = q + 1 := ⟨s.size - 1, by omega⟩
        have hrt : runTo s false i = runEnd s false q (i + m) 1 := by
          unfold runTo
          rw [hq, runEnd, if_pos hlt, hdec, ← hc, ← hm, if_neg (by simp [stopB, hl]; exact h2)]
        obtain ⟨n1, n2⟩ := name_run s q (i + m) 1 N (σ := { ({ σ.begin_ s 1 i with many := 1 } : Rd) with col := ({ σ.begin_ s 1 i with many := 1 } : Rd).col + 1 }) hwle (by omega) (by omega) (by show (σ.shut s i).f = 0; rw [shut_f]; exact hf0) rfl (by show (σ.shut s i).remark = false; rw [shut_rem]; exact hrem) rfl (by decide)
        rw [← hrt, ← hr] at n1 n2
        have hre := runTo_le s false i hi
        by_cases hn : 16 < (runTo s false i).2
        · rw [if_pos hn]
          obtain ⟨a1, a2, a3⟩ := n2 hn
          exact (fin_fail a1 (by decide) a2 a3).symm
        · rw [if_neg hn]
          obtain ⟨N', h1, h3⟩ := n1 (by omega)
          rw [h3]
          have hone : 1 ≤ (runTo s false i).2 := by
            rw [hrt]; exact (runEnd_le s false q (i + m) 1 hwle).2.2.1
          refine ih _ N' _ _ _ _ _ ⟨?_, ?_, ?_, ?_, ?_, ?_⟩ hre.2.1 (by omega) h1
          · show (σ.shut s i).f = 0; rw [shut_f]; exact hf0
          · exact shut_line s σ i
          · show (σ.shut s i).col + 1 + _ = _
            rw [shut_col]
            omega
          · show (σ.shut s i).remark = _; rw [shut_rem]; exact hrem
          · unfold Rd.shut
            rw [if_neg (by show ¬ (1 : Int) = 0; decide)]
            show (σ.shut s i).ws ++ [_] = _
            rw [hws]
            rfl
          · intro _ hlt2 h4
            have := runEnd_behind s false s.size i 0 hi (by omega) hlt2 h4
            have e : stopB false ((atP s (runTo s false i).1).1 : Int) = true := this
            simp [stopB] at e
            exact ⟨e.2, e.1⟩
    · have : i = s.size := by omega
      subst this
      rw [refGo_end s _ _ _ _ _ _ hlt, Rd.run_end s N _ σ hlt, fin, if_pos h.f, h.words]
end Go.Proofs.YthiipgahbmoiiaaGreatDoor
