/-
  The reader goes through a number as the document's value does. No condition beyond those that each theorem states.
-/
import Derived.Test.YtkfplffcegbdfaaGreatDoorSame2
namespace Go.Proofs.YtkfplffcegbdfaaGreatDoor
/-- The signed value so far. -/
def sgn (b : Bool) (v : Int) : Int := if b then -v else v
theorem num_run (s T : ByteArray) (a e : Nat) (he : e ≤ s.size) (hT : T.size = e - a) (hg : ∀ k, k < T.size → T.get! k = s.get! (a + k)) (hD : Digs T) :
    ∀ (d p N : Nat) (σ : Rd), a ≤ p → p + d = e → (∀ k, p ≤ k → k < e → 48 ≤ (s.get! k).toNat ∧ (s.get! k).toNat ≤ 57) → s.size ≤ p + N → σ.f = 0 → σ.w.k = 2 → σ.remark = false → σ.w.n = sgn σ.below (valT T (p - a)) → valT T (p - a) ≤ 1099511627776 →
    (valOk T = true → ∃ N', s.size ≤ e + N' ∧ Rd.run s N p σ = Rd.run s N' e { σ with w := { σ.w with n := sgn σ.below (valT T T.size) }, col := σ.col + d }) ∧
    (valOk T = false → (Rd.run s N p σ).f = 3 ∧ (Rd.run s N p σ).bl = σ.w.l ∧ (Rd.run s N p σ).bc = σ.w.c) := by
  intro d
  induction d with
  | zero =>
    intro p N σ hap hpe hdig hN h0 hk hm hn hv
    have hpe' : p = e := by omega
    subst hpe'
    rw [← hT] at hn hv
    refine ⟨fun _ => ⟨N, hN, ?_⟩, fun h => ?_⟩
    · congr 1
      rcases σ with ⟨_, _, ⟨_, _, _, _, _⟩, _, _, _, _, _, _, _, _⟩
      simp only at hn
      subst hn
      simp
    · unfold valOk at h
      exact absurd hv (of_decide_eq_false h)
  | succ d ih =>
    intro p N σ hap hpe hdig hN h0 hk hm hn hv
    have hlt : p < s.size := by omega
    obtain ⟨hb1, hb2⟩ := hdig p (Nat.le_refl _) (by omega)
    have hat := atP_one s p hlt (by omega)
    have h2 : (atP s p).2 ≠ 0 := by rw [hat]; simp
    obtain ⟨hraw, hdec⟩ := rawB_good hlt h2
    rw [hat] at hdec
    rw [← hdec] at hraw
    have hc : digitB ((s.get! p).toNat : Int) = true := by simp [digitB]; omega
    obtain ⟨N, rfl⟩ : ∃ N', N = N' + 1 := ⟨N - 1, by omega⟩
    have hTp : T.get! (p - a) = s.get! p := by rw [hg (p - a) (by omega)]; congr 1; omega
    have hvn : valT T (p - a + 1) = 10 * valT T (p - a) + (((s.get! p).toNat : Int) - 48) := by
      rw [valT, hTp, if_neg (by omega)]
    have hv0 := valT_pos hD (p - a) (by omega)
    have e1 : p + 1 - a = p - a + 1 := by omega
    have ht : σ.take s p ((s.get! p).toNat : Int) = if σ.fits ((s.get! p).toNat : Int) then σ.grown ((s.get! p).toNat : Int) else (σ.grown ((s.get! p).toNat : Int)).fail σ.w.l σ.w.c 3 := by
      rw [take7 (by rw [hm]; exact use_digit hraw hc)]
      exact spell_open (.inr hk)
    have hnn : σ.w.n * 10 + (if σ.below then -(((s.get! p).toNat : Int) - 48) else ((s.get! p).toNat : Int) - 48) = sgn σ.below (valT T (p - a + 1)) := by
      rw [hn, hvn]
      unfold sgn
      split <;> omega
    have hfit : σ.fits ((s.get! p).toNat : Int) = decide (valT T (p - a + 1) ≤ 1099511627776) := by
      rw [Rd.fits, if_neg (by omega), hnn, boundB]
      apply decide_eq_decide.2
      rw [hvn]
      unfold sgn
      split <;> omega
    have hgr : σ.grown ((s.get! p).toNat : Int) = { σ with w := { σ.w with n := sgn σ.below (valT T (p - a + 1)) } } := by
      rw [Rd.grown, if_neg (by omega), hnn]
    rw [hgr, hfit] at ht
    by_cases hle : valT T (p - a + 1) ≤ 1099511627776
    · rw [if_pos (by simpa using hle)] at ht
      have hr : Rd.run s (N + 1) p σ = Rd.run s N (p + 1) { σ with w := { σ.w with n := sgn σ.below (valT T (p - a + 1)) }, col := σ.col + 1 } := by
        rw [run_go hlt (by rw [← hdec, ht]; exact h0), ← hdec, ht, pass_not (by omega)]
      rw [hr]
      obtain ⟨i1, i2⟩ := ih (p + 1) N { σ with w := { σ.w with n := sgn σ.below (valT T (p - a + 1)) }, col := σ.col + 1 } (by omega) (by omega) (fun k h1 h2 => hdig k (by omega) h2) (by omega) h0 hk hm (by rw [e1]) (by rw [e1]; exact hle)
      refine ⟨fun h => ?_, i2⟩
      obtain ⟨N', h1, h2⟩ := i1 h
      refine ⟨N', h1, ?_⟩
      rw [h2]
      congr 1
      simp only [Rd.mk.injEq, true_and, and_true]
      omega
    · rw [if_neg (by simpa using hle)] at ht
      have hr : Rd.run s (N + 1) p σ = ({ σ with w := { σ.w with n := sgn σ.below (valT T (p - a + 1)) } } : Rd).fail σ.w.l σ.w.c 3 := by
        rw [run_stop hlt (by rw [← hdec, ht]; simp [Rd.fail]), ← hdec, ht]
      rw [hr]
      refine ⟨fun h => ?_, fun _ => ⟨rfl, rfl, rfl⟩⟩
      have h4 := valT_le hD (T.size - (p - a + 1)) (p - a + 1) (by omega)
      have e2 : p - a + 1 + (T.size - (p - a + 1)) = T.size := by omega
      rw [e2] at h4
      unfold valOk at h
      have := of_decide_eq_true h
      omega

/-- The document's state ahead of a place, and the program's. -/
structure Rel (s : ByteArray) (σ : Rd) (ws : List Wd) (line col : Int) (rem : Bool) (i : Nat) : Prop where
  f : σ.f = 0
  line : σ.line = line
  col : σ.col = col
  rem : σ.remark = rem
  words : (σ.shut s i).ws = ws
  over : (σ.w.k = 1 ∨ σ.w.k = 2) → i < s.size → (atP s i).2 ≠ 0 → letterB (atP s i).1 = false ∧ digitB (atP s i).1 = false

/-- A state whose draft is whole. -/
theorem Rel.of_done {s : ByteArray} {σ : Rd} {i : Nat} {ws : List Wd} (x : Wd) (hf : σ.f = 0) (hk : σ.w.k ≠ 0) (hx : (if σ.w.k = 4 then σ.w else { σ.w with t := cutText s σ.frm i }) = x) (hw : σ.ws ++ [x] = ws)
    (ho : (σ.w.k = 1 ∨ σ.w.k = 2) → i < s.size → (atP s i).2 ≠ 0 → letterB (atP s i).1 = false ∧ digitB (atP s i).1 = false) : Rel s σ ws σ.line σ.col σ.remark i :=
  ⟨hf, rfl, rfl, rfl, by rw [← hw, ← hx]; unfold Rd.shut; rw [if_neg hk], ho⟩
end Go.Proofs.YtkfplffcegbdfaaGreatDoor
