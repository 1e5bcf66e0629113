/-
  The reader goes through a name as the document's run does. No condition beyond those that each theorem states.
-/
import Derived.Test.YtkfplffcegbdfaaGreatDoorSame1
namespace Go.Proofs.YtkfplffcegbdfaaGreatDoor
theorem use_plain {s : ByteArray} {i : Nat} {c : Int} (hraw : rawB s i c = false) (h10 : c ≠ 10) (hb : ¬ (c = 32 ∨ c = 9)) (h59 : c ≠ 59) :
    useOf s false i c = if signB c then 4 else if c = 45 ∧ behindB s i then 5 else if letterB c then 6 else if digitB c then 7 else 0 := by
  unfold useOf
  rw [if_neg (by simp [hraw]), if_neg h10, if_neg (by simpa using hb), if_neg h59]
theorem use_letter {s : ByteArray} {i : Nat} {c : Int} (hraw : rawB s i c = false) (hc : letterB c = true) : useOf s false i c = 6 := by
  have h := of_decide_eq_true hc
  have hs : signB c = false := decide_eq_false (by omega)
  rw [use_plain hraw (by omega) (by omega) (by omega), if_neg (by simp [hs]), if_neg (by omega), if_pos hc]
theorem use_digit {s : ByteArray} {i : Nat} {c : Int} (hraw : rawB s i c = false) (hc : digitB c = true) : useOf s false i c = 7 := by
  have h := of_decide_eq_true hc
  have hs : signB c = false := decide_eq_false (by omega)
  have hl : letterB c = false := decide_eq_false (by omega)
  rw [use_plain hraw (by omega) (by omega) (by omega), if_neg (by simp [hs]), if_neg (by omega), if_neg (by simp [hl]), if_pos hc]
theorem take6 {s : ByteArray} {σ : Rd} {i : Nat} {r : Int} (hu : useOf s σ.remark i r = 6) (hk : σ.w.k ≠ 2) : σ.take s i r = σ.spell s 1 i r := by simp [Rd.take, hu, hk]
theorem take62 {s : ByteArray} {σ : Rd} {i : Nat} {r : Int} (hu : useOf s σ.remark i r = 6) (hk : σ.w.k = 2) : σ.take s i r = σ.fail σ.line σ.col 6 := by simp [Rd.take, hu, hk]
theorem take7 {s : ByteArray} {σ : Rd} {i : Nat} {r : Int} (hu : useOf s σ.remark i r = 7) : σ.take s i r = σ.spell s 2 i r := by simp [Rd.take, hu]
theorem take0 {s : ByteArray} {σ : Rd} {i : Nat} {r : Int} (hu : useOf s σ.remark i r = 0) : σ.take s i r = σ.fail σ.line σ.col 6 := by simp [Rd.take, hu]
theorem take1 {s : ByteArray} {σ : Rd} {i : Nat} {r : Int} (hu : useOf s σ.remark i r = 1) : σ.take s i r = { σ.begin_ s 4 i with remark := false } := by simp [Rd.take, hu]
theorem take2 {s : ByteArray} {σ : Rd} {i : Nat} {r : Int} (hu : useOf s σ.remark i r = 2) : σ.take s i r = ({ σ with remark := true } : Rd).shut s i := by simp [Rd.take, hu]
theorem take3 {s : ByteArray} {σ : Rd} {i : Nat} {r : Int} (hu : useOf s σ.remark i r = 3) : σ.take s i r = σ.shut s i := by simp [Rd.take, hu]
theorem take4 {s : ByteArray} {σ : Rd} {i : Nat} {r : Int} (hu : useOf s σ.remark i r = 4) : σ.take s i r = σ.begin_ s 3 i := by simp [Rd.take, hu]
theorem take5 {s : ByteArray} {σ : Rd} {i : Nat} {r : Int} (hu : useOf s σ.remark i r = 5) : σ.take s i r = { σ.begin_ s 2 i with below := true } := by simp [Rd.take, hu]
theorem spell_open {s : ByteArray} {σ : Rd} {k i r : Int} (h : σ.w.k = 1 ∨ σ.w.k = 2) : σ.spell s k i r = if σ.fits r then σ.grown r else (σ.grown r).fail σ.w.l σ.w.c 3 := by
  unfold Rd.spell Rd.opened
  rw [if_pos h]
/-- What a name's rune does. -/
theorem take_named {s : ByteArray} {σ : Rd} {i : Nat} {r : Int} (hraw : rawB s i r = false) (hk : σ.w.k = 1) (hm : σ.remark = false) (hc : letterB r = true ∨ digitB r = true) :
    σ.take s i r = if σ.many + 1 ≤ 16 then { σ with many := σ.many + 1 } else ({ σ with many := σ.many + 1 } : Rd).fail σ.w.l σ.w.c 3 := by
  have hsp : ∀ k, σ.spell s k i r = if σ.many + 1 ≤ 16 then { σ with many := σ.many + 1 } else ({ σ with many := σ.many + 1 } : Rd).fail σ.w.l σ.w.c 3 := by
    intro k
    rw [spell_open (.inl hk), Rd.fits, Rd.grown, if_pos hk, if_pos hk]
    simp
  rcases hc with hc | hc
  · rw [take6 (by rw [hm]; exact use_letter hraw hc) (by omega)]
    exact hsp 1
  · rw [take7 (by rw [hm]; exact use_digit hraw hc)]
    exact hsp 2
theorem name_run (s : ByteArray) : ∀ (f p q N : Nat) (σ : Rd), p ≤ s.size → s.size ≤ p + f → s.size ≤ p + N → σ.f = 0 → σ.w.k = 1 → σ.remark = false → σ.many = q → q ≤ 16 →
    ((runEnd s false f p q).2 ≤ 16 → ∃ N', s.size ≤ (runEnd s false f p q).1 + N' ∧ Rd.run s N p σ = Rd.run s N' (runEnd s false f p q).1 { σ with many := (runEnd s false f p q).2, col := σ.col + ((runEnd s false f p q).2 - q) }) ∧
    (16 < (runEnd s false f p q).2 → (Rd.run s N p σ).f = 3 ∧ (Rd.run s N p σ).bl = σ.w.l ∧ (Rd.run s N p σ).bc = σ.w.c) := by
  intro f
  induction f with
  | zero =>
    intro p q N σ hp hf hN h0 hk hm hq h16
    refine ⟨fun _ => ⟨N, by rw [runEnd]; exact hN, ?_⟩, fun h => by rw [runEnd] at h; simp only at h; omega⟩
    rw [runEnd]
    simp only
    congr 1
    cases σ
    simp only at hq
    subst hq
    simp
  | succ f ih =>
    intro p q N σ hp hf hN h0 hk hm hq h16
    have stay : runEnd s false (f + 1) p q = (p, q) → ((runEnd s false (f + 1) p q).2 ≤ 16 → ∃ N', s.size ≤ (runEnd s false (f + 1) p q).1 + N' ∧ Rd.run s N p σ = Rd.run s N' (runEnd s false (f + 1) p q).1 { σ with many := (runEnd s false (f + 1) p q).2, col := σ.col + ((runEnd s false (f + 1) p q).2 - q) }) ∧
    (16 < (runEnd s false (f + 1) p q).2 → (Rd.run s N p σ).f = 3 ∧ (Rd.run s N p σ).bl = σ.w.l ∧ (Rd.run s N p σ).bc = σ.w.c) := by
      intro e
      rw [e]
      refine ⟨fun _ => ⟨N, hN, ?_⟩, fun h => by simp only at h; omega⟩
      simp only
      congr 1
      cases σ
      simp only at hq
      subst hq
      simp
    by_cases hlt : p < s.size
    · by_cases hs : (atP s p).2 = 0 ∨ stopB false (atP s p).1 = true
      · exact stay (by rw [runEnd, if_pos hlt, if_pos hs])
      · have h2 : (atP s p).2 ≠ 0 := fun e => hs (.inl e)
        obtain ⟨hraw, hdec⟩ := rawB_good hlt h2
        have hc : letterB ((Utf8.decode s p).1 : Int) = true ∨ digitB ((Utf8.decode s p).1 : Int) = true := by
          rw [hdec] at hs
          cases hl : letterB ((Utf8.decode s p).1 : Int)
          · cases hd : digitB ((Utf8.decode s p).1 : Int)
            · exact absurd (.inr (by simp [stopB, hl, hd])) hs
            · exact .inr rfl
          · exact .inl rfl
        have hc10 : ((Utf8.decode s p).1 : Int) ≠ 10 := by
          rcases hc with hc | hc
          · have := of_decide_eq_true hc; omega
          · have := of_decide_eq_true hc; omega
        obtain ⟨N, rfl⟩ : ∃ N', N = N' + 1 := ⟨N - 1, by omega⟩
        have ht := take_named (σ := σ) hraw hk hm hc
        have he : runEnd s false (f + 1) p q = runEnd s false f (p + (Utf8.decode s p).2) (q + 1) := by rw [runEnd, if_pos hlt, if_neg hs, hdec]
        have hw : 1 ≤ (Utf8.decode s p).2 := by rw [← hdec]; omega
        have hle : p + (Utf8.decode s p).2 ≤ s.size := by rw [← hdec]; exact atP_le s p hlt
        rw [he]
        by_cases hq16 : q + 1 ≤ 16
        · rw [if_pos (by omega)] at ht
          have hr : Rd.run s (N + 1) p σ = Rd.run s N (p + (Utf8.decode s p).2) { σ with many := σ.many + 1, col := σ.col + 1 } := by
            rw [run_go hlt (by rw [ht]; exact h0), ht, pass_not hc10]
          rw [hr]
          obtain ⟨i1, i2⟩ := ih (p + (Utf8.decode s p).2) (q + 1) N { σ with many := σ.many + 1, col := σ.col + 1 } hle (by omega) (by omega) h0 hk hm (by simp only; omega) hq16
          refine ⟨fun h => ?_, i2⟩
          obtain ⟨N', h1, h2⟩ := i1 h
          refine ⟨N', h1, ?_⟩
          rw [h2]
          congr 1
          simp only [Rd.mk.injEq, true_and, and_true]
          omega
        · rw [if_neg (by omega)] at ht
          have hr : Rd.run s (N + 1) p σ = ({ σ with many := σ.many + 1 } : Rd).fail σ.w.l σ.w.c 3 := by
            rw [run_stop hlt (by rw [ht]; simp [Rd.fail]), ht]
          rw [hr]
          refine ⟨fun h => ?_, fun _ => ⟨rfl, rfl, rfl⟩⟩
          have := (runEnd_le s false f (p + (Utf8.decode s p).2) (q + 1) hle).2.2.1
          omega
    · exact stay (by rw [runEnd, if_neg hlt])
end Go.Proofs.YtkfplffcegbdfaaGreatDoor
