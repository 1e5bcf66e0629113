/-
  The reader goes through a name as the document's run does. No condition beyond those that each theorem states.
  The reader goes through a number as the document's value does. No condition beyond those that each theorem states.
-/
import Derived.Test.YthiipgahbmoiiaaGreatDoorPk20
namespace Go.Proofs.YthiipgahbmoiiaaGreatDoor
theorem use_plain {s : ByteArray} {i : Nat} {c : Int} (hraw : rawB s i c = false) (h10 : c ≠ 10) (hb : ¬ (c = 32 ∨ c = 9)) (h59 : c ≠ 59) :
    useOf s false i c = if signB c then 4 else if c = 45 ∧ behindB s i then 5 else if letterB c then 6 else if digitB c then 7 else 0 := by
  unfold useOf
  rw [if_neg (by simp [hraw]), if_neg h10, if_neg (by simpa using hb), if_neg h59]
theorem use_letter {s : ByteArray} {i : Nat} {c : Int} (hraw : rawB s i c = false) (hc : letterB c = true) : useOf s false i c = 6 := by
  have h := of_decide_eq_true hc
  have hs : signB c = false := decide_eq_false (by omega)
  rw [use_plain hraw (by omega) (by omega) (by omega), if_neg (by simp [hs]), if_neg (by omega), if_pos hc]
theorem use_digit {s : ByteArray} {i : Nat} {c : Int} (hraw : rawB s i c = false) (hc : digitB c = true) : useOf s false i c = 7 := by
  have h := of_decide_eq_true hc
  have hs : signB c = false := decide_eq_false (by omega)
  have hl : letterB c = false := decide_eq_false (by omega)
  rw [use_plain hraw (by omega) (by omega) (by omega), if_neg (by simp [hs]), if_neg (by omega), if_neg (by simp [hl]), if_pos hc]
theorem take6 {s : ByteArray} {σ : Rd} {i : Nat} {r : Int} (hu : useOf s σ.remark i r = 6) (hk : σ.w.k ≠ 2) : σ.take s i r = σ.spell s 1 i r := by simp [Rd.take, hu, hk]
theorem take62 {s : ByteArray} {σ : Rd} {i : Nat} {r : Int} (hu : useOf s σ.remark i r = 6) (hk : σ.w.k = 2) : σ.take s i r = σ.fail σ.line σ.col 6 := by simp [Rd.take, hu, hk]
theorem take7 {s : ByteArray} {σ : Rd} {i : Nat} {r : Int} (hu : useOf s σ.remark i r = 7) : σ.take s i r = σ.spell s 2 i r := by simp [Rd.take, hu]
theorem take0 {s : ByteArray} {σ : Rd} {i : Nat} {r : Int} (hu : useOf s σ.remark i r = 0) : σ.take s i r = σ.fail σ.line σ.col 6 := by simp [Rd.take, hu]
theorem take1 {s : ByteArray} {σ : Rd} {i : Nat} {r : Int} (hu : useOf s σ.remark i r = 1) : σ.take s i r = { σ.begin_ s 4 i with remark := false } := by simp [Rd.take, hu]
theorem take2 {s : ByteArray} {σ : Rd} {i : Nat} {r : Int} (hu : useOf s σ.remark i r = 2) : σ.take s i r = ({ σ with remark := true } : Rd).shut s i := by simp [Rd.take, hu]
theorem take3 {s : ByteArray} {σ : Rd} {i : Nat} {r : Int} (hu : useOf s σ.remark i r = 3) : σ.take s i r = σ.shut s i := by simp [Rd.take, hu]
theorem take4 {s : ByteArray} {σ : Rd} {i : Nat} {r : Int} (hu : useOf s σ.remark i r = 4) : σ.take s i r = σ.begin_ s 3 i := by simp [Rd.take, hu]
theorem take5 {s : ByteArray} {σ : Rd} {i : Nat} {r : Int} (hu : useOf s σ.remark i r = 5) : σ.take s i r = { σ.begin_ s 2 i with below := true } := by simp [Rd.take, hu]
theorem spell_open {s : ByteArray} {σ : Rd} {k i r : Int} (h : σ.w.k = 1 ∨ σ.w.k = 2) : σ.spell s k i r = if σ.fits r then σ.grown r else (σ.grown r).fail σ.w.l σ.w.c 3 := by
  unfold Rd.spell Rd.opened
  rw [if_pos h]
/-- What a name's rune does. -/
theorem take_named {s : ByteArray} {σ : Rd} {i : Nat} {r : Int} (hraw : rawB s i r = false) (hk : σ.w.k = 1) (hm : σ.remark = false) (hc : letterB r = true ∨ digitB r = true) :
    σ.take s i r = if σ.many + 1 ≤ 16 then { σ with many := σ.many + 1 } else ({ σ with many := σ.many + 1 } : Rd).fail σ.w.l σ.w.c 3 := by
  have hsp : ∀ k, σ.spell s k i r = if σ.many + 1 ≤ 16 then { σ with many := σ.many + 1 } else ({ σ with many := σ.many + 1 } : Rd).fail σ.w.l σ.w.c 3 := by
    intro k
    rw [spell_open (.inl hk), Rd.fits, Rd.grown, if_pos hk, if_pos hk]
    simp
  rcases hc with hc | hc
  · rw [take6 (by rw [hm]; exact use_letter hraw hc) (by omega)]
    exact hsp 1
  · rw [take7 (by rw [hm]; exact use_digit hraw hc)]
    exact hsp 2
theorem name_run (s : ByteArray) : ∀ (f p q N : Nat) (σ : Rd), p ≤ s.size → s.size ≤ p + f → s.size ≤ p + N → σ.f = 0 → σ.w.k = 1 → σ.remark = false → σ.many = q → q ≤ 16 →
    ((runEnd s false f p q).2 ≤ 16 → ∃ N', s.size ≤ (runEnd s false f p q).1 + N' ∧ Rd.run s N p σ = Rd.run s N' (runEnd s false f p q).1 { σ with many := (runEnd s false f p q).2, col := σ.col + ((runEnd s false f p q).2 - q) }) ∧
    (16 < (runEnd s false f p q).2 → (Rd.run s N p σ).f = 3 ∧ (Rd.run s N p σ).bl = σ.w.l ∧ (Rd.run s N p σ).bc = σ.w.c) := by
  intro f
  induction f with
  | zero =>
    intro p q N σ hp hf hN h0 hk hm hq h16
    refine ⟨fun _ => ⟨N, by rw [runEnd]; exact hN, ?_⟩, fun h => by rw [runEnd] at h; simp only at h; omega⟩
    rw [runEnd]
    simp only
    congr 1
    cases σ
    simp only at hq
    subst hq
    simp
  | succ f ih =>
    intro p q N σ hp hf hN h0 hk hm hq h16
    have stay : runEnd s false (f + 1) p q = (p, q) → ((runEnd s false (f + 1) p q).2 ≤ 16 → ∃ N', s.size ≤ (runEnd s false (f + 1) p q).1 + N' ∧ Rd.run s N p σ = Rd.run s N' (runEnd s false (f + 1) p q).1 { σ with many := (runEnd s false (f + 1) p q).2, col := σ.col + ((runEnd s false (f + 1) p q).2 - q) }) ∧
    (16 < (runEnd s false (f + 1) p q).2 → (Rd.run s N p σ).f = 3 ∧ (Rd.run s N p σ).bl = σ.w.l ∧ (Rd.run s N p σ).bc = σ.w.c) := by
      intro e
      rw [e]
      refine ⟨fun _ => ⟨N, hN, ?_⟩, fun h => by simp only at h; omega⟩
      simp only
      congr 1
      cases σ
      simp only at hq
      subst hq
      simp
    by_cases hlt : p < s.size
    · by_cases hs : (atP s p).2 = 0 ∨ stopB false (atP s p).1 = true
      · exact stay (by rw [runEnd, if_pos hlt, if_pos hs])
      · have h2 : (atP s p).2 ≠ 0 := fun e => hs (.inl e)
        obtain ⟨hraw, hdec⟩ := rawB_good hlt h2
        have hc : letterB ((Utf8.decode s p).1 : Int) = true ∨ digitB ((Utf8.decode s p).1 : Int) = true := by
          rw [hdec] at hs
          cases hl : letterB ((Utf8.decode s p).1 : Int)
          · cases hd : digitB ((Utf8.decode s p).1 : Int)
            · exact absurd (.inr (by simp [stopB, hl, hd])) hs
            · exact .inr rfl
          · exact .inl rfl
        have hc10 : ((Utf8.decode s p).1 : Int) ≠ 10 := by
          rcases hc with hc | hc
          · have := of_decide_eq_true hc; omega
          · have := of_decide_eq_true hc; omega
        obtain ⟨N, rfl⟩ : ∃ N', N = N' + 1 := ⟨N - 1, by omega⟩
        have ht := take_named (σ := σ) hraw hk hm hc
        have he : runEnd s false (f + 1) p q = runEnd s false f (p + (Utf8.decode s p).2) (q + 1) := by rw [runEnd, if_pos hlt, if_neg hs, hdec]
        have hw : 1 ≤ (Utf8.decode s p).2 := by rw [← hdec]; omega
        have hle : p + (Utf8.decode s p).2 ≤ s.size := by rw [← hdec]; exact atP_le s p hlt
        rw [he]
        by_cases hq16 : q + 1 ≤ 16
        · rw [if_pos (by omega)] at ht
          have hr : Rd.run s (N + 1) p σ = Rd.run s N (p + (Utf8.decode s p).2) { σ with many := σ.many + 1, col := σ.col + 1 } := by
            rw [run_go hlt (by rw [ht]; exact h0), ht, pass_not hc10]
          rw [hr]
          obtain ⟨i1, i2⟩ := ih (p + (Utf8.decode s p).2) (q + 1) N { σ with many := σ.many + 1, col := σ.col + 1 } hle (by omega) (by omega) h0 hk hm (by simp only; omega) hq16
          refine ⟨fun h => ?_, i2⟩
          obtain ⟨N', h1, h2⟩ := i1 h
          refine ⟨N', h1, ?_⟩
          rw [h2]
          congr 1
          simp only [Rd.mk.injEq, true_and, and_true]
          omega
        · rw [if_neg (by omega)] at ht
          have hr : Rd.run s (N + 1) p σ = ({ σ with many := σ.many + 1 } : Rd).fail σ.w.l σ.w.c 3 := by
            rw [run_stop hlt (by rw [ht]; simp [Rd.fail]), ht]
          rw [hr]
          refine ⟨fun h => ?_, fun _ => ⟨rfl, rfl, rfl⟩⟩
          have := (runEnd_le s false f (p + (Utf8.decode s p).2) (q + 1) hle).2.2.1
          omega
    · exact stay (by rw [runEnd, if_neg hlt])
end Go.Proofs.YthiipgahbmoiiaaGreatDoor
namespace Go.Proofs.YthiipgahbmoiiaaGreatDoor
/-- The signed value so far. -/
def sgn (b : Bool) (v : Int) : Int := if b then -v else v
theorem num_run (s T : ByteArray) (a e : Nat) (he : e ≤ s.size) (hT : T.size = e - a) (hg : ∀ k, k < T.size → T.get! k = s.get! (a + k)) (hD : Digs T) :
    ∀ (d p N : Nat) (σ : Rd), a ≤ p → p + d = e → (∀ k, p ≤ k → k < e → 48 ≤ (s.get! k).toNat ∧ (s.get! k).toNat ≤ 57) → s.size ≤ p + N → σ.f = 0 → σ.w.k = 2 → σ.remark = false → σ.w.n = sgn σ.below (valT T (p - a)) → valT T (p - a) ≤ 1099511627776 →
    (valOk T = true → ∃ N', s.size ≤ e + N' ∧ Rd.run s N p σ = Rd.run s N' e { σ with w := { σ.w with n := sgn σ.below (valT T T.size) }, col := σ.col + d }) ∧
    (valOk T = false → (Rd.run s N p σ).f = 3 ∧ (Rd.run s N p σ).bl = σ.w.l ∧ (Rd.run s N p σ).bc = σ.w.c) := by
  intro d
  induction d with
  | zero =>
    intro p N σ hap hpe hdig hN h0 hk hm hn hv
    have hpe' : p = e := by omega
    subst hpe'
    rw [← hT] at hn hv
    refine ⟨fun _ => ⟨N, hN, ?_⟩, fun h => ?_⟩
    · congr 1
      rcases σ with ⟨_, _, ⟨_, _, _, _, _⟩, _, _, _, _, _, _, _, _⟩
      simp only at hn
      subst hn
      simp
    · unfold valOk at h
      exact absurd hv (of_decide_eq_false h)
  | succ d ih =>
    intro p N σ hap hpe hdig hN h0 hk hm hn hv
    have hlt : p < s.size := by omega
    obtain ⟨hb1, hb2⟩ := hdig p (Nat.le_refl _) (by omega)
    have hat := atP_one s p hlt (by omega)
    have h2 : (atP s p).2 ≠ 0 := by rw [hat]; simp
    obtain ⟨hraw, hdec⟩ := rawB_good hlt h2
    rw [hat] at hdec
    rw [← hdec] at hraw
    have hc : digitB ((s.get! p).toNat : Int) = true := by simp [digitB]; omega
    obtain ⟨N, rfl⟩ : ∃ N', N = N' + 1 := ⟨N - 1, by omega⟩
    have hTp : T.get! (p - a) = s.get! p := by rw [hg (p - a) (by omega)]; congr 1; omega
    have hvn : valT T (p - a + 1) = 10 * valT T (p - a) + (((s.get! p).toNat : Int) - 48) := by
      rw [valT, hTp, if_neg (by omega)]
    have hv0 := valT_pos hD (p - a) (by omega)
    have e1 : p + 1 - a = p - a + 1 := by omega
    have ht : σ.take s p ((s.get! p).toNat : Int) = if σ.fits ((s.get! p).toNat : Int) then σ.grown ((s.get! p).toNat : Int) else (σ.grown ((s.get! p).toNat : Int)).fail σ.w.l σ.w.c 3 := by
      rw [take7 (by rw [hm]; exact use_digit hraw hc)]
      exact spell_open (.inr hk)
    have hnn : σ.w.n * 10 + (if σ.below then -(((s.get! p).toNat : Int) - 48) else ((s.get! p).toNat : Int) - 48) = sgn σ.below (valT T (p - a + 1)) := by
      rw [hn, hvn]
      unfold sgn
      split <;> omega
    have hfit : σ.fits ((s.get! p).toNat : Int) = decide (valT T (p - a + 1) ≤ 1099511627776) := by
      rw [Rd.fits, if_neg (by omega), hnn, boundB]
      apply decide_eq_decide.2
      rw [hvn]
      unfold sgn
      split <;> omega
    have hgr : σ.grown ((s.get! p).toNat : Int) = { σ with w := { σ.w with n := sgn σ.below (valT T (p - a + 1)) } } := by
      rw [Rd.grown, if_neg (by omega), hnn]
    rw [hgr, hfit] at ht
    by_cases hle : valT T (p - a + 1) ≤ 1099511627776
    · rw [if_pos (by simpa using hle)] at ht
      have hr : Rd.run s (N + 1) p σ = Rd.run s N (p + 1) { σ with w := { σ.w with n := sgn σ.below (valT T (p - a + 1)) }, col := σ.col + 1 } := by
        rw [run_go hlt (by rw [← hdec, ht]; exact h0), ← hdec, ht, pass_not (by omega)]
      rw [hr]
      obtain ⟨i1, i2⟩ := ih (p + 1) N { σ with w := { σ.w with n := sgn σ.below (valT T (p - a + 1)) }, col := σ.col + 1 } (by omega) (by omega) (fun k h1 h2 => hdig k (by omega) h2) (by omega) h0 hk hm (by rw [e1]) (by rw [e1]; exact hle)
      refine ⟨fun h => ?_, i2⟩
      obtain ⟨N', h1, h2⟩ := i1 h
      refine ⟨N', h1, ?_⟩
      rw [h2]
      congr 1
      simp only [Rd.mk.injEq, true_and, and_true]
      omega
    · rw [if_neg (by simpa using hle)] at ht
      have hr : Rd.run s (N + 1) p σ = ({ σ with w := { σ.w with n := sgn σ.below (valT T (p - a + 1)) } } : Rd).fail σ.w.l σ.w.c 3 := by
        rw [run_stop hlt (by rw [← hdec, ht]; simp [Rd.fail]), ← hdec, ht]
      rw [hr]
      refine ⟨fun h => ?_, fun _ => ⟨rfl, rfl, rfl⟩⟩
      have h4 := valT_le hD (T.size - (p - a + 1)) (p - a + 1) (by omega)
      have e2 : p - a + 1 + (T.size - (p - a + 1)) = T.size := by omega
      rw [e2] at h4
      unfold valOk at h
      have := of_decide_eq_true h
      omega

/-- The document's state ahead of a place, and the program's. -/
structure Rel (s : ByteArray) (σ : Rd) (ws : List Wd) (line col : Int) (rem : Bool) (i : Nat) : Prop where
  f : σ.f = 0
  line : σ.line = line
  col : σ.col = col
  rem : σ.remark = rem
  words : (σ.shut s i).ws = ws
  over : (σ.w.k = 1 ∨ σ.w.k = 2) → i < s.size → (atP s i).2 ≠ 0 → letterB (atP s i).1 = false ∧ digitB (atP s i).1 = false

/-- A state whose draft is whole. -/
theorem Rel.of_done {s : ByteArray} {σ : Rd} {i : Nat} {ws : List Wd} (x : Wd) (hf : σ.f = 0) (hk : σ.w.k ≠ 0) (hx : (if σ.w.k = 4 then σ.w else { σ.w with t := cutText s σ.frm i }) = x) (hw : σ.ws ++ [x] = ws)
    (ho : (σ.w.k = 1 ∨ σ.w.k = 2) → i < s.size → (atP s i).2 ≠ 0 → letterB (atP s i).1 = false ∧ digitB (atP s i).1 = false) : Rel s σ ws σ.line σ.col σ.remark i :=
  ⟨hf, rfl, rfl, rfl, by rw [← hw, ← hx]; unfold Rd.shut; rw [if_neg hk], ho⟩
end Go.Proofs.YthiipgahbmoiiaaGreatDoor
