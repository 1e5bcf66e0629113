/-
  What is right stays right with more registers, a greater frame; an instruction more that is right leaves it right, and one that is not has its own error: plainly. No condition beyond those that each theorem states.
-/
import Derived.Test.YtjahchoaaggkiaaDoorMiU
import Derived.Test.YtjahchoaaggkiaaDoorMiCt
namespace Go.Proofs.YtjahchoaaggkiaaDoor

def wideM (m : Mm) : Mm := ⟨64, m.args, m.ret, m.saved⟩
def wideG (t : Gg) : Gg := ⟨400, t.blocks⟩
def plusB (b : Bb) (x : Ii) : Bb := ⟨b.ins ++ [x], b.tm⟩
/-- A target of one block: an instruction, and a trap. -/
def soloG (fr : Int) (x : Ii) : Gg := ⟨fr, [⟨[x], ⟨4, 0, 0, 0⟩⟩]⟩
theorem wide_right {m : Mm} (h : m.rightB = true) : (wideM m).rightB = true := by
  have i := (right_iff m).1 h
  have hr := right_regs h
  have hs := i.small
  have e1 : (wideM m).regs = 64 := rfl
  have e2 : (wideM m).args = m.args := rfl
  have e3 : (wideM m).saved = m.saved := rfl
  simp only [Mm.smallB, Bool.and_eq_true, decide_eq_true_eq] at hs
  have hreg : ∀ r, m.regB r = true → (wideM m).regB r = true := fun r hr2 => by
    simp only [Mm.regB, Bool.and_eq_true, decide_eq_true_eq] at hr2 ⊢
    rw [e1]
    omega
  refine (right_iff _).2 ⟨?_, ?_, hreg _ i.ret, ?_, i.unlike, i.rise, i.apart⟩
  · simp only [Mm.smallB, Bool.and_eq_true, decide_eq_true_eq]
    rw [e1, e2, e3]
    omega
  · have := i.args
    rw [List.all_eq_true] at this ⊢
    exact fun r hr => hreg r (this r hr)
  · have := i.saved
    rw [List.all_eq_true] at this ⊢
    exact fun r hr => hreg r (this r hr)
theorem below_more {n k : Int} {l : List Int} (h : n ≤ k) (hb : belowB n l = true) : belowB k l = true := by
  rw [below_iff] at hb ⊢
  exact fun x hx => ⟨(hb x hx).1, by have := (hb x hx).2; omega⟩
theorem ofIns_wide {m : Mm} {fr k : Int} {x : Ii} (hm : m.regs ≤ 64) (hf : fr ≤ k) (h : ofInsN m fr x = 0) : ofInsN (wideM m) k x = 0 ∧ ofInsN (wideM m) fr x = 0 ∧ ofInsN m k x = 0 := by
  unfold ofInsN at h
  have e1 : isInsT (wideM m) x = isInsT m x := rfl
  cases h1 : isInsT m x
  · rw [h1] at h; cases h
  rw [h1, if_pos rfl] at h
  cases h2 : belowB m.regs [x.dst, x.a, x.b]
  · rw [h2] at h; cases h
  rw [h2, if_pos rfl] at h
  have h3 : belowB (wideM m).regs [x.dst, x.a, x.b] = true := below_more (n := m.regs) hm h2
  cases h4 : hasB x.op 48
  · unfold ofInsN
    rw [e1, h1, h2, h3, h4]
    exact ⟨rfl, rfl, rfl⟩
  cases h5 : belowB fr [x.imm]
  · rw [h4, h5] at h; cases h
  have h6 := below_more hf h5
  unfold ofInsN
  rw [e1, h1, h2, h3, h4, h5, h6]
  exact ⟨rfl, rfl, rfl⟩
theorem ofEnd_wide {m : Mm} {nb : Int} {t : Tt} (hm : m.regs ≤ 64) (h : ofEndN m nb t = 0) : ofEndN (wideM m) nb t = 0 := by
  unfold ofEndN at h ⊢
  cases h1 : isEndT t
  · rw [h1] at h; cases h
  rw [h1, if_pos rfl] at h
  cases h2 : readsWellT m t
  · rw [h2] at h; cases h
  rw [h2, if_pos rfl] at h
  have h3 : readsWellT (wideM m) t = true := by
    unfold readsWellT at h2 ⊢
    by_cases hk : t.kind = 3
    · rw [if_pos hk] at h2 ⊢
      exact h2
    · rw [if_neg hk] at h2 ⊢
      exact below_more (n := m.regs) hm h2
  rw [if_pos rfl, h3, if_pos rfl]
  exact h
theorem insErr_all {m : Mm} {fr : Int} : ∀ {l : List Ii}, insErr m fr l = 0 ↔ ∀ x ∈ l, ofInsN m fr x = 0
  | [] => by simp [insErr]
  | x :: l => by
    unfold insErr
    by_cases h : ofInsN m fr x = 0
    · rw [if_pos h, insErr_all]
      simp [h]
    · rw [if_neg h]
      simp [h]
theorem blErr_all {m : Mm} {fr nb : Int} : ∀ {l : List Bb}, blErr m fr nb l = 0 ↔ ∀ b ∈ l, insErr m fr b.ins = 0 ∧ ofEndN m nb b.tm = 0
  | [] => by simp [blErr]
  | b :: l => by
    unfold blErr
    by_cases h : insErr m fr b.ins = 0
    · rw [if_pos h]
      by_cases h2 : ofEndN m nb b.tm = 0
      · rw [if_pos h2, blErr_all]
        simp [h, h2]
      · rw [if_neg h2]
        simp [h, h2]
    · rw [if_neg h]
      simp [h]
theorem right_all {m : Mm} {t : Gg} : rightT m t = 0 ↔ m.rightB = true ∧ smallT t = true ∧ ∀ b ∈ t.blocks, (∀ x ∈ b.ins, ofInsN m t.frame x = 0) ∧ ofEndN m t.blocks.length b.tm = 0 := by
  unfold rightT
  cases h1 : m.rightB
  · simp
  cases h2 : smallT t
  · simp
  simp only [if_true, true_and]
  rw [blErr_all]
  simp only [insErr_all]
theorem small_frame {t : Gg} (h : smallT t = true) : 0 ≤ t.frame ∧ t.frame ≤ 400 := by
  unfold smallT at h
  simp at h
  omega
theorem small_wide {t : Gg} (h : smallT t = true) : smallT (wideG t) = true := by
  unfold smallT at h ⊢
  simp only [Bool.and_eq_true] at h ⊢
  obtain ⟨⟨⟨⟨a, b⟩, c⟩, d⟩, e⟩ := h
  exact ⟨⟨⟨⟨a, b⟩, rfl⟩, rfl⟩, e⟩
theorem regs_few {m : Mm} (h : m.rightB = true) : m.regs ≤ 64 := by
  have hs := ((right_iff m).1 h).small
  unfold Mm.smallB at hs
  simp at hs
  omega
/-- What is right stays right: with 64 registers, with a frame of 400, with both. -/
theorem right_wide {m : Mm} {t : Gg} (h : rightT m t = 0) : rightT (wideM m) t = 0 ∧ rightT m (wideG t) = 0 ∧ rightT (wideM m) (wideG t) = 0 := by
  obtain ⟨h1, h2, h3⟩ := right_all.1 h
  have hf := (small_frame h2).2
  have hm := regs_few h1
  refine ⟨right_all.2 ⟨wide_right h1, h2, fun b hb => ?_⟩, right_all.2 ⟨h1, small_wide h2, fun b hb => ?_⟩, right_all.2 ⟨wide_right h1, small_wide h2, fun b hb => ?_⟩⟩
  · exact ⟨fun x hx => (ofIns_wide hm hf ((h3 b hb).1 x hx)).2.1, ofEnd_wide hm (h3 b hb).2⟩
  · exact ⟨fun x hx => (ofIns_wide hm hf ((h3 b hb).1 x hx)).2.2, (h3 b hb).2⟩
  · exact ⟨fun x hx => (ofIns_wide hm hf ((h3 b hb).1 x hx)).1, ofEnd_wide hm (h3 b hb).2⟩
theorem solo_right {m : Mm} {t : Gg} {x : Ii} (h : rightT m t = 0) : rightT m (soloG t.frame x) = ofInsN m t.frame x := by
  obtain ⟨h1, h2, _⟩ := right_all.1 h
  have hr := (right_regs h1).1
  have h3 : smallT (soloG t.frame x) = true := by
    have := small_frame h2
    unfold smallT soloG
    simp
    omega
  have h4 : ofEndN m 1 ⟨4, 0, 0, 0⟩ = 0 := by
    rw [end_trap m 1 ⟨4, 0, 0, 0⟩ hr.1 (by omega) rfl]
    rfl
  unfold rightT
  rw [h1, h3, if_pos rfl, if_pos rfl]
  show blErr m t.frame 1 [⟨[x], ⟨4, 0, 0, 0⟩⟩] = _
  unfold blErr insErr
  by_cases h5 : ofInsN m t.frame x = 0
  · rw [if_pos h5]
    simp [insErr, blErr, h4, h5]
  · rw [if_neg h5]
    simp [h5]
theorem insErr_plus {m : Mm} {fr : Int} {x : Ii} : ∀ {l : List Ii}, insErr m fr l = 0 → insErr m fr (l ++ [x]) = ofInsN m fr x
  | [], _ => by
    simp [insErr]
    intro h
    exact h.symm
  | y :: l, h => by
    unfold insErr at h
    by_cases hy : ofInsN m fr y = 0
    · rw [if_pos hy] at h
      rw [List.cons_append]
      unfold insErr
      rw [if_pos hy, insErr_plus h]
    · rw [if_neg hy] at h
      exact absurd h hy
theorem blErr_plus {m : Mm} {fr nb : Int} {x : Ii} : ∀ {l : List Bb} {k : Nat} {b : Bb}, blErr m fr nb l = 0 → l[k]? = some b → blErr m fr nb (l.set k (plusB b x)) = ofInsN m fr x
  | [], k, b, _, hk => by simp at hk
  | y :: l, 0, b, h, hk => by
    simp at hk
    subst hk
    have h1 := blErr_all.1 h
    have h2 := h1 y (by simp)
    have h3 : blErr m fr nb l = 0 := blErr_all.2 fun b hb => h1 b (by simp [hb])
    rw [List.set_cons_zero]
    unfold blErr
    show (if insErr m fr (y.ins ++ [x]) = 0 then _ else insErr m fr (y.ins ++ [x])) = _
    rw [insErr_plus h2.1]
    show (if ofInsN m fr x = 0 then (if ofEndN m nb y.tm = 0 then _ else _) else _) = _
    rw [if_pos h2.2, h3]
    split
    · rename_i h; exact h.symm
    · rfl
  | y :: l, k + 1, b, h, hk => by
    have h1 := blErr_all.1 h
    have h2 := h1 y (by simp)
    have h3 : blErr m fr nb l = 0 := blErr_all.2 fun b hb => h1 b (by simp [hb])
    rw [List.set_cons_succ]
    unfold blErr
    rw [if_pos h2.1, if_pos h2.2]
    exact blErr_plus h3 (by simpa using hk)
/-- An instruction more in a right target has the error that it has alone. -/
theorem right_plus {m : Mm} {t : Gg} {x : Ii} {k : Nat} {b : Bb} (h : rightT m t = 0) (hk : t.blocks[k]? = some b) (hl : b.ins.length < 4000) : rightT m ⟨t.frame, t.blocks.set k (plusB b x)⟩ = rightT m (soloG t.frame x) := by
  rw [solo_right h]
  obtain ⟨h1, h2, h3⟩ := right_all.1 h
  have h4 : smallT ⟨t.frame, t.blocks.set k (plusB b x)⟩ = true := by
    unfold smallT at h2 ⊢
    simp at h2 ⊢
    refine ⟨h2.1, fun y hy => ?_⟩
    rcases List.mem_or_eq_of_mem_set hy with hy | rfl
    · exact h2.2 y hy
    · simp [plusB]
      omega
  have h5 : blErr m t.frame t.blocks.length t.blocks = 0 := by
    unfold rightT at h
    rw [h1, h2, if_pos rfl, if_pos rfl] at h
    exact h
  unfold rightT
  rw [h1, h4, if_pos rfl, if_pos rfl]
  show blErr m t.frame (t.blocks.set k (plusB b x)).length (t.blocks.set k (plusB b x)) = _
  rw [List.length_set]
  exact blErr_plus h5 hk
end Go.Proofs.YtjahchoaaggkiaaDoor
