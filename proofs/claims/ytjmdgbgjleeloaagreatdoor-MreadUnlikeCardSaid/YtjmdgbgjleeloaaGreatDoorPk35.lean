/-
  What is read of a text, where nothing is broken, can be written; how many lines it has (plainly). No condition beyond those that each theorem states.
-/
import Derived.Test.YtjmdgbgjleeloaaGreatDoorPk34
namespace Go.Proofs.YtjmdgbgjleeloaaGreatDoor

section
variable {c : Cu}
theorem fl_fail {e : Int} (he : e ≠ 0) : (c.fail e).fault ≠ 0 := by
  unfold Cu.fail
  split
  · rename_i h
    rcases h with h | h
    · exact absurd h he
    · exact h
  · exact he
theorem ok_name (h : c.name.fault = 0) : c.fault = 0 ∧ c.name = c.pass ∧ 0 < c.left.length := by
  unfold Cu.name at h ⊢
  split at h
  · rename_i hn
    rw [if_pos hn]
    refine ⟨h, rfl, ?_⟩
    cases hl : c.left with
    | nil => rw [hl] at hn; cases hn
    | cons x r => simp
  · exact absurd h (fl_fail (by decide))
theorem pass_less (h : 0 < c.left.length) : c.pass.left.length + 1 ≤ c.left.length := by
  simp only [Cu.pass, List.length_tail]; omega
theorem ok_reg (h : c.regC.fault = 0) : c.fault = 0 ∧ (0 ≤ c.regN ∧ c.regN < 64) ∧ c.regC.left.length + 1 ≤ c.left.length := by
  unfold Cu.regC at h ⊢
  unfold Cu.regN
  cases hr : regT c.nameT with
  | none => rw [hr] at h; exact absurd h (fl_fail (by decide))
  | some n =>
    rw [hr] at h
    obtain ⟨h1, h2, h3⟩ := ok_name h
    have hn := (numT_is hr).1
    refine ⟨h1, ⟨by show 0 ≤ (n : Int); omega, by show (n : Int) < 64; omega⟩, ?_⟩
    show c.name.left.length + 1 ≤ _
    rw [h2]
    exact pass_less h3
theorem ok_num {a b : Int} (h : (c.num a b).fault = 0) : c.fault = 0 ∧ (a ≤ c.numN a b ∧ c.numN a b ≤ b) ∧ (c.num a b).left.length + 1 ≤ c.left.length := by
  unfold Cu.num at h ⊢
  unfold Cu.numN
  cases h1 : (numP c.left.head?).2
  · rw [h1] at h; exact absurd h (fl_fail (by decide))
  · rw [h1, if_pos rfl] at h
    cases h2 : c.numFits a b
    · rw [h2] at h; exact absurd h (fl_fail (by decide))
    · rw [h2, if_pos rfl] at h
      have h3 : a ≤ (numP c.left.head?).1 ∧ (numP c.left.head?).1 ≤ b := by unfold Cu.numFits at h2; simpa using h2
      refine ⟨h, h3, ?_⟩
      refine pass_less ?_
      cases hl : c.left with
      | nil => rw [hl] at h1; cases h1
      | cons x r => simp
theorem ok_slot (h : c.slotC.fault = 0) : c.fault = 0 := by
  unfold Cu.slotC at h
  split at h
  · exact (ok_name h).1
  · exact h
theorem slot_range (h : c.slotB = true) : 0 ≤ c.slotN ∧ c.slotN < 400 := by
  unfold Cu.slotB at h
  unfold Cu.slotN
  cases hs : slotT c.nameT with
  | none => rw [hs] at h; cases h
  | some n =>
    have := (numT_is hs).1
    exact ⟨by show 0 ≤ (n : Int); omega, by show (n : Int) < 400; omega⟩
theorem slot_less (h : c.slotB = true) (hf : c.slotC.fault = 0) : c.slotC.left.length + 1 ≤ c.left.length := by
  unfold Cu.slotC at hf ⊢
  rw [if_pos h] at hf ⊢
  obtain ⟨_, h2, h3⟩ := ok_name hf
  rw [h2]
  exact pass_less h3
theorem ok_over {b : Bool} (h : (c.over b).fault = 0) : c.fault = 0 := by cases b <;> exact h
theorem ok_key {s : ByteArray} (h : (c.key s).fault = 0) : c.fault = 0 := ok_over h
theorem ok_is {s : ByteArray} (h : (c.is s).fault = 0) : c.fault = 0 := ok_over h
theorem key_less {s : ByteArray} (h : c.keyB s = true) : (c.key s).left.length + 1 ≤ c.left.length := by
  unfold Cu.key Cu.over
  rw [if_pos h]
  refine pass_less ?_
  cases hl : c.left with
  | nil => unfold Cu.keyB at h; rw [hl] at h; cases h
  | cons x r => simp
theorem is_less {s : ByteArray} (h : c.isB s = true) : (c.is s).left.length + 1 ≤ c.left.length := by
  unfold Cu.is Cu.over
  rw [if_pos h]
  refine pass_less ?_
  cases hl : c.left with
  | nil => unfold Cu.isB at h; rw [hl] at h; cases h
  | cons x r => simp
theorem ok_mark1 {s : ByteArray} (h : (c.mark [s]).fault = 0) : c.fault = 0 := by
  unfold Cu.mark at h
  split at h
  · unfold Cu.mark at h; exact ok_is h
  · exact absurd h (fl_fail (by decide))
theorem ok_end (h : c.end_.fault = 0) : c.fault = 0 ∧ (c.end_.left.length + 1 ≤ c.left.length ∨ c.left.length = 0 ∧ c.end_.left.length = 0) := by
  unfold Cu.end_ at h ⊢
  split at h
  · rename_i he
    rw [if_pos he]
    refine ⟨h, .inl (pass_less ?_)⟩
    cases hl : c.left with
    | nil => rw [hl] at he; cases he
    | cons x r => simp
  · rename_i he
    split at h
    · exact absurd h (fl_fail (by decide))
    · rename_i hm
      rw [if_neg he, if_neg hm]
      have : c.left.length = 0 := by
        unfold Cu.more at hm
        cases hl : c.left with
        | nil => rfl
        | cons x r => rw [hl] at hm; simp at hm
      exact ⟨h, .inr ⟨this, this⟩⟩
theorem ok_keyed {s : ByteArray} (h : (c.keyedP s).fault = 0) : c.fault = 0 ∧ (c.keyedP s).left.length + 1 ≤ c.left.length := by
  unfold Cu.keyedP at h ⊢
  split at h
  · rename_i hk
    rw [if_pos hk]
    exact ⟨ok_key h, key_less hk⟩
  · exact absurd h (fl_fail (by decide))
theorem op_range (s : ByteArray) : opT s ≤ 11 := by
  unfold opT
  cases h : (List.range' 1 11).find? fun o => decide (opNameL.getD o ⟨#[]⟩ = s) with
  | none => exact Nat.zero_le _
  | some o =>
    have h1 := List.mem_of_find?_eq_some h
    rw [List.mem_range'] at h1
    obtain ⟨i, hi, rfl⟩ := h1
    show 1 + 1 * i ≤ 11
    omega
theorem opT_small {s : ByteArray} (h : opT s ≠ 0) : opT s ≠ 0 ∧ opT s ≤ 11 := ⟨h, op_range s⟩
end
/-- What makes an instruction right. -/
theorem ins_ok {op dst a b imm callee many : Int} (h0 : partsN op ≠ 0) (h1 : (hasB op 1 || dst == 0) = true) (h2 : (hasB op 2 || a == 0) = true) (h3 : (hasB op 4 || b == 0) = true) (h4 : (hasB op 48 || hasB op 8 && immT imm || imm == 0) = true)
    (h5 : (hasB op 64 && isCallT wideM ⟨op, dst, a, b, imm, callee, [], many⟩ || callee == 0 && many == 0) = true) (r : (0 ≤ dst ∧ dst < 64) ∧ (0 ≤ a ∧ a < 64) ∧ (0 ≤ b ∧ b < 64)) (hs : hasB op 48 = true → 0 ≤ imm ∧ imm < 400) : ofInsN wideM 400 ⟨op, dst, a, b, imm, callee, [], many⟩ = 0 := by
  have e1 : isInsT wideM ⟨op, dst, a, b, imm, callee, [], many⟩ = true := by
    unfold isInsT
    dsimp only
    rw [h1, h2, h3, h4, h5]
    simp [h0]
  have e2 : belowB wideM.regs [dst, a, b] = true := by
    rw [below_iff]
    intro y hy
    simp only [List.mem_cons, List.not_mem_nil, or_false] at hy
    have e : wideM.regs = 64 := rfl
    rw [e]
    rcases hy with rfl | rfl | rfl
    · exact r.1
    · exact r.2.1
    · exact r.2.2
  unfold ofInsN
  dsimp only
  rw [e1, e2, if_pos rfl, if_pos rfl]
  cases h7 : hasB op 48
  · rfl
  · have e3 : belowB 400 [imm] = true := by
      rw [below_iff]
      intro y hy
      simp only [List.mem_singleton] at hy
      subst hy
      exact hs h7
    rw [e3]
    rfl
theorem imm_ok {n : Int} (h : -1099511627776 ≤ n ∧ n ≤ 1099511627776) : immT n = true := by unfold immT; simp [h.1, h.2]
theorem z64 : (0 : Int) ≤ 0 ∧ (0 : Int) < 64 := by decide
theorem ok_value {c : Cu} {n : Int} (hn : 0 ≤ n ∧ n < 64) (h : c.valC.fault = 0) : c.fault = 0 ∧ ofInsN wideM 400 (c.valI n) = 0 := by
  unfold Cu.valC at h
  unfold Cu.valI
  cases h0 : c.slotB
  · rw [h0] at h
    simp only [Bool.false_eq_true, if_false] at h ⊢
    by_cases h1 : opT c.nameT = 0
    · rw [if_pos h1] at h ⊢
      obtain ⟨a1, a2, _⟩ := ok_reg h
      exact ⟨a1, ins_ok (by decide) rfl rfl rfl rfl rfl ⟨hn, a2, z64⟩ (fun e => absurd e (by decide))⟩
    rw [if_neg h1] at h ⊢
    by_cases h2 : opT c.nameT = 1
    · rw [if_pos h2] at h ⊢
      obtain ⟨a1, a2, _⟩ := ok_num h
      obtain ⟨b1, _, _⟩ := ok_name a1
      refine ⟨b1, ins_ok (by decide) rfl rfl rfl ?_ rfl ⟨hn, z64, z64⟩ (fun e => absurd e (by decide))⟩
      show (hasB 1 48 || hasB 1 8 && immT _ || _) = true
      rw [imm_ok a2, show hasB 1 8 = true by decide]
      simp
    rw [if_neg h2] at h ⊢
    by_cases h3 : opT c.nameT = 11
    · rw [if_pos h3] at h ⊢
      obtain ⟨a1, a2, _⟩ := ok_num h
      obtain ⟨g1, g2, _⟩ := ok_reg a1
      obtain ⟨b1, _, _⟩ := ok_name g1
      refine ⟨b1, ins_ok (by decide) rfl rfl rfl ?_ rfl ⟨hn, g2, z64⟩ (fun e => absurd e (by decide))⟩
      show (hasB 11 48 || hasB 11 8 && immT _ || _) = true
      rw [imm_ok a2, show hasB 11 8 = true by decide]
      simp
    rw [if_neg h3] at h ⊢
    obtain ⟨a1, a2, _⟩ := ok_reg h
    obtain ⟨g1, g2, _⟩ := ok_reg a1
    obtain ⟨b1, _, _⟩ := ok_name g1
    have hr := op_range c.nameT
    generalize opT c.nameT = o at *
    have ho : ((List.range 12).all fun (o : Nat) => decide (o = 0 ∨ o = 1 ∨ o = 11) || (!decide (partsN o = 0) && hasB o 1 && hasB o 2 && hasB o 4 && !hasB o 48)) = true := by decide +kernel
    have := List.all_eq_true.1 ho o (List.mem_range.2 (by omega))
    simp only [Bool.or_eq_true, Bool.and_eq_true, Bool.not_eq_true', decide_eq_true_eq, decide_eq_false_iff_not] at this
    rcases this with h4 | ⟨⟨⟨⟨p0, p1⟩, p2⟩, p3⟩, p4⟩
    · omega
    · refine ⟨b1, ins_ok p0 ?_ ?_ ?_ ?_ ?_ ⟨hn, g2, a2⟩ (fun e => ?_)⟩
      · show (hasB (o : Int) 1 || _) = true
        rw [p1]; rfl
      · show (hasB (o : Int) 2 || _) = true
        rw [p2]; rfl
      · show (hasB (o : Int) 4 || _) = true
        rw [p3]; rfl
      · show (_ || (0 : Int) == 0) = true
        simp
      · show (_ || (0 : Int) == 0 && (0 : Int) == 0) = true
        simp
      · have e : hasB (o : Int) 48 = true := e
        rw [p4] at e
        cases e
  · rw [h0] at h
    simp only [if_true] at h ⊢
    have hs := slot_range h0
    exact ⟨ok_slot h, ins_ok (by decide) rfl rfl rfl rfl rfl ⟨hn, z64, z64⟩ (fun _ => hs)⟩
theorem val_less (c : Cu) : c.valC.left.length ≤ c.left.length := mp_valC_len c
/-- A return's register counts for nothing. -/
def tmOk (t : Tt) : Prop := ofEndN wideM 200 (wideB ⟨[], t⟩).tm = 0
theorem end_ok {t : Tt} (h1 : isEndT (wideB ⟨[], t⟩).tm = true) (h2 : readsWellT wideM (wideB ⟨[], t⟩).tm = true) (h3 : (0 ≤ t.t0 ∧ t.t0 < 200) ∧ (0 ≤ t.t1 ∧ t.t1 < 200)) : tmOk t := by
  unfold tmOk ofEndN
  have e : (wideB ⟨[], t⟩).tm.t0 = t.t0 ∧ (wideB ⟨[], t⟩).tm.t1 = t.t1 := by unfold wideB; split <;> exact ⟨rfl, rfl⟩
  have h4 : belowB 200 [(wideB ⟨[], t⟩).tm.t0, (wideB ⟨[], t⟩).tm.t1] = true := by
    rw [below_iff, e.1, e.2]
    intro y hy
    simp only [List.mem_cons, List.not_mem_nil, or_false] at hy
    rcases hy with rfl | rfl
    · exact h3.1
    · exact h3.2
  rw [h1, h2, h4]
  rfl
theorem z200 : (0 : Int) ≤ 0 ∧ (0 : Int) < 200 := by decide
theorem wide_ret {a : Int} (h : a = -1 ∨ 0 ≤ a ∧ a < 64) : tmOk ⟨3, a, 0, 0⟩ := by
  rcases h with rfl | h
  · exact end_ok (by decide) (by decide) ⟨z200, z200⟩
  · have hr : isRegT a = true := by unfold isRegT; simp [h.1, h.2]
    have e : (wideB ⟨[], ⟨3, a, 0, 0⟩⟩).tm = ⟨3, 0, 0, 0⟩ := by unfold wideB; rw [if_pos ⟨rfl, hr⟩]
    refine end_ok ?_ ?_ ⟨z200, z200⟩
    · rw [e]; decide
    · rw [e]; decide
/-- What a line tells can be written. -/
theorem ok_part {c : Cu} (h : c.partC.fault = 0) : c.fault = 0 ∧ (∀ x, c.partP = .inl x → ofInsN wideM 400 x = 0) ∧ (∀ t, c.partP = .inr t → tmOk t) ∧ c.partC.left.length + 1 ≤ c.left.length := by
  unfold Cu.partC at h ⊢
  unfold Cu.partP
  by_cases k0 : c.keyB kSt = true
  · rw [if_pos k0] at h ⊢
    rw [if_pos k0]
    obtain ⟨a1, a2, a3⟩ := ok_reg h
    obtain ⟨b1, b2, b3⟩ := ok_num a1
    obtain ⟨d1, d2, d3⟩ := ok_reg b1
    have hk := key_less k0
    refine ⟨ok_key d1, fun x hx => ?_, fun t ht => by simp at ht, by omega⟩
    simp only [Sum.inl.injEq] at hx
    subst hx
    refine ins_ok (by decide) rfl rfl rfl ?_ rfl ⟨z64, d2, a2⟩ (fun e => absurd e (by decide))
    show (hasB 12 48 || hasB 12 8 && immT _ || _) = true
    rw [imm_ok b2, show hasB 12 8 = true by decide]
    simp
  rw [if_neg k0] at h ⊢
  rw [if_neg k0]
  by_cases k1 : c.keyB kCa = true
  · rw [if_pos k1] at h ⊢
    rw [if_pos k1]
    obtain ⟨a1, a2, a3⟩ := ok_num h
    obtain ⟨b1, b2, b3⟩ := ok_num a1
    have hk := key_less k1
    refine ⟨ok_key b1, fun x hx => ?_, fun t ht => by simp at ht, by omega⟩
    simp only [Sum.inl.injEq] at hx
    subst hx
    refine ins_ok (by decide) rfl rfl rfl rfl ?_ ⟨z64, z64, z64⟩ (fun e => absurd e (by decide))
    have hc : isCallT wideM ⟨13, 0, 0, 0, 0, (c.key kCa).numN 0 99, [], ((c.key kCa).num 0 99).numN 0 8⟩ = true := by
      unfold isCallT
      rw [Bool.and_eq_true, below_iff, below_iff]
      constructor
      · intro y hy
        rw [List.mem_singleton] at hy
        subst hy
        show 0 ≤ (c.key kCa).numN 0 99 ∧ (c.key kCa).numN 0 99 < 100
        omega
      · intro y hy
        rw [List.mem_singleton] at hy
        subst hy
        show 0 ≤ ((c.key kCa).num 0 99).numN 0 8 ∧ ((c.key kCa).num 0 99).numN 0 8 < (8 : Int) + 1
        omega
    rw [hc]
    rfl
  rw [if_neg k1] at h ⊢
  rw [if_neg k1]
  by_cases k2 : c.keyB kRe = true
  · rw [if_pos k2] at h ⊢
    rw [if_pos k2]
    have hk := key_less k2
    unfold Cu.toldC at h ⊢
    unfold Cu.toldN
    cases he : (c.key kRe).ends
    · rw [he] at h
      simp only [Bool.false_eq_true, if_false] at h ⊢
      obtain ⟨a1, a2, a3⟩ := ok_reg h
      refine ⟨ok_key a1, fun x hx => by simp at hx, fun t ht => ?_, by omega⟩
      simp only [Sum.inr.injEq] at ht
      subst ht
      exact wide_ret (.inr a2)
    · rw [he] at h
      simp only [if_true] at h ⊢
      refine ⟨ok_key h, fun x hx => by simp at hx, fun t ht => ?_, by omega⟩
      simp only [Sum.inr.injEq] at ht
      subst ht
      exact wide_ret (.inl rfl)
  rw [if_neg k2] at h ⊢
  rw [if_neg k2]
  by_cases k3 : c.keyB kTr = true
  · rw [if_pos k3] at h ⊢
    rw [if_pos k3]
    have hk := key_less k3
    refine ⟨ok_key h, fun x hx => by simp at hx, fun t ht => ?_, by omega⟩
    simp only [Sum.inr.injEq] at ht
    subst ht
    exact end_ok (by decide) (by decide) ⟨z200, z200⟩
  rw [if_neg k3] at h ⊢
  rw [if_neg k3]
  by_cases k4 : c.isB sAr = true
  · rw [if_pos k4] at h ⊢
    rw [if_pos k4]
    have hk := is_less k4
    obtain ⟨a1, a2, a3⟩ := ok_num h
    refine ⟨ok_is a1, fun x hx => by simp at hx, fun t ht => ?_, by omega⟩
    simp only [Sum.inr.injEq] at ht
    subst ht
    have e : wideB ⟨[], ⟨1, 0, (c.is sAr).numN 0 199, 0⟩⟩ = ⟨[], ⟨1, 0, (c.is sAr).numN 0 199, 0⟩⟩ := by unfold wideB; rw [if_neg (by rintro ⟨h, _⟩; cases h)]
    refine end_ok ?_ ?_ ⟨by show 0 ≤ (c.is sAr).numN 0 199 ∧ (c.is sAr).numN 0 199 < 200; omega, z200⟩
    · rw [e]; rfl
    · rw [e]; exact (by decide : belowB 64 [(0 : Int)] = true)
  rw [if_neg k4] at h ⊢
  rw [if_neg k4]
  by_cases k5 : c.slotB = true
  · rw [if_pos k5] at h ⊢
    rw [if_pos k5]
    obtain ⟨a1, a2, a3⟩ := ok_reg h
    have b1 := ok_mark1 a1
    have d1 := ok_slot b1
    have hk := slot_less k5 b1
    have hm := mp_mark_len c.slotC [sAl]
    refine ⟨d1, fun x hx => ?_, fun t ht => by simp at ht, by omega⟩
    simp only [Sum.inl.injEq] at hx
    subst hx
    have hs := slot_range k5
    exact ins_ok (by decide) rfl rfl rfl rfl rfl ⟨z64, a2, z64⟩ (fun _ => hs)
  rw [if_neg k5] at h ⊢
  rw [if_neg k5]
  by_cases k6 : c.regC.isB sAr = true
  · rw [if_pos k6] at h ⊢
    rw [if_pos k6]
    obtain ⟨a1, a2, a3⟩ := ok_num h
    obtain ⟨b1, b2, b3⟩ := ok_num a1
    have hk := is_less k6
    obtain ⟨d1, d2, d3⟩ := ok_reg (ok_is b1)
    refine ⟨d1, fun x hx => by simp at hx, fun t ht => ?_, by omega⟩
    simp only [Sum.inr.injEq] at ht
    subst ht
    have e : wideB ⟨[], ⟨2, c.regN, (c.regC.is sAr).numN 0 199, ((c.regC.is sAr).num 0 199).numN 0 199⟩⟩ = ⟨[], ⟨2, c.regN, (c.regC.is sAr).numN 0 199, ((c.regC.is sAr).num 0 199).numN 0 199⟩⟩ := by unfold wideB; rw [if_neg (by rintro ⟨h, _⟩; cases h)]
    refine end_ok ?_ ?_ ⟨by show 0 ≤ (c.regC.is sAr).numN 0 199 ∧ (c.regC.is sAr).numN 0 199 < 200; omega, by show 0 ≤ ((c.regC.is sAr).num 0 199).numN 0 199 ∧ ((c.regC.is sAr).num 0 199).numN 0 199 < 200; omega⟩
    · rw [e]; rfl
    · rw [e]
      unfold readsWellT
      dsimp only
      rw [if_neg (by decide), below_iff]
      intro y hy
      rw [List.mem_singleton] at hy
      subst hy
      exact d2
  rw [if_neg k6] at h ⊢
  rw [if_neg k6]
  have hr := mp_valC_len (c.regC.mark [sAl])
  have hm := mp_mark_len c.regC [sAl]
  have hd : (c.regC.mark [sAl]).fault = 0 ∧ c.fault = 0 ∧ (0 ≤ c.regN ∧ c.regN < 64) ∧ c.regC.left.length + 1 ≤ c.left.length := by
    have h1 : (c.regC.mark [sAl]).fault = 0 := by
      unfold Cu.valC at h
      repeat' split at h
      · exact ok_slot h
      · exact (ok_reg h).1
      · exact (ok_name (ok_num h).1).1
      · exact (ok_name (ok_reg (ok_num h).1).1).1
      · exact (ok_name (ok_reg (ok_reg h).1).1).1
    obtain ⟨d1, d2, d3⟩ := ok_reg (ok_mark1 h1)
    exact ⟨h1, d1, d2, d3⟩
  obtain ⟨d0, d1, d2, d3⟩ := hd
  refine ⟨d1, fun x hx => ?_, fun t ht => by simp at ht, by omega⟩
  simp only [Sum.inl.injEq] at hx
  subst hx
  exact (ok_value d2 h).2
theorem ok_long {c : Cu} {n : Nat} (h : (c.longC n).fault = 0) : n ≠ 4000 ∧ c.longC n = c.partC ∧ c.partC.fault = 0 := by
  unfold Cu.longC at h ⊢
  split at h
  · exact absurd h (fl_fail (by decide))
  · rename_i hn
    rw [if_neg hn]
    exact ⟨hn, rfl, h⟩
theorem fl_blk : ∀ (f : Nat) (c : Cu) (l : List Ii), (blkGo f c l).1.fault = 0 → c.fault = 0 := by
  intro f
  induction f with
  | zero => intro c l h; exact absurd h (fl_fail (by decide))
  | succ f ih =>
    intro c l h
    rw [blkGo] at h
    split at h
    · cases hp : c.partP with
      | inr t => rw [hp] at h; exact (ok_part (ok_end h).1).1
      | inl x =>
        rw [hp] at h
        have h1 := (ok_end (ih _ _ h)).1
        exact (ok_part (ok_long h1).2.2).1
    · exact absurd h (fl_fail (by decide))
/-- A line's words are behind it: what is left has two less, or it was the last one. -/
def Less2 (a b : Nat) : Prop := b + 2 ≤ a ∨ b = 0 ∧ 1 ≤ a
theorem less_end {d c : Cu} (h : d.left.length + 1 ≤ c.left.length) (he : d.end_.fault = 0) : Less2 c.left.length d.end_.left.length := by
  rcases (ok_end he).2 with h1 | h1
  · exact .inl (by omega)
  · exact .inr ⟨h1.2, by omega⟩
/-- A block that is read: it can be written; how many lines. -/
theorem ok_blk : ∀ (f : Nat) (c : Cu) (l : List Ii), (∀ x ∈ l, ofInsN wideM 400 x = 0) → l.length ≤ 4000 → (blkGo f c l).1.fault = 0 →
    (∀ x ∈ (blkGo f c l).2.ins, ofInsN wideM 400 x = 0) ∧ (blkGo f c l).2.ins.length ≤ 4000 ∧ tmOk (blkGo f c l).2.tm ∧
    ∀ k, 2 * k ≤ (blkGo f c l).1.left.length + 1 → 2 * (k + 1 + ((blkGo f c l).2.ins.length - l.length)) ≤ c.left.length + 1 ∧ l.length ≤ (blkGo f c l).2.ins.length := by
  intro f
  induction f with
  | zero => intro c l _ _ h; exact absurd h (fl_fail (by decide))
  | succ f ih =>
    intro c l hl hn h
    rw [blkGo] at h ⊢
    split at h
    · rename_i hm
      rw [if_pos hm]
      cases hp : c.partP with
      | inr t =>
        rw [hp] at h
        have h1 := (ok_end h).1
        obtain ⟨_, _, p3, p4⟩ := ok_part h1
        have h2 := less_end p4 h
        refine ⟨hl, hn, p3 t hp, fun k hk => ?_⟩
        dsimp only at hk ⊢
        refine ⟨?_, Nat.le_refl _⟩
        rw [Nat.sub_self]
        rcases h2 with h2 | h2 <;> omega
      | inl x =>
        rw [hp] at h
        dsimp only at h ⊢
        have h0 := fl_blk _ _ _ h
        have h1 := (ok_end h0).1
        obtain ⟨q1, q2, q3⟩ := ok_long h1
        obtain ⟨_, p2, _, p4⟩ := ok_part q3
        have h2 := less_end (d := c.longC l.length) (by rw [q2]; exact p4) h0
        obtain ⟨g1, g2, g3, g4⟩ := ih (c.longC l.length).end_ (l ++ [x]) (fun y hy => by
          rcases List.mem_append.1 hy with hy | hy
          · exact hl y hy
          · rw [List.mem_singleton] at hy; subst hy; exact p2 y hp) (by simp; omega) h
        refine ⟨g1, g2, g3, fun k hk => ?_⟩
        obtain ⟨u1, u2⟩ := g4 k hk
        rw [List.length_append, List.length_singleton] at u1 u2
        refine ⟨?_, by omega⟩
        rcases h2 with h2 | h2 <;> omega
    · exact absurd h (fl_fail (by decide))
def linesN (bs : List Bb) : Nat := (bs.map fun b => b.ins.length + 2).sum
theorem linesN_snoc (bs : List Bb) (b : Bb) : linesN (bs ++ [b]) = linesN bs + (b.ins.length + 2) := by simp [linesN]
theorem can_of {b : Bb} (h1 : ∀ x ∈ b.ins, ofInsN wideM 400 x = 0) (h2 : b.ins.length ≤ 4000) (h3 : tmOk b.tm) : CanB b := by
  refine ⟨h1, ?_, h2⟩
  unfold tmOk at h3
  have e : (wideB b).tm = (wideB ⟨[], b.tm⟩).tm := by unfold wideB; dsimp only; split <;> rfl
  rw [e]
  exact h3
theorem ok_head {c : Cu} {n : Int} (h : (c.headC n).fault = 0) : c.fault = 0 ∧ Less2 c.left.length (c.headC n).left.length := by
  unfold Cu.headC at h ⊢
  have h1 := (ok_end h).1
  obtain ⟨a1, _, a3⟩ := ok_num h1
  obtain ⟨b1, b2⟩ := ok_keyed a1
  exact ⟨b1, less_end (by omega) h⟩
theorem ok_tg : ∀ (f n : Nat) (c : Cu) (bs : List Bb), (∀ b ∈ bs, CanB b) → n = bs.length → (tgGo f n c bs).1.fault = 0 →
    (∀ b ∈ (tgGo f n c bs).2, CanB b) ∧ 0 < (tgGo f n c bs).2.length ∧ (tgGo f n c bs).2.length ≤ n + f ∧ linesN bs ≤ linesN (tgGo f n c bs).2 ∧ 2 * (linesN (tgGo f n c bs).2 - linesN bs) ≤ c.left.length + 1 ∧ c.fault = 0 := by
  intro f
  induction f with
  | zero =>
    intro n c bs hb hn h
    by_cases hm : n = 0 ∨ c.more = true
    · rw [tg_full hm] at h; exact absurd h (fl_fail (by decide))
    · rw [tg_stop hm] at h ⊢
      exact ⟨hb, by have : ¬ n = 0 := fun e => hm (.inl e); show 0 < bs.length; omega, by show bs.length ≤ _; omega, Nat.le_refl _, by show 2 * (linesN bs - linesN bs) ≤ _; omega, h⟩
  | succ f ih =>
    intro n c bs hb hn h
    by_cases hm : n = 0 ∨ c.more = true
    · rw [tg_step hm] at h ⊢
      have hh : ((c.headC n).blk []).1.fault = 0 := by
        by_cases hm2 : n + 1 = 0 ∨ ((c.headC n).blk []).1.more = true
        · exact (fun (hx : _) => hx) (by
            have : ∀ (f n : Nat) (c : Cu) (bs : List Bb), (tgGo f n c bs).1.fault = 0 → c.fault = 0 := by
              intro f
              induction f with
              | zero =>
                intro n c bs h
                by_cases hm : n = 0 ∨ c.more = true
                · rw [tg_full hm] at h; exact absurd h (fl_fail (by decide))
                · rw [tg_stop hm] at h; exact h
              | succ f ih2 =>
                intro n c bs h
                by_cases hm : n = 0 ∨ c.more = true
                · rw [tg_step hm] at h
                  exact (ok_head (fl_blk _ _ _ (ih2 _ _ _ h))).1
                · rw [tg_stop hm] at h; exact h
            exact this _ _ _ _ h)
        · rw [tg_stop hm2] at h; exact h
      have h0 := fl_blk _ _ _ hh
      obtain ⟨h1, h2⟩ := ok_head h0
      obtain ⟨g1, g2, g3, g4⟩ := ok_blk (c.headC n).left.length (c.headC n) [] (by simp) (by simp) hh
      have hc := can_of g1 g2 g3
      have e : blkGo (c.headC n).left.length (c.headC n) [] = (c.headC n).blk [] := rfl
      rw [e] at g4 hc
      obtain ⟨u1, u2, u3, u4, u5, _⟩ := ih (n + 1) ((c.headC n).blk []).1 (bs ++ [((c.headC n).blk []).2]) (fun b hb2 => by
        rcases List.mem_append.1 hb2 with hb2 | hb2
        · exact hb b hb2
        · rw [List.mem_singleton] at hb2; subst hb2; exact hc) (by simp; omega) h
      rw [linesN_snoc] at u4 u5
      have g5 := (g4 (linesN (tgGo f (n + 1) ((c.headC n).blk []).1 (bs ++ [((c.headC n).blk []).2])).2 - (linesN bs + (((c.headC n).blk []).2.ins.length + 2))) u5).1
      simp only [List.length_nil, Nat.sub_zero] at g5
      refine ⟨u1, u2, by omega, by omega, ?_, h1⟩
      rcases h2 with h2 | h2 <;> omega
    · rw [tg_stop hm] at h ⊢
      exact ⟨hb, by have : ¬ n = 0 := fun e => hm (.inl e); show 0 < bs.length; omega, by show bs.length ≤ _; omega, Nat.le_refl _, by show 2 * (linesN bs - linesN bs) ≤ _; omega, h⟩
theorem ins_none {m : Mm} {fr : Int} : ∀ {l : List Ii}, (∀ x ∈ l, ofInsN m fr x = 0) → insErr m fr l = 0
  | [], _ => rfl
  | x :: l, h => by
    unfold insErr
    rw [if_pos (h x (by simp))]
    exact ins_none (fun y hy => h y (by simp [hy]))
theorem bl_none {m : Mm} {fr nb : Int} : ∀ {l : List Bb}, (∀ b ∈ l, (∀ x ∈ b.ins, ofInsN m fr x = 0) ∧ ofEndN m nb b.tm = 0) → blErr m fr nb l = 0
  | [], _ => rfl
  | b :: l, h => by
    unfold blErr
    rw [if_pos (ins_none (h b (by simp)).1), if_pos (h b (by simp)).2]
    exact bl_none (fun y hy => h y (by simp [hy]))
/-- Parts that can be told make a target that can be written. -/
theorem can_intro {t : Gg} (h1 : 0 ≤ t.frame ∧ t.frame ≤ 400) (h2 : 0 < t.blocks.length ∧ t.blocks.length ≤ 200) (h3 : ∀ b ∈ t.blocks, CanB b) : canG t = true := by
  have hlen : (wideG t).blocks.length = 200 := by unfold wideG; simp; omega
  have hall : ∀ b ∈ (wideG t).blocks, (∀ x ∈ b.ins, ofInsN wideM 400 x = 0) ∧ ofEndN wideM 200 b.tm = 0 ∧ b.ins.length ≤ 4000 := by
    intro b hb
    unfold wideG at hb
    simp only [List.mem_append, List.mem_map] at hb
    rcases hb with ⟨a, ha, rfl⟩ | hb
    · have hc := h3 a ha
      have hi : (wideB a).ins = a.ins := by unfold wideB; split <;> rfl
      rw [hi]
      exact ⟨hc.ins, hc.tm, hc.few⟩
    · have := (List.mem_replicate.1 hb).2
      subst this
      exact ⟨by simp [trapB], by decide, by simp [trapB]⟩
  have hr : rightT wideM (wideG t) = 0 := by
    unfold rightT
    have e1 : wideM.rightB = true := by decide
    have e2 : smallT (wideG t) = true := by
      unfold smallT
      rw [hlen]
      simp only [Bool.and_eq_true, List.all_eq_true, Bool.not_eq_true', decide_eq_false_iff_not]
      exact ⟨⟨⟨⟨by decide, by omega⟩, by show ¬ (400 : Int) < 0; decide⟩, by show ¬ (400 : Int) < 400; decide⟩, fun b hb => by have := (hall b hb).2.2; omega⟩
    rw [e1, e2, hlen, if_pos rfl, if_pos rfl]
    exact bl_none (fun b hb => ⟨(hall b hb).1, (hall b hb).2.1⟩)
  unfold canG
  rw [hr]
  simp [h1.1, h1.2, h2.1, h2.2]
theorem err_ok {c : Cu} (h : c.eErr = 0) : c.fault = 0 := by
  unfold Cu.eErr at h
  by_cases hf : c.fault = 0
  · exact hf
  · rw [if_pos hf] at h
    exact absurd h hf
/-- What is read can be written; so many lines. -/
theorem read_can {c : Cu} (h : c.tgC.eErr = 0) : canG c.tgG = true ∧ 2 * (linesN c.tgG.blocks + 1) ≤ c.left.length + 1 := by
  have hf : (tgGo 200 0 c.tgHead []).1.fault = 0 := err_ok h
  obtain ⟨u1, u2, u3, _, u5, u6⟩ := ok_tg 200 0 c.tgHead [] (by simp) rfl hf
  unfold Cu.tgHead at u6
  obtain ⟨a1, a2, a3⟩ := ok_num (ok_end u6).1
  obtain ⟨_, b2⟩ := ok_keyed a1
  have hl : Less2 c.left.length c.tgHead.left.length := less_end (by omega) u6
  refine ⟨can_intro a2 ⟨u2, by have := u3; show (tgGo 200 0 c.tgHead []).2.length ≤ 200; omega⟩ u1, ?_⟩
  have e : linesN ([] : List Bb) = 0 := rfl
  rw [e, Nat.sub_zero] at u5
  show 2 * (linesN (tgGo 200 0 c.tgHead []).2 + 1) ≤ _
  rcases hl with hl | hl <;> omega
/-- How long a text is. -/
theorem fine_len {x : Wo} (h : x.fine) : x.b.size ≤ 22 := by
  cases x with
  | tx s =>
    have : (txL.all fun s => decide (s.size ≤ 22)) = true := by decide +kernel
    have := List.all_eq_true.1 this s h
    exact of_decide_eq_true this
  | rg n => have h : 0 ≤ n ∧ n < 64 := h; have := itS_len n (by omega) (by omega); show (_ ++ _ : ByteArray).size ≤ _; rw [ByteArray.size_append]; show 1 + _ ≤ _; omega
  | sl n => have h : 0 ≤ n ∧ n < 400 := h; have := itS_len n (by omega) (by omega); show (_ ++ _ : ByteArray).size ≤ _; rw [ByteArray.size_append]; show 1 + _ ≤ _; omega
  | nm n => have h : -1099511627776 ≤ n ∧ n ≤ 1099511627776 := h; have := itS_len n (by omega) (by omega); show (itS n).size ≤ _; omega
theorem row_len {l : List Wo} (hl : l.length ≤ 5) (h : ∀ x ∈ l, x.fine) : (rowL l).length ≤ 116 := by
  have h1 := joinB_len (l.map Wo.b) 22 (fun y hy => by obtain ⟨z, hz, rfl⟩ := List.mem_map.1 hy; exact fine_len (h z hz))
  unfold rowL rowB joinB
  rw [ByteArray.data_append, Array.toList_append, List.length_append]
  rw [List.length_map] at h1
  have h2 : l.length * (22 + 1) ≤ 5 * 23 := Nat.mul_le_mul hl (Nat.le_refl _)
  show (Lib.join _ [32]).toArray.toList.length + 1 ≤ _
  rw [List.toList_toArray]
  omega
theorem rows_len : ∀ ls : List (List Wo), (∀ l ∈ ls, l.length ≤ 5 ∧ ∀ x ∈ l, x.fine) → (ls.flatMap rowL).length ≤ ls.length * 116 := by
  intro ls
  induction ls with
  | nil => intro _; simp
  | cons l r ih =>
    intro h
    have h1 := row_len (h l (by simp)).1 (h l (by simp)).2
    have h2 := ih (fun y hy => h y (by simp [hy]))
    rw [List.flatMap_cons, List.length_append, List.length_cons, Nat.add_mul]
    omega
theorem bls_lines : ∀ (bs : List Bb) (k : Nat), (blsWo k bs).length = linesN bs := by
  intro bs
  induction bs with
  | nil => intro k; rfl
  | cons b r ih =>
    intro k
    have := ih (k + 1)
    simp only [blsWo, blWo, List.length_append, List.length_cons, List.length_map, List.length_nil, this]
    unfold linesN
    rw [List.map_cons, List.sum_cons]
    try omega
theorem bls_five : ∀ (bs : List Bb) (k : Nat), ∀ l ∈ blsWo k bs, l.length ≤ 5 := by
  intro bs
  induction bs with
  | nil => intro k l hl; simp [blsWo] at hl
  | cons b r ih =>
    intro k l hl
    simp only [blsWo, blWo, List.mem_append, List.mem_cons, List.mem_map, List.not_mem_nil, or_false, List.cons_append] at hl
    rcases hl with rfl | (⟨x, hx, rfl⟩ | rfl) | hl
    · simp [opWo]
    · unfold insWo
      repeat' split
      all_goals simp
    · unfold tmWo
      repeat' split
      all_goals simp
    · exact ih (k + 1) l hl
theorem text_len {t : Gg} (h : canG t = true) : (gtxL t).length ≤ (linesN t.blocks + 1) * 116 := by
  have hf := lns_fine h
  have h1 := rows_len t.lns (fun l hl => ⟨by
    rcases List.mem_cons.1 hl with rfl | hl
    · simp [headWo]
    · exact bls_five _ _ l hl, (hf l hl).2⟩)
  have h2 : t.lns.length = linesN t.blocks + 1 := by
    unfold Gg.lns
    rw [List.length_cons, bls_lines]
  rw [h2] at h1
  have e : gtxL t = t.lns.flatMap rowL := rfl
  rw [e]
  exact h1
end Go.Proofs.YtjmdgbgjleeloaaGreatDoor
