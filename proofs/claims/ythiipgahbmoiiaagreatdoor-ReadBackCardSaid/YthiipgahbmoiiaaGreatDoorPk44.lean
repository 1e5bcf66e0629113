/-
  The chapter's example is read and written as it says (package intarsialaw04's awake). Conditions: the library's tables, its errors, the Ops' names hold what the text lays.
  Steps of a cursor that break nothing (plainly). No condition beyond those that each theorem states.
  What is read of a text, where nothing is broken, can be written (plainly). No condition beyond those that each theorem states.
  What is read of a text, where nothing is broken, is a function that can be written (plainly). No condition beyond those that each theorem states.
-/
import Derived.Test.YthiipgahbmoiiaaGreatDoorPk43
import Derived.Test.YthiipgahbmoiiaaGreatDoorPk41
namespace Go.Proofs.YthiipgahbmoiiaaGreatDoor
open Go.RowKit

def exQ : Ff := ⟨[1], [⟨[⟨2, 2, 1, 1, 0, 0, [], 0⟩], ⟨3, 2, 0, 0⟩⟩]⟩
def exT : ByteArray := ⟨#[102, 117, 110, 32, 118, 49, 10, 98, 108, 111, 99, 107, 32, 48, 10, 118, 50, 32, 226, 134, 144, 32, 97, 100, 100, 32, 118, 49, 32, 118, 49, 10, 114, 101, 116, 117, 114, 110, 32, 118, 50, 10]⟩
theorem ex_text : exT.data.toList = fnL exQ := by decide +kernel
theorem ex_can : canF exQ = true := by decide +kernel
theorem ex_small : SmallF exQ := ⟨by decide, by decide, fun x hx => by
  have : x = ⟨[⟨2, 2, 1, 1, 0, 0, [], 0⟩], ⟨3, 2, 0, 0⟩⟩ := by simpa [exQ] using hx
  subst this
  exact ⟨by decide, fun i hi => by
    have : i = ⟨2, 2, 1, 1, 0, 0, [], 0⟩ := by simpa using hi
    subst this
    decide⟩⟩
theorem ex_parse (w : World) (hT : TabQ w) : Calls Tryz.prog 14 #[.string exT] w fun e w' => ∃ (pa : Option Addr) (pc : Nat) (ba : Option Addr) (bc : Nat), e = .returned (.tuple #[.agg #[.slice pa 1 pc, .slice ba 1 bc], .int .i64 0, .int .i64 0, .int .i64 0]) ∧ Hid (FnW w' exQ pa pc ba bc) ∧ Below w.heap.size w w' := by
  obtain ⟨h1, h2, h3, h4, h5⟩ := back_fn ex_can ex_text
  refine (parseQ_any exT w hT (fun h => start_fit exT (by omega))).mono ?_
  rintro e w' ⟨pa, pc, ba, bc, he, hF, hb⟩
  rw [h5, h4, h3, h2] at he
  rw [h5] at hF
  exact ⟨pa, pc, ba, bc, he, hF, hb⟩
theorem ex_print (w : World) (pa : Option Addr) (pc : Nat) (ba : Option Addr) (bc : Nat) (hT : TabQ w) (hF : FnW w exQ pa pc ba bc) : Calls Tryz.prog 11 #[.agg #[.slice pa 1 pc, .slice ba 1 bc]] w fun e w' => e = .returned (.tuple #[.string exT, .int .i64 0]) ∧ Below w.heap.size w w' := by
  refine (print_any exQ pa pc ba bc w ex_small hF hT.pow hT.names).mono ?_
  rintro e w' ⟨s, ⟨he, hs⟩, hb⟩
  rw [ex_can] at he hs
  simp only [if_true] at he hs
  have : s = exT := ByteArray.ext (Array.toList_inj.mp (hs.trans ex_text.symm))
  subst this
  exact ⟨he, hb⟩
theorem ex_cellsQ {w : World} {pa : Option Addr} {pc : Nat} {ba : Option Addr} {bc : Nat} (h : FnW w exQ pa pc ba bc) : ∃ g o g2 o2 ic, ba = some ⟨g, o, none⟩ ∧ g < w.heap.size ∧ w.cell? ⟨g, o, none⟩ = some (.slice (some ⟨g2, o2, none⟩) 1 ic) ∧ g2 < w.heap.size ∧ w.cell? ⟨g2, o2 + 1, none⟩ = some (.int .i64 2) := by
  obtain ⟨g, o, ia, ic, e, hg, hb⟩ := h.blocks 0 _ rfl
  obtain ⟨g2, o2, _, _, e2, hg2, hi⟩ := hb.ins 0 _ rfl
  subst e e2
  exact ⟨g, o, g2, o2, ic, rfl, hg, hb.c0, hg2, hi.c1⟩
set_option maxRecDepth 100000 in
set_option maxHeartbeats 4000000 in
theorem awake4_any (w : World) (hT : TabQ w) : Calls Tryz.prog 9 #[] w fun e w' => e = .returned (.bool true) ∧ Below w.heap.size w w' := by
  have P := Lib.hid (ex_parse w hT)
  have PR : Hid (∀ (pa : Option Addr) (pc : Nat) (ba : Option Addr) (bc : Nat) (W : World), Below w.heap.size w W → FnW W exQ pa pc ba bc → _) := fun pa pc ba bc W hb hF => ex_print W pa pc ba bc (hT.below hb) hF
  clear hT
  unfold exT at P PR
  go_enter Tryz.func9, Tryz.ntmps9
  go_wp2_with fail
  refine P.out.mono ?_
  rintro e w1 ⟨pa, pc, ba, bc, rfl, hF, hb⟩
  obtain ⟨g, o, g2, o2, ic, rfl, hg, x0, hg2, x1⟩ := ex_cellsQ hF.out
  have hba : Below w1.heap.size w1 (w1.alloc (.cells #[.slice pa 1 pc, .slice (some ⟨g, o, none⟩) 1 bc] 25)) := (Below.refl _ _).alloc (Nat.le_refl _) _
  have HB1 : Hid (Below w.heap.size w (w1.alloc (.cells #[.slice pa 1 pc, .slice (some ⟨g, o, none⟩) 1 bc] 25))) := hb.trans (hba.mono hb.size)
  have PR1 := Lib.hid (PR.out pa pc (some ⟨g, o, none⟩) bc _ HB1.out (hF.out.below hba))
  have HX : Hid (Blk (w1.alloc (.cells #[.slice pa 1 pc, .slice (some ⟨g, o, none⟩) 1 bc] 25)) w1.heap.size 25 #[.slice pa 1 pc, .slice (some ⟨g, o, none⟩) 1 bc]) := Blk.new w1 _ _
  clear P PR hb hF
  go_wp2_with fail
  refine PR1.out.mono ?_
  rintro e w2 ⟨rfl, hb2⟩
  have y0 : w2.cell? ⟨g, o, none⟩ = some (.slice (some ⟨g2, o2, none⟩) 1 ic) := (hb2.cell (Nat.lt_of_lt_of_le hg hba.size)).trans ((hba.cell hg).trans x0)
  have y1 : w2.cell? ⟨g2, o2 + 1, none⟩ = some (.int .i64 2) := (hb2.cell (Nat.lt_of_lt_of_le hg2 hba.size)).trans ((hba.cell hg2).trans x1)
  have HB2 : Hid (Below w.heap.size w w2) := HB1.out.trans (hb2.mono HB1.out.size)
  have hx := HX.out.below hb2 HX.out.lt
  have z0 : w2.cell? ⟨w1.heap.size, 0, none⟩ = some (.slice pa 1 pc) := hx.cell 0
  have z1 : w2.cell? ⟨w1.heap.size, 1, none⟩ = some (.slice (some ⟨g, o, none⟩) 1 bc) := hx.cell 1
  have hs2 := hb2.size
  clear PR1 x0 x1 hb2 hx HX hba
  go_wp2
  go_ret
  exact ⟨rfl, HB2.out⟩
end Go.Proofs.YthiipgahbmoiiaaGreatDoor
namespace Go.Proofs.YthiipgahbmoiiaaGreatDoor

section
variable {c : Cu}
theorem fl_fail {e : Int} (he : e ≠ 0) : (c.fail e).fault ≠ 0 := by
  unfold Cu.fail
  split
  · rename_i h
    rcases h with h | h
    · exact absurd h he
    · exact h
  · exact he
theorem ok_name (h : c.name.fault = 0) : c.fault = 0 ∧ c.name = c.pass ∧ 0 < c.left.length := by
  unfold Cu.name at h ⊢
  split at h
  · rename_i hn
    rw [if_pos hn]
    refine ⟨h, rfl, ?_⟩
    cases hl : c.left with
    | nil => rw [hl] at hn; cases hn
    | cons x r => simp
  · exact absurd h (fl_fail (by decide))
theorem pass_less (h : 0 < c.left.length) : c.pass.left.length + 1 ≤ c.left.length := by
  simp only [Cu.pass, List.length_tail]; omega
theorem ok_num {a b : Int} (h : (c.num a b).fault = 0) : c.fault = 0 ∧ (a ≤ c.numN a b ∧ c.numN a b ≤ b) ∧ (c.num a b).left.length + 1 ≤ c.left.length := by
  unfold Cu.num at h ⊢
  unfold Cu.numN
  cases h1 : (numP c.left.head?).2
  · rw [h1] at h; exact absurd h (fl_fail (by decide))
  · rw [h1, if_pos rfl] at h
    cases h2 : c.numFits a b
    · rw [h2] at h; exact absurd h (fl_fail (by decide))
    · rw [h2, if_pos rfl] at h
      have h3 : a ≤ (numP c.left.head?).1 ∧ (numP c.left.head?).1 ≤ b := by unfold Cu.numFits at h2; simpa using h2
      refine ⟨h, h3, ?_⟩
      refine pass_less ?_
      cases hl : c.left with
      | nil => rw [hl] at h1; cases h1
      | cons x r => simp
theorem ok_over {b : Bool} (h : (c.over b).fault = 0) : c.fault = 0 := by cases b <;> exact h
theorem ok_key {s : ByteArray} (h : (c.key s).fault = 0) : c.fault = 0 := ok_over h
theorem ok_is {s : ByteArray} (h : (c.is s).fault = 0) : c.fault = 0 := ok_over h
theorem key_less {s : ByteArray} (h : c.keyB s = true) : (c.key s).left.length + 1 ≤ c.left.length := by
  unfold Cu.key Cu.over
  rw [if_pos h]
  refine pass_less ?_
  cases hl : c.left with
  | nil => unfold Cu.keyB at h; rw [hl] at h; cases h
  | cons x r => simp
theorem is_less {s : ByteArray} (h : c.isB s = true) : (c.is s).left.length + 1 ≤ c.left.length := by
  unfold Cu.is Cu.over
  rw [if_pos h]
  refine pass_less ?_
  cases hl : c.left with
  | nil => unfold Cu.isB at h; rw [hl] at h; cases h
  | cons x r => simp
theorem ok_mark1 {s : ByteArray} (h : (c.mark [s]).fault = 0) : c.fault = 0 := by
  unfold Cu.mark at h
  split at h
  · unfold Cu.mark at h; exact ok_is h
  · exact absurd h (fl_fail (by decide))
theorem ok_end (h : c.end_.fault = 0) : c.fault = 0 ∧ (c.end_.left.length + 1 ≤ c.left.length ∨ c.left.length = 0 ∧ c.end_.left.length = 0) := by
  unfold Cu.end_ at h ⊢
  split at h
  · rename_i he
    rw [if_pos he]
    refine ⟨h, .inl (pass_less ?_)⟩
    cases hl : c.left with
    | nil => rw [hl] at he; cases he
    | cons x r => simp
  · rename_i he
    split at h
    · exact absurd h (fl_fail (by decide))
    · rename_i hm
      rw [if_neg he, if_neg hm]
      have : c.left.length = 0 := by
        unfold Cu.more at hm
        cases hl : c.left with
        | nil => rfl
        | cons x r => rw [hl] at hm; simp at hm
      exact ⟨h, .inr ⟨this, this⟩⟩
theorem ok_keyed {s : ByteArray} (h : (c.keyedP s).fault = 0) : c.fault = 0 ∧ (c.keyedP s).left.length + 1 ≤ c.left.length := by
  unfold Cu.keyedP at h ⊢
  split at h
  · rename_i hk
    rw [if_pos hk]
    exact ⟨ok_key h, key_less hk⟩
  · exact absurd h (fl_fail (by decide))
end
end Go.Proofs.YthiipgahbmoiiaaGreatDoor
namespace Go.Proofs.YthiipgahbmoiiaaGreatDoor

theorem ok_va {c : Cu} (h : c.vaC.fault = 0) : c.fault = 0 ∧ (1 ≤ c.vaN ∧ c.vaN ≤ 200) := by
  unfold Cu.vaC at h
  unfold Cu.vaN
  split at h
  · exact absurd h (fl_fail (by decide))
  · rename_i h0
    have := (varT_is rfl h0).1
    exact ⟨(ok_name h).1, by omega, by omega⟩
theorem ok_ano {c : Cu} {m : Nat} (h : (c.anoC m).fault = 0) : c.fault = 0 ∧ c.anoC m = c ∧ ¬ (m = 8 ∧ c.ends = false) := by
  unfold Cu.anoC at h ⊢
  split at h
  · exact absurd h (fl_fail (by decide))
  · rename_i h0
    exact ⟨h, if_neg h0, h0⟩
theorem ok_args : ∀ (f : Nat) (c : Cu) (l : List Int), (argsGo f c l).1.fault = 0 → l.length ≤ 8 → (∀ v ∈ l, 1 ≤ v ∧ v ≤ 200) → c.fault = 0 ∧ (argsGo f c l).2.length ≤ 8 ∧ ∀ v ∈ (argsGo f c l).2, 1 ≤ v ∧ v ≤ 200 := by
  intro f
  induction f with
  | zero => intro c l h h1 h2; exact ⟨h, h1, h2⟩
  | succ f ih =>
    intro c l h h1 h2
    by_cases hb : c.anoB l.length = true
    · rw [args_step hb] at h ⊢
      have hf : ∀ (f : Nat) (d : Cu) (l : List Int), (argsGo f d l).1.fault = 0 → d.fault = 0 := by
        intro f
        induction f with
        | zero => intro d l h; exact h
        | succ f ih2 =>
          intro d l h
          rw [argsGo] at h
          split at h
          · exact (ok_ano (ok_va (ih2 _ _ h)).1).1
          · exact (ok_ano h).1
      obtain ⟨a1, a2⟩ := ok_va (hf _ _ _ h)
      obtain ⟨b1, b2, b3⟩ := ok_ano a1
      have he : c.ends = false := by
        unfold Cu.anoB at hb
        rw [b2] at hb
        simpa using hb
      have h8 : l.length < 8 := by
        rcases Nat.lt_or_ge l.length 8 with h | h
        · exact h
        · exact absurd ⟨by omega, he⟩ b3
      obtain ⟨_, i2, i3⟩ := ih _ _ h (by simp; omega) (fun v hv => by
        rcases List.mem_append.1 hv with hv | hv
        · exact h2 v hv
        · rw [List.mem_singleton] at hv; rw [hv]; exact a2)
      exact ⟨b1, i2, i3⟩
    · rw [args_stop (by simpa using hb)] at h ⊢
      exact ⟨(ok_ano h).1, h1, h2⟩
theorem ok_pd {c : Cu} {l : List Int} (h : (pdC c l).fault = 0) : c.fault = 0 ∧ pdC c l = c ∧ c.vaN ∉ l := by
  unfold pdC at h ⊢
  split at h
  · exact absurd h (fl_fail (by decide))
  · rename_i h0
    exact ⟨h, if_neg h0, h0⟩
theorem ok_pars : ∀ (f : Nat) (c : Cu) (l : List Int), (parsGo f c l).1.fault = 0 → l.length ≤ 8 → (∀ v ∈ l, 1 ≤ v ∧ v ≤ 200) → l.Nodup → c.fault = 0 ∧ (parsGo f c l).2.length ≤ 8 ∧ (∀ v ∈ (parsGo f c l).2, 1 ≤ v ∧ v ≤ 200) ∧ (parsGo f c l).2.Nodup := by
  intro f
  induction f with
  | zero => intro c l h h1 h2 h3; exact ⟨h, h1, h2, h3⟩
  | succ f ih =>
    intro c l h h1 h2 h3
    by_cases hb : c.anoB l.length = true
    · rw [pars_step hb] at h ⊢
      have hf : ∀ (f : Nat) (d : Cu) (l : List Int), (parsGo f d l).1.fault = 0 → d.fault = 0 := by
        intro f
        induction f with
        | zero => intro d l h; exact h
        | succ f ih2 =>
          intro d l h
          rw [parsGo] at h
          split at h
          · exact (ok_ano (ok_pd (ok_va (ih2 _ _ h)).1).1).1
          · exact (ok_ano h).1
      obtain ⟨a1, a2⟩ := ok_va (hf _ _ _ h)
      obtain ⟨d1, d2, d3⟩ := ok_pd a1
      obtain ⟨b1, b2, b3⟩ := ok_ano d1
      have he : c.ends = false := by
        unfold Cu.anoB at hb
        rw [b2] at hb
        simpa using hb
      have h8 : l.length < 8 := by
        rcases Nat.lt_or_ge l.length 8 with h | h
        · exact h
        · exact absurd ⟨by omega, he⟩ b3
      obtain ⟨_, i2, i3, i4⟩ := ih _ _ h (by simp; omega) (fun v hv => by
        rcases List.mem_append.1 hv with hv | hv
        · exact h2 v hv
        · rw [List.mem_singleton] at hv; rw [hv]; exact a2) (by
        rw [d2]
        exact List.nodup_append.2 ⟨h3, by simp, fun u hu v hv => by
          rw [List.mem_singleton] at hv
          subst hv
          intro e
          subst e
          exact d3 hu⟩)
      exact ⟨b1, i2, i3, i4⟩
    · rw [pars_stop (by simpa using hb)] at h ⊢
      exact ⟨(ok_ano h).1, h1, h2, h3⟩
theorem var_in {n : Int} (h : 1 ≤ n ∧ n ≤ 200) : varB n = true := var_iff.2 h
theorem imm_in {n : Int} (h : -1099511627776 ≤ n ∧ n ≤ 1099511627776) : immB n = true := by unfold immB; simp [h.1, h.2]
theorem opR_le (s : ByteArray) : opR s ≤ 11 := by
  unfold opR
  cases h : (List.range' 1 11).find? fun o => decide (opNameR.getD o ⟨#[]⟩ = s) with
  | none => exact Nat.zero_le _
  | some o =>
    have h1 := List.mem_of_find?_eq_some h
    rw [List.mem_range'] at h1
    obtain ⟨i, hi, rfl⟩ := h1
    show 1 + 1 * i ≤ 11
    omega
theorem ok_call {c : Cu} {n : Int} (hn : n = 0 ∨ 1 ≤ n ∧ n ≤ 200) (h : c.callC.fault = 0) : c.fault = 0 ∧ isInsB (c.callI n) = true := by
  unfold Cu.callC Cu.argsC at h
  obtain ⟨a1, a2, a3⟩ := ok_args 9 _ [] h (by simp) (fun v hv => by simp at hv)
  obtain ⟨b1, b2, _⟩ := ok_num a1
  refine ⟨b1, ?_⟩
  unfold isInsB Cu.callI Cu.argsL
  dsimp only
  rw [if_pos rfl]
  unfold isCallB
  dsimp only
  simp only [Bool.and_eq_true, decide_eq_true_eq, beq_iff_eq, List.all_eq_true]
  refine ⟨⟨⟨⟨⟨⟨⟨⟨?_, b2.1⟩, b2.2⟩, a2⟩, fun v hv => var_in (a3 v hv)⟩, trivial⟩, trivial⟩, trivial⟩, trivial⟩
  rcases hn with rfl | hn
  · rfl
  · unfold fitsB
    rw [show (n != 0) = true by simp; omega, if_pos rfl]
    exact var_in hn
theorem ok_valQ {c : Cu} {n : Int} (hn : 1 ≤ n ∧ n ≤ 200) (h : c.valQC.fault = 0) : c.fault = 0 ∧ isInsB (c.valQ n) = true := by
  unfold Cu.valQC at h
  unfold Cu.valQ
  cases hk : c.keyB kCaQ
  · rw [hk] at h
    simp only [Bool.false_eq_true, if_false] at h ⊢
    have hv := var_in hn
    by_cases h1 : opR c.nameT = 0
    · rw [if_pos h1] at h ⊢
      obtain ⟨a1, a2⟩ := ok_va h
      refine ⟨a1, ?_⟩
      simp [isInsB, isOpB, opD, opA, opB, opI, arithB, fitsB, hv, var_in a2]
    rw [if_neg h1] at h ⊢
    by_cases h2 : opR c.nameT = 1
    · rw [if_pos h2] at h ⊢
      obtain ⟨a1, a2, _⟩ := ok_num h
      obtain ⟨b1, _, _⟩ := ok_name a1
      refine ⟨b1, ?_⟩
      simp [isInsB, isOpB, opD, opA, opB, opI, arithB, fitsB, hv, imm_in a2]
    rw [if_neg h2] at h ⊢
    by_cases h3 : opR c.nameT = 11
    · rw [if_pos h3] at h ⊢
      obtain ⟨a1, a2, _⟩ := ok_num h
      obtain ⟨g1, g2⟩ := ok_va a1
      obtain ⟨b1, _, _⟩ := ok_name g1
      refine ⟨b1, ?_⟩
      simp [isInsB, isOpB, opD, opA, opB, opI, arithB, fitsB, hv, imm_in a2, var_in g2]
    rw [if_neg h3] at h ⊢
    obtain ⟨a1, a2⟩ := ok_va h
    obtain ⟨g1, g2⟩ := ok_va a1
    obtain ⟨b1, _, _⟩ := ok_name g1
    refine ⟨b1, ?_⟩
    have hr := opR_le c.nameT
    have h13 : ¬ ((opR c.nameT : Nat) : Int) = 13 := by omega
    have har : arithB ((opR c.nameT : Nat) : Int) = true := by unfold arithB; simp only [Bool.and_eq_true, decide_eq_true_eq]; omega
    unfold isInsB
    dsimp only
    rw [if_neg h13]
    simp [isOpB, opD, opA, opB, har, fitsB, hv, var_in a2, var_in g2]
  · rw [hk] at h
    simp only [if_true] at h ⊢
    obtain ⟨a1, a2⟩ := ok_call (.inr hn) h
    exact ⟨ok_key a1, a2⟩
end Go.Proofs.YthiipgahbmoiiaaGreatDoor
namespace Go.Proofs.YthiipgahbmoiiaaGreatDoor

def tmOkQ (t : Tt) : Prop := isTermB t = true ∧ (toL t).any farB = false
theorem far_ok {n : Int} (h : 0 ≤ n ∧ n ≤ 63) : farB n = false := by
  unfold farB
  simp only [Bool.or_eq_false_iff, decide_eq_false_iff_not]
  omega
theorem tm_ret {a : Int} (h : a = 0 ∨ 1 ≤ a ∧ a ≤ 200) : tmOkQ ⟨3, a, 0, 0⟩ := by
  refine ⟨?_, by unfold toL; split <;> rfl⟩
  rcases h with rfl | h
  · decide
  · unfold isTermB fitsB
    dsimp only
    rw [if_neg (by decide), if_neg (by decide), if_pos rfl, show (a != 0) = true by simp; omega, if_pos rfl, var_in h]
    rfl
theorem tm_jump {a : Int} (h : 0 ≤ a ∧ a ≤ 63) : tmOkQ ⟨1, 0, a, 0⟩ := by
  have e : isTermB ⟨1, 0, a, 0⟩ = true := rfl
  refine ⟨e, ?_⟩
  unfold toL
  rw [e, if_pos rfl]
  simp [far_ok h]
theorem tm_branch {v a b : Int} (hv : 1 ≤ v ∧ v ≤ 200) (h : 0 ≤ a ∧ a ≤ 63) (h2 : 0 ≤ b ∧ b ≤ 63) : tmOkQ ⟨2, v, a, b⟩ := by
  have e : isTermB ⟨2, v, a, b⟩ = true := var_in hv
  refine ⟨e, ?_⟩
  unfold toL
  rw [e, if_pos rfl]
  simp [far_ok h, far_ok h2]
theorem ok_pq {c : Cu} (h : c.pqC.fault = 0) : c.fault = 0 ∧ (∀ x, c.pqP = .inl x → isInsB x = true) ∧ (∀ t, c.pqP = .inr t → tmOkQ t) := by
  unfold Cu.pqC at h
  unfold Cu.pqP
  cases k1 : c.keyB kStQ
  case true =>
    rw [k1] at h
    simp only [if_true] at h ⊢
    obtain ⟨a1, a2⟩ := ok_va h
    obtain ⟨b1, b2, _⟩ := ok_num a1
    obtain ⟨d1, d2⟩ := ok_va b1
    refine ⟨ok_key d1, fun x hx => ?_, fun t ht => by cases ht⟩
    injection hx with hx
    subst hx
    simp [isInsB, isOpB, opD, opA, opB, opI, arithB, fitsB, var_in a2, var_in d2, imm_in b2]
  rw [k1] at h
  simp only [Bool.false_eq_true, if_false] at h ⊢
  cases k2 : c.keyB kCaQ
  case true =>
    rw [k2] at h
    simp only [if_true] at h ⊢
    obtain ⟨a1, a2⟩ := ok_call (n := 0) (.inl rfl) h
    refine ⟨ok_key a1, fun x hx => ?_, fun t ht => by cases ht⟩
    injection hx with hx
    rw [← hx]
    exact a2
  rw [k2] at h
  simp only [Bool.false_eq_true, if_false] at h ⊢
  cases k3 : c.keyB kReQ
  case true =>
    rw [k3] at h
    simp only [if_true] at h ⊢
    unfold Cu.retC at h
    unfold Cu.retN
    cases he : (c.key kReQ).ends
    · rw [he] at h
      simp only [Bool.false_eq_true, if_false] at h ⊢
      obtain ⟨a1, a2⟩ := ok_va h
      refine ⟨ok_key a1, fun x hx => (by cases hx), fun t ht => ?_⟩
      injection ht with ht
      rw [← ht]
      exact tm_ret (.inr a2)
    · rw [he] at h
      simp only [if_true] at h ⊢
      refine ⟨ok_key h, fun x hx => (by cases hx), fun t ht => ?_⟩
      injection ht with ht
      rw [← ht]
      exact tm_ret (.inl rfl)
  rw [k3] at h
  simp only [Bool.false_eq_true, if_false] at h ⊢
  cases k4 : c.keyB kTrQ
  case true =>
    rw [k4] at h
    simp only [if_true] at h ⊢
    refine ⟨ok_key h, fun x hx => (by cases hx), fun t ht => ?_⟩
    injection ht with ht
    rw [← ht]
    exact ⟨by decide, by decide⟩
  rw [k4] at h
  simp only [Bool.false_eq_true, if_false] at h ⊢
  cases k5 : c.isB sArQ
  case true =>
    rw [k5] at h
    simp only [if_true] at h ⊢
    obtain ⟨a1, a2, _⟩ := ok_num h
    refine ⟨ok_is a1, fun x hx => (by cases hx), fun t ht => ?_⟩
    injection ht with ht
    rw [← ht]
    exact tm_jump a2
  rw [k5] at h
  simp only [Bool.false_eq_true, if_false] at h ⊢
  cases k6 : c.vaC.isB sArQ
  case true =>
    rw [k6] at h
    simp only [if_true] at h ⊢
    obtain ⟨a1, a2, _⟩ := ok_num h
    obtain ⟨b1, b2, _⟩ := ok_num a1
    obtain ⟨d1, d2⟩ := ok_va (ok_is b1)
    refine ⟨d1, fun x hx => (by cases hx), fun t ht => ?_⟩
    injection ht with ht
    rw [← ht]
    exact tm_branch d2 b2 a2
  rw [k6] at h
  simp only [Bool.false_eq_true, if_false] at h ⊢
  have hf : (c.vaC.mark [sAlQ]).fault = 0 := by
    have hv : ∀ d : Cu, d.valQC.fault = 0 → d.fault = 0 := fun d h => (ok_valQ (n := 1) (by omega) h).1
    exact hv _ h
  obtain ⟨d1, d2⟩ := ok_va (ok_mark1 hf)
  obtain ⟨_, a2⟩ := ok_valQ d2 h
  refine ⟨d1, fun x hx => ?_, fun t ht => by cases ht⟩
  injection hx with hx
  rw [← hx]
  exact a2
theorem fl_bq : ∀ (f : Nat) (c : Cu) (l : List Ii), (bqGo f c l).1.fault = 0 → c.fault = 0 := by
  intro f
  induction f with
  | zero => intro c l h; exact absurd h (fl_fail (by decide))
  | succ f ih =>
    intro c l h
    rw [bqGo] at h
    split at h
    · split at h
      · exact (ok_pq (ok_end h).1).1
      · have h1 := (ok_end (ih _ _ h)).1
        unfold Cu.loQ at h1
        split at h1
        · exact absurd h1 (fl_fail (by decide))
        · exact (ok_pq h1).1
    · exact absurd h (fl_fail (by decide))
theorem ok_bq : ∀ (f : Nat) (c : Cu) (l : List Ii), (∀ x ∈ l, isInsB x = true) → l.length ≤ 64 → (bqGo f c l).1.fault = 0 → CanBq (bqGo f c l).2 := by
  intro f
  induction f with
  | zero => intro c l _ _ h; exact absurd h (fl_fail (by decide))
  | succ f ih =>
    intro c l hl h64 h
    rw [bqGo] at h ⊢
    by_cases hm : c.more = true
    · rw [if_pos hm] at h ⊢
      cases hp : c.pqP with
      | inr t =>
        rw [hp] at h
        obtain ⟨_, _, a3⟩ := ok_pq (ok_end h).1
        have := a3 t hp
        exact ⟨h64, hl, this.1, this.2⟩
      | inl x =>
        rw [hp] at h
        have h1 := (ok_end (fl_bq _ _ _ h)).1
        have h2 : l.length ≠ 64 ∧ c.pqC.fault = 0 := by
          unfold Cu.loQ at h1
          split at h1
          · exact absurd h1 (fl_fail (by decide))
          · rename_i hne
            exact ⟨hne, h1⟩
        obtain ⟨_, a2, _⟩ := ok_pq h2.2
        exact ih _ _ (fun y hy => by
          rcases List.mem_append.1 hy with hy | hy
          · exact hl y hy
          · rw [List.mem_singleton] at hy; rw [hy]; exact a2 x hp) (by simp; omega) h
    · rw [if_neg hm] at h
      exact absurd h (fl_fail (by decide))
theorem fl_fq : ∀ (f n : Nat) (c : Cu) (bs : List Bb), (fqGo f n c bs).1.fault = 0 → c.fault = 0 := by
  intro f
  induction f with
  | zero =>
    intro n c bs h
    rw [fqGo] at h
    split at h
    · exact absurd h (fl_fail (by decide))
    · exact h
  | succ f ih =>
    intro n c bs h
    rw [fqGo] at h
    split at h
    · have h1 := fl_bq _ _ _ (ih _ _ _ h)
      unfold Cu.headQ at h1
      exact (ok_keyed (ok_num (ok_end h1).1).1).1
    · exact h
theorem ok_fq : ∀ (f n : Nat) (c : Cu) (bs : List Bb), (∀ b ∈ bs, CanBq b) → n = bs.length → n + f ≤ 64 → (fqGo f n c bs).1.fault = 0 → (∀ b ∈ (fqGo f n c bs).2, CanBq b) ∧ 0 < (fqGo f n c bs).2.length ∧ (fqGo f n c bs).2.length ≤ 64 := by
  intro f
  induction f with
  | zero =>
    intro n c bs hb hn h64 h
    by_cases hm : n = 0 ∨ c.more = true
    · rw [fq_full hm] at h
      exact absurd h (fl_fail (by decide))
    · rw [fq_stop hm]
      exact ⟨hb, by show 0 < bs.length; omega, by show bs.length ≤ 64; omega⟩
  | succ f ih =>
    intro n c bs hb hn h64 h
    by_cases hm : n = 0 ∨ c.more = true
    · rw [fq_step hm] at h ⊢
      have h1 := ok_bq _ _ [] (fun x hx => by simp at hx) (by simp) (fl_fq _ _ _ _ h)
      exact ih _ _ _ (fun b hb2 => by
        rcases List.mem_append.1 hb2 with hb2 | hb2
        · exact hb b hb2
        · rw [List.mem_singleton] at hb2; rw [hb2]; exact h1) (by simp; omega) (by omega) h
    · rw [fq_stop hm] at h ⊢
      exact ⟨hb, by show 0 < bs.length; omega, by show bs.length ≤ 64; omega⟩
theorem pars_in : ∀ (l seen : List Int), (∀ v ∈ l, 1 ≤ v ∧ v ≤ 200) → l.Nodup → (∀ v ∈ l, v ∉ seen) → paramsB seen l = true := by
  intro l
  induction l with
  | nil => intro seen _ _ _; rfl
  | cons v l ih =>
    intro seen h1 h2 h3
    obtain ⟨d1, d2⟩ := List.nodup_cons.1 h2
    simp only [paramsB, Bool.and_eq_true, Bool.not_eq_true']
    refine ⟨⟨var_in (h1 v (by simp)), ?_⟩, ih _ (fun u hu => h1 u (by simp [hu])) d2 (fun u hu hm => ?_)⟩
    · have := h3 v (by simp)
      simpa using this
    · rcases List.mem_cons.1 hm with rfl | hm
      · exact d1 hu
      · exact h3 u (by simp [hu]) hm
/-- What makes a function one that can be written. -/
theorem canF_intro {f : Ff} (h1 : ∀ b ∈ f.blocks, CanBq b) (h2 : 0 < f.blocks.length ∧ f.blocks.length ≤ 64) (h3 : f.params.length ≤ 8) (h4 : ∀ v ∈ f.params, 1 ≤ v ∧ v ≤ 200) (h5 : f.params.Nodup) : canF f = true := by
  have hl : isLongB f = false := by
    unfold isLongB
    simp only [Bool.or_eq_false_iff, beq_eq_false_iff_ne, decide_eq_false_iff_not]
    refine ⟨⟨⟨by omega, by omega⟩, by omega⟩, List.any_eq_false.2 fun b hb => ?_⟩
    have := (h1 b hb).few
    simp
    omega
  have hd : shapedB f = true := by
    unfold shapedB
    rw [pars_in _ _ h4 h5 (fun v _ => by simp), Bool.true_and]
    refine List.all_eq_true.2 fun b hb => ?_
    have hB := h1 b hb
    unfold isBlockB
    rw [hB.tm, Bool.and_true]
    exact List.all_eq_true.2 hB.ins
  have hs : shapeN f = 0 := by
    unfold shapeN
    rw [hl, hd]
    rfl
  have hz : sizeN f ≠ 0 := by
    unfold sizeN
    rw [if_pos hs]
    cases hb : f.blocks with
    | nil => rw [hb] at h2; simp at h2
    | cons b r => simp only [List.map_cons, List.sum_cons]; omega
  have hf : f.blocks.any farsB = false := List.any_eq_false.2 fun b hb => by
    have := (h1 b hb).far
    unfold farsB
    rw [this]
    decide
  unfold canF
  rw [hf, decide_eq_false (show ¬ 64 < f.blocks.length by omega), decide_eq_false hz]
  rfl
theorem err_okQ {c : Cu} (h : c.eErr = 0) : c.fault = 0 := by
  by_cases hf : c.fault = 0
  · exact hf
  · unfold Cu.eErr at h
    rw [if_pos hf] at h
    exact absurd h hf
/-- What is read can be written. -/
theorem read_canF {c : Cu} (h : c.fqC.eErr = 0) : canF c.fqF = true := by
  have h0 := err_okQ h
  unfold Cu.fqC at h0
  obtain ⟨b1, b2, b3⟩ := ok_fq 64 0 _ [] (fun b hb => by simp at hb) rfl (by omega) h0
  have h1 := fl_fq _ _ _ _ h0
  unfold Cu.fqHead Cu.parsC at h1
  obtain ⟨_, p2, p3, p4⟩ := ok_pars 9 _ [] (ok_end h1).1 (by simp) (fun v hv => by simp at hv) List.nodup_nil
  exact canF_intro b1 ⟨b2, b3⟩ p2 p3 p4
end Go.Proofs.YthiipgahbmoiiaaGreatDoor
