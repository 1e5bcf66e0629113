/-
  Package read's part, its paths joined; a block's lines, plainly (written by gen/rdf.py). Conditions: the library's tables, its errors, and the Ops' names are there.
-/
import Derived.Test.YthiipgahbmoiiaaGreatDoorPk33
namespace Go.Proofs.YthiipgahbmoiiaaGreatDoor
open Go.RowKit

def kStQ : ByteArray := ⟨#[115, 116, 111, 114, 101]⟩
def kReQ : ByteArray := ⟨#[114, 101, 116, 117, 114, 110]⟩
def kTrQ : ByteArray := ⟨#[116, 114, 97, 112]⟩
def sArQ : ByteArray := ⟨#[226, 134, 146]⟩
def sAlQ : ByteArray := ⟨#[226, 134, 144]⟩
theorem ano_len (c : Cu) (m : Nat) : (c.anoC m).left.length ≤ c.left.length := by unfold Cu.anoC; split; exact mp_fail_len c _; exact Nat.le_refl _
theorem argsGo_fit : ∀ (f : Nat) (c : Cu) (l : List Int), Fit c → Fit (argsGo f c l).1 ∧ (argsGo f c l).1.left.length ≤ c.left.length := by
  intro f
  induction f with
  | zero => intro c l h; exact ⟨h, Nat.le_refl _⟩
  | succ f ih =>
    intro c l h
    rw [argsGo]
    split
    · obtain ⟨h1, h2⟩ := ih (c.anoC l.length).vaC (l ++ [(c.anoC l.length).vaN]) (h.anoC _).vaC
      exact ⟨h1, Nat.le_trans h2 (Nat.le_trans (va_len _) (ano_len _ _))⟩
    · exact ⟨h.anoC _, ano_len _ _⟩
theorem Fit.argsC {c : Cu} (h : Fit c) : Fit c.argsC := (argsGo_fit 9 c [] h).1
theorem argsC_len {c : Cu} (h : Fit c) : c.argsC.left.length ≤ c.left.length := (argsGo_fit 9 c [] h).2
theorem Fit.callC {c : Cu} (h : Fit c) : Fit c.callC := (h.num 0 99).argsC
theorem callC_len {c : Cu} (h : Fit c) : c.callC.left.length ≤ c.left.length := Nat.le_trans (argsC_len (h.num 0 99)) (mp_num_len _ _ _)
theorem Fit.valQC {c : Cu} (h : Fit c) : Fit c.valQC := by
  unfold Cu.valQC
  repeat' split
  · exact (h.key _).callC
  · exact h.vaC
  · exact h.name.num _ _
  · exact h.name.vaC.num _ _
  · exact h.name.vaC.vaC
theorem valQC_len {c : Cu} (h : Fit c) : c.valQC.left.length ≤ c.left.length := by
  unfold Cu.valQC
  repeat' split
  · exact Nat.le_trans (callC_len (h.key _)) (mp_key_len _ _)
  · exact va_len c
  · exact Nat.le_trans (mp_num_len _ _ _) (mp_name_len c)
  · exact Nat.le_trans (mp_num_len _ _ _) (Nat.le_trans (va_len _) (mp_name_len c))
  · exact Nat.le_trans (va_len _) (Nat.le_trans (va_len _) (mp_name_len c))
theorem retC_len (c : Cu) : c.retC.left.length ≤ c.left.length := by unfold Cu.retC; split; exact Nat.le_refl _; exact va_len c
/-- What is got of a line, and where the cursor is behind it. -/
def Cu.pqC (c : Cu) : Cu :=
  if c.keyB kStQ then (((c.key kStQ).vaC).num (-1099511627776) 1099511627776).vaC
  else if c.keyB kCaQ then (c.key kCaQ).callC
  else if c.keyB kReQ then (c.key kReQ).retC
  else if c.keyB kTrQ then c.key kTrQ
  else if c.isB sArQ then (c.is sArQ).num 0 63
  else if c.vaC.isB sArQ then ((c.vaC.is sArQ).num 0 63).num 0 63
  else (c.vaC.mark [sAlQ]).valQC
def Cu.pqP (c : Cu) : Ii ⊕ Tt :=
  if c.keyB kStQ then .inl ⟨12, 0, (c.key kStQ).vaN, (((c.key kStQ).vaC).num (-1099511627776) 1099511627776).vaN, ((c.key kStQ).vaC).numN (-1099511627776) 1099511627776, 0, [], 0⟩
  else if c.keyB kCaQ then .inl ((c.key kCaQ).callI 0)
  else if c.keyB kReQ then .inr ⟨3, (c.key kReQ).retN, 0, 0⟩
  else if c.keyB kTrQ then .inr ⟨4, 0, 0, 0⟩
  else if c.isB sArQ then .inr ⟨1, 0, (c.is sArQ).numN 0 63, 0⟩
  else if c.vaC.isB sArQ then .inr ⟨2, c.vaN, (c.vaC.is sArQ).numN 0 63, ((c.vaC.is sArQ).num 0 63).numN 0 63⟩
  else .inl ((c.vaC.mark [sAlQ]).valQ c.vaN)
theorem Fit.pqC {c : Cu} (h : Fit c) : Fit c.pqC := by
  unfold Cu.pqC
  repeat' split
  · exact ((h.key _).vaC.num _ _).vaC
  · exact (h.key _).callC
  · exact (h.key _).retC
  · exact h.key _
  · exact (h.is _).num _ _
  · exact ((h.vaC.is _).num _ _).num _ _
  · exact (h.vaC.mark _).valQC
theorem pq_len {c : Cu} (h : Fit c) : c.pqC.left.length ≤ c.left.length := by
  unfold Cu.pqC
  repeat' split
  · exact Nat.le_trans (va_len _) (Nat.le_trans (mp_num_len _ _ _) (Nat.le_trans (va_len _) (mp_key_len _ _)))
  · exact Nat.le_trans (callC_len (h.key _)) (mp_key_len _ _)
  · exact Nat.le_trans (retC_len _) (mp_key_len _ _)
  · exact mp_key_len _ _
  · exact Nat.le_trans (mp_num_len _ _ _) (mp_is_len _ _)
  · exact Nat.le_trans (mp_num_len _ _ _) (Nat.le_trans (mp_num_len _ _ _) (Nat.le_trans (mp_is_len _ _) (va_len _)))
  · exact Nat.le_trans (valQC_len (h.vaC.mark _)) (Nat.le_trans (mp_mark_len _ _) (va_len _))
set_option maxRecDepth 100000 in
theorem partQ_any (w0 w : World) (q g : Nat) (c : Cu) (hT : TabQ w0) (h : Rq w0 w q g c) :
    Calls Tryz.prog 129 #[.pointer (some ⟨q, 0, none⟩)] w fun e w' => PartQ w0 w w' q g c.pqC c.pqP e := by
  unfold Cu.pqP Cu.pqC
  by_cases k0 : c.keyB kStQ = true
  · rw [if_pos k0, if_pos k0]; exact partQ_store w0 w q g c hT h k0
  rw [if_neg k0, if_neg k0]; replace k0 := Bool.eq_false_iff.2 k0
  by_cases k1 : c.keyB kCaQ = true
  · rw [if_pos k1, if_pos k1]; exact partQ_call w0 w q g c hT h k0 k1
  rw [if_neg k1, if_neg k1]; replace k1 := Bool.eq_false_iff.2 k1
  by_cases k2 : c.keyB kReQ = true
  · rw [if_pos k2, if_pos k2]; exact partQ_return w0 w q g c hT h k0 k1 k2
  rw [if_neg k2, if_neg k2]; replace k2 := Bool.eq_false_iff.2 k2
  by_cases k3 : c.keyB kTrQ = true
  · rw [if_pos k3, if_pos k3]; exact partQ_trap w0 w q g c h k0 k1 k2 k3
  rw [if_neg k3, if_neg k3]; replace k3 := Bool.eq_false_iff.2 k3
  by_cases k4 : c.isB sArQ = true
  · rw [if_pos k4, if_pos k4]; exact partQ_jump w0 w q g c h k0 k1 k2 k3 k4
  rw [if_neg k4, if_neg k4]; replace k4 := Bool.eq_false_iff.2 k4
  by_cases k6 : c.vaC.isB sArQ = true
  · rw [if_pos k6, if_pos k6]; exact partQ_branch w0 w q g c hT h k0 k1 k2 k3 k4 k6
  rw [if_neg k6, if_neg k6]; replace k6 := Bool.eq_false_iff.2 k6
  exact partQ_value w0 w q g c hT h k0 k1 k2 k3 k4 k6
/-- Behind a line's end: of too many instructions none more. -/
def Cu.loQ (c : Cu) (n : Nat) : Cu := if n = 64 then c.pqC.fail 3 else c.pqC
theorem Fit.loQ {c : Cu} (h : Fit c) (n : Nat) : Fit (c.loQ n) := by unfold Cu.loQ; split; exact h.pqC.fail 3; exact h.pqC
theorem loQ_len {c : Cu} (h : Fit c) (n : Nat) : (c.loQ n).left.length ≤ c.left.length := by
  unfold Cu.loQ; split
  · exact Nat.le_trans (mp_fail_len _ _) (pq_len h)
  · exact pq_len h
theorem less_end {d c : Cu} (ho : d.Ok) (h : d.left.length ≤ c.left.length) (hm : c.more = true) : d.end_.left.length < c.left.length := by
  have hp := more_pos hm
  by_cases h0 : 0 < d.left.length
  · exact Nat.lt_of_lt_of_le (mp_end_lt ho h0) h
  · have := mp_end_len d
    omega
/-- A block's lines: what is left, the instructions, the end. -/
def bqGo : Nat → Cu → List Ii → Cu × Bb
  | 0, c, l => (c.fail 7, ⟨l, ⟨0, 0, 0, 0⟩⟩)
  | f + 1, c, l => if c.more then (match c.pqP with | .inr t => (c.pqC.end_, ⟨l, t⟩) | .inl x => bqGo f (c.loQ l.length).end_ (l ++ [x])) else (c.fail 7, ⟨l, ⟨0, 0, 0, 0⟩⟩)
def Cu.bq (c : Cu) (l : List Ii) : Cu × Bb := bqGo c.left.length c l
theorem bq_fuel : ∀ (f g : Nat) (c : Cu) (l : List Ii), Fit c → c.left.length ≤ f → c.left.length ≤ g → bqGo f c l = bqGo g c l := by
  intro f
  induction f with
  | zero =>
    intro g c l _ h1 _
    have hg : c.more = false := by
      have : c.left = [] := List.length_eq_zero_iff.1 (by omega)
      simp [Cu.more, this]
    cases g with
    | zero => rfl
    | succ g => rw [bqGo, bqGo, if_neg (by rw [hg]; decide)]
  | succ f ih =>
    intro g c l h h1 h2
    by_cases hg : c.more = true
    · have hp := more_pos hg
      cases g with
      | zero => omega
      | succ g =>
        rw [bqGo, bqGo, if_pos hg, if_pos hg]
        cases c.pqP with
        | inr t => rfl
        | inl x =>
          have := less_end (h.loQ l.length).ok (loQ_len h l.length) hg
          exact ih g _ _ (h.loQ _).end_ (by omega) (by omega)
    · cases g with
      | zero => rw [bqGo, bqGo, if_neg hg]
      | succ g => rw [bqGo, bqGo, if_neg hg, if_neg hg]
theorem bq_none {c : Cu} (h : c.more = false) (l : List Ii) : c.bq l = (c.fail 7, ⟨l, ⟨0, 0, 0, 0⟩⟩) := by
  unfold Cu.bq
  cases c.left.length with
  | zero => rfl
  | succ f => rw [bqGo, if_neg (by rw [h]; decide)]
theorem bq_end {c : Cu} {t : Tt} (h : c.more = true) (hp : c.pqP = .inr t) (l : List Ii) : c.bq l = (c.pqC.end_, ⟨l, t⟩) := by
  unfold Cu.bq
  have := more_pos h
  obtain ⟨f, hf⟩ : ∃ f, c.left.length = f + 1 := ⟨c.left.length - 1, by omega⟩
  rw [hf, bqGo, if_pos h, hp]
theorem bq_ins {c : Cu} {x : Ii} (hF : Fit c) (h : c.more = true) (hp : c.pqP = .inl x) (l : List Ii) : c.bq l = (c.loQ l.length).end_.bq (l ++ [x]) := by
  have hl := less_end (hF.loQ l.length).ok (loQ_len hF l.length) h
  unfold Cu.bq
  have := more_pos h
  obtain ⟨f, hf⟩ : ∃ f, c.left.length = f + 1 := ⟨c.left.length - 1, by omega⟩
  rw [hf, bqGo, if_pos h, hp]
  exact bq_fuel _ _ _ _ (hF.loQ _).end_ (by omega) (Nat.le_refl _)
theorem bqGo_fit : ∀ (f : Nat) (c : Cu) (l : List Ii), Fit c → Fit (bqGo f c l).1 := by
  intro f
  induction f with
  | zero => intro c l h; exact h.fail 7
  | succ f ih =>
    intro c l h
    rw [bqGo]
    split
    · split
      · exact h.pqC.end_
      · exact ih _ _ (h.loQ _).end_
    · exact h.fail 7
end Go.Proofs.YthiipgahbmoiiaaGreatDoor
