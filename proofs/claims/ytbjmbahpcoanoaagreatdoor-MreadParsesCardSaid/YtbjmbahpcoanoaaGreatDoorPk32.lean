/-
  Package mread's part, its paths joined; a block's lines, plainly. Conditions: the library's tables, its errors, and the Ops' names are there.
-/
import Derived.Test.YtbjmbahpcoanoaaGreatDoorPk31
namespace Go.Proofs.YtbjmbahpcoanoaaGreatDoor
open Go.RowKit

def kSt : ByteArray := ⟨#[115, 116, 111, 114, 101]⟩
def kCa : ByteArray := ⟨#[99, 97, 108, 108]⟩
def kRe : ByteArray := ⟨#[114, 101, 116, 117, 114, 110]⟩
def kTr : ByteArray := ⟨#[116, 114, 97, 112]⟩
def sAr : ByteArray := ⟨#[226, 134, 146]⟩
def sAl : ByteArray := ⟨#[226, 134, 144]⟩
/-- What is got of a line, and where the cursor is behind it. -/
def Cu.partC (c : Cu) : Cu :=
  if c.keyB kSt then (((c.key kSt).regC).num (-1099511627776) 1099511627776).regC
  else if c.keyB kCa then ((c.key kCa).num 0 99).num 0 8
  else if c.keyB kRe then (c.key kRe).toldC
  else if c.keyB kTr then c.key kTr
  else if c.isB sAr then (c.is sAr).num 0 199
  else if c.slotB then (c.slotC.mark [sAl]).regC
  else if c.regC.isB sAr then ((c.regC.is sAr).num 0 199).num 0 199
  else (c.regC.mark [sAl]).valC
def Cu.partP (c : Cu) : Ii ⊕ Tt :=
  if c.keyB kSt then .inl ⟨12, 0, (c.key kSt).regN, (((c.key kSt).regC).num (-1099511627776) 1099511627776).regN, ((c.key kSt).regC).numN (-1099511627776) 1099511627776, 0, [], 0⟩
  else if c.keyB kCa then .inl ⟨13, 0, 0, 0, 0, (c.key kCa).numN 0 99, [], ((c.key kCa).num 0 99).numN 0 8⟩
  else if c.keyB kRe then .inr ⟨3, (c.key kRe).toldN, 0, 0⟩
  else if c.keyB kTr then .inr ⟨4, 0, 0, 0⟩
  else if c.isB sAr then .inr ⟨1, 0, (c.is sAr).numN 0 199, 0⟩
  else if c.slotB then .inl ⟨16, 0, (c.slotC.mark [sAl]).regN, 0, c.slotN, 0, [], 0⟩
  else if c.regC.isB sAr then .inr ⟨2, c.regN, (c.regC.is sAr).numN 0 199, ((c.regC.is sAr).num 0 199).numN 0 199⟩
  else .inl ((c.regC.mark [sAl]).valI c.regN)
def partV : Ii ⊕ Tt → Value
  | .inl x => .iface 46 (insV x none 0)
  | .inr t => .iface 51 (termV t)
theorem valI_args (c : Cu) (n : Int) : (c.valI n).args = [] := by
  unfold Cu.valI
  repeat' split
  all_goals rfl
theorem partP_args {c : Cu} {x : Ii} (h : c.partP = .inl x) : x.args = [] := by
  unfold Cu.partP at h
  repeat' split at h
  all_goals first
    | (injection h with h; subst h; rfl)
    | (injection h with h; subst h; exact valI_args _ _)
    | cases h
theorem Fit.partC {c : Cu} (h : Fit c) : Fit c.partC := by
  unfold Cu.partC
  repeat' split
  · exact ((h.key _).regC.num _ _).regC
  · exact ((h.key _).num _ _).num _ _
  · exact (h.key _).toldC
  · exact h.key _
  · exact (h.is _).num _ _
  · exact (h.slotC.mark _).regC
  · exact ((h.regC.is _).num _ _).num _ _
  · exact (h.regC.mark _).valC
set_option maxRecDepth 100000 in
theorem part_any (w0 w : World) (q g : Nat) (c : Cu) (hT : TabR w0) (h : Rp w0 w q g c) :
    Calls Tryz.prog 117 #[.pointer (some ⟨q, 0, none⟩)] w fun e w' => e = .returned (partV c.partP) ∧ Went w0 w q g c.partC w' := by
  unfold Cu.partP Cu.partC
  by_cases k0 : c.keyB kSt = true
  · rw [if_pos k0, if_pos k0]; exact part_store w0 w q g c hT h k0
  rw [if_neg k0, if_neg k0]; replace k0 := Bool.eq_false_iff.2 k0
  by_cases k1 : c.keyB kCa = true
  · rw [if_pos k1, if_pos k1]; exact part_call w0 w q g c hT h k0 k1
  rw [if_neg k1, if_neg k1]; replace k1 := Bool.eq_false_iff.2 k1
  by_cases k2 : c.keyB kRe = true
  · rw [if_pos k2, if_pos k2]; exact part_return w0 w q g c hT h k0 k1 k2
  rw [if_neg k2, if_neg k2]; replace k2 := Bool.eq_false_iff.2 k2
  by_cases k3 : c.keyB kTr = true
  · rw [if_pos k3, if_pos k3]; exact part_trap w0 w q g c hT h k0 k1 k2 k3
  rw [if_neg k3, if_neg k3]; replace k3 := Bool.eq_false_iff.2 k3
  by_cases k4 : c.isB sAr = true
  · rw [if_pos k4, if_pos k4]; exact part_jump w0 w q g c hT h k0 k1 k2 k3 k4
  rw [if_neg k4, if_neg k4]; replace k4 := Bool.eq_false_iff.2 k4
  by_cases k5 : c.slotB = true
  · rw [if_pos k5, if_pos k5]; exact part_put w0 w q g c hT h k0 k1 k2 k3 k4 k5
  rw [if_neg k5, if_neg k5]; replace k5 := Bool.eq_false_iff.2 k5
  by_cases k6 : c.regC.isB sAr = true
  · rw [if_pos k6, if_pos k6]; exact part_branch w0 w q g c hT h k0 k1 k2 k3 k4 k5 k6
  rw [if_neg k6, if_neg k6]; replace k6 := Bool.eq_false_iff.2 k6
  exact part_value w0 w q g c hT h k0 k1 k2 k3 k4 k5 k6

/-- No step makes the words that are left more. -/
theorem mp_pass_len (c : Cu) : c.pass.left.length ≤ c.left.length := by simp [Cu.pass]
theorem mp_fail_len (c : Cu) (e : Int) : (c.fail e).left.length ≤ c.left.length := by
  unfold Cu.fail; split
  · exact Nat.le_refl _
  · simp
theorem mp_over_len (c : Cu) (b : Bool) : (c.over b).left.length ≤ c.left.length := by cases b; exact Nat.le_refl _; exact mp_pass_len c
theorem mp_key_len (c : Cu) (s : ByteArray) : (c.key s).left.length ≤ c.left.length := mp_over_len _ _
theorem mp_is_len (c : Cu) (s : ByteArray) : (c.is s).left.length ≤ c.left.length := mp_over_len _ _
theorem mp_name_len (c : Cu) : c.name.left.length ≤ c.left.length := by unfold Cu.name; split; exact mp_pass_len c; exact mp_fail_len c _
theorem mp_num_len (c : Cu) (a b : Int) : (c.num a b).left.length ≤ c.left.length := by
  unfold Cu.num
  split
  · split
    · exact mp_pass_len c
    · exact mp_fail_len c _
  · exact mp_fail_len c _
theorem mp_mark_len (c : Cu) (l : List ByteArray) : (c.mark l).left.length ≤ c.left.length := by
  induction l generalizing c with
  | nil => exact Nat.le_refl _
  | cons s r ih =>
    unfold Cu.mark
    split
    · exact Nat.le_trans (ih _) (mp_is_len c s)
    · exact mp_fail_len c _
theorem mp_regC_len (c : Cu) : c.regC.left.length ≤ c.left.length := by unfold Cu.regC; split; exact mp_name_len c; exact mp_fail_len c _
theorem mp_slotC_len (c : Cu) : c.slotC.left.length ≤ c.left.length := by unfold Cu.slotC; split; exact mp_name_len c; exact Nat.le_refl _
theorem mp_toldC_len (c : Cu) : c.toldC.left.length ≤ c.left.length := by unfold Cu.toldC; split; exact Nat.le_refl _; exact mp_regC_len c
theorem mp_valC_len (c : Cu) : c.valC.left.length ≤ c.left.length := by
  unfold Cu.valC
  repeat' split
  · exact mp_slotC_len c
  · exact mp_regC_len c
  · exact Nat.le_trans (mp_num_len _ _ _) (mp_name_len c)
  · exact Nat.le_trans (mp_num_len _ _ _) (Nat.le_trans (mp_regC_len _) (mp_name_len c))
  · exact Nat.le_trans (mp_regC_len _) (Nat.le_trans (mp_regC_len _) (mp_name_len c))
theorem mp_partC_len (c : Cu) : c.partC.left.length ≤ c.left.length := by
  unfold Cu.partC
  repeat' split
  · exact Nat.le_trans (mp_regC_len _) (Nat.le_trans (mp_num_len _ _ _) (Nat.le_trans (mp_regC_len _) (mp_key_len _ _)))
  · exact Nat.le_trans (mp_num_len _ _ _) (Nat.le_trans (mp_num_len _ _ _) (mp_key_len _ _))
  · exact Nat.le_trans (mp_toldC_len _) (mp_key_len _ _)
  · exact mp_key_len _ _
  · exact Nat.le_trans (mp_num_len _ _ _) (mp_is_len _ _)
  · exact Nat.le_trans (mp_regC_len _) (Nat.le_trans (mp_mark_len _ _) (mp_slotC_len _))
  · exact Nat.le_trans (mp_num_len _ _ _) (Nat.le_trans (mp_num_len _ _ _) (Nat.le_trans (mp_is_len _ _) (mp_regC_len _)))
  · exact Nat.le_trans (mp_valC_len _) (Nat.le_trans (mp_mark_len _ _) (mp_regC_len _))
theorem mp_end_lt {c : Cu} (ho : c.Ok) (h : 0 < c.left.length) : c.end_.left.length < c.left.length := by
  have hf : c.fault = 0 := by
    by_cases hf : c.fault = 0
    · exact hf
    · have := ho.gone hf
      rw [this] at h; simp at h
  unfold Cu.end_
  split
  · simp only [Cu.pass, List.length_tail]; omega
  · have hm : c.more = true := by
      unfold Cu.more
      cases hl : c.left with
      | nil => rw [hl] at h; simp at h
      | cons x l => rfl
    rw [if_pos hm]
    unfold Cu.fail
    rw [if_neg (by rintro (h1 | h1); omega; exact h1 hf)]
    exact h
theorem mp_end_len (c : Cu) : c.end_.left.length ≤ c.left.length := by
  unfold Cu.end_
  split
  · exact mp_pass_len c
  · split
    · exact mp_fail_len c _
    · exact Nat.le_refl _
theorem more_pos {c : Cu} (h : c.more = true) : 0 < c.left.length := by
  unfold Cu.more at h
  cases hl : c.left with
  | nil => rw [hl] at h; simp at h
  | cons x l => simp
/-- Behind a line's end: of too many instructions none more. -/
def Cu.longC (c : Cu) (n : Nat) : Cu := if n = 4000 then c.partC.fail 3 else c.partC
theorem Fit.longC {c : Cu} (h : Fit c) (n : Nat) : Fit (c.longC n) := by unfold Cu.longC; split; exact h.partC.fail 3; exact h.partC
theorem mp_longC_len (c : Cu) (n : Nat) : (c.longC n).left.length ≤ c.left.length := by
  unfold Cu.longC; split
  · exact Nat.le_trans (mp_fail_len _ _) (mp_partC_len c)
  · exact mp_partC_len c
theorem line_less {d c : Cu} (ho : d.Ok) (h : d.left.length ≤ c.left.length) (hm : c.more = true) : d.end_.left.length < c.left.length := by
  have hp := more_pos hm
  by_cases h0 : 0 < d.left.length
  · exact Nat.lt_of_lt_of_le (mp_end_lt ho h0) h
  · have := mp_end_len d
    omega
/-- A block's lines: what is left, the instructions, the end. -/
def blkGo : Nat → Cu → List Ii → Cu × Bb
  | 0, c, l => (c.fail 7, ⟨l, ⟨0, 0, 0, 0⟩⟩)
  | f + 1, c, l => if c.more then (match c.partP with | .inr t => (c.partC.end_, ⟨l, t⟩) | .inl x => blkGo f (c.longC l.length).end_ (l ++ [x])) else (c.fail 7, ⟨l, ⟨0, 0, 0, 0⟩⟩)
def Cu.blk (c : Cu) (l : List Ii) : Cu × Bb := blkGo c.left.length c l
theorem blk_fuel : ∀ (f g : Nat) (c : Cu) (l : List Ii), Fit c → c.left.length ≤ f → c.left.length ≤ g → blkGo f c l = blkGo g c l := by
  intro f
  induction f with
  | zero =>
    intro g c l _ h1 _
    have hg : c.more = false := by
      have : c.left = [] := List.length_eq_zero_iff.1 (by omega)
      simp [Cu.more, this]
    cases g with
    | zero => rfl
    | succ g => rw [blkGo, blkGo, if_neg (by rw [hg]; decide)]
  | succ f ih =>
    intro g c l h h1 h2
    by_cases hg : c.more = true
    · have hp := more_pos hg
      cases g with
      | zero => omega
      | succ g =>
        rw [blkGo, blkGo, if_pos hg, if_pos hg]
        cases c.partP with
        | inr t => rfl
        | inl x =>
          have := line_less (h.longC l.length).ok (mp_longC_len c l.length) hg
          exact ih g _ _ (h.longC _).end_ (by omega) (by omega)
    · cases g with
      | zero => rw [blkGo, blkGo, if_neg hg]
      | succ g => rw [blkGo, blkGo, if_neg hg, if_neg hg]
theorem blk_none {c : Cu} (h : c.more = false) (l : List Ii) : c.blk l = (c.fail 7, ⟨l, ⟨0, 0, 0, 0⟩⟩) := by
  unfold Cu.blk
  cases c.left.length with
  | zero => rfl
  | succ f => rw [blkGo, if_neg (by rw [h]; decide)]
theorem blk_end {c : Cu} {t : Tt} (h : c.more = true) (hp : c.partP = .inr t) (l : List Ii) : c.blk l = (c.partC.end_, ⟨l, t⟩) := by
  unfold Cu.blk
  have := more_pos h
  obtain ⟨f, hf⟩ : ∃ f, c.left.length = f + 1 := ⟨c.left.length - 1, by omega⟩
  rw [hf, blkGo, if_pos h, hp]
theorem blk_ins {c : Cu} {x : Ii} (hF : Fit c) (h : c.more = true) (hp : c.partP = .inl x) (l : List Ii) : c.blk l = (c.longC l.length).end_.blk (l ++ [x]) := by
  have hl := line_less (hF.longC l.length).ok (mp_longC_len c l.length) h
  unfold Cu.blk
  have := more_pos h
  obtain ⟨f, hf⟩ : ∃ f, c.left.length = f + 1 := ⟨c.left.length - 1, by omega⟩
  rw [hf, blkGo, if_pos h, hp]
  exact blk_fuel _ _ _ _ (hF.longC _).end_ (by omega) (Nat.le_refl _)
end Go.Proofs.YtbjmbahpcoanoaaGreatDoor
