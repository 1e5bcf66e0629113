/-
  Functions of variables, as plain data: what an instruction and an end have, read, define, need; sets of variables as numbers; what is reached, what may be without a value; which error a function has. No condition beyond those that each theorem states.
  What right parts have; what a function that is shaped has (plainly). No condition beyond those that each theorem states.
  How functions of variables lie in memory. No condition beyond those that each theorem states.
  The small calls of package ir answer what the plain functions say. No condition beyond those that each theorem states.
  Package ir tells whether a call, and an end, is right, as the plain functions say. No condition beyond those that each theorem states.
  Package ir tells an Op's parts as the plain functions say. No condition beyond those that each theorem states.
-/
import Derived.WalkKit
import Derived.Test.YthiipgahbmoiiaaGreatDoorPk1
import Derived.Test.YthiipgahbmoiiaaGreatDoorProg
import Derived.Laws.OwnMore
import Derived.Deep.AppendLies
import Derived.Deep.Draws
import Derived.Lib.Hide
namespace Go.Proofs.YthiipgahbmoiiaaGreatDoor

def varB (n : Int) : Bool := decide (1 ≤ n) && decide (n ≤ 200)
def arithB (o : Int) : Bool := decide (2 ≤ o) && decide (o ≤ 10)
def opD (o : Int) : Bool := o == 1 || arithB o || o == 11 || o == 14
def opA (o : Int) : Bool := arithB o || o == 11 || o == 12 || o == 14
def opB (o : Int) : Bool := arithB o || o == 12
def opI (o : Int) : Bool := o == 1 || o == 11 || o == 12
def fitsB (h : Bool) (n : Int) : Bool := if h then varB n else n == 0
def immB (n : Int) : Bool := decide (-1099511627776 ≤ n) && decide (n ≤ 1099511627776)
def isCallB (x : Ii) : Bool := fitsB (x.dst != 0) x.dst && decide (0 ≤ x.callee) && decide (x.callee ≤ 99) && decide (x.args.length ≤ 8) && x.args.all varB && x.a == 0 && x.b == 0 && x.imm == 0 && x.many == 0
def isOpB (x : Ii) : Bool := (opD x.op || opA x.op || opB x.op || opI x.op) && fitsB (opD x.op) x.dst && fitsB (opA x.op) x.a && fitsB (opB x.op) x.b && (immB x.imm && opI x.op || x.imm == 0) && x.callee == 0 && x.args.isEmpty && x.many == 0
/-- Whether an instruction is right. -/
def isInsB (x : Ii) : Bool := if x.op = 13 then isCallB x else isOpB x
/-- Whether an end is. -/
def isTermB (t : Tt) : Bool :=
  if t.kind = 1 then t.a == 0 && t.t1 == 0
  else if t.kind = 2 then varB t.a
  else if t.kind = 3 then fitsB (t.a != 0) t.a && (t.t0 == 0 && t.t1 == 0)
  else if t.kind = 4 then t.a == 0 && (t.t0 == 0 && t.t1 == 0)
  else false
def givenL (l : List Int) : List Int := l.filter (· != 0)
def readsL (x : Ii) : List Int := if isInsB x then givenL (x.a :: x.b :: x.args) else []
def definesN (x : Ii) : Int := if isInsB x then x.dst else 0
def needsL (t : Tt) : List Int := if isTermB t then givenL [t.a] else []
def toL (t : Tt) : List Int := if isTermB t then (if t.kind = 1 then [t.t0] else if t.kind = 2 then [t.t0, t.t1] else []) else []

def isBlockB (b : Bb) : Bool := b.ins.all isInsB && isTermB b.tm
def isLongB (f : Ff) : Bool := f.blocks.length == 0 || decide (200 < f.blocks.length) || decide (8 < f.params.length) || f.blocks.any fun b => decide (64 < b.ins.length)
/-- Whether these are variables that are all unlike. -/
def paramsB : List Int → List Int → Bool
  | _, [] => true
  | seen, v :: l => varB v && !(seen.contains v) && paramsB (v :: seen) l
def shapedB (f : Ff) : Bool := paramsB [] f.params && f.blocks.all isBlockB
def shapeN (f : Ff) : Int := if isLongB f then 3 else if shapedB f then 0 else 2

/-- A set of variables, as a number, with one more. -/
def addM (N : Nat) (v : Int) : Nat := if v = 0 then N else N ||| 2 ^ v.toNat
def withM (N : Nat) (l : List Int) : Nat := l.foldl addM N
def hasM (N : Nat) (l : List Int) : Bool := withM N l == N
/-- One word of it. -/
def wordM (N : Nat) (j : Nat) : Nat := N / 2 ^ (64 * j) % 2 ^ 64
theorem word_bit (N j i : Nat) : (wordM N j).testBit i = (decide (i < 64) && N.testBit (64 * j + i)) := by
  unfold wordM
  rw [Nat.testBit_mod_two_pow, Nat.testBit_div_two_pow, Nat.add_comm i]
theorem word_lt (N j : Nat) : wordM N j < 2 ^ 64 := Nat.mod_lt _ (by decide)
theorem word_or (N M j : Nat) : wordM (N ||| M) j = wordM N j ||| wordM M j := by
  apply Nat.eq_of_testBit_eq
  intro i
  rw [Nat.testBit_or, word_bit, word_bit, word_bit, Nat.testBit_or]
  cases decide (i < 64) <;> simp
theorem word_and (N M j : Nat) : wordM (N &&& M) j = wordM N j &&& wordM M j := by
  apply Nat.eq_of_testBit_eq
  intro i
  rw [Nat.testBit_and, word_bit, word_bit, word_bit, Nat.testBit_and]
  cases decide (i < 64) <;> simp
theorem word_pow_same (v : Nat) : wordM (2 ^ v) (v / 64) = 2 ^ (v % 64) := by
  apply Nat.eq_of_testBit_eq
  intro i
  rw [word_bit, Nat.testBit_two_pow, Nat.testBit_two_pow]
  have h := Nat.div_add_mod v 64
  have h2 := Nat.mod_lt v (show 0 < 64 by decide)
  by_cases hi : i < 64
  · have : (v = 64 * (v / 64) + i) ↔ (v % 64 = i) := by omega
    simp [hi, this]
  · have : ¬ (v % 64 = i) := by omega
    simp [hi, this]
theorem word_pow_other {v j : Nat} (h : j ≠ v / 64) : wordM (2 ^ v) j = 0 := by
  apply Nat.eq_of_testBit_eq
  intro i
  rw [word_bit, Nat.testBit_two_pow, Nat.zero_testBit]
  by_cases hi : i < 64
  · have : ¬ (v = 64 * j + i) := by omega
    simp [this]
  · simp [hi]
theorem word_add {N : Nat} {v : Int} (h : v ≠ 0) (j : Nat) : wordM (addM N v) j = if j = v.toNat / 64 then wordM N j ||| 2 ^ (v.toNat % 64) else wordM N j := by
  unfold addM
  rw [if_neg h, word_or]
  split
  · rename_i hj; subst hj; rw [word_pow_same]
  · rename_i hj; rw [word_pow_other hj, Nat.or_zero]
theorem words_same {N M : Nat} (hN : N < 2 ^ 256) (hM : M < 2 ^ 256) (h0 : wordM N 0 = wordM M 0) (h1 : wordM N 1 = wordM M 1) (h2 : wordM N 2 = wordM M 2) (h3 : wordM N 3 = wordM M 3) : N = M := by
  apply Nat.eq_of_testBit_eq
  intro i
  have hd := Nat.div_add_mod i 64
  have hm := Nat.mod_lt i (show 0 < 64 by decide)
  by_cases hi : i < 256
  · have key : ∀ j, wordM N j = wordM M j → i / 64 = j → N.testBit i = M.testBit i := by
      intro j hj e
      have h1 := word_bit N j (i % 64)
      have h2 := word_bit M j (i % 64)
      rw [hj, h2, ← e, hd] at h1
      simpa [hm] using h1.symm
    have : i / 64 = 0 ∨ i / 64 = 1 ∨ i / 64 = 2 ∨ i / 64 = 3 := by omega
    rcases this with e | e | e | e
    · exact key 0 h0 e
    · exact key 1 h1 e
    · exact key 2 h2 e
    · exact key 3 h3 e
  · rw [Nat.testBit_lt_two_pow (Nat.lt_of_lt_of_le hN (Nat.pow_le_pow_right (by decide) (by omega))), Nat.testBit_lt_two_pow (Nat.lt_of_lt_of_le hM (Nat.pow_le_pow_right (by decide) (by omega)))]
theorem add_lt {N : Nat} {v : Int} (hN : N < 2 ^ 256) (h : v ≤ 255) : addM N v < 2 ^ 256 := by
  unfold addM
  split
  · exact hN
  · exact Nat.or_lt_two_pow hN (Nat.pow_lt_pow_right (by decide) (by omega))
theorem with_lt {l : List Int} : ∀ {N : Nat}, N < 2 ^ 256 → (∀ v ∈ l, v ≤ 255) → withM N l < 2 ^ 256 := by
  induction l with
  | nil => intro N h _; exact h
  | cons v l ih => intro N h hv; exact ih (add_lt h (hv v (by simp))) (fun x hx => hv x (by simp [hx]))
theorem add_bit {N : Nat} {v : Int} (h : 0 ≤ v) (k : Nat) : (addM N v).testBit k = (N.testBit k || decide (k ≠ 0 ∧ (k : Int) = v)) := by
  unfold addM
  split
  · rename_i h0
    have : ¬ (k ≠ 0 ∧ (k : Int) = v) := by omega
    simp [this]
  · rename_i h0
    rw [Nat.testBit_or, Nat.testBit_two_pow]
    congr 1
    have : (v.toNat = k) ↔ (k ≠ 0 ∧ (k : Int) = v) := by omega
    simp only [this]
theorem with_bit {l : List Int} : ∀ {N : Nat}, (∀ v ∈ l, 0 ≤ v) → ∀ k : Nat, (withM N l).testBit k = (N.testBit k || decide (k ≠ 0 ∧ (k : Int) ∈ l)) := by
  induction l with
  | nil => intro N _ k; simp [withM]
  | cons v l ih =>
    intro N h k
    have : withM N (v :: l) = withM (addM N v) l := rfl
    rw [this, ih (fun x hx => h x (by simp [hx])) k, add_bit (h v (by simp)) k, Bool.or_assoc]
    congr 1
    rw [← Bool.decide_or]
    congr 1
    simp only [List.mem_cons, eq_iff_iff]
    constructor
    · rintro (⟨a, b⟩ | ⟨a, b⟩)
      · exact ⟨a, .inl b⟩
      · exact ⟨a, .inr b⟩
    · rintro ⟨a, b | b⟩
      · exact .inl ⟨a, b⟩
      · exact .inr ⟨a, b⟩
/-- A set has some variables, just if it has each. -/
theorem has_iff {N : Nat} {l : List Int} (h : ∀ v ∈ l, 0 ≤ v) : hasM N l = true ↔ ∀ v ∈ l, v ≠ 0 → N.testBit v.toNat = true := by
  unfold hasM
  rw [beq_iff_eq]
  constructor
  · intro e v hv h0
    have := with_bit (N := N) h v.toNat
    rw [e] at this
    have hv0 := h v hv
    have h1 : v.toNat ≠ 0 ∧ (v.toNat : Int) ∈ l := ⟨by omega, by rw [Int.toNat_of_nonneg hv0]; exact hv⟩
    rw [this, decide_eq_true h1, Bool.or_true]
  · intro hall
    apply Nat.eq_of_testBit_eq
    intro k
    rw [with_bit h k]
    by_cases hk : k ≠ 0 ∧ (k : Int) ∈ l
    · have := hall k hk.2 (by omega)
      simp at this
      simp [this]
    · simp [hk]
end Go.Proofs.YthiipgahbmoiiaaGreatDoor
namespace Go.Proofs.YthiipgahbmoiiaaGreatDoor

theorem var_iff {n : Int} : varB n = true ↔ 1 ≤ n ∧ n ≤ 200 := by simp [varB]
theorem fits_le {h : Bool} {n : Int} (hf : fitsB h n = true) : 0 ≤ n ∧ n ≤ 200 := by
  unfold fitsB at hf
  split at hf
  · have := var_iff.1 hf; omega
  · simp at hf; omega
/-- All parts of a right instruction are variables, or none. -/
theorem ins_parts {x : Ii} (h : isInsB x = true) : (0 ≤ x.dst ∧ x.dst ≤ 200) ∧ (0 ≤ x.a ∧ x.a ≤ 200) ∧ (0 ≤ x.b ∧ x.b ≤ 200) ∧ ∀ v ∈ x.args, 1 ≤ v ∧ v ≤ 200 := by
  unfold isInsB at h
  split at h
  · unfold isCallB at h
    simp only [Bool.and_eq_true, beq_iff_eq, List.all_eq_true] at h
    obtain ⟨⟨⟨⟨⟨⟨⟨⟨h1, _⟩, _⟩, _⟩, h5⟩, h6⟩, h7⟩, _⟩, _⟩ := h
    refine ⟨fits_le h1, by omega, by omega, fun v hv => var_iff.1 (h5 v hv)⟩
  · unfold isOpB at h
    simp only [Bool.and_eq_true, List.isEmpty_iff] at h
    obtain ⟨⟨⟨⟨⟨⟨⟨_, h1⟩, h2⟩, h3⟩, _⟩, _⟩, h5⟩, _⟩ := h
    refine ⟨fits_le h1, fits_le h2, fits_le h3, ?_⟩
    rw [h5]
    simp
theorem term_part {t : Tt} (h : isTermB t = true) : 0 ≤ t.a ∧ t.a ≤ 200 := by
  unfold isTermB at h
  split at h
  · simp at h; omega
  split at h
  · have := var_iff.1 h; omega
  split at h
  · simp only [Bool.and_eq_true] at h
    exact fits_le h.1
  split at h
  · simp at h; omega
  · cases h
theorem mem_given {v : Int} {l : List Int} : v ∈ givenL l ↔ v ∈ l ∧ v ≠ 0 := by simp [givenL]
theorem mem_reads {x : Ii} (h : isInsB x = true) {v : Int} : v ∈ readsL x ↔ (v = x.a ∨ v = x.b ∨ v ∈ x.args) ∧ v ≠ 0 := by
  unfold readsL
  rw [if_pos h, mem_given]
  simp
theorem mem_needs {t : Tt} (h : isTermB t = true) {v : Int} : v ∈ needsL t ↔ v = t.a ∧ v ≠ 0 := by
  unfold needsL
  rw [if_pos h, mem_given]
  simp
theorem shape_zero {f : Ff} (h : shapeN f = 0) : isLongB f = false ∧ shapedB f = true := by
  unfold shapeN at h
  split at h
  · cases h
  · rename_i h1
    split at h
    · rename_i h2; exact ⟨by simpa using h1, h2⟩
    · cases h
theorem shaped_blocks {f : Ff} (h : shapedB f = true) {x : Bb} (hx : x ∈ f.blocks) : (∀ i ∈ x.ins, isInsB i = true) ∧ isTermB x.tm = true := by
  unfold shapedB at h
  simp only [Bool.and_eq_true, List.all_eq_true] at h
  have := h.2 x hx
  unfold isBlockB at this
  simpa [List.all_eq_true] using this
theorem params_vars {l : List Int} : ∀ {seen : List Int}, paramsB seen l = true → ∀ v ∈ l, 1 ≤ v ∧ v ≤ 200 := by
  induction l with
  | nil => intro _ _ v hv; cases hv
  | cons a l ih =>
    intro seen h v hv
    unfold paramsB at h
    simp only [Bool.and_eq_true] at h
    rcases List.mem_cons.1 hv with rfl | hv
    · exact var_iff.1 h.1.1
    · exact ih h.2 v hv
theorem shaped_params {f : Ff} (h : shapedB f = true) : ∀ v ∈ f.params, 1 ≤ v ∧ v ≤ 200 := by
  unfold shapedB at h
  simp only [Bool.and_eq_true] at h
  exact params_vars h.1
end Go.Proofs.YthiipgahbmoiiaaGreatDoor
namespace Go.Proofs.YthiipgahbmoiiaaGreatDoor
open Go.RowKit

def big : Nat := 140737488355328
end Go.Proofs.YthiipgahbmoiiaaGreatDoor
namespace Go.Proofs.YthiipgahbmoiiaaGreatDoor
open Go.RowKit

set_option maxHeartbeats 1000000 in
set_option maxRecDepth 100000 in
theorem areVars_any (l : List Int) (a : Option Addr) (c : Nat) (w : World) (hl : l.length ≤ 140737488355328) (hI : IntsW w a l) :
    Calls Tryz.prog 141 #[.slice a l.length c] w fun e w' => e = .returned (.bool (l.all varB)) ∧ w = w' := by
  have HI := Lib.hid hI
  clear hI
  go_enter Tryz.func141, Tryz.ntmps141
  go_wp2
  go_loopw [7] (fun k wr => ∃ j : Nat, k = .int .i64 j ∧ j ≤ l.length ∧ Hid (l.all varB = (l.drop j).all varB) ∧ w = wr) (fun k _ => l.length - (intOf k).toNat)
  case atStart => exact ⟨0, rfl, Nat.zero_le _, rfl, rfl⟩
  case round =>
    obtain ⟨j, rfl, hj, HA, rfl⟩ := hrel
    by_cases hlt : j < l.length
    · have hlt' : (j : Int) < l.length := by omega
      have hj0 : (0 : Int) ≤ j := by omega
      obtain ⟨x, hx⟩ : ∃ x, l[j]? = some x := ⟨_, List.getElem?_eq_getElem hlt⟩
      obtain ⟨g, o, rfl, hg, h0⟩ := HI.out j x hx
      have HD : Hid (l.all varB = (varB x && (l.drop (j + 1)).all varB)) := by
        show _ = _
        rw [HA.out, List.drop_eq_getElem_cons hlt, (List.getElem?_eq_some_iff.1 hx).2]
        rfl
      clear hx HA
      by_cases h1 : x < 1
      · go_wp2
        go_ret
        exact ⟨by rw [HD.out]; simp [varB]; intro h; omega, rfl⟩
      · by_cases h2 : 200 < x
        · go_wp2
          go_ret
          exact ⟨by rw [HD.out]; simp [varB]; intro h h'; omega, rfl⟩
        · have HE : Hid (l.all varB = (l.drop (j + 1)).all varB) := by
            show _ = _
            rw [HD.out, var_iff.2 ⟨by omega, by omega⟩]
            rfl
          go_wp2
          go_roundw
          case rel => exact ⟨j + 1, by go_num, by omega, HE, trivial⟩
          case measure => simp [intOf]; omega
    · have e : j = l.length := by omega
      subst e
      go_wp2
      go_ret
      exact ⟨by rw [HA.out]; simp, rfl⟩

theorem isImm_any (n : Int) (w : World) : Calls Tryz.prog 178 #[.int .i64 n] w fun e w' => e = .returned (.bool (immB n)) ∧ w = w' := by
  go_enter Tryz.func178, Tryz.ntmps178
  by_cases h1 : (-1099511627776 : Int) ≤ n
  · go_wp2
    go_ret
    exact ⟨by simp [immB]; try omega, rfl⟩
  · go_wp2
    go_ret
    exact ⟨by simp [immB]; try omega, rfl⟩

set_option maxRecDepth 100000 in
theorem fits_any (h : Bool) (n : Int) (w : World) : Calls Tryz.prog 145 #[.bool h, .int .i64 n] w fun e w' => e = .returned (.bool (fitsB h n)) ∧ Below w.heap.size w w' := by
  go_enter Tryz.func145, Tryz.ntmps145
  cases h
  · go_wp2
    go_ret
    exact ⟨by simp [fitsB], Below.refl _ _⟩
  · have HI : Hid (IntsW (w.alloc (.cells #[.int .i64 n] 3)) (some ⟨w.heap.size, 0, none⟩) [n]) := IntsW.row (Blk.new w _ _) (fun k x hx => by
      cases k with
      | zero => simpa using hx
      | succ k => simp at hx)
    go_wp2_with fail
    refine (areVars_any [n] _ 1 _ (by simp) HI.out).mono ?_
    rintro e w1 ⟨rfl, rfl⟩
    go_wp2
    go_ret
    exact ⟨by simp [fitsB], (Below.refl _ w).alloc (Nat.le_refl _) _⟩
end Go.Proofs.YthiipgahbmoiiaaGreatDoor
namespace Go.Proofs.YthiipgahbmoiiaaGreatDoor
open Go.RowKit

set_option maxHeartbeats 2000000 in
set_option maxRecDepth 100000 in
theorem isCall_any (x : Ii) (a : Option Addr) (c : Nat) (w : World) (hl : x.args.length ≤ 140737488355328) (hI : IntsW w a x.args) :
    Calls Tryz.prog 176 #[insV x a c] w fun e w' => e = .returned (.bool (isCallB x)) ∧ Below w.heap.size w w' := by
  have HI := Lib.hid hI
  clear hI
  unfold insV
  go_enter Tryz.func176, Tryz.ntmps176
  have HB : Hid (Blk (w.alloc (.cells (insC x a c) 45)) w.heap.size 45 (insC x a c)) := Blk.new w _ _
  have HW : Hid (Below w.heap.size w (w.alloc (.cells (insC x a c) 45))) := (Below.refl _ w).alloc (Nat.le_refl _) _
  have HE := Lib.hid (isCallB.eq_1 x)
  go_wp2_with fail
  refine (fits_any (x.dst != 0) x.dst _).mono ?_
  rintro e w1 ⟨rfl, hb⟩
  have HB1 : Hid (Blk w1 w.heap.size 45 (insC x a c)) := HB.out.below hb HB.out.lt
  have HW1 : Hid (Below w.heap.size w w1) := HW.out.trans (hb.mono HW.out.size)
  have HI1 : Hid (IntsW w1 a x.args) := HI.out.below HW1.out
  clear hb HB HW HI
  obtain ⟨c0, c1, c2, c3, c4, c5, c6, c7⟩ := box8 HB1.out
  cases hf : fitsB (x.dst != 0) x.dst
  · rw [hf] at HE
    go_wp2
    go_ret
    exact ⟨by rw [HE.out]; rfl, HW1.out⟩
  rw [hf] at HE
  by_cases h1 : 0 ≤ x.callee
  case neg =>
    have : decide (0 ≤ x.callee) = false := by simpa using h1
    rw [this] at HE
    go_wp2
    go_ret
    exact ⟨by rw [HE.out]; rfl, HW1.out⟩
  rw [decide_eq_true h1] at HE
  by_cases h2 : x.callee ≤ 99
  case neg =>
    have : decide (x.callee ≤ 99) = false := by simpa using h2
    rw [this] at HE
    go_wp2
    go_ret
    exact ⟨by rw [HE.out]; rfl, HW1.out⟩
  rw [decide_eq_true h2] at HE
  by_cases h3 : x.args.length ≤ 8
  case neg =>
    have : decide (x.args.length ≤ 8) = false := by simpa using h3
    have h3' : ¬ (x.args.length : Int) ≤ 8 := by omega
    rw [this] at HE
    go_wp2
    go_ret
    exact ⟨by rw [HE.out]; rfl, HW1.out⟩
  have h3' : (x.args.length : Int) ≤ 8 := by omega
  rw [decide_eq_true h3] at HE
  go_wp2_with fail
  refine (areVars_any x.args a c _ hl HI1.out).mono ?_
  rintro e w2 ⟨rfl, rfl⟩
  cases hv : x.args.all varB
  · rw [hv] at HE
    go_wp2
    go_ret
    exact ⟨by rw [HE.out]; rfl, HW1.out⟩
  rw [hv] at HE
  cases h4 : x.a == 0
  · rw [h4] at HE
    go_wp2
    go_ret
    exact ⟨by rw [HE.out]; rfl, HW1.out⟩
  rw [h4] at HE
  cases h5 : x.b == 0
  · rw [h5] at HE
    go_wp2
    go_ret
    exact ⟨by rw [HE.out]; rfl, HW1.out⟩
  rw [h5] at HE
  cases h6 : x.imm == 0
  · rw [h6] at HE
    go_wp2
    go_ret
    exact ⟨by rw [HE.out]; rfl, HW1.out⟩
  rw [h6] at HE
  go_wp2
  go_ret
  exact ⟨by rw [HE.out]; rfl, HW1.out⟩
end Go.Proofs.YthiipgahbmoiiaaGreatDoor
namespace Go.Proofs.YthiipgahbmoiiaaGreatDoor
open Go.RowKit

def partsV (o : Int) : Value := .agg #[.bool (opD o), .bool (opA o), .bool (opB o), .bool (opI o)]
theorem parts_size : (Tryz.prog.info? 217).map (·.size) = some 4 := by kernel_rfl
set_option maxHeartbeats 4000000 in
set_option maxRecDepth 100000 in
theorem partsOf_any (o : Int) (w : World) : Calls Tryz.prog 177 #[.int .i64 o] w fun e w' => e = .returned (partsV o) ∧ Below w.heap.size w w' := by
  by_cases h12 : o = 12
  · subst h12
    go_enter Tryz.func177, Tryz.ntmps177
    go_wp2
    (try simp only [Exit.inBlock, Exit.then])
    refine bodyPost_ret (results_cell_row rfl _ _ w.heap.size 217 _ (0, 0) _ (by simp) (heap_alloc_new w _) Tryz.underlying217 rfl parts_size) rfl ?_
    exact ⟨by rfl, (Below.refl _ w).alloc (Nat.le_refl _) _⟩
  by_cases h11 : o = 11
  · subst h11
    go_enter Tryz.func177, Tryz.ntmps177
    go_wp2
    (try simp only [Exit.inBlock, Exit.then])
    refine bodyPost_ret (results_cell_row rfl _ _ w.heap.size 217 _ (0, 0) _ (by simp) (heap_alloc_new w _) Tryz.underlying217 rfl parts_size) rfl ?_
    exact ⟨by rfl, (Below.refl _ w).alloc (Nat.le_refl _) _⟩
  by_cases h1 : o = 1
  · subst h1
    go_enter Tryz.func177, Tryz.ntmps177
    go_wp2
    (try simp only [Exit.inBlock, Exit.then])
    refine bodyPost_ret (results_cell_row rfl _ _ w.heap.size 217 _ (0, 0) _ (by simp) (heap_alloc_new w _) Tryz.underlying217 rfl parts_size) rfl ?_
    exact ⟨by rfl, (Below.refl _ w).alloc (Nat.le_refl _) _⟩
  by_cases h2 : o = 2
  · subst h2
    go_enter Tryz.func177, Tryz.ntmps177
    go_wp2
    (try simp only [Exit.inBlock, Exit.then])
    refine bodyPost_ret (results_cell_row rfl _ _ w.heap.size 217 _ (0, 0) _ (by simp) (heap_alloc_new w _) Tryz.underlying217 rfl parts_size) rfl ?_
    exact ⟨by rfl, (Below.refl _ w).alloc (Nat.le_refl _) _⟩
  by_cases h3 : o = 3
  · subst h3
    go_enter Tryz.func177, Tryz.ntmps177
    go_wp2
    (try simp only [Exit.inBlock, Exit.then])
    refine bodyPost_ret (results_cell_row rfl _ _ w.heap.size 217 _ (0, 0) _ (by simp) (heap_alloc_new w _) Tryz.underlying217 rfl parts_size) rfl ?_
    exact ⟨by rfl, (Below.refl _ w).alloc (Nat.le_refl _) _⟩
  by_cases h4 : o = 4
  · subst h4
    go_enter Tryz.func177, Tryz.ntmps177
    go_wp2
    (try simp only [Exit.inBlock, Exit.then])
    refine bodyPost_ret (results_cell_row rfl _ _ w.heap.size 217 _ (0, 0) _ (by simp) (heap_alloc_new w _) Tryz.underlying217 rfl parts_size) rfl ?_
    exact ⟨by rfl, (Below.refl _ w).alloc (Nat.le_refl _) _⟩
  by_cases h5 : o = 5
  · subst h5
    go_enter Tryz.func177, Tryz.ntmps177
    go_wp2
    (try simp only [Exit.inBlock, Exit.then])
    refine bodyPost_ret (results_cell_row rfl _ _ w.heap.size 217 _ (0, 0) _ (by simp) (heap_alloc_new w _) Tryz.underlying217 rfl parts_size) rfl ?_
    exact ⟨by rfl, (Below.refl _ w).alloc (Nat.le_refl _) _⟩
  by_cases h6 : o = 6
  · subst h6
    go_enter Tryz.func177, Tryz.ntmps177
    go_wp2
    (try simp only [Exit.inBlock, Exit.then])
    refine bodyPost_ret (results_cell_row rfl _ _ w.heap.size 217 _ (0, 0) _ (by simp) (heap_alloc_new w _) Tryz.underlying217 rfl parts_size) rfl ?_
    exact ⟨by rfl, (Below.refl _ w).alloc (Nat.le_refl _) _⟩
  by_cases h7 : o = 7
  · subst h7
    go_enter Tryz.func177, Tryz.ntmps177
    go_wp2
    (try simp only [Exit.inBlock, Exit.then])
    refine bodyPost_ret (results_cell_row rfl _ _ w.heap.size 217 _ (0, 0) _ (by simp) (heap_alloc_new w _) Tryz.underlying217 rfl parts_size) rfl ?_
    exact ⟨by rfl, (Below.refl _ w).alloc (Nat.le_refl _) _⟩
  by_cases h8 : o = 8
  · subst h8
    go_enter Tryz.func177, Tryz.ntmps177
    go_wp2
    (try simp only [Exit.inBlock, Exit.then])
    refine bodyPost_ret (results_cell_row rfl _ _ w.heap.size 217 _ (0, 0) _ (by simp) (heap_alloc_new w _) Tryz.underlying217 rfl parts_size) rfl ?_
    exact ⟨by rfl, (Below.refl _ w).alloc (Nat.le_refl _) _⟩
  by_cases h9 : o = 9
  · subst h9
    go_enter Tryz.func177, Tryz.ntmps177
    go_wp2
    (try simp only [Exit.inBlock, Exit.then])
    refine bodyPost_ret (results_cell_row rfl _ _ w.heap.size 217 _ (0, 0) _ (by simp) (heap_alloc_new w _) Tryz.underlying217 rfl parts_size) rfl ?_
    exact ⟨by rfl, (Below.refl _ w).alloc (Nat.le_refl _) _⟩
  by_cases h10 : o = 10
  · subst h10
    go_enter Tryz.func177, Tryz.ntmps177
    go_wp2
    (try simp only [Exit.inBlock, Exit.then])
    refine bodyPost_ret (results_cell_row rfl _ _ w.heap.size 217 _ (0, 0) _ (by simp) (heap_alloc_new w _) Tryz.underlying217 rfl parts_size) rfl ?_
    exact ⟨by rfl, (Below.refl _ w).alloc (Nat.le_refl _) _⟩
  by_cases h14 : o = 14
  · subst h14
    go_enter Tryz.func177, Tryz.ntmps177
    go_wp2
    (try simp only [Exit.inBlock, Exit.then])
    refine bodyPost_ret (results_cell_row rfl _ _ w.heap.size 217 _ (0, 0) _ (by simp) (heap_alloc_new w _) Tryz.underlying217 rfl parts_size) rfl ?_
    exact ⟨by rfl, (Below.refl _ w).alloc (Nat.le_refl _) _⟩
  have q12 : (o == 12) = false := by simp [h12]
  have q11 : (o == 11) = false := by simp [h11]
  have q1 : (o == 1) = false := by simp [h1]
  have q2 : (o == 2) = false := by simp [h2]
  have q3 : (o == 3) = false := by simp [h3]
  have q4 : (o == 4) = false := by simp [h4]
  have q5 : (o == 5) = false := by simp [h5]
  have q6 : (o == 6) = false := by simp [h6]
  have q7 : (o == 7) = false := by simp [h7]
  have q8 : (o == 8) = false := by simp [h8]
  have q9 : (o == 9) = false := by simp [h9]
  have q10 : (o == 10) = false := by simp [h10]
  have q14 : (o == 14) = false := by simp [h14]
  have ha : arithB o = false := by unfold arithB; by_cases h : 2 ≤ o <;> simp [h]; omega
  have hD : opD o = false := by simp [opD, ha, q1, q11, q14]
  have hA : opA o = false := by simp [opA, ha, q11, q12, q14]
  have hB : opB o = false := by simp [opB, ha, q12]
  have hI : opI o = false := by simp [opI, q1, q11, q12]
  have hV : partsV o = .agg #[.bool false, .bool false, .bool false, .bool false] := by unfold partsV; rw [hD, hA, hB, hI]
  rw [hV]
  clear h12 h11 h1 h2 h3 h4 h5 h6 h7 h8 h9 h10 h14 ha hD hA hB hI hV
  go_enter Tryz.func177, Tryz.ntmps177
  go_wp2
  (try simp only [Exit.inBlock, Exit.then])
  refine bodyPost_ret (results_cell_row rfl _ _ w.heap.size 217 _ (0, 0) _ (by simp) (heap_alloc_new w _) Tryz.underlying217 rfl parts_size) rfl ?_
  exact ⟨by rfl, (Below.refl _ w).alloc (Nat.le_refl _) _⟩
end Go.Proofs.YthiipgahbmoiiaaGreatDoor
