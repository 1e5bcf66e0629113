/-
  Functions of variables, as plain data: what an instruction and an end have, read, define, need; sets of variables as numbers; what is reached, what may be without a value; which error a function has. No condition beyond those that each theorem states.
-/
import Derived.WalkKit
namespace Go.Proofs.YtgpbpbhidemciaaGreat

/-- An instruction. -/
structure Ii where
  op : Int
  dst : Int
  a : Int
  b : Int
  imm : Int
  callee : Int
  args : List Int
  many : Int
/-- An end. -/
structure Tt where
  kind : Int
  a : Int
  t0 : Int
  t1 : Int
/-- A block. -/
structure Bb where
  ins : List Ii
  tm : Tt
/-- A function. -/
structure Ff where
  params : List Int
  blocks : List Bb

def varB (n : Int) : Bool := decide (1 ≤ n) && decide (n ≤ 200)
def arithB (o : Int) : Bool := decide (2 ≤ o) && decide (o ≤ 10)
def opD (o : Int) : Bool := o == 1 || arithB o || o == 11 || o == 14
def opA (o : Int) : Bool := arithB o || o == 11 || o == 12 || o == 14
def opB (o : Int) : Bool := arithB o || o == 12
def opI (o : Int) : Bool := o == 1 || o == 11 || o == 12
def fitsB (h : Bool) (n : Int) : Bool := if h then varB n else n == 0
def immB (n : Int) : Bool := decide (-1099511627776 ≤ n) && decide (n ≤ 1099511627776)
def isCallB (x : Ii) : Bool := fitsB (x.dst != 0) x.dst && decide (0 ≤ x.callee) && decide (x.callee ≤ 99) && decide (x.args.length ≤ 8) && x.args.all varB && x.a == 0 && x.b == 0 && x.imm == 0 && x.many == 0
def isOpB (x : Ii) : Bool := (opD x.op || opA x.op || opB x.op || opI x.op) && fitsB (opD x.op) x.dst && fitsB (opA x.op) x.a && fitsB (opB x.op) x.b && (immB x.imm && opI x.op || x.imm == 0) && x.callee == 0 && x.args.isEmpty && x.many == 0
/-- Whether an instruction is right. -/
def isInsB (x : Ii) : Bool := if x.op = 13 then isCallB x else isOpB x
/-- Whether an end is. -/
def isTermB (t : Tt) : Bool :=
  if t.kind = 1 then t.a == 0 && t.t1 == 0
  else if t.kind = 2 then varB t.a
  else if t.kind = 3 then fitsB (t.a != 0) t.a && (t.t0 == 0 && t.t1 == 0)
  else if t.kind = 4 then t.a == 0 && (t.t0 == 0 && t.t1 == 0)
  else false
def givenL (l : List Int) : List Int := l.filter (· != 0)
def readsL (x : Ii) : List Int := if isInsB x then givenL (x.a :: x.b :: x.args) else []
def definesN (x : Ii) : Int := if isInsB x then x.dst else 0
def needsL (t : Tt) : List Int := if isTermB t then givenL [t.a] else []
def toL (t : Tt) : List Int := if isTermB t then (if t.kind = 1 then [t.t0] else if t.kind = 2 then [t.t0, t.t1] else []) else []

def isBlockB (b : Bb) : Bool := b.ins.all isInsB && isTermB b.tm
def isLongB (f : Ff) : Bool := f.blocks.length == 0 || decide (200 < f.blocks.length) || decide (8 < f.params.length) || f.blocks.any fun b => decide (64 < b.ins.length)
/-- Whether these are variables that are all unlike. -/
def paramsB : List Int → List Int → Bool
  | _, [] => true
  | seen, v :: l => varB v && !(seen.contains v) && paramsB (v :: seen) l
def shapedB (f : Ff) : Bool := paramsB [] f.params && f.blocks.all isBlockB
def shapeN (f : Ff) : Int := if isLongB f then 3 else if shapedB f then 0 else 2

/-- A set of variables, as a number, with one more. -/
def addM (N : Nat) (v : Int) : Nat := if v = 0 then N else N ||| 2 ^ v.toNat
def withM (N : Nat) (l : List Int) : Nat := l.foldl addM N
def hasM (N : Nat) (l : List Int) : Bool := withM N l == N
/-- One word of it. -/
def wordM (N : Nat) (j : Nat) : Nat := N / 2 ^ (64 * j) % 2 ^ 64
theorem word_bit (N j i : Nat) : (wordM N j).testBit i = (decide (i < 64) && N.testBit (64 * j + i)) := by
  unfold wordM
  rw [Nat.testBit_mod_two_pow, Nat.testBit_div_two_pow, Nat.add_comm i]
theorem word_lt (N j : Nat) : wordM N j < 2 ^ 64 := Nat.mod_lt _ (by decide)
theorem word_or (N M j : Nat) : wordM (N ||| M) j = wordM N j ||| wordM M j := by
  apply Nat.eq_of_testBit_eq
  intro i
  rw [Nat.testBit_or, word_bit, word_bit, word_bit, Nat.testBit_or]
  cases decide (i < 64) <;> simp
theorem word_and (N M j : Nat) : wordM (N &&& M) j = wordM N j &&& wordM M j := by
  apply Nat.eq_of_testBit_eq
  intro i
  rw [Nat.testBit_and, word_bit, word_bit, word_bit, Nat.testBit_and]
  cases decide (i < 64) <;> simp
theorem word_pow_same (v : Nat) : wordM (2 ^ v) (v / 64) = 2 ^ (v % 64) := by
  apply Nat.eq_of_testBit_eq
  intro i
  rw [word_bit, Nat.testBit_two_pow, Nat.testBit_two_pow]
  have h := Nat.div_add_mod v 64
  have h2 := Nat.mod_lt v (show 0 < 64 by decide)
  by_cases hi : i < 64
  · have : (v = 64 * (v / 64) + i) ↔ (v % 64 = i) := by omega
    simp [hi, this]
  · have : ¬ (v % 64 = i) := by omega
    simp [hi, this]
theorem word_pow_other {v j : Nat} (h : j ≠ v / 64) : wordM (2 ^ v) j = 0 := by
  apply Nat.eq_of_testBit_eq
  intro i
  rw [word_bit, Nat.testBit_two_pow, Nat.zero_testBit]
  by_cases hi : i < 64
  · have : ¬ (v = 64 * j + i) := by omega
    simp [this]
  · simp [hi]
theorem word_add {N : Nat} {v : Int} (h : v ≠ 0) (j : Nat) : wordM (addM N v) j = if j = v.toNat / 64 then wordM N j ||| 2 ^ (v.toNat % 64) else wordM N j := by
  unfold addM
  rw [if_neg h, word_or]
  split
  · rename_i hj; subst hj; rw [word_pow_same]
  · rename_i hj; rw [word_pow_other hj, Nat.or_zero]
theorem words_same {N M : Nat} (hN : N < 2 ^ 256) (hM : M < 2 ^ 256) (h0 : wordM N 0 = wordM M 0) (h1 : wordM N 1 = wordM M 1) (h2 : wordM N 2 = wordM M 2) (h3 : wordM N 3 = wordM M 3) : N = M := by
  apply Nat.eq_of_testBit_eq
  intro i
  have hd := Nat.div_add_mod i 64
  have hm := Nat.mod_lt i (show 0 < 64 by decide)
  by_cases hi : i < 256
  · have key : ∀ j, wordM N j = wordM M j → i / 64 = j → N.testBit i = M.testBit i := by
      intro j hj e
      have h1 := word_bit N j (i % 64)
      have h2 := word_bit M j (i % 64)
      rw [hj, h2, ← e, hd] at h1
      simpa [hm] using h1.symm
    have : i / 64 = 0 ∨ i / 64 = 1 ∨ i / 64 = 2 ∨ i / 64 = 3 := by omega
    rcases this with e | e | e | e
    · exact key 0 h0 e
    · exact key 1 h1 e
    · exact key 2 h2 e
    · exact key 3 h3 e
  · rw [Nat.testBit_lt_two_pow (Nat.lt_of_lt_of_le hN (Nat.pow_le_pow_right (by decide) (by omega))), Nat.testBit_lt_two_pow (Nat.lt_of_lt_of_le hM (Nat.pow_le_pow_right (by decide) (by omega)))]
theorem add_lt {N : Nat} {v : Int} (hN : N < 2 ^ 256) (h : v ≤ 255) : addM N v < 2 ^ 256 := by
  unfold addM
  split
  · exact hN
  · exact Nat.or_lt_two_pow hN (Nat.pow_lt_pow_right (by decide) (by omega))
theorem with_lt {l : List Int} : ∀ {N : Nat}, N < 2 ^ 256 → (∀ v ∈ l, v ≤ 255) → withM N l < 2 ^ 256 := by
  induction l with
  | nil => intro N h _; exact h
  | cons v l ih => intro N h hv; exact ih (add_lt h (hv v (by simp))) (fun x hx => hv x (by simp [hx]))
theorem add_bit {N : Nat} {v : Int} (h : 0 ≤ v) (k : Nat) : (addM N v).testBit k = (N.testBit k || decide (k ≠ 0 ∧ (k : Int) = v)) := by
  unfold addM
  split
  · rename_i h0
    have : ¬ (k ≠ 0 ∧ (k : Int) = v) := by omega
    simp [this]
  · rename_i h0
    rw [Nat.testBit_or, Nat.testBit_two_pow]
    congr 1
    have : (v.toNat = k) ↔ (k ≠ 0 ∧ (k : Int) = v) := by omega
    simp only [this]
theorem with_bit {l : List Int} : ∀ {N : Nat}, (∀ v ∈ l, 0 ≤ v) → ∀ k : Nat, (withM N l).testBit k = (N.testBit k || decide (k ≠ 0 ∧ (k : Int) ∈ l)) := by
  induction l with
  | nil => intro N _ k; simp [withM]
  | cons v l ih =>
    intro N h k
    have : withM N (v :: l) = withM (addM N v) l := rfl
    rw [this, ih (fun x hx => h x (by simp [hx])) k, add_bit (h v (by simp)) k, Bool.or_assoc]
    congr 1
    rw [← Bool.decide_or]
    congr 1
    simp only [List.mem_cons, eq_iff_iff]
    constructor
    · rintro (⟨a, b⟩ | ⟨a, b⟩)
      · exact ⟨a, .inl b⟩
      · exact ⟨a, .inr b⟩
    · rintro ⟨a, b | b⟩
      · exact .inl ⟨a, b⟩
      · exact .inr ⟨a, b⟩
/-- A set has some variables, just if it has each. -/
theorem has_iff {N : Nat} {l : List Int} (h : ∀ v ∈ l, 0 ≤ v) : hasM N l = true ↔ ∀ v ∈ l, v ≠ 0 → N.testBit v.toNat = true := by
  unfold hasM
  rw [beq_iff_eq]
  constructor
  · intro e v hv h0
    have := with_bit (N := N) h v.toNat
    rw [e] at this
    have hv0 := h v hv
    have h1 : v.toNat ≠ 0 ∧ (v.toNat : Int) ∈ l := ⟨by omega, by rw [Int.toNat_of_nonneg hv0]; exact hv⟩
    rw [this, decide_eq_true h1, Bool.or_true]
  · intro hall
    apply Nat.eq_of_testBit_eq
    intro k
    rw [with_bit h k]
    by_cases hk : k ≠ 0 ∧ (k : Int) ∈ l
    · have := hall k hk.2 (by omega)
      simp at this
      simp [this]
    · simp [hk]
end Go.Proofs.YtgpbpbhidemciaaGreat
