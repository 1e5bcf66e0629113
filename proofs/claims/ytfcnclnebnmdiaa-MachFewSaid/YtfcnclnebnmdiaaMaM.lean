/-
  Machines, as plain data: whether one is right, which registers a call loses, which are saved, what it keeps, whether there are enough of them. No condition beyond those that each theorem states.
-/
import Derived.WalkKit
namespace Go.Proofs.Ytfcnclnebnmdiaa

/-- A machine. -/
structure Mm where
  regs : Int
  args : List Int
  ret : Int
  saved : List Int

def Mm.regB (m : Mm) (r : Int) : Bool := decide (0 ≤ r) && decide (r < m.regs)
def riseB : List Int → Bool
  | [] => true
  | [_] => true
  | a :: b :: l => decide (a < b) && riseB (b :: l)
def unlikeB : List Int → List Int → Bool
  | _, [] => true
  | seen, r :: l => !(seen.contains r) && unlikeB (r :: seen) l
def Mm.smallB (m : Mm) : Bool := decide (1 ≤ m.regs) && decide (m.regs ≤ 64) && decide (m.args.length ≤ 8) && decide ((m.saved.length : Int) ≤ m.regs)
def Mm.rightB (m : Mm) : Bool := m.smallB && m.args.all m.regB && m.regB m.ret && m.saved.all m.regB && unlikeB [] m.args && riseB m.saved && !(m.saved.contains m.ret)
def Mm.lostL (m : Mm) : List Int := if m.rightB then ((List.range m.regs.toNat).map Int.ofNat).filter (fun r => !(m.saved.contains r)) else []
def Mm.keepsL (m : Mm) : List Int := if m.rightB then m.saved else []
def Mm.enoughB (m : Mm) (o a : Int) : Bool := m.rightB && decide (o < m.regs) && decide (a ≤ m.args.length)

/-- A set of registers, by its members, as cells. -/
def maC (S : List Int) : Array Value := Array.ofFn (n := 64) fun i => .bool (S.contains ((i.1 : Nat) : Int))
theorem maC_size (S : List Int) : (maC S).size = 64 := by simp [maC]
theorem maC_get (S : List Int) {k : Nat} (h : k < 64) : (maC S)[k]? = some (.bool (S.contains (k : Int))) := by
  unfold maC
  rw [Array.getElem?_ofFn, dif_pos h]
theorem maC_one (S : List Int) : (maC S).all (·.oneCell') = true := by
  rw [Array.all_eq_true_iff_forall_mem]
  intro v hv
  obtain ⟨i, hi, rfl⟩ := Array.mem_iff_getElem.1 hv
  have h64 : i < 64 := by rw [maC_size] at hi; exact hi
  have := maC_get S h64
  rw [Array.getElem?_eq_getElem hi] at this
  rw [Option.some.inj this]
  rfl
theorem maC_put (S : List Int) {k : Nat} (h : k < 64) : (maC S).setIfInBounds k (.bool true) = maC ((k : Int) :: S) := by
  apply Array.ext_getElem?
  intro i
  rw [Array.getElem?_setIfInBounds, maC_size]
  by_cases hi : i < 64
  · rw [maC_get _ hi]
    by_cases hk : k = i
    · subst hk
      rw [if_pos rfl, if_pos h, maC_get _ h]
      simp
    · rw [if_neg hk, maC_get _ hi]
      have : ¬ ((i : Int) = (k : Int)) := by omega
      simp [this]
  · have e1 : (maC S)[i]? = none := by rw [Array.getElem?_eq_none]; rw [maC_size]; omega
    have e2 : (maC ((k : Int) :: S))[i]? = none := by rw [Array.getElem?_eq_none]; rw [maC_size]; omega
    rw [e1, e2]
    have : ¬ k = i := by omega
    rw [if_neg this]
/-- A set with these more, the last one first. -/
theorem maC_fold (S l : List Int) : maC (l.reverse ++ S) = maC (l ++ S) := by
  unfold maC
  congr 1
  funext i
  simp only [List.contains_eq_mem, List.mem_append, List.mem_reverse]
theorem maC_nil : maC [] = Array.replicate 64 (.bool false) := by
  apply Array.ext_getElem?
  intro i
  by_cases hi : i < 64
  · rw [maC_get _ hi, Array.getElem?_replicate, if_pos hi]; rfl
  · rw [Array.getElem?_eq_none (by rw [maC_size]; omega), Array.getElem?_replicate, if_neg hi]
/-- Whether all of these are in it. -/
def inB (S l : List Int) : Bool := l.all (fun r => S.contains r)
theorem in_cells {S l : List Int} (hl : ∀ r ∈ l, 0 ≤ r ∧ r < 64) : (∀ k : Nat, k < 64 → (l ++ S).contains (k : Int) = S.contains (k : Int)) ↔ inB S l = true := by
  unfold inB
  rw [List.all_eq_true]
  constructor
  · intro h r hr
    obtain ⟨h0, h1⟩ := hl r hr
    have := h r.toNat (by omega)
    rw [Int.toNat_of_nonneg h0] at this
    rw [← this]
    simp [hr]
  · intro h k hk
    rw [Bool.eq_iff_iff]
    simp only [List.contains_eq_mem, decide_eq_true_eq, List.mem_append]
    constructor
    · rintro (h1 | h1)
      · have := h _ h1
        simpa using this
      · exact h1
    · exact .inr
theorem reg_small {m : Mm} (h : m.smallB = true) {r : Int} (hr : m.regB r = true) : 0 ≤ r ∧ r < 64 := by
  simp only [Mm.smallB, Mm.regB, Bool.and_eq_true, decide_eq_true_eq] at h hr
  omega
theorem regs_small {m : Mm} (h : m.smallB = true) {l : List Int} (hl : l.all m.regB = true) : ∀ r ∈ l, 0 ≤ r ∧ r < 64 := fun r hr => reg_small h (List.all_eq_true.1 hl r hr)
/-- What is right, part by part. -/
structure Mm.Is (m : Mm) : Prop where
  small : m.smallB = true
  args : m.args.all m.regB = true
  ret : m.regB m.ret = true
  saved : m.saved.all m.regB = true
  unlike : unlikeB [] m.args = true
  rise : riseB m.saved = true
  apart : m.saved.contains m.ret = false
theorem right_iff (m : Mm) : m.rightB = true ↔ m.Is := by
  unfold Mm.rightB
  simp only [Bool.and_eq_true, Bool.not_eq_true']
  exact ⟨fun ⟨⟨⟨⟨⟨⟨a, b⟩, c⟩, d⟩, e⟩, f⟩, g⟩ => ⟨a, b, c, d, e, f, g⟩, fun h => ⟨⟨⟨⟨⟨⟨h.small, h.args⟩, h.ret⟩, h.saved⟩, h.unlike⟩, h.rise⟩, h.apart⟩⟩
end Go.Proofs.Ytfcnclnebnmdiaa
