/-
  Targets of registers, plainly: what an instruction and an end have, read, write, need; which error a target has. No condition beyond those that each theorem states.
-/
import Derived.Test.YtbckkmicdpjnaaaDoorKRec
import Derived.Test.YtbckkmicdpjnaaaDoorMaP
namespace Go.Proofs.YtbckkmicdpjnaaaDoor

/-- A target. -/
structure Gg where
  frame : Int
  blocks : List Bb

/-- Which parts an Op has, as the code has them: of each a bit. -/
def opHasL : List Int := [0, 9, 7, 7, 7, 7, 7, 7, 7, 7, 7, 11, 14, 64, 0, 3, 34, 17]
def belowB (n : Int) (l : List Int) : Bool := l.all fun x => decide (0 ≤ x) && decide (x < n)
def partsN (o : Int) : Int := if 0 ≤ o ∧ o < 18 then opHasL.getD o.toNat 0 else 0
def haveB (p k : Int) : Bool := decide ((p.toNat &&& k.toNat) ≠ 0)
def hasB (o k : Int) : Bool := haveB (partsN o) k
def immT (n : Int) : Bool := decide (-1099511627776 ≤ n) && decide (n ≤ 1099511627776)
def isCallT (m : Mm) (x : Ii) : Bool := belowB 100 [x.callee] && belowB ((m.args.length : Int) + 1) [x.many]
def isInsT (m : Mm) (x : Ii) : Bool :=
  (partsN x.op != 0) && (hasB x.op 1 || x.dst == 0) && (hasB x.op 2 || x.a == 0) && (hasB x.op 4 || x.b == 0) && (hasB x.op 48 || hasB x.op 8 && immT x.imm || x.imm == 0) &&
    (hasB x.op 64 && isCallT m x || x.callee == 0 && x.many == 0) && x.args.isEmpty
def ofInsN (m : Mm) (frame : Int) (x : Ii) : Int :=
  if isInsT m x then (if belowB m.regs [x.dst, x.a, x.b] then (if hasB x.op 48 && !belowB frame [x.imm] then 11 else 0) else 10) else 2
def isEndT (t : Tt) : Bool :=
  if t.kind = 1 then t.a == 0 && t.t1 == 0
  else if t.kind = 2 then true
  else if t.kind = 3 then t.t0 == 0 && t.t1 == 0
  else if t.kind = 4 then t.a == 0 && (t.t0 == 0 && t.t1 == 0)
  else false
def readsWellT (m : Mm) (t : Tt) : Bool := if t.kind = 3 then t.a == m.ret || t.a == -1 else belowB m.regs [t.a]
def ofEndN (m : Mm) (nb : Int) (t : Tt) : Int :=
  if isEndT t then (if readsWellT m t then (if belowB nb [t.t0, t.t1] then 0 else 9) else 10) else 2
def smallT (t : Gg) : Bool := !(t.blocks.length == 0) && !(decide (200 < t.blocks.length)) && !(decide (t.frame < 0)) && !(decide (400 < t.frame)) && t.blocks.all fun b => !(decide (4000 < b.ins.length))
def insErr (m : Mm) (frame : Int) : List Ii → Int
  | [] => 0
  | x :: l => if ofInsN m frame x = 0 then insErr m frame l else ofInsN m frame x
def blErr (m : Mm) (frame nb : Int) : List Bb → Int
  | [] => 0
  | b :: l => if insErr m frame b.ins = 0 then (if ofEndN m nb b.tm = 0 then blErr m frame nb l else ofEndN m nb b.tm) else insErr m frame b.ins
/-- Which error a target has, for a machine. -/
def rightT (m : Mm) (t : Gg) : Int := if m.rightB then (if smallT t then blErr m t.frame t.blocks.length t.blocks else 3) else 2

/-- A place: whether it is a slot, its number. -/
abbrev Ll := Bool × Int
def regL (n : Int) : Ll := (false, n)
def manyT (m : Mm) (x : Ii) : Int := min (max x.many 0) m.args.length
def readsT (m : Mm) (x : Ii) : List Ll :=
  if hasB x.op 64 then (m.args.take (manyT m x).toNat).map regL
  else if hasB x.op 16 then [(true, x.imm)]
  else if hasB x.op 4 then [regL x.a, regL x.b]
  else if hasB x.op 2 then [regL x.a]
  else []
def writesT (m : Mm) (x : Ii) : List Ll :=
  if hasB x.op 64 then [regL m.ret]
  else if hasB x.op 32 then [(true, x.imm)]
  else if hasB x.op 1 then [regL x.dst]
  else []
def needsT (t : Tt) : List Ll := if t.kind = 2 ∨ t.kind = 3 ∧ t.a ≠ -1 then [regL t.a] else []
def insertedT (o : Int) : Bool := o == 15 || o == 16 || o == 17
def sizeT (t : Gg) : Int := (t.blocks.length : Int) + ((t.blocks.map fun b => (b.ins.length : Int)).sum)

theorem below_iff {n : Int} {l : List Int} : belowB n l = true ↔ ∀ x ∈ l, 0 ≤ x ∧ x < n := by
  simp [belowB]
/-- An Op is one of eighteen, or has nothing. -/
theorem op_cases (o : Int) : partsN o = 0 ∧ (∀ k, hasB o k = false) ∨ o = 1 ∨ o = 2 ∨ o = 3 ∨ o = 4 ∨ o = 5 ∨ o = 6 ∨ o = 7 ∨ o = 8 ∨ o = 9 ∨ o = 10 ∨ o = 11 ∨ o = 12 ∨ o = 13 ∨ o = 15 ∨ o = 16 ∨ o = 17 := by
  by_cases h : o = 1 ∨ o = 2 ∨ o = 3 ∨ o = 4 ∨ o = 5 ∨ o = 6 ∨ o = 7 ∨ o = 8 ∨ o = 9 ∨ o = 10 ∨ o = 11 ∨ o = 12 ∨ o = 13 ∨ o = 15 ∨ o = 16 ∨ o = 17
  · exact .inr h
  · left
    have h0 : partsN o = 0 := by
      by_cases h2 : 0 ≤ o ∧ o < 18
      · have : o = 0 ∨ o = 14 := by omega
        rcases this with rfl | rfl <;> rfl
      · unfold partsN
        rw [if_neg h2]
    refine ⟨h0, fun k => ?_⟩
    unfold hasB
    rw [h0]
    simp [haveB]
end Go.Proofs.YtbckkmicdpjnaaaDoor
