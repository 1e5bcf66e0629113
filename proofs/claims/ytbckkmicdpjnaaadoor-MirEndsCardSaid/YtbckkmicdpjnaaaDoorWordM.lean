/-
  Plain functions that mirror the reader of words (package word), rune by rune. No condition beyond those that each theorem states.
-/
import GoSem.Core.Utf8
import Derived.Lib.DecodeN
namespace Go.Proofs.YtbckkmicdpjnaaaDoor
/-- A word as the program has it: kind, text, value, line, column. -/
structure Wd where
  k : Int
  t : ByteArray
  n : Int
  l : Int
  c : Int

/-- The reader's state, without the text. -/
structure Rd where
  line : Int
  col : Int
  w : Wd
  frm : Int
  many : Int
  below : Bool
  ws : List Wd
  remark : Bool
  bl : Int
  bc : Int
  f : Int

def noText : ByteArray := ⟨#[]⟩
def noWd : Wd := ⟨0, noText, 0, 0, 0⟩

def letterB (r : Int) : Bool := decide (97 ≤ r ∧ r ≤ 122 ∨ 945 ≤ r ∧ r ≤ 969 ∨ r = 95)
def digitB (r : Int) : Bool := decide (48 ≤ r ∧ r ≤ 57)
def signB (r : Int) : Bool := decide (r = 61 ∨ r = 44 ∨ r = 58 ∨ r = 40 ∨ r = 41 ∨ r = 91 ∨ r = 93 ∨ r = 43 ∨ r = 8594 ∨ r = 8592 ∨ r = 183)
def boundB (n : Int) : Bool := decide (-1099511627776 ≤ n ∧ n ≤ 1099511627776)

/-- Behind a rune. -/
def Rd.pass (σ : Rd) (r : Int) : Rd := if r = 10 then { σ with line := σ.line + 1, col := 1 } else { σ with col := σ.col + 1 }
def Rd.fail (σ : Rd) (l c e : Int) : Rd := { σ with bl := l, bc := c, f := e }
/-- What a part of the text is. -/
def cutText (s : ByteArray) (a b : Int) : ByteArray := s.extract a.toNat b.toNat
def Rd.shut (s : ByteArray) (σ : Rd) (i : Int) : Rd :=
  if σ.w.k = 0 then σ
  else { σ with w := noWd, frm := 0, many := 0, below := false, ws := σ.ws ++ [if σ.w.k = 4 then σ.w else { σ.w with t := cutText s σ.frm i }] }
def Rd.begin_ (s : ByteArray) (σ : Rd) (k i : Int) : Rd :=
  { σ.shut s i with w := ⟨k, noText, 0, σ.line, σ.col⟩, frm := i, many := 0, below := false }
/-- The draft with one rune more, and whether it can be. -/
def Rd.grown (σ : Rd) (r : Int) : Rd :=
  if σ.w.k = 1 then { σ with many := σ.many + 1 } else { σ with w := { σ.w with n := σ.w.n * 10 + (if σ.below then -(r - 48) else r - 48) } }
def Rd.fits (σ : Rd) (r : Int) : Bool := if σ.w.k = 1 then decide (σ.many + 1 ≤ 16) else boundB (σ.w.n * 10 + (if σ.below then -(r - 48) else r - 48))
def Rd.opened (s : ByteArray) (σ : Rd) (k i : Int) : Rd := if σ.w.k = 1 ∨ σ.w.k = 2 then σ else σ.begin_ s k i
def Rd.spell (s : ByteArray) (σ : Rd) (k i r : Int) : Rd :=
  let τ := σ.opened s k i
  if τ.fits r then τ.grown r else (τ.grown r).fail τ.w.l τ.w.c 3
def behindB (s : ByteArray) (i : Nat) : Bool := decide (i + 1 < s.size) && digitB (s.get! (i + 1)).toNat
/-- Bytes that are no rune. -/
def rawB (s : ByteArray) (i : Nat) (r : Int) : Bool := decide (r = 65533) && !(([239, 191, 189] : List UInt8).isPrefixOf (s.data.toList.drop i))
def useOf (s : ByteArray) (remark : Bool) (i : Nat) (r : Int) : Int :=
  if rawB s i r then 0
  else if r = 10 then 1
  else if remark ∨ r = 32 ∨ r = 9 then 3
  else if r = 59 then 2
  else if signB r then 4
  else if r = 45 ∧ behindB s i then 5
  else if letterB r then 6
  else if digitB r then 7
  else 0
def Rd.take (s : ByteArray) (σ : Rd) (i : Nat) (r : Int) : Rd :=
  let u := useOf s σ.remark i r
  if u = 1 then { σ.begin_ s 4 i with remark := false }
  else if u = 2 then ({ σ with remark := true } : Rd).shut s i
  else if u = 3 then σ.shut s i
  else if u = 4 then σ.begin_ s 3 i
  else if u = 5 then { σ.begin_ s 2 i with below := true }
  else if u = 7 then σ.spell s 2 i r
  else if u = 6 ∧ σ.w.k ≠ 2 then σ.spell s 1 i r
  else σ.fail σ.line σ.col 6
/-- What holds of the reader ahead of the rune at byte i. -/
structure Fine (σ : Rd) (i : Nat) : Prop where
  words : σ.ws.length ≤ i
  frm0 : 0 ≤ σ.frm
  frm1 : σ.frm ≤ i
  many0 : 0 ≤ σ.many
  many1 : σ.many ≤ i
  n0 : -1099511627776 ≤ σ.w.n
  n1 : σ.w.n ≤ 1099511627776
  line0 : 1 ≤ σ.line
  line1 : σ.line ≤ i + 1
  col0 : 1 ≤ σ.col
  col1 : σ.col ≤ i + 1

/-- The reader's rounds: from place i on, at most so many. -/
def Rd.run (s : ByteArray) : Nat → Nat → Rd → Rd
  | 0, _, σ => σ
  | n + 1, i, σ =>
    if i < s.size then
      (if (σ.take s i (Utf8.decode s i).1).f = 0 then Rd.run s n (i + (Utf8.decode s i).2) ((σ.take s i (Utf8.decode s i).1).pass (Utf8.decode s i).1) else σ.take s i (Utf8.decode s i).1)
    else σ
def startRd : Rd := ⟨1, 1, noWd, 0, 0, false, [], false, 0, 0, 0⟩
def lastRd (s : ByteArray) : Rd := Rd.run s s.size 0 startRd
def readWords (s : ByteArray) : List Wd := if (lastRd s).f = 0 then ((lastRd s).shut s s.size).ws else []
def readLine (s : ByteArray) : Int := if (lastRd s).f = 0 then 0 else (lastRd s).bl
def readCol (s : ByteArray) : Int := if (lastRd s).f = 0 then 0 else (lastRd s).bc
def readErr (s : ByteArray) : Int := (lastRd s).f
end Go.Proofs.YtbckkmicdpjnaaaDoor
