/-
  Instructions, ends, blocks that come in as arguments: their cells, and that nothing in them is beyond the reach. No condition beyond those that each theorem states.
  Plain functions that mirror the reader of words (package word), rune by rune. No condition beyond those that each theorem states.
  A cursor over words, as a plain state: the words that are left, where it broke, and by what; what each call tells, and what it leaves. No condition beyond those that each theorem states.
-/
import Derived.Test.YtbjmbahpcoanoaaGreatDoorPk1
import Derived.Deep.Fields
import Derived.ChangeSame
import Derived.OpenShut
import Derived.SizedLaws
import GoSem.Core.Utf8
import Derived.Lib.DecodeN
namespace Go.Proofs.YtbjmbahpcoanoaaGreatDoor
open Go.ChangeShapes Go.WideShapes Go.Deep Go.RowKit

section
variable {H : Type} {enc : TypeId × Value → H} {w : World} {base : Nat} {spare : Nat → Bool} {held : Bool} {fuel : Nat} {cs : List Value} {x : DataW H × List MemPlace}
/-- One instruction. -/
structure InC (w : World) (y : Ii) (cs : List Value) (ia : Option Addr) (ic : Nat) : Prop where
 cells : cs = [.int .i64 y.op, .int .i64 y.dst, .int .i64 y.a, .int .i64 y.b, .int .i64 y.imm, .int .i64 y.callee, .slice ia y.args.length ic, .int .i64 y.many]
 nil : ia = none → ic = 0
 args : IntsW w ia y.args
theorem ins_cells : Tryz.prog.cellsOf 46 = 8 := by kernel_rfl
set_option maxRecDepth 100000 in
theorem open_one_ins (h : DataW.trod enc Tryz.prog w base spare held fuel 46 cs = some x) (hw : LightW 46 x.1) : ∃ y : Ii, (∃ ia ic, InC w y cs ia ic) ∧ y.args.length ≤ 140737488355328 := by
 obtain ⟨xs, n, _, hx, hcl, hlen, hf⟩ := DataW.trod_struct Tryz.underlying46 h
 rw [ins_cells] at hcl
 match cs, hcl with
 | [c0, c1, c2, c3, c4, c5, c6, c7], _ =>
  match xs, hlen with
  | [y0, y1, y2, y3, y4, y5, y6, y7], _ =>
   have g0 : DataW.trod enc Tryz.prog w base spare held n 44 (([c0, c1, c2, c3, c4, c5, c6, c7].drop 0).take (Tryz.prog.cellsOf 44)) = some y0 := hf 0 _ rfl
   rw [show Tryz.prog.cellsOf 44 = 1 by kernel_rfl] at g0
   have g1 : DataW.trod enc Tryz.prog w base spare held n 3 (([c0, c1, c2, c3, c4, c5, c6, c7].drop 1).take (Tryz.prog.cellsOf 3)) = some y1 := hf 1 _ rfl
   rw [show Tryz.prog.cellsOf 3 = 1 by kernel_rfl] at g1
   have g2 : DataW.trod enc Tryz.prog w base spare held n 3 (([c0, c1, c2, c3, c4, c5, c6, c7].drop 2).take (Tryz.prog.cellsOf 3)) = some y2 := hf 2 _ rfl
   rw [show Tryz.prog.cellsOf 3 = 1 by kernel_rfl] at g2
   have g3 : DataW.trod enc Tryz.prog w base spare held n 3 (([c0, c1, c2, c3, c4, c5, c6, c7].drop 3).take (Tryz.prog.cellsOf 3)) = some y3 := hf 3 _ rfl
   rw [show Tryz.prog.cellsOf 3 = 1 by kernel_rfl] at g3
   have g4 : DataW.trod enc Tryz.prog w base spare held n 3 (([c0, c1, c2, c3, c4, c5, c6, c7].drop 4).take (Tryz.prog.cellsOf 3)) = some y4 := hf 4 _ rfl
   rw [show Tryz.prog.cellsOf 3 = 1 by kernel_rfl] at g4
   have g5 : DataW.trod enc Tryz.prog w base spare held n 3 (([c0, c1, c2, c3, c4, c5, c6, c7].drop 5).take (Tryz.prog.cellsOf 3)) = some y5 := hf 5 _ rfl
   rw [show Tryz.prog.cellsOf 3 = 1 by kernel_rfl] at g5
   have g6 : DataW.trod enc Tryz.prog w base spare held n 37 (([c0, c1, c2, c3, c4, c5, c6, c7].drop 6).take (Tryz.prog.cellsOf 37)) = some y6 := hf 6 _ rfl
   rw [show Tryz.prog.cellsOf 37 = 1 by kernel_rfl] at g6
   have g7 : DataW.trod enc Tryz.prog w base spare held n 3 (([c0, c1, c2, c3, c4, c5, c6, c7].drop 7).take (Tryz.prog.cellsOf 3)) = some y7 := hf 7 _ rfl
   rw [show Tryz.prog.cellsOf 3 = 1 by kernel_rfl] at g7
   obtain ⟨m0, rfl⟩ := open_int1 Tryz.underlying44 g0
   obtain ⟨m1, rfl⟩ := open_int1 Tryz.underlying3 g1
   obtain ⟨m2, rfl⟩ := open_int1 Tryz.underlying3 g2
   obtain ⟨m3, rfl⟩ := open_int1 Tryz.underlying3 g3
   obtain ⟨m4, rfl⟩ := open_int1 Tryz.underlying3 g4
   obtain ⟨m5, rfl⟩ := open_int1 Tryz.underlying3 g5
   obtain ⟨m7, rfl⟩ := open_int1 Tryz.underlying3 g7
   have hw6 : LightW 37 y6.1 := fun k hk => hw k (by
    rw [hx]
    simp only [DataW.weights, Tryz.underlying46, List.map_cons, List.map_nil, DataW.weightsEach, List.mem_append]
    simp [hk])
   obtain ⟨ia, ic, l, e1, e2, e3, e4⟩ := open_intsW g6 hw6
   have e1 : [c6] = _ := e1
   simp only [List.cons.injEq, and_true] at e1
   exact ⟨⟨m0, m1, m2, m3, m4, m5, l, m7⟩, ⟨ia, ic, by rw [e1], e2, e4⟩, e3⟩
def noI : Ii := ⟨0, 0, 0, 0, 0, 0, [], 0⟩
theorem open_insW (h : DataW.trod enc Tryz.prog w base spare held fuel 47 cs = some x) (hw : LightW 47 x.1) :
    ∃ (a : Option Addr) (c : Nat) (l : List Ii), cs = [.slice a l.length c] ∧ (a = none → c = 0) ∧ l.length ≤ 140737488355328 ∧ (∀ i ∈ l, i.args.length ≤ 140737488355328) ∧ InsW w a l := by
 obtain ⟨a, c, l, h1, h2, h3, h4, h5⟩ := open_rowG (R := fun (z : Ii) cs => ∃ ia ic, InC w z cs ia ic) (C := fun z => z.args.length ≤ 140737488355328) noI (sz := 8) Tryz.underlying47 ins_cells (by omega) (by decide +kernel) (fun fuel cs y hy hl => open_one_ins hy hl) h hw
 refine ⟨a, c, l, h1, h2, h3, h4, fun k z hz => ?_⟩
 obtain ⟨g, o, cs', e1, e2, ⟨ia, ic, e3⟩, e4⟩ := h5 k z hz
 have hc := e3.cells
 subst hc
 have q0 := e4 0 _ (by omega) rfl
 have q1 := e4 1 _ (by omega) rfl
 have q2 := e4 2 _ (by omega) rfl
 have q3 := e4 3 _ (by omega) rfl
 have q4 := e4 4 _ (by omega) rfl
 have q5 := e4 5 _ (by omega) rfl
 have q6 := e4 6 _ (by omega) rfl
 have q7 := e4 7 _ (by omega) rfl
 simp only [← Nat.add_assoc] at q0 q1 q2 q3 q4 q5 q6 q7
 exact ⟨g, o, ia, ic, e1, e2, ⟨q0, q1, q2, q3, q4, q5, q6, q7, e3.nil, e3.args⟩⟩
/-- One block. -/
structure BlC (w : World) (y : Bb) (cs : List Value) (ia : Option Addr) (ic : Nat) : Prop where
 cells : cs = [.slice ia y.ins.length ic, .int .i64 y.tm.kind, .int .i64 y.tm.a, .int .i64 y.tm.t0, .int .i64 y.tm.t1]
 nil : ia = none → ic = 0
 ins : InsW w ia y.ins
theorem block_cells : Tryz.prog.cellsOf 53 = 5 := by kernel_rfl
theorem term_cells : Tryz.prog.cellsOf 51 = 4 := by kernel_rfl
theorem arr_cells : Tryz.prog.cellsOf 49 = 2 := by kernel_rfl
theorem row_cells : Tryz.prog.cellsOf 47 = 1 := by kernel_rfl
theorem rowI_cells : Tryz.prog.cellsOf 37 = 1 := by kernel_rfl
theorem rowB_cells : Tryz.prog.cellsOf 22 = 1 := by kernel_rfl
theorem int_cells : Tryz.prog.cellsOf 3 = 1 := by kernel_rfl
theorem kind_cells : Tryz.prog.cellsOf 48 = 1 := by kernel_rfl
set_option maxRecDepth 100000 in
theorem open_term (h : DataW.trod enc Tryz.prog w base spare held fuel 51 cs = some x) : ∃ t : Tt, cs = [.int .i64 t.kind, .int .i64 t.a, .int .i64 t.t0, .int .i64 t.t1] := by
 obtain ⟨xs, n, _, hx, hcl, hlen, hf⟩ := DataW.trod_struct Tryz.underlying51 h
 rw [term_cells] at hcl
 match cs, hcl with
 | [c0, c1, c2, c3], _ =>
  match xs, hlen with
  | [y0, y1, y2], _ =>
   have g0 : DataW.trod enc Tryz.prog w base spare held n 48 (([c0, c1, c2, c3].drop 0).take (Tryz.prog.cellsOf 48)) = some y0 := hf 0 _ rfl
   rw [kind_cells] at g0
   have g1 : DataW.trod enc Tryz.prog w base spare held n 3 (([c0, c1, c2, c3].drop 1).take (Tryz.prog.cellsOf 3)) = some y1 := hf 1 _ rfl
   rw [int_cells] at g1
   have g2 : DataW.trod enc Tryz.prog w base spare held n 49 (([c0, c1, c2, c3].drop 2).take (Tryz.prog.cellsOf 49)) = some y2 := hf 2 _ rfl
   rw [arr_cells] at g2
   obtain ⟨m0, rfl⟩ := open_int1 Tryz.underlying48 g0
   obtain ⟨m1, rfl⟩ := open_int1 Tryz.underlying3 g1
   obtain ⟨zs, k, _, _, _, hzl, hz⟩ := DataW.trod_array Tryz.underlying49 g2
   match zs, hzl with
   | [z0, z1], _ =>
    have k0 := hz 0 (by omega)
    have k1 := hz 1 (by omega)
    rw [int_cells] at k0 k1
    obtain ⟨m2, rfl⟩ := open_int1 Tryz.underlying3 (c := c2) k0
    obtain ⟨m3, rfl⟩ := open_int1 Tryz.underlying3 (c := c3) k1
    exact ⟨⟨m0, m1, m2, m3⟩, rfl⟩
def BigB (y : Bb) : Prop := y.ins.length ≤ 140737488355328 ∧ ∀ i ∈ y.ins, i.args.length ≤ 140737488355328
set_option maxRecDepth 100000 in
theorem open_one_block (h : DataW.trod enc Tryz.prog w base spare held fuel 53 cs = some x) (hw : LightW 53 x.1) : ∃ y : Bb, (∃ ia ic, BlC w y cs ia ic) ∧ BigB y := by
 obtain ⟨xs, n, _, hx, hcl, hlen, hf⟩ := DataW.trod_struct Tryz.underlying53 h
 rw [block_cells] at hcl
 match cs, hcl with
 | [c0, c1, c2, c3, c4], _ =>
  match xs, hlen with
  | [y0, y1], _ =>
   have g0 : DataW.trod enc Tryz.prog w base spare held n 47 (([c0, c1, c2, c3, c4].drop 0).take (Tryz.prog.cellsOf 47)) = some y0 := hf 0 _ rfl
   rw [row_cells] at g0
   have g1 : DataW.trod enc Tryz.prog w base spare held n 51 (([c0, c1, c2, c3, c4].drop 1).take (Tryz.prog.cellsOf 51)) = some y1 := hf 1 _ rfl
   rw [term_cells] at g1
   have hw0 : LightW 47 y0.1 := fun k hk => hw k (by
    rw [hx]
    simp only [DataW.weights, Tryz.underlying53, List.map_cons, List.map_nil]
    simp [DataW.weightsEach, hk])
   obtain ⟨ia, ic, l, e1, e2, e3, e4, e5⟩ := open_insW g0 hw0
   obtain ⟨t, ht⟩ := open_term g1
   have e1 : [c0] = _ := e1
   have ht : [c1, c2, c3, c4] = _ := ht
   simp only [List.cons.injEq, and_true] at e1 ht
   obtain ⟨t0, t1, t2, t3⟩ := ht
   exact ⟨⟨l, t⟩, ⟨ia, ic, by rw [e1, t0, t1, t2, t3], e2, e5⟩, e3, e4⟩
def noB : Bb := ⟨[], ⟨0, 0, 0, 0⟩⟩
theorem open_blocksW (h : DataW.trod enc Tryz.prog w base spare held fuel 22 cs = some x) (hw : LightW 22 x.1) :
    ∃ (a : Option Addr) (c : Nat) (l : List Bb), cs = [.slice a l.length c] ∧ (a = none → c = 0) ∧ l.length ≤ 140737488355328 ∧ (∀ i ∈ l, BigB i) ∧ BlsW w a l := by
 obtain ⟨a, c, l, h1, h2, h3, h4, h5⟩ := open_rowG (R := fun (z : Bb) cs => ∃ ia ic, BlC w z cs ia ic) (C := BigB) noB (sz := 5) Tryz.underlying22 block_cells (by omega) (by decide +kernel) (fun fuel cs y hy hl => open_one_block hy hl) h hw
 refine ⟨a, c, l, h1, h2, h3, h4, fun k z hz => ?_⟩
 obtain ⟨g, o, cs', e1, e2, ⟨ia, ic, e3⟩, e4⟩ := h5 k z hz
 have hc := e3.cells
 subst hc
 have q0 := e4 0 _ (by omega) rfl
 have q1 := e4 1 _ (by omega) rfl
 have q2 := e4 2 _ (by omega) rfl
 have q3 := e4 3 _ (by omega) rfl
 have q4 := e4 4 _ (by omega) rfl
 simp only [← Nat.add_assoc] at q0 q1 q2 q3 q4
 exact ⟨g, o, ia, ic, e1, e2, ⟨q0, q1, q2, q3, q4, e3.nil, e3.ins⟩⟩
end
end Go.Proofs.YtbjmbahpcoanoaaGreatDoor
namespace Go.Proofs.YtbjmbahpcoanoaaGreatDoor
/-- A word as the program has it: kind, text, value, line, column. -/
structure Wd where
 k : Int
 t : ByteArray
 n : Int
 l : Int
 c : Int

/-- The reader's state, without the text. -/
structure Rd where
 line : Int
 col : Int
 w : Wd
 frm : Int
 many : Int
 below : Bool
 ws : List Wd
 remark : Bool
 bl : Int
 bc : Int
 f : Int

def noText : ByteArray := ⟨#[]⟩
def noWd : Wd := ⟨0, noText, 0, 0, 0⟩

def letterB (r : Int) : Bool := decide (97 ≤ r ∧ r ≤ 122 ∨ 945 ≤ r ∧ r ≤ 969 ∨ r = 95)
def digitB (r : Int) : Bool := decide (48 ≤ r ∧ r ≤ 57)
def signB (r : Int) : Bool := decide (r = 61 ∨ r = 44 ∨ r = 58 ∨ r = 40 ∨ r = 41 ∨ r = 91 ∨ r = 93 ∨ r = 43 ∨ r = 8594 ∨ r = 8592 ∨ r = 183)
def boundB (n : Int) : Bool := decide (-1099511627776 ≤ n ∧ n ≤ 1099511627776)

/-- Behind a rune. -/
def Rd.pass (σ : Rd) (r : Int) : Rd := if r = 10 then { σ with line := σ.line + 1, col := 1 } else { σ with col := σ.col + 1 }
def Rd.fail (σ : Rd) (l c e : Int) : Rd := { σ with bl := l, bc := c, f := e }
/-- What a part of the text is. -/
def cutText (s : ByteArray) (a b : Int) : ByteArray := s.extract a.toNat b.toNat
def Rd.shut (s : ByteArray) (σ : Rd) (i : Int) : Rd :=
 if σ.w.k = 0 then σ
 else { σ with w := noWd, frm := 0, many := 0, below := false, ws := σ.ws ++ [if σ.w.k = 4 then σ.w else { σ.w with t := cutText s σ.frm i }] }
def Rd.begin_ (s : ByteArray) (σ : Rd) (k i : Int) : Rd :=
 { σ.shut s i with w := ⟨k, noText, 0, σ.line, σ.col⟩, frm := i, many := 0, below := false }
/-- The draft with one rune more, and whether it can be. -/
def Rd.grown (σ : Rd) (r : Int) : Rd :=
 if σ.w.k = 1 then { σ with many := σ.many + 1 } else { σ with w := { σ.w with n := σ.w.n * 10 + (if σ.below then -(r - 48) else r - 48) } }
def Rd.fits (σ : Rd) (r : Int) : Bool := if σ.w.k = 1 then decide (σ.many + 1 ≤ 16) else boundB (σ.w.n * 10 + (if σ.below then -(r - 48) else r - 48))
def Rd.opened (s : ByteArray) (σ : Rd) (k i : Int) : Rd := if σ.w.k = 1 ∨ σ.w.k = 2 then σ else σ.begin_ s k i
def Rd.spell (s : ByteArray) (σ : Rd) (k i r : Int) : Rd :=
 let τ := σ.opened s k i
 if τ.fits r then τ.grown r else (τ.grown r).fail τ.w.l τ.w.c 3
def behindB (s : ByteArray) (i : Nat) : Bool := decide (i + 1 < s.size) && digitB (s.get! (i + 1)).toNat
/-- Bytes that are no rune. -/
def rawB (s : ByteArray) (i : Nat) (r : Int) : Bool := decide (r = 65533) && !(([239, 191, 189] : List UInt8).isPrefixOf (s.data.toList.drop i))
def useOf (s : ByteArray) (remark : Bool) (i : Nat) (r : Int) : Int :=
 if rawB s i r then 0
 else if r = 10 then 1
 else if remark ∨ r = 32 ∨ r = 9 then 3
 else if r = 59 then 2
 else if signB r then 4
 else if r = 45 ∧ behindB s i then 5
 else if letterB r then 6
 else if digitB r then 7
 else 0
def Rd.take (s : ByteArray) (σ : Rd) (i : Nat) (r : Int) : Rd :=
 let u := useOf s σ.remark i r
 if u = 1 then { σ.begin_ s 4 i with remark := false }
 else if u = 2 then ({ σ with remark := true } : Rd).shut s i
 else if u = 3 then σ.shut s i
 else if u = 4 then σ.begin_ s 3 i
 else if u = 5 then { σ.begin_ s 2 i with below := true }
 else if u = 7 then σ.spell s 2 i r
 else if u = 6 ∧ σ.w.k ≠ 2 then σ.spell s 1 i r
 else σ.fail σ.line σ.col 6
/-- What holds of the reader ahead of the rune at byte i. -/
structure Fine (σ : Rd) (i : Nat) : Prop where
 words : σ.ws.length ≤ i
 frm0 : 0 ≤ σ.frm
 frm1 : σ.frm ≤ i
 many0 : 0 ≤ σ.many
 many1 : σ.many ≤ i
 n0 : -1099511627776 ≤ σ.w.n
 n1 : σ.w.n ≤ 1099511627776
 line0 : 1 ≤ σ.line
 line1 : σ.line ≤ i + 1
 col0 : 1 ≤ σ.col
 col1 : σ.col ≤ i + 1

/-- The reader's rounds: from place i on, at most so many. -/
def Rd.run (s : ByteArray) : Nat → Nat → Rd → Rd
 | 0, _, σ => σ
 | n + 1, i, σ =>
  if i < s.size then
   (if (σ.take s i (Utf8.decode s i).1).f = 0 then Rd.run s n (i + (Utf8.decode s i).2) ((σ.take s i (Utf8.decode s i).1).pass (Utf8.decode s i).1) else σ.take s i (Utf8.decode s i).1)
  else σ
def startRd : Rd := ⟨1, 1, noWd, 0, 0, false, [], false, 0, 0, 0⟩
def lastRd (s : ByteArray) : Rd := Rd.run s s.size 0 startRd
def readWords (s : ByteArray) : List Wd := if (lastRd s).f = 0 then ((lastRd s).shut s s.size).ws else []
def readLine (s : ByteArray) : Int := if (lastRd s).f = 0 then 0 else (lastRd s).bl
def readCol (s : ByteArray) : Int := if (lastRd s).f = 0 then 0 else (lastRd s).bc
def readErr (s : ByteArray) : Int := (lastRd s).f
end Go.Proofs.YtbjmbahpcoanoaaGreatDoor
namespace Go.Proofs.YtbjmbahpcoanoaaGreatDoor
/-- Words that are left, the place of the fault, the fault. -/
structure Cu where
 left : List Wd
 line : Int
 col : Int
 fault : Int

def endK (x : Wd) : Bool := !(decide (x.k = 1) || decide (x.k = 2) || decide (x.k = 3))
def Cu.pass (c : Cu) : Cu := { c with left := c.left.tail }
def Cu.fail (c : Cu) (e : Int) : Cu := if e = 0 ∨ c.fault ≠ 0 then c else ⟨[], (match c.left with | x :: _ => x.l | [] => 0), (match c.left with | x :: _ => x.c | [] => 0), e⟩
def Cu.over (c : Cu) (b : Bool) : Cu := if b then c.pass else c
def nameP : Option Wd → ByteArray × Bool
 | some x => if x.k = 1 then (x.t, true) else (⟨#[]⟩, false)
 | none => (⟨#[]⟩, false)
def numP : Option Wd → Int × Bool
 | some x => if x.k = 2 then (x.n, true) else (0, false)
 | none => (0, false)
def signP (o : Option Wd) (s : ByteArray) : Bool := match o with | some x => decide (x.k = 3) && decide (x.t = s) | none => false
def endP : Option Wd → Bool
 | some x => endK x
 | none => false
def Cu.keyB (c : Cu) (s : ByteArray) : Bool := (nameP c.left.head?).2 && decide ((nameP c.left.head?).1 = s)
def Cu.key (c : Cu) (s : ByteArray) : Cu := c.over (c.keyB s)
def Cu.isB (c : Cu) (s : ByteArray) : Bool := signP c.left.head? s
def Cu.is (c : Cu) (s : ByteArray) : Cu := c.over (c.isB s)
def Cu.nameT (c : Cu) : ByteArray := (nameP c.left.head?).1
def Cu.name (c : Cu) : Cu := if (nameP c.left.head?).2 then c.pass else c.fail 7
def Cu.numFits (c : Cu) (a b : Int) : Bool := decide (a ≤ (numP c.left.head?).1 ∧ (numP c.left.head?).1 ≤ b)
def Cu.numN (c : Cu) (a b : Int) : Int := if (numP c.left.head?).2 && c.numFits a b then (numP c.left.head?).1 else 0
def Cu.num (c : Cu) (a b : Int) : Cu := if (numP c.left.head?).2 then (if c.numFits a b then c.pass else c.fail 3) else c.fail 7
def Cu.mark (c : Cu) : List ByteArray → Cu
 | [] => c
 | s :: r => if c.isB s then (c.is s).mark r else c.fail 7
def Cu.more (c : Cu) : Bool := !c.left.isEmpty
def Cu.end_ (c : Cu) : Cu := if endP c.left.head? then c.pass else if c.more then c.fail 7 else c
def Cu.ends (c : Cu) : Bool := !c.more || endP c.left.head?
def Cu.eLine (c : Cu) : Int := if c.fault ≠ 0 then c.line else match c.left with | x :: _ => x.l | [] => 0
def Cu.eCol (c : Cu) : Int := if c.fault ≠ 0 then c.col else match c.left with | x :: _ => x.c | [] => 0
def Cu.eErr (c : Cu) : Int := if c.fault ≠ 0 then c.fault else match c.left with | _ :: _ => 7 | [] => 0

/-- A broken one has no words left; one that is not has no place. -/
structure Cu.Ok (c : Cu) : Prop where
 gone : c.fault ≠ 0 → c.left = []
 zero : c.fault = 0 → c.line = 0 ∧ c.col = 0
 kinds : ∀ x ∈ c.left, x.k = 1 ∨ x.k = 2 ∨ x.k = 3 ∨ x.k = 4
theorem Cu.Ok.pass {c : Cu} (h : c.Ok) : c.pass.Ok := ⟨fun hf => by show c.left.tail = []; rw [h.gone hf]; rfl, h.zero, fun x hx => h.kinds x (List.mem_of_mem_tail hx)⟩
theorem Cu.Ok.fail {c : Cu} (h : c.Ok) (e : Int) : (c.fail e).Ok := by
 unfold Cu.fail
 split
 · exact h
 · rename_i hn
   refine ⟨fun _ => rfl, fun he => ?_, fun x hx => by simp at hx⟩
   have he : e = 0 := he
   exact absurd (.inl he) hn
theorem Cu.Ok.over {c : Cu} (h : c.Ok) (b : Bool) : (c.over b).Ok := by cases b; exact h; exact h.pass
theorem Cu.Ok.key {c : Cu} (h : c.Ok) (s : ByteArray) : (c.key s).Ok := h.over _
theorem Cu.Ok.is {c : Cu} (h : c.Ok) (s : ByteArray) : (c.is s).Ok := h.over _
theorem Cu.Ok.name {c : Cu} (h : c.Ok) : c.name.Ok := by unfold Cu.name; split; exact h.pass; exact h.fail _
theorem Cu.Ok.num {c : Cu} (h : c.Ok) (a b : Int) : (c.num a b).Ok := by
 unfold Cu.num
 split
 · split
   · exact h.pass
   · exact h.fail _
 · exact h.fail _
theorem Cu.Ok.mark {c : Cu} (h : c.Ok) : ∀ l, (c.mark l).Ok := fun l => by
 induction l generalizing c with
 | nil => exact h
 | cons s r ih =>
  unfold Cu.mark
  split
  · exact ih (h.is s)
  · exact h.fail _
theorem Cu.Ok.end_ {c : Cu} (h : c.Ok) : c.end_.Ok := by
 unfold Cu.end_
 split
 · exact h.pass
 · split
   · exact h.fail _
   · exact h

/-- Words without the ends that a cursor does not have: one step of package line's own. -/
def stepC (st : Option Wd × List Wd) (x : Wd) : Option Wd × List Wd :=
 if endK x then (some (st.1.getD x), st.2)
 else (none, (if st.2 = [] then [] else st.2 ++ st.1.toList) ++ [x])
def pruned (ws : List Wd) : List Wd := (ws.foldl stepC (none, [])).2
/-- The document's step. -/
def keepsR (out : List Wd) (x : Wd) : Bool := decide (x.k ≠ 4) || (match out.getLast? with | some y => decide (y.k ≠ 4) | none => false)
def stepR (out : List Wd) (x : Wd) : List Wd := if keepsR out x then out ++ [x] else out
def trimR (out : List Wd) : List Wd := match out.getLast? with | some y => if y.k = 4 then out.dropLast else out | none => out
theorem prune_step (st : Option Wd × List Wd) (out : List Wd) (x : Wd) (hx : x.k = 1 ∨ x.k = 2 ∨ x.k = 3 ∨ x.k = 4) (h1 : ∀ e, st.1 = some e → e.k = 4) (h2 : ∀ y, st.2.getLast? = some y → y.k ≠ 4)
    (h3 : out = if st.2 = [] then [] else st.2 ++ st.1.toList) :
    (∀ e, (stepC st x).1 = some e → e.k = 4) ∧ (∀ y, (stepC st x).2.getLast? = some y → y.k ≠ 4) ∧ stepR out x = if (stepC st x).2 = [] then [] else (stepC st x).2 ++ (stepC st x).1.toList := by
 obtain ⟨b, left⟩ := st
 by_cases h4 : x.k = 4
 · have he : endK x = true := by simp [endK, h4]
   have hs : stepC (b, left) x = (some (b.getD x), left) := by simp [stepC, he]
   rw [hs]
   refine ⟨?_, h2, ?_⟩
   · cases b with
     | none => intro e h; simp at h; rw [← h]; exact h4
     | some e' => intro e h; simp at h; rw [← h]; exact h1 e' rfl
   · subst h3
     by_cases hl : left = []
     · simp [hl, stepR, keepsR, h4]
     · simp only [if_neg hl]
       cases b with
       | none =>
        obtain ⟨y, hy⟩ : ∃ y, left.getLast? = some y := ⟨_, List.getLast?_eq_some_getLast hl⟩
        have := h2 y hy
        simp [stepR, keepsR, hy, this]
       | some e =>
        have := h1 e rfl
        simp [stepR, keepsR, h4, this]
 · have he : endK x = false := by
     rcases hx with hx | hx | hx | hx
     · simp [endK, hx]
     · simp [endK, hx]
     · simp [endK, hx]
     · exact absurd hx h4
   have hr : stepR out x = out ++ [x] := by simp [stepR, keepsR, h4]
   rw [hr]
   have hs : stepC (b, left) x = (none, out ++ [x]) := by
    simp only [stepC, he]
    rw [h3]
    simp
   rw [hs]
   refine ⟨fun e h => by simp at h, fun y hy => ?_, by simp⟩
   simp at hy
   rw [← hy]
   exact h4
theorem prune_fold (ws : List Wd) (hk : ∀ x ∈ ws, x.k = 1 ∨ x.k = 2 ∨ x.k = 3 ∨ x.k = 4) : ∀ (st : Option Wd × List Wd) (out : List Wd), (∀ e, st.1 = some e → e.k = 4) → (∀ y, st.2.getLast? = some y → y.k ≠ 4) →
    out = (if st.2 = [] then [] else st.2 ++ st.1.toList) → trimR (ws.foldl stepR out) = (ws.foldl stepC st).2 := by
 induction ws with
 | nil =>
  intro st out h1 h2 h3
  obtain ⟨b, left⟩ := st
  simp only [List.foldl_nil]
  subst h3
  by_cases hl : left = []
  · simp [hl, trimR]
  · simp only [if_neg hl]
    cases b with
    | none =>
     obtain ⟨y, hy⟩ : ∃ y, left.getLast? = some y := ⟨_, List.getLast?_eq_some_getLast hl⟩
     simp [trimR, hy, h2 y hy]
    | some e => simp [trimR, h1 e rfl]
 | cons x ws ih =>
  intro st out h1 h2 h3
  obtain ⟨g1, g2, g3⟩ := prune_step st out x (hk x (by simp)) h1 h2 h3
  exact ih (fun y hy => hk y (by simp [hy])) _ _ g1 g2 g3
theorem prune_same (ws : List Wd) (hk : ∀ x ∈ ws, x.k = 1 ∨ x.k = 2 ∨ x.k = 3 ∨ x.k = 4) : trimR (ws.foldl stepR []) = pruned ws :=
 prune_fold ws hk (none, []) [] (fun _ h => by simp at h) (fun _ h => by simp at h) (by simp)
theorem pruned_mem (ws : List Wd) : ∀ (st : Option Wd × List Wd), (∀ e, st.1 = some e → ∃ y, y = e ∧ (y ∈ ws ∨ st.1 = some y)) → ∀ x ∈ (ws.foldl stepC st).2, x ∈ ws ∨ x ∈ st.2 ∨ st.1 = some x := by
 induction ws with
 | nil => intro st _ x hx; exact .inr (.inl hx)
 | cons a ws ih =>
  intro st _ x hx
  rcases ih (stepC st a) (fun e he => ⟨e, rfl, .inr he⟩) x hx with h | h | h
  · exact .inl (by simp [h])
  · obtain ⟨b, left⟩ := st
    unfold stepC at h
    split at h
    · exact .inr (.inl h)
    · simp only [List.mem_append, List.mem_singleton] at h
      rcases h with h | h
      · split at h
        · simp at h
        · simp only [List.mem_append, Option.mem_toList] at h
          rcases h with h | h
          · exact .inr (.inl h)
          · exact .inr (.inr h)
      · exact .inl (by simp [h])
  · obtain ⟨b, left⟩ := st
    unfold stepC at h
    split at h
    · cases b with
      | none => simp at h; exact .inl (by simp [h])
      | some e => exact .inr (.inr h)
    · simp at h
theorem pruned_kinds (ws : List Wd) (hk : ∀ x ∈ ws, x.k = 1 ∨ x.k = 2 ∨ x.k = 3 ∨ x.k = 4) : ∀ x ∈ pruned ws, x.k = 1 ∨ x.k = 2 ∨ x.k = 3 ∨ x.k = 4 := fun x hx => by
 rcases pruned_mem ws (none, []) (fun _ h => by simp at h) x hx with h | h | h
 · exact hk x h
 · simp at h
 · simp at h
theorem pruned_length (ws : List Wd) : ∀ (st : Option Wd × List Wd), (ws.foldl stepC st).2.length ≤ st.2.length + (if st.1.isSome then 1 else 0) + ws.length := by
 induction ws with
 | nil => intro st; simp
 | cons x ws ih =>
  intro st
  have h := ih (stepC st x)
  obtain ⟨b, left⟩ := st
  simp only [List.foldl_cons, List.length_cons]
  refine Nat.le_trans h ?_
  unfold stepC
  split
  · simp; omega
  · simp only
    by_cases hl : left = [] <;> cases b <;> simp [hl] <;> omega
end Go.Proofs.YtbjmbahpcoanoaaGreatDoor
