/-
  The small calls of package mach answer what the plain functions say. No condition beyond those that each theorem states.
  Machines that come in as arguments: their cells. No condition beyond those that each theorem states.
  Targets of registers, plainly: what an instruction and an end have, read, write, need; which error a target has. No condition beyond those that each theorem states.
  The small calls of package mir answer what the plain functions say. No condition beyond those that each theorem states.
  A cut within a region: its first operations, then what is left, once. No condition beyond those that each theorem states.
-/
import Derived.Test.YtbjmbahpcoanoaaGreatDoorPk3
import Derived.Test.YtbjmbahpcoanoaaGreatDoorProg
import Derived.ChangeKeysEq
import Derived.Laws.StructEq
import Derived.Test.YtbjmbahpcoanoaaGreatDoorPk1
import Derived.RegionTactic
import Derived.BigQuiet
import Derived.Deep.QuietTactic
import Derived.Deep.RegionWith
import Derived.Deep.WholeRow
import Derived.Deep.CutRange
namespace Go.Proofs.YtbjmbahpcoanoaaGreatDoor
open Go.RowKit

def maV (S : List Int) : Value := .agg (maC S)
theorem ma_size : (Tryz.prog.info? 128).map (·.size) = some 64 := by kernel_rfl
theorem ma_bool : (Tryz.prog.info? 4).map (·.size) = some 1 := by kernel_rfl
theorem ma_cells : Tryz.prog.cellsOf 4 = 1 := by kernel_rfl
theorem run_part_bool {cs : Array Value} {o : Nat} {v : Value} (hv : cs[o]? = some v) (w : World) : (part 4 cs o).run Tryz.prog w = .ok v w := by
 simp [part, isAgg, run_underlying Tryz.underlying4, hv]
theorem items_bool (d0 : Nat) (A B : List Int) (W : World) : ∀ (is : List Nat), (∀ i ∈ is, i < 64) →
    (Op.eqItems (d0 + 1) 4 1 (maC A) (maC B) is).run Tryz.prog W = .ok (is.all fun i => A.contains (i : Int) == B.contains (i : Int)) W
 | [], _ => by simp [Op.eqItems]
 | i :: is, h => by
  have hi : i < 64 := h i (by simp)
  have ih := items_bool d0 A B W is (fun j hj => h j (by simp [hj]))
  simp only [Op.eqItems, Sem.run_bind, Nat.mul_one, List.all_cons]
  rw [run_part_bool (maC_get A hi)]
  simp only [Result.andThen_ok]
  rw [run_part_bool (maC_get B hi)]
  simp only [Result.andThen_ok]
  rw [run_equalIn_bool' W d0 4 _ _ Tryz.underlying4]
  simp only [Result.andThen_ok]
  cases hq : (A.contains (i : Int) == B.contains (i : Int))
  · simp
  · simp only [Bool.not_true, Bool.false_eq_true, if_false, ih, Bool.true_and]
theorem eql_ma (A B : List Int) (W : World) : (Op.equalIn 10000 128 (.agg (maC A)) (.agg (maC B))).run Tryz.prog W = .ok ((List.range 64).all fun i => A.contains (i : Int) == B.contains (i : Int)) W := by
 obtain ⟨j, hj, hjs⟩ := Option.map_eq_some_iff.1 ma_bool
 rw [run_equalIn_array W 9999 (maC A) (maC B) Tryz.underlying128 hj, ma_cells]
 exact items_bool 9998 A B W _ (fun i hi => by simpa using hi)
theorem eql_in {S l : List Int} (hl : ∀ r ∈ l, 0 ≤ r ∧ r < 64) : ((List.range 64).all fun i => (l ++ S).contains (i : Int) == S.contains (i : Int)) = inB S l := by
 rw [Bool.eq_iff_iff, ← in_cells hl, List.all_eq_true]
 constructor
 · intro h k hk
   have := h k (by simpa using hk)
   simpa using this
 · intro h k hk
   have := h k (by simpa using hk)
   simp only [this, beq_self_eq_true]
end Go.Proofs.YtbjmbahpcoanoaaGreatDoor
namespace Go.Proofs.YtbjmbahpcoanoaaGreatDoor
open Go.RowKit

def maxC (m : Mm) (aa : Option Addr) (ac : Nat) (sa : Option Addr) (sc : Nat) : Array Value := #[.int .i64 m.regs, .slice aa m.args.length ac, .int .i64 m.ret, .slice sa m.saved.length sc]
def machV (m : Mm) (aa : Option Addr) (ac : Nat) (sa : Option Addr) (sc : Nat) : Value := .agg (maxC m aa ac sa sc)
/-- A machine's rows lie there. -/
structure MaW (w : World) (m : Mm) (aa sa : Option Addr) : Prop where
 args : IntsW w aa m.args
 saved : IntsW w sa m.saved
theorem MaW.below {w w' : World} {m : Mm} {aa sa : Option Addr} (h : MaW w m aa sa) (hb : Below w.heap.size w w') : MaW w' m aa sa := ⟨h.args.below hb, h.saved.below hb⟩
theorem boxMa {W : World} {g : Nat} {t : TypeId} {m : Mm} {aa sa : Option Addr} {ac sc : Nat} (h : Blk W g t (maxC m aa ac sa sc)) :
    W.cell? ⟨g, 0, none⟩ = some (.int .i64 m.regs) ∧ W.cell? ⟨g, 1, none⟩ = some (.slice aa m.args.length ac) ∧ W.cell? ⟨g, 2, none⟩ = some (.int .i64 m.ret) ∧ W.cell? ⟨g, 3, none⟩ = some (.slice sa m.saved.length sc) := ⟨h.cell 0, h.cell 1, h.cell 2, h.cell 3⟩
def big47 : Nat := 140737488355328
set_option maxHeartbeats 1000000 in
set_option maxRecDepth 100000 in
theorem isSmall_any (m : Mm) (aa sa : Option Addr) (ac sc : Nat) (w : World) (hl : m.args.length ≤ 140737488355328) (_hs : m.saved.length ≤ 140737488355328) :
    Calls Tryz.prog 80 #[machV m aa ac sa sc] w fun e w' => e = .returned (.bool m.smallB) ∧ Below w.heap.size w w' := by
 have HB : Hid (Below w.heap.size w (w.alloc (.cells (maxC m aa ac sa sc) 39))) := (Below.refl _ w).alloc (Nat.le_refl _) _
 unfold machV maxC at *
 go_enter Tryz.func80, Tryz.ntmps80
 by_cases h1 : (1 : Int) ≤ m.regs
 · by_cases h2 : m.regs ≤ 64
   · by_cases h3 : (m.args.length : Int) ≤ 8
     · go_wp2
       go_ret
       exact ⟨by simp [Mm.smallB]; omega, HB.out⟩
     · go_wp2
       go_ret
       exact ⟨by simp [Mm.smallB]; omega, HB.out⟩
   · go_wp2
     go_ret
     exact ⟨by simp [Mm.smallB]; omega, HB.out⟩
 · go_wp2
   go_ret
   exact ⟨by simp [Mm.smallB]; omega, HB.out⟩
end Go.Proofs.YtbjmbahpcoanoaaGreatDoor
namespace Go.Proofs.YtbjmbahpcoanoaaGreatDoor
open Go.ChangeShapes Go.WideShapes Go.Deep Go.RowKit

section
variable {H : Type} {enc : TypeId × Value → H} {w : World} {base : Nat} {spare : Nat → Bool} {held : Bool} {fuel : Nat} {cs : List Value} {x : DataW H × List MemPlace}
theorem room_of {t e : TypeId} {a : Option Addr} {n c : Nat} (ht : Tryz.prog.underlying t = some (.slice e)) (h : DataW.trod enc Tryz.prog w base spare held fuel t [.slice a n c] = some x) : n ≤ c := by
 rcases open_slice ht h with ⟨h0, _⟩ | ⟨_, _, _, _, _, _, _, hcs, _, hl, _⟩
 · simp only [List.cons.injEq, Value.slice.injEq, and_true] at h0
   omega
 · simp only [List.cons.injEq, Value.slice.injEq, and_true] at hcs
   omega
set_option maxRecDepth 100000 in
/-- A machine, by value, and the room of its rows. -/
theorem open_machine_room {cs2 : Array Value} (hcs : cs2.toList = cs) (h : DataW.trod enc Tryz.prog w base spare held fuel 39 cs = some x) (hw : LightW 39 x.1) :
    ∃ (m : Mm) (aa : Option Addr) (ac : Nat) (sa : Option Addr) (sc : Nat), Value.agg cs2 = machV m aa ac sa sc ∧ MaW w m aa sa ∧ m.args.length ≤ 140737488355328 ∧ m.saved.length ≤ 140737488355328 ∧ m.args.length ≤ ac ∧ (aa = none → ac = 0) ∧ (sa = none → sc = 0) := by
 obtain ⟨xs, n, _, hx, hcl, hlen, hf⟩ := DataW.trod_struct Tryz.underlying39 h
 rw [show Tryz.prog.cellsOf 39 = 4 by kernel_rfl] at hcl
 match cs, hcl with
 | [c0, c1, c2, c3], _ =>
  match xs, hlen with
  | [y0, y1, y2, y3], _ =>
   have g0 : DataW.trod enc Tryz.prog w base spare held n 3 (([c0, c1, c2, c3].drop 0).take (Tryz.prog.cellsOf 3)) = some y0 := hf 0 _ rfl
   rw [show Tryz.prog.cellsOf 3 = 1 by kernel_rfl] at g0
   have g1 : DataW.trod enc Tryz.prog w base spare held n 37 (([c0, c1, c2, c3].drop 1).take (Tryz.prog.cellsOf 37)) = some y1 := hf 1 _ rfl
   rw [show Tryz.prog.cellsOf 37 = 1 by kernel_rfl] at g1
   have g2 : DataW.trod enc Tryz.prog w base spare held n 3 (([c0, c1, c2, c3].drop 2).take (Tryz.prog.cellsOf 3)) = some y2 := hf 2 _ rfl
   rw [show Tryz.prog.cellsOf 3 = 1 by kernel_rfl] at g2
   have g3 : DataW.trod enc Tryz.prog w base spare held n 37 (([c0, c1, c2, c3].drop 3).take (Tryz.prog.cellsOf 37)) = some y3 := hf 3 _ rfl
   rw [show Tryz.prog.cellsOf 37 = 1 by kernel_rfl] at g3
   have hw1 : LightW 37 y1.1 := fun k hk => hw k (by
    rw [hx]
    simp only [DataW.weights, Tryz.underlying39, List.map_cons, List.map_nil]
    simp [DataW.weightsEach, hk])
   have hw3 : LightW 37 y3.1 := fun k hk => hw k (by
    rw [hx]
    simp only [DataW.weights, Tryz.underlying39, List.map_cons, List.map_nil]
    simp [DataW.weightsEach, hk])
   obtain ⟨m0, rfl⟩ := open_int1 Tryz.underlying3 (c := c0) g0
   obtain ⟨m2, rfl⟩ := open_int1 Tryz.underlying3 (c := c2) g2
   obtain ⟨aa, ac, l, e1, e2, e3, e4⟩ := open_intsW g1 hw1
   obtain ⟨sa, sc, k, d1, d2, d3, d4⟩ := open_intsW g3 hw3
   have e1 : [c1] = _ := e1
   have d1 : [c3] = _ := d1
   have hroom : l.length ≤ ac := by
    have g9 : DataW.trod enc Tryz.prog w base spare held n 37 [c1] = some y1 := g1
    rw [e1] at g9
    exact room_of Tryz.underlying37 g9
   simp only [List.cons.injEq, and_true] at e1 d1
   refine ⟨⟨m0, l, m2, k⟩, aa, ac, sa, sc, ?_, ⟨e4, d4⟩, e3, d3, hroom, e2, d2⟩
   unfold machV maxC
   congr 1
   apply Array.toList_inj.1
   rw [hcs, e1, d1]
/-- A machine, by value. -/
theorem open_machine {cs2 : Array Value} (hcs : cs2.toList = cs) (h : DataW.trod enc Tryz.prog w base spare held fuel 39 cs = some x) (hw : LightW 39 x.1) :
    ∃ (m : Mm) (aa : Option Addr) (ac : Nat) (sa : Option Addr) (sc : Nat), Value.agg cs2 = machV m aa ac sa sc ∧ MaW w m aa sa ∧ m.args.length ≤ 140737488355328 ∧ m.saved.length ≤ 140737488355328 := by
 obtain ⟨m, aa, ac, sa, sc, h1, h2, h3, h4, _⟩ := open_machine_room hcs h hw
 exact ⟨m, aa, ac, sa, sc, h1, h2, h3, h4⟩
end
end Go.Proofs.YtbjmbahpcoanoaaGreatDoor
namespace Go.Proofs.YtbjmbahpcoanoaaGreatDoor

/-- A target. -/
structure Gg where
 frame : Int
 blocks : List Bb

/-- Which parts an Op has, as the code has them: of each a bit. -/
def opHasL : List Int := [0, 9, 7, 7, 7, 7, 7, 7, 7, 7, 7, 11, 14, 64, 0, 3, 34, 17]
def belowB (n : Int) (l : List Int) : Bool := l.all fun x => decide (0 ≤ x) && decide (x < n)
def partsN (o : Int) : Int := if 0 ≤ o ∧ o < 18 then opHasL.getD o.toNat 0 else 0
def haveB (p k : Int) : Bool := decide ((p.toNat &&& k.toNat) ≠ 0)
def hasB (o k : Int) : Bool := haveB (partsN o) k
def immT (n : Int) : Bool := decide (-1099511627776 ≤ n) && decide (n ≤ 1099511627776)
def isCallT (m : Mm) (x : Ii) : Bool := belowB 100 [x.callee] && belowB ((m.args.length : Int) + 1) [x.many]
def isInsT (m : Mm) (x : Ii) : Bool :=
 (partsN x.op != 0) && (hasB x.op 1 || x.dst == 0) && (hasB x.op 2 || x.a == 0) && (hasB x.op 4 || x.b == 0) && (hasB x.op 48 || hasB x.op 8 && immT x.imm || x.imm == 0) &&
   (hasB x.op 64 && isCallT m x || x.callee == 0 && x.many == 0) && x.args.isEmpty
def ofInsN (m : Mm) (frame : Int) (x : Ii) : Int :=
 if isInsT m x then (if belowB m.regs [x.dst, x.a, x.b] then (if hasB x.op 48 && !belowB frame [x.imm] then 11 else 0) else 10) else 2
def isEndT (t : Tt) : Bool :=
 if t.kind = 1 then t.a == 0 && t.t1 == 0
 else if t.kind = 2 then true
 else if t.kind = 3 then t.t0 == 0 && t.t1 == 0
 else if t.kind = 4 then t.a == 0 && (t.t0 == 0 && t.t1 == 0)
 else false
def readsWellT (m : Mm) (t : Tt) : Bool := if t.kind = 3 then t.a == m.ret || t.a == -1 else belowB m.regs [t.a]
def ofEndN (m : Mm) (nb : Int) (t : Tt) : Int :=
 if isEndT t then (if readsWellT m t then (if belowB nb [t.t0, t.t1] then 0 else 9) else 10) else 2
def smallT (t : Gg) : Bool := !(t.blocks.length == 0) && !(decide (200 < t.blocks.length)) && !(decide (t.frame < 0)) && !(decide (400 < t.frame)) && t.blocks.all fun b => !(decide (4000 < b.ins.length))
def insErr (m : Mm) (frame : Int) : List Ii → Int
 | [] => 0
 | x :: l => if ofInsN m frame x = 0 then insErr m frame l else ofInsN m frame x
def blErr (m : Mm) (frame nb : Int) : List Bb → Int
 | [] => 0
 | b :: l => if insErr m frame b.ins = 0 then (if ofEndN m nb b.tm = 0 then blErr m frame nb l else ofEndN m nb b.tm) else insErr m frame b.ins
/-- Which error a target has, for a machine. -/
def rightT (m : Mm) (t : Gg) : Int := if m.rightB then (if smallT t then blErr m t.frame t.blocks.length t.blocks else 3) else 2

/-- A place: whether it is a slot, its number. -/
abbrev Ll := Bool × Int
def regL (n : Int) : Ll := (false, n)
def manyT (m : Mm) (x : Ii) : Int := min (max x.many 0) m.args.length
def readsT (m : Mm) (x : Ii) : List Ll :=
 if hasB x.op 64 then (m.args.take (manyT m x).toNat).map regL
 else if hasB x.op 16 then [(true, x.imm)]
 else if hasB x.op 4 then [regL x.a, regL x.b]
 else if hasB x.op 2 then [regL x.a]
 else []
def writesT (m : Mm) (x : Ii) : List Ll :=
 if hasB x.op 64 then [regL m.ret]
 else if hasB x.op 32 then [(true, x.imm)]
 else if hasB x.op 1 then [regL x.dst]
 else []
def needsT (t : Tt) : List Ll := if t.kind = 2 ∨ t.kind = 3 ∧ t.a ≠ -1 then [regL t.a] else []
def insertedT (o : Int) : Bool := o == 15 || o == 16 || o == 17
def sizeT (t : Gg) : Int := (t.blocks.length : Int) + ((t.blocks.map fun b => (b.ins.length : Int)).sum)

theorem below_iff {n : Int} {l : List Int} : belowB n l = true ↔ ∀ x ∈ l, 0 ≤ x ∧ x < n := by
 simp [belowB]
/-- An Op is one of eighteen, or has nothing. -/
theorem op_cases (o : Int) : partsN o = 0 ∧ (∀ k, hasB o k = false) ∨ o = 1 ∨ o = 2 ∨ o = 3 ∨ o = 4 ∨ o = 5 ∨ o = 6 ∨ o = 7 ∨ o = 8 ∨ o = 9 ∨ o = 10 ∨ o = 11 ∨ o = 12 ∨ o = 13 ∨ o = 15 ∨ o = 16 ∨ o = 17 := by
 by_cases h : o = 1 ∨ o = 2 ∨ o = 3 ∨ o = 4 ∨ o = 5 ∨ o = 6 ∨ o = 7 ∨ o = 8 ∨ o = 9 ∨ o = 10 ∨ o = 11 ∨ o = 12 ∨ o = 13 ∨ o = 15 ∨ o = 16 ∨ o = 17
 · exact .inr h
 · left
   have h0 : partsN o = 0 := by
    by_cases h2 : 0 ≤ o ∧ o < 18
    · have : o = 0 ∨ o = 14 := by omega
      rcases this with rfl | rfl <;> rfl
    · unfold partsN
      rw [if_neg h2]
   refine ⟨h0, fun k => ?_⟩
   unfold hasB
   rw [h0]
   simp [haveB]
end Go.Proofs.YtbjmbahpcoanoaaGreatDoor
namespace Go.Proofs.YtbjmbahpcoanoaaGreatDoor
open Go.RowKit

/-- The table of what each Op has lies in its variable. -/
def TabW (w : World) : Prop := 0 < w.heap.size ∧ ∀ i : Nat, i < 18 → w.cell? ⟨0, i, none⟩ = some (.int .i64 (opHasL.getD i 0))
theorem TabW.below {w w' : World} (h : TabW w) (hb : Below w.heap.size w w') : TabW w' := ⟨Nat.lt_of_lt_of_le h.1 hb.size, fun i hi => (hb.cell h.1).trans (h.2 i hi)⟩
theorem below_nil (n : Int) : belowB n [] = true := rfl
theorem ints_one {w : World} {g : Nat} {t : TypeId} {x : Int} (h : Blk w g t #[.int .i64 x]) : IntsW w (some ⟨g, 0, none⟩) [x] := IntsW.row h (fun k y hy => by
 cases k with
 | zero => simpa using hy
 | succ k => simp at hy)
theorem ints_two {w : World} {g : Nat} {t : TypeId} {x y : Int} (h : Blk w g t #[.int .i64 x, .int .i64 y]) : IntsW w (some ⟨g, 0, none⟩) [x, y] := IntsW.row h (fun k z hz => by
 match k, hz with
 | 0, hz => simpa using hz
 | 1, hz => simpa using hz
 | k + 2, hz => simp at hz)
theorem ints_three {w : World} {g : Nat} {t : TypeId} {x y z : Int} (h : Blk w g t #[.int .i64 x, .int .i64 y, .int .i64 z]) : IntsW w (some ⟨g, 0, none⟩) [x, y, z] := IntsW.row h (fun k v hv => by
 match k, hv with
 | 0, hv => simpa using hv
 | 1, hv => simpa using hv
 | 2, hv => simpa using hv
 | k + 3, hv => simp at hv)
set_option maxHeartbeats 1000000 in
set_option maxRecDepth 100000 in
theorem areBelow_any (n : Int) (l : List Int) (a : Option Addr) (c : Nat) (w : World) (hl : l.length ≤ 140737488355328) (hI : IntsW w a l) :
    Calls Tryz.prog 45 #[.int .i64 n, .slice a l.length c] w fun e w' => e = .returned (.bool (belowB n l)) ∧ w = w' := by
 have HI := Lib.hid hI
 clear hI
 go_enter Tryz.func45, Tryz.ntmps45
 go_wp2
 go_loopw [9] (fun k wr => ∃ j : Nat, k = .int .i64 j ∧ j ≤ l.length ∧ Hid (belowB n l = belowB n (l.drop j)) ∧ w = wr) (fun k _ => l.length - (intOf k).toNat)
 case atStart => exact ⟨0, rfl, Nat.zero_le _, rfl, rfl⟩
 case round =>
  obtain ⟨j, rfl, hj, HA, rfl⟩ := hrel
  by_cases hlt : j < l.length
  · have hlt' : (j : Int) < l.length := by omega
    have hj0 : (0 : Int) ≤ j := by omega
    obtain ⟨x, hx⟩ : ∃ x, l[j]? = some x := ⟨_, List.getElem?_eq_getElem hlt⟩
    obtain ⟨g, o, rfl, hg, h0⟩ := HI.out j x hx
    have HD : Hid (belowB n l = (decide (0 ≤ x) && decide (x < n) && belowB n (l.drop (j + 1)))) := by
     show _ = _
     rw [HA.out, List.drop_eq_getElem_cons hlt, (List.getElem?_eq_some_iff.1 hx).2]
     rfl
    clear hx HA
    by_cases h1 : x < 0
    · have e1 : decide (0 ≤ x) = false := decide_eq_false (by omega)
      rw [e1] at HD
      clear e1
      go_wp2
      go_ret
      exact ⟨by rw [HD.out]; rfl, rfl⟩
    · have e1 : decide (0 ≤ x) = true := decide_eq_true (by omega)
      rw [e1] at HD
      clear e1
      by_cases h2 : n ≤ x
      · have e2 : decide (x < n) = false := decide_eq_false (by omega)
        rw [e2] at HD
        clear e2
        go_wp2
        go_ret
        exact ⟨by rw [HD.out]; rfl, rfl⟩
      · have e2 : decide (x < n) = true := decide_eq_true (by omega)
        rw [e2] at HD
        clear e2
        go_wp2
        go_roundw
        case rel => exact ⟨j + 1, by go_num, by omega, by have := HD.out; simpa [Hid] using this, trivial⟩
        case measure => simp [intOf]; omega
  · have e : j = l.length := by omega
    subst e
    go_wp2
    go_ret
    exact ⟨by rw [HA.out]; simp [belowB], rfl⟩
set_option maxHeartbeats 1000000 in
set_option maxRecDepth 100000 in
theorem partsOf_any (o : Int) (w : World) (hT : TabW w) : Calls Tryz.prog 86 #[.int .i64 o] w fun e w' => e = .returned (.int .i64 (partsN o)) ∧ Below w.heap.size w w' := by
 have HB : Hid (Blk (w.alloc (.cells #[.int .i64 o] 3)) w.heap.size 3 #[.int .i64 o]) := Blk.new w _ _
 have HW : Hid (Below w.heap.size w (w.alloc (.cells #[.int .i64 o] 3))) := (Below.refl _ w).alloc (Nat.le_refl _) _
 have HC := Lib.hid (areBelow_any 18 [o] (some ⟨w.heap.size, 0, none⟩) 1 (w.alloc (.cells #[.int .i64 o] 3)) (by simp) (ints_one HB.out))
 have HT := Lib.hid (hT.below HW.out)
 clear hT HB
 go_enter Tryz.func86, Tryz.ntmps86
 go_wp2_with fail
 refine HC.out.mono ?_
 rintro e w1 ⟨rfl, rfl⟩
 by_cases h : 0 ≤ o ∧ o < 18
 · have hb : belowB 18 [o] = true := by simp [belowB, h.1, h.2]
   rw [hb]
   obtain ⟨u, rfl⟩ := Int.eq_ofNat_of_zero_le h.1
   have hu : u < 18 := by omega
   have hu2 : (u : Int) < 18 := by omega
   have hu0 : (0 : Int) ≤ u := by omega
   have c0 := HT.out.2 u hu
   have HE : Hid (partsN u = opHasL[u]?.getD 0) := by
    show _ = _
    unfold partsN
    rw [if_pos h]
    rfl
   clear h hb HC
   go_wp2
   go_ret
   exact ⟨by rw [HE.out]; rfl, HW.out⟩
 · have hb : belowB 18 [o] = false := by
     simp [belowB]
     omega
   have HE : Hid (partsN o = 0) := if_neg h
   rw [hb]
   clear h hb HC
   go_wp2
   go_ret
   exact ⟨by rw [HE.out]; rfl, HW.out⟩
theorem parts_mem (o : Int) : partsN o = 0 ∨ partsN o = 9 ∨ partsN o = 7 ∨ partsN o = 11 ∨ partsN o = 14 ∨ partsN o = 64 ∨ partsN o = 3 ∨ partsN o = 34 ∨ partsN o = 17 := by
 rcases op_cases o with ⟨h, _⟩ | rfl | rfl | rfl | rfl | rfl | rfl | rfl | rfl | rfl | rfl | rfl | rfl | rfl | rfl | rfl | rfl
 · exact .inl h
 all_goals decide
def KeyB (k : Int) : Prop := k = 1 ∨ k = 2 ∨ k = 4 ∨ k = 8 ∨ k = 16 ∨ k = 32 ∨ k = 48 ∨ k = 64
set_option maxHeartbeats 4000000 in
set_option maxRecDepth 100000 in
theorem have_any (o k : Int) (w : World) (hk : KeyB k) : Calls Tryz.prog 88 #[.int .i64 (partsN o), .int .i64 k] w fun e w' => e = .returned (.bool (hasB o k)) ∧ w = w' := by
 unfold hasB
 have hp := parts_mem o
 generalize partsN o = p at hp ⊢
 rcases hk with rfl | rfl | rfl | rfl | rfl | rfl | rfl | rfl <;> rcases hp with rfl | rfl | rfl | rfl | rfl | rfl | rfl | rfl | rfl
 all_goals (go_enter Tryz.func88, Tryz.ntmps88; go_wp2; go_ret; exact ⟨rfl, rfl⟩)
theorem immT_any (n : Int) (w : World) : Calls Tryz.prog 134 #[.int .i64 n] w fun e w' => e = .returned (.bool (immT n)) ∧ w = w' := by
 go_enter Tryz.func134, Tryz.ntmps134
 by_cases h1 : (-1099511627776 : Int) ≤ n
 · go_wp2
   go_ret
   exact ⟨by simp [immT]; try omega, rfl⟩
 · go_wp2
   go_ret
   exact ⟨by simp [immT]; try omega, rfl⟩
end Go.Proofs.YtbjmbahpcoanoaaGreatDoor
namespace Go.Proofs.YtbjmbahpcoanoaaGreatDoor
open Go.RowKit

section
variable {P : Program} {ops : Array Oper} {Q : Exit → Act → World → Prop}
/-- Behind the first operations: what is known there; every other way out is the whole's. -/
def CutQ (R : Act → World → Prop) (Q : Exit → Act → World → Prop) (e : Exit) (a : Act) (w : World) : Prop := match e with
 | .normal => R a w
 | e => Q e a w
theorem wp_cut {R : Act → World → Prop} {o : Oper} {a : Act} {w : World} {K K' : Act → World → Prop} (h : ∀ a w, K a w → K' a w) (hout : LetsOut (CutQ R Q) → LetsOut Q) (hh : o.wp P a w K (CutQ R Q)) : o.wp P a w K' Q := by
 unfold Oper.wp at *
 generalize (execOp a.eval o).run P w = r at *
 cases r with
 | ok n w' =>
  cases n <;> simp only [Oper.upon] at hh ⊢ <;>
   first
    | exact h _ _ hh
    | exact Calls.mono hh (fun e w'' he => by cases e <;> first | exact h _ _ he | exact hout he | exact he)
    | exact Rows.mono hh (fun _ _ he => h _ _ he)
 | halt x w' => cases x <;> simp only [Oper.upon] at hh ⊢ <;> exact hh
theorem wpList_cuts (R : Act → World → Prop) {l2 : List Oper} (h2 : ∀ a w, R a w → wpList P ops Q l2 a w) : ∀ (l1 : List Oper) (a : Act) (w : World), wpList P ops (CutQ R Q) l1 a w → wpList P ops Q (l1 ++ l2) a w
 | [], a, w, h => h2 a w h
 | o :: l1, a, w, h => by
  unfold wpList at h
  show wpList P ops Q (o :: (l1 ++ l2)) a w
  unfold wpList
  have hout : LetsOut (CutQ R Q) → LetsOut Q := fun ⟨a, w, h⟩ => ⟨a, w, h⟩
  split
  · rename_i hw
    rw [if_pos hw] at h
    exact h.imp (wp_cut (fun a w => wpList_cuts R h2 l1 a w) hout) (fun ⟨h3, h4⟩ => ⟨h3, hout h4⟩)
  · rename_i hw
    rw [if_neg hw] at h
    exact wpList_cuts R h2 l1 _ _ h
theorem wpList_cut (n : Nat) (R : Act → World → Prop) {l : List Oper} {a : Act} {w : World} (h1 : wpList P ops (CutQ R Q) (l.take n) a w) (h2 : ∀ a w, R a w → wpList P ops Q (l.drop n) a w) : wpList P ops Q l a w := by
 have := wpList_cuts R h2 (l.take n) a w h1
 rwa [List.take_append_drop] at this
end
end Go.Proofs.YtbjmbahpcoanoaaGreatDoor
