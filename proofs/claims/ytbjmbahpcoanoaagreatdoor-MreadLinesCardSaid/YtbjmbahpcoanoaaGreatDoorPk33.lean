/-
  Package mread's lines: which parts of blocks are told, one behind the other, to a loop's body that keeps what is not its own. No condition beyond those that each theorem states.
  What a Builder of the call's own holds behind each write. Conditions: those that each theorem states.
-/
import Derived.RangeFuncNested
import Derived.RangeFuncBound
import Derived.RangeFuncCalls
import Derived.RangeFuncLeaves
import Derived.Shelf.Abstract
import Derived.Shelf.RegionOpen
import Derived.WalkKit
import Derived.OwnWalkIn
import Derived.TacticsInMore
import Derived.LoopNIn
import Derived.LoopIn
import Derived.Test.YtbjmbahpcoanoaaGreatDoorPk30
import Derived.Test.YtbjmbahpcoanoaaGreatDoorPk14
import Derived.Lib.Builder
import Derived.Lib.AppendStr
import Derived.Lib.Strings
import Derived.Lib.Walk
import Derived.Laws.Externs
import Derived.Lib.OthersKept
import Derived.Lib.OwnKind
namespace Go.Proofs.YtbjmbahpcoanoaaGreatDoor
open Go.RowKit Go.Shelf
attribute [local go_sem] Oper.semAt_some

abbrev PtO := { p : Pt // p.ok }
def woL (l : List PtO) : List (List Wo) := l.map fun p => p.1.wo
theorem woL_snoc (l : List PtO) (p : PtO) : woL (l ++ [p]) = woL l ++ [p.1.wo] := by simp [woL]
/-- The lines of a block, of blocks. -/
def blkWo : List Wo := [.tx ⟨#[98, 108, 111, 99, 107]⟩]
def opWo (k : Nat) : List Wo := [.tx ⟨#[98, 108, 111, 99, 107]⟩, .nm (k : Int)]
def blWo (k : Nat) (b : Bb) : List (List Wo) := opWo k :: (b.ins.map insWo ++ [tmWo b.tm])
def blsWo : Nat → List Bb → List (List Wo)
 | _, [] => []
 | k, b :: r => blWo k b ++ blsWo (k + 1) r
theorem blsWo_snoc (b : Bb) : ∀ (l : List Bb) (k : Nat), blsWo k (l ++ [b]) = blsWo k l ++ blWo (k + l.length) b
 | [], k => by simp [blsWo]
 | a :: l, k => by
  have h := blsWo_snoc b l (k + 1)
  simp only [List.cons_append, blsWo, h, List.append_assoc, List.length_cons]
  rw [show k + 1 + l.length = k + (l.length + 1) by omega]
/-- A block whose parts can be told. -/
structure OkB (b : Bb) : Prop where
 ins : ∀ x ∈ b.ins, (1 ≤ x.op ∧ x.op ≤ 17 ∧ x.op ≠ 14) ∧ InsR x
 tm : TmR b.tm
 few : b.ins.length ≤ 1000000
/-- What the body keeps: all but what is of a builder. -/
structure KpB (n₀ : Nat) (W W' : World) : Prop where
 size : W.heap.size ≤ W'.heap.size
 same : ∀ (k : Nat) (cs : Array Value) (t : TypeId), W.heap[k]? = some (Obj.cells cs t (0, 0)) → t ≠ 83 → t ≠ 5 → W'.heap[k]? = some (Obj.cells cs t (0, 0))
 be : Below n₀ W W'
theorem KpB.refl (n₀ : Nat) (W : World) : KpB n₀ W W := ⟨Nat.le_refl _, fun _ _ _ h _ _ => h, Below.refl _ _⟩
theorem KpB.trans {n₀ : Nat} {A B C : World} (h : KpB n₀ A B) (k : KpB n₀ B C) : KpB n₀ A C := ⟨Nat.le_trans h.size k.size, fun i cs t hi h1 h2 => k.same i cs t (h.same i cs t hi h1 h2) h1 h2, h.be.trans k.be⟩
theorem KpB.alloc {n₀ : Nat} {A B : World} (h : KpB n₀ A B) (hn : n₀ ≤ B.heap.size) (o : Obj) : KpB n₀ A (B.alloc o) :=
 ⟨Nat.le_trans h.size (by simp), fun k cs t hk h1 h2 => (Below.heap_alloc B o k (Array.getElem?_eq_some_iff.1 (h.same k cs t hk h1 h2)).1).trans (h.same k cs t hk h1 h2), h.be.alloc hn o⟩
theorem KpB.blk {n₀ : Nat} {A B : World} (h : KpB n₀ A B) {g : Nat} {t : TypeId} {cs : Array Value} (hb : Blk A g t cs) (h1 : t ≠ 83) (h2 : t ≠ 5) : Blk B g t cs := h.same g cs t hb h1 h2
theorem KpB.put {n₀ : Nat} {w : World} (hn : n₀ ≤ w.heap.size) (W : World) (l : Nat) (o o' : Obj) (hl : w.heap.size ≤ l) (h : W.heap[l]? = some o) (ho : o.isCells = false) (_ : o.isWalk = false) : KpB n₀ W (W.putObj l o') :=
 ⟨(grownBy_putObj' W l o').size, (fun k cs t hk _ _ => by
  refine ((grownBy_putObj' W l o').block k (Array.getElem?_eq_some_iff.1 hk).1 (fun e => ?_)).trans hk
  have e : l = k := by simpa using e.symm
  subst e
  rw [h] at hk
  cases hk
  cases ho), (Below.refl n₀ W).grown (grownBy_putObj' W l o') (by have := (Array.getElem?_eq_some_iff.1 h).1; omega) (fun k e => by cases e; omega)⟩
/-- A block's lines as far as its first j instructions. -/
def partWo (k : Nat) (b : Bb) (j : Nat) : List (List Wo) := opWo k :: (b.ins.take j).map insWo
theorem partWo_all (k : Nat) (b : Bb) : partWo k b b.ins.length ++ [tmWo b.tm] = blWo k b := by
 unfold partWo blWo
 rw [List.take_length]
 rfl
theorem partWo_snoc (k : Nat) (b : Bb) (j : Nat) (x : Ii) (h : b.ins[j]? = some x) : partWo k b (j + 1) = partWo k b j ++ [insWo x] := by
 unfold partWo
 rw [List.take_add_one, h]
 simp
theorem partWo_pre (k : Nat) (b : Bb) (j : Nat) : ∃ r, blWo k b = partWo k b j ++ r ∧ 0 < r.length := by
 refine ⟨(b.ins.drop j).map insWo ++ [tmWo b.tm], ?_, by simp⟩
 unfold partWo blWo
 rw [List.cons_append, ← List.append_assoc, ← List.map_append, List.take_append_drop]
theorem blsWo_append : ∀ (l m : List Bb) (k : Nat), blsWo k (l ++ m) = blsWo k l ++ blsWo (k + l.length) m
 | [], m, k => by simp [blsWo]
 | a :: l, m, k => by
  have h := blsWo_append l m (k + 1)
  simp only [List.cons_append, blsWo, h, List.append_assoc, List.length_cons]
  rw [show k + 1 + l.length = k + (l.length + 1) by omega]
theorem blsWo_at {bl : List Bb} {k : Nat} {b : Bb} (h : bl[k]? = some b) : ∃ r, blsWo 0 bl = blsWo 0 (bl.take k) ++ (blWo k b ++ r) := by
 obtain ⟨hk, e⟩ := List.getElem?_eq_some_iff.1 h
 refine ⟨blsWo (k + 1) (bl.drop (k + 1)), ?_⟩
 have h1 : bl = bl.take k ++ (b :: bl.drop (k + 1)) := by
  rw [← e, ← List.drop_eq_getElem_cons hk, List.take_append_drop]
 have h2 := blsWo_append (bl.take k) (b :: bl.drop (k + 1)) 0
 rw [← h1] at h2
 rw [h2]
 simp only [blsWo, List.length_take]
 rw [show 0 + min k bl.length = k by omega]
theorem woL_len (l : List PtO) : (woL l).length = l.length := by simp [woL]
theorem few_of {bl : List Bb} {k : Nat} {b : Bb} (h : bl[k]? = some b) {pre : List PtO} {part r : List (List Wo)} (hp : woL pre = blsWo 0 (bl.take k) ++ part) (hr : blWo k b = part ++ r) (h0 : 0 < r.length) : pre.length < (blsWo 0 bl).length := by
 obtain ⟨q, hq⟩ := blsWo_at h
 rw [← woL_len, hp, hq, hr]
 simp only [List.length_append]
 omega
theorem pre_of {bl : List Bb} {k : Nat} {b : Bb} (h : bl[k]? = some b) {pre : List PtO} {part r : List (List Wo)} (hp : woL pre = blsWo 0 (bl.take k) ++ part) (hr : blWo k b = part ++ r) : woL pre <+: blsWo 0 bl := by
 obtain ⟨q, hq⟩ := blsWo_at h
 rw [hp, hq, hr]
 exact ⟨r ++ q, by simp⟩
theorem abides_alloc {J : List PtO → World → Prop} {B : Nat} (h : AbidesFrom B J) {s : List PtO} {W : World} (hs : J s W) (o : Obj) : J s (W.alloc o) := h s W _ none hs (World.grownBy_alloc W o none) (fun r e => by cases e)
set_option maxRecDepth 100000 in
theorem lines_any (a : Option Addr) (n c : Nat) (w : World) :
    Calls Tryz.prog 54 #[.slice a n c] w fun e w' => e = .returned (.func (.func 97) #[] #[.pointer (some ⟨w.heap.size, 0, none⟩)]) ∧ w' = w.alloc (.cells #[.slice a n c] 22) := by
 go_enter Tryz.func54, Tryz.ntmps54
 go_wp2
 go_ret
 exact ⟨rfl, rfl⟩
set_option maxRecDepth 100000 in
set_option maxHeartbeats 8000000 in
theorem lines_stops (F : Fence) (n : Nat) (hF : F.fn 97) (hro : F.round = none) (hn : 1 ≤ n) (L : Nat) (bl : List Bb) (ba : Option Addr) (bc : Nat) (W0 w : World) (hB : BlsW W0 ba bl) (hok : ∀ b ∈ bl, OkB b) (hfew : bl.length ≤ 1000000) (hw : Below W0.heap.size W0 w) (hL : Blk w L 22 #[.slice ba bl.length bc]) :
    SeqStopsK F n Tryz.prog 97 #[.pointer (some ⟨L, 0, none⟩)] (fun p : PtO => #[p.1.v]) (KpB W0.heap.size) (fun xs => woL xs = blsWo 0 bl) (fun pre => woL pre <+: blsWo 0 bl) (blsWo 0 bl).length w := fun l J Jx W hW hJ hJx hY h0 => by
 have HB := Lib.hid hB
 have HOK := Lib.hid hok
 have HW0 : Hid (Below W0.heap.size W0 W) := hw.trans (hW.mono hw.size)
 have HL : Hid (Blk W L 22 #[.slice ba bl.length bc]) := hL.below hW hL.lt
 have HJ := Lib.hid hJ
 have HY := Lib.hid hY
 have c0 : W.cell? ⟨L, 0, none⟩ = some (.slice ba bl.length bc) := HL.out.cell 0
 clear hB hok hw hL hW hJ hJx hY
 refine callsIn_of_wp Tryz.func97 rfl hF ?_ hro
 simp only [Tryz.ntmps97, List.size_toArray, List.length_cons, List.length_nil, Nat.reduceAdd, Nat.reduceSub, Array.replicate_succ, Array.replicate_zero, List.push_toArray, List.append_toArray, List.nil_append, List.cons_append]
 gi_wp2
 gi_loopw [9] (fun i wr => ∃ (k : Nat) (pre : List PtO), i = .int .i64 k ∧ k ≤ bl.length ∧ woL pre = blsWo 0 (bl.take k) ∧ J pre wr ∧ KpB W0.heap.size W wr)
  (fun i _ => bl.length - (intOf i).toNat)
 case atStart => exact ⟨0, [], rfl, Nat.zero_le _, rfl, h0, KpB.refl _ _⟩
 case round =>
  obtain ⟨k, pre, rfl, hk, hpre, hJs, hK⟩ := hrel
  have HPRE := Lib.hid hpre
  have HJS := Lib.hid hJs
  have HK := Lib.hid hK
  clear hpre hJs hK c0 h0
  by_cases hlt : k < bl.length
  · obtain ⟨b, hbk⟩ : ∃ b, bl[k]? = some b := ⟨bl[k], List.getElem?_eq_getElem hlt⟩
    obtain ⟨g, o, ia, ic, rfl, hg, hBA⟩ := HB.out k b hbk
    have HBA := Lib.hid hBA
    have HBK := Lib.hid hbk
    have hW0r : Below W0.heap.size W0 wr := HW0.out.trans HK.out.be
    have hA := hBA.below hg hW0r
    have b0 := hA.c0
    have b1 := hA.c1
    have b2 := hA.c2
    have b3 := hA.c3
    have b4 := hA.c4
    have hokb := HOK.out b (List.mem_of_getElem? hbk)
    have HOB := Lib.hid hokb
    have hlt' : (k : Int) < bl.length := by omega
    have hk0 : (0 : Int) ≤ k := by omega
    have hn0 : W0.heap.size ≤ wr.heap.size := hW0r.size
    have HR1 : Hid (R64 (k : Int)) := by
     show R64 _
     unfold R64
     omega
    obtain ⟨r0, hr0, hr1⟩ := partWo_pre k b 0
    have x0 : PtO := ⟨.op k, HR1.out⟩
    have hJ1 := abides_alloc HJ.out HJS.out (.cells (blC b ia ic) 53)
    have y1 := HY.out pre ⟨.op k, HR1.out⟩ _ hJ1 (few_of (part := []) (r := blWo k b) hbk (by rw [HPRE.out]; simp) rfl (by unfold blWo; simp))
    have HW1 : Hid (woL (pre ++ [⟨.op k, HR1.out⟩]) = blsWo 0 (bl.take k) ++ partWo k b 0) := by
     show woL _ = _
     rw [woL_snoc, HPRE.out]
     rfl
    have HP1 := Lib.hid (pre_of hbk HW1.out hr0)
    have HB1 : Hid (Blk (wr.alloc (.cells (blC b ia ic) 53)) wr.heap.size 53 (blC b ia ic)) := Blk.new wr _ _
    have HK1 : Hid (KpB W0.heap.size W (wr.alloc (.cells (blC b ia ic) 53))) := HK.out.alloc hn0 _
    have SB := Lib.hid (blC.eq_1 b ia ic)
    rw [SB.out] at y1 HB1 HK1
    clear hJ1 hA hBA hbk hokb hW0r HJS HK x0
    obtain ⟨fn, tmps, assign, body, hy, hR⟩ := y1
    have hy1 : (Instr.yield l #[.iface 141 (.int .i64 (k : Int))]).run Tryz.prog (wr.alloc (.cells #[.slice ia b.ins.length ic, .int .i64 b.tm.kind, .int .i64 b.tm.a, .int .i64 b.tm.t0, .int .i64 b.tm.t1] 53)) = .ok (.round l fn tmps assign body) (wr.alloc (.cells #[.slice ia b.ins.length ic, .int .i64 b.tm.kind, .int .i64 b.tm.a, .int .i64 b.tm.t0, .int .i64 b.tm.t1] 53)) := hy
    have HRR := Lib.hid hR
    clear hy hR
    obtain ⟨g4, hg4⟩ : ∃ g4, g4 = wr.heap.size := ⟨_, rfl⟩
    gi_wp2
    refine HRR.out.mono ?_
    clear hy1 b0 b1 b2 b3 b4
    rintro e W3 (⟨rfl, hJ3, hk3⟩ | ⟨rfl, hJx3⟩)
    · have HB3 : Hid (Blk W3 g4 53 #[.slice ia b.ins.length ic, .int .i64 b.tm.kind, .int .i64 b.tm.a, .int .i64 b.tm.t0, .int .i64 b.tm.t1]) := hg4 ▸ hk3.blk HB1.out (by decide) (by decide)
      have HK3 : Hid (KpB W0.heap.size W W3) := HK1.out.trans hk3
      have HJ3 := Lib.hid hJ3
      have d0 := HB3.out.cell 0
      have D0 : W3.cell? ⟨g4, 0, none⟩ = some (.slice ia b.ins.length ic) := d0
      have HPR : Hid (woL (pre ++ [⟨.op k, HR1.out⟩]) = blsWo 0 (bl.take k) ++ partWo k b 0) := HW1.out
      clear hJ3 hk3 HB1 HK1 HRR d0
      rw [← hg4]
      obtain ⟨prek, hprek⟩ : ∃ prek, prek = pre ++ [⟨.op k, HR1.out⟩] := ⟨_, rfl⟩
      rw [← hprek] at HJ3 HPR
      clear hprek HW1 HP1 hg4
      gi_wp2
      gi_loopw [22] (fun i wr2 => ∃ (j : Nat) (pre2 : List PtO), i = .int .i64 j ∧ j ≤ b.ins.length ∧ woL pre2 = blsWo 0 (bl.take k) ++ partWo k b j ∧ J pre2 wr2 ∧ KpB W0.heap.size W wr2 ∧ Blk wr2 g4 53 #[.slice ia b.ins.length ic, .int .i64 b.tm.kind, .int .i64 b.tm.a, .int .i64 b.tm.t0, .int .i64 b.tm.t1])
       (fun i _ => b.ins.length - (intOf i).toNat)
      case atStart => exact ⟨0, prek, rfl, Nat.zero_le _, HPR.out, HJ3.out, HK3.out, HB3.out⟩
      case round =>
       obtain ⟨j, pre2, rfl, hj, hpre2, hJs2, hK2, hB2⟩ := hrel
       have HPR2 := Lib.hid hpre2
       have HJS2 := Lib.hid hJs2
       have HK2 := Lib.hid hK2
       have HB2 := Lib.hid hB2
       clear hpre2 hJs2 hK2 hB2 HPR HJ3 HK3 HB3 D0
       have hfb := HOB.out.few
       by_cases hlt2 : j < b.ins.length
       · obtain ⟨x, hxj⟩ : ∃ x, b.ins[j]? = some x := ⟨b.ins[j], List.getElem?_eq_getElem hlt2⟩
         obtain ⟨g2, o2, xa, xc, rfl, hg2, hIA⟩ := HBA.out.ins j x hxj
         have hW0r := HW0.out.trans HK2.out.be
         have hA := hIA.below hg2 hW0r
         have a0 := hA.c0
         have a1 := hA.c1
         have a2 := hA.c2
         have a3 := hA.c3
         have a4 := hA.c4
         have a5 := hA.c5
         have a6 := hA.c6
         have a7 := hA.c7
         have hokx := HOB.out.ins x (List.mem_of_getElem? hxj)
         have hn2 : W0.heap.size ≤ wr.heap.size := hW0r.size
         have hlt3 : (j : Int) < b.ins.length := by omega
         have hj0 : (0 : Int) ≤ j := by omega
         obtain ⟨r2, hr2, hr3⟩ := partWo_pre k b j
         obtain ⟨r4, hr4, _⟩ := partWo_pre k b (j + 1)
         have hJ1 := abides_alloc HJ.out HJS2.out (.cells (insC x xa xc) 46)
         have y1 := HY.out pre2 ⟨.ins x xa xc, hokx⟩ _ hJ1 (few_of HBK.out HPR2.out hr2 hr3)
         have HW5 : Hid (woL (pre2 ++ [⟨.ins x xa xc, hokx⟩]) = blsWo 0 (bl.take k) ++ partWo k b (j + 1)) := by
          show woL _ = _
          rw [woL_snoc, HPR2.out, partWo_snoc k b j x hxj, List.append_assoc]
          rfl
         have HP5 := Lib.hid (pre_of HBK.out HW5.out hr4)
         have HB5 : Hid (Blk (wr.alloc (.cells (insC x xa xc) 46)) g4 53 #[.slice (some ⟨g2, o2, none⟩) b.ins.length ic, .int .i64 b.tm.kind, .int .i64 b.tm.a, .int .i64 b.tm.t0, .int .i64 b.tm.t1]) := HB2.out.alloc _
         have HK5 : Hid (KpB W0.heap.size W (wr.alloc (.cells (insC x xa xc) 46))) := HK2.out.alloc hn2 _
         have SX := Lib.hid (insC.eq_1 x xa xc)
         rw [SX.out] at y1 HB5 HK5
         clear hJ1 hA hIA hW0r HJS2 HK2 HB2
         obtain ⟨fn, tmps, assign, body, hy, hR⟩ := y1
         have hy1 : (Instr.yield l #[.iface 46 (.agg #[.int .i64 x.op, .int .i64 x.dst, .int .i64 x.a, .int .i64 x.b, .int .i64 x.imm, .int .i64 x.callee, .slice xa x.args.length xc, .int .i64 x.many])]).run Tryz.prog (wr.alloc (.cells #[.int .i64 x.op, .int .i64 x.dst, .int .i64 x.a, .int .i64 x.b, .int .i64 x.imm, .int .i64 x.callee, .slice xa x.args.length xc, .int .i64 x.many] 46)) = .ok (.round l fn tmps assign body) (wr.alloc (.cells #[.int .i64 x.op, .int .i64 x.dst, .int .i64 x.a, .int .i64 x.b, .int .i64 x.imm, .int .i64 x.callee, .slice xa x.args.length xc, .int .i64 x.many] 46)) := hy
         have HRR := Lib.hid hR
         obtain ⟨pre5, hpre5⟩ : ∃ pre5, pre5 = pre2 ++ [(⟨.ins x xa xc, hokx⟩ : PtO)] := ⟨_, rfl⟩
         rw [← hpre5] at HW5 HP5 HRR
         clear hy hR hxj hr2 hr3 hr4 HPR2 hpre5 hokx
         gi_wp2
         refine HRR.out.mono ?_
         clear hy1 a0 a1 a2 a3 a4 a5 a6 a7 HRR
         rintro e W5 (⟨rfl, hJ5, hk5⟩ | ⟨rfl, hJx5⟩)
         · have HB6 := Lib.hid (hk5.blk HB5.out (by decide) (by decide))
           have HK6 := Lib.hid (HK5.out.trans hk5)
           have HJ6 := Lib.hid hJ5
           clear hJ5 hk5 HB5 HK5
           gi_wp2
           go_roundw
           case rel => exact ⟨j + 1, pre5, by go_num, by omega, HW5.out, HJ6.out, HK6.out, HB6.out⟩
           case measure => simp [intOf]; omega
         · gi_wp2
           refine bodyPost_ret (results_none rfl _ _ _) rfl ?_
           exact ⟨⟨_, rfl⟩, .inr ⟨_, HP5.out, hJx5⟩⟩
       · obtain rfl : j = b.ins.length := by omega
         have y1 := HY.out pre2 ⟨.tm b.tm, HOB.out.tm⟩ _ HJS2.out (few_of HBK.out HPR2.out (partWo_all k b).symm (by simp))
         have HW5 : Hid (woL (pre2 ++ [⟨.tm b.tm, HOB.out.tm⟩]) = blsWo 0 (bl.take k) ++ blWo k b) := by
          show woL _ = _
          rw [woL_snoc, HPR2.out, ← partWo_all k b, List.append_assoc]
          rfl
         have HP5 := Lib.hid (pre_of (r := []) HBK.out HW5.out (by simp))
         have HW6 : Hid (woL (pre2 ++ [⟨.tm b.tm, HOB.out.tm⟩]) = blsWo 0 (bl.take (k + 1))) := by
          show woL _ = _
          rw [HW5.out, List.take_add_one, HBK.out, Option.toList_some, blsWo_snoc, List.length_take]
          rw [show 0 + min k bl.length = k by omega]
         have d1 := HB2.out.cell 1
         have d2 := HB2.out.cell 2
         have d3 := HB2.out.cell 3
         have d4 := HB2.out.cell 4
         have D1 : wr.cell? ⟨g4, 1, none⟩ = some (.int .i64 b.tm.kind) := d1
         have D2 : wr.cell? ⟨g4, 2, none⟩ = some (.int .i64 b.tm.a) := d2
         have D3 : wr.cell? ⟨g4, 3, none⟩ = some (.int .i64 b.tm.t0) := d3
         have D4 : wr.cell? ⟨g4, 4, none⟩ = some (.int .i64 b.tm.t1) := d4
         obtain ⟨fn, tmps, assign, body, hy, hR⟩ := y1
         have hy1 : (Instr.yield l #[.iface 51 (.agg #[.int .i64 b.tm.kind, .int .i64 b.tm.a, .int .i64 b.tm.t0, .int .i64 b.tm.t1])]).run Tryz.prog wr = .ok (.round l fn tmps assign body) wr := hy
         have HRR := Lib.hid hR
         obtain ⟨pre5, hpre5⟩ : ∃ pre5, pre5 = pre2 ++ [(⟨.tm b.tm, HOB.out.tm⟩ : PtO)] := ⟨_, rfl⟩
         rw [← hpre5] at HW6 HP5 HRR
         clear hy hR HPR2 hpre5 HW5 d1 d2 d3 d4 HJS2 HB2
         gi_wp2
         refine HRR.out.mono ?_
         clear hy1 D1 D2 D3 D4 HRR
         rintro e W5 (⟨rfl, hJ5, hk5⟩ | ⟨rfl, hJx5⟩)
         · have HK6 := Lib.hid (HK2.out.trans hk5)
           have HJ6 := Lib.hid hJ5
           clear hJ5 hk5 HK2
           gi_wp2
           go_roundw
           case rel => exact ⟨k + 1, pre5, by go_num, by omega, HW6.out, HJ6.out, HK6.out⟩
           case measure => simp [intOf]; omega
         · gi_wp2
           refine bodyPost_ret (results_none rfl _ _ _) rfl ?_
           exact ⟨⟨_, rfl⟩, .inr ⟨_, HP5.out, hJx5⟩⟩
    · gi_wp2
      refine bodyPost_ret (results_none rfl _ _ _) rfl ?_
      exact ⟨⟨_, rfl⟩, .inr ⟨_, HP1.out, hJx3⟩⟩
  · obtain rfl : k = bl.length := by omega
    have HE : Hid (woL pre = blsWo 0 bl) := by
     show woL pre = _
     rw [HPRE.out, List.take_length]
    have HJ1 := Lib.hid HJS.out
    gi_wp2
    go_end0
    exact ⟨⟨_, rfl⟩, .inl ⟨pre, HE.out, HJ1.out⟩⟩
end Go.Proofs.YtbjmbahpcoanoaaGreatDoor
namespace Go.Proofs.YtbjmbahpcoanoaaGreatDoor
open Go.RowKit

theorem bsize : (Tryz.prog.info? 83).map (·.size) = some 2 := by kernel_rfl
theorem byte_info : (Tryz.prog.info? 5).map (fun i => (i.zero, i.size, i.bytes)) = some (some (.int .u8 0), 1, 1) := by kernel_rfl
theorem blies : liesAt Tryz.prog Tryz.prog.depth 83 (2 / Tryz.prog.cellsOf 83) 0 83 1 = true := by kernel_rfl

set_option maxHeartbeats 1000000 in
set_option maxRecDepth 100000 in
theorem check_used (b : Nat) (w : World) (h0 : w.cell? ⟨b, 0, none⟩ = some (.pointer (some ⟨b, 0, none⟩))) :
    Calls Tryz.prog 94 #[.pointer (some ⟨b, 0, none⟩)] w fun e w' => e = .returned (.tuple #[]) ∧ w' = w := by
 obtain ⟨j, hj, _⟩ := Option.map_eq_some_iff.1 bsize
 go_enter Tryz.func94, Tryz.ntmps94
 go_wp2
 rw [Lib.run_neq_ptr_same w _ Tryz.underlying81 hj]
 go_wp2
 go_end0
 exact ⟨rfl, rfl⟩
set_option maxHeartbeats 1000000 in
set_option maxRecDepth 100000 in
theorem check_fresh (b : Nat) (w : World) (h0 : w.cell? ⟨b, 0, none⟩ = some (.pointer none)) (hsh : w.shape? b = some (83, 2)) (hfz : w.frozen? ⟨b, 0, none⟩ = false) :
    Calls Tryz.prog 94 #[.pointer (some ⟨b, 0, none⟩)] w fun e w' => e = .returned (.tuple #[]) ∧ w' = w.setCell ⟨b, 0, none⟩ (.pointer (some ⟨b, 0, none⟩)) := by
 obtain ⟨j, hj, hjs⟩ := Option.map_eq_some_iff.1 bsize
 go_enter Tryz.func94, Tryz.ntmps94
 go_wp2
 rw [Lib.run_to_unsafe w ⟨b, 0, none⟩ Tryz.underlying81 Tryz.underlying181 hj (by rw [hjs]; decide) hsh (Nat.zero_lt_succ 1)]
 simp only [Result.andThen]
 rw [Oper.upon_value]
 go_wp2
 rw [run_callFunc_extern Tryz.func138 (by kernel_rfl) (by kernel_rfl) (by kernel_rfl) (e := Extern.AbiNoEscape.same) (by kernel_rfl)]
 rw [Lib.run_noEscape]
 simp only [Result.andThen]
 rw [Oper.upon_value]
 go_wp2
 rw [Lib.run_from_unsafe w ⟨b, 0, none⟩ Tryz.underlying181 Tryz.underlying81 hj hsh blies]
 simp only [Result.andThen]
 rw [Oper.upon_value]
 go_wp2
 go_end0
 exact ⟨rfl, rfl⟩
theorem check_any (B b : Nat) (bs : List Value) (w : World) (h : Lib.IsBuilder 83 5 B b bs w) :
    Calls Tryz.prog 94 #[.pointer (some ⟨b, 0, none⟩)] w fun e w' => e = .returned (.tuple #[]) ∧ (Lib.BuilderAt 83 5 B b (.pointer (some ⟨b, 0, none⟩)) bs w' ∧ Below B w w' ∧ Lib.OthersKept 5 (some b) w w') := by
 rcases h with h | h
 · refine (check_fresh b w h.cell0 h.shape h.frozen0).mono ?_
   rintro e w' ⟨rfl, rfl⟩
   exact ⟨rfl, h.used _, (Below.refl B w).setCell (p := ⟨b, 0, none⟩) h.1 _, (Lib.OthersKept.refl _ _ w).setCell ⟨b, 0, none⟩ rfl _⟩
 · refine (check_used b w h.cell0).mono ?_
   rintro e w' ⟨rfl, rfl⟩
   exact ⟨rfl, h, Below.refl B _, Lib.OthersKept.refl _ _ _⟩


set_option maxHeartbeats 2000000 in
set_option maxRecDepth 100000 in
theorem string_any (B b : Nat) (bs : List Value) (s : ByteArray) (w : World) (h : Lib.IsBuilder 83 5 B b bs w) (hlen : bs.length + s.size ≤ 140737488355328) (hBw : B ≤ w.heap.size) :
    Calls Tryz.prog 52 #[.pointer (some ⟨b, 0, none⟩), .string s] w fun e w' => e = .returned (.tuple #[.int .i64 s.size, .nilIface]) ∧ (Lib.BuilderAt 83 5 B b (.pointer (some ⟨b, 0, none⟩)) (bs ++ Lib.strCells s) w' ∧ Below B w w' ∧ Lib.OthersKept 5 (some b) w w') := by
 obtain ⟨i0, hi, hz0, hz1, hz2⟩ := info_parts byte_info
 go_enter Tryz.func52, Tryz.ntmps52
 go_wp2_with (go_at_call 94; refine (check_any B b bs _ h).mono ?_)
 rintro e w1 ⟨rfl, h1, hb1, hk1⟩
 obtain ⟨hB, v, hbk, hown, hne⟩ := h1
 have c0 : w1.cell? ⟨b, 0, none⟩ = some (.pointer (some ⟨b, 0, none⟩)) := by rw [Lib.cell_of_heap hbk]; rfl
 have c1 : w1.cell? ⟨b, 1, none⟩ = some v := by rw [Lib.cell_of_heap hbk]; rfl
 go_wp2_with (at_builtin; refine Lib.wpList_append_own_string _ rfl _ _ 56 9 rfl B 5 i0 Tryz.underlying56 Tryz.underlying9 hi hz0 hz1 hz2 _ _ _ rfl hown s rfl ?c3 ?c4 ?c5 ?_)
 case c3 => unfold maxLen; omega
 case c4 => omega
 case c5 => have := hb1.size; omega
 intro v' w2 hown' hgrow _
 have hlt : b < w1.heap.size := by
  rcases Nat.lt_or_ge b w1.heap.size with h' | h'
  · exact h'
  · simp [Array.getElem?_eq_none h'] at hbk
 have hb2 : w2.heap[b]? = some (.cells #[.pointer (some ⟨b, 0, none⟩), v] 83 (0, 0)) := by
  rw [hgrow.block b hlt (fun e => hne e.symm)]
  exact hbk
 have d0 : w2.cell? ⟨b, 0, none⟩ = some (.pointer (some ⟨b, 0, none⟩)) := by rw [Lib.cell_of_heap hb2]; rfl
 have d1 : w2.cell? ⟨b, 1, none⟩ = some v := by rw [Lib.cell_of_heap hb2]; rfl
 have f1 : w2.frozen? ⟨b, 1, none⟩ = false := Lib.frozen_of_heap hb2 1
 obtain ⟨ao, n', cap, rfl⟩ : ∃ ao n' cap, v' = .slice ao n' cap := by
  rcases hown'.2 with ⟨hv, _⟩ | ⟨g, cap, cur, hv, _⟩
  · exact ⟨_, _, _, hv⟩
  · exact ⟨_, _, _, hv⟩
 go_wp2
 go_ret2
 refine ⟨rfl, ?_, ?_, (hk1.grown hgrow (Lib.ownsRow_kind hown)).setCell ⟨b, 1, none⟩ rfl _⟩
 · exact Lib.BuilderAt.put (T := 83) (e := 5) hB hb2 (bs' := bs ++ Lib.strCells s) (by simpa [Lib.strCells_length] using hown') (by decide)
 · exact (hb1.grown hgrow (by have := hb1.size; omega) (fun k hk => (hown.lt k hk).1)).setCell (p := ⟨b, 1, none⟩) hB _
end Go.Proofs.YtbjmbahpcoanoaaGreatDoor
