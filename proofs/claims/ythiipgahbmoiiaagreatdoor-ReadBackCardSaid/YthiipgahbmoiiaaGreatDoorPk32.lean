/-
  Package read's call, its value: the instruction behind an arrow to the left (written by gen/rdd.py). Conditions: the library's tables, its errors, and the Ops' names are there.
-/
import Derived.Test.YthiipgahbmoiiaaGreatDoorPk29
import Derived.Test.YthiipgahbmoiiaaGreatDoorPk31
import Derived.Laws.ResultCell
namespace Go.Proofs.YthiipgahbmoiiaaGreatDoor
open Go.RowKit

theorem own_baseQ {W : World} {B B' sz n : Nat} {e : TypeId} {v : Value} {xs : List Value} (h : W.ownsRow B e sz v n xs) (hb : B' ≤ B) : W.ownsRow B' e sz v n xs := by
  obtain ⟨h1, h2⟩ := h
  refine ⟨h1, ?_⟩
  rcases h2 with h2 | ⟨g, cap, cur, hv, hB, hh, r⟩
  · exact .inl h2
  · exact .inr ⟨g, cap, cur, hv, Nat.le_trans hb hB, hh, r⟩
theorem key_offQ {c : Cu} {s : ByteArray} (h : c.keyB s = false) : c.key s = c := by unfold Cu.key; rw [h]; rfl
theorem is_offQ {c : Cu} {s : ByteArray} (h : c.isB s = false) : c.is s = c := by unfold Cu.is; rw [h]; rfl
section
variable {w0 w : World} {q g : Nat} {c : Cu} {s : ByteArray} {b : Bool}
theorem key_gone (h : Rq w0 w q g c) (hb : c.keyB s = b) : Calls Tryz.prog 121 #[.pointer (some ⟨g, 0, none⟩), .string s] w fun e w' => e = .returned (.bool b) ∧ Gone w0 w q g (c.key s) w' := by
  subst hb
  exact gone_call h (h.fit.key s) (key_any g c s w h.C)
theorem key_missQ (h : Rq w0 w q g c) (hb : c.keyB s = false) : Calls Tryz.prog 121 #[.pointer (some ⟨g, 0, none⟩), .string s] w fun e w' => e = .returned (.bool false) ∧ Gone w0 w q g c w' := by
  have := key_gone h hb
  rw [key_offQ hb] at this
  exact this
theorem is_gone (h : Rq w0 w q g c) (hb : c.isB s = b) : Calls Tryz.prog 170 #[.pointer (some ⟨g, 0, none⟩), .string s] w fun e w' => e = .returned (.bool b) ∧ Gone w0 w q g (c.is s) w' := by
  subst hb
  exact gone_call h (h.fit.is s) (isI_any g c s w h.C)
theorem is_missQ (h : Rq w0 w q g c) (hb : c.isB s = false) : Calls Tryz.prog 170 #[.pointer (some ⟨g, 0, none⟩), .string s] w fun e w' => e = .returned (.bool false) ∧ Gone w0 w q g c w' := by
  have := is_gone h hb
  rw [is_offQ hb] at this
  exact this
theorem peek_gone (h : Rq w0 w q g c) : Calls Tryz.prog 124 #[.pointer (some ⟨g, 0, none⟩)] w fun e w' => e = .returned (.string c.nameT) ∧ Gone w0 w q g c w' := gone_below h (peek_any g c w h.C)
theorem name_gone (h : Rq w0 w q g c) : Calls Tryz.prog 164 #[.pointer (some ⟨g, 0, none⟩)] w fun e w' => e = .returned (.string c.nameT) ∧ Gone w0 w q g c.name w' := gone_call h h.fit.name (nameC_any g c w h.C)
end
/-- An instruction that is being told: its arguments' row; the result's box, the first one behind the world w. -/
structure Vq (w0 w W : World) (q g : Nat) (c : Cu) (v : Value) (l : List Int) (cs : Array Value) : Prop where
  a : Ak w0 w W q g c v l
  b : Blk W w.heap.size 45 cs
section
variable {w0 w W W' : World} {q g : Nat} {c d : Cu} {v : Value} {l : List Int} {cs : Array Value}
theorem Vq.call (h : Vq w0 w W q g c v l cs) (hw : Gone w0 W q g d W') : Vq w0 w W' q g d v l cs := by
  obtain ⟨ds, hds⟩ := cur_blkQ h.a.rp.C
  exact ⟨h.a.call hw, Blk.keep h.b hw.2 (blk_ne h.b hds (by decide))⟩
theorem Vq.put (h : Vq w0 w W q g c v l cs) (j : Nat) (u : Value) : Vq w0 w (W.setCell ⟨w.heap.size, j, none⟩ u) q g c v l (cs.setIfInBounds j u) :=
  ⟨⟨⟨h.a.rp.C.keep (Keep.put _ _ _ _ _) h.b (by decide) (by decide), h.a.rp.R.far (p := ⟨w.heap.size, j, none⟩) (blk_ne h.a.rp.R h.b (by decide)) u, h.a.rp.be.setCell (p := ⟨w.heap.size, j, none⟩) h.a.le u, h.a.rp.hg, h.a.rp.fit⟩,
    own_put h.a.row (p := ⟨w.heap.size, j, none⟩) (own_ne h.a.row h.b (by decide)) u, h.a.k.trans ⟨rfl, rfl, rfl, by simp [World.setCell], fun k hk _ => Below.heap_setCell W ⟨w.heap.size, j, none⟩ u k (by show k ≠ w.heap.size; omega)⟩, h.a.le⟩, h.b.put j u⟩
theorem Vq.new (h : Rq w0 w q g c) (cs : Array Value) : Vq w0 w (w.alloc (.cells cs 45)) q g c (.slice none 0 0) [] cs :=
  ⟨(Ak.new h).alloc _, Blk.new w _ _⟩
/-- Behind a call that tells a row of its own. -/
theorem Vq.told {v2 : Value} {l2 : List Int} (h : Vq w0 w W q g c v l cs) (hA : Ak w0 W W' q g d v2 l2) : Vq w0 w W' q g d v2 l2 cs := by
  obtain ⟨ds, hds⟩ := cur_blkQ h.a.rp.C
  exact ⟨⟨hA.rp, own_baseQ hA.row h.a.k.size, h.a.k.then_keep hA.k, h.a.le⟩, Blk.keep h.b hA.k (blk_ne h.b hds (by decide))⟩
theorem Vq.cells (h : Vq w0 w W q g c v l #[.int .i64 0, .int .i64 0, .int .i64 0, .int .i64 0, .int .i64 0, .int .i64 0, .slice none 0 0, .int .i64 0]) :
    (W.cell? ⟨w.heap.size, 0, none⟩ = some (.int .i64 0) ∧ W.cell? ⟨w.heap.size, 1, none⟩ = some (.int .i64 0) ∧ W.cell? ⟨w.heap.size, 2, none⟩ = some (.int .i64 0) ∧ W.cell? ⟨w.heap.size, 3, none⟩ = some (.int .i64 0) ∧ W.cell? ⟨w.heap.size, 4, none⟩ = some (.int .i64 0) ∧ W.cell? ⟨w.heap.size, 5, none⟩ = some (.int .i64 0) ∧ W.cell? ⟨w.heap.size, 6, none⟩ = some (.slice none 0 0) ∧ W.cell? ⟨w.heap.size, 7, none⟩ = some (.int .i64 0)) ∧ W.frozen? ⟨w.heap.size, 0, none⟩ = false ∧ W.frozen? ⟨w.heap.size, 1, none⟩ = false ∧ W.frozen? ⟨w.heap.size, 2, none⟩ = false ∧ W.frozen? ⟨w.heap.size, 3, none⟩ = false ∧ W.frozen? ⟨w.heap.size, 4, none⟩ = false ∧ W.frozen? ⟨w.heap.size, 5, none⟩ = false ∧ W.frozen? ⟨w.heap.size, 6, none⟩ = false ∧ W.frozen? ⟨w.heap.size, 7, none⟩ = false :=
  ⟨⟨h.b.cell 0, h.b.cell 1, h.b.cell 2, h.b.cell 3, h.b.cell 4, h.b.cell 5, h.b.cell 6, h.b.cell 7⟩, h.b.free 0, h.b.free 1, h.b.free 2, h.b.free 3, h.b.free 4, h.b.free 5, h.b.free 6, h.b.free 7⟩
def put8Q (W : World) (p : Nat) (x : Ii) (a : Option Addr) (k : Nat) : World := (((((((W.setCell ⟨p, 0, none⟩ (.int .i64 x.op)).setCell ⟨p, 1, none⟩ (.int .i64 x.dst)).setCell ⟨p, 2, none⟩ (.int .i64 x.a)).setCell ⟨p, 3, none⟩ (.int .i64 x.b)).setCell ⟨p, 4, none⟩ (.int .i64 x.imm)).setCell ⟨p, 5, none⟩ (.int .i64 x.callee)).setCell ⟨p, 6, none⟩ (.slice a x.args.length k)).setCell ⟨p, 7, none⟩ (.int .i64 x.many)
theorem Vq.put8 (h : Vq w0 w W q g c v l #[.int .i64 0, .int .i64 0, .int .i64 0, .int .i64 0, .int .i64 0, .int .i64 0, .slice none 0 0, .int .i64 0]) (x : Ii) (a : Option Addr) (k : Nat) : Vq w0 w (put8Q W w.heap.size x a k) q g c v l (insC x a k) := by
  have h8 := (((((((h.put 0 (.int .i64 x.op)).put 1 (.int .i64 x.dst)).put 2 (.int .i64 x.a)).put 3 (.int .i64 x.b)).put 4 (.int .i64 x.imm)).put 5 (.int .i64 x.callee)).put 6 (.slice a x.args.length k)).put 7 (.int .i64 x.many)
  have e : (((((((((#[.int .i64 0, .int .i64 0, .int .i64 0, .int .i64 0, .int .i64 0, .int .i64 0, .slice none 0 0, .int .i64 0] : Array Value).setIfInBounds 0 (.int .i64 x.op)).setIfInBounds 1 (.int .i64 x.dst)).setIfInBounds 2 (.int .i64 x.a)).setIfInBounds 3 (.int .i64 x.b)).setIfInBounds 4 (.int .i64 x.imm)).setIfInBounds 5 (.int .i64 x.callee)).setIfInBounds 6 (.slice a x.args.length k)).setIfInBounds 7 (.int .i64 x.many)) = insC x a k := by simp [insC]
  rw [e] at h8
  exact h8
end
theorem ins8_sizeQ : (Tryz.prog.info? 45).map (·.size) = some 8 := by kernel_rfl
/-- What is told of a call, and where the cursor is behind it. -/
def Cu.callC (c : Cu) : Cu := (c.num 0 99).argsC
def Cu.callI (c : Cu) (dst : Int) : Ii := ⟨13, dst, 0, 0, 0, c.numN 0 99, (c.num 0 99).argsL, 0⟩
def ToldQ (w0 w w' : World) (q g : Nat) (d : Cu) (x : Ii) (e : Ending) : Prop := ∃ (a : Option Addr) (k : Nat), e = .returned (.agg (insC x a k)) ∧ Ak w0 w w' q g d (.slice a x.args.length k) x.args
set_option maxRecDepth 100000 in
set_option maxHeartbeats 8000000 in
theorem callQ_any (w0 w : World) (q g : Nat) (c : Cu) (dst : Int) (hT : TabQ w0) (h : Rq w0 w q g c) :
    Calls Tryz.prog 168 #[.pointer (some ⟨q, 0, none⟩), .int .i64 dst] w fun e w' => ToldQ w0 w w' q g c.callC (c.callI dst) e := by
  have V0 := Lib.hid (Vq.new h #[.int .i64 0, .int .i64 0, .int .i64 0, .int .i64 0, .int .i64 0, .int .i64 0, .slice none 0 0, .int .i64 0])
  have m0 := V0.out.a.rp.cell
  have NU : Hid (∀ W, Rq w0 W q g c → _) := fun W hr => num_gone 0 99 hr
  have AR : Hid (∀ W, Rq w0 W q g (c.num 0 99) → _) := fun W hr => argsQ_any w0 W q g (c.num 0 99) hT hr
  have TT : Hid (∀ (e : Ending) (w' : World), _ → ToldQ w0 w w' q g c.callC (c.callI dst) e) := fun e w' h => h
  clear h hT
  unfold Cu.callC Cu.callI at TT ⊢
  generalize c.numN 0 99 = nc at *
  generalize c.num 0 99 = d1 at *
  generalize d1.argsL = L at *
  generalize d1.argsC = d2 at *
  go_enter Tryz.func168, Tryz.ntmps168
  go_wp2_with fail
  refine (NU.out _ V0.out.a.rp).mono ?_
  rintro e w1 ⟨rfl, h1⟩
  have V1 := Lib.hid (V0.out.call h1)
  have m1 := V1.out.a.rp.cell
  clear h1 V0 NU m0
  go_wp2_with fail
  refine (AR.out _ V1.out.a.rp).mono ?_
  rintro e w2 ⟨a, k, rfl, hA⟩
  have V2 := Lib.hid (V1.out.told hA)
  clear hA V1 AR m1
  obtain ⟨⟨y0, y1, y2, y3, y4, y5, y6, y7⟩, z0, z1, z2, z3, z4, z5, z6, z7⟩ := V2.out.cells
  go_wp2
  (try simp only [Exit.inBlock, Exit.then])
  have hend := V2.out.put8 ⟨13, dst, 0, 0, 0, nc, L, 0⟩ a k
  refine bodyPost_ret (results_cell_row rfl _ _ w.heap.size 45 _ (0, 0) _ (by simp) hend.b Tryz.underlying45 rfl ins8_sizeQ) rfl ?_
  exact ⟨a, k, rfl, hend.a⟩
/-- What is told behind an arrow to the left, and where the cursor is behind it. -/
def kCaQ : ByteArray := ⟨#[99, 97, 108, 108]⟩
def Cu.valQC (c : Cu) : Cu :=
  if c.keyB kCaQ then (c.key kCaQ).callC
  else if opR c.nameT = 0 then c.vaC
  else if opR c.nameT = 1 then c.name.num (-1099511627776) 1099511627776
  else if opR c.nameT = 11 then c.name.vaC.num (-1099511627776) 1099511627776
  else c.name.vaC.vaC
def Cu.valQ (c : Cu) (dst : Int) : Ii :=
  if c.keyB kCaQ then (c.key kCaQ).callI dst
  else if opR c.nameT = 0 then ⟨14, dst, c.vaN, 0, 0, 0, [], 0⟩
  else if opR c.nameT = 1 then ⟨1, dst, 0, 0, c.name.numN (-1099511627776) 1099511627776, 0, [], 0⟩
  else if opR c.nameT = 11 then ⟨11, dst, c.name.vaN, 0, c.name.vaC.numN (-1099511627776) 1099511627776, 0, [], 0⟩
  else ⟨(opR c.nameT : Nat), dst, c.name.vaN, c.name.vaC.vaN, 0, 0, [], 0⟩
set_option maxRecDepth 100000 in
set_option maxHeartbeats 8000000 in
theorem valueQ_any (w0 w : World) (q g : Nat) (c : Cu) (dst : Int) (hT : TabQ w0) (h : Rq w0 w q g c) :
    Calls Tryz.prog 173 #[.pointer (some ⟨q, 0, none⟩), .int .i64 dst] w fun e w' => ToldQ w0 w w' q g c.valQC (c.valQ dst) e := by
  have V0 := Lib.hid (Vq.new h #[.int .i64 0, .int .i64 0, .int .i64 0, .int .i64 0, .int .i64 0, .int .i64 0, .slice none 0 0, .int .i64 0])
  have m0 := V0.out.a.rp.cell
  have KH : Hid (c.keyB kCaQ = true → ∀ W, Rq w0 W q g c → _) := fun hb W hr => key_gone (s := kCaQ) hr hb
  have KM : Hid (c.keyB kCaQ = false → ∀ W, Rq w0 W q g c → _) := fun hb W hr => key_missQ (s := kCaQ) hr hb
  have CL : Hid (∀ W, Rq w0 W q g (c.key kCaQ) → _) := fun W hr => callQ_any w0 W q g (c.key kCaQ) dst hT hr
  have PK : Hid (∀ W, Rq w0 W q g c → _) := fun W hr => peek_gone hr
  have OP : Hid (∀ W, Rq w0 W q g c → Calls Tryz.prog 196 #[.string c.nameT] W fun e w' => e = .returned (.int .i64 (opR c.nameT : Nat)) ∧ W = w') := fun W hr => opOfR_any c.nameT W (hT.names.below hr.be)
  have NM : Hid (∀ W, Rq w0 W q g c → _) := fun W hr => name_gone hr
  have VA : Hid (∀ (d : Cu) W, Rq w0 W q g d → _) := fun d W hr => vaQ_any w0 W q g d hT hr
  have IM : Hid (∀ (d : Cu) W, Rq w0 W q g d → _) := fun d W hr => immQ_any w0 W q g d hr
  clear h hT
  cases hk : c.keyB kCaQ
  case true =>
    have K1 := Lib.hid (KH.out hk)
    have HX : Hid (c.valQC = (c.key kCaQ).callC ∧ c.valQ dst = (c.key kCaQ).callI dst) := ⟨by unfold Cu.valQC; rw [if_pos hk], by unfold Cu.valQ; rw [if_pos hk]⟩
    rw [HX.out.1, HX.out.2]
    clear HX hk KH KM PK OP NM VA IM
    unfold ToldQ at CL ⊢
    generalize (c.key kCaQ).callC = d2 at *
    generalize (c.key kCaQ).callI dst = x at *
    generalize c.key kCaQ = d1 at *
    unfold kCaQ at K1
    have SC : ∀ a k, insC x a k = #[.int .i64 x.op, .int .i64 x.dst, .int .i64 x.a, .int .i64 x.b, .int .i64 x.imm, .int .i64 x.callee, .slice a x.args.length k, .int .i64 x.many] := fun a k => rfl
    go_enter Tryz.func173, Tryz.ntmps173
    go_wp2_with fail
    refine (K1.out _ V0.out.a.rp).mono ?_
    rintro e w1 ⟨rfl, h1⟩
    have V1 := Lib.hid (V0.out.call h1)
    have m1 := V1.out.a.rp.cell
    clear h1 V0 m0
    go_wp2_with fail
    refine (CL.out _ V1.out.a.rp).mono ?_
    rintro e w2 ⟨a, k, rfl, hA⟩
    have V2 := Lib.hid (V1.out.told hA)
    clear hA V1 CL m1 K1
    rw [SC]
    obtain ⟨⟨y0, y1, y2, y3, y4, y5, y6, y7⟩, z0, z1, z2, z3, z4, z5, z6, z7⟩ := V2.out.cells
    go_wp2
    (try simp only [Exit.inBlock, Exit.then])
    have hend := V2.out.put8 x a k
    refine bodyPost_ret (results_cell_row rfl _ _ w.heap.size 45 _ (0, 0) _ (by simp) hend.b Tryz.underlying45 rfl ins8_sizeQ) rfl ?_
    exact ⟨a, k, rfl, hend.a⟩
  case false =>
  have K1 := Lib.hid (KM.out hk)
  have HX : Hid (c.valQC = (if opR c.nameT = 0 then c.vaC else if opR c.nameT = 1 then c.name.num (-1099511627776) 1099511627776 else if opR c.nameT = 11 then c.name.vaC.num (-1099511627776) 1099511627776 else c.name.vaC.vaC) ∧ c.valQ dst = (if opR c.nameT = 0 then ⟨14, dst, c.vaN, 0, 0, 0, [], 0⟩ else if opR c.nameT = 1 then ⟨1, dst, 0, 0, c.name.numN (-1099511627776) 1099511627776, 0, [], 0⟩ else if opR c.nameT = 11 then ⟨11, dst, c.name.vaN, 0, c.name.vaC.numN (-1099511627776) 1099511627776, 0, [], 0⟩ else ⟨(opR c.nameT : Nat), dst, c.name.vaN, c.name.vaC.vaN, 0, 0, [], 0⟩)) := ⟨by unfold Cu.valQC; rw [if_neg (by rw [hk]; decide)], by unfold Cu.valQ; rw [if_neg (by rw [hk]; decide)]⟩
  rw [HX.out.1, HX.out.2]
  clear HX hk KH KM CL
  unfold kCaQ at K1
  generalize hop : opR c.nameT = op at *
  generalize c.nameT = nt at *
  clear hop
  by_cases h0 : op = 0
  · rw [if_pos h0, if_pos h0]
    subst h0
    have V9 := Lib.hid (VA.out c)
    rw [show ((0 : Nat) : Int) = 0 from rfl] at OP
    clear NM VA IM
    generalize c.vaN = n1 at *
    generalize c.vaC = d1 at *
    go_enter Tryz.func173, Tryz.ntmps173
    go_wp2_with fail
    refine (K1.out _ V0.out.a.rp).mono ?_
    rintro e w1 ⟨rfl, h1⟩
    have V1 := Lib.hid (V0.out.call h1)
    have m1 := V1.out.a.rp.cell
    clear h1 V0 m0
    clear K1
    go_wp2_with fail
    refine (PK.out _ V1.out.a.rp).mono ?_
    rintro e w2 ⟨rfl, h2⟩
    have V2 := Lib.hid (V1.out.call h2)
    have m2 := V2.out.a.rp.cell
    clear h2 V1 m1
    clear PK
    go_wp2_with fail
    refine (OP.out _ V2.out.a.rp).mono ?_
    rintro e w2b ⟨rfl, rfl⟩
    clear OP
    go_wp2_with fail
    refine (V9.out _ V2.out.a.rp).mono ?_
    rintro e w3 ⟨rfl, h3⟩
    have V3 := Lib.hid (V2.out.call h3)
    have m3 := V3.out.a.rp.cell
    clear h3 V2 m2
    obtain ⟨⟨y0, y1, y2, y3, y4, y5, y6, y7⟩, z0, z1, z2, z3, z4, z5, z6, z7⟩ := V3.out.cells
    go_wp2
    (try simp only [Exit.inBlock, Exit.then])
    have hend := V3.out.put8 ⟨14, dst, n1, 0, 0, 0, [], 0⟩ none 0
    refine bodyPost_ret (results_cell_row rfl _ _ w.heap.size 45 _ (0, 0) _ (by simp) hend.b Tryz.underlying45 rfl ins8_sizeQ) rfl ?_
    exact ⟨none, 0, rfl, hend.a⟩
  rw [if_neg h0, if_neg h0]
  have h0' : ¬ (op : Int) = 0 := by omega
  by_cases h1 : op = 1
  · rw [if_pos h1, if_pos h1]
    subst h1
    have I9 := Lib.hid (IM.out c.name)
    rw [show ((1 : Nat) : Int) = 1 from rfl] at OP
    clear VA IM h0 h0'
    generalize c.name.numN (-1099511627776) 1099511627776 = n1 at *
    generalize c.name.num (-1099511627776) 1099511627776 = d2 at *
    generalize c.name = d1 at *
    go_enter Tryz.func173, Tryz.ntmps173
    go_wp2_with fail
    refine (K1.out _ V0.out.a.rp).mono ?_
    rintro e w1 ⟨rfl, h1⟩
    have V1 := Lib.hid (V0.out.call h1)
    have m1 := V1.out.a.rp.cell
    clear h1 V0 m0
    clear K1
    go_wp2_with fail
    refine (PK.out _ V1.out.a.rp).mono ?_
    rintro e w2 ⟨rfl, h2⟩
    have V2 := Lib.hid (V1.out.call h2)
    have m2 := V2.out.a.rp.cell
    clear h2 V1 m1
    clear PK
    go_wp2_with fail
    refine (OP.out _ V2.out.a.rp).mono ?_
    rintro e w2b ⟨rfl, rfl⟩
    clear OP
    go_wp2_with fail
    refine (NM.out _ V2.out.a.rp).mono ?_
    rintro e w3 ⟨rfl, h3⟩
    have V3 := Lib.hid (V2.out.call h3)
    have m3 := V3.out.a.rp.cell
    clear h3 V2 m2
    clear NM
    go_wp2_with fail
    refine (I9.out _ V3.out.a.rp).mono ?_
    rintro e w4 ⟨rfl, h4⟩
    have V4 := Lib.hid (V3.out.call h4)
    have m4 := V4.out.a.rp.cell
    clear h4 V3 m3
    obtain ⟨⟨y0, y1, y2, y3, y4, y5, y6, y7⟩, z0, z1, z2, z3, z4, z5, z6, z7⟩ := V4.out.cells
    go_wp2
    (try simp only [Exit.inBlock, Exit.then])
    have hend := V4.out.put8 ⟨1, dst, 0, 0, n1, 0, [], 0⟩ none 0
    refine bodyPost_ret (results_cell_row rfl _ _ w.heap.size 45 _ (0, 0) _ (by simp) hend.b Tryz.underlying45 rfl ins8_sizeQ) rfl ?_
    exact ⟨none, 0, rfl, hend.a⟩
  rw [if_neg h1, if_neg h1]
  have h1' : ¬ (op : Int) = 1 := by omega
  by_cases h2 : op = 11
  · rw [if_pos h2, if_pos h2]
    subst h2
    have V9 := Lib.hid (VA.out c.name)
    have I9 := Lib.hid (IM.out c.name.vaC)
    rw [show ((11 : Nat) : Int) = 11 from rfl] at OP
    clear VA IM h0 h0' h1 h1'
    generalize c.name.vaC.numN (-1099511627776) 1099511627776 = n2 at *
    generalize c.name.vaC.num (-1099511627776) 1099511627776 = d3 at *
    generalize c.name.vaN = n1 at *
    generalize c.name.vaC = d2 at *
    generalize c.name = d1 at *
    go_enter Tryz.func173, Tryz.ntmps173
    go_wp2_with fail
    refine (K1.out _ V0.out.a.rp).mono ?_
    rintro e w1 ⟨rfl, h1⟩
    have V1 := Lib.hid (V0.out.call h1)
    have m1 := V1.out.a.rp.cell
    clear h1 V0 m0
    clear K1
    go_wp2_with fail
    refine (PK.out _ V1.out.a.rp).mono ?_
    rintro e w2 ⟨rfl, h2⟩
    have V2 := Lib.hid (V1.out.call h2)
    have m2 := V2.out.a.rp.cell
    clear h2 V1 m1
    clear PK
    go_wp2_with fail
    refine (OP.out _ V2.out.a.rp).mono ?_
    rintro e w2b ⟨rfl, rfl⟩
    clear OP
    go_wp2_with fail
    refine (NM.out _ V2.out.a.rp).mono ?_
    rintro e w3 ⟨rfl, h3⟩
    have V3 := Lib.hid (V2.out.call h3)
    have m3 := V3.out.a.rp.cell
    clear h3 V2 m2
    clear NM
    go_wp2_with fail
    refine (V9.out _ V3.out.a.rp).mono ?_
    rintro e w4 ⟨rfl, h4⟩
    have V4 := Lib.hid (V3.out.call h4)
    have m4 := V4.out.a.rp.cell
    clear h4 V3 m3
    go_wp2_with fail
    refine (I9.out _ V4.out.a.rp).mono ?_
    rintro e w5 ⟨rfl, h5⟩
    have V5 := Lib.hid (V4.out.call h5)
    have m5 := V5.out.a.rp.cell
    clear h5 V4 m4
    obtain ⟨⟨y0, y1, y2, y3, y4, y5, y6, y7⟩, z0, z1, z2, z3, z4, z5, z6, z7⟩ := V5.out.cells
    go_wp2
    (try simp only [Exit.inBlock, Exit.then])
    have hend := V5.out.put8 ⟨11, dst, n1, 0, n2, 0, [], 0⟩ none 0
    refine bodyPost_ret (results_cell_row rfl _ _ w.heap.size 45 _ (0, 0) _ (by simp) hend.b Tryz.underlying45 rfl ins8_sizeQ) rfl ?_
    exact ⟨none, 0, rfl, hend.a⟩
  rw [if_neg h2, if_neg h2]
  have h2' : ¬ (op : Int) = 11 := by omega
  have V9 := Lib.hid (VA.out c.name)
  have V8 := Lib.hid (VA.out c.name.vaC)
  clear VA IM h0 h1 h2
  generalize c.name.vaC.vaN = n2 at *
  generalize c.name.vaC.vaC = d3 at *
  generalize c.name.vaN = n1 at *
  generalize c.name.vaC = d2 at *
  generalize c.name = d1 at *
  generalize (op : Int) = oi at *
  go_enter Tryz.func173, Tryz.ntmps173
  go_wp2_with fail
  refine (K1.out _ V0.out.a.rp).mono ?_
  rintro e w1 ⟨rfl, h1⟩
  have V1 := Lib.hid (V0.out.call h1)
  have m1 := V1.out.a.rp.cell
  clear h1 V0 m0
  clear K1
  go_wp2_with fail
  refine (PK.out _ V1.out.a.rp).mono ?_
  rintro e w2 ⟨rfl, h2⟩
  have V2 := Lib.hid (V1.out.call h2)
  have m2 := V2.out.a.rp.cell
  clear h2 V1 m1
  clear PK
  go_wp2_with fail
  refine (OP.out _ V2.out.a.rp).mono ?_
  rintro e w2b ⟨rfl, rfl⟩
  clear OP
  go_wp2_with fail
  refine (NM.out _ V2.out.a.rp).mono ?_
  rintro e w3 ⟨rfl, h3⟩
  have V3 := Lib.hid (V2.out.call h3)
  have m3 := V3.out.a.rp.cell
  clear h3 V2 m2
  clear NM
  go_wp2_with fail
  refine (V9.out _ V3.out.a.rp).mono ?_
  rintro e w4 ⟨rfl, h4⟩
  have V4 := Lib.hid (V3.out.call h4)
  have m4 := V4.out.a.rp.cell
  clear h4 V3 m3
  go_wp2_with fail
  refine (V8.out _ V4.out.a.rp).mono ?_
  rintro e w5 ⟨rfl, h5⟩
  have V5 := Lib.hid (V4.out.call h5)
  have m5 := V5.out.a.rp.cell
  clear h5 V4 m4
  obtain ⟨⟨y0, y1, y2, y3, y4, y5, y6, y7⟩, z0, z1, z2, z3, z4, z5, z6, z7⟩ := V5.out.cells
  go_wp2
  (try simp only [Exit.inBlock, Exit.then])
  have hend := V5.out.put8 ⟨oi, dst, n1, n2, 0, 0, [], 0⟩ none 0
  refine bodyPost_ret (results_cell_row rfl _ _ w.heap.size 45 _ (0, 0) _ (by simp) hend.b Tryz.underlying45 rfl ins8_sizeQ) rfl ?_
  exact ⟨none, 0, rfl, hend.a⟩
end Go.Proofs.YthiipgahbmoiiaaGreatDoor
