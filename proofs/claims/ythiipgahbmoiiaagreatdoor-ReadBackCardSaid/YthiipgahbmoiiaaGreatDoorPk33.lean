/-
  Package read's ret, its part: an instruction, or an end, by the first word of its line (written by gen/rde.py). Conditions: the library's tables, its errors, and the Ops' names are there.
-/
import Derived.Test.YthiipgahbmoiiaaGreatDoorPk32
namespace Go.Proofs.YthiipgahbmoiiaaGreatDoor
open Go.RowKit

/-- What is behind a return's key. -/
def Cu.retC (c : Cu) : Cu := if c.ends then c else c.vaC
def Cu.retN (c : Cu) : Int := if c.ends then 0 else c.vaN
theorem Fit.retC {c : Cu} (h : Fit c) : Fit c.retC := by unfold Cu.retC; split; exact h; exact h.vaC
/-- An end that is being told: the result's box, its own, the first two behind the world w. -/
structure Tq (w0 w W : World) (q g : Nat) (c : Cu) (rs cs : Array Value) : Prop where
  go : Gone w0 w q g c W
  r : Blk W w.heap.size 50 rs
  b : Blk W (w.heap.size + 1) 50 cs
  le : w0.heap.size ≤ w.heap.size
section
variable {w0 w W W' : World} {q g : Nat} {c d : Cu} {rs cs : Array Value}
theorem Gone.below (h : Gone w0 w q g c W) (hb : Below W.heap.size W W') : Gone w0 w q g c W' := ⟨h.1.below hb, h.2.then_below hb⟩
theorem Gone.putT {p : Nat} {xs : Array Value} (h : Gone w0 w q g c W) (hb : Blk W p 50 xs) (hp : w.heap.size ≤ p) (hw : w0.heap.size ≤ w.heap.size) (i : Nat) (u : Value) : Gone w0 w q g c (W.setCell ⟨p, i, none⟩ u) :=
  ⟨⟨h.1.C.keep (Keep.put _ _ _ _ _) hb (by decide) (by decide), h.1.R.far (p := ⟨p, i, none⟩) (blk_ne h.1.R hb (by decide)) u, h.1.be.setCell (p := ⟨p, i, none⟩) (Nat.le_trans hw hp) u, h.1.hg, h.1.fit⟩,
    h.2.trans ⟨rfl, rfl, rfl, by simp [World.setCell], fun k hk _ => Below.heap_setCell W ⟨p, i, none⟩ u k (by show k ≠ p; omega)⟩⟩
theorem Tq.call (h : Tq w0 w W q g c rs cs) (hw : Gone w0 W q g d W') : Tq w0 w W' q g d rs cs := by
  obtain ⟨ds, hds⟩ := cur_blkQ h.go.1.C
  exact ⟨h.go.then hw, Blk.keep h.r hw.2 (blk_ne h.r hds (by decide)), Blk.keep h.b hw.2 (blk_ne h.b hds (by decide)), h.le⟩
theorem Tq.put (h : Tq w0 w W q g c rs cs) (j : Nat) (u : Value) : Tq w0 w (W.setCell ⟨w.heap.size + 1, j, none⟩ u) q g c rs (cs.setIfInBounds j u) :=
  ⟨h.go.putT h.b (Nat.le_succ _) h.le j u, h.r.far (p := ⟨w.heap.size + 1, j, none⟩) (by show w.heap.size ≠ w.heap.size + 1; omega) u, h.b.put j u, h.le⟩
theorem Tq.putR (h : Tq w0 w W q g c rs cs) (j : Nat) (u : Value) : Tq w0 w (W.setCell ⟨w.heap.size, j, none⟩ u) q g c (rs.setIfInBounds j u) cs :=
  ⟨h.go.putT h.r (Nat.le_refl _) h.le j u, h.r.put j u, h.b.far (p := ⟨w.heap.size, j, none⟩) (by show w.heap.size + 1 ≠ w.heap.size; omega) u, h.le⟩
theorem Tq.new (h : Rq w0 w q g c) (rs cs : Array Value) : Tq w0 w ((w.alloc (.cells rs 50)).alloc (.cells cs 50)) q g c rs cs :=
  ⟨(Gone.refl h).below (((Below.refl _ w).alloc (Nat.le_refl _) _).alloc (by simp) _), (Blk.new w _ _).alloc _, new_two w _ _ _, h.be.size⟩
end
theorem term4_sizeQ : (Tryz.prog.info? 50).map (·.size) = some 4 := by kernel_rfl
set_option maxRecDepth 100000 in
set_option maxHeartbeats 4000000 in
theorem retQ_any (w0 w : World) (q g : Nat) (c : Cu) (hT : TabQ w0) (h : Rq w0 w q g c) :
    Calls Tryz.prog 169 #[.pointer (some ⟨q, 0, none⟩)] w fun e w' => e = .returned (.agg #[.int .i64 3, .int .i64 c.retN, .int .i64 0, .int .i64 0]) ∧ Gone w0 w q g c.retC w' := by
  have V0 := Lib.hid (Tq.new h #[.int .i64 0, .int .i64 0, .int .i64 0, .int .i64 0] #[.int .i64 3, .int .i64 0, .int .i64 0, .int .i64 0])
  have m0 := V0.out.go.1.cell
  have EN : Hid (∀ W, Rq w0 W q g c → _) := fun W hr => ends_gone hr
  have VA : Hid (∀ W, Rq w0 W q g c → _) := fun W hr => vaQ_any w0 W q g c hT hr
  have HX : Hid (c.retN = (if c.ends then 0 else c.vaN) ∧ c.retC = (if c.ends then c else c.vaC)) := ⟨rfl, rfl⟩
  rw [HX.out.1, HX.out.2]
  clear h hT HX
  generalize c.vaN = n at *
  generalize c.vaC = d at *
  cases he : c.ends
  · rw [he] at EN
    clear he
    rw [if_neg (by decide), if_neg (by decide)]
    go_enter Tryz.func169, Tryz.ntmps169
    go_wp2_with fail
    refine (EN.out _ V0.out.go.1).mono ?_
    rintro e w1 ⟨rfl, h1⟩
    have V1 := Lib.hid (V0.out.call h1)
    have m1 := V1.out.go.1.cell
    clear h1 V0 EN m0
    go_wp2_with fail
    refine (VA.out _ V1.out.go.1).mono ?_
    rintro e w2 ⟨rfl, h2⟩
    have V2 := Lib.hid (V1.out.call h2)
    clear h2 V1 VA m1
    have x2 : w2.cell? ⟨w.heap.size + 1, 1, none⟩ = some (.int .i64 0) := V2.out.b.cell 1
    have f2 := V2.out.b.free 1
    have hb2 := V2.out.b.lt
    have V3 : Hid (Tq w0 w (w2.setCell ⟨w.heap.size + 1, 1, none⟩ (.int .i64 n)) q g d #[.int .i64 0, .int .i64 0, .int .i64 0, .int .i64 0] #[.int .i64 3, .int .i64 n, .int .i64 0, .int .i64 0]) := V2.out.put 1 _
    clear V2
    go_upto_region 4 with fail
    clear x2 f2 hb2
    generalize w2.setCell ⟨w.heap.size + 1, 1, none⟩ (.int .i64 n) = WE at *
    have u0 : WE.cell? ⟨w.heap.size + 1, 0, none⟩ = some (.int .i64 3) := V3.out.b.cell 0
    have y0 : WE.cell? ⟨w.heap.size, 0, none⟩ = some (.int .i64 0) := V3.out.r.cell 0
    have z0 := V3.out.r.free 0
    have u1 : WE.cell? ⟨w.heap.size + 1, 1, none⟩ = some (.int .i64 n) := V3.out.b.cell 1
    have y1 : WE.cell? ⟨w.heap.size, 1, none⟩ = some (.int .i64 0) := V3.out.r.cell 1
    have z1 := V3.out.r.free 1
    have u2 : WE.cell? ⟨w.heap.size + 1, 2, none⟩ = some (.int .i64 0) := V3.out.b.cell 2
    have y2 : WE.cell? ⟨w.heap.size, 2, none⟩ = some (.int .i64 0) := V3.out.r.cell 2
    have z2 := V3.out.r.free 2
    have u3 : WE.cell? ⟨w.heap.size + 1, 3, none⟩ = some (.int .i64 0) := V3.out.b.cell 3
    have y3 : WE.cell? ⟨w.heap.size, 3, none⟩ = some (.int .i64 0) := V3.out.r.cell 3
    have z3 := V3.out.r.free 3
    go_wp2
    (try simp only [Exit.inBlock, Exit.then])
    have HQ := (((V3.out.putR 0 (.int .i64 3)).putR 1 (.int .i64 n)).putR 2 (.int .i64 0)).putR 3 (.int .i64 0)
    refine bodyPost_ret (results_cell_row rfl _ _ w.heap.size 50 _ (0, 0) _ (by simp) HQ.r Tryz.underlying50 rfl term4_sizeQ) rfl ?_
    exact ⟨rfl, HQ.go⟩
  · rw [he] at EN
    clear he VA
    rw [if_pos rfl, if_pos rfl]
    go_enter Tryz.func169, Tryz.ntmps169
    go_wp2_with fail
    refine (EN.out _ V0.out.go.1).mono ?_
    rintro e WE ⟨rfl, h1⟩
    have V3 := Lib.hid (V0.out.call h1)
    clear h1 V0 EN m0
    have u0 : WE.cell? ⟨w.heap.size + 1, 0, none⟩ = some (.int .i64 3) := V3.out.b.cell 0
    have y0 : WE.cell? ⟨w.heap.size, 0, none⟩ = some (.int .i64 0) := V3.out.r.cell 0
    have z0 := V3.out.r.free 0
    have u1 : WE.cell? ⟨w.heap.size + 1, 1, none⟩ = some (.int .i64 0) := V3.out.b.cell 1
    have y1 : WE.cell? ⟨w.heap.size, 1, none⟩ = some (.int .i64 0) := V3.out.r.cell 1
    have z1 := V3.out.r.free 1
    have u2 : WE.cell? ⟨w.heap.size + 1, 2, none⟩ = some (.int .i64 0) := V3.out.b.cell 2
    have y2 : WE.cell? ⟨w.heap.size, 2, none⟩ = some (.int .i64 0) := V3.out.r.cell 2
    have z2 := V3.out.r.free 2
    have u3 : WE.cell? ⟨w.heap.size + 1, 3, none⟩ = some (.int .i64 0) := V3.out.b.cell 3
    have y3 : WE.cell? ⟨w.heap.size, 3, none⟩ = some (.int .i64 0) := V3.out.r.cell 3
    have z3 := V3.out.r.free 3
    go_wp2
    (try simp only [Exit.inBlock, Exit.then])
    have HQ := (((V3.out.putR 0 (.int .i64 3)).putR 1 (.int .i64 0)).putR 2 (.int .i64 0)).putR 3 (.int .i64 0)
    refine bodyPost_ret (results_cell_row rfl _ _ w.heap.size 50 _ (0, 0) _ (by simp) HQ.r Tryz.underlying50 rfl term4_sizeQ) rfl ?_
    exact ⟨rfl, HQ.go⟩
theorem Ak.behind {w0 w W W' : World} {q g : Nat} {c d : Cu} {v : Value} {l : List Int} (h : Gone w0 w q g c W) (hw : w0.heap.size ≤ w.heap.size) (hA : Ak w0 W W' q g d v l) : Ak w0 w W' q g d v l :=
  ⟨hA.rp, own_baseQ hA.row h.2.size, h.2.then_keep hA.k, hw⟩
theorem Ak.gone {w0 w W : World} {q g : Nat} {c : Cu} (h : Gone w0 w q g c W) (hw : w0.heap.size ≤ w.heap.size) : Ak w0 w W q g c (.slice none 0 0) [] := ⟨h.1, World.ownsRow_nil _ _ _ _, h.2, hw⟩
theorem mark_gone {w0 w : World} {q g : Nat} {c : Cu} (h : Rq w0 w q g c) : Calls Tryz.prog 172 #[.pointer (some ⟨g, 0, none⟩), .slice (some ⟨w.heap.size, 0, none⟩) 1 1] (w.alloc (.cells #[.string ⟨#[226, 134, 144]⟩] 9)) fun e w' => e = .returned (.tuple #[]) ∧ Gone w0 w q g (c.mark [⟨#[226, 134, 144]⟩]) w' := by
  have hb : Below w.heap.size w (w.alloc (.cells #[.string ⟨#[226, 134, 144]⟩] 9)) := (Below.refl _ _).alloc (Nat.le_refl _) _
  have h1 := h.below hb
  exact (markC_any g c [⟨#[226, 134, 144]⟩] w.heap.size 1 _ h1.C ⟨_, Blk.new w _ _, fun k s hs => by
    rcases k with _ | k
    · simpa using hs
    · simp at hs⟩ (by simp)).mono fun e w' ⟨g1, g2, g3⟩ => ⟨g1, h1.call g2 g3 (h.fit.mark _), (Keep.of_below hb g).then_keep g3⟩
/-- What a line tells, as a value. -/
def partVQ (a : Option Addr) (k : Nat) : Ii ⊕ Tt → Value
  | .inl x => .iface 45 (.agg (insC x a k))
  | .inr t => .iface 50 (termV t)
def argsP : Ii ⊕ Tt → List Int
  | .inl x => x.args
  | .inr _ => []
def PartQ (w0 w w' : World) (q g : Nat) (d : Cu) (p : Ii ⊕ Tt) (e : Ending) : Prop := ∃ (a : Option Addr) (k : Nat), e = .returned (partVQ a k p) ∧ Ak w0 w w' q g d (.slice a (argsP p).length k) (argsP p)
theorem part_gone {w0 w w' : World} {q g : Nat} {d : Cu} {p : Ii ⊕ Tt} {e : Ending} (hp : argsP p = []) (hw : w0.heap.size ≤ w.heap.size) (he : e = .returned (partVQ none 0 p)) (h : Gone w0 w q g d w') : PartQ w0 w w' q g d p e := by
  refine ⟨none, 0, he, ?_⟩
  rw [hp]
  exact Ak.gone h hw
set_option maxRecDepth 100000 in
set_option maxHeartbeats 8000000 in
theorem partQ_store (w0 w : World) (q g : Nat) (c : Cu) (hT : TabQ w0) (h : Rq w0 w q g c) (kk : c.keyB ⟨#[115, 116, 111, 114, 101]⟩ = true) :
    Calls Tryz.prog 129 #[.pointer (some ⟨q, 0, none⟩)] w fun e w' => PartQ w0 w w' q g (Cu.vaC (Cu.num (Cu.vaC (Cu.key c ⟨#[115, 116, 111, 114, 101]⟩)) (-1099511627776) 1099511627776)) (.inl ⟨12, 0, (Cu.vaN (Cu.key c ⟨#[115, 116, 111, 114, 101]⟩)), (Cu.vaN (Cu.num (Cu.vaC (Cu.key c ⟨#[115, 116, 111, 114, 101]⟩)) (-1099511627776) 1099511627776)), (Cu.numN (Cu.vaC (Cu.key c ⟨#[115, 116, 111, 114, 101]⟩)) (-1099511627776) 1099511627776), 0, [], 0⟩) e := by
  have W0 := Lib.hid (Gone.refl h)
  have m0 := h.cell
  have HW : Hid (w0.heap.size ≤ w.heap.size) := h.be.size
  have S1 : Hid (∀ W, Rq w0 W q g c → _) := fun W hr => key_gone hr kk
  have S2 : Hid (∀ W, Rq w0 W q g (Cu.key c ⟨#[115, 116, 111, 114, 101]⟩) → _) := fun W hr => vaQ_any w0 W q g (Cu.key c ⟨#[115, 116, 111, 114, 101]⟩) hT hr
  have S3 : Hid (∀ W, Rq w0 W q g (Cu.vaC (Cu.key c ⟨#[115, 116, 111, 114, 101]⟩)) → _) := fun W hr => immQ_any w0 W q g (Cu.vaC (Cu.key c ⟨#[115, 116, 111, 114, 101]⟩)) hr
  have S4 : Hid (∀ W, Rq w0 W q g (Cu.num (Cu.vaC (Cu.key c ⟨#[115, 116, 111, 114, 101]⟩)) (-1099511627776) 1099511627776) → _) := fun W hr => vaQ_any w0 W q g (Cu.num (Cu.vaC (Cu.key c ⟨#[115, 116, 111, 114, 101]⟩)) (-1099511627776) 1099511627776) hT hr
  clear h kk hT
  generalize (Cu.vaN (Cu.num (Cu.vaC (Cu.key c ⟨#[115, 116, 111, 114, 101]⟩)) (-1099511627776) 1099511627776)) = n4 at *
  generalize (Cu.vaC (Cu.num (Cu.vaC (Cu.key c ⟨#[115, 116, 111, 114, 101]⟩)) (-1099511627776) 1099511627776)) = d4 at *
  generalize (Cu.numN (Cu.vaC (Cu.key c ⟨#[115, 116, 111, 114, 101]⟩)) (-1099511627776) 1099511627776) = n3 at *
  generalize (Cu.num (Cu.vaC (Cu.key c ⟨#[115, 116, 111, 114, 101]⟩)) (-1099511627776) 1099511627776) = d3 at *
  generalize (Cu.vaN (Cu.key c ⟨#[115, 116, 111, 114, 101]⟩)) = n2 at *
  generalize (Cu.vaC (Cu.key c ⟨#[115, 116, 111, 114, 101]⟩)) = d2 at *
  generalize (Cu.key c ⟨#[115, 116, 111, 114, 101]⟩) = d1 at *
  go_enter Tryz.func129, Tryz.ntmps129
  go_wp2_with fail
  refine (S1.out _ W0.out.1).mono ?_
  rintro e w1 ⟨rfl, h1⟩
  have W1 := Lib.hid (W0.out.then h1)
  have m1 := h1.1.cell
  clear h1 m0 S1 W0
  go_wp2_with fail
  refine (S2.out _ W1.out.1).mono ?_
  rintro e w2 ⟨rfl, h2⟩
  have W2 := Lib.hid (W1.out.then h2)
  have m2 := h2.1.cell
  clear h2 m1 S2 W1
  go_wp2_with fail
  refine (S3.out _ W2.out.1).mono ?_
  rintro e w3 ⟨rfl, h3⟩
  have W3 := Lib.hid (W2.out.then h3)
  have m3 := h3.1.cell
  clear h3 m2 S3 W2
  go_wp2_with fail
  refine (S4.out _ W3.out.1).mono ?_
  rintro e w4 ⟨rfl, h4⟩
  have W4 := Lib.hid (W3.out.then h4)
  have m4 := h4.1.cell
  clear h4 m3 S4 W3
  go_wp2
  go_ret
  exact part_gone rfl HW.out rfl W4.out
set_option maxRecDepth 100000 in
set_option maxHeartbeats 8000000 in
theorem partQ_call (w0 w : World) (q g : Nat) (c : Cu) (hT : TabQ w0) (h : Rq w0 w q g c) (k0 : c.keyB ⟨#[115, 116, 111, 114, 101]⟩ = false) (kk : c.keyB ⟨#[99, 97, 108, 108]⟩ = true) :
    Calls Tryz.prog 129 #[.pointer (some ⟨q, 0, none⟩)] w fun e w' => PartQ w0 w w' q g (Cu.callC (Cu.key c ⟨#[99, 97, 108, 108]⟩)) (.inl (Cu.callI (Cu.key c ⟨#[99, 97, 108, 108]⟩) 0)) e := by
  have W0 := Lib.hid (Gone.refl h)
  have m0 := h.cell
  have HW : Hid (w0.heap.size ≤ w.heap.size) := h.be.size
  have M0 : Hid (∀ W, Rq w0 W q g c → _) := fun W hr => key_missQ hr k0
  have S1 : Hid (∀ W, Rq w0 W q g c → _) := fun W hr => key_gone hr kk
  have S2 : Hid (∀ W, Rq w0 W q g (Cu.key c ⟨#[99, 97, 108, 108]⟩) → _) := fun W hr => callQ_any w0 W q g (Cu.key c ⟨#[99, 97, 108, 108]⟩) 0 hT hr
  clear h k0 kk hT
  unfold ToldQ at S2
  generalize (Cu.callI (Cu.key c ⟨#[99, 97, 108, 108]⟩) 0) = x at *
  generalize (Cu.callC (Cu.key c ⟨#[99, 97, 108, 108]⟩)) = d2 at *
  generalize (Cu.key c ⟨#[99, 97, 108, 108]⟩) = d1 at *
  go_enter Tryz.func129, Tryz.ntmps129
  go_wp2_with fail
  refine (M0.out _ W0.out.1).mono ?_
  rintro e w1 ⟨rfl, h1⟩
  have W1 := Lib.hid (W0.out.then h1)
  have m1 := h1.1.cell
  clear h1 m0 M0 W0
  go_wp2_with fail
  refine (S1.out _ W1.out.1).mono ?_
  rintro e w2 ⟨rfl, h2⟩
  have W2 := Lib.hid (W1.out.then h2)
  have m2 := h2.1.cell
  clear h2 m1 S1 W1
  go_wp2_with fail
  refine (S2.out _ W2.out.1).mono ?_
  rintro e w3 ⟨a, k, rfl, hA⟩
  have A := Lib.hid (Ak.behind W2.out HW.out hA)
  clear hA m2 S2 W2
  go_wp2
  go_ret
  exact ⟨a, k, rfl, A.out⟩
set_option maxRecDepth 100000 in
set_option maxHeartbeats 8000000 in
theorem partQ_return (w0 w : World) (q g : Nat) (c : Cu) (hT : TabQ w0) (h : Rq w0 w q g c) (k0 : c.keyB ⟨#[115, 116, 111, 114, 101]⟩ = false) (k1 : c.keyB ⟨#[99, 97, 108, 108]⟩ = false) (kk : c.keyB ⟨#[114, 101, 116, 117, 114, 110]⟩ = true) :
    Calls Tryz.prog 129 #[.pointer (some ⟨q, 0, none⟩)] w fun e w' => PartQ w0 w w' q g (Cu.retC (Cu.key c ⟨#[114, 101, 116, 117, 114, 110]⟩)) (.inr ⟨3, (Cu.retN (Cu.key c ⟨#[114, 101, 116, 117, 114, 110]⟩)), 0, 0⟩) e := by
  have W0 := Lib.hid (Gone.refl h)
  have m0 := h.cell
  have HW : Hid (w0.heap.size ≤ w.heap.size) := h.be.size
  have M0 : Hid (∀ W, Rq w0 W q g c → _) := fun W hr => key_missQ hr k0
  have M1 : Hid (∀ W, Rq w0 W q g c → _) := fun W hr => key_missQ hr k1
  have S1 : Hid (∀ W, Rq w0 W q g c → _) := fun W hr => key_gone hr kk
  have S2 : Hid (∀ W, Rq w0 W q g (Cu.key c ⟨#[114, 101, 116, 117, 114, 110]⟩) → _) := fun W hr => retQ_any w0 W q g (Cu.key c ⟨#[114, 101, 116, 117, 114, 110]⟩) hT hr
  clear h k0 k1 kk hT
  generalize (Cu.retN (Cu.key c ⟨#[114, 101, 116, 117, 114, 110]⟩)) = n2 at *
  generalize (Cu.retC (Cu.key c ⟨#[114, 101, 116, 117, 114, 110]⟩)) = d2 at *
  generalize (Cu.key c ⟨#[114, 101, 116, 117, 114, 110]⟩) = d1 at *
  go_enter Tryz.func129, Tryz.ntmps129
  go_wp2_with fail
  refine (M0.out _ W0.out.1).mono ?_
  rintro e w1 ⟨rfl, h1⟩
  have W1 := Lib.hid (W0.out.then h1)
  have m1 := h1.1.cell
  clear h1 m0 M0 W0
  go_wp2_with fail
  refine (M1.out _ W1.out.1).mono ?_
  rintro e w2 ⟨rfl, h2⟩
  have W2 := Lib.hid (W1.out.then h2)
  have m2 := h2.1.cell
  clear h2 m1 M1 W1
  go_wp2_with fail
  refine (S1.out _ W2.out.1).mono ?_
  rintro e w3 ⟨rfl, h3⟩
  have W3 := Lib.hid (W2.out.then h3)
  have m3 := h3.1.cell
  clear h3 m2 S1 W2
  go_wp2_with fail
  refine (S2.out _ W3.out.1).mono ?_
  rintro e w4 ⟨rfl, h4⟩
  have W4 := Lib.hid (W3.out.then h4)
  have m4 := h4.1.cell
  clear h4 m3 S2 W3
  go_wp2
  go_ret
  exact part_gone rfl HW.out rfl W4.out
set_option maxRecDepth 100000 in
set_option maxHeartbeats 8000000 in
theorem partQ_trap (w0 w : World) (q g : Nat) (c : Cu) (h : Rq w0 w q g c) (k0 : c.keyB ⟨#[115, 116, 111, 114, 101]⟩ = false) (k1 : c.keyB ⟨#[99, 97, 108, 108]⟩ = false) (k2 : c.keyB ⟨#[114, 101, 116, 117, 114, 110]⟩ = false) (kk : c.keyB ⟨#[116, 114, 97, 112]⟩ = true) :
    Calls Tryz.prog 129 #[.pointer (some ⟨q, 0, none⟩)] w fun e w' => PartQ w0 w w' q g (Cu.key c ⟨#[116, 114, 97, 112]⟩) (.inr ⟨4, 0, 0, 0⟩) e := by
  have W0 := Lib.hid (Gone.refl h)
  have m0 := h.cell
  have HW : Hid (w0.heap.size ≤ w.heap.size) := h.be.size
  have M0 : Hid (∀ W, Rq w0 W q g c → _) := fun W hr => key_missQ hr k0
  have M1 : Hid (∀ W, Rq w0 W q g c → _) := fun W hr => key_missQ hr k1
  have M2 : Hid (∀ W, Rq w0 W q g c → _) := fun W hr => key_missQ hr k2
  have S1 : Hid (∀ W, Rq w0 W q g c → _) := fun W hr => key_gone hr kk
  clear h k0 k1 k2 kk
  generalize (Cu.key c ⟨#[116, 114, 97, 112]⟩) = d1 at *
  go_enter Tryz.func129, Tryz.ntmps129
  go_wp2_with fail
  refine (M0.out _ W0.out.1).mono ?_
  rintro e w1 ⟨rfl, h1⟩
  have W1 := Lib.hid (W0.out.then h1)
  have m1 := h1.1.cell
  clear h1 m0 M0 W0
  go_wp2_with fail
  refine (M1.out _ W1.out.1).mono ?_
  rintro e w2 ⟨rfl, h2⟩
  have W2 := Lib.hid (W1.out.then h2)
  have m2 := h2.1.cell
  clear h2 m1 M1 W1
  go_wp2_with fail
  refine (M2.out _ W2.out.1).mono ?_
  rintro e w3 ⟨rfl, h3⟩
  have W3 := Lib.hid (W2.out.then h3)
  have m3 := h3.1.cell
  clear h3 m2 M2 W2
  go_wp2_with fail
  refine (S1.out _ W3.out.1).mono ?_
  rintro e w4 ⟨rfl, h4⟩
  have W4 := Lib.hid (W3.out.then h4)
  have m4 := h4.1.cell
  clear h4 m3 S1 W3
  go_wp2
  go_ret
  exact part_gone rfl HW.out rfl W4.out
set_option maxRecDepth 100000 in
set_option maxHeartbeats 8000000 in
theorem partQ_jump (w0 w : World) (q g : Nat) (c : Cu) (h : Rq w0 w q g c) (k0 : c.keyB ⟨#[115, 116, 111, 114, 101]⟩ = false) (k1 : c.keyB ⟨#[99, 97, 108, 108]⟩ = false) (k2 : c.keyB ⟨#[114, 101, 116, 117, 114, 110]⟩ = false) (k3 : c.keyB ⟨#[116, 114, 97, 112]⟩ = false) (kk : c.isB ⟨#[226, 134, 146]⟩ = true) :
    Calls Tryz.prog 129 #[.pointer (some ⟨q, 0, none⟩)] w fun e w' => PartQ w0 w w' q g (Cu.num (Cu.is c ⟨#[226, 134, 146]⟩) 0 63) (.inr ⟨1, 0, (Cu.numN (Cu.is c ⟨#[226, 134, 146]⟩) 0 63), 0⟩) e := by
  have W0 := Lib.hid (Gone.refl h)
  have m0 := h.cell
  have HW : Hid (w0.heap.size ≤ w.heap.size) := h.be.size
  have M0 : Hid (∀ W, Rq w0 W q g c → _) := fun W hr => key_missQ hr k0
  have M1 : Hid (∀ W, Rq w0 W q g c → _) := fun W hr => key_missQ hr k1
  have M2 : Hid (∀ W, Rq w0 W q g c → _) := fun W hr => key_missQ hr k2
  have M3 : Hid (∀ W, Rq w0 W q g c → _) := fun W hr => key_missQ hr k3
  have S1 : Hid (∀ W, Rq w0 W q g c → _) := fun W hr => is_gone hr kk
  have S2 : Hid (∀ W, Rq w0 W q g (Cu.is c ⟨#[226, 134, 146]⟩) → _) := fun W hr => toQ_any w0 W q g (Cu.is c ⟨#[226, 134, 146]⟩) hr
  clear h k0 k1 k2 k3 kk
  generalize (Cu.numN (Cu.is c ⟨#[226, 134, 146]⟩) 0 63) = n2 at *
  generalize (Cu.num (Cu.is c ⟨#[226, 134, 146]⟩) 0 63) = d2 at *
  generalize (Cu.is c ⟨#[226, 134, 146]⟩) = d1 at *
  go_enter Tryz.func129, Tryz.ntmps129
  go_wp2_with fail
  refine (M0.out _ W0.out.1).mono ?_
  rintro e w1 ⟨rfl, h1⟩
  have W1 := Lib.hid (W0.out.then h1)
  have m1 := h1.1.cell
  clear h1 m0 M0 W0
  go_wp2_with fail
  refine (M1.out _ W1.out.1).mono ?_
  rintro e w2 ⟨rfl, h2⟩
  have W2 := Lib.hid (W1.out.then h2)
  have m2 := h2.1.cell
  clear h2 m1 M1 W1
  go_wp2_with fail
  refine (M2.out _ W2.out.1).mono ?_
  rintro e w3 ⟨rfl, h3⟩
  have W3 := Lib.hid (W2.out.then h3)
  have m3 := h3.1.cell
  clear h3 m2 M2 W2
  go_wp2_with fail
  refine (M3.out _ W3.out.1).mono ?_
  rintro e w4 ⟨rfl, h4⟩
  have W4 := Lib.hid (W3.out.then h4)
  have m4 := h4.1.cell
  clear h4 m3 M3 W3
  go_wp2_with fail
  refine (S1.out _ W4.out.1).mono ?_
  rintro e w5 ⟨rfl, h5⟩
  have W5 := Lib.hid (W4.out.then h5)
  have m5 := h5.1.cell
  clear h5 m4 S1 W4
  go_wp2_with fail
  refine (S2.out _ W5.out.1).mono ?_
  rintro e w6 ⟨rfl, h6⟩
  have W6 := Lib.hid (W5.out.then h6)
  have m6 := h6.1.cell
  clear h6 m5 S2 W5
  go_wp2
  go_ret
  exact part_gone rfl HW.out rfl W6.out
set_option maxRecDepth 100000 in
set_option maxHeartbeats 8000000 in
theorem partQ_branch (w0 w : World) (q g : Nat) (c : Cu) (hT : TabQ w0) (h : Rq w0 w q g c) (k0 : c.keyB ⟨#[115, 116, 111, 114, 101]⟩ = false) (k1 : c.keyB ⟨#[99, 97, 108, 108]⟩ = false) (k2 : c.keyB ⟨#[114, 101, 116, 117, 114, 110]⟩ = false) (k3 : c.keyB ⟨#[116, 114, 97, 112]⟩ = false) (k4 : c.isB ⟨#[226, 134, 146]⟩ = false) (kk : (Cu.vaC c).isB ⟨#[226, 134, 146]⟩ = true) :
    Calls Tryz.prog 129 #[.pointer (some ⟨q, 0, none⟩)] w fun e w' => PartQ w0 w w' q g (Cu.num (Cu.num (Cu.is (Cu.vaC c) ⟨#[226, 134, 146]⟩) 0 63) 0 63) (.inr ⟨2, (Cu.vaN c), (Cu.numN (Cu.is (Cu.vaC c) ⟨#[226, 134, 146]⟩) 0 63), (Cu.numN (Cu.num (Cu.is (Cu.vaC c) ⟨#[226, 134, 146]⟩) 0 63) 0 63)⟩) e := by
  have W0 := Lib.hid (Gone.refl h)
  have m0 := h.cell
  have HW : Hid (w0.heap.size ≤ w.heap.size) := h.be.size
  have M0 : Hid (∀ W, Rq w0 W q g c → _) := fun W hr => key_missQ hr k0
  have M1 : Hid (∀ W, Rq w0 W q g c → _) := fun W hr => key_missQ hr k1
  have M2 : Hid (∀ W, Rq w0 W q g c → _) := fun W hr => key_missQ hr k2
  have M3 : Hid (∀ W, Rq w0 W q g c → _) := fun W hr => key_missQ hr k3
  have M4 : Hid (∀ W, Rq w0 W q g c → _) := fun W hr => is_missQ hr k4
  have S1 : Hid (∀ W, Rq w0 W q g c → _) := fun W hr => vaQ_any w0 W q g c hT hr
  have S2 : Hid (∀ W, Rq w0 W q g (Cu.vaC c) → _) := fun W hr => is_gone hr kk
  have S3 : Hid (∀ W, Rq w0 W q g (Cu.is (Cu.vaC c) ⟨#[226, 134, 146]⟩) → _) := fun W hr => toQ_any w0 W q g (Cu.is (Cu.vaC c) ⟨#[226, 134, 146]⟩) hr
  have S4 : Hid (∀ W, Rq w0 W q g (Cu.num (Cu.is (Cu.vaC c) ⟨#[226, 134, 146]⟩) 0 63) → _) := fun W hr => toQ_any w0 W q g (Cu.num (Cu.is (Cu.vaC c) ⟨#[226, 134, 146]⟩) 0 63) hr
  clear h k0 k1 k2 k3 k4 kk hT
  generalize (Cu.numN (Cu.num (Cu.is (Cu.vaC c) ⟨#[226, 134, 146]⟩) 0 63) 0 63) = n4 at *
  generalize (Cu.num (Cu.num (Cu.is (Cu.vaC c) ⟨#[226, 134, 146]⟩) 0 63) 0 63) = d4 at *
  generalize (Cu.numN (Cu.is (Cu.vaC c) ⟨#[226, 134, 146]⟩) 0 63) = n3 at *
  generalize (Cu.num (Cu.is (Cu.vaC c) ⟨#[226, 134, 146]⟩) 0 63) = d3 at *
  generalize (Cu.is (Cu.vaC c) ⟨#[226, 134, 146]⟩) = d2 at *
  generalize (Cu.vaN c) = n1 at *
  generalize (Cu.vaC c) = d1 at *
  go_enter Tryz.func129, Tryz.ntmps129
  go_wp2_with fail
  refine (M0.out _ W0.out.1).mono ?_
  rintro e w1 ⟨rfl, h1⟩
  have W1 := Lib.hid (W0.out.then h1)
  have m1 := h1.1.cell
  clear h1 m0 M0 W0
  go_wp2_with fail
  refine (M1.out _ W1.out.1).mono ?_
  rintro e w2 ⟨rfl, h2⟩
  have W2 := Lib.hid (W1.out.then h2)
  have m2 := h2.1.cell
  clear h2 m1 M1 W1
  go_wp2_with fail
  refine (M2.out _ W2.out.1).mono ?_
  rintro e w3 ⟨rfl, h3⟩
  have W3 := Lib.hid (W2.out.then h3)
  have m3 := h3.1.cell
  clear h3 m2 M2 W2
  go_wp2_with fail
  refine (M3.out _ W3.out.1).mono ?_
  rintro e w4 ⟨rfl, h4⟩
  have W4 := Lib.hid (W3.out.then h4)
  have m4 := h4.1.cell
  clear h4 m3 M3 W3
  go_wp2_with fail
  refine (M4.out _ W4.out.1).mono ?_
  rintro e w5 ⟨rfl, h5⟩
  have W5 := Lib.hid (W4.out.then h5)
  have m5 := h5.1.cell
  clear h5 m4 M4 W4
  go_wp2_with fail
  refine (S1.out _ W5.out.1).mono ?_
  rintro e w6 ⟨rfl, h6⟩
  have W6 := Lib.hid (W5.out.then h6)
  have m6 := h6.1.cell
  clear h6 m5 S1 W5
  go_wp2_with fail
  refine (S2.out _ W6.out.1).mono ?_
  rintro e w7 ⟨rfl, h7⟩
  have W7 := Lib.hid (W6.out.then h7)
  have m7 := h7.1.cell
  clear h7 m6 S2 W6
  go_wp2_with fail
  refine (S3.out _ W7.out.1).mono ?_
  rintro e w8 ⟨rfl, h8⟩
  have W8 := Lib.hid (W7.out.then h8)
  have m8 := h8.1.cell
  clear h8 m7 S3 W7
  go_wp2_with fail
  refine (S4.out _ W8.out.1).mono ?_
  rintro e w9 ⟨rfl, h9⟩
  have W9 := Lib.hid (W8.out.then h9)
  have m9 := h9.1.cell
  clear h9 m8 S4 W8
  go_wp2
  go_ret
  exact part_gone rfl HW.out rfl W9.out
set_option maxRecDepth 100000 in
set_option maxHeartbeats 8000000 in
theorem partQ_value (w0 w : World) (q g : Nat) (c : Cu) (hT : TabQ w0) (h : Rq w0 w q g c) (k0 : c.keyB ⟨#[115, 116, 111, 114, 101]⟩ = false) (k1 : c.keyB ⟨#[99, 97, 108, 108]⟩ = false) (k2 : c.keyB ⟨#[114, 101, 116, 117, 114, 110]⟩ = false) (k3 : c.keyB ⟨#[116, 114, 97, 112]⟩ = false) (k4 : c.isB ⟨#[226, 134, 146]⟩ = false) (kk : (Cu.vaC c).isB ⟨#[226, 134, 146]⟩ = false) :
    Calls Tryz.prog 129 #[.pointer (some ⟨q, 0, none⟩)] w fun e w' => PartQ w0 w w' q g (Cu.valQC (Cu.mark (Cu.vaC c) [⟨#[226, 134, 144]⟩])) (.inl (Cu.valQ (Cu.mark (Cu.vaC c) [⟨#[226, 134, 144]⟩]) (Cu.vaN c))) e := by
  have W0 := Lib.hid (Gone.refl h)
  have m0 := h.cell
  have HW : Hid (w0.heap.size ≤ w.heap.size) := h.be.size
  have M0 : Hid (∀ W, Rq w0 W q g c → _) := fun W hr => key_missQ hr k0
  have M1 : Hid (∀ W, Rq w0 W q g c → _) := fun W hr => key_missQ hr k1
  have M2 : Hid (∀ W, Rq w0 W q g c → _) := fun W hr => key_missQ hr k2
  have M3 : Hid (∀ W, Rq w0 W q g c → _) := fun W hr => key_missQ hr k3
  have M4 : Hid (∀ W, Rq w0 W q g c → _) := fun W hr => is_missQ hr k4
  have S1 : Hid (∀ W, Rq w0 W q g c → _) := fun W hr => vaQ_any w0 W q g c hT hr
  have S2 : Hid (∀ W, Rq w0 W q g (Cu.vaC c) → _) := fun W hr => is_missQ hr kk
  have S3 : Hid (∀ W, Rq w0 W q g (Cu.vaC c) → _) := fun W hr => mark_gone hr
  have S4 : Hid (∀ W, Rq w0 W q g (Cu.mark (Cu.vaC c) [⟨#[226, 134, 144]⟩]) → _) := fun W hr => valueQ_any w0 W q g (Cu.mark (Cu.vaC c) [⟨#[226, 134, 144]⟩]) (Cu.vaN c) hT hr
  clear h k0 k1 k2 k3 k4 kk hT
  unfold ToldQ at S4
  generalize (Cu.valQ (Cu.mark (Cu.vaC c) [⟨#[226, 134, 144]⟩]) (Cu.vaN c)) = x at *
  generalize (Cu.valQC (Cu.mark (Cu.vaC c) [⟨#[226, 134, 144]⟩])) = d4 at *
  generalize (Cu.mark (Cu.vaC c) [⟨#[226, 134, 144]⟩]) = d3 at *
  generalize (Cu.vaN c) = n1 at *
  generalize (Cu.vaC c) = d1 at *
  go_enter Tryz.func129, Tryz.ntmps129
  go_wp2_with fail
  refine (M0.out _ W0.out.1).mono ?_
  rintro e w1 ⟨rfl, h1⟩
  have W1 := Lib.hid (W0.out.then h1)
  have m1 := h1.1.cell
  clear h1 m0 M0 W0
  go_wp2_with fail
  refine (M1.out _ W1.out.1).mono ?_
  rintro e w2 ⟨rfl, h2⟩
  have W2 := Lib.hid (W1.out.then h2)
  have m2 := h2.1.cell
  clear h2 m1 M1 W1
  go_wp2_with fail
  refine (M2.out _ W2.out.1).mono ?_
  rintro e w3 ⟨rfl, h3⟩
  have W3 := Lib.hid (W2.out.then h3)
  have m3 := h3.1.cell
  clear h3 m2 M2 W2
  go_wp2_with fail
  refine (M3.out _ W3.out.1).mono ?_
  rintro e w4 ⟨rfl, h4⟩
  have W4 := Lib.hid (W3.out.then h4)
  have m4 := h4.1.cell
  clear h4 m3 M3 W3
  go_wp2_with fail
  refine (M4.out _ W4.out.1).mono ?_
  rintro e w5 ⟨rfl, h5⟩
  have W5 := Lib.hid (W4.out.then h5)
  have m5 := h5.1.cell
  clear h5 m4 M4 W4
  go_wp2_with fail
  refine (S1.out _ W5.out.1).mono ?_
  rintro e w6 ⟨rfl, h6⟩
  have W6 := Lib.hid (W5.out.then h6)
  have m6 := h6.1.cell
  clear h6 m5 S1 W5
  go_wp2_with fail
  refine (S2.out _ W6.out.1).mono ?_
  rintro e w7 ⟨rfl, h7⟩
  have W7 := Lib.hid (W6.out.then h7)
  have m7 := h7.1.cell
  clear h7 m6 S2 W6
  go_wp2_with fail
  refine (S3.out _ W7.out.1).mono ?_
  rintro e w8 ⟨rfl, h8⟩
  have W8 := Lib.hid (W7.out.then h8)
  have m8 := h8.1.cell
  clear h8 m7 S3 W7
  go_wp2_with fail
  refine (S4.out _ W8.out.1).mono ?_
  rintro e w9 ⟨a, k, rfl, hA⟩
  have A := Lib.hid (Ak.behind W8.out HW.out hA)
  clear hA m8 S4 W8
  go_wp2
  go_ret
  exact ⟨a, k, rfl, A.out⟩
end Go.Proofs.YthiipgahbmoiiaaGreatDoor
