/-
  Package read's block: the walk (written by gen/rdg.py). Conditions: the library's tables, its errors, and the Ops' names are there.
-/
import Derived.Test.YthiipgahbmoiiaaGreatDoorPk34
namespace Go.Proofs.YthiipgahbmoiiaaGreatDoor
open Go.RowKit

theorem as_insQ (x : Ii) (a : Option Addr) (c : Nat) (W : World) : (Instr.typeAssert (.iface 45 (.agg (insC x a c))) 20 45 true).run Tryz.prog W = .ok (.tuple #[.agg (insC x a c), .bool true]) W := by kernel_rfl
theorem as_ins_termQ (v : Value) (W : World) : (Instr.typeAssert (.iface 50 v) 20 45 true).run Tryz.prog W = .ok (.tuple #[.agg #[.int .i64 0, .int .i64 0, .int .i64 0, .int .i64 0, .int .i64 0, .int .i64 0, .slice none 0 0, .int .i64 0], .bool false]) W := by kernel_rfl
theorem as_termQ (t : Tt) (W : World) : (Instr.typeAssert (.iface 50 (termV t)) 20 50 false).run Tryz.prog W = .ok (termV t) W := by kernel_rfl
/-- An instruction, and its arguments' row. -/
abbrev WI := Ii × Option Addr × Nat
def wiC (e : WI) : List Value := [.int .i64 e.1.op, .int .i64 e.1.dst, .int .i64 e.1.a, .int .i64 e.1.b, .int .i64 e.1.imm, .int .i64 e.1.callee, .slice e.2.1 e.1.args.length e.2.2, .int .i64 e.1.many]
theorem wi_len (e : WI) : (wiC e).length = 8 := rfl
theorem wi_one (e : WI) : ∀ u ∈ wiC e, u.oneCell' = true := fun u hu => by
  simp only [wiC, List.mem_cons, List.not_mem_nil, or_false] at hu
  rcases hu with rfl | rfl | rfl | rfl | rfl | rfl | rfl | rfl <;> rfl
def OwnA (W : World) (B : Nat) (e : WI) : Prop := OwnI W B (.slice e.2.1 e.1.args.length e.2.2) e.1.args
theorem CurC.grownI9 {w w' : World} {g : Nat} {c : Cu} {row : Option Nat} (h : CurC w g c) (hb : w.grownBy w' row) (hr : ∀ k t cs, Blk w k t cs → 45 ≠ t → some k ≠ row) : CurC w' g c := by
  obtain ⟨a, cap, hc, hl, hm, hi⟩ := h
  refine ⟨a, cap, hc.grown hb (hr _ _ _ hc (by decide)), hl, hm, fun k x hx => ?_⟩
  obtain ⟨gg, o, cs, ha, hg, r⟩ := hi k x hx
  exact ⟨gg, o, cs, ha, hg.grown hb (hr _ _ _ hg (by decide)), r⟩
/-- A block that is being read: its box, its row, the arguments' rows. -/
structure Bq (w0 w W : World) (q g : Nat) (c : Cu) (es ps : List WI) (v : Value) (cs : Array Value) : Prop where
  rp : Rq w0 W q g c
  b : Blk W w.heap.size 52 cs
  row : W.ownsRow w.heap.size 45 8 v es.length (es.flatMap wiC)
  rows : ∀ e ∈ ps, OwnA W w.heap.size e
  k : Keep w.heap.size g w W
  le : w0.heap.size ≤ w.heap.size
section
variable {w0 w W W' w4 : World} {q g : Nat} {c d : Cu} {es ps : List WI} {v : Value} {cs : Array Value}
theorem Bq.call (h : Bq w0 w W q g c es ps v cs) (hw : Gone w0 W q g d W') : Bq w0 w W' q g d es ps v cs := by
  obtain ⟨ds, hds⟩ := cur_blkQ h.rp.C
  exact ⟨hw.1, Blk.keep h.b hw.2 (blk_ne h.b hds (by decide)), own_kept h.row hw.2 hds (by decide), fun e he => own_kept (h.rows e he) hw.2 hds (by decide), h.k.then_keep hw.2, h.le⟩
theorem Bq.below (h : Bq w0 w W q g c es ps v cs) (hb : Below W.heap.size W W') : Bq w0 w W' q g c es ps v cs :=
  ⟨h.rp.below hb, h.b.below hb h.b.lt, own_keep h.row ⟨hb.size, fun k _ hk => hb.block k hk⟩, fun e he => own_keep (h.rows e he) ⟨hb.size, fun k _ hk => hb.block k hk⟩, h.k.then_below hb, h.le⟩
theorem Bq.alloc (h : Bq w0 w W q g c es ps v cs) (o : Obj) : Bq w0 w (W.alloc o) q g c es ps v cs := h.below ((Below.refl _ _).alloc (Nat.le_refl _) _)
theorem Bq.told {x : Ii} {a : Option Addr} {k : Nat} (h : Bq w0 w W q g c es ps v cs) (hA : Ak w0 W W' q g d (.slice a x.args.length k) x.args) : Bq w0 w W' q g d es (ps ++ [(x, a, k)]) v cs := by
  have h1 := h.call ⟨hA.rp, hA.k⟩
  refine ⟨h1.rp, h1.b, h1.row, fun e he => ?_, h1.k, h1.le⟩
  rcases List.mem_append.1 he with he | he
  · exact h1.rows e he
  · rw [List.mem_singleton] at he
    subst he
    exact own_baseQ hA.row h.k.size
theorem Bq.put (h : Bq w0 w W q g c es ps v cs) (j : Nat) (u : Value) : Bq w0 w (W.setCell ⟨w.heap.size, j, none⟩ u) q g c es ps v (cs.setIfInBounds j u) :=
  ⟨⟨h.rp.C.keep (Keep.put _ _ _ _ _) h.b (by decide) (by decide), h.rp.R.far (p := ⟨w.heap.size, j, none⟩) (blk_ne h.rp.R h.b (by decide)) u, h.rp.be.setCell (p := ⟨w.heap.size, j, none⟩) h.le u, h.rp.hg, h.rp.fit⟩, h.b.put j u,
    own_put h.row (p := ⟨w.heap.size, j, none⟩) (own_ne h.row h.b (by decide)) u, fun e he => own_put (h.rows e he) (p := ⟨w.heap.size, j, none⟩) (own_ne (h.rows e he) h.b (by decide)) u,
    h.k.trans ⟨rfl, rfl, rfl, by simp [World.setCell], fun k hk _ => Below.heap_setCell W ⟨w.heap.size, j, none⟩ u k (by show k ≠ w.heap.size; omega)⟩, h.le⟩
theorem Bq.new (h : Rq w0 w q g c) (cs : Array Value) : Bq w0 w (w.alloc (.cells cs 52)) q g c [] [] (.slice none 0 0) cs :=
  ⟨h.below ((Below.refl _ _).alloc (Nat.le_refl _) _), Blk.new w _ _, World.ownsRow_nil _ _ _ _, (by simp), Keep.alloc (Nat.le_refl _) g _, h.be.size⟩
theorem Bq.grown {v2 : Value} {x : WI} (h : Bq w0 w W q g c es ps v cs) (hg : W.grownBy w4 v.ownBlock) (ho : w4.ownsRow w.heap.size 45 8 v2 (es.length + 1) (es.flatMap wiC ++ wiC x)) : Bq w0 w w4 q g c (es ++ [x]) ps v2 cs := by
  have hr : ∀ k t cs, Blk W k t cs → 45 ≠ t → some k ≠ v.ownBlock := fun k t cs hk ht => own_ne h.row hk ht
  refine ⟨⟨h.rp.C.grownI9 hg hr, h.rp.R.grown hg (hr _ _ _ h.rp.R (by decide)), h.rp.be.grown hg h.rp.be.size (fun k hk => Nat.le_trans h.le (h.row.lt k hk).1), h.rp.hg, h.rp.fit⟩, h.b.grown hg (hr _ _ _ h.b (by decide)), ?_, fun e he => own_grown (h.rows e he) hg (fun k cs hk => hr k _ cs hk (by decide)), h.k.trans (Keep.grown hg h.k.size (fun k hk => (h.row.lt k hk).1) g), h.le⟩
  rw [List.flatMap_append, List.length_append]
  simpa using ho
theorem Bq.growA {o : Obj} {x : WI} {a : Option Addr} {gg cap cap2 : Nat} (h : Bq w0 w W q g c es ps (.slice a es.length cap) cs) (hg : (W.alloc o).grownBy w4 (Value.slice a es.length cap).ownBlock) (ho : w4.ownsRow w.heap.size 45 8 (.slice (some ⟨gg, 0, none⟩) (es.length + 1) cap2) (es.length + 1) (es.flatMap wiC ++ wiC x)) :
    Bq w0 w w4 q g c (es ++ [x]) ps (.slice (some ⟨gg, 0, none⟩) (es.length + 1) cap2) cs := (h.alloc o).grown hg ho
end
def kBlockQ : ByteArray := ⟨#[98, 108, 111, 99, 107]⟩
/-- A block's own lines: where its first line ends. -/
def Cu.headQ (c : Cu) (n : Int) : Cu := ((c.keyedP kBlockQ).num n n).end_
theorem Fit.headQ {c : Cu} (h : Fit c) (n : Int) : Fit (c.headQ n) := ((h.keyedP _).num n n).end_
def blkCQ (n : Nat) (t : Tt) (a : Option Addr) (k : Nat) : Array Value := #[.slice a n k, .int .i64 t.kind, .int .i64 t.a, .int .i64 t.t0, .int .i64 t.t1]
theorem more_gone {w0 w : World} {q g : Nat} {c : Cu} (h : Rq w0 w q g c) : Calls Tryz.prog 79 #[.pointer (some ⟨g, 0, none⟩)] w fun e w' => e = .returned (.bool c.more) ∧ Gone w0 w q g c w' := gone_below h (more_any g c w h.C)
theorem end_gone {w0 w : World} {q g : Nat} {c : Cu} (h : Rq w0 w q g c) : Calls Tryz.prog 78 #[.pointer (some ⟨g, 0, none⟩)] w fun e w' => e = .returned (.tuple #[]) ∧ Gone w0 w q g c.end_ w' := gone_call h h.fit.end_ (endC_any g c w h.C)
theorem fail_gone {w0 w : World} {q g : Nat} {c : Cu} (e : Int) (h : Rq w0 w q g c) : Calls Tryz.prog 80 #[.pointer (some ⟨g, 0, none⟩), .int .i64 e] w fun e' w' => e' = .returned (.tuple #[]) ∧ Gone w0 w q g (c.fail e) w' := gone_call h (h.fit.fail e) (failC_any g c e w h.C)
theorem block_sizeQ : (Tryz.prog.info? 52).map (·.size) = some 5 := by kernel_rfl
/-- What a block's call tells. -/
def BlockQ (w0 w w' : World) (q g : Nat) (r : Cu × Bb) (e : Ending) : Prop := ∃ (es : List WI) (a : Option Addr) (k : Nat), es.map Prod.fst = r.2.ins ∧ e = .returned (.agg (blkCQ es.length r.2.tm a k)) ∧ Bq w0 w w' q g r.1 es es (.slice a es.length k) (blkCQ es.length r.2.tm a k)
set_option maxRecDepth 100000 in
set_option maxHeartbeats 8000000 in
theorem blockQ_any (w0 w : World) (q g : Nat) (c : Cu) (n : Int) (hT : TabQ w0) (h : Rq w0 w q g c) :
    Calls Tryz.prog 81 #[.pointer (some ⟨q, 0, none⟩), .int .i64 n] w fun e w' => BlockQ w0 w w' q g ((c.headQ n).bq []) e := by
  obtain ⟨i0, hi0, hz0, hz1, hz2⟩ := info_parts ins_info
  have B0 := Lib.hid (Bq.new h #[.slice none 0 0, .int .i64 0, .int .i64 0, .int .i64 0, .int .i64 0])
  have S1 : Hid (∀ W, Rq w0 W q g c → _) := fun W hr => keyQ_any w0 W q g c kBlockQ hr
  have S2 : Hid (∀ W, Rq w0 W q g (c.keyedP kBlockQ) → _) := fun W hr => num_gone n n hr
  have S3 : Hid (∀ W, Rq w0 W q g ((c.keyedP kBlockQ).num n n) → _) := fun W hr => end_gone hr
  have few := h.fit.headQ n
  have HF := Lib.hid few.few
  have m0 := B0.out.rp.cell
  have HD : Hid (((c.keyedP kBlockQ).num n n).end_ = c.headQ n) := rfl
  have HT := Lib.hid hT
  clear h hT few
  rw [HD.out] at S3
  clear HD
  generalize hk1 : c.keyedP kBlockQ = k1 at *
  generalize hk2 : k1.num n n = k2 at *
  clear hk1 hk2
  generalize c.headQ n = k3 at *
  unfold kBlockQ at S1
  go_enter Tryz.func81, Tryz.ntmps81
  go_wp2_with fail
  refine (S1.out _ B0.out.rp).mono ?_
  rintro e w1 ⟨rfl, h1⟩
  have B1 := Lib.hid (B0.out.call h1)
  have m1 := B1.out.rp.cell
  clear h1 B0 S1 m0
  go_wp2_with fail
  refine (S2.out _ B1.out.rp).mono ?_
  rintro e w2 ⟨rfl, h2⟩
  have B2 := Lib.hid (B1.out.call h2)
  have m2 := B2.out.rp.cell
  clear h2 B1 S2 m1
  go_wp2_with fail
  refine (S3.out _ B2.out.rp).mono ?_
  rintro e w3 ⟨rfl, h3⟩
  have B3 := Lib.hid (B2.out.call h3)
  clear h3 B2 S3 m2
  go_wp2
  go_loopg [] k3.left.length (fun gk wr => ∃ (d : Cu) (es : List WI) (a : Option Addr) (cap : Nat), d.left.length ≤ gk ∧ es.length + d.left.length ≤ 1000000 ∧ k3.bq [] = d.bq (es.map Prod.fst) ∧ Bq w0 w wr q g d es es (.slice a es.length cap) #[.slice a es.length cap, .int .i64 0, .int .i64 0, .int .i64 0, .int .i64 0])
  case atStart => exact ⟨k3, [], none, 0, Nat.le_refl _, by have := HF.out; simp; omega, rfl, B3.out⟩
  case round =>
    obtain ⟨d, es, a, cap, hg, hlen, hN, hB⟩ := hrel
    have HB := Lib.hid hB
    have HN := Lib.hid hN
    have m0 := hB.rp.cell
    have hfit := Lib.hid hB.rp.fit
    have M := Lib.hid (more_gone hB.rp)
    clear hB hN HF B3
    by_cases hm : d.more = true
    · rw [hm] at M
      have PQ : Hid (∀ W, Rq w0 W q g d → _) := fun W hr => partQ_any w0 W q g d HT.out hr
      unfold PartQ at PQ
      cases hp : d.pqP with
      | inr t =>
        have HE := Lib.hid (bq_end hm hp (es.map Prod.fst))
        rw [hp] at PQ
        have E : Hid (∀ W, Rq w0 W q g d.pqC → _) := fun W hr => end_gone hr
        clear hp hm
        generalize d.pqC = d1 at *
        generalize d1.end_ = d2 at *
        have e0 := as_ins_termQ (termV t)
        have e1 := as_termQ t
        unfold partVQ argsP at PQ
        dsimp only at PQ
        have SV := termV.eq_1 t
        go_wp2_with fail
        refine M.out.mono ?_
        rintro e w4 ⟨rfl, h4⟩
        have B4 := Lib.hid (HB.out.call h4)
        have m4 := B4.out.rp.cell
        clear h4 M HB m0
        go_wp2_with fail
        refine (PQ.out _ B4.out.rp).mono ?_
        rintro e w5 ⟨pa, pk, rfl, hA⟩
        have B5w := Lib.hid (B4.out.call ⟨hA.rp, hA.k⟩)
        clear hA B4 PQ m4
        have HP := Lib.hid (((((B5w.out.put 1 (.int .i64 t.kind)).put 2 (.int .i64 t.a)).put 3 (.int .i64 t.t0)).put 4 (.int .i64 t.t1)).alloc (.cells #[.int .i64 0, .int .i64 0, .int .i64 0, .int .i64 0, .int .i64 0, .int .i64 0, .slice none 0 0, .int .i64 0] 45))
        have c1 : w5.cell? ⟨w.heap.size, 1, none⟩ = some (.int .i64 0) := B5w.out.b.cell 1
        have c2 : w5.cell? ⟨w.heap.size, 2, none⟩ = some (.int .i64 0) := B5w.out.b.cell 2
        have c3 : w5.cell? ⟨w.heap.size, 3, none⟩ = some (.int .i64 0) := B5w.out.b.cell 3
        have c4 : w5.cell? ⟨w.heap.size, 4, none⟩ = some (.int .i64 0) := B5w.out.b.cell 4
        have f1 := B5w.out.b.free 1
        have f2 := B5w.out.b.free 2
        have f3 := B5w.out.b.free 3
        have f4 := B5w.out.b.free 4
        have hbl := B5w.out.b.lt
        have m5 := B5w.out.rp.cell
        have hql := B5w.out.rp.R.lt
        rw [SV] at e0 e1 ⊢
        go_wp2_with fail
        refine (E.out _ HP.out.rp).mono ?_
        rintro e w6 ⟨rfl, h6⟩
        have B6 : Hid (Bq w0 w w6 q g d2 es es (.slice a es.length cap) #[.slice a es.length cap, .int .i64 t.kind, .int .i64 t.a, .int .i64 t.t0, .int .i64 t.t1]) := HP.out.call h6
        clear h6 HP B5w E c1 c2 c3 c4 f1 f2 f3 f4 m5 e0 e1 hbl hql
        have g0 : w6.cell? ⟨w.heap.size, 0, none⟩ = some (.slice a es.length cap) := B6.out.b.cell 0
        have g1 : w6.cell? ⟨w.heap.size, 1, none⟩ = some (.int .i64 t.kind) := B6.out.b.cell 1
        have g2 : w6.cell? ⟨w.heap.size, 2, none⟩ = some (.int .i64 t.a) := B6.out.b.cell 2
        have g3 : w6.cell? ⟨w.heap.size, 3, none⟩ = some (.int .i64 t.t0) := B6.out.b.cell 3
        have g4 : w6.cell? ⟨w.heap.size, 4, none⟩ = some (.int .i64 t.t1) := B6.out.b.cell 4
        have z0 := B6.out.b.free 0
        have z1 := B6.out.b.free 1
        have z2 := B6.out.b.free 2
        have z3 := B6.out.b.free 3
        have z4 := B6.out.b.free 4
        go_wp2
        (try simp only [Exit.inBlock, Exit.then])
        have HQ := (((((B6.out.put 0 (.slice a es.length cap)).put 1 (.int .i64 t.kind)).put 2 (.int .i64 t.a)).put 3 (.int .i64 t.t0)).put 4 (.int .i64 t.t1))
        refine bodyPost_ret (results_cell_row rfl _ _ w.heap.size 52 _ (0, 0) _ (by simp) HQ.b Tryz.underlying52 rfl block_sizeQ) rfl ?_
        have hE : k3.bq [] = (d2, ⟨es.map Prod.fst, t⟩) := HN.out.trans HE.out
        rw [hE]
        exact ⟨es, a, cap, rfl, rfl, HQ⟩
      | inl x =>
        have HE := Lib.hid (bq_ins hfit.out hm hp (es.map Prod.fst))
        have hless := less_end (hfit.out.loQ es.length).ok (loQ_len hfit.out es.length) hm
        have hpos := more_pos hm
        rw [hp] at PQ
        rw [List.length_map] at HE
        unfold Cu.loQ at HE hless
        unfold partVQ argsP at PQ
        dsimp only at PQ
        have SC : ∀ a k, insC x a k = #[.int .i64 x.op, .int .i64 x.dst, .int .i64 x.a, .int .i64 x.b, .int .i64 x.imm, .int .i64 x.callee, .slice a x.args.length k, .int .i64 x.many] := fun a k => rfl
        have e0 := as_insQ x
        simp only [SC] at PQ e0
        clear hp hm SC
        generalize d.pqC = d1 at *
        cases gk with
        | zero => exfalso; omega
        | succ gk =>
          go_wp2_with fail
          refine M.out.mono ?_
          rintro e w4 ⟨rfl, h4⟩
          have B4 := Lib.hid (HB.out.call h4)
          have m4 := B4.out.rp.cell
          clear h4 M HB m0
          go_wp2_with fail
          refine (PQ.out _ B4.out.rp).mono ?_
          rintro e w5 ⟨xa, xk, rfl, hA⟩
          have e9 := e0 xa xk
          have B5 := Lib.hid (B4.out.told hA)
          have HX5 : Hid (Blk (w5.alloc (.cells #[.int .i64 x.op, .int .i64 x.dst, .int .i64 x.a, .int .i64 x.b, .int .i64 x.imm, .int .i64 x.callee, .slice xa x.args.length xk, .int .i64 x.many] 45)) w5.heap.size 45 #[.int .i64 x.op, .int .i64 x.dst, .int .i64 x.a, .int .i64 x.b, .int .i64 x.imm, .int .i64 x.callee, .slice xa x.args.length xk, .int .i64 x.many]) := Blk.new w5 _ _
          have B5b := Lib.hid (B5.out.alloc (.cells #[.int .i64 x.op, .int .i64 x.dst, .int .i64 x.a, .int .i64 x.b, .int .i64 x.imm, .int .i64 x.callee, .slice xa x.args.length xk, .int .i64 x.many] 45))
          have c0 : w5.cell? ⟨w.heap.size, 0, none⟩ = some (.slice a es.length cap) := B5.out.b.cell 0
          have hbl := B5.out.b.lt
          have m5 := B5.out.rp.cell
          have hql := B5.out.rp.R.lt
          clear hA B4 PQ m4 e0
          by_cases hn : es.length = 64
          · rw [if_pos hn] at HE hless
            have hn1 : (es.length : Int) = 64 := by omega
            have FL : Hid (∀ W, Rq w0 W q g d1 → _) := fun W hr => fail_gone 3 hr
            have E : Hid (∀ W, Rq w0 W q g (d1.fail 3) → _) := fun W hr => end_gone hr
            generalize d1.fail 3 = d1f at *
            generalize d1f.end_ = d2 at *
            go_wp2_with fail
            refine (FL.out _ B5b.out.rp).mono ?_
            rintro e W6 ⟨rfl, h6⟩
            have B6 := Lib.hid (B5b.out.call h6)
            have HX : Hid (Blk W6 w5.heap.size 45 #[.int .i64 x.op, .int .i64 x.dst, .int .i64 x.a, .int .i64 x.b, .int .i64 x.imm, .int .i64 x.callee, .slice xa x.args.length xk, .int .i64 x.many]) := by
              obtain ⟨ds, hds⟩ := cur_blkQ B5b.out.rp.C
              exact Blk.keep HX5.out h6.2 (blk_ne HX5.out hds (by decide))
            clear h6 B5b B5 HX5 FL c0 hbl m5 hql e9 hn hn1
            generalize w5.heap.size = bx at *
            have x0 : W6.cell? ⟨bx, 0, none⟩ = some (.int .i64 x.op) := HX.out.cell 0
            have x1 : W6.cell? ⟨bx, 1, none⟩ = some (.int .i64 x.dst) := HX.out.cell 1
            have x2 : W6.cell? ⟨bx, 2, none⟩ = some (.int .i64 x.a) := HX.out.cell 2
            have x3 : W6.cell? ⟨bx, 3, none⟩ = some (.int .i64 x.b) := HX.out.cell 3
            have x4 : W6.cell? ⟨bx, 4, none⟩ = some (.int .i64 x.imm) := HX.out.cell 4
            have x5 : W6.cell? ⟨bx, 5, none⟩ = some (.int .i64 x.callee) := HX.out.cell 5
            have x6 : W6.cell? ⟨bx, 6, none⟩ = some (.slice xa x.args.length xk) := HX.out.cell 6
            have x7 : W6.cell? ⟨bx, 7, none⟩ = some (.int .i64 x.many) := HX.out.cell 7
            have c0 : W6.cell? ⟨w.heap.size, 0, none⟩ = some (.slice a es.length cap) := B6.out.b.cell 0
            have hbl := B6.out.b.lt
            have hxl := HX.out.lt
            have hsz := B6.out.k.size
            have hne : q ≠ w.heap.size := blk_ne B6.out.rp.R B6.out.b (by decide)
            go_wp2_with (at_builtin; go_must (refine wpList_append_lies _ rfl _ _ _ rfl w.heap.size 45 i0 _ 8 80 Tryz.underlying46 hi0 hz0 hz1 hz2 rfl (by omega) (.slice a es.length cap) es.length (es.flatMap wiC) rfl (World.ownsRow.alloc B6.out.row _) ⟨W6.heap.size, 0, none⟩ 1 1 (wiC (x, xa, xk)) rfl rfl (World.news_of_block (heap_alloc_new W6 _)) (wi_one (x, xa, xk)) (by omega) (by simp only [maxLen]; omega) (by omega) (by simp; omega) (W6.heap.size + 1) (by simp) ?_; intro gg cap4 w7 hown4 hgrow hat hlt4; have hB4 := (Bq.growA B6.out hgrow hown4); have q1 : w7.cell? ⟨w.heap.size, 0, none⟩ = some (.slice a es.length cap) := (by exact hB4.b.cell 0); have f1 : w7.frozen? ⟨w.heap.size, 0, none⟩ = false := (by exact hB4.b.free 0); have m7 : w7.cell? ⟨q, 0, none⟩ = some (.pointer (some ⟨g, 0, none⟩)) := (by exact hB4.rp.cell)))
            have B7 := Lib.hid (hB4.put 0 (.slice (some ⟨gg, 0, none⟩) (es.length + 1) cap4))
            clear hown4 hgrow hat hlt4 hB4 q1 f1 x0 x1 x2 x3 x4 x5 x6 x7 c0 hbl hxl hsz B6 HX
            go_wp2_with fail
            refine (E.out _ B7.out.rp).mono ?_
            rintro e w8 ⟨rfl, h8⟩
            have B8 := Lib.hid (B7.out.call h8)
            clear h8 B7 E m7
            go_wp2
            go_roundg gk
            case measure => omega
            case rel => exact ⟨d2, es ++ [(x, xa, xk)], some ⟨gg, 0, none⟩, cap4, by omega, by simp; omega, HN.out.trans (HE.out.trans (by rw [List.map_append]; rfl)), by simpa using B8.out⟩
          · rw [if_neg hn] at HE hless
            have hn1 : ¬ (es.length : Int) = 64 := by omega
            have E : Hid (∀ W, Rq w0 W q g d1 → _) := fun W hr => end_gone hr
            generalize d1.end_ = d2 at *
            go_upto_region 13 with fail
            have B6 := B5b
            have HX := HX5
            clear B5b B5 HX5 c0 hbl m5 hql e9 hn hn1
            generalize w5.alloc (.cells #[.int .i64 x.op, .int .i64 x.dst, .int .i64 x.a, .int .i64 x.b, .int .i64 x.imm, .int .i64 x.callee, .slice xa x.args.length xk, .int .i64 x.many] 45) = W6 at *
            generalize w5.heap.size = bx at *
            have x0 : W6.cell? ⟨bx, 0, none⟩ = some (.int .i64 x.op) := HX.out.cell 0
            have x1 : W6.cell? ⟨bx, 1, none⟩ = some (.int .i64 x.dst) := HX.out.cell 1
            have x2 : W6.cell? ⟨bx, 2, none⟩ = some (.int .i64 x.a) := HX.out.cell 2
            have x3 : W6.cell? ⟨bx, 3, none⟩ = some (.int .i64 x.b) := HX.out.cell 3
            have x4 : W6.cell? ⟨bx, 4, none⟩ = some (.int .i64 x.imm) := HX.out.cell 4
            have x5 : W6.cell? ⟨bx, 5, none⟩ = some (.int .i64 x.callee) := HX.out.cell 5
            have x6 : W6.cell? ⟨bx, 6, none⟩ = some (.slice xa x.args.length xk) := HX.out.cell 6
            have x7 : W6.cell? ⟨bx, 7, none⟩ = some (.int .i64 x.many) := HX.out.cell 7
            have c0 : W6.cell? ⟨w.heap.size, 0, none⟩ = some (.slice a es.length cap) := B6.out.b.cell 0
            have hbl := B6.out.b.lt
            have hxl := HX.out.lt
            have hsz := B6.out.k.size
            have hne : q ≠ w.heap.size := blk_ne B6.out.rp.R B6.out.b (by decide)
            go_wp2_with (at_builtin; go_must (refine wpList_append_lies _ rfl _ _ _ rfl w.heap.size 45 i0 _ 8 80 Tryz.underlying46 hi0 hz0 hz1 hz2 rfl (by omega) (.slice a es.length cap) es.length (es.flatMap wiC) rfl (World.ownsRow.alloc B6.out.row _) ⟨W6.heap.size, 0, none⟩ 1 1 (wiC (x, xa, xk)) rfl rfl (World.news_of_block (heap_alloc_new W6 _)) (wi_one (x, xa, xk)) (by omega) (by simp only [maxLen]; omega) (by omega) (by simp; omega) (W6.heap.size + 1) (by simp) ?_; intro gg cap4 w7 hown4 hgrow hat hlt4; have hB4 := (Bq.growA B6.out hgrow hown4); have q1 : w7.cell? ⟨w.heap.size, 0, none⟩ = some (.slice a es.length cap) := (by exact hB4.b.cell 0); have f1 : w7.frozen? ⟨w.heap.size, 0, none⟩ = false := (by exact hB4.b.free 0); have m7 : w7.cell? ⟨q, 0, none⟩ = some (.pointer (some ⟨g, 0, none⟩)) := (by exact hB4.rp.cell)))
            have B7 := Lib.hid (hB4.put 0 (.slice (some ⟨gg, 0, none⟩) (es.length + 1) cap4))
            clear hown4 hgrow hat hlt4 hB4 q1 f1 x0 x1 x2 x3 x4 x5 x6 x7 c0 hbl hxl hsz B6 HX
            go_wp2_with fail
            refine (E.out _ B7.out.rp).mono ?_
            rintro e w8 ⟨rfl, h8⟩
            have B8 := Lib.hid (B7.out.call h8)
            clear h8 B7 E m7
            go_wp2
            go_roundg gk
            case measure => omega
            case rel => exact ⟨d2, es ++ [(x, xa, xk)], some ⟨gg, 0, none⟩, cap4, by omega, by simp; omega, HN.out.trans (HE.out.trans (by rw [List.map_append]; rfl)), by simpa using B8.out⟩
    · -- none
      have hm2 : d.more = false := by simpa using hm
      rw [hm2] at M
      have HE := Lib.hid (bq_none hm2 (es.map Prod.fst))
      have FL : Hid (∀ W, Rq w0 W q g d → _) := fun W hr => fail_gone 7 hr
      generalize d.fail 7 = d2 at *
      clear hm hm2
      go_wp2_with fail
      refine M.out.mono ?_
      rintro e w4 ⟨rfl, h4⟩
      have B4 := Lib.hid (HB.out.call h4)
      have m4 := B4.out.rp.cell
      clear h4 M HB m0
      go_wp2_with fail
      (try simp only [Exit.inBlock, Exit.then])
      (try go_wp2_with fail)
      refine (FL.out _ B4.out.rp).mono ?_
      rintro e w6 ⟨rfl, h6⟩
      have B6 := Lib.hid (B4.out.call h6)
      clear h6 B4 FL m4
      have g0 : w6.cell? ⟨w.heap.size, 0, none⟩ = some (.slice a es.length cap) := B6.out.b.cell 0
      have g1 : w6.cell? ⟨w.heap.size, 1, none⟩ = some (.int .i64 0) := B6.out.b.cell 1
      have g2 : w6.cell? ⟨w.heap.size, 2, none⟩ = some (.int .i64 0) := B6.out.b.cell 2
      have g3 : w6.cell? ⟨w.heap.size, 3, none⟩ = some (.int .i64 0) := B6.out.b.cell 3
      have g4 : w6.cell? ⟨w.heap.size, 4, none⟩ = some (.int .i64 0) := B6.out.b.cell 4
      have z0 := B6.out.b.free 0
      have z1 := B6.out.b.free 1
      have z2 := B6.out.b.free 2
      have z3 := B6.out.b.free 3
      have z4 := B6.out.b.free 4
      go_wp2
      (try simp only [Exit.inBlock, Exit.then])
      have HQ := (((((B6.out.put 0 (.slice a es.length cap)).put 1 (.int .i64 0)).put 2 (.int .i64 0)).put 3 (.int .i64 0)).put 4 (.int .i64 0))
      refine bodyPost_ret (results_cell_row rfl _ _ w.heap.size 52 _ (0, 0) _ (by simp) HQ.b Tryz.underlying52 rfl block_sizeQ) rfl ?_
      have hE : k3.bq [] = (d2, ⟨es.map Prod.fst, ⟨0, 0, 0, 0⟩⟩) := HN.out.trans HE.out
      rw [hE]
      exact ⟨es, a, cap, rfl, rfl, HQ⟩
end Go.Proofs.YthiipgahbmoiiaaGreatDoor
