/-
  Package read's function (written by gen/rdi.py). Conditions: the library's tables, its errors, and the Ops' names are there.
-/
import Derived.Test.YthiipgahbmoiiaaGreatDoorPk36
import Derived.Deep.RegionHeld3
namespace Go.Proofs.YthiipgahbmoiiaaGreatDoor
open Go.RowKit

def kFunQ : ByteArray := ⟨#[102, 117, 110]⟩
/-- A function's blocks: so many may still come, so many are there. -/
def fqGo : Nat → Nat → Cu → List Bb → Cu × List Bb
  | 0, n, c, bs => if n = 0 ∨ c.more = true then (c.fail 3, bs) else (c, bs)
  | f + 1, n, c, bs => if n = 0 ∨ c.more = true then fqGo f (n + 1) ((c.headQ n).bq []).1 (bs ++ [((c.headQ n).bq []).2]) else (c, bs)
def Cu.fqHead (c : Cu) : Cu := (c.keyedP kFunQ).parsC.end_
def Cu.fqC (c : Cu) : Cu := (fqGo 64 0 c.fqHead []).1
def Cu.fqF (c : Cu) : Ff := ⟨(c.keyedP kFunQ).parsL, (fqGo 64 0 c.fqHead []).2⟩
theorem fq_step {f n : Nat} {c : Cu} (h : n = 0 ∨ c.more = true) (bs : List Bb) : fqGo (f + 1) n c bs = fqGo f (n + 1) ((c.headQ n).bq []).1 (bs ++ [((c.headQ n).bq []).2]) := by rw [fqGo, if_pos h]
theorem fq_stop {f n : Nat} {c : Cu} (h : ¬ (n = 0 ∨ c.more = true)) (bs : List Bb) : fqGo f n c bs = (c, bs) := by
  cases f with
  | zero => rw [fqGo, if_neg h]
  | succ f => rw [fqGo, if_neg h]
theorem fq_full {n : Nat} {c : Cu} (h : n = 0 ∨ c.more = true) (bs : List Bb) : fqGo 0 n c bs = (c.fail 3, bs) := by rw [fqGo, if_pos h]
/-- A block in memory: its instructions, its end, its row. -/
abbrev WB9 := (List WI × Tt) × Option Addr × Nat
def bbOf (e : WB9) : Bb := ⟨e.1.1.map Prod.fst, e.1.2⟩
def wbC9 (e : WB9) : List Value := [.slice e.2.1 e.1.1.length e.2.2, .int .i64 e.1.2.kind, .int .i64 e.1.2.a, .int .i64 e.1.2.t0, .int .i64 e.1.2.t1]
theorem wb_one9 (e : WB9) : ∀ u ∈ wbC9 e, u.oneCell' = true := fun u hu => by
  simp only [wbC9, List.mem_cons, List.not_mem_nil, or_false] at hu
  rcases hu with rfl | rfl | rfl | rfl | rfl <;> rfl
def OwnB9 (W : World) (B : Nat) (e : WB9) : Prop := W.ownsRow B 45 8 (.slice e.2.1 e.1.1.length e.2.2) e.1.1.length (e.1.1.flatMap wiC) ∧ ∀ x ∈ e.1.1, OwnA W B x
theorem CurC.grownB9 {w w' : World} {g : Nat} {c : Cu} {row : Option Nat} (h : CurC w g c) (hb : w.grownBy w' row) (hr : ∀ k t cs, Blk w k t cs → 52 ≠ t → some k ≠ row) : CurC w' g c := by
  obtain ⟨a, cap, hc, hl, hm, hi⟩ := h
  refine ⟨a, cap, hc.grown hb (hr _ _ _ hc (by decide)), hl, hm, fun k x hx => ?_⟩
  obtain ⟨gg, o, cs, ha, hg, r⟩ := hi k x hx
  exact ⟨gg, o, cs, ha, hg.grown hb (hr _ _ _ hg (by decide)), r⟩
theorem OwnB9.kept {W W' : World} {B g : Nat} {e : WB9} {t : TypeId} {cs : Array Value} (h : OwnB9 W B e) (k : Keep W.heap.size g W W') (hg : Blk W g t cs) (h1 : 45 ≠ t) (h2 : 3 ≠ t) : OwnB9 W' B e := ⟨own_kept h.1 k hg h1, fun x hx => own_kept (h.2 x hx) k hg h2⟩
theorem OwnB9.below {W W' : World} {B : Nat} {e : WB9} (h : OwnB9 W B e) (hb : Below W.heap.size W W') : OwnB9 W' B e := ⟨own_keep h.1 ⟨hb.size, fun k _ hk => hb.block k hk⟩, fun x hx => own_keep (h.2 x hx) ⟨hb.size, fun k _ hk => hb.block k hk⟩⟩
theorem OwnB9.put {W : World} {B p j : Nat} {e : WB9} {t : TypeId} {cs : Array Value} (h : OwnB9 W B e) (hp : Blk W p t cs) (h1 : 45 ≠ t) (h2 : 3 ≠ t) (u : Value) : OwnB9 (W.setCell ⟨p, j, none⟩ u) B e := ⟨own_put h.1 (p := ⟨p, j, none⟩) (own_ne h.1 hp h1) u, fun x hx => own_put (h.2 x hx) (p := ⟨p, j, none⟩) (own_ne (h.2 x hx) hp h2) u⟩
/-- A function that is being read: its box, its parameters' row, its blocks' row, the rows of each. -/
structure Fq (w0 w W : World) (q g : Nat) (c : Cu) (pv : Value) (pl : List Int) (es : List WB9) (v : Value) (cs : Array Value) : Prop where
  rp : Rq w0 W q g c
  b : Blk W w.heap.size 25 cs
  par : OwnI W w.heap.size pv pl
  row : W.ownsRow w.heap.size 52 5 v es.length (es.flatMap wbC9)
  rows : ∀ e ∈ es, OwnB9 W w.heap.size e
  k : Keep w.heap.size g w W
  le : w0.heap.size ≤ w.heap.size
section
variable {w0 w W W' w4 : World} {q g : Nat} {c d : Cu} {pv : Value} {pl : List Int} {es : List WB9} {v : Value} {cs : Array Value}
theorem Fq.call (h : Fq w0 w W q g c pv pl es v cs) (hw : Gone w0 W q g d W') : Fq w0 w W' q g d pv pl es v cs := by
  obtain ⟨ds, hds⟩ := cur_blkQ h.rp.C
  exact ⟨hw.1, Blk.keep h.b hw.2 (blk_ne h.b hds (by decide)), own_kept h.par hw.2 hds (by decide), own_kept h.row hw.2 hds (by decide), fun e he => (h.rows e he).kept hw.2 hds (by decide) (by decide), h.k.then_keep hw.2, h.le⟩
theorem Fq.below (h : Fq w0 w W q g c pv pl es v cs) (hb : Below W.heap.size W W') : Fq w0 w W' q g c pv pl es v cs :=
  ⟨h.rp.below hb, h.b.below hb h.b.lt, own_keep h.par ⟨hb.size, fun k _ hk => hb.block k hk⟩, own_keep h.row ⟨hb.size, fun k _ hk => hb.block k hk⟩, fun e he => (h.rows e he).below hb, h.k.then_below hb, h.le⟩
theorem Fq.alloc (h : Fq w0 w W q g c pv pl es v cs) (o : Obj) : Fq w0 w (W.alloc o) q g c pv pl es v cs := h.below ((Below.refl _ _).alloc (Nat.le_refl _) _)
theorem Fq.drew (h : Fq w0 w W q g c pv pl es v cs) : Fq w0 w W.drew q g c pv pl es v cs := h.below ((Below.refl _ _).drew)
theorem Fq.put (h : Fq w0 w W q g c pv pl es v cs) (j : Nat) (u : Value) : Fq w0 w (W.setCell ⟨w.heap.size, j, none⟩ u) q g c pv pl es v (cs.setIfInBounds j u) :=
  ⟨⟨h.rp.C.keep (Keep.put _ _ _ _ _) h.b (by decide) (by decide), h.rp.R.far (p := ⟨w.heap.size, j, none⟩) (blk_ne h.rp.R h.b (by decide)) u, h.rp.be.setCell (p := ⟨w.heap.size, j, none⟩) h.le u, h.rp.hg, h.rp.fit⟩, h.b.put j u,
    own_put h.par (p := ⟨w.heap.size, j, none⟩) (own_ne h.par h.b (by decide)) u, own_put h.row (p := ⟨w.heap.size, j, none⟩) (own_ne h.row h.b (by decide)) u, fun e he => (h.rows e he).put h.b (by decide) (by decide) u,
    h.k.trans ⟨rfl, rfl, rfl, by simp [World.setCell], fun k hk _ => Below.heap_setCell W ⟨w.heap.size, j, none⟩ u k (by show k ≠ w.heap.size; omega)⟩, h.le⟩
theorem Fq.new (h : Rq w0 w q g c) (cs : Array Value) : Fq w0 w (w.alloc (.cells cs 25)) q g c (.slice none 0 0) [] [] (.slice none 0 0) cs :=
  ⟨h.below ((Below.refl _ _).alloc (Nat.le_refl _) _), Blk.new w _ _, World.ownsRow_nil _ _ _ _, World.ownsRow_nil _ _ _ _, (by simp), Keep.alloc (Nat.le_refl _) g _, h.be.size⟩
theorem Fq.told {pv2 : Value} {pl2 : List Int} (h : Fq w0 w W q g c pv pl es v cs) (hA : Ak w0 W W' q g d pv2 pl2) : Fq w0 w W' q g d pv2 pl2 es v cs := by
  have h1 := h.call ⟨hA.rp, hA.k⟩
  exact ⟨h1.rp, h1.b, own_baseQ hA.row h.k.size, h1.row, h1.rows, h1.k, h1.le⟩
theorem Fq.grown {v2 : Value} {x : WB9} (h : Fq w0 w W q g c pv pl es v cs) (hx : OwnB9 W w.heap.size x) (hg : W.grownBy w4 v.ownBlock) (ho : w4.ownsRow w.heap.size 52 5 v2 (es.length + 1) (es.flatMap wbC9 ++ wbC9 x)) : Fq w0 w w4 q g c pv pl (es ++ [x]) v2 cs := by
  have hr : ∀ k t cs, Blk W k t cs → 52 ≠ t → some k ≠ v.ownBlock := fun k t cs hk ht => own_ne h.row hk ht
  have hI : ∀ k cs, Blk W k 45 cs → some k ≠ v.ownBlock := fun k cs hk => hr k _ cs hk (by decide)
  have hJ : ∀ k cs, Blk W k 3 cs → some k ≠ v.ownBlock := fun k cs hk => hr k _ cs hk (by decide)
  refine ⟨⟨h.rp.C.grownB9 hg hr, h.rp.R.grown hg (hr _ _ _ h.rp.R (by decide)), h.rp.be.grown hg h.rp.be.size (fun k hk => Nat.le_trans h.le (h.row.lt k hk).1), h.rp.hg, h.rp.fit⟩, h.b.grown hg (hr _ _ _ h.b (by decide)), own_grown h.par hg hJ, ?_, fun e he => ?_, h.k.trans (Keep.grown hg h.k.size (fun k hk => (h.row.lt k hk).1) g), h.le⟩
  · rw [List.flatMap_append, List.length_append]
    simpa using ho
  · rcases List.mem_append.1 he with he | he
    · exact ⟨own_grown (h.rows e he).1 hg hI, fun y hy => own_grown ((h.rows e he).2 y hy) hg hJ⟩
    · rw [List.mem_singleton] at he
      subst he
      exact ⟨own_grown hx.1 hg hI, fun y hy => own_grown (hx.2 y hy) hg hJ⟩
theorem Fq.growA {o : Obj} {x : WB9} {a : Option Addr} {gg cap cap2 : Nat} (h : Fq w0 w W q g c pv pl es (.slice a es.length cap) cs) (hx : OwnB9 W w.heap.size x) (hg : (W.alloc o).grownBy w4 (Value.slice a es.length cap).ownBlock) (ho : w4.ownsRow w.heap.size 52 5 (.slice (some ⟨gg, 0, none⟩) (es.length + 1) cap2) (es.length + 1) (es.flatMap wbC9 ++ wbC9 x)) :
    Fq w0 w w4 q g c pv pl (es ++ [x]) (.slice (some ⟨gg, 0, none⟩) (es.length + 1) cap2) cs := (h.alloc o).grown (hx.below ((Below.refl _ _).alloc (Nat.le_refl _) o)) hg ho
/-- Behind a block's call: its rows are new ones. -/
theorem Fq.block {bs : List WI} {t : Tt} {a : Option Addr} {n : Nat} {cs2 : Array Value} (h : Fq w0 w W q g c pv pl es v cs) (hb : Bq w0 W W' q g d bs bs (.slice a bs.length n) cs2) : Fq w0 w W' q g d pv pl es v cs ∧ OwnB9 W' w.heap.size ((bs, t), a, n) :=
  ⟨h.call ⟨hb.rp, hb.k⟩, own_baseQ hb.row h.k.size, fun x hx => own_baseQ (hb.rows x hx) h.k.size⟩
end
theorem func_sizeQ : (Tryz.prog.info? 25).map (·.size) = some 2 := by kernel_rfl
set_option maxRecDepth 100000 in
set_option maxHeartbeats 8000000 in
theorem functionQ_any (w0 w : World) (q g : Nat) (c : Cu) (hT : TabQ w0) (h : Rq w0 w q g c) :
    Calls Tryz.prog 33 #[.pointer (some ⟨q, 0, none⟩)] w fun e w' => (∃ (es : List WB9) (a : Option Addr) (k : Nat) (pa : Option Addr) (pk : Nat), es.map bbOf = c.fqF.blocks ∧ e = .returned (.agg #[.slice pa c.fqF.params.length pk, .slice a es.length k]) ∧ Fq w0 w w' q g c.fqC (.slice pa c.fqF.params.length pk) c.fqF.params es (.slice a es.length k) #[.slice pa c.fqF.params.length pk, .slice a es.length k]) := by
  obtain ⟨i0, hi0, hz0, hz1, hz2⟩ := info_parts block_info
  have B0 := Lib.hid (Fq.new h #[.slice none 0 0, .slice none 0 0])
  have S1 : Hid (∀ W, Rq w0 W q g c → _) := fun W hr => keyQ_any w0 W q g c kFunQ hr
  have S2 : Hid (∀ W, Rq w0 W q g (c.keyedP kFunQ) → _) := fun W hr => paramsQ_any w0 W q g (c.keyedP kFunQ) hT hr
  have S3 : Hid (∀ W, Rq w0 W q g (c.keyedP kFunQ).parsC → _) := fun W hr => end_gone hr
  have m0 := B0.out.rp.cell
  have hE : Hid (c.fqC = (fqGo 64 0 c.fqHead []).1 ∧ c.fqF.params = (c.keyedP kFunQ).parsL ∧ c.fqF.blocks = (fqGo 64 0 c.fqHead []).2) := ⟨rfl, rfl, rfl⟩
  have HD : Hid ((c.keyedP kFunQ).parsC.end_ = c.fqHead) := rfl
  have HT := Lib.hid hT
  clear h hT
  rw [HD.out] at S3
  rw [hE.out.1, hE.out.2.1, hE.out.2.2]
  clear HD hE
  generalize c.fqHead = k3 at *
  generalize (c.keyedP kFunQ).parsL = pl at *
  generalize (c.keyedP kFunQ).parsC = k2 at *
  generalize c.keyedP kFunQ = k1 at *
  unfold kFunQ at S1
  go_enter Tryz.func33, Tryz.ntmps33
  go_wp2_with fail
  refine (S1.out _ B0.out.rp).mono ?_
  rintro e w1 ⟨rfl, h1⟩
  have B1 := Lib.hid (B0.out.call h1)
  have m1 := B1.out.rp.cell
  clear h1 B0 S1 m0
  go_wp2_with fail
  refine (S2.out _ B1.out.rp).mono ?_
  rintro e w2 ⟨pa, pk, rfl, hA⟩
  have B2 := Lib.hid (B1.out.told hA)
  have B2p : Hid (Fq w0 w (w2.setCell ⟨w.heap.size, 0, none⟩ (.slice pa pl.length pk)) q g k2 (.slice pa pl.length pk) pl [] (.slice none 0 0) #[.slice pa pl.length pk, .slice none 0 0]) := B2.out.put 0 _
  have m2 := B2.out.rp.cell
  have c0 : w2.cell? ⟨w.heap.size, 0, none⟩ = some (.slice none 0 0) := B2.out.b.cell 0
  have f0 := B2.out.b.free 0
  have hne : q ≠ w.heap.size := blk_ne B2.out.rp.R B2.out.b (by decide)
  have hbl2 := B2.out.b.lt
  clear hA B1 S2 m1
  go_wp2_with fail
  refine (S3.out _ B2p.out.rp).mono ?_
  rintro e w3 ⟨rfl, h3⟩
  have B3 := Lib.hid (B2p.out.call h3)
  clear h3 B2 B2p S3 m2 c0 f0 hbl2
  go_wp2
  go_loopg [3] 64 (fun gk v wr => ∃ (d : Cu) (es : List WB9) (a : Option Addr) (cap n : Nat), v = .int .i64 n ∧ Hid (n = es.length) ∧ n + gk = 64 ∧ fqGo 64 0 k3 [] = fqGo gk n d (es.map bbOf) ∧ Fq w0 w wr q g d (.slice pa pl.length pk) pl es (.slice a es.length cap) #[.slice pa pl.length pk, .slice a es.length cap])
  case atStart => exact ⟨k3, [], none, 0, 0, rfl, rfl, rfl, rfl, B3.out⟩
  case round =>
    obtain ⟨d, es, a, cap, n, rfl, HL, hg, hN, hB⟩ := hrel
    have HB := Lib.hid hB
    have HN := Lib.hid hN
    have m0 := hB.rp.cell
    have M := Lib.hid (more_gone hB.rp)
    clear hB hN B3
    by_cases h0 : n = 0
    · subst h0
      obtain ⟨gk, rfl⟩ : ∃ k, gk = k + 1 := ⟨gk - 1, by omega⟩
      have HE := Lib.hid (fq_step (f := gk) (n := 0) (c := d) (.inl rfl) (es.map bbOf))
      have BL : Hid (∀ W, Rq w0 W q g d → _) := fun W hr => blockQ_any w0 W q g d 0 HT.out hr
      rw [show ((0 : Nat) : Int) = 0 from rfl] at HE
      have HZ := Lib.hid hg
      unfold BlockQ at BL
      clear hg M
      generalize ((d.headQ 0).bq []).1 = d2 at *
      generalize ((d.headQ 0).bq []).2 = b at *
      have BD := Lib.hid HB.out.drew
      have c1 : wr.drew.cell? ⟨w.heap.size, 1, none⟩ = some (.slice a es.length cap) := BD.out.b.cell 1
      go_upto_region 9 with fail
      refine wp_region_any (by kernel_rfl) ?_
      change wpAny _ _ _ _ _ _ _ wr.drew
      refine wpAny_take (i := 0) (v := ?vq4) (by simp only [List.getElem?_toArray, List.getElem?_cons_zero]; rfl) (by kernel_rfl) (by kernel_rfl) (by kernel_rfl) (by exact fun _ _ _ h => h) (Or.inl ⟨by rfl, ?yq4⟩) ?_
      case yq4 => (intro W9; go_simp; try (with_reducible rfl))
      try simp only [Act.put, List.setIfInBounds_toArray, List.set_cons_zero, List.set_cons_succ]
      refine wpAny_take (i := 2) (v := ?vq5) (by simp only [List.getElem?_toArray, List.getElem?_cons_succ, List.getElem?_cons_zero]; rfl) (by kernel_rfl) (by kernel_rfl) (by kernel_rfl) (by exact fun _ _ _ h => h) (Or.inl ⟨by rfl, ?yq5⟩) ?_
      case yq5 => (intro W9; go_simp; try (with_reducible rfl))
      try simp only [Act.put, List.setIfInBounds_toArray, List.set_cons_zero, List.set_cons_succ]
      refine wpAny_take (i := 3) (v := ?vq6) (by simp only [List.getElem?_toArray, List.getElem?_cons_succ, List.getElem?_cons_zero]; rfl) (by kernel_rfl) (by kernel_rfl) (by kernel_rfl) (by exact fun _ _ _ h => h) (Or.inl ⟨by rfl, ?yq6⟩) ?_
      case yq6 => (intro W9; go_simp; try (with_reducible rfl))
      try simp only [Act.put, List.setIfInBounds_toArray, List.set_cons_zero, List.set_cons_succ]
      refine wpAny_ready (rs := [1, 4]) (by kernel_rfl) (by simp) ?_
      refine AllReady.cons (by simp only [List.getElem?_toArray, List.getElem?_cons_succ, List.getElem?_cons_zero]; rfl) (fun K hK => ?_) (AllReady.cons (by simp only [List.getElem?_toArray, List.getElem?_cons_succ, List.getElem?_cons_zero]; rfl) (fun K hK => ?_) AllReady.nil)
      · go_simp
        refine hK _ _ ?_
        clear hK K
        try simp only [Act.put, List.setIfInBounds_toArray, List.set_cons_zero, List.set_cons_succ]
        refine wpAny_ready (rs := [4]) (by kernel_rfl) (by simp) ?_
        refine AllReady.cons (by simp only [List.getElem?_toArray, List.getElem?_cons_succ, List.getElem?_cons_zero]; rfl) (fun K hK => ?_) AllReady.nil
        go_simp
        go_at_call 81
        refine (BL.out _ BD.out.rp).mono ?_
        rintro e w5 ⟨bs, xa, xk, hbs, rfl, hb⟩
        have T5 := Lib.hid (BD.out.block (t := b.tm) hb)
        have c5 : w5.cell? ⟨w.heap.size, 1, none⟩ = some (.slice a es.length cap) := T5.out.1.b.cell 1
        have hbl5 := T5.out.1.b.lt
        have HBS : Hid (bbOf ((bs, b.tm), xa, xk) = b) := by
          show (⟨bs.map Prod.fst, b.tm⟩ : Bb) = b
          rw [hbs]
        clear hb hbs
        unfold blkCQ
        dsimp only
        refine hK _ _ ?_
        clear hK K
        try simp only [Act.put, List.setIfInBounds_toArray, List.set_cons_zero, List.set_cons_succ]
        refine wpAny_ready (rs := [5]) (by kernel_rfl) (by simp) ?_
        refine AllReady.cons (by simp only [List.getElem?_toArray, List.getElem?_cons_succ, List.getElem?_cons_zero]; rfl) (fun K hK => ?_) AllReady.nil
        go_simp
        refine hK _ _ ?_
        clear hK K
        try simp only [Act.put, List.setIfInBounds_toArray, List.set_cons_zero, List.set_cons_succ]
        have hsz5 := T5.out.1.k.size
        have hes : es.length ≤ 64 := by have := HL.out; have := HZ.out; omega
        refine wpAny_ready (rs := [6]) (by kernel_rfl) (by simp) ?_
        refine AllReady.cons (by simp only [List.getElem?_toArray, List.getElem?_cons_succ, List.getElem?_cons_zero]; rfl) (fun K hK => ?_) AllReady.nil
        refine step_append_lies _ rfl _ _ _ rfl w.heap.size 52 i0 _ 5 56 Tryz.underlying23 hi0 hz0 hz1 hz2 rfl (by omega) (.slice a es.length cap) es.length (es.flatMap wbC9) rfl (World.ownsRow.alloc T5.out.1.row _) ⟨w5.heap.size, 0, none⟩ 1 1 (wbC9 ((bs, b.tm), xa, xk)) rfl rfl (World.news_of_block (heap_alloc_new w5 _)) (wb_one9 ((bs, b.tm), xa, xk)) (by omega) (by simp only [maxLen]; omega) (by omega) (by simp; omega) (w5.heap.size + 1) (by simp) ?_
        intro gg cap4 w7 hown4 hgrow hat hlt4
        have hB4 := Fq.growA T5.out.1 T5.out.2 hgrow hown4
        have q1 : w7.cell? ⟨w.heap.size, 1, none⟩ = some (.slice a es.length cap) := hB4.b.cell 1
        have f1 : w7.frozen? ⟨w.heap.size, 1, none⟩ = false := hB4.b.free 1
        have hbl7 := hB4.b.lt
        have B7 := Lib.hid (hB4.put 1 (.slice (some ⟨gg, 0, none⟩) (es.length + 1) cap4))
        clear hown4 hgrow hat hlt4 hB4 c5 hsz5 hbl5 T5
        refine hK _ _ ?_
        clear hK K
        try simp only [Act.put, List.setIfInBounds_toArray, List.set_cons_zero, List.set_cons_succ]
        refine wpAny_take (i := 7) (v := ?vq1) (by simp only [List.getElem?_toArray, List.getElem?_cons_succ, List.getElem?_cons_zero]; rfl) (by kernel_rfl) (by kernel_rfl) (by kernel_rfl) (by exact fun _ _ _ h => h) (Or.inl ⟨by rfl, ?yq1⟩) ?_
        case yq1 => (intro W9; go_simp; try (with_reducible rfl))
        try simp only [Act.put, List.setIfInBounds_toArray, List.set_cons_zero, List.set_cons_succ]
        refine wpAny_ready (rs := [8]) (by kernel_rfl) (by simp) ?_
        refine AllReady.cons (by simp only [List.getElem?_toArray, List.getElem?_cons_succ, List.getElem?_cons_zero]; rfl) (fun K hK => ?_) AllReady.nil
        go_simp
        refine hK _ _ ?_
        clear hK K
        try simp only [Act.put, List.setIfInBounds_toArray, List.set_cons_zero, List.set_cons_succ]
        refine wpAny_done (by kernel_rfl) ?_ _
        clear q1 f1
        have hn9 : 0 ≤ 63 := by have := HZ.out; omega
        go_wp2
        go_roundg gk
        case measure => omega
        case rel => exact ⟨d2, es ++ [((bs, b.tm), xa, xk)], some ⟨gg, 0, none⟩, cap4, 0 + 1, by go_num, by have h := HL.out; show _ + 1 = _; rw [List.length_append, List.length_singleton, ← h], by have := HZ.out; omega, HN.out.trans (by rw [HE.out, List.map_append, List.map_singleton, HBS.out]), by simpa using B7.out⟩
      · go_simp
        go_at_call 81
        refine (BL.out _ BD.out.rp).mono ?_
        rintro e w5 ⟨bs, xa, xk, hbs, rfl, hb⟩
        have T5 := Lib.hid (BD.out.block (t := b.tm) hb)
        have c5 : w5.cell? ⟨w.heap.size, 1, none⟩ = some (.slice a es.length cap) := T5.out.1.b.cell 1
        have hbl5 := T5.out.1.b.lt
        have HBS : Hid (bbOf ((bs, b.tm), xa, xk) = b) := by
          show (⟨bs.map Prod.fst, b.tm⟩ : Bb) = b
          rw [hbs]
        clear hb hbs
        unfold blkCQ
        dsimp only
        refine hK _ _ ?_
        clear hK K
        try simp only [Act.put, List.setIfInBounds_toArray, List.set_cons_zero, List.set_cons_succ]
        refine wpAny_ready (rs := [1, 5]) (by kernel_rfl) (by simp) ?_
        refine AllReady.cons (by simp only [List.getElem?_toArray, List.getElem?_cons_succ, List.getElem?_cons_zero]; rfl) (fun K hK => ?_) (AllReady.cons (by simp only [List.getElem?_toArray, List.getElem?_cons_succ, List.getElem?_cons_zero]; rfl) (fun K hK => ?_) AllReady.nil)
        · go_simp
          refine hK _ _ ?_
          clear hK K
          try simp only [Act.put, List.setIfInBounds_toArray, List.set_cons_zero, List.set_cons_succ]
          refine wpAny_ready (rs := [5]) (by kernel_rfl) (by simp) ?_
          refine AllReady.cons (by simp only [List.getElem?_toArray, List.getElem?_cons_succ, List.getElem?_cons_zero]; rfl) (fun K hK => ?_) AllReady.nil
          go_simp
          refine hK _ _ ?_
          clear hK K
          try simp only [Act.put, List.setIfInBounds_toArray, List.set_cons_zero, List.set_cons_succ]
          have hsz5 := T5.out.1.k.size
          have hes : es.length ≤ 64 := by have := HL.out; have := HZ.out; omega
          refine wpAny_ready (rs := [6]) (by kernel_rfl) (by simp) ?_
          refine AllReady.cons (by simp only [List.getElem?_toArray, List.getElem?_cons_succ, List.getElem?_cons_zero]; rfl) (fun K hK => ?_) AllReady.nil
          refine step_append_lies _ rfl _ _ _ rfl w.heap.size 52 i0 _ 5 56 Tryz.underlying23 hi0 hz0 hz1 hz2 rfl (by omega) (.slice a es.length cap) es.length (es.flatMap wbC9) rfl (World.ownsRow.alloc T5.out.1.row _) ⟨w5.heap.size, 0, none⟩ 1 1 (wbC9 ((bs, b.tm), xa, xk)) rfl rfl (World.news_of_block (heap_alloc_new w5 _)) (wb_one9 ((bs, b.tm), xa, xk)) (by omega) (by simp only [maxLen]; omega) (by omega) (by simp; omega) (w5.heap.size + 1) (by simp) ?_
          intro gg cap4 w7 hown4 hgrow hat hlt4
          have hB4 := Fq.growA T5.out.1 T5.out.2 hgrow hown4
          have q1 : w7.cell? ⟨w.heap.size, 1, none⟩ = some (.slice a es.length cap) := hB4.b.cell 1
          have f1 : w7.frozen? ⟨w.heap.size, 1, none⟩ = false := hB4.b.free 1
          have hbl7 := hB4.b.lt
          have B7 := Lib.hid (hB4.put 1 (.slice (some ⟨gg, 0, none⟩) (es.length + 1) cap4))
          clear hown4 hgrow hat hlt4 hB4 c5 hsz5 hbl5 T5
          refine hK _ _ ?_
          clear hK K
          try simp only [Act.put, List.setIfInBounds_toArray, List.set_cons_zero, List.set_cons_succ]
          refine wpAny_take (i := 7) (v := ?vq2) (by simp only [List.getElem?_toArray, List.getElem?_cons_succ, List.getElem?_cons_zero]; rfl) (by kernel_rfl) (by kernel_rfl) (by kernel_rfl) (by exact fun _ _ _ h => h) (Or.inl ⟨by rfl, ?yq2⟩) ?_
          case yq2 => (intro W9; go_simp; try (with_reducible rfl))
          try simp only [Act.put, List.setIfInBounds_toArray, List.set_cons_zero, List.set_cons_succ]
          refine wpAny_ready (rs := [8]) (by kernel_rfl) (by simp) ?_
          refine AllReady.cons (by simp only [List.getElem?_toArray, List.getElem?_cons_succ, List.getElem?_cons_zero]; rfl) (fun K hK => ?_) AllReady.nil
          go_simp
          refine hK _ _ ?_
          clear hK K
          try simp only [Act.put, List.setIfInBounds_toArray, List.set_cons_zero, List.set_cons_succ]
          refine wpAny_done (by kernel_rfl) ?_ _
          clear q1 f1
          have hn9 : 0 ≤ 63 := by have := HZ.out; omega
          go_wp2
          go_roundg gk
          case measure => omega
          case rel => exact ⟨d2, es ++ [((bs, b.tm), xa, xk)], some ⟨gg, 0, none⟩, cap4, 0 + 1, by go_num, by have h := HL.out; show _ + 1 = _; rw [List.length_append, List.length_singleton, ← h], by have := HZ.out; omega, HN.out.trans (by rw [HE.out, List.map_append, List.map_singleton, HBS.out]), by simpa using B7.out⟩
        · go_simp
          refine hK _ _ ?_
          clear hK K
          try simp only [Act.put, List.setIfInBounds_toArray, List.set_cons_zero, List.set_cons_succ]
          refine wpAny_ready (rs := [1]) (by kernel_rfl) (by simp) ?_
          refine AllReady.cons (by simp only [List.getElem?_toArray, List.getElem?_cons_succ, List.getElem?_cons_zero]; rfl) (fun K hK => ?_) AllReady.nil
          go_simp
          refine hK _ _ ?_
          clear hK K
          try simp only [Act.put, List.setIfInBounds_toArray, List.set_cons_zero, List.set_cons_succ]
          have hsz5 := T5.out.1.k.size
          have hes : es.length ≤ 64 := by have := HL.out; have := HZ.out; omega
          refine wpAny_ready (rs := [6]) (by kernel_rfl) (by simp) ?_
          refine AllReady.cons (by simp only [List.getElem?_toArray, List.getElem?_cons_succ, List.getElem?_cons_zero]; rfl) (fun K hK => ?_) AllReady.nil
          refine step_append_lies _ rfl _ _ _ rfl w.heap.size 52 i0 _ 5 56 Tryz.underlying23 hi0 hz0 hz1 hz2 rfl (by omega) (.slice a es.length cap) es.length (es.flatMap wbC9) rfl (World.ownsRow.alloc T5.out.1.row _) ⟨w5.heap.size, 0, none⟩ 1 1 (wbC9 ((bs, b.tm), xa, xk)) rfl rfl (World.news_of_block (heap_alloc_new w5 _)) (wb_one9 ((bs, b.tm), xa, xk)) (by omega) (by simp only [maxLen]; omega) (by omega) (by simp; omega) (w5.heap.size + 1) (by simp) ?_
          intro gg cap4 w7 hown4 hgrow hat hlt4
          have hB4 := Fq.growA T5.out.1 T5.out.2 hgrow hown4
          have q1 : w7.cell? ⟨w.heap.size, 1, none⟩ = some (.slice a es.length cap) := hB4.b.cell 1
          have f1 : w7.frozen? ⟨w.heap.size, 1, none⟩ = false := hB4.b.free 1
          have hbl7 := hB4.b.lt
          have B7 := Lib.hid (hB4.put 1 (.slice (some ⟨gg, 0, none⟩) (es.length + 1) cap4))
          clear hown4 hgrow hat hlt4 hB4 c5 hsz5 hbl5 T5
          refine hK _ _ ?_
          clear hK K
          try simp only [Act.put, List.setIfInBounds_toArray, List.set_cons_zero, List.set_cons_succ]
          refine wpAny_take (i := 7) (v := ?vq3) (by simp only [List.getElem?_toArray, List.getElem?_cons_succ, List.getElem?_cons_zero]; rfl) (by kernel_rfl) (by kernel_rfl) (by kernel_rfl) (by exact fun _ _ _ h => h) (Or.inl ⟨by rfl, ?yq3⟩) ?_
          case yq3 => (intro W9; go_simp; try (with_reducible rfl))
          try simp only [Act.put, List.setIfInBounds_toArray, List.set_cons_zero, List.set_cons_succ]
          refine wpAny_ready (rs := [8]) (by kernel_rfl) (by simp) ?_
          refine AllReady.cons (by simp only [List.getElem?_toArray, List.getElem?_cons_succ, List.getElem?_cons_zero]; rfl) (fun K hK => ?_) AllReady.nil
          go_simp
          refine hK _ _ ?_
          clear hK K
          try simp only [Act.put, List.setIfInBounds_toArray, List.set_cons_zero, List.set_cons_succ]
          refine wpAny_done (by kernel_rfl) ?_ _
          clear q1 f1
          have hn9 : 0 ≤ 63 := by have := HZ.out; omega
          go_wp2
          go_roundg gk
          case measure => omega
          case rel => exact ⟨d2, es ++ [((bs, b.tm), xa, xk)], some ⟨gg, 0, none⟩, cap4, 0 + 1, by go_num, by have h := HL.out; show _ + 1 = _; rw [List.length_append, List.length_singleton, ← h], by have := HZ.out; omega, HN.out.trans (by rw [HE.out, List.map_append, List.map_singleton, HBS.out]), by simpa using B7.out⟩
    · have hnp : ¬ (n : Int) = 0 := by omega
      cases hm : d.more
      · have hno : ¬ (n = 0 ∨ d.more = true) := by rw [hm]; rintro (e | e); exact h0 e; cases e
        have HE := Lib.hid (fq_stop (f := gk) hno (es.map bbOf))
        rw [hm] at M
        clear hno h0 hm hg
        go_wp2_with fail
        refine M.out.mono ?_
        rintro e w4 ⟨rfl, h4⟩
        have B5 := Lib.hid (HB.out.call h4)
        clear h4 M HB m0
        have hE : Hid (fqGo 64 0 k3 [] = (d, es.map bbOf)) := HN.out.trans HE.out
        have g0 : w4.cell? ⟨w.heap.size, 0, none⟩ = some (.slice pa pl.length pk) := B5.out.b.cell 0
        have g1 : w4.cell? ⟨w.heap.size, 1, none⟩ = some (.slice a es.length cap) := B5.out.b.cell 1
        have z0 := B5.out.b.free 0
        have z1 := B5.out.b.free 1
        have hbl5 := B5.out.b.lt
        go_wp2
        (try simp only [Exit.inBlock, Exit.then])
        have HQ := ((B5.out.put 0 (.slice pa pl.length pk)).put 1 (.slice a es.length cap))
        refine bodyPost_ret (results_cell_row rfl _ _ w.heap.size 25 _ (0, 0) _ (by simp) HQ.b Tryz.underlying25 rfl func_sizeQ) rfl ?_
        rw [hE.out]
        exact ⟨es, a, cap, pa, pk, rfl, rfl, HQ⟩
      · have hgo : n = 0 ∨ d.more = true := .inr hm
        rw [hm] at M
        by_cases h2 : n = 64
        · obtain rfl : gk = 0 := by omega
          have HE := Lib.hid (fq_full hgo (es.map bbOf))
          have h21 : (n : Int) = 64 := by omega
          have FL : Hid (∀ W, Rq w0 W q g d → _) := fun W hr => fail_gone 3 hr
          clear hgo h0 hm hg h2
          generalize d.fail 3 = d2 at *
          go_wp2_with fail
          refine M.out.mono ?_
          rintro e w4 ⟨rfl, h4⟩
          have B4 := Lib.hid (HB.out.call h4)
          have m4 := B4.out.rp.cell
          clear h4 M HB m0
          go_wp2_with fail
          refine (FL.out _ B4.out.rp).mono ?_
          rintro e w5 ⟨rfl, h5⟩
          have B5 := Lib.hid (B4.out.call h5)
          clear h5 FL B4 m4
          have hE : Hid (fqGo 64 0 k3 [] = (d2, es.map bbOf)) := HN.out.trans HE.out
          have g0 : w5.cell? ⟨w.heap.size, 0, none⟩ = some (.slice pa pl.length pk) := B5.out.b.cell 0
          have g1 : w5.cell? ⟨w.heap.size, 1, none⟩ = some (.slice a es.length cap) := B5.out.b.cell 1
          have z0 := B5.out.b.free 0
          have z1 := B5.out.b.free 1
          have hbl5 := B5.out.b.lt
          go_wp2
          (try simp only [Exit.inBlock, Exit.then])
          have HQ := ((B5.out.put 0 (.slice pa pl.length pk)).put 1 (.slice a es.length cap))
          refine bodyPost_ret (results_cell_row rfl _ _ w.heap.size 25 _ (0, 0) _ (by simp) HQ.b Tryz.underlying25 rfl func_sizeQ) rfl ?_
          rw [hE.out]
          exact ⟨es, a, cap, pa, pk, rfl, rfl, HQ⟩
        · obtain ⟨gk, rfl⟩ : ∃ k, gk = k + 1 := ⟨gk - 1, by omega⟩
          have h21 : ¬ (n : Int) = 64 := by omega
          have HE := Lib.hid (fq_step (f := gk) (n := n) (c := d) hgo (es.map bbOf))
          have BL : Hid (∀ W, Rq w0 W q g d → _) := fun W hr => blockQ_any w0 W q g d n HT.out hr
          have HZ := Lib.hid hg
          unfold BlockQ at BL
          clear hg hgo hm
          generalize ((d.headQ n).bq []).1 = d2 at *
          generalize ((d.headQ n).bq []).2 = b at *
          go_wp2_with fail
          refine M.out.mono ?_
          rintro e w4 ⟨rfl, h4⟩
          have HB4 := Lib.hid (HB.out.call h4)
          have m4 := HB4.out.rp.cell
          clear h4 M HB m0
          have HB := HB4
          have BD := Lib.hid HB.out.drew
          have c1 : w4.drew.cell? ⟨w.heap.size, 1, none⟩ = some (.slice a es.length cap) := BD.out.b.cell 1
          go_upto_region 9 with fail
          refine wp_region_any (by kernel_rfl) ?_
          change wpAny _ _ _ _ _ _ _ w4.drew
          refine wpAny_take (i := 0) (v := ?vq10) (by simp only [List.getElem?_toArray, List.getElem?_cons_zero]; rfl) (by kernel_rfl) (by kernel_rfl) (by kernel_rfl) (by exact fun _ _ _ h => h) (Or.inl ⟨by rfl, ?yq10⟩) ?_
          case yq10 => (intro W9; go_simp; try (with_reducible rfl))
          try simp only [Act.put, List.setIfInBounds_toArray, List.set_cons_zero, List.set_cons_succ]
          refine wpAny_take (i := 2) (v := ?vq11) (by simp only [List.getElem?_toArray, List.getElem?_cons_succ, List.getElem?_cons_zero]; rfl) (by kernel_rfl) (by kernel_rfl) (by kernel_rfl) (by exact fun _ _ _ h => h) (Or.inl ⟨by rfl, ?yq11⟩) ?_
          case yq11 => (intro W9; go_simp; try (with_reducible rfl))
          try simp only [Act.put, List.setIfInBounds_toArray, List.set_cons_zero, List.set_cons_succ]
          refine wpAny_take (i := 3) (v := ?vq12) (by simp only [List.getElem?_toArray, List.getElem?_cons_succ, List.getElem?_cons_zero]; rfl) (by kernel_rfl) (by kernel_rfl) (by kernel_rfl) (by exact fun _ _ _ h => h) (Or.inl ⟨by rfl, ?yq12⟩) ?_
          case yq12 => (intro W9; go_simp; try (with_reducible rfl))
          try simp only [Act.put, List.setIfInBounds_toArray, List.set_cons_zero, List.set_cons_succ]
          refine wpAny_ready (rs := [1, 4]) (by kernel_rfl) (by simp) ?_
          refine AllReady.cons (by simp only [List.getElem?_toArray, List.getElem?_cons_succ, List.getElem?_cons_zero]; rfl) (fun K hK => ?_) (AllReady.cons (by simp only [List.getElem?_toArray, List.getElem?_cons_succ, List.getElem?_cons_zero]; rfl) (fun K hK => ?_) AllReady.nil)
          · go_simp
            refine hK _ _ ?_
            clear hK K
            try simp only [Act.put, List.setIfInBounds_toArray, List.set_cons_zero, List.set_cons_succ]
            refine wpAny_ready (rs := [4]) (by kernel_rfl) (by simp) ?_
            refine AllReady.cons (by simp only [List.getElem?_toArray, List.getElem?_cons_succ, List.getElem?_cons_zero]; rfl) (fun K hK => ?_) AllReady.nil
            go_simp
            go_at_call 81
            refine (BL.out _ BD.out.rp).mono ?_
            rintro e w5 ⟨bs, xa, xk, hbs, rfl, hb⟩
            have T5 := Lib.hid (BD.out.block (t := b.tm) hb)
            have c5 : w5.cell? ⟨w.heap.size, 1, none⟩ = some (.slice a es.length cap) := T5.out.1.b.cell 1
            have hbl5 := T5.out.1.b.lt
            have HBS : Hid (bbOf ((bs, b.tm), xa, xk) = b) := by
              show (⟨bs.map Prod.fst, b.tm⟩ : Bb) = b
              rw [hbs]
            clear hb hbs
            unfold blkCQ
            dsimp only
            refine hK _ _ ?_
            clear hK K
            try simp only [Act.put, List.setIfInBounds_toArray, List.set_cons_zero, List.set_cons_succ]
            refine wpAny_ready (rs := [5]) (by kernel_rfl) (by simp) ?_
            refine AllReady.cons (by simp only [List.getElem?_toArray, List.getElem?_cons_succ, List.getElem?_cons_zero]; rfl) (fun K hK => ?_) AllReady.nil
            go_simp
            refine hK _ _ ?_
            clear hK K
            try simp only [Act.put, List.setIfInBounds_toArray, List.set_cons_zero, List.set_cons_succ]
            have hsz5 := T5.out.1.k.size
            have hes : es.length ≤ 64 := by have := HL.out; have := HZ.out; omega
            refine wpAny_ready (rs := [6]) (by kernel_rfl) (by simp) ?_
            refine AllReady.cons (by simp only [List.getElem?_toArray, List.getElem?_cons_succ, List.getElem?_cons_zero]; rfl) (fun K hK => ?_) AllReady.nil
            refine step_append_lies _ rfl _ _ _ rfl w.heap.size 52 i0 _ 5 56 Tryz.underlying23 hi0 hz0 hz1 hz2 rfl (by omega) (.slice a es.length cap) es.length (es.flatMap wbC9) rfl (World.ownsRow.alloc T5.out.1.row _) ⟨w5.heap.size, 0, none⟩ 1 1 (wbC9 ((bs, b.tm), xa, xk)) rfl rfl (World.news_of_block (heap_alloc_new w5 _)) (wb_one9 ((bs, b.tm), xa, xk)) (by omega) (by simp only [maxLen]; omega) (by omega) (by simp; omega) (w5.heap.size + 1) (by simp) ?_
            intro gg cap4 w7 hown4 hgrow hat hlt4
            have hB4 := Fq.growA T5.out.1 T5.out.2 hgrow hown4
            have q1 : w7.cell? ⟨w.heap.size, 1, none⟩ = some (.slice a es.length cap) := hB4.b.cell 1
            have f1 : w7.frozen? ⟨w.heap.size, 1, none⟩ = false := hB4.b.free 1
            have hbl7 := hB4.b.lt
            have B7 := Lib.hid (hB4.put 1 (.slice (some ⟨gg, 0, none⟩) (es.length + 1) cap4))
            clear hown4 hgrow hat hlt4 hB4 c5 hsz5 hbl5 T5
            refine hK _ _ ?_
            clear hK K
            try simp only [Act.put, List.setIfInBounds_toArray, List.set_cons_zero, List.set_cons_succ]
            refine wpAny_take (i := 7) (v := ?vq7) (by simp only [List.getElem?_toArray, List.getElem?_cons_succ, List.getElem?_cons_zero]; rfl) (by kernel_rfl) (by kernel_rfl) (by kernel_rfl) (by exact fun _ _ _ h => h) (Or.inl ⟨by rfl, ?yq7⟩) ?_
            case yq7 => (intro W9; go_simp; try (with_reducible rfl))
            try simp only [Act.put, List.setIfInBounds_toArray, List.set_cons_zero, List.set_cons_succ]
            refine wpAny_ready (rs := [8]) (by kernel_rfl) (by simp) ?_
            refine AllReady.cons (by simp only [List.getElem?_toArray, List.getElem?_cons_succ, List.getElem?_cons_zero]; rfl) (fun K hK => ?_) AllReady.nil
            go_simp
            refine hK _ _ ?_
            clear hK K
            try simp only [Act.put, List.setIfInBounds_toArray, List.set_cons_zero, List.set_cons_succ]
            refine wpAny_done (by kernel_rfl) ?_ _
            clear q1 f1
            have hn9 : n ≤ 63 := by have := HZ.out; omega
            go_wp2
            go_roundg gk
            case measure => omega
            case rel => exact ⟨d2, es ++ [((bs, b.tm), xa, xk)], some ⟨gg, 0, none⟩, cap4, n + 1, by go_num, by have h := HL.out; show _ + 1 = _; rw [List.length_append, List.length_singleton, ← h], by have := HZ.out; omega, HN.out.trans (by rw [HE.out, List.map_append, List.map_singleton, HBS.out]), by simpa using B7.out⟩
          · go_simp
            go_at_call 81
            refine (BL.out _ BD.out.rp).mono ?_
            rintro e w5 ⟨bs, xa, xk, hbs, rfl, hb⟩
            have T5 := Lib.hid (BD.out.block (t := b.tm) hb)
            have c5 : w5.cell? ⟨w.heap.size, 1, none⟩ = some (.slice a es.length cap) := T5.out.1.b.cell 1
            have hbl5 := T5.out.1.b.lt
            have HBS : Hid (bbOf ((bs, b.tm), xa, xk) = b) := by
              show (⟨bs.map Prod.fst, b.tm⟩ : Bb) = b
              rw [hbs]
            clear hb hbs
            unfold blkCQ
            dsimp only
            refine hK _ _ ?_
            clear hK K
            try simp only [Act.put, List.setIfInBounds_toArray, List.set_cons_zero, List.set_cons_succ]
            refine wpAny_ready (rs := [1, 5]) (by kernel_rfl) (by simp) ?_
            refine AllReady.cons (by simp only [List.getElem?_toArray, List.getElem?_cons_succ, List.getElem?_cons_zero]; rfl) (fun K hK => ?_) (AllReady.cons (by simp only [List.getElem?_toArray, List.getElem?_cons_succ, List.getElem?_cons_zero]; rfl) (fun K hK => ?_) AllReady.nil)
            · go_simp
              refine hK _ _ ?_
              clear hK K
              try simp only [Act.put, List.setIfInBounds_toArray, List.set_cons_zero, List.set_cons_succ]
              refine wpAny_ready (rs := [5]) (by kernel_rfl) (by simp) ?_
              refine AllReady.cons (by simp only [List.getElem?_toArray, List.getElem?_cons_succ, List.getElem?_cons_zero]; rfl) (fun K hK => ?_) AllReady.nil
              go_simp
              refine hK _ _ ?_
              clear hK K
              try simp only [Act.put, List.setIfInBounds_toArray, List.set_cons_zero, List.set_cons_succ]
              have hsz5 := T5.out.1.k.size
              have hes : es.length ≤ 64 := by have := HL.out; have := HZ.out; omega
              refine wpAny_ready (rs := [6]) (by kernel_rfl) (by simp) ?_
              refine AllReady.cons (by simp only [List.getElem?_toArray, List.getElem?_cons_succ, List.getElem?_cons_zero]; rfl) (fun K hK => ?_) AllReady.nil
              refine step_append_lies _ rfl _ _ _ rfl w.heap.size 52 i0 _ 5 56 Tryz.underlying23 hi0 hz0 hz1 hz2 rfl (by omega) (.slice a es.length cap) es.length (es.flatMap wbC9) rfl (World.ownsRow.alloc T5.out.1.row _) ⟨w5.heap.size, 0, none⟩ 1 1 (wbC9 ((bs, b.tm), xa, xk)) rfl rfl (World.news_of_block (heap_alloc_new w5 _)) (wb_one9 ((bs, b.tm), xa, xk)) (by omega) (by simp only [maxLen]; omega) (by omega) (by simp; omega) (w5.heap.size + 1) (by simp) ?_
              intro gg cap4 w7 hown4 hgrow hat hlt4
              have hB4 := Fq.growA T5.out.1 T5.out.2 hgrow hown4
              have q1 : w7.cell? ⟨w.heap.size, 1, none⟩ = some (.slice a es.length cap) := hB4.b.cell 1
              have f1 : w7.frozen? ⟨w.heap.size, 1, none⟩ = false := hB4.b.free 1
              have hbl7 := hB4.b.lt
              have B7 := Lib.hid (hB4.put 1 (.slice (some ⟨gg, 0, none⟩) (es.length + 1) cap4))
              clear hown4 hgrow hat hlt4 hB4 c5 hsz5 hbl5 T5
              refine hK _ _ ?_
              clear hK K
              try simp only [Act.put, List.setIfInBounds_toArray, List.set_cons_zero, List.set_cons_succ]
              refine wpAny_take (i := 7) (v := ?vq8) (by simp only [List.getElem?_toArray, List.getElem?_cons_succ, List.getElem?_cons_zero]; rfl) (by kernel_rfl) (by kernel_rfl) (by kernel_rfl) (by exact fun _ _ _ h => h) (Or.inl ⟨by rfl, ?yq8⟩) ?_
              case yq8 => (intro W9; go_simp; try (with_reducible rfl))
              try simp only [Act.put, List.setIfInBounds_toArray, List.set_cons_zero, List.set_cons_succ]
              refine wpAny_ready (rs := [8]) (by kernel_rfl) (by simp) ?_
              refine AllReady.cons (by simp only [List.getElem?_toArray, List.getElem?_cons_succ, List.getElem?_cons_zero]; rfl) (fun K hK => ?_) AllReady.nil
              go_simp
              refine hK _ _ ?_
              clear hK K
              try simp only [Act.put, List.setIfInBounds_toArray, List.set_cons_zero, List.set_cons_succ]
              refine wpAny_done (by kernel_rfl) ?_ _
              clear q1 f1
              have hn9 : n ≤ 63 := by have := HZ.out; omega
              go_wp2
              go_roundg gk
              case measure => omega
              case rel => exact ⟨d2, es ++ [((bs, b.tm), xa, xk)], some ⟨gg, 0, none⟩, cap4, n + 1, by go_num, by have h := HL.out; show _ + 1 = _; rw [List.length_append, List.length_singleton, ← h], by have := HZ.out; omega, HN.out.trans (by rw [HE.out, List.map_append, List.map_singleton, HBS.out]), by simpa using B7.out⟩
            · go_simp
              refine hK _ _ ?_
              clear hK K
              try simp only [Act.put, List.setIfInBounds_toArray, List.set_cons_zero, List.set_cons_succ]
              refine wpAny_ready (rs := [1]) (by kernel_rfl) (by simp) ?_
              refine AllReady.cons (by simp only [List.getElem?_toArray, List.getElem?_cons_succ, List.getElem?_cons_zero]; rfl) (fun K hK => ?_) AllReady.nil
              go_simp
              refine hK _ _ ?_
              clear hK K
              try simp only [Act.put, List.setIfInBounds_toArray, List.set_cons_zero, List.set_cons_succ]
              have hsz5 := T5.out.1.k.size
              have hes : es.length ≤ 64 := by have := HL.out; have := HZ.out; omega
              refine wpAny_ready (rs := [6]) (by kernel_rfl) (by simp) ?_
              refine AllReady.cons (by simp only [List.getElem?_toArray, List.getElem?_cons_succ, List.getElem?_cons_zero]; rfl) (fun K hK => ?_) AllReady.nil
              refine step_append_lies _ rfl _ _ _ rfl w.heap.size 52 i0 _ 5 56 Tryz.underlying23 hi0 hz0 hz1 hz2 rfl (by omega) (.slice a es.length cap) es.length (es.flatMap wbC9) rfl (World.ownsRow.alloc T5.out.1.row _) ⟨w5.heap.size, 0, none⟩ 1 1 (wbC9 ((bs, b.tm), xa, xk)) rfl rfl (World.news_of_block (heap_alloc_new w5 _)) (wb_one9 ((bs, b.tm), xa, xk)) (by omega) (by simp only [maxLen]; omega) (by omega) (by simp; omega) (w5.heap.size + 1) (by simp) ?_
              intro gg cap4 w7 hown4 hgrow hat hlt4
              have hB4 := Fq.growA T5.out.1 T5.out.2 hgrow hown4
              have q1 : w7.cell? ⟨w.heap.size, 1, none⟩ = some (.slice a es.length cap) := hB4.b.cell 1
              have f1 : w7.frozen? ⟨w.heap.size, 1, none⟩ = false := hB4.b.free 1
              have hbl7 := hB4.b.lt
              have B7 := Lib.hid (hB4.put 1 (.slice (some ⟨gg, 0, none⟩) (es.length + 1) cap4))
              clear hown4 hgrow hat hlt4 hB4 c5 hsz5 hbl5 T5
              refine hK _ _ ?_
              clear hK K
              try simp only [Act.put, List.setIfInBounds_toArray, List.set_cons_zero, List.set_cons_succ]
              refine wpAny_take (i := 7) (v := ?vq9) (by simp only [List.getElem?_toArray, List.getElem?_cons_succ, List.getElem?_cons_zero]; rfl) (by kernel_rfl) (by kernel_rfl) (by kernel_rfl) (by exact fun _ _ _ h => h) (Or.inl ⟨by rfl, ?yq9⟩) ?_
              case yq9 => (intro W9; go_simp; try (with_reducible rfl))
              try simp only [Act.put, List.setIfInBounds_toArray, List.set_cons_zero, List.set_cons_succ]
              refine wpAny_ready (rs := [8]) (by kernel_rfl) (by simp) ?_
              refine AllReady.cons (by simp only [List.getElem?_toArray, List.getElem?_cons_succ, List.getElem?_cons_zero]; rfl) (fun K hK => ?_) AllReady.nil
              go_simp
              refine hK _ _ ?_
              clear hK K
              try simp only [Act.put, List.setIfInBounds_toArray, List.set_cons_zero, List.set_cons_succ]
              refine wpAny_done (by kernel_rfl) ?_ _
              clear q1 f1
              have hn9 : n ≤ 63 := by have := HZ.out; omega
              go_wp2
              go_roundg gk
              case measure => omega
              case rel => exact ⟨d2, es ++ [((bs, b.tm), xa, xk)], some ⟨gg, 0, none⟩, cap4, n + 1, by go_num, by have h := HL.out; show _ + 1 = _; rw [List.length_append, List.length_singleton, ← h], by have := HZ.out; omega, HN.out.trans (by rw [HE.out, List.map_append, List.map_singleton, HBS.out]), by simpa using B7.out⟩
end Go.Proofs.YthiipgahbmoiiaaGreatDoor
