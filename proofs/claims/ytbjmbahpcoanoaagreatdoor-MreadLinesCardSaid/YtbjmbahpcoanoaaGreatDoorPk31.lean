/-
  Package mread's block: the walk. Conditions: the library's tables, its errors, and the Ops' names are there.
  Package mread's target, plainly; its state in memory. Conditions: the library's tables, its errors, and the Ops' names are there.
-/
import Derived.Test.YtbjmbahpcoanoaaGreatDoorPk30
namespace Go.Proofs.YtbjmbahpcoanoaaGreatDoor
open Go.RowKit

theorem as_term_one (t : Tt) (W : World) : (Instr.typeAssert (.iface 51 (termV t)) 20 51 false).run Tryz.prog W = .ok (termV t) W := by kernel_rfl
def kBlock : ByteArray := ⟨#[98, 108, 111, 99, 107]⟩
/-- A block's own lines: where its first line ends. -/
def Cu.headC (c : Cu) (n : Int) : Cu := ((c.keyedP kBlock).num n n).end_
theorem Fit.headC {c : Cu} (h : Fit c) (n : Int) : Fit (c.headC n) := ((h.keyedP _).num n n).end_
def blkC (b : Bb) (a : Option Addr) (k : Nat) : Array Value := #[.slice a b.ins.length k, .int .i64 b.tm.kind, .int .i64 b.tm.a, .int .i64 b.tm.t0, .int .i64 b.tm.t1]
def blkR (w0 w W : World) (q g : Nat) (c : Cu) (b : Bb) : Prop := ∃ (a : Option Addr) (k : Nat), Bk w0 w W q g c b.ins (.slice a b.ins.length k) (blkC b a k)
theorem more_went {w0 w : World} {q g : Nat} {c : Cu} (h : Rp w0 w q g c) : Calls Tryz.prog 71 #[.pointer (some ⟨g, 0, none⟩)] w fun e w' => e = .returned (.bool c.more) ∧ Went w0 w q g c w' := went_below h (more_any g c w h.C)
theorem end_went {w0 w : World} {q g : Nat} {c : Cu} (h : Rp w0 w q g c) : Calls Tryz.prog 70 #[.pointer (some ⟨g, 0, none⟩)] w fun e w' => e = .returned (.tuple #[]) ∧ Went w0 w q g c.end_ w' := went_call h h.fit.end_ (endC_any g c w h.C)
theorem fail_went {w0 w : World} {q g : Nat} {c : Cu} (e : Int) (h : Rp w0 w q g c) : Calls Tryz.prog 72 #[.pointer (some ⟨g, 0, none⟩), .int .i64 e] w fun e' w' => e' = .returned (.tuple #[]) ∧ Went w0 w q g (c.fail e) w' := went_call h (h.fit.fail e) (failC_any g c e w h.C)
set_option maxRecDepth 100000 in
set_option maxHeartbeats 8000000 in
theorem block_any (w0 w : World) (q g : Nat) (c : Cu) (n : Int) (hT : TabR w0) (h : Rp w0 w q g c) :
    Calls Tryz.prog 73 #[.pointer (some ⟨q, 0, none⟩), .int .i64 n] w fun e w' => (∃ (a : Option Addr) (k : Nat), e = .returned (.agg (blkC ((c.headC n).blk []).2 a k)) ∧ Bk w0 w w' q g ((c.headC n).blk []).1 ((c.headC n).blk []).2.ins (.slice a ((c.headC n).blk []).2.ins.length k) (blkC ((c.headC n).blk []).2 a k)) := by
 obtain ⟨i0, hi0, hz0, hz1, hz2⟩ := info_parts ins_info
 have B0 := Lib.hid (Bk.new h #[.slice none 0 0, .int .i64 0, .int .i64 0, .int .i64 0, .int .i64 0])
 have S1 : Hid (∀ W, Rp w0 W q g c → _) := fun W hr => keyP_any w0 W q g c kBlock hr
 have S2 : Hid (∀ W, Rp w0 W q g (c.keyedP kBlock) → _) := fun W hr => num_went n n hr
 have S3 : Hid (∀ W, Rp w0 W q g ((c.keyedP kBlock).num n n) → _) := fun W hr => end_went hr
 have few := h.fit.headC n
 have HF := Lib.hid few.few
 have m0 := B0.out.rp.cell
 have HD : Hid (((c.keyedP kBlock).num n n).end_ = c.headC n) := rfl
 have HT := Lib.hid hT
 clear h hT few
 rw [HD.out] at S3
 clear HD
 generalize hk1 : c.keyedP kBlock = k1 at *
 generalize hk2 : k1.num n n = k2 at *
 clear hk1 hk2
 generalize c.headC n = k3 at *
 unfold kBlock at S1
 go_enter Tryz.func73, Tryz.ntmps73
 go_wp2_with fail
 refine (S1.out _ B0.out.rp).mono ?_
 rintro e w1 ⟨rfl, h1⟩
 have B1 := Lib.hid (B0.out.call h1)
 have m1 := B1.out.rp.cell
 clear h1 B0 S1 m0
 go_wp2_with fail
 refine (S2.out _ B1.out.rp).mono ?_
 rintro e w2 ⟨rfl, h2⟩
 have B2 := Lib.hid (B1.out.call h2)
 have m2 := B2.out.rp.cell
 clear h2 B1 S2 m1
 go_wp2_with fail
 refine (S3.out _ B2.out.rp).mono ?_
 rintro e w3 ⟨rfl, h3⟩
 have B3 := Lib.hid (B2.out.call h3)
 clear h3 B2 S3 m2
 go_wp2
 go_loopg [] k3.left.length (fun gk wr => ∃ (d : Cu) (l : List Ii) (a : Option Addr) (cap : Nat), d.left.length ≤ gk ∧ l.length + d.left.length ≤ 1000000 ∧ k3.blk [] = d.blk l ∧ Bk w0 w wr q g d l (.slice a l.length cap) #[.slice a l.length cap, .int .i64 0, .int .i64 0, .int .i64 0, .int .i64 0])
 case atStart => exact ⟨k3, [], none, 0, Nat.le_refl _, by have := HF.out; simp; omega, rfl, B3.out⟩
 case round =>
  obtain ⟨d, l, a, cap, hg, hlen, hN, hB⟩ := hrel
  have HB := Lib.hid hB
  have HN := Lib.hid hN
  have m0 := hB.rp.cell
  have hfit := Lib.hid hB.rp.fit
  have M := Lib.hid (more_went hB.rp)
  clear hB hN HF B3
  by_cases hm : d.more = true
  · rw [hm] at M
    have P : Hid (∀ W, Rp w0 W q g d → _) := fun W hr => part_any w0 W q g d HT.out hr
    cases hp : d.partP with
    | inr t =>
     have HE := Lib.hid (blk_end hm hp l)
     rw [hp] at P
     have E : Hid (∀ W, Rp w0 W q g d.partC → _) := fun W hr => end_went hr
     clear hp hm
     generalize d.partC = d1 at *
     generalize d1.end_ = d2 at *
     have e0 := as_ins_term (termV t)
     have e1 := as_term_one t
     unfold partV at P
     have SV := termV.eq_1 t
     go_wp2_with fail
     refine M.out.mono ?_
     rintro e w4 ⟨rfl, h4⟩
     have B4 := Lib.hid (HB.out.call h4)
     have m4 := B4.out.rp.cell
     clear h4 M HB m0
     go_wp2_with fail
     refine (P.out _ B4.out.rp).mono ?_
     rintro e w5 ⟨rfl, h5⟩
     have B5w := Lib.hid (B4.out.call h5)
     clear h5 B4 P m4
     have HP := Lib.hid (((((B5w.out.put 1 (.int .i64 t.kind)).put 2 (.int .i64 t.a)).put 3 (.int .i64 t.t0)).put 4 (.int .i64 t.t1)).alloc (.cells #[.int .i64 0, .int .i64 0, .int .i64 0, .int .i64 0, .int .i64 0, .int .i64 0, .slice none 0 0, .int .i64 0] 46))
     have c1 : w5.cell? ⟨w.heap.size, 1, none⟩ = some (.int .i64 0) := B5w.out.b.cell 1
     have c2 : w5.cell? ⟨w.heap.size, 2, none⟩ = some (.int .i64 0) := B5w.out.b.cell 2
     have c3 : w5.cell? ⟨w.heap.size, 3, none⟩ = some (.int .i64 0) := B5w.out.b.cell 3
     have c4 : w5.cell? ⟨w.heap.size, 4, none⟩ = some (.int .i64 0) := B5w.out.b.cell 4
     have f1 := B5w.out.b.free 1
     have f2 := B5w.out.b.free 2
     have f3 := B5w.out.b.free 3
     have f4 := B5w.out.b.free 4
     have hbl := B5w.out.b.lt
     have m5 := B5w.out.rp.cell
     have hql := B5w.out.rp.R.lt
     rw [SV] at e0 e1 ⊢
     go_wp2_with fail
     refine (E.out _ HP.out.rp).mono ?_
     rintro e w6 ⟨rfl, h6⟩
     have B6 : Hid (Bk w0 w w6 q g d2 l (.slice a l.length cap) #[.slice a l.length cap, .int .i64 t.kind, .int .i64 t.a, .int .i64 t.t0, .int .i64 t.t1]) := HP.out.call h6
     clear h6 HP B5w E c1 c2 c3 c4 f1 f2 f3 f4 m5 e0 e1 hbl hql
     have g0 : w6.cell? ⟨w.heap.size, 0, none⟩ = some (.slice a l.length cap) := B6.out.b.cell 0
     have g1 : w6.cell? ⟨w.heap.size, 1, none⟩ = some (.int .i64 t.kind) := B6.out.b.cell 1
     have g2 : w6.cell? ⟨w.heap.size, 2, none⟩ = some (.int .i64 t.a) := B6.out.b.cell 2
     have g3 : w6.cell? ⟨w.heap.size, 3, none⟩ = some (.int .i64 t.t0) := B6.out.b.cell 3
     have g4 : w6.cell? ⟨w.heap.size, 4, none⟩ = some (.int .i64 t.t1) := B6.out.b.cell 4
     have z0 := B6.out.b.free 0
     have z1 := B6.out.b.free 1
     have z2 := B6.out.b.free 2
     have z3 := B6.out.b.free 3
     have z4 := B6.out.b.free 4
     go_wp2
     (try simp only [Exit.inBlock, Exit.then])
     have HQ := (((((B6.out.put 0 (.slice a l.length cap)).put 1 (.int .i64 t.kind)).put 2 (.int .i64 t.a)).put 3 (.int .i64 t.t0)).put 4 (.int .i64 t.t1))
     refine bodyPost_ret (results_cell_row rfl _ _ w.heap.size 53 _ (0, 0) _ (by simp) HQ.b Tryz.underlying53 rfl block_size) rfl ?_
     have hE : k3.blk [] = (d2, ⟨l, t⟩) := HN.out.trans HE.out
     rw [hE]
     exact ⟨a, cap, rfl, HQ⟩
    | inl x =>
     have HE := Lib.hid (blk_ins hfit.out hm hp l)
     have hless := line_less (hfit.out.longC l.length).ok (mp_longC_len d l.length) hm
     have hpos := more_pos hm
     have hx := partP_args hp
     rw [hp] at P
     unfold Cu.longC at HE hless
     have SV : insV x none 0 = .agg #[.int .i64 x.op, .int .i64 x.dst, .int .i64 x.a, .int .i64 x.b, .int .i64 x.imm, .int .i64 x.callee, .slice none 0 0, .int .i64 x.many] := by unfold insV; rw [hx]; rfl
     have e0 := as_ins_ins x none 0
     have PV : partV (.inl x) = .iface 46 (.agg #[.int .i64 x.op, .int .i64 x.dst, .int .i64 x.a, .int .i64 x.b, .int .i64 x.imm, .int .i64 x.callee, .slice none 0 0, .int .i64 x.many]) := by show Value.iface _ (insV x none 0) = _; rw [SV]
     rw [PV] at P
     rw [SV] at e0
     clear hp hm SV hx PV
     generalize d.partC = d1 at *
     cases gk with
     | zero => exfalso; omega
     | succ gk =>
      go_wp2_with fail
      refine M.out.mono ?_
      rintro e w4 ⟨rfl, h4⟩
      have B4 := Lib.hid (HB.out.call h4)
      have m4 := B4.out.rp.cell
      clear h4 M HB m0
      go_wp2_with fail
      refine (P.out _ B4.out.rp).mono ?_
      rintro e w5 ⟨rfl, h5⟩
      have B5 := Lib.hid (B4.out.call h5)
      have HX5 : Hid (Blk (w5.alloc (.cells #[.int .i64 x.op, .int .i64 x.dst, .int .i64 x.a, .int .i64 x.b, .int .i64 x.imm, .int .i64 x.callee, .slice none 0 0, .int .i64 x.many] 46)) w5.heap.size 46 #[.int .i64 x.op, .int .i64 x.dst, .int .i64 x.a, .int .i64 x.b, .int .i64 x.imm, .int .i64 x.callee, .slice none 0 0, .int .i64 x.many]) := Blk.new w5 _ _
      have B5b := Lib.hid (B5.out.alloc (.cells #[.int .i64 x.op, .int .i64 x.dst, .int .i64 x.a, .int .i64 x.b, .int .i64 x.imm, .int .i64 x.callee, .slice none 0 0, .int .i64 x.many] 46))
      have c0 : w5.cell? ⟨w.heap.size, 0, none⟩ = some (.slice a l.length cap) := B5.out.b.cell 0
      have hbl := B5.out.b.lt
      have m5 := B5.out.rp.cell
      have hql := B5.out.rp.R.lt
      clear h5 B4 P m4
      by_cases hn : l.length = 4000
      · rw [if_pos hn] at HE hless
        have hn1 : (l.length : Int) = 4000 := by omega
        have F : Hid (∀ W, Rp w0 W q g d1 → _) := fun W hr => fail_went 3 hr
        have E : Hid (∀ W, Rp w0 W q g (d1.fail 3) → _) := fun W hr => end_went hr
        generalize d1.fail 3 = d1f at *
        generalize d1f.end_ = d2 at *
        go_wp2_with fail
        refine (F.out _ B5b.out.rp).mono ?_
        rintro e W6 ⟨rfl, h6⟩
        have B6 := Lib.hid (B5b.out.call h6)
        have HX : Hid (Blk W6 w5.heap.size 46 #[.int .i64 x.op, .int .i64 x.dst, .int .i64 x.a, .int .i64 x.b, .int .i64 x.imm, .int .i64 x.callee, .slice none 0 0, .int .i64 x.many]) := by
         obtain ⟨ds, hds⟩ := cur_blk B5b.out.rp.C
         exact Blk.keep HX5.out h6.2 (blk_ne HX5.out hds (by decide))
        clear h6 B5b B5 HX5 F c0 hbl m5 hql e0 hn hn1
        generalize w5.heap.size = bx at *
        have x0 : W6.cell? ⟨bx, 0, none⟩ = some (.int .i64 x.op) := HX.out.cell 0
        have x1 : W6.cell? ⟨bx, 1, none⟩ = some (.int .i64 x.dst) := HX.out.cell 1
        have x2 : W6.cell? ⟨bx, 2, none⟩ = some (.int .i64 x.a) := HX.out.cell 2
        have x3 : W6.cell? ⟨bx, 3, none⟩ = some (.int .i64 x.b) := HX.out.cell 3
        have x4 : W6.cell? ⟨bx, 4, none⟩ = some (.int .i64 x.imm) := HX.out.cell 4
        have x5 : W6.cell? ⟨bx, 5, none⟩ = some (.int .i64 x.callee) := HX.out.cell 5
        have x6 : W6.cell? ⟨bx, 6, none⟩ = some (.slice none 0 0) := HX.out.cell 6
        have x7 : W6.cell? ⟨bx, 7, none⟩ = some (.int .i64 x.many) := HX.out.cell 7
        have c0 : W6.cell? ⟨w.heap.size, 0, none⟩ = some (.slice a l.length cap) := B6.out.b.cell 0
        have hbl := B6.out.b.lt
        have hxl := HX.out.lt
        have hsz := B6.out.k.size
        have hne : q ≠ w.heap.size := blk_ne B6.out.rp.R B6.out.b (by decide)
        go_wp2_with (at_builtin; go_must (refine wpList_append_lies _ rfl _ _ _ rfl w.heap.size 46 i0 _ 8 80 Tryz.underlying47 hi0 hz0 hz1 hz2 rfl (by omega) (.slice a l.length cap) l.length (l.flatMap inC) rfl (World.ownsRow.alloc B6.out.row _) ⟨W6.heap.size, 0, none⟩ 1 1 (inC x) rfl rfl (World.news_of_block (heap_alloc_new W6 _)) (inC_one x) (by omega) (by simp only [maxLen]; omega) (by omega) (by simp; omega) (W6.heap.size + 1) (by simp) ?_; intro gg cap4 w7 hown4 hgrow hat hlt4; have hB4 := (Bk.growA B6.out hgrow hown4); have q1 : w7.cell? ⟨w.heap.size, 0, none⟩ = some (.slice a l.length cap) := (by exact hB4.b.cell 0); have f1 : w7.frozen? ⟨w.heap.size, 0, none⟩ = false := (by exact hB4.b.free 0); have m7 : w7.cell? ⟨q, 0, none⟩ = some (.pointer (some ⟨g, 0, none⟩)) := (by exact hB4.rp.cell)))
        have B7 := Lib.hid (hB4.put 0 (.slice (some ⟨gg, 0, none⟩) (l.length + 1) cap4))
        clear hown4 hgrow hat hlt4 hB4 q1 f1 x0 x1 x2 x3 x4 x5 x6 x7 c0 hbl hxl hsz B6 HX
        go_wp2_with fail
        refine (E.out _ B7.out.rp).mono ?_
        rintro e w8 ⟨rfl, h8⟩
        have B8 := Lib.hid (B7.out.call h8)
        clear h8 B7 E m7
        go_wp2
        go_roundg gk
        case measure => omega
        case rel => exact ⟨d2, l ++ [x], some ⟨gg, 0, none⟩, cap4, by omega, by simp; omega, HN.out.trans HE.out, by simpa using B8.out⟩
      · rw [if_neg hn] at HE hless
        have hn1 : ¬ (l.length : Int) = 4000 := by omega
        have E : Hid (∀ W, Rp w0 W q g d1 → _) := fun W hr => end_went hr
        generalize d1.end_ = d2 at *
        go_upto_region 13 with fail
        have B6 := B5b
        have HX := HX5
        clear B5b B5 HX5 c0 hbl m5 hql e0 hn hn1
        generalize w5.alloc (.cells #[.int .i64 x.op, .int .i64 x.dst, .int .i64 x.a, .int .i64 x.b, .int .i64 x.imm, .int .i64 x.callee, .slice none 0 0, .int .i64 x.many] 46) = W6 at *
        generalize w5.heap.size = bx at *
        have x0 : W6.cell? ⟨bx, 0, none⟩ = some (.int .i64 x.op) := HX.out.cell 0
        have x1 : W6.cell? ⟨bx, 1, none⟩ = some (.int .i64 x.dst) := HX.out.cell 1
        have x2 : W6.cell? ⟨bx, 2, none⟩ = some (.int .i64 x.a) := HX.out.cell 2
        have x3 : W6.cell? ⟨bx, 3, none⟩ = some (.int .i64 x.b) := HX.out.cell 3
        have x4 : W6.cell? ⟨bx, 4, none⟩ = some (.int .i64 x.imm) := HX.out.cell 4
        have x5 : W6.cell? ⟨bx, 5, none⟩ = some (.int .i64 x.callee) := HX.out.cell 5
        have x6 : W6.cell? ⟨bx, 6, none⟩ = some (.slice none 0 0) := HX.out.cell 6
        have x7 : W6.cell? ⟨bx, 7, none⟩ = some (.int .i64 x.many) := HX.out.cell 7
        have c0 : W6.cell? ⟨w.heap.size, 0, none⟩ = some (.slice a l.length cap) := B6.out.b.cell 0
        have hbl := B6.out.b.lt
        have hxl := HX.out.lt
        have hsz := B6.out.k.size
        have hne : q ≠ w.heap.size := blk_ne B6.out.rp.R B6.out.b (by decide)
        go_wp2_with (at_builtin; go_must (refine wpList_append_lies _ rfl _ _ _ rfl w.heap.size 46 i0 _ 8 80 Tryz.underlying47 hi0 hz0 hz1 hz2 rfl (by omega) (.slice a l.length cap) l.length (l.flatMap inC) rfl (World.ownsRow.alloc B6.out.row _) ⟨W6.heap.size, 0, none⟩ 1 1 (inC x) rfl rfl (World.news_of_block (heap_alloc_new W6 _)) (inC_one x) (by omega) (by simp only [maxLen]; omega) (by omega) (by simp; omega) (W6.heap.size + 1) (by simp) ?_; intro gg cap4 w7 hown4 hgrow hat hlt4; have hB4 := (Bk.growA B6.out hgrow hown4); have q1 : w7.cell? ⟨w.heap.size, 0, none⟩ = some (.slice a l.length cap) := (by exact hB4.b.cell 0); have f1 : w7.frozen? ⟨w.heap.size, 0, none⟩ = false := (by exact hB4.b.free 0); have m7 : w7.cell? ⟨q, 0, none⟩ = some (.pointer (some ⟨g, 0, none⟩)) := (by exact hB4.rp.cell)))
        have B7 := Lib.hid (hB4.put 0 (.slice (some ⟨gg, 0, none⟩) (l.length + 1) cap4))
        clear hown4 hgrow hat hlt4 hB4 q1 f1 x0 x1 x2 x3 x4 x5 x6 x7 c0 hbl hxl hsz B6 HX
        go_wp2_with fail
        refine (E.out _ B7.out.rp).mono ?_
        rintro e w8 ⟨rfl, h8⟩
        have B8 := Lib.hid (B7.out.call h8)
        clear h8 B7 E m7
        go_wp2
        go_roundg gk
        case measure => omega
        case rel => exact ⟨d2, l ++ [x], some ⟨gg, 0, none⟩, cap4, by omega, by simp; omega, HN.out.trans HE.out, by simpa using B8.out⟩
  · -- none
    have hm2 : d.more = false := by simpa using hm
    rw [hm2] at M
    have HE := Lib.hid (blk_none hm2 l)
    have F : Hid (∀ W, Rp w0 W q g d → _) := fun W hr => fail_went 7 hr
    generalize d.fail 7 = d2 at *
    clear hm hm2
    go_wp2_with fail
    refine M.out.mono ?_
    rintro e w4 ⟨rfl, h4⟩
    have B4 := Lib.hid (HB.out.call h4)
    have m4 := B4.out.rp.cell
    clear h4 M HB m0
    go_wp2_with fail
    (try simp only [Exit.inBlock, Exit.then])
    (try go_wp2_with fail)
    refine (F.out _ B4.out.rp).mono ?_
    rintro e w6 ⟨rfl, h6⟩
    have B6 := Lib.hid (B4.out.call h6)
    clear h6 B4 F m4
    have g0 : w6.cell? ⟨w.heap.size, 0, none⟩ = some (.slice a l.length cap) := B6.out.b.cell 0
    have g1 : w6.cell? ⟨w.heap.size, 1, none⟩ = some (.int .i64 0) := B6.out.b.cell 1
    have g2 : w6.cell? ⟨w.heap.size, 2, none⟩ = some (.int .i64 0) := B6.out.b.cell 2
    have g3 : w6.cell? ⟨w.heap.size, 3, none⟩ = some (.int .i64 0) := B6.out.b.cell 3
    have g4 : w6.cell? ⟨w.heap.size, 4, none⟩ = some (.int .i64 0) := B6.out.b.cell 4
    have z0 := B6.out.b.free 0
    have z1 := B6.out.b.free 1
    have z2 := B6.out.b.free 2
    have z3 := B6.out.b.free 3
    have z4 := B6.out.b.free 4
    go_wp2
    (try simp only [Exit.inBlock, Exit.then])
    have HQ := (((((B6.out.put 0 (.slice a l.length cap)).put 1 (.int .i64 0)).put 2 (.int .i64 0)).put 3 (.int .i64 0)).put 4 (.int .i64 0))
    refine bodyPost_ret (results_cell_row rfl _ _ w.heap.size 53 _ (0, 0) _ (by simp) HQ.b Tryz.underlying53 rfl block_size) rfl ?_
    have hE : k3.blk [] = (d2, ⟨l, ⟨0, 0, 0, 0⟩⟩) := HN.out.trans HE.out
    rw [hE]
    exact ⟨a, cap, rfl, HQ⟩
end Go.Proofs.YtbjmbahpcoanoaaGreatDoor
namespace Go.Proofs.YtbjmbahpcoanoaaGreatDoor
open Go.RowKit

def kTarget : ByteArray := ⟨#[116, 97, 114, 103, 101, 116]⟩
/-- A target's blocks: so many may still come, so many are there. -/
def tgGo : Nat → Nat → Cu → List Bb → Cu × List Bb
 | 0, n, c, bs => if n = 0 ∨ c.more = true then (c.fail 3, bs) else (c, bs)
 | f + 1, n, c, bs => if n = 0 ∨ c.more = true then tgGo f (n + 1) ((c.headC n).blk []).1 (bs ++ [((c.headC n).blk []).2]) else (c, bs)
def Cu.tgHead (c : Cu) : Cu := ((c.keyedP kTarget).num 0 400).end_
def Cu.tgC (c : Cu) : Cu := (tgGo 200 0 c.tgHead []).1
def Cu.tgG (c : Cu) : Gg := ⟨(c.keyedP kTarget).numN 0 400, (tgGo 200 0 c.tgHead []).2⟩
theorem tg_step {f n : Nat} {c : Cu} (h : n = 0 ∨ c.more = true) (bs : List Bb) : tgGo (f + 1) n c bs = tgGo f (n + 1) ((c.headC n).blk []).1 (bs ++ [((c.headC n).blk []).2]) := by rw [tgGo, if_pos h]
theorem tg_stop {f n : Nat} {c : Cu} (h : ¬ (n = 0 ∨ c.more = true)) (bs : List Bb) : tgGo f n c bs = (c, bs) := by
 cases f with
 | zero => rw [tgGo, if_neg h]
 | succ f => rw [tgGo, if_neg h]
theorem tg_full {n : Nat} {c : Cu} (h : n = 0 ∨ c.more = true) (bs : List Bb) : tgGo 0 n c bs = (c.fail 3, bs) := by rw [tgGo, if_pos h]
/-- A block whose row was made from there on. -/
def OwnB (W : World) (B : Nat) (e : WB) : Prop := W.ownsRow B 46 8 (.slice e.2.1 e.1.ins.length e.2.2) e.1.ins.length (e.1.ins.flatMap inC)
theorem mp_own_base {W : World} {B B' sz n : Nat} {e : TypeId} {v : Value} {xs : List Value} (h : W.ownsRow B e sz v n xs) (hb : B' ≤ B) : W.ownsRow B' e sz v n xs := by
 obtain ⟨h1, h2⟩ := h
 refine ⟨h1, ?_⟩
 rcases h2 with h2 | ⟨g, cap, cur, hv, hB, hh, r⟩
 · exact .inl h2
 · exact .inr ⟨g, cap, cur, hv, Nat.le_trans hb hB, hh, r⟩
theorem CurC.grownB {w w' : World} {g : Nat} {c : Cu} {row : Option Nat} (h : CurC w g c) (hb : w.grownBy w' row) (hr : ∀ k t cs, Blk w k t cs → 53 ≠ t → some k ≠ row) : CurC w' g c := by
 obtain ⟨a, cap, hc, hl, hm, hi⟩ := h
 refine ⟨a, cap, hc.grown hb (hr _ _ _ hc (by decide)), hl, hm, fun k x hx => ?_⟩
 obtain ⟨gg, o, cs, ha, hg, r⟩ := hi k x hx
 exact ⟨gg, o, cs, ha, hg.grown hb (hr _ _ _ hg (by decide)), r⟩
theorem own_grown {w w' : World} {B sz n : Nat} {e : TypeId} {v : Value} {xs : List Value} {row : Option Nat} (h : w.ownsRow B e sz v n xs) (hb : w.grownBy w' row) (hr : ∀ k cs, Blk w k e cs → some k ≠ row) : w'.ownsRow B e sz v n xs := by
 obtain ⟨h1, h2⟩ := h
 refine ⟨h1, ?_⟩
 rcases h2 with h2 | ⟨q, cap, cur, rfl, hq, hh, r⟩
 · exact .inl h2
 · exact .inr ⟨q, cap, cur, rfl, hq, by rw [hb.block q (Array.getElem?_eq_some_iff.1 hh).1 (hr q _ hh)]; exact hh, r⟩
/-- A target that is being read: its box, its blocks' row, the rows of each. -/
structure Tk (w0 w W : World) (q g : Nat) (c : Cu) (es : List WB) (v : Value) (cs : Array Value) : Prop where
 rp : Rp w0 W q g c
 b : Blk W w.heap.size 24 cs
 row : W.ownsRow w.heap.size 53 5 v es.length (es.flatMap wbC)
 rows : ∀ e ∈ es, OwnB W w.heap.size e
 k : Keep w.heap.size g w W
 le : w0.heap.size ≤ w.heap.size
section
variable {w0 w W W' w4 : World} {q g : Nat} {c d : Cu} {es : List WB} {v : Value} {cs : Array Value}
theorem Tk.call (h : Tk w0 w W q g c es v cs) (hw : Went w0 W q g d W') : Tk w0 w W' q g d es v cs := by
 obtain ⟨ds, hds⟩ := cur_blk h.rp.C
 exact ⟨hw.1, Blk.keep h.b hw.2 (blk_ne h.b hds (by decide)), own_kept h.row hw.2 hds (by decide), fun e he => own_kept (h.rows e he) hw.2 hds (by decide), h.k.then_keep hw.2, h.le⟩
theorem Tk.below (h : Tk w0 w W q g c es v cs) (hb : Below W.heap.size W W') : Tk w0 w W' q g c es v cs :=
 ⟨h.rp.below hb, h.b.below hb h.b.lt, own_keep h.row ⟨hb.size, fun k _ hk => hb.block k hk⟩, fun e he => own_keep (h.rows e he) ⟨hb.size, fun k _ hk => hb.block k hk⟩, h.k.then_below hb, h.le⟩
theorem Tk.alloc (h : Tk w0 w W q g c es v cs) (o : Obj) : Tk w0 w (W.alloc o) q g c es v cs := h.below ((Below.refl _ _).alloc (Nat.le_refl _) _)
theorem Tk.drew (h : Tk w0 w W q g c es v cs) : Tk w0 w W.drew q g c es v cs := h.below ((Below.refl _ _).drew)
theorem Tk.put (h : Tk w0 w W q g c es v cs) (j : Nat) (u : Value) : Tk w0 w (W.setCell ⟨w.heap.size, j, none⟩ u) q g c es v (cs.setIfInBounds j u) :=
 ⟨⟨h.rp.C.keep (Keep.put _ _ _ _ _) h.b (by decide) (by decide), h.rp.R.far (p := ⟨w.heap.size, j, none⟩) (blk_ne h.rp.R h.b (by decide)) u, h.rp.be.setCell (p := ⟨w.heap.size, j, none⟩) h.le u, h.rp.hg, h.rp.fit⟩, h.b.put j u,
  own_put h.row (p := ⟨w.heap.size, j, none⟩) (own_ne h.row h.b (by decide)) u, fun e he => own_put (h.rows e he) (p := ⟨w.heap.size, j, none⟩) (own_ne (h.rows e he) h.b (by decide)) u,
  h.k.trans ⟨rfl, rfl, rfl, by simp [World.setCell], fun k hk _ => Below.heap_setCell W ⟨w.heap.size, j, none⟩ u k (by show k ≠ w.heap.size; omega)⟩, h.le⟩
theorem Tk.new (h : Rp w0 w q g c) (cs : Array Value) : Tk w0 w (w.alloc (.cells cs 24)) q g c [] (.slice none 0 0) cs :=
 ⟨h.below ((Below.refl _ _).alloc (Nat.le_refl _) _), Blk.new w _ _, World.ownsRow_nil _ _ _ _, (by simp), Keep.alloc (Nat.le_refl _) g _, h.be.size⟩
theorem Tk.grown {v2 : Value} {x : WB} (h : Tk w0 w W q g c es v cs) (hx : OwnB W w.heap.size x) (hg : W.grownBy w4 v.ownBlock) (ho : w4.ownsRow w.heap.size 53 5 v2 (es.length + 1) (es.flatMap wbC ++ wbC x)) : Tk w0 w w4 q g c (es ++ [x]) v2 cs := by
 have hr : ∀ k t cs, Blk W k t cs → 53 ≠ t → some k ≠ v.ownBlock := fun k t cs hk ht => own_ne h.row hk ht
 have hI : ∀ k cs, Blk W k 46 cs → some k ≠ v.ownBlock := fun k cs hk => hr k _ cs hk (by decide)
 refine ⟨⟨h.rp.C.grownB hg hr, h.rp.R.grown hg (hr _ _ _ h.rp.R (by decide)), h.rp.be.grown hg h.rp.be.size (fun k hk => Nat.le_trans h.le (h.row.lt k hk).1), h.rp.hg, h.rp.fit⟩, h.b.grown hg (hr _ _ _ h.b (by decide)), ?_, fun e he => ?_, h.k.trans (Keep.grown hg h.k.size (fun k hk => (h.row.lt k hk).1) g), h.le⟩
 · rw [List.flatMap_append, List.length_append]
   simpa using ho
 · rcases List.mem_append.1 he with he | he
   · exact own_grown (h.rows e he) hg hI
   · rw [List.mem_singleton] at he
     subst he
     exact own_grown hx hg hI
/-- Behind a block's call: its row is a new one. -/
theorem Tk.block {b : Bb} {a : Option Addr} {n : Nat} {bs : Array Value} (h : Tk w0 w W q g c es v cs) (hb : Bk w0 W W' q g d b.ins (.slice a b.ins.length n) bs) : Tk w0 w W' q g d es v cs ∧ OwnB W' w.heap.size (b, a, n) :=
 ⟨h.call ⟨hb.rp, hb.k⟩, mp_own_base hb.row h.k.size⟩
end
end Go.Proofs.YtbjmbahpcoanoaaGreatDoor
