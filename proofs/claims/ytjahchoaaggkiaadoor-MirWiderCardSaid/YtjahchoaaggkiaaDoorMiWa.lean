/-
  The walk of the statement MirWider: it answers true for any machine, target, instruction and number. No condition beyond those that each theorem states.
-/
import Derived.Test.YtjahchoaaggkiaaDoorMiZ
import Derived.Test.YtjahchoaaggkiaaDoorMiK
import Derived.Test.YtjahchoaaggkiaaDoorMiCt
namespace Go.Proofs.YtjahchoaaggkiaaDoor
open Go.RowKit

/-- A machine, a target, an instruction, each in a box of its own. -/
structure TriG (w W : World) (m : Mm) (aa sa : Option Addr) (ac sc : Nat) (t : Gg) (ba : Option Addr) (bc : Nat) (x : Ii) (xa : Option Addr) (xc : Nat) : Prop where
  two : TwoG w W m aa sa ac sc t ba bc
  ix : Blk W (w.heap.size + 1 + 1) 27 (insC x xa xc)
theorem TriG.new (w : World) (m : Mm) (aa sa : Option Addr) (ac sc : Nat) (t : Gg) (ba : Option Addr) (bc : Nat) (x : Ii) (xa : Option Addr) (xc : Nat) : TriG w (((w.alloc (.cells (maxC m aa ac sa sc) 24)).alloc (.cells (tgC t ba bc) 41)).alloc (.cells (insC x xa xc) 27)) m aa sa ac sc t ba bc x xa xc :=
  ⟨(TwoG.new w m aa sa ac sc t ba bc).alloc _, blk_at _ _ (by simp)⟩
theorem TriG.below {w W W' : World} {m : Mm} {aa sa : Option Addr} {ac sc : Nat} {t : Gg} {ba : Option Addr} {bc : Nat} {x : Ii} {xa : Option Addr} {xc : Nat} (h : TriG w W m aa sa ac sc t ba bc x xa xc) (hb : Below W.heap.size W W') : TriG w W' m aa sa ac sc t ba bc x xa xc :=
  ⟨h.two.below hb, h.ix.below hb h.ix.lt⟩
theorem insW_one {W : World} {g : Nat} {ty : TypeId} {x : Ii} {xa : Option Addr} {xc : Nat} (h : Blk W g ty (insC x xa xc)) (hn : xa = none → xc = 0) (hi : IntsW W xa x.args) : InsW W (some ⟨g, 0, none⟩) [x] := fun k y hy => by
  cases k with
  | succ k => simp at hy
  | zero =>
    simp only [List.getElem?_cons_zero, Option.some.injEq] at hy
    subst hy
    exact ⟨g, 0, xa, xc, rfl, h.lt, ⟨h.cell 0, h.cell 1, h.cell 2, h.cell 3, h.cell 4, h.cell 5, h.cell 6, h.cell 7, hn, hi⟩⟩
/-- The cell that holds a block's instructions. -/
theorem rowB_cell {w : World} {B g n cap : Nat} {es : List BE} (h : RowB w B (.slice (some ⟨g, 0, none⟩) n cap) es) {k : Nat} {e : BE} (he : es[k]? = some e) : w.cell? ⟨g, k * 5, none⟩ = some (.slice e.2.2.1 e.2.1.length e.2.2.2) ∧ w.frozen? ⟨g, k * 5, none⟩ = false ∧ g < w.heap.size ∧ B ≤ g := by
  have hkl := (List.getElem?_eq_some_iff.1 he).1
  have hn : n = es.length := by
    rcases h.2 with ⟨h2, _⟩ | ⟨g2, cap2, cur2, e2, _⟩
    · cases h2
    · injection e2 with _ e22 _
  refine ⟨?_, ?_, (World.ownsRow.lt h g rfl).2, (World.ownsRow.lt h g rfl).1⟩
  · subst hn
    rw [show k * 5 = k * 5 + 0 from rfl, World.ownsRow.cellAt h (k * 5 + 0) (by omega), flat_cell beC 5 be_len es k e 0 he (by omega)]
    rfl
  · rcases h.2 with ⟨h2, _⟩ | ⟨g2, cap2, cur2, e2, _, hh2, _⟩
    · cases h2
    · injection e2 with e21 _ _
      injection e21 with e21
      injection e21 with e21
      subst e21
      exact Blk.free hh2 _
/-- A call that keeps what there is, from an elder world on. -/
theorem wider_keep {A W : World} {F : Nat} {args : Array Value} {v : Value} (h : Calls Tryd.prog F args W fun e w' => e = .returned v ∧ Below W.heap.size W w') (hb : Below A.heap.size A W) :
    Calls Tryd.prog F args W fun e w' => e = .returned v ∧ Below A.heap.size A w' := h.mono fun _ _ ⟨h1, h2⟩ => ⟨h1, hb.trans (h2.mono hb.size)⟩
set_option maxHeartbeats 16000000 in
set_option maxRecDepth 100000 in
theorem mirWider_any (m : Mm) (aa sa : Option Addr) (ac sc : Nat) (t : Gg) (ba : Option Addr) (bc : Nat) (x : Ii) (xa : Option Addr) (xc : Nat) (at0 : Int) (w : World) (hl : m.args.length ≤ 140737488355328) (hs : m.saved.length ≤ 140737488355328) (hM : MaW w m aa sa) (hB : BlsW w ba t.blocks) (hbl : t.blocks.length ≤ 140737488355328) (hbs : ∀ x ∈ t.blocks, x.ins.length ≤ 140737488355328 ∧ ∀ i ∈ x.ins, i.args.length ≤ 140737488355328) (hxl : x.args.length ≤ 140737488355328) (hxn : xa = none → xc = 0) (hxi : IntsW w xa x.args) (hT : TabW w) :
    Calls Tryd.prog 7 #[machV m aa ac sa sc, tgV t ba bc, insV x xa xc, .int .i64 at0] w fun e w' => e = .returned (.bool true) ∧ Below w.heap.size w w' := by
  have HG0 := Lib.hid (TriG.new w m aa sa ac sc t ba bc x xa xc)
  have HBL := Lib.hid hB
  have HBS := Lib.hid hbs
  have HMW := Lib.hid hM
  have HTW := Lib.hid hT
  have HXI := Lib.hid hxi
  have HM := Lib.hid (maxC.eq_1 m aa ac sa sc)
  have HC := Lib.hid (tgC.eq_1 t ba bc)
  have HI := Lib.hid (insC.eq_1 x xa xc)
  have HAW := Lib.hid (awakeT_any _ (hT.below HG0.out.two.be))
  rw [HM.out, HC.out, HI.out] at HG0 HAW
  clear hM hB hbs hT hxi
  unfold machV tgV insV
  rw [HM.out, HC.out]
  go_enter Tryd.func7, Tryd.ntmps7
  go_wp2_with fail
  refine HAW.out.mono ?_
  rintro e w1 ⟨rfl, hb⟩
  have HG := Lib.hid (HG0.out.below hb)
  clear hb HG0 HAW
  have CT : Hid (∀ W, Below w1.heap.size w1 W → Calls Tryd.prog 18 #[tgV t ba bc, .int .i64 1500] W fun e w' => (∃ n : Nat, e = .returned (.int .i64 n) ∧ n ≤ 1000000000000000 ∧ Hid (n ≤ 1500 → FewG t.blocks)) ∧ Below w1.heap.size w1 w') := fun W h =>
    (targetOf_any t ba bc W hbl HBS.out (HBL.out.below (HG.out.two.be.trans (h.mono HG.out.two.be.size)))).mono fun e w' ⟨h1, h2⟩ => ⟨h1, h.trans (h2.mono h.size)⟩
  have CM : Hid (∀ W, Below w1.heap.size w1 W → Calls Tryd.prog 19 #[machV m aa ac sa sc] W fun e w' => e = .returned (.int .i64 ((m.args.length : Int) + m.saved.length)) ∧ Below w1.heap.size w1 w') := fun W h => wider_keep (machineOf_any m aa sa ac sc W hl hs) h
  have CR : Hid (FewG t.blocks → ∀ W, Below w1.heap.size w1 W → Calls Tryd.prog 22 #[machV m aa ac sa sc, tgV t ba bc] W fun e w' => e = .returned (.int .i64 (rightT m t)) ∧ Below w1.heap.size w1 w') := fun hf W h =>
    wider_keep (right_any m aa sa ac sc t ba bc W hl hs (HMW.out.below (HG.out.two.be.trans (h.mono HG.out.two.be.size))) (HBL.out.below (HG.out.two.be.trans (h.mono HG.out.two.be.size))) ⟨by have := hf.1; omega, fun x hx => ⟨by have := (hf.2 x hx).1; omega, fun i hi => by have := (hf.2 x hx).2 i hi; omega⟩⟩ (HTW.out.below (HG.out.two.be.trans (h.mono HG.out.two.be.size)))) h
  unfold machV at CM CR
  unfold tgV at CT CR
  rw [HM.out] at CM CR
  rw [HC.out] at CT CR
  have HZ : Hid (∀ W, Below w1.heap.size w1 W → Below w1.heap.size w1 W ∧ (W.cell? ⟨w.heap.size, 0, none⟩ = some (.int .i64 m.regs) ∧ W.cell? ⟨w.heap.size, 1, none⟩ = some (.slice aa m.args.length ac) ∧ W.cell? ⟨w.heap.size, 2, none⟩ = some (.int .i64 m.ret) ∧ W.cell? ⟨w.heap.size, 3, none⟩ = some (.slice sa m.saved.length sc)) ∧ (W.cell? ⟨w.heap.size + 1, 0, none⟩ = some (.int .i64 t.frame) ∧ W.cell? ⟨w.heap.size + 1, 1, none⟩ = some (.slice ba t.blocks.length bc)) ∧ (W.cell? ⟨w.heap.size + 1 + 1, 0, none⟩ = some (.int .i64 x.op) ∧ W.cell? ⟨w.heap.size + 1 + 1, 1, none⟩ = some (.int .i64 x.dst) ∧ W.cell? ⟨w.heap.size + 1 + 1, 2, none⟩ = some (.int .i64 x.a) ∧ W.cell? ⟨w.heap.size + 1 + 1, 3, none⟩ = some (.int .i64 x.b) ∧ W.cell? ⟨w.heap.size + 1 + 1, 4, none⟩ = some (.int .i64 x.imm) ∧ W.cell? ⟨w.heap.size + 1 + 1, 5, none⟩ = some (.int .i64 x.callee) ∧ W.cell? ⟨w.heap.size + 1 + 1, 6, none⟩ = some (.slice xa x.args.length xc) ∧ W.cell? ⟨w.heap.size + 1 + 1, 7, none⟩ = some (.int .i64 x.many))) := fun W h => ⟨h, boxMa (HG.out.below h).two.mc, boxG (HG.out.below h).two.tg, box8 (HG.out.below h).ix⟩
  have hb0 : Below w1.heap.size w1 w1.drew := (Below.refl _ _).drew
  go_upto_region 3 with fail
  refine wp_region_held_drew (S := fun W => Below w1.heap.size w1 W ∧ (W.cell? ⟨w.heap.size, 0, none⟩ = some (.int .i64 m.regs) ∧ W.cell? ⟨w.heap.size, 1, none⟩ = some (.slice aa m.args.length ac) ∧ W.cell? ⟨w.heap.size, 2, none⟩ = some (.int .i64 m.ret) ∧ W.cell? ⟨w.heap.size, 3, none⟩ = some (.slice sa m.saved.length sc)) ∧ (W.cell? ⟨w.heap.size + 1, 0, none⟩ = some (.int .i64 t.frame) ∧ W.cell? ⟨w.heap.size + 1, 1, none⟩ = some (.slice ba t.blocks.length bc)) ∧ (W.cell? ⟨w.heap.size + 1 + 1, 0, none⟩ = some (.int .i64 x.op) ∧ W.cell? ⟨w.heap.size + 1 + 1, 1, none⟩ = some (.int .i64 x.dst) ∧ W.cell? ⟨w.heap.size + 1 + 1, 2, none⟩ = some (.int .i64 x.a) ∧ W.cell? ⟨w.heap.size + 1 + 1, 3, none⟩ = some (.int .i64 x.b) ∧ W.cell? ⟨w.heap.size + 1 + 1, 4, none⟩ = some (.int .i64 x.imm) ∧ W.cell? ⟨w.heap.size + 1 + 1, 5, none⟩ = some (.int .i64 x.callee) ∧ W.cell? ⟨w.heap.size + 1 + 1, 6, none⟩ = some (.slice xa x.args.length xc) ∧ W.cell? ⟨w.heap.size + 1 + 1, 7, none⟩ = some (.int .i64 x.many))) (by kernel_rfl) ?_ (fun hHeld => ?_)
  · exact HZ.out _ hb0
  refine wpAnyH_take (i := 0) (v := ?vd1) (by simp only [List.getElem?_toArray, List.getElem?_cons_zero]; rfl) (by kernel_rfl) (by kernel_rfl) (by kernel_rfl) (by exact fun _ _ _ h => h) (Or.inl ⟨by rfl, ?yd1⟩) (by assumption) ?_
  case yd1 => (intro W9 hSw; (try dsimp only at hSw); go_simp; try (with_reducible rfl))
  try simp only [Act.put, List.setIfInBounds_toArray, List.set_cons_zero, List.set_cons_succ]
  refine wpAnyH_take (i := 2) (v := ?vd2) (by simp only [List.getElem?_toArray, List.getElem?_cons_succ, List.getElem?_cons_zero]; rfl) (by kernel_rfl) (by kernel_rfl) (by kernel_rfl) (by exact fun _ _ _ h => h) (Or.inl ⟨by rfl, ?yd2⟩) (by assumption) ?_
  case yd2 => (intro W9 hSw; (try dsimp only at hSw); go_simp; try (with_reducible rfl))
  try simp only [Act.put, List.setIfInBounds_toArray, List.set_cons_zero, List.set_cons_succ]
  refine wpAnyH_take (i := 5) (v := ?vd3) (by simp only [List.getElem?_toArray, List.getElem?_cons_succ, List.getElem?_cons_zero]; rfl) (by kernel_rfl) (by kernel_rfl) (by kernel_rfl) (by exact fun _ _ _ h => h) (Or.inl ⟨by rfl, ?yd3⟩) (by assumption) ?_
  case yd3 => (intro W9 hSw; (try dsimp only at hSw); go_simp; try (with_reducible rfl))
  try simp only [Act.put, List.setIfInBounds_toArray, List.set_cons_zero, List.set_cons_succ]
  refine wpAnyH_take (i := 6) (v := ?vd4) (by simp only [List.getElem?_toArray, List.getElem?_cons_succ, List.getElem?_cons_zero]; rfl) (by kernel_rfl) (by kernel_rfl) (by kernel_rfl) (by exact fun _ _ _ h => h) (Or.inl ⟨by rfl, ?yd4⟩) (by assumption) ?_
  case yd4 => (intro W9 hSw; (try dsimp only at hSw); go_simp; try (with_reducible rfl))
  try simp only [Act.put, List.setIfInBounds_toArray, List.set_cons_zero, List.set_cons_succ]
  refine wpAnyH_take (i := 7) (v := ?vd5) (by simp only [List.getElem?_toArray, List.getElem?_cons_succ, List.getElem?_cons_zero]; rfl) (by kernel_rfl) (by kernel_rfl) (by kernel_rfl) (by exact fun _ _ _ h => h) (Or.inl ⟨by rfl, ?yd5⟩) (by assumption) ?_
  case yd5 => (intro W9 hSw; (try dsimp only at hSw); go_simp; try (with_reducible rfl))
  try simp only [Act.put, List.setIfInBounds_toArray, List.set_cons_zero, List.set_cons_succ]
  refine wpAnyH_ready (rs := [1]) (by kernel_rfl) (by simp) ?_
  refine AllReadyH.cons (by simp only [List.getElem?_toArray, List.getElem?_cons_succ, List.getElem?_cons_zero]; rfl) (fun K hK => ?_) AllReadyH.nil
  go_simp
  go_at_call 18
  refine (CT.out _ hb0).mono ?_
  rintro e w2 ⟨⟨n, rfl, hn, hf⟩, hb2⟩
  (try go_wp2_with fail)
  refine hK.out _ _ ?_ (fun hHeld2 => ?_)
  · exact HZ.out _ hb2
  clear hK K hHeld
  have hHeld := hHeld2
  clear hHeld2
  try simp only [Act.put, List.setIfInBounds_toArray, List.set_cons_zero, List.set_cons_succ]
  refine wpAnyH_ready (rs := [3]) (by kernel_rfl) (by simp) ?_
  refine AllReadyH.cons (by simp only [List.getElem?_toArray, List.getElem?_cons_succ, List.getElem?_cons_zero]; rfl) (fun K hK => ?_) AllReadyH.nil
  go_simp
  go_at_call 19
  refine (CM.out _ hb2).mono ?_
  rintro e w3 ⟨rfl, hb3⟩
  (try go_wp2_with fail)
  refine hK.out _ _ ?_ (fun hHeld2 => ?_)
  · exact HZ.out _ hb3
  clear hK K hHeld
  have hHeld := hHeld2
  clear hHeld2
  try simp only [Act.put, List.setIfInBounds_toArray, List.set_cons_zero, List.set_cons_succ]
  have hw : IntKind.i64.wrap ((n : Int) + ((m.args.length : Int) + m.saved.length)) = (n : Int) + ((m.args.length : Int) + m.saved.length) := by rw [IntKind.wrap_i64]; omega
  have hw2 : IntKind.i64.wrap ((n : Int) + ((m.args.length : Int) + m.saved.length) + (x.args.length : Int)) = (n : Int) + ((m.args.length : Int) + m.saved.length) + x.args.length := by rw [IntKind.wrap_i64]; omega
  by_cases hbig : (1500 : Int) < (n : Int) + ((m.args.length : Int) + m.saved.length) + x.args.length
  case pos =>
    refine wpAnyH_take (i := 4) (v := ?vd6) (by simp only [List.getElem?_toArray, List.getElem?_cons_succ, List.getElem?_cons_zero]; rfl) (by kernel_rfl) (by kernel_rfl) (by kernel_rfl) (by exact fun _ _ _ h => h) (Or.inl ⟨by rfl, ?yd6⟩) (by assumption) ?_
    case yd6 => (intro W9 hSw; (try dsimp only at hSw); go_simp; try (with_reducible rfl))
    try simp only [Act.put, List.setIfInBounds_toArray, List.set_cons_zero, List.set_cons_succ]
    refine wpAnyH_take (i := 8) (v := ?vd7) (by simp only [List.getElem?_toArray, List.getElem?_cons_succ, List.getElem?_cons_zero]; rfl) (by kernel_rfl) (by kernel_rfl) (by kernel_rfl) (by exact fun _ _ _ h => h) (Or.inl ⟨by rfl, ?yd7⟩) (by assumption) ?_
    case yd7 => (intro W9 hSw; (try dsimp only at hSw); go_simp; try (with_reducible rfl))
    try simp only [Act.put, List.setIfInBounds_toArray, List.set_cons_zero, List.set_cons_succ]
    refine wpAnyH_take (i := 9) (v := ?vd8) (by simp only [List.getElem?_toArray, List.getElem?_cons_succ, List.getElem?_cons_zero]; rfl) (by kernel_rfl) (by kernel_rfl) (by kernel_rfl) (by exact fun _ _ _ h => h) (Or.inl ⟨by rfl, ?yd8⟩) (by assumption) ?_
    case yd8 => (intro W9 hSw; (try dsimp only at hSw); go_simp; try (with_reducible rfl))
    try simp only [Act.put, List.setIfInBounds_toArray, List.set_cons_zero, List.set_cons_succ]
    refine wpAnyH_take (i := 10) (v := ?vd9) (by simp only [List.getElem?_toArray, List.getElem?_cons_succ, List.getElem?_cons_zero]; rfl) (by kernel_rfl) (by kernel_rfl) (by kernel_rfl) (by exact fun _ _ _ h => h) (Or.inl ⟨by rfl, ?yd9⟩) (by assumption) ?_
    case yd9 => (intro W9 hSw; (try dsimp only at hSw); go_simp; try (with_reducible rfl))
    try simp only [Act.put, List.setIfInBounds_toArray, List.set_cons_zero, List.set_cons_succ]
    refine wpAnyH_take (i := 11) (v := undef) (by simp only [List.getElem?_toArray, List.getElem?_cons_succ, List.getElem?_cons_zero]; rfl) (by kernel_rfl) (by kernel_rfl) (by kernel_rfl) (by exact fun _ _ _ h => h) (Or.inr ⟨by rfl, rfl⟩) (by assumption) ?_
    try simp only [Act.put, List.setIfInBounds_toArray, List.set_cons_zero, List.set_cons_succ]
    refine wpAnyH_take (i := 12) (v := undef) (by simp only [List.getElem?_toArray, List.getElem?_cons_succ, List.getElem?_cons_zero]; rfl) (by kernel_rfl) (by kernel_rfl) (by kernel_rfl) (by exact fun _ _ _ h => h) (Or.inr ⟨by rfl, rfl⟩) (by assumption) ?_
    try simp only [Act.put, List.setIfInBounds_toArray, List.set_cons_zero, List.set_cons_succ]
    refine wpAnyH_take (i := 13) (v := undef) (by simp only [List.getElem?_toArray, List.getElem?_cons_succ, List.getElem?_cons_zero]; rfl) (by kernel_rfl) (by kernel_rfl) (by kernel_rfl) (by exact fun _ _ _ h => h) (Or.inr ⟨by rfl, rfl⟩) (by assumption) ?_
    try simp only [Act.put, List.setIfInBounds_toArray, List.set_cons_zero, List.set_cons_succ]
    refine wpAnyH_take (i := 14) (v := undef) (by simp only [List.getElem?_toArray, List.getElem?_cons_succ, List.getElem?_cons_zero]; rfl) (by kernel_rfl) (by kernel_rfl) (by kernel_rfl) (by exact fun _ _ _ h => h) (Or.inr ⟨by rfl, rfl⟩) (by assumption) ?_
    try simp only [Act.put, List.setIfInBounds_toArray, List.set_cons_zero, List.set_cons_succ]
    refine wpAnyH_take (i := 15) (v := ?vd10) (by simp only [List.getElem?_toArray, List.getElem?_cons_succ, List.getElem?_cons_zero]; rfl) (by kernel_rfl) (by kernel_rfl) (by kernel_rfl) (by exact fun _ _ _ h => h) (Or.inl ⟨by rfl, ?yd10⟩) (by assumption) ?_
    case yd10 => (intro W9 hSw; (try dsimp only at hSw); go_simp; try (with_reducible rfl))
    try simp only [Act.put, List.setIfInBounds_toArray, List.set_cons_zero, List.set_cons_succ]
    refine wpAnyH_done (by kernel_rfl) ?_ _
    clear hHeld
    go_wp2
    go_ret
    exact ⟨rfl, HG.out.two.be.trans (hb3.mono HG.out.two.be.size)⟩
  have HF := Lib.hid (hf.out (by omega))
  have hlm : m.args.length ≤ 1500 ∧ m.saved.length ≤ 1500 ∧ x.args.length ≤ 1500 := by omega
  refine wpAnyH_take (i := 4) (v := ?vd11) (by simp only [List.getElem?_toArray, List.getElem?_cons_succ, List.getElem?_cons_zero]; rfl) (by kernel_rfl) (by kernel_rfl) (by kernel_rfl) (by exact fun _ _ _ h => h) (Or.inl ⟨by rfl, ?yd11⟩) (by assumption) ?_
  case yd11 => (intro W9 hSw; (try dsimp only at hSw); go_simp; try (with_reducible rfl))
  try simp only [Act.put, List.setIfInBounds_toArray, List.set_cons_zero, List.set_cons_succ]
  refine wpAnyH_take (i := 8) (v := ?vd12) (by simp only [List.getElem?_toArray, List.getElem?_cons_succ, List.getElem?_cons_zero]; rfl) (by kernel_rfl) (by kernel_rfl) (by kernel_rfl) (by exact fun _ _ _ h => h) (Or.inl ⟨by rfl, ?yd12⟩) (by assumption) ?_
  case yd12 => (intro W9 hSw; (try dsimp only at hSw); go_simp; try (with_reducible rfl))
  try simp only [Act.put, List.setIfInBounds_toArray, List.set_cons_zero, List.set_cons_succ]
  refine wpAnyH_take (i := 9) (v := ?vd13) (by simp only [List.getElem?_toArray, List.getElem?_cons_succ, List.getElem?_cons_zero]; rfl) (by kernel_rfl) (by kernel_rfl) (by kernel_rfl) (by exact fun _ _ _ h => h) (Or.inl ⟨by rfl, ?yd13⟩) (by assumption) ?_
  case yd13 => (intro W9 hSw; (try dsimp only at hSw); go_simp; try (with_reducible rfl))
  try simp only [Act.put, List.setIfInBounds_toArray, List.set_cons_zero, List.set_cons_succ]
  refine wpAnyH_take (i := 10) (v := ?vd14) (by simp only [List.getElem?_toArray, List.getElem?_cons_succ, List.getElem?_cons_zero]; rfl) (by kernel_rfl) (by kernel_rfl) (by kernel_rfl) (by exact fun _ _ _ h => h) (Or.inl ⟨by rfl, ?yd14⟩) (by assumption) ?_
  case yd14 => (intro W9 hSw; (try dsimp only at hSw); go_simp; try (with_reducible rfl))
  try simp only [Act.put, List.setIfInBounds_toArray, List.set_cons_zero, List.set_cons_succ]
  refine wpAnyH_take (i := 11) (v := ?vd15) (by simp only [List.getElem?_toArray, List.getElem?_cons_succ, List.getElem?_cons_zero]; rfl) (by kernel_rfl) (by kernel_rfl) (by kernel_rfl) (by exact fun _ _ _ h => h) (Or.inl ⟨by rfl, ?yd15⟩) (by assumption) ?_
  case yd15 => (intro W9 hSw; (try dsimp only at hSw); go_simp; try (with_reducible rfl))
  try simp only [Act.put, List.setIfInBounds_toArray, List.set_cons_zero, List.set_cons_succ]
  refine wpAnyH_take (i := 12) (v := ?vd16) (by simp only [List.getElem?_toArray, List.getElem?_cons_succ, List.getElem?_cons_zero]; rfl) (by kernel_rfl) (by kernel_rfl) (by kernel_rfl) (by exact fun _ _ _ h => h) (Or.inl ⟨by rfl, ?yd16⟩) (by assumption) ?_
  case yd16 => (intro W9 hSw; (try dsimp only at hSw); go_simp; try (with_reducible rfl))
  try simp only [Act.put, List.setIfInBounds_toArray, List.set_cons_zero, List.set_cons_succ]
  refine wpAnyH_ready (rs := [13]) (by kernel_rfl) (by simp) ?_
  refine AllReadyH.cons (by simp only [List.getElem?_toArray, List.getElem?_cons_succ, List.getElem?_cons_zero]; rfl) (fun K hK => ?_) AllReadyH.nil
  go_simp
  go_at_call 22
  refine (CR.out HF.out _ hb3).mono ?_
  rintro e w4 ⟨rfl, hb4⟩
  (try go_wp2_with fail)
  refine hK.out _ _ ?_ (fun hHeld2 => ?_)
  · exact HZ.out _ hb4
  clear hK K hHeld
  have hHeld := hHeld2
  clear hHeld2
  try simp only [Act.put, List.setIfInBounds_toArray, List.set_cons_zero, List.set_cons_succ]
  by_cases hr0 : rightT m t = 0
  case neg =>
    have hq0 : (rightT m t != 0) = true := by simp [hr0]
    refine wpAnyH_take (i := 14) (v := ?vd17) (by simp only [List.getElem?_toArray, List.getElem?_cons_succ, List.getElem?_cons_zero]; rfl) (by kernel_rfl) (by kernel_rfl) (by kernel_rfl) (by exact fun _ _ _ h => h) (Or.inl ⟨by rfl, ?yd17⟩) (by assumption) ?_
    case yd17 => (intro W9 hSw; (try dsimp only at hSw); go_simp; try (with_reducible rfl))
    try simp only [Act.put, List.setIfInBounds_toArray, List.set_cons_zero, List.set_cons_succ]
    refine wpAnyH_take (i := 15) (v := ?vd18) (by simp only [List.getElem?_toArray, List.getElem?_cons_succ, List.getElem?_cons_zero]; rfl) (by kernel_rfl) (by kernel_rfl) (by kernel_rfl) (by exact fun _ _ _ h => h) (Or.inl ⟨by rfl, ?yd18⟩) (by assumption) ?_
    case yd18 => (intro W9 hSw; (try dsimp only at hSw); go_simp; try (with_reducible rfl))
    try simp only [Act.put, List.setIfInBounds_toArray, List.set_cons_zero, List.set_cons_succ]
    refine wpAnyH_done (by kernel_rfl) ?_ _
    clear hHeld
    go_wp2
    go_ret
    exact ⟨rfl, HG.out.two.be.trans (hb4.mono HG.out.two.be.size)⟩
  have hq0 : (rightT m t != 0) = false := by simp [hr0]
  refine wpAnyH_take (i := 14) (v := ?vd19) (by simp only [List.getElem?_toArray, List.getElem?_cons_succ, List.getElem?_cons_zero]; rfl) (by kernel_rfl) (by kernel_rfl) (by kernel_rfl) (by exact fun _ _ _ h => h) (Or.inl ⟨by rfl, ?yd19⟩) (by assumption) ?_
  case yd19 => (intro W9 hSw; (try dsimp only at hSw); go_simp; try (with_reducible rfl))
  try simp only [Act.put, List.setIfInBounds_toArray, List.set_cons_zero, List.set_cons_succ]
  refine wpAnyH_take (i := 15) (v := ?vd20) (by simp only [List.getElem?_toArray, List.getElem?_cons_succ, List.getElem?_cons_zero]; rfl) (by kernel_rfl) (by kernel_rfl) (by kernel_rfl) (by exact fun _ _ _ h => h) (Or.inl ⟨by rfl, ?yd20⟩) (by assumption) ?_
  case yd20 => (intro W9 hSw; (try dsimp only at hSw); go_simp; try (with_reducible rfl))
  try simp only [Act.put, List.setIfInBounds_toArray, List.set_cons_zero, List.set_cons_succ]
  refine wpAnyH_done (by kernel_rfl) ?_ _
  clear hHeld hq0
  have HR0 := Lib.hid hr0
  have HG4 := Lib.hid (HG.out.below hb4)
  have HWB := Lib.hid (fun W (h : Below w4.heap.size w4 W) => HG4.out.two.be.trans (h.mono HG4.out.two.be.size))
  clear hb2 hb3 hb4 hb0 HZ CT CM CR HG hw hw2 hbig hf hn hr0 HBS
  clear hxl
  obtain ⟨c0, c1, c2, c3⟩ := boxMa HG4.out.two.mc
  go_upto_region 5 with fail
  go_cut [9] from 15 to 91 (fun v W => ∃ p, v = .pointer (some ⟨p, 0, none⟩) ∧ w4.heap.size ≤ p ∧ Below w4.heap.size w4 W ∧ Blk W p 24 (maxC m aa ac sa sc))
  case first =>
    go_wp2_with fail
    go_meet
    exact ⟨w4.heap.size, rfl, Nat.le_refl _, (Below.refl _ w4).alloc (Nat.le_refl _) _, Blk.new w4 24 (maxC m aa ac sa sc)⟩
  case rest =>
  obtain ⟨p, rfl, hp, hb5, hX5⟩ := hcut
  have HB5 := Lib.hid hb5
  have HX5 := Lib.hid hX5
  clear hb5 hX5 c0 c1 c2 c3
  go_upto_region 6 with fail
  go_cut [9] from 15 to 91 (fun v W => v = .pointer (some ⟨p, 0, none⟩) ∧ Below w4.heap.size w4 W ∧ Blk W p 24 (maxC (wideM m) aa ac sa sc))
  case first =>
    have q0 := HX5.out.cell 0
    have f0 := HX5.out.free 0
    have q0' : wc.cell? ⟨p, 0, none⟩ = some (.int .i64 m.regs) := q0
    clear q0
    go_wp2_with fail
    go_meet
    exact ⟨rfl, HB5.out.setCell (p := ⟨p, 0, none⟩) hp _, HX5.out.put 0 _⟩
  case rest =>
  obtain ⟨rfl, hb6, hX6⟩ := hcut
  clear HB5 HX5
  have HB6 := Lib.hid hb6
  have HX6 := Lib.hid hX6
  clear hb6 hX6
  obtain ⟨d0, d1⟩ := boxG (HG4.out.below HB6.out).two.tg
  go_upto_region 7 with fail
  go_cut [10] from 15 to 91 (fun v W => ∃ q, v = .pointer (some ⟨q, 0, none⟩) ∧ (w4.heap.size ≤ q ∧ p ≠ q) ∧ Below w4.heap.size w4 W ∧ Blk W p 24 (maxC (wideM m) aa ac sa sc) ∧ Blk W q 41 (tgC t ba bc))
  case first =>
    go_wp2_with fail
    go_meet
    exact ⟨wc.heap.size, rfl, ⟨HB6.out.size, Nat.ne_of_lt HX6.out.lt⟩, HB6.out.alloc HB6.out.size _, HX6.out.alloc _, Blk.new wc 41 (tgC t ba bc)⟩
  case rest =>
  obtain ⟨q, rfl, hq, hb7, hX7, hY7⟩ := hcut
  clear HB6 HX6 d0 d1
  have HB7 := Lib.hid hb7
  have HX7 := Lib.hid hX7
  have HY7 := Lib.hid hY7
  clear hb7 hX7 hY7
  go_upto_region 8 with fail
  go_cut [10] from 15 to 91 (fun v W => v = .pointer (some ⟨q, 0, none⟩) ∧ Below w4.heap.size w4 W ∧ Blk W p 24 (maxC (wideM m) aa ac sa sc) ∧ Blk W q 41 (tgC (wideG t) ba bc))
  case first =>
    have q0' : wc.cell? ⟨q, 0, none⟩ = some (.int .i64 t.frame) := HY7.out.cell 0
    have f0 := HY7.out.free 0
    go_wp2_with fail
    go_meet
    exact ⟨rfl, HB7.out.setCell (p := ⟨q, 0, none⟩) hq.1 _, HX7.out.far (p := ⟨q, 0, none⟩) hq.2 _, HY7.out.put 0 _⟩
  case rest =>
  obtain ⟨rfl, hb8, hX8, hY8⟩ := hcut
  clear HB7 HX7 HY7
  have HB8 := Lib.hid hb8
  have HX8 := Lib.hid hX8
  have HY8 := Lib.hid hY8
  clear hb8 hX8 hY8
  obtain ⟨d0, d1⟩ := boxG (HG4.out.below HB8.out).two.tg
  obtain ⟨i0, i1, i2, i3, i4, i5, i6, i7⟩ := box8 (HG4.out.below HB8.out).ix
  go_upto_region 9 with fail
  go_cut [11] from 15 to 91 (fun v W => ∃ r g, v = .pointer (some ⟨r, 0, none⟩) ∧ Below w4.heap.size w4 W ∧ Blk W p 24 (maxC (wideM m) aa ac sa sc) ∧ Blk W q 41 (tgC (wideG t) ba bc) ∧ Blk W r 41 (tgC (soloG t.frame x) (some ⟨g, 0, none⟩) 1) ∧ BlsW W (some ⟨g, 0, none⟩) (soloG t.frame x).blocks)
  case first =>
    go_wp2_with fail
    go_meet
    have h1 := (Below.refl wc.heap.size wc).alloc (Nat.le_refl _) (.cells (insC x xa xc) 27)
    have h2 := h1.alloc h1.size (.cells (blC ⟨[x], ⟨4, 0, 0, 0⟩⟩ (some ⟨wc.heap.size, 0, none⟩) 1) 54)
    have h3 := h2.alloc h2.size (.cells (tgC (soloG t.frame x) (some ⟨wc.heap.size + 1, 0, none⟩) 1) 41)
    refine ⟨wc.heap.size + 1 + 1, wc.heap.size + 1, rfl, HB8.out.trans (h3.mono HB8.out.size), HX8.out.below h3 HX8.out.lt, HY8.out.below h3 HY8.out.lt, blk_at _ _ (by simp), ?_⟩
    have hi : Blk (((wc.alloc (.cells (insC x xa xc) 27)).alloc (.cells (blC ⟨[x], ⟨4, 0, 0, 0⟩⟩ (some ⟨wc.heap.size, 0, none⟩) 1) 54)).alloc (.cells (tgC (soloG t.frame x) (some ⟨wc.heap.size + 1, 0, none⟩) 1) 41)) wc.heap.size 27 (insC x xa xc) := ((Blk.new wc _ _).alloc _).alloc _
    have hbk : Blk (((wc.alloc (.cells (insC x xa xc) 27)).alloc (.cells (blC ⟨[x], ⟨4, 0, 0, 0⟩⟩ (some ⟨wc.heap.size, 0, none⟩) 1) 54)).alloc (.cells (tgC (soloG t.frame x) (some ⟨wc.heap.size + 1, 0, none⟩) 1) 41)) (wc.heap.size + 1) 54 (blC ⟨[x], ⟨4, 0, 0, 0⟩⟩ (some ⟨wc.heap.size, 0, none⟩) 1) := (blk_at _ _ (by simp)).alloc _
    exact bls_one hbk (fun h => by cases h) (insW_one hi hxn (HXI.out.below ((HG4.out.two.be.trans (HB8.out.mono HG4.out.two.be.size)).trans (h3.mono (Nat.le_trans HG4.out.two.be.size HB8.out.size)))))
  case rest =>
  obtain ⟨r, g, rfl, hb9, hX9, hY9, hZ9, hS9⟩ := hcut
  clear HB8 HX8 HY8 d0 d1 i0 i1 i2 i3 i4 i5 i6 i7
  have HB9 := Lib.hid hb9
  have HX9 := Lib.hid hX9
  have HY9 := Lib.hid hY9
  have hz0 : wc.cell? ⟨r, 0, none⟩ = some (.int .i64 t.frame) := hZ9.cell 0
  have hz1 : wc.cell? ⟨r, 1, none⟩ = some (.slice (some ⟨g, 0, none⟩) 1 1) := hZ9.cell 1
  have HR1 := Lib.hid (right_any m aa sa ac sc (soloG t.frame x) (some ⟨g, 0, none⟩) 1 wc hl hs (HMW.out.below (HWB.out wc hb9)) hS9 ⟨by simp [soloG], fun y hy => (by simp [soloG] at hy; subst hy; exact ⟨by simp, fun i hi => (by simp at hi; subst hi; omega)⟩)⟩ (HTW.out.below (HWB.out wc hb9)))
  unfold machV tgV at HR1
  rw [HM.out, show tgC (soloG t.frame x) (some ⟨g, 0, none⟩) 1 = #[.int .i64 t.frame, .slice (some ⟨g, 0, none⟩) 1 1] from rfl] at HR1
  clear hb9 hX9 hY9 hZ9 hS9
  obtain ⟨c0, c1, c2, c3⟩ := boxMa (HG4.out.below HB9.out).two.mc
  go_upto_region 10 with fail
  go_cut [12] from 15 to 91 (fun v W => v = .int .i64 (rightT m (soloG t.frame x)) ∧ Below w4.heap.size w4 W ∧ Blk W p 24 (maxC (wideM m) aa ac sa sc) ∧ Blk W q 41 (tgC (wideG t) ba bc))
  case first =>
    go_wp2_with fail
    refine HR1.out.mono ?_
    rintro e w5 ⟨rfl, hb⟩
    have HQ := Lib.hid (⟨HB9.out.trans (hb.mono HB9.out.size), HX9.out.below hb HX9.out.lt, HY9.out.below hb HY9.out.lt⟩ : Below w4.heap.size w4 w5 ∧ Blk w5 p 24 (maxC (wideM m) aa ac sa sc) ∧ Blk w5 q 41 (tgC (wideG t) ba bc))
    clear hb
    go_wp2_with fail
    go_meet
    exact ⟨rfl, HQ.out⟩
  case rest =>
  obtain ⟨rfl, hb9, hX9, hY9⟩ := hcut
  clear HB9 HX9 HY9 HR1 hz0 hz1 c0 c1 c2 c3
  have HB9 := Lib.hid hb9
  have HX9 := Lib.hid hX9
  have HY9 := Lib.hid hY9
  clear hb9 hX9 hY9
  have hbl2 : t.blocks.length ≤ 2000 := by have := HF.out.1; omega
  have HL2 : Hid (∀ y ∈ t.blocks, y.ins.length ≤ 2000 ∧ ∀ i ∈ y.ins, i.args.length ≤ 2000) := Lib.hid fun y hy => ⟨by have := (HF.out.2 y hy).1; omega, fun i hi => by have := (HF.out.2 y hy).2 i hi; omega⟩
  have HCT := Lib.hid (copyTarget_any t ba bc wc hbl2 HL2.out (HBL.out.below (HWB.out wc HB9.out)))
  unfold tgV at HCT
  rw [HC.out] at HCT
  obtain ⟨d0, d1⟩ := boxG (HG4.out.below HB9.out).two.tg
  go_upto_region 11 with fail
  go_cut [13] from 15 to 91 (fun v W => ∃ s da bk es, v = .pointer (some ⟨s, 0, none⟩) ∧ Below w4.heap.size w4 W ∧ Blk W p 24 (maxC (wideM m) aa ac sa sc) ∧ Blk W q 41 (tgC (wideG t) ba bc) ∧ w4.heap.size ≤ s ∧ Blk W s 41 (tgC t da bk) ∧ CTg W w4.heap.size t da bk es)
  case first =>
    go_wp2_with fail
    refine HCT.out.mono ?_
    rintro e w5 ⟨da, bk, es, rfl, hC, hb⟩
    have HB5 := Lib.hid (HB9.out.trans (hb.mono HB9.out.size))
    have HX5 := Lib.hid (HX9.out.below hb HX9.out.lt)
    have HY5 := Lib.hid (HY9.out.below hb HY9.out.lt)
    have HC5 := Lib.hid hC
    clear hb hC HCT
    unfold tgC
    go_wp2_with fail
    go_meet
    have kk : ∀ t', KeepT w5 (w5.alloc (.cells (tgC t da bk) 41)) t' := fun t' => KeepT.alloc w5 _ t'
    exact ⟨w5.heap.size, da, bk, es, rfl, HB5.out.alloc HB5.out.size _, HX5.out.alloc _, HY5.out.alloc _, HB5.out.size, Blk.new w5 41 (tgC t da bk), ⟨HC5.out.same, (HC5.out.blocks.base HB9.out.size).keepT (kk _) (kk _) (kk _), HC5.out.bn⟩⟩
  case rest =>
  obtain ⟨s, da, bk, es, rfl, hb10, hX10, hY10, hs10, hS10, hC10⟩ := hcut
  clear HB9 HX9 HY9 HCT d0 d1
  have HB9 := Lib.hid hb10
  have HX9 := Lib.hid hX10
  have HY9 := Lib.hid hY10
  have HS9 := Lib.hid hS10
  have HC9 := Lib.hid hC10
  clear hb10 hX10 hY10 hS10 hC10
  obtain ⟨s0, s1⟩ := boxG HS9.out
  have HSM := Lib.hid (right_all.1 HR0.out).2.1
  have hpos : 1 ≤ (t.blocks.length : Int) ∧ (t.blocks.length : Int) ≤ 1000000 := by
    have := HSM.out
    unfold smallT at this
    simp only [Bool.and_eq_true, Bool.not_eq_true', beq_eq_false_iff_ne, decide_eq_false_iff_not] at this
    omega
  have HPK := Lib.hid (pick_any at0 t.blocks.length wc hpos)
  go_upto_region 12 with fail
  go_wp2_with fail
  refine HPK.out.mono ?_
  rintro e w5 ⟨⟨k, rfl, hk⟩, rfl⟩
  clear HPK s0 s1
  go_upto_region 13 with fail
  have hlen : es.length = t.blocks.length := by have := congrArg List.length HC9.out.same; simpa using this
  have hke : k < es.length := by omega
  obtain ⟨bg, cap9, hv9, _, _⟩ := rowB_seat HC9.out.blocks.row (by omega)
  injection hv9 with hv91 hv92 hv93
  subst hv91
  clear hv92 hv93
  obtain ⟨e0, he0⟩ : ∃ e, es[k]? = some e := ⟨_, List.getElem?_eq_getElem hke⟩
  have HE0 := Lib.hid he0
  have hme := List.mem_of_getElem? he0
  have hrow0 := HC9.out.blocks.rows e0 hme
  have HO0 := Lib.hid hrow0.1.row
  have hbe : beB e0 ∈ t.blocks := by rw [← HC9.out.same]; exact List.mem_map_of_mem hme
  have hel : e0.2.1.length ≤ 1500 := by
    have := (HF.out.2 _ hbe).1
    simpa [beB] using this
  have hq8 := rowB_cell HC9.out.blocks.row he0
  clear he0 hme hrow0 hbe
  obtain ⟨tm, el, ra, rc⟩ := e0
  simp only at HO0 hel hq8
  have HKB : Hid (t.blocks[k]? = some (beB (tm, el, ra, rc))) := Lib.hid (by rw [← HC9.out.same, List.getElem?_map, HE0.out]; rfl)
  have HQ8 := Lib.hid hq8
  obtain ⟨i0, hi0, hz0, hz1, hz2⟩ := info_parts ins_info
  rw [← hlen] at hk
  have hS0 := HS9.out
  rw [show tgC t (some ⟨bg, 0, none⟩) bk = #[.int .i64 t.frame, .slice (some ⟨bg, 0, none⟩) t.blocks.length bk] from rfl] at hS0
  have HSS := Lib.hid hS0
  clear hS0 hq8
  have hk0 : (0 : Int) ≤ k := by omega
  have hk1 : (k : Int) < t.blocks.length := by omega
  have HZ13 : Hid (∀ W, Below w4.heap.size w4 W → Blk W s 41 (tgC t (some ⟨bg, 0, none⟩) bk) → Below w4.heap.size w4 W ∧ (W.cell? ⟨s, 0, none⟩ = some (.int .i64 t.frame) ∧ W.cell? ⟨s, 1, none⟩ = some (.slice (some ⟨bg, 0, none⟩) t.blocks.length bk)) ∧ (W.cell? ⟨w.heap.size + 1 + 1, 0, none⟩ = some (.int .i64 x.op) ∧ W.cell? ⟨w.heap.size + 1 + 1, 1, none⟩ = some (.int .i64 x.dst) ∧ W.cell? ⟨w.heap.size + 1 + 1, 2, none⟩ = some (.int .i64 x.a) ∧ W.cell? ⟨w.heap.size + 1 + 1, 3, none⟩ = some (.int .i64 x.b) ∧ W.cell? ⟨w.heap.size + 1 + 1, 4, none⟩ = some (.int .i64 x.imm) ∧ W.cell? ⟨w.heap.size + 1 + 1, 5, none⟩ = some (.int .i64 x.callee) ∧ W.cell? ⟨w.heap.size + 1 + 1, 6, none⟩ = some (.slice xa x.args.length xc) ∧ W.cell? ⟨w.heap.size + 1 + 1, 7, none⟩ = some (.int .i64 x.many))) := Lib.hid fun W h h2 => ⟨h, boxG h2, box8 (HG4.out.below h).ix⟩
  have FIN : Hid (∀ (W6 : World) (gg gcap : Nat), Below w4.heap.size w4 W6 → W6.ownsRow w4.heap.size 27 8 (.slice (some ⟨gg, 0, none⟩) (el.length + 1) gcap) (el.length + 1) (el.flatMap ieC ++ ieC (x, xa, xc)) → (∃ Z, CBls Z w4.heap.size (.slice (some ⟨bg, 0, none⟩) es.length bk) es ∧ Z.grownBy W6 (Value.slice ra el.length rc).ownBlock) → BlsW (W6.setCell ⟨bg, k * 5, none⟩ (.slice (some ⟨gg, 0, none⟩) (el.length + 1) gcap)) (some ⟨bg, 0, none⟩) (t.blocks.set k (plusB (beB (tm, el, ra, rc)) x))) := Lib.hid fun W6 gg gcap h ho ⟨Z, hc, hg⟩ => by
    have q := plus_bls (e := (tm, el, ra, rc)) (x := x) (xa := xa) (xc := xc) (gg := gg) (gcap := gcap) hc HE0.out hg (by show World.ownsRow _ _ _ _ _ _ _; rw [List.length_append, List.flatMap_append]; simpa using ho) hxn (HXI.out.below (HWB.out _ (h.setCell (p := ⟨bg, k * 5, none⟩) HQ8.out.2.2.2 _)))
    rw [HC9.out.same] at q
    exact q
  go_cut [14] from 15 to 91 (fun v W => v = .int .i64 k ∧ Below w4.heap.size w4 W ∧ Blk W p 24 (maxC (wideM m) aa ac sa sc) ∧ Blk W q 41 (tgC (wideG t) ba bc) ∧ Blk W s 41 (tgC t (some ⟨bg, 0, none⟩) bk) ∧ BlsW W (some ⟨bg, 0, none⟩) (t.blocks.set k (plusB (beB (tm, el, ra, rc)) x)))
  case first =>

    refine wp_region_held_drew (S := fun W => Below w4.heap.size w4 W ∧ (W.cell? ⟨s, 0, none⟩ = some (.int .i64 t.frame) ∧ W.cell? ⟨s, 1, none⟩ = some (.slice (some ⟨bg, 0, none⟩) t.blocks.length bk)) ∧ (W.cell? ⟨w.heap.size + 1 + 1, 0, none⟩ = some (.int .i64 x.op) ∧ W.cell? ⟨w.heap.size + 1 + 1, 1, none⟩ = some (.int .i64 x.dst) ∧ W.cell? ⟨w.heap.size + 1 + 1, 2, none⟩ = some (.int .i64 x.a) ∧ W.cell? ⟨w.heap.size + 1 + 1, 3, none⟩ = some (.int .i64 x.b) ∧ W.cell? ⟨w.heap.size + 1 + 1, 4, none⟩ = some (.int .i64 x.imm) ∧ W.cell? ⟨w.heap.size + 1 + 1, 5, none⟩ = some (.int .i64 x.callee) ∧ W.cell? ⟨w.heap.size + 1 + 1, 6, none⟩ = some (.slice xa x.args.length xc) ∧ W.cell? ⟨w.heap.size + 1 + 1, 7, none⟩ = some (.int .i64 x.many))) (by kernel_rfl) ?_ (fun hHeld => ?_)
    · exact HZ13.out _ HB9.out.drew HS9.out.drew
    refine wpAnyH_take (i := 0) (v := ?vd21) (by simp only [List.getElem?_toArray, List.getElem?_cons_zero]; rfl) (by kernel_rfl) (by kernel_rfl) (by kernel_rfl) (by exact fun _ _ _ h => h) (Or.inl ⟨by rfl, ?yd21⟩) (by assumption) ?_
    case yd21 => (intro W9 hSw; (try dsimp only at hSw); go_simp; try (with_reducible rfl))
    try simp only [Act.put, List.setIfInBounds_toArray, List.set_cons_zero, List.set_cons_succ]
    refine wpAnyH_take (i := 1) (v := ?vd22) (by simp only [List.getElem?_toArray, List.getElem?_cons_succ, List.getElem?_cons_zero]; rfl) (by kernel_rfl) (by kernel_rfl) (by kernel_rfl) (by exact fun _ _ _ h => h) (Or.inl ⟨by rfl, ?yd22⟩) (by assumption) ?_
    case yd22 => (intro W9 hSw; (try dsimp only at hSw); go_simp; try (with_reducible rfl))
    try simp only [Act.put, List.setIfInBounds_toArray, List.set_cons_zero, List.set_cons_succ]
    refine wpAnyH_take (i := 2) (v := ?vd23) (by simp only [List.getElem?_toArray, List.getElem?_cons_succ, List.getElem?_cons_zero]; rfl) (by kernel_rfl) (by kernel_rfl) (by kernel_rfl) (by exact fun _ _ _ h => h) (Or.inl ⟨by rfl, ?yd23⟩) (by assumption) ?_
    case yd23 => (intro W9 hSw; (try dsimp only at hSw); go_simp; try (with_reducible rfl))
    try simp only [Act.put, List.setIfInBounds_toArray, List.set_cons_zero, List.set_cons_succ]
    refine wpAnyH_take (i := 3) (v := ?vd24) (by simp only [List.getElem?_toArray, List.getElem?_cons_succ, List.getElem?_cons_zero]; rfl) (by kernel_rfl) (by kernel_rfl) (by kernel_rfl) (by exact fun _ _ _ h => h) (Or.inl ⟨by rfl, ?yd24⟩) (by assumption) ?_
    case yd24 => (intro W9 hSw; (try dsimp only at hSw); go_simp; try (with_reducible rfl))
    try simp only [Act.put, List.setIfInBounds_toArray, List.set_cons_zero, List.set_cons_succ]
    refine wpAnyH_take (i := 4) (v := ?vd25) (by simp only [List.getElem?_toArray, List.getElem?_cons_succ, List.getElem?_cons_zero]; rfl) (by kernel_rfl) (by kernel_rfl) (by kernel_rfl) (by exact fun _ _ _ h => h) (Or.inl ⟨by rfl, ?yd25⟩) (by assumption) ?_
    case yd25 => (intro W9 hSw; (try dsimp only at hSw); go_simp; try (with_reducible rfl))
    try simp only [Act.put, List.setIfInBounds_toArray, List.set_cons_zero, List.set_cons_succ]
    refine wpAnyH_take (i := 5) (v := ?vd26) (by simp only [List.getElem?_toArray, List.getElem?_cons_succ, List.getElem?_cons_zero]; rfl) (by kernel_rfl) (by kernel_rfl) (by kernel_rfl) (by exact fun _ _ _ h => h) (Or.inl ⟨by rfl, ?yd26⟩) (by assumption) ?_
    case yd26 => (intro W9 hSw; (try dsimp only at hSw); go_simp; try (with_reducible rfl))
    try simp only [Act.put, List.setIfInBounds_toArray, List.set_cons_zero, List.set_cons_succ]
    refine wpAnyH_take (i := 6) (v := ?vd27) (by simp only [List.getElem?_toArray, List.getElem?_cons_succ, List.getElem?_cons_zero]; rfl) (by kernel_rfl) (by kernel_rfl) (by kernel_rfl) (by exact fun _ _ _ h => h) (Or.inl ⟨by rfl, ?yd27⟩) (by assumption) ?_
    case yd27 => (intro W9 hSw; (try dsimp only at hSw); go_simp; try (with_reducible rfl))
    try simp only [Act.put, List.setIfInBounds_toArray, List.set_cons_zero, List.set_cons_succ]
    refine wpAnyH_take (i := 7) (v := ?vd28) (by simp only [List.getElem?_toArray, List.getElem?_cons_succ, List.getElem?_cons_zero]; rfl) (by kernel_rfl) (by kernel_rfl) (by kernel_rfl) (by exact fun _ _ _ h => h) (Or.inl ⟨by rfl, ?yd28⟩) (by assumption) ?_
    case yd28 => (intro W9 hSw; (try dsimp only at hSw); go_simp; try (with_reducible rfl))
    try simp only [Act.put, List.setIfInBounds_toArray, List.set_cons_zero, List.set_cons_succ]
    refine wpAnyH_take (i := 9) (v := ?vd29) (by simp only [List.getElem?_toArray, List.getElem?_cons_succ, List.getElem?_cons_zero]; rfl) (by kernel_rfl) (by kernel_rfl) (by kernel_rfl) (by exact fun _ _ _ h => h) (Or.inl ⟨by rfl, ?yd29⟩) (by assumption) ?_
    case yd29 => (intro W9 hSw; (try dsimp only at hSw); go_simp; try (with_reducible rfl))
    try simp only [Act.put, List.setIfInBounds_toArray, List.set_cons_zero, List.set_cons_succ]
    refine wpAnyH_ready (rs := [8, 10]) (by kernel_rfl) (by simp) ?_
    refine AllReadyH.cons (by simp only [List.getElem?_toArray, List.getElem?_cons_succ, List.getElem?_cons_zero]; rfl) (fun K hK => ?_) (AllReadyH.cons (by simp only [List.getElem?_toArray, List.getElem?_cons_succ, List.getElem?_cons_zero]; rfl) (fun K hK => ?_) AllReadyH.nil)
    case refine_1 =>
      have z8 : wc.drew.cell? ⟨bg, k * 5, none⟩ = some (.slice ra el.length rc) := HQ8.out.1
      go_simp
      (try go_wp2_with fail)
      clear z8
      refine hK.out _ _ ?_ (fun hHeld2 => ?_)
      · exact HZ13.out _ HB9.out.drew HS9.out.drew
      clear hK K hHeld
      have hHeld := hHeld2
      clear hHeld2
      try simp only [Act.put, List.setIfInBounds_toArray, List.set_cons_zero, List.set_cons_succ]
      refine wpAnyH_ready (rs := [10]) (by kernel_rfl) (by simp) ?_
      refine AllReadyH.cons (by simp only [List.getElem?_toArray, List.getElem?_cons_succ, List.getElem?_cons_zero]; rfl) (fun K hK => ?_) AllReadyH.nil
      go_simp
      (try go_wp2_with fail)
      refine hK.out _ _ ?_ (fun hHeld2 => ?_)
      · exact HZ13.out _ (HB9.out.drew.alloc HB9.out.size _) (HS9.out.drew.alloc _)
      clear hK K hHeld
      have hHeld := hHeld2
      clear hHeld2
      try simp only [Act.put, List.setIfInBounds_toArray, List.set_cons_zero, List.set_cons_succ]
      have HBX : Hid (Blk (wc.drew.alloc (.cells (insC x xa xc) 27)) wc.heap.size 27 (insC x xa xc)) := Lib.hid (Blk.new wc.drew _ _)
      have HOX : Hid (RowE (wc.drew.alloc (.cells (insC x xa xc) 27)) w4.heap.size (.slice ra el.length rc) el) := Lib.hid (World.ownsRow.alloc (World.ownsRow.drew HO0.out) _)
      have HBW : Hid (Below w4.heap.size w4 (wc.drew.alloc (.cells (insC x xa xc) 27))) := Lib.hid (HB9.out.drew.alloc HB9.out.size _)
      have HCX : Hid (CBls (wc.drew.alloc (.cells (insC x xa xc) 27)) w4.heap.size (.slice (some ⟨bg, 0, none⟩) es.length bk) es) := Lib.hid (HC9.out.blocks.keepT ((KeepT.drew wc _).trans (KeepT.alloc _ _ _)) ((KeepT.drew wc _).trans (KeepT.alloc _ _ _)) ((KeepT.drew wc _).trans (KeepT.alloc _ _ _)))
      refine wpAnyH_ready (rs := [11]) (by kernel_rfl) (by simp) ?_
      refine AllReadyH.cons (by simp only [List.getElem?_toArray, List.getElem?_cons_succ, List.getElem?_cons_zero]; rfl) (fun K hK => ?_) AllReadyH.nil
      refine step_append_lies _ rfl _ _ 52 rfl w4.heap.size 27 i0 _ 8 80 Tryd.underlying52 hi0 hz0 hz1 hz2 rfl (by omega) _ el.length (el.flatMap ieC) rfl HOX.out ⟨wc.heap.size, 0, none⟩ 1 1 (ieC (x, xa, xc)) rfl rfl (World.news_of_block HBX.out) (ie_one _) (by omega) (by simp only [maxLen]; omega) (by omega) HBW.out.size _ rfl ?_
      intro gg gcap w6 hown6 hgrow6 hat6 hlt6
      have HB6 : Hid (Below w4.heap.size w4 w6) := Lib.hid (HBW.out.grown hgrow6 HBW.out.size (fun k hk => (World.ownsRow.lt HOX.out k hk).1))
      have HS6 : Hid (Blk w6 s 41 (tgC t (some ⟨bg, 0, none⟩) bk)) := Lib.hid ((HS9.out.drew.alloc _).grown hgrow6 (own_far HOX.out ((HS9.out.drew.alloc _)) (by decide)))
      have HX6 : Hid (Blk w6 p 24 (maxC (wideM m) aa ac sa sc)) := Lib.hid ((HX9.out.drew.alloc _).grown hgrow6 (own_far HOX.out ((HX9.out.drew.alloc _)) (by decide)))
      have HY6 : Hid (Blk w6 q 41 (tgC (wideG t) ba bc)) := Lib.hid ((HY9.out.drew.alloc _).grown hgrow6 (own_far HOX.out ((HY9.out.drew.alloc _)) (by decide)))
      have HR6 : Hid (RowB w6 w4.heap.size (.slice (some ⟨bg, 0, none⟩) es.length bk) es) := Lib.hid (own_keepT HCX.out.row (KeepT.grown HOX.out hgrow6 (by decide)))
      have HF6 := Lib.hid (FIN.out w6 gg gcap HB6.out hown6 ⟨_, HCX.out, hgrow6⟩)
      have HQ6 := Lib.hid (rowB_cell HR6.out HE0.out)
      clear hown6 hgrow6 hat6 hlt6
      refine hK.out _ _ ?_ (fun hHeld2 => ?_)
      · exact HZ13.out _ HB6.out HS6.out
      clear hK K hHeld
      have hHeld := hHeld2
      clear hHeld2
      try simp only [Act.put, List.setIfInBounds_toArray, List.set_cons_zero, List.set_cons_succ]
      have z6 : w6.cell? ⟨bg, k * 5, none⟩ = some (.slice ra el.length rc) := HQ6.out.1
      have f6 := HQ6.out.2.1
      have n1 : s ≠ bg := fun e => own_far HR6.out HS6.out (by decide) (by rw [e]; rfl)
      have n2 : p ≠ bg := fun e => own_far HR6.out HX6.out (by decide) (by rw [e]; rfl)
      have n3 : q ≠ bg := fun e => own_far HR6.out HY6.out (by decide) (by rw [e]; rfl)
      refine wpAnyH_take (i := 12) (v := ?vd30) (by simp only [List.getElem?_toArray, List.getElem?_cons_succ, List.getElem?_cons_zero]; rfl) (by kernel_rfl) (by kernel_rfl) (by kernel_rfl) (by exact fun _ _ _ h => h) (Or.inl ⟨by rfl, ?yd30⟩) (by assumption) ?_
      case yd30 => (intro W9 hSw; (try dsimp only at hSw); go_simp; try (with_reducible rfl))
      try simp only [Act.put, List.setIfInBounds_toArray, List.set_cons_zero, List.set_cons_succ]
      refine wpAnyH_take (i := 13) (v := ?vd31) (by simp only [List.getElem?_toArray, List.getElem?_cons_succ, List.getElem?_cons_zero]; rfl) (by kernel_rfl) (by kernel_rfl) (by kernel_rfl) (by exact fun _ _ _ h => h) (Or.inl ⟨by rfl, ?yd31⟩) (by assumption) ?_
      case yd31 => (intro W9 hSw; (try dsimp only at hSw); go_simp; try (with_reducible rfl))
      try simp only [Act.put, List.setIfInBounds_toArray, List.set_cons_zero, List.set_cons_succ]
      refine wpAnyH_ready (rs := [14]) (by kernel_rfl) (by simp) ?_
      refine AllReadyH.cons (by simp only [List.getElem?_toArray, List.getElem?_cons_succ, List.getElem?_cons_zero]; rfl) (fun K hK => ?_) AllReadyH.nil
      go_simp
      (try go_wp2_with fail)
      refine hK.out _ _ ?_ (fun hHeld2 => ?_)
      · exact HZ13.out _ (HB6.out.setCell (p := ⟨bg, k * 5, none⟩) HQ6.out.2.2.2 _) (HS6.out.far (p := ⟨bg, k * 5, none⟩) n1 _)
      clear hK K hHeld
      have hHeld := hHeld2
      clear hHeld2
      try simp only [Act.put, List.setIfInBounds_toArray, List.set_cons_zero, List.set_cons_succ]
      refine wpAnyH_done (by kernel_rfl) ?_ _
      clear hHeld
      go_wp2_with fail
      go_meet
      exact ⟨rfl, HB6.out.setCell (p := ⟨bg, k * 5, none⟩) HQ6.out.2.2.2 _, HX6.out.far (p := ⟨bg, k * 5, none⟩) n2 _, HY6.out.far (p := ⟨bg, k * 5, none⟩) n3 _, HS6.out.far (p := ⟨bg, k * 5, none⟩) n1 _, HF6.out⟩
    case refine_2 =>
      go_simp
      (try go_wp2_with fail)
      refine hK.out _ _ ?_ (fun hHeld2 => ?_)
      · exact HZ13.out _ (HB9.out.drew.alloc HB9.out.size _) (HS9.out.drew.alloc _)
      clear hK K hHeld
      have hHeld := hHeld2
      clear hHeld2
      try simp only [Act.put, List.setIfInBounds_toArray, List.set_cons_zero, List.set_cons_succ]
      have z8 : (wc.alloc (.cells (insC x xa xc) 27)).drew.cell? ⟨bg, k * 5, none⟩ = some (.slice ra el.length rc) := (rowB_cell (World.ownsRow.drew (World.ownsRow.alloc HC9.out.blocks.row _)) HE0.out).1
      unfold insC at z8
      refine wpAnyH_ready (rs := [8]) (by kernel_rfl) (by simp) ?_
      refine AllReadyH.cons (by simp only [List.getElem?_toArray, List.getElem?_cons_succ, List.getElem?_cons_zero]; rfl) (fun K hK => ?_) AllReadyH.nil
      go_simp
      (try go_wp2_with fail)
      clear z8
      refine hK.out _ _ ?_ (fun hHeld2 => ?_)
      · exact HZ13.out _ (HB9.out.drew.alloc HB9.out.size _) (HS9.out.drew.alloc _)
      clear hK K hHeld
      have hHeld := hHeld2
      clear hHeld2
      try simp only [Act.put, List.setIfInBounds_toArray, List.set_cons_zero, List.set_cons_succ]
      have HBX : Hid (Blk (wc.alloc (.cells (insC x xa xc) 27)).drew wc.heap.size 27 (insC x xa xc)) := Lib.hid (Blk.new wc _ _).drew
      have HOX : Hid (RowE (wc.alloc (.cells (insC x xa xc) 27)).drew w4.heap.size (.slice ra el.length rc) el) := Lib.hid (World.ownsRow.drew (World.ownsRow.alloc HO0.out _))
      have HBW : Hid (Below w4.heap.size w4 (wc.alloc (.cells (insC x xa xc) 27)).drew) := Lib.hid (HB9.out.alloc HB9.out.size _).drew
      have HCX : Hid (CBls (wc.alloc (.cells (insC x xa xc) 27)).drew w4.heap.size (.slice (some ⟨bg, 0, none⟩) es.length bk) es) := Lib.hid (HC9.out.blocks.keepT ((KeepT.alloc wc _ _).trans (KeepT.drew _ _)) ((KeepT.alloc wc _ _).trans (KeepT.drew _ _)) ((KeepT.alloc wc _ _).trans (KeepT.drew _ _)))
      refine wpAnyH_ready (rs := [11]) (by kernel_rfl) (by simp) ?_
      refine AllReadyH.cons (by simp only [List.getElem?_toArray, List.getElem?_cons_succ, List.getElem?_cons_zero]; rfl) (fun K hK => ?_) AllReadyH.nil
      refine step_append_lies _ rfl _ _ 52 rfl w4.heap.size 27 i0 _ 8 80 Tryd.underlying52 hi0 hz0 hz1 hz2 rfl (by omega) _ el.length (el.flatMap ieC) rfl HOX.out ⟨wc.heap.size, 0, none⟩ 1 1 (ieC (x, xa, xc)) rfl rfl (World.news_of_block HBX.out) (ie_one _) (by omega) (by simp only [maxLen]; omega) (by omega) HBW.out.size _ rfl ?_
      intro gg gcap w6 hown6 hgrow6 hat6 hlt6
      have HB6 : Hid (Below w4.heap.size w4 w6) := Lib.hid (HBW.out.grown hgrow6 HBW.out.size (fun k hk => (World.ownsRow.lt HOX.out k hk).1))
      have HS6 : Hid (Blk w6 s 41 (tgC t (some ⟨bg, 0, none⟩) bk)) := Lib.hid ((HS9.out.alloc _).drew.grown hgrow6 (own_far HOX.out ((HS9.out.alloc _).drew) (by decide)))
      have HX6 : Hid (Blk w6 p 24 (maxC (wideM m) aa ac sa sc)) := Lib.hid ((HX9.out.alloc _).drew.grown hgrow6 (own_far HOX.out ((HX9.out.alloc _).drew) (by decide)))
      have HY6 : Hid (Blk w6 q 41 (tgC (wideG t) ba bc)) := Lib.hid ((HY9.out.alloc _).drew.grown hgrow6 (own_far HOX.out ((HY9.out.alloc _).drew) (by decide)))
      have HR6 : Hid (RowB w6 w4.heap.size (.slice (some ⟨bg, 0, none⟩) es.length bk) es) := Lib.hid (own_keepT HCX.out.row (KeepT.grown HOX.out hgrow6 (by decide)))
      have HF6 := Lib.hid (FIN.out w6 gg gcap HB6.out hown6 ⟨_, HCX.out, hgrow6⟩)
      have HQ6 := Lib.hid (rowB_cell HR6.out HE0.out)
      clear hown6 hgrow6 hat6 hlt6
      refine hK.out _ _ ?_ (fun hHeld2 => ?_)
      · exact HZ13.out _ HB6.out HS6.out
      clear hK K hHeld
      have hHeld := hHeld2
      clear hHeld2
      try simp only [Act.put, List.setIfInBounds_toArray, List.set_cons_zero, List.set_cons_succ]
      have z6 : w6.cell? ⟨bg, k * 5, none⟩ = some (.slice ra el.length rc) := HQ6.out.1
      have f6 := HQ6.out.2.1
      have n1 : s ≠ bg := fun e => own_far HR6.out HS6.out (by decide) (by rw [e]; rfl)
      have n2 : p ≠ bg := fun e => own_far HR6.out HX6.out (by decide) (by rw [e]; rfl)
      have n3 : q ≠ bg := fun e => own_far HR6.out HY6.out (by decide) (by rw [e]; rfl)
      refine wpAnyH_take (i := 12) (v := ?vd32) (by simp only [List.getElem?_toArray, List.getElem?_cons_succ, List.getElem?_cons_zero]; rfl) (by kernel_rfl) (by kernel_rfl) (by kernel_rfl) (by exact fun _ _ _ h => h) (Or.inl ⟨by rfl, ?yd32⟩) (by assumption) ?_
      case yd32 => (intro W9 hSw; (try dsimp only at hSw); go_simp; try (with_reducible rfl))
      try simp only [Act.put, List.setIfInBounds_toArray, List.set_cons_zero, List.set_cons_succ]
      refine wpAnyH_take (i := 13) (v := ?vd33) (by simp only [List.getElem?_toArray, List.getElem?_cons_succ, List.getElem?_cons_zero]; rfl) (by kernel_rfl) (by kernel_rfl) (by kernel_rfl) (by exact fun _ _ _ h => h) (Or.inl ⟨by rfl, ?yd33⟩) (by assumption) ?_
      case yd33 => (intro W9 hSw; (try dsimp only at hSw); go_simp; try (with_reducible rfl))
      try simp only [Act.put, List.setIfInBounds_toArray, List.set_cons_zero, List.set_cons_succ]
      refine wpAnyH_ready (rs := [14]) (by kernel_rfl) (by simp) ?_
      refine AllReadyH.cons (by simp only [List.getElem?_toArray, List.getElem?_cons_succ, List.getElem?_cons_zero]; rfl) (fun K hK => ?_) AllReadyH.nil
      go_simp
      (try go_wp2_with fail)
      refine hK.out _ _ ?_ (fun hHeld2 => ?_)
      · exact HZ13.out _ (HB6.out.setCell (p := ⟨bg, k * 5, none⟩) HQ6.out.2.2.2 _) (HS6.out.far (p := ⟨bg, k * 5, none⟩) n1 _)
      clear hK K hHeld
      have hHeld := hHeld2
      clear hHeld2
      try simp only [Act.put, List.setIfInBounds_toArray, List.set_cons_zero, List.set_cons_succ]
      refine wpAnyH_done (by kernel_rfl) ?_ _
      clear hHeld
      go_wp2_with fail
      go_meet
      exact ⟨rfl, HB6.out.setCell (p := ⟨bg, k * 5, none⟩) HQ6.out.2.2.2 _, HX6.out.far (p := ⟨bg, k * 5, none⟩) n2 _, HY6.out.far (p := ⟨bg, k * 5, none⟩) n3 _, HS6.out.far (p := ⟨bg, k * 5, none⟩) n1 _, HF6.out⟩
  case rest =>
  obtain ⟨rfl, hb11, hX11, hY11, hS11, hB11⟩ := hcut
  clear HSS HZ13 FIN HQ8 HO0 HE0 HC9 HS9 HX9 HY9 HB9
  have HB9 := Lib.hid hb11
  have HX9 := Lib.hid hX11
  have HY9 := Lib.hid hY11
  have HS9 := Lib.hid hS11
  have HBN := Lib.hid hB11
  clear hb11 hX11 hY11 hS11 hB11
  generalize hgb : beB (tm, el, ra, rc) = eb at *
  have hkb : t.blocks[k]? = some eb := HKB.out
  have HPL := Lib.hid (right_plus (x := x) HR0.out hkb (by have := (HF.out.2 _ (List.mem_of_getElem? hkb)).1; omega))
  have HSN : Hid (SmallG ⟨t.frame, t.blocks.set k (plusB eb x)⟩) := Lib.hid ⟨by simp; have := HF.out.1; omega, fun y hy => by
    rcases List.mem_or_eq_of_mem_set hy with hy | rfl
    · exact ⟨by have := (HF.out.2 y hy).1; omega, fun i hi => by have := (HF.out.2 y hy).2 i hi; omega⟩
    · have hm := List.mem_of_getElem? hkb
      refine ⟨by simp [plusB]; have := (HF.out.2 _ hm).1; omega, fun i hi => ?_⟩
      simp [plusB] at hi
      rcases hi with hi | rfl
      · have := (HF.out.2 _ hm).2 i hi
        omega
      · omega⟩
  have HSG : Hid (SmallG t) := Lib.hid ⟨by have := HF.out.1; omega, fun y hy => ⟨by have := (HF.out.2 y hy).1; omega, fun i hi => by have := (HF.out.2 y hy).2 i hi; omega⟩⟩
  have HOL : Hid (∀ W, Below wc.heap.size wc W → MaW W m aa sa ∧ BlsW W ba t.blocks ∧ TabW W ∧ BlsW W (some ⟨bg, 0, none⟩) (t.blocks.set k (plusB eb x))) := Lib.hid fun W h =>
    have hw := HWB.out W (HB9.out.trans (h.mono HB9.out.size))
    ⟨HMW.out.below hw, HBL.out.below hw, HTW.out.below hw, HBN.out.below h⟩
  have HWI := Lib.hid (right_wide HR0.out)
  have A1 : Hid (∀ W, Below wc.heap.size wc W → Calls Tryd.prog 22 #[machV (wideM m) aa ac sa sc, tgV t ba bc] W fun e w' => e = .returned (.int .i64 0) ∧ Below wc.heap.size wc w') := Lib.hid fun W h => by
    have q := wider_keep (right_any (wideM m) aa sa ac sc t ba bc W hl hs ⟨(HOL.out W h).1.args, (HOL.out W h).1.saved⟩ (HOL.out W h).2.1 HSG.out (HOL.out W h).2.2.1) h
    rw [HWI.out.1] at q
    exact q
  have A2 : Hid (∀ W, Below wc.heap.size wc W → Calls Tryd.prog 22 #[machV m aa ac sa sc, tgV (wideG t) ba bc] W fun e w' => e = .returned (.int .i64 0) ∧ Below wc.heap.size wc w') := Lib.hid fun W h => by
    have q := wider_keep (right_any m aa sa ac sc (wideG t) ba bc W hl hs (HOL.out W h).1 (HOL.out W h).2.1 ⟨HSG.out.b, HSG.out.i⟩ (HOL.out W h).2.2.1) h
    rw [HWI.out.2.1] at q
    exact q
  have A3 : Hid (∀ W, Below wc.heap.size wc W → Calls Tryd.prog 22 #[machV (wideM m) aa ac sa sc, tgV (wideG t) ba bc] W fun e w' => e = .returned (.int .i64 0) ∧ Below wc.heap.size wc w') := Lib.hid fun W h => by
    have q := wider_keep (right_any (wideM m) aa sa ac sc (wideG t) ba bc W hl hs ⟨(HOL.out W h).1.args, (HOL.out W h).1.saved⟩ (HOL.out W h).2.1 ⟨HSG.out.b, HSG.out.i⟩ (HOL.out W h).2.2.1) h
    rw [HWI.out.2.2] at q
    exact q
  have A4 : Hid (∀ W, Below wc.heap.size wc W → Calls Tryd.prog 22 #[machV m aa ac sa sc, .agg #[.int .i64 t.frame, .slice (some ⟨bg, 0, none⟩) t.blocks.length bk]] W fun e w' => e = .returned (.int .i64 (rightT m (soloG t.frame x))) ∧ Below wc.heap.size wc w') := Lib.hid fun W h => by
    have q := wider_keep (right_any m aa sa ac sc ⟨t.frame, t.blocks.set k (plusB eb x)⟩ (some ⟨bg, 0, none⟩) bk W hl hs (HOL.out W h).1 (HOL.out W h).2.2.2 HSN.out (HOL.out W h).2.2.1) h
    rw [HPL.out] at q
    unfold tgV tgC at q
    simp only [List.length_set] at q
    exact q
  unfold machV at A1 A2 A3 A4
  unfold tgV at A1 A2 A3
  rw [HM.out] at A2 A4
  rw [HC.out] at A1
  rw [show maxC (wideM m) aa ac sa sc = #[.int .i64 64, .slice aa m.args.length ac, .int .i64 m.ret, .slice sa m.saved.length sc] from rfl] at A1 A3
  rw [show tgC (wideG t) ba bc = #[.int .i64 400, .slice ba t.blocks.length bc] from rfl] at A2 A3
  have CE : Hid (∀ W, Below wc.heap.size wc W → (W.cell? ⟨w.heap.size, 0, none⟩ = some (.int .i64 m.regs) ∧ W.cell? ⟨w.heap.size, 1, none⟩ = some (.slice aa m.args.length ac) ∧ W.cell? ⟨w.heap.size, 2, none⟩ = some (.int .i64 m.ret) ∧ W.cell? ⟨w.heap.size, 3, none⟩ = some (.slice sa m.saved.length sc)) ∧ (W.cell? ⟨w.heap.size + 1, 0, none⟩ = some (.int .i64 t.frame) ∧ W.cell? ⟨w.heap.size + 1, 1, none⟩ = some (.slice ba t.blocks.length bc)) ∧ (W.cell? ⟨p, 0, none⟩ = some (.int .i64 (64)) ∧ W.cell? ⟨p, 1, none⟩ = some (.slice aa m.args.length ac) ∧ W.cell? ⟨p, 2, none⟩ = some (.int .i64 m.ret) ∧ W.cell? ⟨p, 3, none⟩ = some (.slice sa m.saved.length sc)) ∧ (W.cell? ⟨q, 0, none⟩ = some (.int .i64 (400)) ∧ W.cell? ⟨q, 1, none⟩ = some (.slice ba t.blocks.length bc)) ∧ (W.cell? ⟨s, 0, none⟩ = some (.int .i64 t.frame) ∧ W.cell? ⟨s, 1, none⟩ = some (.slice (some ⟨bg, 0, none⟩) t.blocks.length bk))) := Lib.hid fun W h =>
    ⟨boxMa (HG4.out.below (HB9.out.trans (h.mono HB9.out.size))).two.mc, boxG (HG4.out.below (HB9.out.trans (h.mono HB9.out.size))).two.tg, boxMa (HX9.out.below h HX9.out.lt), boxG (HY9.out.below h HY9.out.lt), boxG (HS9.out.below h HS9.out.lt)⟩
  generalize rightT m (soloG t.frame x) = ee at *
  have hqe : (ee == ee) = true := by simp
  clear HSG HOL HWI HSN HPL
  obtain ⟨⟨c0, c1, c2, c3⟩, ⟨d0, d1⟩, ⟨p0, p1, p2, p3⟩, ⟨q0, q1⟩, ⟨s0, s1⟩⟩ := CE.out wc (Below.refl _ _)
  go_upto_region 14 with fail
  go_wp2_with fail
  refine (A1.out _ (Below.refl _ _)).mono ?_
  rintro e w11 ⟨rfl, hb11⟩
  clear c0 c1 c2 c3 d0 d1 p0 p1 p2 p3 q0 q1 s0 s1
  obtain ⟨⟨c0, c1, c2, c3⟩, ⟨d0, d1⟩, ⟨p0, p1, p2, p3⟩, ⟨q0, q1⟩, ⟨s0, s1⟩⟩ := CE.out w11 hb11
  go_wp2_with fail
  refine (A2.out _ hb11).mono ?_
  rintro e w12 ⟨rfl, hb12⟩
  clear c0 c1 c2 c3 d0 d1 p0 p1 p2 p3 q0 q1 s0 s1
  obtain ⟨⟨c0, c1, c2, c3⟩, ⟨d0, d1⟩, ⟨p0, p1, p2, p3⟩, ⟨q0, q1⟩, ⟨s0, s1⟩⟩ := CE.out w12 hb12
  go_wp2_with fail
  refine (A3.out _ hb12).mono ?_
  rintro e w13 ⟨rfl, hb13⟩
  clear c0 c1 c2 c3 d0 d1 p0 p1 p2 p3 q0 q1 s0 s1
  obtain ⟨⟨c0, c1, c2, c3⟩, ⟨d0, d1⟩, ⟨p0, p1, p2, p3⟩, ⟨q0, q1⟩, ⟨s0, s1⟩⟩ := CE.out w13 hb13
  go_wp2_with fail
  refine (A4.out _ hb13).mono ?_
  rintro e w14 ⟨rfl, hb14⟩
  clear c0 c1 c2 c3 d0 d1 p0 p1 p2 p3 q0 q1 s0 s1
  go_wp2
  go_ret
  exact ⟨rfl, (HWB.out wc HB9.out).trans (hb14.mono (HWB.out wc HB9.out).size)⟩
end Go.Proofs.YtjahchoaaggkiaaDoor
