/-
  Package read's Parse: what a text tells. Conditions: the library's tables, its errors, and the Ops' names are there.
  A cursor over a text that is not too long fits. No condition beyond those that each theorem states.
  The document's tests on a rune answer what the plain functions say. No condition beyond those that each theorem states.
-/
import Derived.Test.YthiipgahbmoiiaaGreatDoorPk37
import Derived.Laws.ResultCell
import Derived.Test.YthiipgahbmoiiaaGreatDoorPk23
import Derived.Test.YthiipgahbmoiiaaGreatDoorPk14
import Derived.Test.YthiipgahbmoiiaaGreatDoorPk10
import Derived.Test.YthiipgahbmoiiaaGreatDoorPk19
import Derived.Lib.Hide
namespace Go.Proofs.YthiipgahbmoiiaaGreatDoor
open Go.RowKit

theorem own_none9 {W : World} {B : Nat} {e : TypeId} {sz n k m : Nat} {a : Option Addr} {xs : List Value} (h : W.ownsRow B e sz (.slice a n k) m xs) : a = none → k = 0 := fun e => by
  rcases h.2 with ⟨hv, _⟩ | ⟨g, cap, cur, hv, _⟩
  · injection hv with _ _ h3
  · injection hv with h1 _ _
    rw [e] at h1; cases h1
theorem insW_of {W : World} {B : Nat} {a : Option Addr} {k : Nat} {es : List WI} (h : W.ownsRow B 45 8 (.slice a es.length k) es.length (es.flatMap wiC)) (hr : ∀ x ∈ es, OwnA W B x) : InsW W a (es.map Prod.fst) := fun j x hx => by
  rw [List.getElem?_map, Option.map_eq_some_iff] at hx
  obtain ⟨e, he, rfl⟩ := hx
  have hj := (List.getElem?_eq_some_iff.1 he).1
  obtain ⟨g, cap, hv, _, hlt⟩ := World.ownsRow.form h (by omega)
  injection hv with h1 h2 h3
  subst h1 h3
  have hc : ∀ i v, i < 8 → (wiC e)[i]? = some v → W.cell? ⟨g, j * 8 + i, none⟩ = some v := fun i v hi hv => by
    rw [World.ownsRow.cellAt h (j * 8 + i) (by omega), flat_cell wiC 8 wi_len es j e i he hi, hv]
  have ho := hr e (List.mem_of_getElem? he)
  exact ⟨g, 0, e.2.1, e.2.2, rfl, hlt, by rw [Nat.zero_add]; exact ⟨hc 0 _ (by omega) rfl, hc 1 _ (by omega) rfl, hc 2 _ (by omega) rfl, hc 3 _ (by omega) rfl, hc 4 _ (by omega) rfl, hc 5 _ (by omega) rfl, hc 6 _ (by omega) rfl, hc 7 _ (by omega) rfl, own_none9 ho, IntsW.own ho⟩⟩
theorem blsW_of {W : World} {B : Nat} {a : Option Addr} {k : Nat} {es : List WB9} (h : W.ownsRow B 52 5 (.slice a es.length k) es.length (es.flatMap wbC9)) (hr : ∀ x ∈ es, OwnB9 W B x) : BlsW W a (es.map bbOf) := fun j x hx => by
  rw [List.getElem?_map, Option.map_eq_some_iff] at hx
  obtain ⟨e, he, rfl⟩ := hx
  have hj := (List.getElem?_eq_some_iff.1 he).1
  obtain ⟨g, cap, hv, _, hlt⟩ := World.ownsRow.form h (by omega)
  injection hv with h1 h2 h3
  subst h1 h3
  have hc : ∀ i v, i < 5 → (wbC9 e)[i]? = some v → W.cell? ⟨g, j * 5 + i, none⟩ = some v := fun i v hi hv => by
    rw [World.ownsRow.cellAt h (j * 5 + i) (by omega), flat_cell wbC9 5 (fun _ => rfl) es j e i he hi, hv]
  obtain ⟨ho, hi⟩ := hr e (List.mem_of_getElem? he)
  have hl : (bbOf e).ins.length = e.1.1.length := List.length_map _
  exact ⟨g, 0, e.2.1, e.2.2, rfl, hlt, by rw [Nat.zero_add]; exact ⟨by rw [hl]; exact hc 0 _ (by omega) rfl, hc 1 _ (by omega) rfl, hc 2 _ (by omega) rfl, hc 3 _ (by omega) rfl, hc 4 _ (by omega) rfl, own_none9 ho, insW_of ho hi⟩⟩
/-- What Parse tells. -/
def noF : Ff := ⟨[], []⟩
def pfE (s : ByteArray) : Int := if 262144 < s.size then 3 else (startC s).fqC.eErr
def pfL (s : ByteArray) : Int := if 262144 < s.size then 0 else if (startC s).fqC.eErr = 0 then 0 else (startC s).fqC.eLine
def pfC (s : ByteArray) : Int := if 262144 < s.size then 0 else if (startC s).fqC.eErr = 0 then 0 else (startC s).fqC.eCol
def pfF (s : ByteArray) : Ff := if pfE s = 0 then (startC s).fqF else noF
theorem pf_none {s : ByteArray} (h : pfE s ≠ 0) : pfF s = noF := by unfold pfF; rw [if_neg h]
/-- A function's rows, made from there on. -/
structure RowsF (W : World) (B : Nat) (pl : List Int) (pa : Option Addr) (pk : Nat) (es : List WB9) (a : Option Addr) (k : Nat) : Prop where
  par : OwnI W B (.slice pa pl.length pk) pl
  row : W.ownsRow B 52 5 (.slice a es.length k) es.length (es.flatMap wbC9)
  rows : ∀ e ∈ es, OwnB9 W B e
section
variable {W W' : World} {B k pk : Nat} {pl : List Int} {es : List WB9} {a pa : Option Addr}
theorem RowsF.below (h : RowsF W B pl pa pk es a k) (hb : Below W.heap.size W W') : RowsF W' B pl pa pk es a k :=
  ⟨own_keep h.par ⟨hb.size, fun k _ hk => hb.block k hk⟩, own_keep h.row ⟨hb.size, fun k _ hk => hb.block k hk⟩, fun e he => (h.rows e he).below hb⟩
theorem RowsF.put (h : RowsF W B pl pa pk es a k) {g j : Nat} (hg : g < B) (u : Value) : RowsF (W.setCell ⟨g, j, none⟩ u) B pl pa pk es a k :=
  ⟨ownsRow_setCell_below h.par (a := ⟨g, j, none⟩) hg u, ownsRow_setCell_below h.row (a := ⟨g, j, none⟩) hg u, fun e he => ⟨ownsRow_setCell_below (h.rows e he).1 (a := ⟨g, j, none⟩) hg u, fun x hx => ownsRow_setCell_below ((h.rows e he).2 x hx) (a := ⟨g, j, none⟩) hg u⟩⟩
theorem RowsF.fn (h : RowsF W B pl pa pk es a k) : FnW W ⟨pl, es.map bbOf⟩ pa pk a k := ⟨IntsW.own h.par, blsW_of h.row h.rows, own_none9 h.par, own_none9 h.row⟩
end
def ToldF (s : ByteArray) (w w' : World) (e : Ending) : Prop := ∃ (pa : Option Addr) (pc : Nat) (ba : Option Addr) (bc : Nat), e = .returned (.tuple #[fnV (pfF s) pa pc ba bc, .int .i64 (pfL s), .int .i64 (pfC s), .int .i64 (pfE s)]) ∧ Hid (FnW w' (pfF s) pa pc ba bc) ∧ Below w.heap.size w w'
theorem toldF_none {s : ByteArray} {w w' : World} {e : Ending} (h : pfF s = noF) (he : e = .returned (.tuple #[.agg #[.slice none 0 0, .slice none 0 0], .int .i64 (pfL s), .int .i64 (pfC s), .int .i64 (pfE s)])) (hb : Below w.heap.size w w') : ToldF s w w' e := by
  refine ⟨none, 0, none, 0, ?_, ?_, hb⟩
  · rw [h]; exact he
  · rw [h]
    exact ⟨IntsW.nil _ _, fun k x hk => by simp [noF] at hk, fun _ => rfl, fun _ => rfl⟩
theorem start_fitQ (s : ByteArray) (hz : s.size ≤ 300000) (hf : (startC s).left.length ≤ s.size + 1) (ht : ∀ x ∈ (startC s).left, x.t.size ≤ s.size) : Fit (startC s) := ⟨start_ok s, by omega, fun x hx => by have := ht x hx; omega⟩
theorem results_cell3Q {fn : Func} {p u v x : Tmp} {ty : TypeId} (h : fn.results = #[.cell p ty, .tmp u, .tmp v, .tmp x]) (tmps : Array Value) (P : Program) (w : World) :
    (results fn tmps).run P w =
      ((asAddr (tmps.getD p undef)).run P w).andThen fun a w₁ => ((loadVar ty a).run P w₁).andThen fun y w₂ => .ok (.tuple #[y, tmps.getD u undef, tmps.getD v undef, tmps.getD x undef]) w₂ := by
  simp only [results, h]
  simp [Sem.run_bind, Result.andThen]
set_option maxRecDepth 100000 in
set_option maxHeartbeats 4000000 in
theorem parseQ_any (s : ByteArray) (w : World) (hT : TabQ w) (hfit : s.size ≤ 262144 → Fit (startC s)) : Calls Tryz.prog 14 #[.string s] w fun e w' => ToldF s w w' e := by
  have hB0 : Hid (Blk (w.alloc (.cells #[.slice none 0 0, .slice none 0 0] 25)) w.heap.size 25 #[.slice none 0 0, .slice none 0 0]) := Blk.new w _ _
  have HB0 : Hid (Below w.heap.size w (w.alloc (.cells #[.slice none 0 0, .slice none 0 0] 25))) := (Below.refl _ w).alloc (Nat.le_refl _) _
  have TN : Hid (∀ w' e, pfF s = noF → _ → Below w.heap.size w w' → ToldF s w w' e) := fun w' e h1 h2 h3 => toldF_none h1 h2 h3
  by_cases hz : 262144 < s.size
  · have e1 : pfE s = 3 := by unfold pfE; rw [if_pos hz]
    have e2 : pfL s = 0 := by unfold pfL; rw [if_pos hz]
    have e3 : pfC s = 0 := by unfold pfC; rw [if_pos hz]
    have e4 : pfF s = noF := pf_none (by rw [e1]; decide)
    rw [e1, e2, e3] at TN
    have TN1 := Lib.hid (fun w' e => TN.out w' e e4)
    have hlt : (262144 : Int) < s.size := by omega
    clear e1 e2 e3 e4 TN hz hT hfit
    go_enter Tryz.func14, Tryz.ntmps14
    go_wp2
    have hld := run_loadVar_row (P := Tryz.prog) _ w.heap.size 25 25 _ (0, 0) _ hB0.out Tryz.underlying25 rfl func_sizeQ
    refine bodyPost_ret (v := .tuple #[.agg #[.slice none 0 0, .slice none 0 0], .int .i64 0, .int .i64 0, .int .i64 3]) ?_ rfl ?_
    · rw [results_cell3Q rfl]
      simp [asAddr, Result.andThen, hld]
    · exact TN1.out _ _ rfl HB0.out
  · have hz1 : s.size ≤ 262144 := by omega
    have hlt : ¬ (262144 : Int) < s.size := by omega
    have FT := Lib.hid (hfit hz1)
    have OV := Lib.hid (overC_any s (w.alloc (.cells #[.slice none 0 0, .slice none 0 0] 25)) (by omega))
    have HT := Lib.hid hT
    have HP : Hid (pfE s = (startC s).fqC.eErr ∧ pfL s = (if (startC s).fqC.eErr = 0 then 0 else (startC s).fqC.eLine) ∧ pfC s = (if (startC s).fqC.eErr = 0 then 0 else (startC s).fqC.eCol) ∧ pfF s = (if (startC s).fqC.eErr = 0 then (startC s).fqF else noF)) := by
      have e1 : pfE s = (startC s).fqC.eErr := by unfold pfE; rw [if_neg hz]
      refine ⟨e1, ?_, ?_, ?_⟩
      · unfold pfL; rw [if_neg hz]
      · unfold pfC; rw [if_neg hz]
      · unfold pfF; rw [e1]
    clear hz hz1 hT hfit
    go_enter Tryz.func14, Tryz.ntmps14
    go_wp2_with fail
    refine OV.out.mono ?_
    rintro e w1 ⟨g, rfl, h1, hg1, hb1⟩
    have B1 : Hid (Below w.heap.size w w1) := HB0.out.trans (hb1.mono HB0.out.size)
    have R1 : Hid (Blk w1 w.heap.size 25 #[.slice none 0 0, .slice none 0 0]) := hB0.out.below hb1 hB0.out.lt
    have hbr : Below w1.heap.size w1 (w1.alloc (.cells #[.pointer (some ⟨g, 0, none⟩)] 65)) := (Below.refl _ _).alloc (Nat.le_refl _) _
    have RP : Hid (Rq w (w1.alloc (.cells #[.pointer (some ⟨g, 0, none⟩)] 65)) w1.heap.size g (startC s)) :=
      ⟨h1.below hbr, Blk.new w1 _ _, B1.out.trans (hbr.mono B1.out.size), by have := B1.out.size; simp at hg1; omega, FT.out⟩
    have TG := Lib.hid (functionQ_any w _ w1.heap.size g (startC s) HT.out RP.out)
    have R1b : Hid (Blk (w1.alloc (.cells #[.pointer (some ⟨g, 0, none⟩)] 65)) w.heap.size 25 #[.slice none 0 0, .slice none 0 0]) := R1.out.below hbr R1.out.lt
    have hgl : w.heap.size < g := by have h9 := hg1; simp at h9; omega
    have hlt0 : w.heap.size < (w1.alloc (.cells #[.pointer (some ⟨g, 0, none⟩)] 65)).heap.size := R1b.out.lt
    clear h1 hb1 hg1 hbr OV RP FT HB0 hB0 R1
    generalize startC s = c0 at *
    generalize hG : c0.fqF = G at *
    obtain ⟨pl, bl⟩ := G
    clear hG
    go_wp2_with fail
    refine TG.out.mono ?_
    rintro e w2 ⟨es, ba, bk, pa, pk, hes, rfl, hk⟩
    have R2 : Hid (Blk w2 w.heap.size 25 #[.slice none 0 0, .slice none 0 0]) := Blk.keep R1b.out hk.k (by omega)
    have RT : Hid (RowsF w2 (w1.alloc (.cells #[.pointer (some ⟨g, 0, none⟩)] 65)).heap.size pl pa pk es ba bk) := ⟨hk.par, hk.row, hk.rows⟩
    have B2 : Hid (Below w.heap.size w w2) := hk.rp.be
    have HES : Hid (es.map bbOf = bl) := hes
    have C2 := Lib.hid hk.rp.C
    have Q2 := Lib.hid hk.rp.R
    have hql : w1.heap.size < w2.heap.size := Q2.out.lt
    have hqn : ¬ w1.heap.size = w.heap.size := by have := B1.out.size; have h9 := R1b.out; intro e; rw [e] at Q2; exact blk_ne Q2.out R2.out (by decide) rfl
    have x0 : w2.cell? ⟨w.heap.size, 0, none⟩ = some (.slice none 0 0) := R2.out.cell 0
    have x1 : w2.cell? ⟨w.heap.size, 1, none⟩ = some (.slice none 0 0) := R2.out.cell 1
    have f0 := R2.out.free 0
    have f1 := R2.out.free 1
    have hbl2 := R2.out.lt
    have q2 : w2.cell? ⟨w1.heap.size, 0, none⟩ = some (.pointer (some ⟨g, 0, none⟩)) := hk.rp.cell
    have R3 : Hid (Blk ((w2.setCell ⟨w.heap.size, 0, none⟩ (.slice pa pl.length pk)).setCell ⟨w.heap.size, 1, none⟩ (.slice ba es.length bk)) w.heap.size 25 #[.slice pa pl.length pk, .slice ba es.length bk]) := (R2.out.put 0 _).put 1 _
    have C3 : Hid (CurC ((w2.setCell ⟨w.heap.size, 0, none⟩ (.slice pa pl.length pk)).setCell ⟨w.heap.size, 1, none⟩ (.slice ba es.length bk)) g c0.fqC) := (C2.out.keep (Keep.put _ _ _ _ _) R2.out (by decide) (by decide)).keep (Keep.put _ _ _ _ _) (R2.out.put 0 _) (by decide) (by decide)
    have RT3 : Hid (RowsF ((w2.setCell ⟨w.heap.size, 0, none⟩ (.slice pa pl.length pk)).setCell ⟨w.heap.size, 1, none⟩ (.slice ba es.length bk)) (w1.alloc (.cells #[.pointer (some ⟨g, 0, none⟩)] 65)).heap.size pl pa pk es ba bk) := (RT.out.put hlt0 _).put hlt0 _
    have B3 : Hid (Below w.heap.size w ((w2.setCell ⟨w.heap.size, 0, none⟩ (.slice pa pl.length pk)).setCell ⟨w.heap.size, 1, none⟩ (.slice ba es.length bk))) := (B2.out.setCell (p := ⟨w.heap.size, 0, none⟩) (Nat.le_refl _) _).setCell (p := ⟨w.heap.size, 1, none⟩) (Nat.le_refl _) _
    have EV := Lib.hid (err_any g c0.fqC _ C3.out)
    generalize (w1.alloc (.cells #[.pointer (some ⟨g, 0, none⟩)] 65)).heap.size = LB at *
    clear hk hes TG C2 Q2 RT R2 R1b B2 C3
    generalize c0.fqC.eErr = E at *
    generalize c0.fqC.eLine = EL at *
    generalize c0.fqC.eCol = EC at *
    dsimp only
    go_wp2_with fail
    refine EV.out.mono ?_
    rintro e w3 ⟨rfl, hb3⟩
    have B4 : Hid (Below w.heap.size w w3) := B3.out.trans (hb3.mono B3.out.size)
    have R4 := Lib.hid (R3.out.below hb3 R3.out.lt)
    have RT4 := Lib.hid (RT3.out.below hb3)
    clear hb3 EV B3 R3 RT3 x0 x1 f0 f1 q2
    have x0 : w3.cell? ⟨w.heap.size, 0, none⟩ = some (.slice pa pl.length pk) := R4.out.cell 0
    have x1 : w3.cell? ⟨w.heap.size, 1, none⟩ = some (.slice ba es.length bk) := R4.out.cell 1
    have f0 := R4.out.free 0
    have f1 := R4.out.free 1
    have hbl3 := R4.out.lt
    cases hE : E != 0
    · have hE0 : E = 0 := by simpa using hE
      have HP2 := Lib.hid HP.out
      rw [hE0] at HP2
      clear HP TN hE0
      go_wp2
      (try simp only [Exit.inBlock, Exit.then])
      have hb := (R4.out.put 0 (.slice pa pl.length pk)).put 1 (.slice ba es.length bk)
      have hld := run_loadVar_row (P := Tryz.prog) _ w.heap.size 25 25 _ (0, 0) _ hb Tryz.underlying25 rfl func_sizeQ
      refine bodyPost_ret (v := .tuple #[.agg #[.slice pa pl.length pk, .slice ba es.length bk], .int .i64 0, .int .i64 0, .int .i64 0]) ?_ rfl ?_
      · rw [results_cell3Q rfl]
        simp [asAddr, Result.andThen, hld]
      · have RT5 := (RT4.out.put (j := 0) hlt0 (.slice pa pl.length pk)).put (j := 1) hlt0 (.slice ba es.length bk)
        have B5 := (B4.out.setCell (p := ⟨w.heap.size, 0, none⟩) (Nat.le_refl _) (.slice pa pl.length pk)).setCell (p := ⟨w.heap.size, 1, none⟩) (Nat.le_refl _) (.slice ba es.length bk)
        obtain ⟨e1, e2, e3, e4⟩ := HP2.out
        simp only [if_true] at e2 e3 e4
        have hl : bl.length = es.length := by rw [← HES.out, List.length_map]
        have hf := RT5.fn
        rw [HES.out] at hf
        refine ⟨pa, pk, ba, bk, ?_, ?_, B5⟩
        · rw [e1, e2, e3, e4]
          unfold fnV fnC
          dsimp only
          rw [hl]
        · rw [e4]
          exact hf
    · have hE0 : ¬ E = 0 := by simpa using hE
      obtain ⟨e1, e2, e3, e4⟩ := HP.out
      rw [if_neg hE0] at e2 e3 e4
      rw [e1, e2, e3] at TN
      have TN1 := Lib.hid (fun w' e => TN.out w' e e4)
      clear HP TN hE0 e1 e2 e3 e4 HES RT4
      go_wp2
      (try simp only [Exit.inBlock, Exit.then])
      have hb := (R4.out.put 0 (.slice none 0 0)).put 1 (.slice none 0 0)
      have hld := run_loadVar_row (P := Tryz.prog) _ w.heap.size 25 25 _ (0, 0) _ hb Tryz.underlying25 rfl func_sizeQ
      refine bodyPost_ret (v := .tuple #[.agg #[.slice none 0 0, .slice none 0 0], .int .i64 EL, .int .i64 EC, .int .i64 E]) ?_ rfl ?_
      · rw [results_cell3Q rfl]
        simp [asAddr, Result.andThen, hld]
      · exact TN1.out _ _ rfl ((B4.out.setCell (p := ⟨w.heap.size, 0, none⟩) (Nat.le_refl _) _).setCell (p := ⟨w.heap.size, 1, none⟩) (Nat.le_refl _) _)
end Go.Proofs.YthiipgahbmoiiaaGreatDoor
namespace Go.Proofs.YthiipgahbmoiiaaGreatDoor

theorem partOf_size (s : ByteArray) (i j : Nat) : (partOf s i j).size ≤ s.size := by
  unfold partOf
  rw [ByteArray.size_extract]
  omega
theorem go_sizes (s : ByteArray) : ∀ (f i : Nat) (out : List Wd) (l c : Int) (r : Bool), (∀ x ∈ out, x.t.size ≤ s.size) → i ≤ s.size → ∀ x ∈ (refGo s f out l c r i).1, x.t.size ≤ s.size := by
  intro f
  induction f with
  | zero => intro i out l c r h _; rw [refGo]; exact h
  | succ f ih =>
    intro i out l c r h hi
    have more : ∀ y : Wd, y.t.size ≤ s.size → ∀ x ∈ out ++ [y], x.t.size ≤ s.size := by
      intro y hy x hx
      rcases List.mem_append.1 hx with hx | hx
      · exact h x hx
      · simp at hx; subst hx; exact hy
    rw [refGo]
    by_cases hlt : i < s.size
    · rw [if_pos hlt]
      have hal := atP_le s i hlt
      by_cases hm : (atP s i).2 = 0
      · rw [if_pos hm]; simp
      rw [if_neg hm]
      split
      · exact ih _ _ _ _ _ (more _ (Nat.zero_le _)) (by omega)
      split
      · exact ih _ _ _ _ _ h hal
      split
      · have hle := numLen_le s i hlt
        split
        · split
          · simp
          · exact ih _ _ _ _ _ (more _ (partOf_size _ _ _)) hle
        · simp
      split
      · split
        · simp
        · have hr := runTo_le s false i hi
          exact ih _ _ _ _ _ (more _ (partOf_size _ _ _)) hr.2.1
      split
      · exact ih _ _ _ _ _ (more _ (partOf_size _ _ _)) hal
      · simp
    · rw [if_neg hlt]
      exact h
theorem read_sizes (s : ByteArray) : ∀ x ∈ readWords s, x.t.size ≤ s.size := by
  have h := go_sizes s s.size 0 [] 1 1 false (by simp) (by omega)
  have e := read_eq s
  unfold refRead at e
  rw [e] at h
  exact h
theorem left_few (s : ByteArray) : (startC s).left.length ≤ s.size + 1 := by
  have h1 := pruned_length (readWords s) (none, [])
  have h2 := read_few s
  have h3 : (startC s).left = pruned (readWords s) := rfl
  rw [h3]
  unfold pruned
  simp at h1
  omega
theorem start_fit (s : ByteArray) (hz : s.size ≤ 300000) : Fit (startC s) := by
  refine ⟨start_ok s, by have := left_few s; omega, fun x hx => ?_⟩
  have h1 : x ∈ pruned (readWords s) := hx
  rcases pruned_mem (readWords s) (none, []) (fun _ h => by simp at h) x h1 with h | h | h
  · have := read_sizes s x h; omega
  · simp at h
  · simp at h
theorem join_tail_cons (x : List UInt8) (r : List (List UInt8)) : Lib.joinTail [32] (x :: r) = 32 :: (x ++ Lib.joinTail [32] r) := by simp [Lib.joinTail]
end Go.Proofs.YthiipgahbmoiiaaGreatDoor
namespace Go.Proofs.YthiipgahbmoiiaaGreatDoor
open Go.RowKit

theorem within_any (r lo hi : Int) (w : World) : Calls Tryz.prog 174 #[.int .i32 r, .int .i32 lo, .int .i32 hi] w fun e w' => e = .returned (.bool (decide (lo ≤ r ∧ r ≤ hi))) ∧ w = w' := by
  by_cases h : lo ≤ r
  all_goals
    go_enter Tryz.func174, Tryz.ntmps174
    go_wp2
    go_ret
    refine ⟨ret_bool ?_, rfl⟩
    simp
    try omega
theorem rdigit_any (r : Int) (w : World) : Calls Tryz.prog 175 #[.int .i32 r] w fun e w' => e = .returned (.bool (digitB r)) ∧ w = w' := by
  go_enter Tryz.func175, Tryz.ntmps175
  go_wp2_with fail
  refine (within_any _ _ _ _).mono ?_
  rintro e w1 ⟨rfl, rfl⟩
  go_wp2
  go_ret
  refine ⟨ret_bool ?_, rfl⟩
  simp [digitB]
theorem rletter_any (r : Int) (w : World) : Calls Tryz.prog 134 #[.int .i32 r] w fun e w' => e = .returned (.bool (letterB r)) ∧ w = w' := by
  cases h1 : decide (97 ≤ r ∧ r ≤ 122)
  · cases h2 : decide (945 ≤ r ∧ r ≤ 969)
    · go_enter Tryz.func134, Tryz.ntmps134
      go_wp2_with fail
      refine (within_any _ _ _ _).mono ?_
      rintro e w1 ⟨rfl, rfl⟩
      rw [h1]
      go_wp2_with fail
      refine (within_any _ _ _ _).mono ?_
      rintro e w1 ⟨rfl, rfl⟩
      rw [h2]
      go_wp2
      go_ret
      refine ⟨ret_bool ?_, rfl⟩
      simp at h1 h2 ⊢
      simp [letterB]
      omega
    · go_enter Tryz.func134, Tryz.ntmps134
      go_wp2_with fail
      refine (within_any _ _ _ _).mono ?_
      rintro e w1 ⟨rfl, rfl⟩
      rw [h1]
      go_wp2_with fail
      refine (within_any _ _ _ _).mono ?_
      rintro e w1 ⟨rfl, rfl⟩
      rw [h2]
      go_wp2
      go_ret
      refine ⟨ret_bool ?_, rfl⟩
      simp at h1 h2 ⊢
      simp [letterB]
      omega
  · go_enter Tryz.func134, Tryz.ntmps134
    go_wp2_with fail
    refine (within_any _ _ _ _).mono ?_
    rintro e w1 ⟨rfl, rfl⟩
    rw [h1]
    go_wp2
    go_ret
    refine ⟨ret_bool ?_, rfl⟩
    simp at h1 ⊢
    simp [letterB]
    omega
end Go.Proofs.YthiipgahbmoiiaaGreatDoor
