/-
  Package mread's Parse: what a text tells. Conditions: the library's tables, its errors, and the Ops' names are there.
-/
import Derived.Test.YtjmdgbgjleeloaaGreatDoorPk28
import Derived.Test.YtjmdgbgjleeloaaGreatDoorQk6
import Derived.Laws.ResultCell
namespace Go.Proofs.YtjmdgbgjleeloaaGreatDoor
open Go.RowKit

theorem results_cell3 {fn : Func} {p u v x : Tmp} {ty : TypeId} (h : fn.results = #[.cell p ty, .tmp u, .tmp v, .tmp x]) (tmps : Array Value) (P : Program) (w : World) :
    (results fn tmps).run P w =
      ((asAddr (tmps.getD p undef)).run P w).andThen fun a w₁ => ((loadVar ty a).run P w₁).andThen fun y w₂ => .ok (.tuple #[y, tmps.getD u undef, tmps.getD v undef, tmps.getD x undef]) w₂ := by
  simp only [results, h]
  simp [Sem.run_bind, Result.andThen]
/-- A target's rows, made from there on. -/
structure RowsT (W : World) (B : Nat) (es : List WB) (a : Option Addr) (n : Nat) : Prop where
  row : W.ownsRow B 53 5 (.slice a es.length n) es.length (es.flatMap wbC)
  rows : ∀ e ∈ es, OwnB W B e
theorem RowsT.below {W W' : World} {B n : Nat} {es : List WB} {a : Option Addr} (h : RowsT W B es a n) (hb : Below W.heap.size W W') : RowsT W' B es a n :=
  ⟨own_keep h.row ⟨hb.size, fun k _ hk => hb.block k hk⟩, fun e he => own_keep (h.rows e he) ⟨hb.size, fun k _ hk => hb.block k hk⟩⟩
theorem RowsT.put {W : World} {B n : Nat} {es : List WB} {a : Option Addr} (h : RowsT W B es a n) {g j : Nat} (hg : g < B) (u : Value) : RowsT (W.setCell ⟨g, j, none⟩ u) B es a n :=
  ⟨ownsRow_setCell_below h.row (a := ⟨g, j, none⟩) hg u, fun e he => ownsRow_setCell_below (h.rows e he) (a := ⟨g, j, none⟩) hg u⟩
theorem RowsT.bls {W : World} {B n : Nat} {es : List WB} {a : Option Addr} (h : RowsT W B es a n) (hb : ∀ b ∈ es.map Prod.fst, BareB b) : BlsW W a (es.map Prod.fst) ∧ (a = none → n = 0) := by
  refine ⟨wb_row h.row rfl (fun e he => own_ins (h.rows e he) (hb e.1 (List.mem_map_of_mem he))), fun e => ?_⟩
  rcases h.row.2 with ⟨hv, _⟩ | ⟨g, cap, cur, hv, _⟩
  · injection hv with _ _ h3
  · injection hv with h1 _ _
    rw [e] at h1; cases h1
/-- What a call that reads a target tells. -/
def ToldT (s : ByteArray) (w w' : World) (e : Ending) : Prop := ∃ (ba : Option Addr) (bc : Nat), e = .returned (.tuple #[tgV (prG s) ba bc, .int .i64 (prL s), .int .i64 (prC s), .int .i64 (prE s)]) ∧ Hid (BlsW w' ba (prG s).blocks ∧ (ba = none → bc = 0)) ∧ Below w.heap.size w w'
theorem told_none {s : ByteArray} {w w' : World} {e : Ending} (h : prG s = noG) (he : e = .returned (.tuple #[.agg #[.int .i64 0, .slice none 0 0], .int .i64 (prL s), .int .i64 (prC s), .int .i64 (prE s)])) (hb : Below w.heap.size w w') : ToldT s w w' e := by
  refine ⟨none, 0, ?_, ⟨?_, fun _ => rfl⟩, hb⟩
  · rw [h]; exact he
  · rw [h]; exact fun k x hk => by simp [noG] at hk
set_option maxRecDepth 100000 in
set_option maxHeartbeats 4000000 in
theorem parse_any (s : ByteArray) (w : World) (hT : TabR w) : Calls Tryz.prog 14 #[.string s] w fun e w' => ToldT s w w' e := by
  have hB0 : Hid (Blk (w.alloc (.cells #[.int .i64 0, .slice none 0 0] 24)) w.heap.size 24 #[.int .i64 0, .slice none 0 0]) := Blk.new w _ _
  have HB0 : Hid (Below w.heap.size w (w.alloc (.cells #[.int .i64 0, .slice none 0 0] 24))) := (Below.refl _ w).alloc (Nat.le_refl _) _
  have TN : Hid (∀ w' e, prG s = noG → _ → Below w.heap.size w w' → ToldT s w w' e) := fun w' e h1 h2 h3 => told_none h1 h2 h3
  by_cases hz : 262144 < s.size
  · have e1 : prE s = 3 := by unfold prE; rw [if_pos hz]
    have e2 : prL s = 0 := by unfold prL; rw [if_pos hz]
    have e3 : prC s = 0 := by unfold prC; rw [if_pos hz]
    have e4 : prG s = noG := pr_none (by rw [e1]; decide)
    rw [e1, e2, e3] at TN
    have TN1 := Lib.hid (fun w' e => TN.out w' e e4)
    have hlt : (262144 : Int) < s.size := by omega
    clear e1 e2 e3 e4 TN hz hT
    go_enter Tryz.func14, Tryz.ntmps14
    go_wp2
    have hld := run_loadVar_row (P := Tryz.prog) _ w.heap.size 24 24 _ (0, 0) _ hB0.out Tryz.underlying24 rfl target_size
    refine bodyPost_ret (v := .tuple #[.agg #[.int .i64 0, .slice none 0 0], .int .i64 0, .int .i64 0, .int .i64 3]) ?_ rfl ?_
    · rw [results_cell3 rfl]
      simp [asAddr, Result.andThen, hld]
    · exact TN1.out _ _ rfl HB0.out
  · have hz1 : s.size ≤ 262144 := by omega
    have hlt : ¬ (262144 : Int) < s.size := by omega
    have FT := Lib.hid (start_fit s (by omega))
    have OV := Lib.hid (overC_any s (w.alloc (.cells #[.int .i64 0, .slice none 0 0] 24)) (by omega))
    have HT := Lib.hid hT
    have HP : Hid (prE s = (startC s).tgC.eErr ∧ prL s = (if (startC s).tgC.eErr = 0 then 0 else (startC s).tgC.eLine) ∧ prC s = (if (startC s).tgC.eErr = 0 then 0 else (startC s).tgC.eCol) ∧ prG s = (if (startC s).tgC.eErr = 0 then (startC s).tgG else noG) ∧ ∀ b ∈ (startC s).tgG.blocks, BareB b) := by
      have e1 : prE s = (startC s).tgC.eErr := by unfold prE; rw [if_neg hz]
      refine ⟨e1, ?_, ?_, ?_, bare_tg 200 0 _ [] (by simp)⟩
      · unfold prL; rw [if_neg hz]
      · unfold prC; rw [if_neg hz]
      · unfold prG; rw [e1]
    clear hz hz1 hT
    go_enter Tryz.func14, Tryz.ntmps14
    go_wp2_with fail
    refine OV.out.mono ?_
    rintro e w1 ⟨g, rfl, h1, hg1, hb1⟩
    have B1 : Hid (Below w.heap.size w w1) := HB0.out.trans (hb1.mono HB0.out.size)
    have R1 : Hid (Blk w1 w.heap.size 24 #[.int .i64 0, .slice none 0 0]) := hB0.out.below hb1 hB0.out.lt
    have hbr : Below w1.heap.size w1 (w1.alloc (.cells #[.pointer (some ⟨g, 0, none⟩)] 64)) := (Below.refl _ _).alloc (Nat.le_refl _) _
    have RP : Hid (Rp w (w1.alloc (.cells #[.pointer (some ⟨g, 0, none⟩)] 64)) w1.heap.size g (startC s)) :=
      ⟨h1.below hbr, Blk.new w1 _ _, B1.out.trans (hbr.mono B1.out.size), by have := B1.out.size; simp at hg1; omega, FT.out⟩
    have TG := Lib.hid (target_any w _ w1.heap.size g (startC s) HT.out RP.out)
    have R1b : Hid (Blk (w1.alloc (.cells #[.pointer (some ⟨g, 0, none⟩)] 64)) w.heap.size 24 #[.int .i64 0, .slice none 0 0]) := R1.out.below hbr R1.out.lt
    have hgl : w.heap.size < g := by have h9 := hg1; simp at h9; omega
    have hlt0 : w.heap.size < (w1.alloc (.cells #[.pointer (some ⟨g, 0, none⟩)] 64)).heap.size := R1b.out.lt
    clear h1 hb1 hg1 hbr OV RP FT HB0 hB0 R1
    generalize startC s = c0 at *
    generalize c0.tgG = G at *
    go_wp2_with fail
    refine TG.out.mono ?_
    rintro e w2 ⟨es, ba, bk, hes, rfl, hk⟩
    have R2 : Hid (Blk w2 w.heap.size 24 #[.int .i64 0, .slice none 0 0]) := Blk.keep R1b.out hk.k (by omega)
    have RT : Hid (RowsT w2 (w1.alloc (.cells #[.pointer (some ⟨g, 0, none⟩)] 64)).heap.size es ba bk) := ⟨hk.row, hk.rows⟩
    have B2 : Hid (Below w.heap.size w w2) := hk.rp.be
    have HES := Lib.hid hes
    have C2 := Lib.hid hk.rp.C
    have Q2 := Lib.hid hk.rp.R
    have hql : w1.heap.size < w2.heap.size := Q2.out.lt
    have hqn : ¬ w1.heap.size = w.heap.size := by have := B1.out.size; have h9 := R1b.out; intro e; rw [e] at Q2; exact blk_ne Q2.out R2.out (by decide) rfl
    have x0 : w2.cell? ⟨w.heap.size, 0, none⟩ = some (.int .i64 0) := R2.out.cell 0
    have x1 : w2.cell? ⟨w.heap.size, 1, none⟩ = some (.slice none 0 0) := R2.out.cell 1
    have f0 := R2.out.free 0
    have f1 := R2.out.free 1
    have hbl2 := R2.out.lt
    have q2 : w2.cell? ⟨w1.heap.size, 0, none⟩ = some (.pointer (some ⟨g, 0, none⟩)) := hk.rp.cell
    have R3 : Hid (Blk ((w2.setCell ⟨w.heap.size, 0, none⟩ (.int .i64 G.frame)).setCell ⟨w.heap.size, 1, none⟩ (.slice ba es.length bk)) w.heap.size 24 #[.int .i64 G.frame, .slice ba es.length bk]) := (R2.out.put 0 _).put 1 _
    have C3 : Hid (CurC ((w2.setCell ⟨w.heap.size, 0, none⟩ (.int .i64 G.frame)).setCell ⟨w.heap.size, 1, none⟩ (.slice ba es.length bk)) g c0.tgC) := (C2.out.keep (Keep.put _ _ _ _ _) R2.out (by decide) (by decide)).keep (Keep.put _ _ _ _ _) (R2.out.put 0 _) (by decide) (by decide)
    have RT3 : Hid (RowsT ((w2.setCell ⟨w.heap.size, 0, none⟩ (.int .i64 G.frame)).setCell ⟨w.heap.size, 1, none⟩ (.slice ba es.length bk)) (w1.alloc (.cells #[.pointer (some ⟨g, 0, none⟩)] 64)).heap.size es ba bk) := (RT.out.put hlt0 _).put hlt0 _
    have B3 : Hid (Below w.heap.size w ((w2.setCell ⟨w.heap.size, 0, none⟩ (.int .i64 G.frame)).setCell ⟨w.heap.size, 1, none⟩ (.slice ba es.length bk))) := (B2.out.setCell (p := ⟨w.heap.size, 0, none⟩) (Nat.le_refl _) _).setCell (p := ⟨w.heap.size, 1, none⟩) (Nat.le_refl _) _
    have EV := Lib.hid (err_any g c0.tgC _ C3.out)
    generalize (w1.alloc (.cells #[.pointer (some ⟨g, 0, none⟩)] 64)).heap.size = LB at *
    clear hk hes TG C2 Q2 RT R2 R1b B2 C3
    generalize c0.tgC.eErr = E at *
    generalize c0.tgC.eLine = EL at *
    generalize c0.tgC.eCol = EC at *
    (try dsimp only)
    go_wp2_with fail
    refine EV.out.mono ?_
    rintro e w3 ⟨rfl, hb3⟩
    have B4 : Hid (Below w.heap.size w w3) := B3.out.trans (hb3.mono B3.out.size)
    have R4 := Lib.hid (R3.out.below hb3 R3.out.lt)
    have RT4 := Lib.hid (RT3.out.below hb3)
    clear hb3 EV B3 R3 RT3 x0 x1 f0 f1 q2
    have x0 : w3.cell? ⟨w.heap.size, 0, none⟩ = some (.int .i64 G.frame) := R4.out.cell 0
    have x1 : w3.cell? ⟨w.heap.size, 1, none⟩ = some (.slice ba es.length bk) := R4.out.cell 1
    have f0 := R4.out.free 0
    have f1 := R4.out.free 1
    have hbl3 := R4.out.lt
    cases hE : E != 0
    · have hE0 : E = 0 := by simpa using hE
      have HP2 := Lib.hid HP.out
      rw [hE0] at HP2
      clear HP TN hE0
      go_wp2
      (try simp only [Exit.inBlock, Exit.then])
      have hb := (R4.out.put 0 (.int .i64 G.frame)).put 1 (.slice ba es.length bk)
      have hld := run_loadVar_row (P := Tryz.prog) _ w.heap.size 24 24 _ (0, 0) _ hb Tryz.underlying24 rfl target_size
      refine bodyPost_ret (v := .tuple #[.agg #[.int .i64 G.frame, .slice ba es.length bk], .int .i64 0, .int .i64 0, .int .i64 0]) ?_ rfl ?_
      · rw [results_cell3 rfl]
        simp [asAddr, Result.andThen, hld]
      · have RT5 := (RT4.out.put (j := 0) hlt0 (.int .i64 G.frame)).put (j := 1) hlt0 (.slice ba es.length bk)
        have B5 := (B4.out.setCell (p := ⟨w.heap.size, 0, none⟩) (Nat.le_refl _) (.int .i64 G.frame)).setCell (p := ⟨w.heap.size, 1, none⟩) (Nat.le_refl _) (.slice ba es.length bk)
        obtain ⟨e1, e2, e3, e4, e5⟩ := HP2.out
        simp only [if_true] at e2 e3 e4
        have hl : G.blocks.length = es.length := by rw [← HES.out, List.length_map]
        obtain ⟨g1, g2⟩ := RT5.bls (fun b hb2 => e5 b (by rw [← HES.out]; exact hb2))
        refine ⟨ba, bk, ?_, ?_, B5⟩
        · rw [e1, e2, e3, e4]
          unfold tgV tgC
          rw [hl]
        · rw [e4, ← HES.out]
          exact ⟨g1, g2⟩
    · have hE0 : ¬ E = 0 := by simpa using hE
      obtain ⟨e1, e2, e3, e4, _⟩ := HP.out
      rw [if_neg hE0] at e2 e3 e4
      rw [e1, e2, e3] at TN
      have TN1 := Lib.hid (fun w' e => TN.out w' e e4)
      clear HP TN hE0 e1 e2 e3 e4 HES RT4
      go_wp2
      (try simp only [Exit.inBlock, Exit.then])
      have hb := (R4.out.put 0 (.int .i64 0)).put 1 (.slice none 0 0)
      have hld := run_loadVar_row (P := Tryz.prog) _ w.heap.size 24 24 _ (0, 0) _ hb Tryz.underlying24 rfl target_size
      refine bodyPost_ret (v := .tuple #[.agg #[.int .i64 0, .slice none 0 0], .int .i64 EL, .int .i64 EC, .int .i64 E]) ?_ rfl ?_
      · rw [results_cell3 rfl]
        simp [asAddr, Result.andThen, hld]
      · exact TN1.out _ _ rfl ((B4.out.setCell (p := ⟨w.heap.size, 0, none⟩) (Nat.le_refl _) _).setCell (p := ⟨w.heap.size, 1, none⟩) (Nat.le_refl _) _)
end Go.Proofs.YtjmdgbgjleeloaaGreatDoor
