/-
  Package mread's Parse: what a text tells. Conditions: the library's tables, its errors, and the Ops' names are there.
  The chapter's example is read and written as it says (package intarsialaw07's awake). Conditions: the library's tables, its errors, the Ops' names and parts hold what the text lays.
  The tables that a row of mread lists, as its condition lays them, are those that the contracts ask for. No condition beyond those that each theorem states.
-/
import Derived.Test.YtbjmbahpcoanoaaGreatDoorPk32
import Derived.Test.YtbjmbahpcoanoaaGreatDoorPk35
import Derived.Laws.ResultCell
import Derived.Test.YtbjmbahpcoanoaaGreatDoorRows
import Derived.Lib.LaidU8
import Derived.Lib.LaidTab
import Derived.MakeChecks
namespace Go.Proofs.YtbjmbahpcoanoaaGreatDoor
open Go.RowKit

theorem results_cell3 {fn : Func} {p u v x : Tmp} {ty : TypeId} (h : fn.results = #[.cell p ty, .tmp u, .tmp v, .tmp x]) (tmps : Array Value) (P : Program) (w : World) :
    (results fn tmps).run P w =
      ((asAddr (tmps.getD p undef)).run P w).andThen fun a w₁ => ((loadVar ty a).run P w₁).andThen fun y w₂ => .ok (.tuple #[y, tmps.getD u undef, tmps.getD v undef, tmps.getD x undef]) w₂ := by
 simp only [results, h]
 simp [Sem.run_bind, Result.andThen]
/-- A target's rows, made from there on. -/
structure RowsT (W : World) (B : Nat) (es : List WB) (a : Option Addr) (n : Nat) : Prop where
 row : W.ownsRow B 53 5 (.slice a es.length n) es.length (es.flatMap wbC)
 rows : ∀ e ∈ es, OwnB W B e
theorem RowsT.below {W W' : World} {B n : Nat} {es : List WB} {a : Option Addr} (h : RowsT W B es a n) (hb : Below W.heap.size W W') : RowsT W' B es a n :=
 ⟨own_keep h.row ⟨hb.size, fun k _ hk => hb.block k hk⟩, fun e he => own_keep (h.rows e he) ⟨hb.size, fun k _ hk => hb.block k hk⟩⟩
theorem RowsT.put {W : World} {B n : Nat} {es : List WB} {a : Option Addr} (h : RowsT W B es a n) {g j : Nat} (hg : g < B) (u : Value) : RowsT (W.setCell ⟨g, j, none⟩ u) B es a n :=
 ⟨ownsRow_setCell_below h.row (a := ⟨g, j, none⟩) hg u, fun e he => ownsRow_setCell_below (h.rows e he) (a := ⟨g, j, none⟩) hg u⟩
theorem RowsT.bls {W : World} {B n : Nat} {es : List WB} {a : Option Addr} (h : RowsT W B es a n) (hb : ∀ b ∈ es.map Prod.fst, BareB b) : BlsW W a (es.map Prod.fst) ∧ (a = none → n = 0) := by
 refine ⟨wb_row h.row rfl (fun e he => own_ins (h.rows e he) (hb e.1 (List.mem_map_of_mem he))), fun e => ?_⟩
 rcases h.row.2 with ⟨hv, _⟩ | ⟨g, cap, cur, hv, _⟩
 · injection hv with _ _ h3
 · injection hv with h1 _ _
   rw [e] at h1; cases h1
/-- What a call that reads a target tells. -/
def ToldT (s : ByteArray) (w w' : World) (e : Ending) : Prop := ∃ (ba : Option Addr) (bc : Nat), e = .returned (.tuple #[tgV (prG s) ba bc, .int .i64 (prL s), .int .i64 (prC s), .int .i64 (prE s)]) ∧ Hid (BlsW w' ba (prG s).blocks ∧ (ba = none → bc = 0)) ∧ Below w.heap.size w w'
theorem told_none {s : ByteArray} {w w' : World} {e : Ending} (h : prG s = noG) (he : e = .returned (.tuple #[.agg #[.int .i64 0, .slice none 0 0], .int .i64 (prL s), .int .i64 (prC s), .int .i64 (prE s)])) (hb : Below w.heap.size w w') : ToldT s w w' e := by
 refine ⟨none, 0, ?_, ⟨?_, fun _ => rfl⟩, hb⟩
 · rw [h]; exact he
 · rw [h]; exact fun k x hk => by simp [noG] at hk
set_option maxRecDepth 100000 in
set_option maxHeartbeats 4000000 in
theorem parse_any (s : ByteArray) (w : World) (hT : TabR w) : Calls Tryz.prog 14 #[.string s] w fun e w' => ToldT s w w' e := by
 have hB0 : Hid (Blk (w.alloc (.cells #[.int .i64 0, .slice none 0 0] 24)) w.heap.size 24 #[.int .i64 0, .slice none 0 0]) := Blk.new w _ _
 have HB0 : Hid (Below w.heap.size w (w.alloc (.cells #[.int .i64 0, .slice none 0 0] 24))) := (Below.refl _ w).alloc (Nat.le_refl _) _
 have TN : Hid (∀ w' e, prG s = noG → _ → Below w.heap.size w w' → ToldT s w w' e) := fun w' e h1 h2 h3 => told_none h1 h2 h3
 by_cases hz : 262144 < s.size
 · have e1 : prE s = 3 := by unfold prE; rw [if_pos hz]
   have e2 : prL s = 0 := by unfold prL; rw [if_pos hz]
   have e3 : prC s = 0 := by unfold prC; rw [if_pos hz]
   have e4 : prG s = noG := pr_none (by rw [e1]; decide)
   rw [e1, e2, e3] at TN
   have TN1 := Lib.hid (fun w' e => TN.out w' e e4)
   have hlt : (262144 : Int) < s.size := by omega
   clear e1 e2 e3 e4 TN hz hT
   go_enter Tryz.func14, Tryz.ntmps14
   go_wp2
   have hld := run_loadVar_row (P := Tryz.prog) _ w.heap.size 24 24 _ (0, 0) _ hB0.out Tryz.underlying24 rfl target_size
   refine bodyPost_ret (v := .tuple #[.agg #[.int .i64 0, .slice none 0 0], .int .i64 0, .int .i64 0, .int .i64 3]) ?_ rfl ?_
   · rw [results_cell3 rfl]
     simp [asAddr, Result.andThen, hld]
   · exact TN1.out _ _ rfl HB0.out
 · have hz1 : s.size ≤ 262144 := by omega
   have hlt : ¬ (262144 : Int) < s.size := by omega
   have FT := Lib.hid (start_fit s (by omega))
   have OV := Lib.hid (overC_any s (w.alloc (.cells #[.int .i64 0, .slice none 0 0] 24)) (by omega))
   have HT := Lib.hid hT
   have HP : Hid (prE s = (startC s).tgC.eErr ∧ prL s = (if (startC s).tgC.eErr = 0 then 0 else (startC s).tgC.eLine) ∧ prC s = (if (startC s).tgC.eErr = 0 then 0 else (startC s).tgC.eCol) ∧ prG s = (if (startC s).tgC.eErr = 0 then (startC s).tgG else noG) ∧ ∀ b ∈ (startC s).tgG.blocks, BareB b) := by
    have e1 : prE s = (startC s).tgC.eErr := by unfold prE; rw [if_neg hz]
    refine ⟨e1, ?_, ?_, ?_, bare_tg 200 0 _ [] (by simp)⟩
    · unfold prL; rw [if_neg hz]
    · unfold prC; rw [if_neg hz]
    · unfold prG; rw [e1]
   clear hz hz1 hT
   go_enter Tryz.func14, Tryz.ntmps14
   go_wp2_with fail
   refine OV.out.mono ?_
   rintro e w1 ⟨g, rfl, h1, hg1, hb1⟩
   have B1 : Hid (Below w.heap.size w w1) := HB0.out.trans (hb1.mono HB0.out.size)
   have R1 : Hid (Blk w1 w.heap.size 24 #[.int .i64 0, .slice none 0 0]) := hB0.out.below hb1 hB0.out.lt
   have hbr : Below w1.heap.size w1 (w1.alloc (.cells #[.pointer (some ⟨g, 0, none⟩)] 64)) := (Below.refl _ _).alloc (Nat.le_refl _) _
   have RP : Hid (Rp w (w1.alloc (.cells #[.pointer (some ⟨g, 0, none⟩)] 64)) w1.heap.size g (startC s)) :=
    ⟨h1.below hbr, Blk.new w1 _ _, B1.out.trans (hbr.mono B1.out.size), by have := B1.out.size; simp at hg1; omega, FT.out⟩
   have TG := Lib.hid (target_any w _ w1.heap.size g (startC s) HT.out RP.out)
   have R1b : Hid (Blk (w1.alloc (.cells #[.pointer (some ⟨g, 0, none⟩)] 64)) w.heap.size 24 #[.int .i64 0, .slice none 0 0]) := R1.out.below hbr R1.out.lt
   have hgl : w.heap.size < g := by have h9 := hg1; simp at h9; omega
   have hlt0 : w.heap.size < (w1.alloc (.cells #[.pointer (some ⟨g, 0, none⟩)] 64)).heap.size := R1b.out.lt
   clear h1 hb1 hg1 hbr OV RP FT HB0 hB0 R1
   generalize startC s = c0 at *
   generalize c0.tgG = G at *
   go_wp2_with fail
   refine TG.out.mono ?_
   rintro e w2 ⟨es, ba, bk, hes, rfl, hk⟩
   have R2 : Hid (Blk w2 w.heap.size 24 #[.int .i64 0, .slice none 0 0]) := Blk.keep R1b.out hk.k (by omega)
   have RT : Hid (RowsT w2 (w1.alloc (.cells #[.pointer (some ⟨g, 0, none⟩)] 64)).heap.size es ba bk) := ⟨hk.row, hk.rows⟩
   have B2 : Hid (Below w.heap.size w w2) := hk.rp.be
   have HES := Lib.hid hes
   have C2 := Lib.hid hk.rp.C
   have Q2 := Lib.hid hk.rp.R
   have hql : w1.heap.size < w2.heap.size := Q2.out.lt
   have hqn : ¬ w1.heap.size = w.heap.size := by have := B1.out.size; have h9 := R1b.out; intro e; rw [e] at Q2; exact blk_ne Q2.out R2.out (by decide) rfl
   have x0 : w2.cell? ⟨w.heap.size, 0, none⟩ = some (.int .i64 0) := R2.out.cell 0
   have x1 : w2.cell? ⟨w.heap.size, 1, none⟩ = some (.slice none 0 0) := R2.out.cell 1
   have f0 := R2.out.free 0
   have f1 := R2.out.free 1
   have hbl2 := R2.out.lt
   have q2 : w2.cell? ⟨w1.heap.size, 0, none⟩ = some (.pointer (some ⟨g, 0, none⟩)) := hk.rp.cell
   have R3 : Hid (Blk ((w2.setCell ⟨w.heap.size, 0, none⟩ (.int .i64 G.frame)).setCell ⟨w.heap.size, 1, none⟩ (.slice ba es.length bk)) w.heap.size 24 #[.int .i64 G.frame, .slice ba es.length bk]) := (R2.out.put 0 _).put 1 _
   have C3 : Hid (CurC ((w2.setCell ⟨w.heap.size, 0, none⟩ (.int .i64 G.frame)).setCell ⟨w.heap.size, 1, none⟩ (.slice ba es.length bk)) g c0.tgC) := (C2.out.keep (Keep.put _ _ _ _ _) R2.out (by decide) (by decide)).keep (Keep.put _ _ _ _ _) (R2.out.put 0 _) (by decide) (by decide)
   have RT3 : Hid (RowsT ((w2.setCell ⟨w.heap.size, 0, none⟩ (.int .i64 G.frame)).setCell ⟨w.heap.size, 1, none⟩ (.slice ba es.length bk)) (w1.alloc (.cells #[.pointer (some ⟨g, 0, none⟩)] 64)).heap.size es ba bk) := (RT.out.put hlt0 _).put hlt0 _
   have B3 : Hid (Below w.heap.size w ((w2.setCell ⟨w.heap.size, 0, none⟩ (.int .i64 G.frame)).setCell ⟨w.heap.size, 1, none⟩ (.slice ba es.length bk))) := (B2.out.setCell (p := ⟨w.heap.size, 0, none⟩) (Nat.le_refl _) _).setCell (p := ⟨w.heap.size, 1, none⟩) (Nat.le_refl _) _
   have EV := Lib.hid (err_any g c0.tgC _ C3.out)
   generalize (w1.alloc (.cells #[.pointer (some ⟨g, 0, none⟩)] 64)).heap.size = LB at *
   clear hk hes TG C2 Q2 RT R2 R1b B2 C3
   generalize c0.tgC.eErr = E at *
   generalize c0.tgC.eLine = EL at *
   generalize c0.tgC.eCol = EC at *
   (try dsimp only)
   go_wp2_with fail
   refine EV.out.mono ?_
   rintro e w3 ⟨rfl, hb3⟩
   have B4 : Hid (Below w.heap.size w w3) := B3.out.trans (hb3.mono B3.out.size)
   have R4 := Lib.hid (R3.out.below hb3 R3.out.lt)
   have RT4 := Lib.hid (RT3.out.below hb3)
   clear hb3 EV B3 R3 RT3 x0 x1 f0 f1 q2
   have x0 : w3.cell? ⟨w.heap.size, 0, none⟩ = some (.int .i64 G.frame) := R4.out.cell 0
   have x1 : w3.cell? ⟨w.heap.size, 1, none⟩ = some (.slice ba es.length bk) := R4.out.cell 1
   have f0 := R4.out.free 0
   have f1 := R4.out.free 1
   have hbl3 := R4.out.lt
   cases hE : E != 0
   · have hE0 : E = 0 := by simpa using hE
     have HP2 := Lib.hid HP.out
     rw [hE0] at HP2
     clear HP TN hE0
     go_wp2
     (try simp only [Exit.inBlock, Exit.then])
     have hb := (R4.out.put 0 (.int .i64 G.frame)).put 1 (.slice ba es.length bk)
     have hld := run_loadVar_row (P := Tryz.prog) _ w.heap.size 24 24 _ (0, 0) _ hb Tryz.underlying24 rfl target_size
     refine bodyPost_ret (v := .tuple #[.agg #[.int .i64 G.frame, .slice ba es.length bk], .int .i64 0, .int .i64 0, .int .i64 0]) ?_ rfl ?_
     · rw [results_cell3 rfl]
       simp [asAddr, Result.andThen, hld]
     · have RT5 := (RT4.out.put (j := 0) hlt0 (.int .i64 G.frame)).put (j := 1) hlt0 (.slice ba es.length bk)
       have B5 := (B4.out.setCell (p := ⟨w.heap.size, 0, none⟩) (Nat.le_refl _) (.int .i64 G.frame)).setCell (p := ⟨w.heap.size, 1, none⟩) (Nat.le_refl _) (.slice ba es.length bk)
       obtain ⟨e1, e2, e3, e4, e5⟩ := HP2.out
       simp only [if_true] at e2 e3 e4
       have hl : G.blocks.length = es.length := by rw [← HES.out, List.length_map]
       obtain ⟨g1, g2⟩ := RT5.bls (fun b hb2 => e5 b (by rw [← HES.out]; exact hb2))
       refine ⟨ba, bk, ?_, ?_, B5⟩
       · rw [e1, e2, e3, e4]
         unfold tgV tgC
         rw [hl]
       · rw [e4, ← HES.out]
         exact ⟨g1, g2⟩
   · have hE0 : ¬ E = 0 := by simpa using hE
     obtain ⟨e1, e2, e3, e4, _⟩ := HP.out
     rw [if_neg hE0] at e2 e3 e4
     rw [e1, e2, e3] at TN
     have TN1 := Lib.hid (fun w' e => TN.out w' e e4)
     clear HP TN hE0 e1 e2 e3 e4 HES RT4
     go_wp2
     (try simp only [Exit.inBlock, Exit.then])
     have hb := (R4.out.put 0 (.int .i64 0)).put 1 (.slice none 0 0)
     have hld := run_loadVar_row (P := Tryz.prog) _ w.heap.size 24 24 _ (0, 0) _ hb Tryz.underlying24 rfl target_size
     refine bodyPost_ret (v := .tuple #[.agg #[.int .i64 0, .slice none 0 0], .int .i64 EL, .int .i64 EC, .int .i64 E]) ?_ rfl ?_
     · rw [results_cell3 rfl]
       simp [asAddr, Result.andThen, hld]
     · exact TN1.out _ _ rfl ((B4.out.setCell (p := ⟨w.heap.size, 0, none⟩) (Nat.le_refl _) _).setCell (p := ⟨w.heap.size, 1, none⟩) (Nat.le_refl _) _)
end Go.Proofs.YtbjmbahpcoanoaaGreatDoor
namespace Go.Proofs.YtbjmbahpcoanoaaGreatDoor
open Go.RowKit

/-- All the tables. -/
structure TabA (w : World) : Prop where
 r : TabR w
 t : TabW w
theorem TabA.below {w w' : World} (h : TabA w) (hb : Below w.heap.size w w') : TabA w' := ⟨h.r.below hb, h.t.below hb⟩
/-- The example's text, its target. -/
def exS : ByteArray := ⟨#[116, 97, 114, 103, 101, 116, 32, 49, 10, 98, 108, 111, 99, 107, 32, 48, 10, 115, 48, 32, 226, 134, 144, 32, 114, 49, 10, 114, 48, 32, 226, 134, 144, 32, 115, 48, 10, 114, 101, 116, 117, 114, 110, 32, 114, 48, 10]⟩
def exG : Gg := ⟨1, [⟨[⟨16, 0, 1, 0, 0, 0, [], 0⟩, ⟨17, 0, 0, 0, 0, 0, [], 0⟩], ⟨3, 0, 0, 0⟩⟩]⟩
theorem ex_can : canG exG = true := by decide +kernel
theorem ex_text : gtxL exG = exS.data.toList := by decide +kernel
theorem ex_print : printE exG = 0 ∧ printS exG = exS := by
 have h : (gtxL exG).length ≤ 262144 := by rw [ex_text]; decide +kernel
 refine ⟨print_ok ex_can h, ?_⟩
 unfold printS
 rw [if_pos ⟨ex_can, h⟩, ex_text]
theorem ex_parse : prE exS = 0 ∧ prG exS = exG := ⟨by kernel_rfl, by kernel_rfl⟩
theorem ex_parse_any (w : World) (hT : TabR w) : Calls Tryz.prog 14 #[.string exS] w fun e w' => ∃ (ba : Option Addr) (bc : Nat) (l c : Int), e = .returned (.tuple #[.agg #[.int .i64 1, .slice ba 1 bc], .int .i64 l, .int .i64 c, .int .i64 0]) ∧ Hid (BlsW w' ba exG.blocks) ∧ Below w.heap.size w w' :=
 (parse_any exS w hT).mono fun e w' ⟨ba, bc, h1, h2, h3⟩ => by
   obtain ⟨e1, e2⟩ := ex_parse
   rw [e1, e2] at h1
   have h4 := h2.out.1
   rw [e2] at h4
   exact ⟨ba, bc, _, _, h1, h4, h3⟩
theorem ex_print_any (ba : Option Addr) (bc : Nat) (w : World) (hB : BlsW w ba exG.blocks) (hT : TabA w) : Calls Tryz.prog 11 #[.agg #[.int .i64 1, .slice ba 1 bc]] w fun e w' => e = .returned (.tuple #[.string exS, .int .i64 0]) ∧ Below w.heap.size w w' := by
 have hS : SmallG exG := ⟨by decide, fun x hx => by
  simp only [exG, List.mem_singleton] at hx
  subst hx
  refine ⟨by decide, fun i hi => ?_⟩
  simp only [List.mem_cons, List.not_mem_nil, or_false] at hi
  rcases hi with rfl | rfl <;> decide⟩
 have h := print_any exG ba bc w hB hS hT.t hT.r.pow hT.r.names
 rw [ex_print.1, ex_print.2] at h
 exact h
theorem ex_cells {w : World} {ba : Option Addr} (h : BlsW w ba exG.blocks) : ∃ g o g2 o2 ic, ba = some ⟨g, o, none⟩ ∧ g < w.heap.size ∧ w.cell? ⟨g, o, none⟩ = some (.slice (some ⟨g2, o2, none⟩) 2 ic) ∧ g2 < w.heap.size ∧ w.cell? ⟨g2, o2, none⟩ = some (.int .i64 16) := by
 obtain ⟨g, o, ia, ic, e, hg, hb⟩ := h 0 _ rfl
 obtain ⟨g2, o2, _, _, e2, hg2, hi⟩ := hb.ins 0 _ rfl
 subst e e2
 exact ⟨g, o, g2, o2, ic, rfl, hg, hb.c0, hg2, hi.c0⟩
set_option maxRecDepth 100000 in
set_option maxHeartbeats 4000000 in
theorem awake7_any (w : World) (hT : TabA w) : Calls Tryz.prog 9 #[] w fun e w' => e = .returned (.bool true) ∧ Below w.heap.size w w' := by
 have P := Lib.hid (ex_parse_any w hT.r)
 have PR : Hid (∀ (ba : Option Addr) (bc : Nat) (W : World), Below w.heap.size w W → BlsW W ba exG.blocks → _) := fun ba bc W hb hB => ex_print_any ba bc W hB (hT.below hb)
 clear hT
 unfold exS at P PR
 go_enter Tryz.func9, Tryz.ntmps9
 go_wp2_with fail
 refine P.out.mono ?_
 rintro e w1 ⟨ba, bc, ll, cc, rfl, hB, hb⟩
 obtain ⟨g, o, g2, o2, ic, rfl, hg, x0, hg2, x1⟩ := ex_cells hB.out
 have hba : Below w1.heap.size w1 (w1.alloc (.cells #[.int .i64 1, .slice (some ⟨g, o, none⟩) 1 bc] 24)) := (Below.refl _ _).alloc (Nat.le_refl _) _
 have HB1 : Hid (Below w.heap.size w (w1.alloc (.cells #[.int .i64 1, .slice (some ⟨g, o, none⟩) 1 bc] 24))) := hb.trans (hba.mono hb.size)
 have PR1 := Lib.hid (PR.out (some ⟨g, o, none⟩) bc _ HB1.out (hB.out.below hba))
 have HX : Hid (Blk (w1.alloc (.cells #[.int .i64 1, .slice (some ⟨g, o, none⟩) 1 bc] 24)) w1.heap.size 24 #[.int .i64 1, .slice (some ⟨g, o, none⟩) 1 bc]) := Blk.new w1 _ _
 clear P PR hb hB
 go_wp2_with fail
 refine PR1.out.mono ?_
 rintro e w2 ⟨rfl, hb2⟩
 have y0 : w2.cell? ⟨g, o, none⟩ = some (.slice (some ⟨g2, o2, none⟩) 2 ic) := (hb2.cell (Nat.lt_of_lt_of_le hg hba.size)).trans ((hba.cell hg).trans x0)
 have y1 : w2.cell? ⟨g2, o2, none⟩ = some (.int .i64 16) := (hb2.cell (Nat.lt_of_lt_of_le hg2 hba.size)).trans ((hba.cell hg2).trans x1)
 have HB2 : Hid (Below w.heap.size w w2) := HB1.out.trans (hb2.mono HB1.out.size)
 have hx := HX.out.below hb2 HX.out.lt
 have z0 : w2.cell? ⟨w1.heap.size, 0, none⟩ = some (.int .i64 1) := hx.cell 0
 have z1 : w2.cell? ⟨w1.heap.size, 1, none⟩ = some (.slice (some ⟨g, o, none⟩) 1 bc) := hx.cell 1
 have hs2 := hb2.size
 clear PR1 x0 x1 hb2 hx HX hba
 go_wp2
 go_ret
 exact ⟨rfl, HB2.out⟩
end Go.Proofs.YtbjmbahpcoanoaaGreatDoor
namespace Go.Proofs.YtbjmbahpcoanoaaGreatDoor
open Go.Lib Go.Shelf Go.RowKit

theorem tabIs_read {P : Program} {W : World} {name : String} {k : IntKind} {zs : List Int} {g : Nat} {t e : TypeId} {n : Nat}
    (hg : P.globalNamed name = some g) (hty : (P.globals[g]?).map (·.type) = some t) (ht : P.underlying t = some (.array n e)) (he : P.underlying e = some (.int k)) (hce : P.cellsOf e = 1) (hct : P.cellsOf t = n)
    (h : VarReads P W name (tabData k zs)) : TabIs P W name k zs := by
 obtain ⟨g', t', cs, fuel, p, hg', ht', hvar, hd⟩ := h
 obtain rfl := Option.some.inj (hg.symm.trans hg')
 obtain rfl := Option.some.inj (hty.symm.trans ht')
 unfold TabIs
 rw [hvar, ← cells_of_tab ht he hce hct hd]
def strsData {H : Type} (zs : List (List UInt8)) : DataW H := .agg (zs.map fun z => .lit (.string z))
theorem cells_of_strs {H : Type} {enc : TypeId × Value → H} {P : Program} {w : World} {base : Nat} {sp : Nat → Bool} {held : Bool} {fuel : Nat} {t e : TypeId} {n : Nat} {cs : List Value} {zs : List (List UInt8)} {p : List MemPlace}
    (ht : P.underlying t = some (.array n e)) (he : P.underlying e = some .string) (hce : P.cellsOf e = 1) (hct : P.cellsOf t = n)
    (h : DataW.trod enc P w base sp held fuel t cs = some (strsData zs, p)) : cs = zs.map fun z => Value.string ⟨z.toArray⟩ := by
 cases fuel with
 | zero => simp [DataW.trod] at h
 | succ fuel =>
  simp only [DataW.trod, ht, hce, hct, Nat.mul_one] at h
  split at h
  · rename_i hl
    obtain ⟨xs, hm, hx⟩ := Option.map_eq_some_iff.1 h
    have hxs : xs.map (·.1) = zs.map fun z => (DataW.lit (.string z) : DataW H) := by
     have := congrArg Prod.fst hx
     simpa [strsData] using this
    have hxl : xs.length = n := by simpa using mapM_length hm
    have hzl : zs.length = n := by
     have := congrArg List.length hxs
     simp at this
     omega
    apply List.ext_getElem?
    intro i
    by_cases hi : i < n
    · obtain ⟨b, hb, hf⟩ := mapM_at hm i i (by simp [hi])
      obtain ⟨z, hc, hz⟩ : ∃ z : ByteArray, (cs.drop i).take 1 = [.string z] ∧ b.1 = .lit (.string z.data.toList) := by
       cases fuel with
       | zero => simp [DataW.trod] at hf
       | succ fuel =>
        have h1 : cs[i]? = some (cs[i]'(by omega)) := List.getElem?_eq_getElem (by omega)
        have h2 : (cs.drop i).take 1 = [cs[i]'(by omega)] := by
         rw [List.drop_eq_getElem_cons (by omega)]
         rfl
        rw [h2] at hf ⊢
        generalize cs[i]'(by omega) = v at *
        simp only [DataW.trod, he] at hf
        cases v with
        | string s =>
         simp only at hf
         split at hf
         · simp only [Option.some.injEq] at hf
           exact ⟨s, rfl, by rw [← hf]⟩
         · cases hf
        | _ => simp at hf
      have h1 : cs[i]? = some (.string z) := by
       have := congrArg (·[0]?) hc
       simpa [List.getElem?_take, List.getElem?_drop] using this
      have h2 : (xs.map (·.1))[i]? = some (DataW.lit (.string z.data.toList) : DataW H) := by simp [hb, hz]
      rw [hxs] at h2
      simp only [List.getElem?_map, Option.map_eq_some_iff, DataW.lit.injEq, Lit.string.injEq] at h2
      obtain ⟨z', hz', e1⟩ := h2
      subst e1
      simp [h1, hz']
    · rw [List.getElem?_eq_none (by omega), List.getElem?_eq_none (by simp; omega)]
  · cases h
theorem strs_read {P : Program} {W : World} {name : String} {zs : List (List UInt8)} {g : Nat} {t e : TypeId} {n : Nat}
    (hg : P.globalNamed name = some g) (hty : (P.globals[g]?).map (·.type) = some t) (ht : P.underlying t = some (.array n e)) (he : P.underlying e = some .string) (hce : P.cellsOf e = 1) (hct : P.cellsOf t = n)
    (h : VarReads P W name (strsData zs)) : W.var? P name = some (zs.map fun z => Value.string ⟨z.toArray⟩).toArray := by
 obtain ⟨g', t', cs, fuel, p, hg', ht', hvar, hd⟩ := h
 obtain rfl := Option.some.inj (hg.symm.trans hg')
 obtain rfl := Option.some.inj (hty.symm.trans ht')
 rw [hvar, ← cells_of_strs ht he hce hct hd]
theorem err_read {P : Program} {W : World} {name nm : String} {d : DataW Unit} {g : Nat} {t : TypeId} {ms : _}
    (hg : P.globalNamed name = some g) (hty : (P.globals[g]?).map (·.type) = some t) (ht : P.underlying t = some (.interface ms)) (h : VarReads P W name (.iface nm d)) : ∃ u v, W.var? P name = some #[.iface u v] := by
 obtain ⟨g', t', cs, fuel, p, hg', ht', hvar, hd⟩ := h
 obtain rfl := Option.some.inj (hg.symm.trans hg')
 obtain rfl := Option.some.inj (hty.symm.trans ht')
 cases fuel with
 | zero => simp [DataW.trod] at hd
 | succ fuel =>
  simp only [DataW.trod, ht] at hd
  obtain ⟨l⟩ := cs
  cases l with
  | nil => simp at hd
  | cons x r =>
   cases r with
   | nil =>
    cases x with
    | iface u v => exact ⟨u, v, hvar⟩
    | _ => simp at hd
   | cons y r => cases x <;> simp at hd
theorem pow_dataM : (Rows.laid_internal_strconv_uint64pow10 : DataW Unit) = tabData .u64 pow10Tab := by kernel_rfl
theorem has_dataM : (Rows.laid_intarsia_mir_opHas : DataW Unit) = tabData .i64 opHasL := by kernel_rfl
theorem names_dataM : (Rows.laid_intarsia_mread_names : DataW Unit) = strsData (opNameL.map fun b => b.data.toList) := by kernel_rfl
theorem range_dataM : ∃ nm d, (Rows.laid_strconv_ErrRange : DataW Unit) = .iface nm d := ⟨_, _, rfl⟩
theorem synt_dataM : ∃ nm d, (Rows.laid_strconv_ErrSyntax : DataW Unit) = .iface nm d := ⟨_, _, rfl⟩
theorem taba_of (W : World) (l : List (String × DataW Unit)) (h : laidMet Tryz.prog l W) (h1 : ("internal/strconv.uint64pow10", Rows.laid_internal_strconv_uint64pow10) ∈ l) (h2 : ("intarsia/mir.opHas", Rows.laid_intarsia_mir_opHas) ∈ l)
    (h3 : ("intarsia/mread.names", Rows.laid_intarsia_mread_names) ∈ l) (h4 : ("strconv.ErrSyntax", Rows.laid_strconv_ErrSyntax) ∈ l) (h5 : ("strconv.ErrRange", Rows.laid_strconv_ErrRange) ∈ l) : TabA W := by
 rw [pow_dataM] at h1
 rw [has_dataM] at h2
 rw [names_dataM] at h3
 obtain ⟨n4, d4, e4⟩ := synt_dataM
 obtain ⟨n5, d5, e5⟩ := range_dataM
 rw [e4] at h4
 rw [e5] at h5
 have hg : Tryz.prog.globalNamed "intarsia/mir.opHas" = some 0 := by kernel_rfl
 have hgn : Tryz.prog.globalNamed "intarsia/mread.names" = some 1 := by kernel_rfl
 have hT : TabIs Tryz.prog W "intarsia/mir.opHas" .i64 opHasL := tabIs_read (t := 177) (e := 130) (n := 18) hg (by kernel_rfl) Tryz.underlying177 Tryz.underlying130 (by kernel_rfl) (by kernel_rfl) (laidMet.reads h h2)
 have hN := strs_read (t := 189) (e := 9) (n := 12) hgn (by kernel_rfl) Tryz.underlying189 Tryz.underlying9 (by kernel_rfl) (by kernel_rfl) (laidMet.reads h h3)
 have hP : PowW W := tabIs_read (g := 2) (n := 20) (by kernel_rfl) (t := 220) (by kernel_rfl) Tryz.underlying220 Tryz.underlying193 (by kernel_rfl) (by kernel_rfl) (laidMet.reads h h1)
 have hc : ∀ i : Nat, i < 12 → W.cell? ⟨1, i, none⟩ = some (.string (opNameL.getD i ⟨#[]⟩)) := fun i hi => by
  have h9 := World.var?_cell hgn hN i
  rw [h9]
  have : ∀ i : Nat, i < 12 → ((opNameL.map fun b => b.data.toList).map fun z => Value.string ⟨z.toArray⟩).toArray[i]? = some (.string (opNameL.getD i ⟨#[]⟩)) := by
   intro i hi
   rw [List.getElem?_toArray, List.getElem?_map, List.getElem?_map, List.getD_eq_getElem?_getD, List.getElem?_eq_getElem (show i < opNameL.length from hi)]
   rfl
  exact this i hi
 exact ⟨⟨hP, ⟨err_read (g := 6) (by kernel_rfl) (t := 85) (by kernel_rfl) Tryz.underlying85 (laidMet.reads h h4), err_read (g := 7) (by kernel_rfl) (t := 85) (by kernel_rfl) Tryz.underlying85 (laidMet.reads h h5)⟩,
  ⟨World.block_lt_of_cell? W _ (hc 0 (by decide)), hc⟩⟩, ⟨World.block_lt_of_cell? W _ (hT.cell hg 0 (by decide)), fun i hi => hT.cell hg i hi⟩⟩
end Go.Proofs.YtbjmbahpcoanoaaGreatDoor
