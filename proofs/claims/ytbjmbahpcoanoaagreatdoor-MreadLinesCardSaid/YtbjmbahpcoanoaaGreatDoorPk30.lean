/-
  Package mread's widened: a target as wide as one may be. No condition beyond those that each theorem states.
  Package mread's rowOf: the line of an opening, an instruction, an end. Conditions: the library's tables and the Ops' names hold what the text lays.
  Package mread's block. Conditions: the library's tables, its errors, and the Ops' names are there.
-/
import Derived.Test.YtbjmbahpcoanoaaGreatDoorPk29
import Derived.Deep.LoopGhost
import Derived.Test.YtbjmbahpcoanoaaGreatDoorPk12
namespace Go.Proofs.YtbjmbahpcoanoaaGreatDoor
open Go.RowKit

/-- The target that is being made wide. -/
structure WdS (w wr : World) (t : Gg) (ba : Option Addr) (bc : Nat) (a : Option Addr) (c n : Nat) (es : List WB) : Prop where
 len : n = es.length
 p : Blk wr w.heap.size 24 #[.int .i64 t.frame, .slice ba t.blocks.length bc]
 r : Blk wr (w.heap.size + 1) 24 #[.int .i64 0, .slice none 0 0]
 b : Blk wr (w.heap.size + 1 + 1) 24 #[.int .i64 400, .slice a n c]
 row : wr.ownsRow w.heap.size 53 5 (.slice a n c) n (es.flatMap wbC)
 be : Below w.heap.size w wr
section
variable {w wr wx w4 : World} {t : Gg} {ba a : Option Addr} {bc c n : Nat} {es : List WB}
theorem WdS.below (h : WdS w wr t ba bc a c n es) (hb : Below wr.heap.size wr wx) : WdS w wx t ba bc a c n es :=
 ⟨h.len, h.p.below hb h.p.lt, h.r.below hb h.r.lt, h.b.below hb h.b.lt, own_keep h.row ⟨hb.size, fun k _ hk => hb.block k hk⟩, h.be.trans (hb.mono h.be.size)⟩
theorem WdS.box {o : Obj} (h : WdS w wr t ba bc a c n es) (hg : (wr.alloc o).grownBy w4 (Value.slice a n c).ownBlock) : Blk w4 (w.heap.size + 1 + 1) 24 #[.int .i64 400, .slice a n c] :=
 (h.b.alloc o).grown hg (own_ne (World.ownsRow.alloc h.row o) (h.b.alloc o) (by decide))
theorem WdS.more {o : Obj} {gg cap : Nat} {e : WB} (h : WdS w wr t ba bc a c n es) (hg : (wr.alloc o).grownBy w4 (Value.slice a n c).ownBlock) (ho : w4.ownsRow w.heap.size 53 5 (.slice (some ⟨gg, 0, none⟩) (n + 1) cap) (n + 1) (es.flatMap wbC ++ wbC e)) :
    WdS w (w4.setCell ⟨w.heap.size + 1 + 1, 1, none⟩ (.slice (some ⟨gg, 0, none⟩) (n + 1) cap)) t ba bc (some ⟨gg, 0, none⟩) cap (n + 1) (es ++ [e]) := by
 have hb := h.box hg
 have hr : Blk w4 (w.heap.size + 1) 24 #[.int .i64 0, .slice none 0 0] := (h.r.alloc o).grown hg (own_ne (World.ownsRow.alloc h.row o) (h.r.alloc o) (by decide))
 have hp : Blk w4 w.heap.size 24 #[.int .i64 t.frame, .slice ba t.blocks.length bc] := (h.p.alloc o).grown hg (own_ne (World.ownsRow.alloc h.row o) (h.p.alloc o) (by decide))
 have hB : Below w.heap.size w w4 := (h.be.alloc h.be.size o).grown hg (by have := h.be.size; simp; omega) (fun k hk => (h.row.lt k hk).1)
 refine ⟨by rw [List.length_append, ← h.len]; rfl, hp.far (p := ⟨w.heap.size + 1 + 1, 1, none⟩) (by show w.heap.size ≠ w.heap.size + 1 + 1; omega) _, hr.far (p := ⟨w.heap.size + 1 + 1, 1, none⟩) (by show w.heap.size + 1 ≠ w.heap.size + 1 + 1; omega) _, hb.put 1 _, ?_, hB.setCell (p := ⟨w.heap.size + 1 + 1, 1, none⟩) (by show w.heap.size ≤ w.heap.size + 1 + 1; omega) _⟩
 rw [List.flatMap_append]
 have h1 := own_put ho (p := ⟨w.heap.size + 1 + 1, 1, none⟩) (own_ne ho hb (by decide)) (.slice (some ⟨gg, 0, none⟩) (n + 1) cap)
 simpa using h1
end
/-- Blocks whose rows lie there. -/
def RowsW (w : World) (es : List WB) : Prop := ∀ e ∈ es, (e.2.1 = none → e.2.2 = 0) ∧ InsW w e.2.1 e.1.ins
theorem target_size : (Tryz.prog.info? 24).map (·.size) = some 2 := by kernel_rfl
set_option maxRecDepth 100000 in
set_option maxHeartbeats 8000000 in
theorem widened_any (t : Gg) (ba : Option Addr) (bc : Nat) (w : World) (hB : BlsW w ba t.blocks) (hfew : t.blocks.length ≤ 200) (hbs : ∀ b ∈ t.blocks, b.ins.length ≤ 1000000) :
    Calls Tryz.prog 51 #[tgV t ba bc] w fun e w' => (∃ a c, e = .returned (tgV (wideG t) a c) ∧ Hid (BlsW w' a (wideG t).blocks)) ∧ Below w.heap.size w w' := by
 obtain ⟨i0, hi0, hz0, hz1, hz2⟩ := info_parts block_info
 have HB := Lib.hid hB
 have HBS := Lib.hid hbs
 have S0 : Hid (WdS w (((w.alloc (.cells (tgC t ba bc) 24)).alloc (.cells #[.int .i64 0, .slice none 0 0] 24)).alloc (.cells #[.int .i64 400, .slice none 0 0] 24)) t ba bc none 0 0 []) :=
  ⟨rfl, ((Blk.new w _ _).alloc _).alloc _, (blk_at _ _ (by simp)).alloc _, blk_at _ _ (by simp), World.ownsRow_nil _ _ _ _, (((Below.refl _ w).alloc (Nat.le_refl _) _).alloc (by simp) _).alloc (by simp; omega) _⟩
 have ST := Lib.hid (tgC.eq_1 t ba bc)
 rw [ST.out] at S0
 unfold tgV
 rw [ST.out]
 clear hB hbs ST
 go_enter Tryz.func51, Tryz.ntmps51
 go_wp2
 go_loopw [10] (fun v wr => ∃ (k : Nat) (a : Option Addr) (c : Nat) (es : List WB), v = .int .i64 k ∧ k ≤ t.blocks.length ∧ es.map Prod.fst = (t.blocks.take k).map wideB ∧ RowsW w es ∧ WdS w wr t ba bc a c k es) (fun v _ => t.blocks.length - (intOf v).toNat)
 case atStart => exact ⟨0, none, 0, [], rfl, by omega, rfl, fun e he => by simp at he, S0.out⟩
 case round =>
  obtain ⟨k, a, c, es, rfl, hk, hes, hrw, hS⟩ := hrel
  have HES := Lib.hid hes
  have HRW := Lib.hid hrw
  have HS := Lib.hid hS
  clear hes hrw hS S0
  by_cases hlt : k < t.blocks.length
  · have hlt' : (k : Int) < t.blocks.length := by omega
    have hk0 : (0 : Int) ≤ k := by omega
    obtain ⟨b, hbk⟩ : ∃ b, t.blocks[k]? = some b := ⟨t.blocks[k], List.getElem?_eq_getElem hlt⟩
    obtain ⟨g, o, ia, ic, rfl, hg, hBA⟩ := HB.out k b hbk
    have HBA := Lib.hid hBA
    have HBK := Lib.hid hbk
    have hA := hBA.below hg HS.out.be
    have b0 := hA.c0
    have b1 := hA.c1
    have b2 := hA.c2
    have b3 := hA.c3
    have b4 := hA.c4
    clear hA hBA hbk
    go_upto_region 4 with fail
    go_cut [5] from 12 to 13 (fun v5 wx => v5 = .pointer (some ⟨wr.heap.size, 0, none⟩) ∧ wr.alloc (.cells #[.slice ia b.ins.length ic, .int .i64 b.tm.kind, .int .i64 b.tm.a, .int .i64 b.tm.t0, .int .i64 b.tm.t1] 53) = wx)
    case first =>
     go_wp2
     go_meet
     exact ⟨rfl, rfl⟩
    obtain ⟨rfl, rfl⟩ := hcut
    rename_i K1 hK1
    refine hK1 _ _ ?_
    go_step
    clear b0 b1 b2 b3 b4
    go_cut [] from 14 to 25 (fun wx => Blk wx wr.heap.size 53 (wbC (wideB b, ia, ic)).toArray ∧ Below wr.heap.size wr wx)
    case first =>
     have hbe : Below wr.heap.size wr (wr.alloc (.cells #[.slice ia b.ins.length ic, .int .i64 b.tm.kind, .int .i64 b.tm.a, .int .i64 b.tm.t0, .int .i64 b.tm.t1] 53)) := (Below.refl _ _).alloc (Nat.le_refl _) _
     have HBE := Lib.hid hbe
     have HBN : Hid (Blk (wr.alloc (.cells #[.slice ia b.ins.length ic, .int .i64 b.tm.kind, .int .i64 b.tm.a, .int .i64 b.tm.t0, .int .i64 b.tm.t1] 53)) wr.heap.size 53 #[.slice ia b.ins.length ic, .int .i64 b.tm.kind, .int .i64 b.tm.a, .int .i64 b.tm.t0, .int .i64 b.tm.t1]) := Blk.new wr _ _
     clear hbe
     cases h3 : b.tm.kind == 3
     case true =>
      have I := Lib.hid (isReg_any b.tm.a (wr.alloc (.cells #[.slice ia b.ins.length ic, .int .i64 b.tm.kind, .int .i64 b.tm.a, .int .i64 b.tm.t0, .int .i64 b.tm.t1] 53)))
      cases hr : isRegT b.tm.a
      · have HW : Hid (wideB b = b) := by
          show wideB b = b
          unfold wideB
          rw [if_neg (fun h => by rw [hr] at h; cases h.2)]
        rw [hr] at I
        clear hr
        go_wp2_with fail
        refine I.out.mono ?_
        rintro e w1 ⟨rfl, rfl⟩
        go_wp2
        go_meet
        rw [HW.out]
        exact ⟨HBN.out, HBE.out⟩
      · have HW : Hid (wideB b = ⟨b.ins, ⟨b.tm.kind, 0, b.tm.t0, b.tm.t1⟩⟩) := by
          show wideB b = _
          unfold wideB
          rw [if_pos ⟨by simpa using h3, hr⟩]
        rw [hr] at I
        clear hr
        go_wp2_with fail
        refine I.out.mono ?_
        rintro e w1 ⟨rfl, rfl⟩
        go_wp2
        go_meet
        rw [HW.out]
        exact ⟨Blk.new wr _ _, (Below.refl _ _).alloc (Nat.le_refl _) _⟩
     case false =>
      have HW : Hid (wideB b = b) := by
       show wideB b = b
       unfold wideB
       rw [if_neg (fun h => by simp [h.1] at h3)]
      go_wp2
      go_meet
      rw [HW.out]
      exact ⟨HBN.out, HBE.out⟩
    case rest =>
     obtain ⟨hX, hbx⟩ := hcut
     have HS2 := Lib.hid (HS.out.below hbx)
     have HE1 : Hid ((es ++ [(wideB b, ia, ic)]).map Prod.fst = (t.blocks.take (k + 1)).map wideB) := by
      show List.map _ _ = _
      rw [List.map_append, HES.out, List.take_add_one, HBK.out]
      simp
     have HR1 : Hid (RowsW w (es ++ [(wideB b, ia, ic)])) := fun e he => by
      rcases List.mem_append.1 he with he | he
      · exact HRW.out e he
      · rw [List.mem_singleton] at he
        subst he
        refine ⟨HBA.out.nil, ?_⟩
        show InsW w ia (wideB b).ins
        unfold wideB
        split
        · exact HBA.out.ins
        · exact HBA.out.ins
     obtain ⟨eb, heb⟩ : ∃ eb : WB, eb = (wideB b, ia, ic) := ⟨_, rfl⟩
     rw [← heb] at hX HE1 HR1
     have x0 : wc.cell? ⟨wr.heap.size, 0, none⟩ = some (.slice eb.2.1 eb.1.ins.length eb.2.2) := hX.cell 0
     have x1 : wc.cell? ⟨wr.heap.size, 1, none⟩ = some (.int .i64 eb.1.tm.kind) := hX.cell 1
     have x2 : wc.cell? ⟨wr.heap.size, 2, none⟩ = some (.int .i64 eb.1.tm.a) := hX.cell 2
     have x3 : wc.cell? ⟨wr.heap.size, 3, none⟩ = some (.int .i64 eb.1.tm.t0) := hX.cell 3
     have x4 : wc.cell? ⟨wr.heap.size, 4, none⟩ = some (.int .i64 eb.1.tm.t1) := hX.cell 4
     have y1 : wc.cell? ⟨w.heap.size + 1 + 1, 1, none⟩ = some (.slice a k c) := HS2.out.b.cell 1
     have hsz := HS2.out.be.size
     have hxl := hX.lt
     have hyl := HS2.out.b.lt
     clear hX hbx HS HBA HBK heb HES HRW
     rename_i K2 hK2
     refine hK2 _ _ ?_
     go_step
     go_wp2_with (at_builtin; go_must (refine wpList_append_lies _ rfl _ _ _ rfl w.heap.size 53 i0 _ 5 56 Tryz.underlying22 hi0 hz0 hz1 hz2 rfl (by omega) (.slice a k c) k (es.flatMap wbC) rfl (World.ownsRow.alloc HS2.out.row _) ⟨wc.heap.size, 0, none⟩ 1 1 (wbC eb) rfl rfl (World.news_of_block (heap_alloc_new wc _)) (wb_one eb) (by omega) (by simp only [maxLen]; omega) (by omega) (by simp; omega) (wc.heap.size + 1) (by simp) ?_; intro gg cap4 w4 hown4 hgrow hat hlt4; have hB4 := (WdS.box HS2.out hgrow); have q1 : w4.cell? ⟨w.heap.size + 1 + 1, 1, none⟩ = some (.slice a k c) := (by exact hB4.cell 1); have f1 : w4.frozen? ⟨w.heap.size + 1 + 1, 1, none⟩ = false := (by exact hB4.free 1)))
     have HM := Lib.hid (WdS.more HS2.out hgrow hown4)
     clear hown4 hgrow hat hlt4 hB4 q1 f1 x0 x1 x2 x3 x4 y1 HS2
     go_wp2
     go_roundw
     case rel => exact ⟨k + 1, some ⟨gg, 0, none⟩, cap4, _, by go_num, by omega, HE1.out, HR1.out, HM.out⟩
     case measure => simp [intOf]; omega
  · have hge : ¬ (k : Int) < t.blocks.length := by omega
    have hkl : k = t.blocks.length := by omega
    have HKL := Lib.hid hkl
    have hall : es.map Prod.fst = t.blocks.map wideB := by rw [HES.out, hkl, List.take_length]
    have HALL := Lib.hid hall
    have hk200 : k ≤ 200 := by omega
    clear hall hkl HES hlt hk
    go_wp2
    go_loopg [] (200 - k) (fun gk wr2 => ∃ (n : Nat) (a : Option Addr) (c : Nat) (es2 : List WB), n + gk = 200 ∧ k ≤ n ∧ es2.map Prod.fst = t.blocks.map wideB ++ List.replicate (n - k) trapB ∧ RowsW w es2 ∧ WdS w wr2 t ba bc a c n es2)
    case atStart => exact ⟨k, a, c, es, by omega, by omega, by rw [HALL.out]; simp, HRW.out, HS.out⟩
    case round =>
     obtain ⟨n, a, c, es2, hng, hkn, hes, hrw, hS⟩ := hrel
     have HES := Lib.hid hes
     have HRW2 := Lib.hid hrw
     have HS2 := Lib.hid hS
     have y0 : wr.cell? ⟨w.heap.size + 1 + 1, 0, none⟩ = some (.int .i64 400) := hS.b.cell 0
     have y1 : wr.cell? ⟨w.heap.size + 1 + 1, 1, none⟩ = some (.slice a n c) := hS.b.cell 1
     have hsz := hS.be.size
     have hyl := hS.b.lt
     clear hes hrw hS HS HRW HALL
     cases gk with
     | succ gk =>
      have hn : (n : Int) < 200 := by omega
      go_wp2_with (at_builtin; go_must (refine wpList_append_lies _ rfl _ _ _ rfl w.heap.size 53 i0 _ 5 56 Tryz.underlying22 hi0 hz0 hz1 hz2 rfl (by omega) (.slice a n c) n (es2.flatMap wbC) rfl (World.ownsRow.alloc HS2.out.row _) ⟨wr.heap.size, 0, none⟩ 1 1 (wbC (trapB, none, 0)) rfl rfl (World.news_of_block (heap_alloc_new wr _)) (wb_one (trapB, none, 0)) (by omega) (by simp only [maxLen]; omega) (by omega) (by simp; omega) (wr.heap.size + 1) (by simp) ?_; intro gg cap4 w4 hown4 hgrow hat hlt4; have hB4 := (WdS.box HS2.out hgrow); have q1 : w4.cell? ⟨w.heap.size + 1 + 1, 1, none⟩ = some (.slice a n c) := (by exact hB4.cell 1); have f1 : w4.frozen? ⟨w.heap.size + 1 + 1, 1, none⟩ = false := (by exact hB4.free 1)))
      have HM := Lib.hid (WdS.more (e := (trapB, none, 0)) HS2.out hgrow hown4)
      have HE1 : Hid ((es2 ++ [(trapB, none, 0)]).map Prod.fst = t.blocks.map wideB ++ List.replicate (n + 1 - k) trapB) := by
       show List.map _ _ = _
       rw [List.map_append, HES.out, show n + 1 - k = (n - k) + 1 by omega, List.replicate_succ']
       simp
      have HR1 : Hid (RowsW w (es2 ++ [(trapB, none, 0)])) := fun e he => by
       rcases List.mem_append.1 he with he | he
       · exact HRW2.out e he
       · rw [List.mem_singleton] at he
         subst he
         exact ⟨fun _ => rfl, fun k x hx => by simp [trapB] at hx⟩
      clear hown4 hgrow hat hlt4 hB4 q1 f1 y0 y1 HS2 HES HRW2
      go_wp2
      go_roundg gk
      case measure => omega
      case rel => exact ⟨n + 1, some ⟨gg, 0, none⟩, cap4, _, by omega, by omega, HE1.out, HR1.out, HM.out⟩
     | zero =>
      have hn : ¬ (n : Int) < 200 := by omega
      have r0 : wr.cell? ⟨w.heap.size + 1, 0, none⟩ = some (.int .i64 0) := HS2.out.r.cell 0
      have r1 : wr.cell? ⟨w.heap.size + 1, 1, none⟩ = some (.slice none 0 0) := HS2.out.r.cell 1
      have z0 := HS2.out.r.free 0
      have z1 := HS2.out.r.free 1
      go_wp2
      (try simp only [Exit.inBlock, Exit.then])
      have HBB : Blk ((wr.setCell ⟨w.heap.size + 1, 0, none⟩ (.int .i64 400)).setCell ⟨w.heap.size + 1, 1, none⟩ (.slice a n c)) (w.heap.size + 1) 24 #[.int .i64 400, .slice a n c] := (HS2.out.r.put 0 _).put 1 _
      refine bodyPost_ret (results_cell_row rfl _ _ (w.heap.size + 1) 24 _ (0, 0) _ (by simp) HBB Tryz.underlying24 rfl target_size) rfl ?_
      have hrow := HS2.out.row
      have hro := own_put (own_put hrow (p := ⟨w.heap.size + 1, 0, none⟩) (own_ne hrow HS2.out.r (by decide)) (.int .i64 400)) (p := ⟨w.heap.size + 1, 1, none⟩) (own_ne hrow HS2.out.r (by decide)) (.slice a n c)
      have hbe : Below w.heap.size w ((wr.setCell ⟨w.heap.size + 1, 0, none⟩ (.int .i64 400)).setCell ⟨w.heap.size + 1, 1, none⟩ (.slice a n c)) := (HS2.out.be.setCell (p := ⟨w.heap.size + 1, 0, none⟩) (by show w.heap.size ≤ w.heap.size + 1; omega) _).setCell (p := ⟨w.heap.size + 1, 1, none⟩) (by show w.heap.size ≤ w.heap.size + 1; omega) _
      have hG : (wideG t).blocks = es2.map Prod.fst := by
       rw [HES.out]
       unfold wideG
       rw [show n - k = 200 - t.blocks.length by have := HKL.out; omega]
      have hL : (wideG t).blocks.length = n := by rw [hG, List.length_map, HS2.out.len]
      have hV : tgC (wideG t) a c = #[.int .i64 400, .slice a n c] := by
       unfold tgC
       rw [hL]
       rfl
      refine ⟨⟨a, ⟨c, by rw [hV]⟩, ?_⟩, hbe⟩
      show BlsW _ a (wideG t).blocks
      rw [hG]
      exact wb_row hro HS2.out.len (fun e he => ⟨(HRW2.out e he).1, (HRW2.out e he).2.below hbe⟩)
end Go.Proofs.YtbjmbahpcoanoaaGreatDoor
namespace Go.Proofs.YtbjmbahpcoanoaaGreatDoor
open Go.RowKit

/-- A part of a block: its opening, an instruction (its row from there, of that room), its end. -/
inductive Pt where
 | op (n : Int)
 | ins (x : Ii) (a : Option Addr) (c : Nat)
 | tm (t : Tt)
def Pt.v : Pt → Value
 | .op n => .iface 141 (.int .i64 n)
 | .ins x a c => .iface 46 (insV x a c)
 | .tm t => .iface 51 (termV t)
def Pt.wo : Pt → List Wo
 | .op n => [.tx ⟨#[98, 108, 111, 99, 107]⟩, .nm n]
 | .ins x _ _ => insWo x
 | .tm t => tmWo t
def Pt.ok : Pt → Prop
 | .op n => R64 n
 | .ins x _ _ => (1 ≤ x.op ∧ x.op ≤ 17 ∧ x.op ≠ 14) ∧ InsR x
 | .tm t => TmR t
theorem as_ins_ins (x : Ii) (a : Option Addr) (c : Nat) (W : World) : (Instr.typeAssert (.iface 46 (insV x a c)) 20 46 true).run Tryz.prog W = .ok (.tuple #[insV x a c, .bool true]) W := by kernel_rfl
theorem as_ins_term (v : Value) (W : World) : (Instr.typeAssert (.iface 51 v) 20 46 true).run Tryz.prog W = .ok (.tuple #[.agg #[.int .i64 0, .int .i64 0, .int .i64 0, .int .i64 0, .int .i64 0, .int .i64 0, .slice none 0 0, .int .i64 0], .bool false]) W := by kernel_rfl
theorem as_ins_op (v : Value) (W : World) : (Instr.typeAssert (.iface 141 v) 20 46 true).run Tryz.prog W = .ok (.tuple #[.agg #[.int .i64 0, .int .i64 0, .int .i64 0, .int .i64 0, .int .i64 0, .int .i64 0, .slice none 0 0, .int .i64 0], .bool false]) W := by kernel_rfl
theorem as_term_term (t : Tt) (W : World) : (Instr.typeAssert (.iface 51 (termV t)) 20 51 true).run Tryz.prog W = .ok (.tuple #[termV t, .bool true]) W := by kernel_rfl
theorem as_term_op (v : Value) (W : World) : (Instr.typeAssert (.iface 141 v) 20 51 true).run Tryz.prog W = .ok (.tuple #[.agg #[.int .i64 0, .int .i64 0, .int .i64 0, .int .i64 0], .bool false]) W := by kernel_rfl
theorem as_op_op (n : Int) (W : World) : (Instr.typeAssert (.iface 141 (.int .i64 n)) 20 141 false).run Tryz.prog W = .ok (.int .i64 n) W := by kernel_rfl
set_option maxHeartbeats 4000000 in
set_option maxRecDepth 100000 in
theorem rowOf_any (p : Pt) (w : World) (hp : p.ok) (hP : PowW w) (hN : NamesW w) :
    Calls Tryz.prog 55 #[p.v] w fun e w' => e = .returned (.string (rowB p.wo)) ∧ Below w.heap.size w w' := by
 cases p with
 | ins x a c =>
  have e0 := as_ins_ins x a c
  have HB0 : Hid (Below w.heap.size w (w.alloc (.cells (insC x a c) 46))) := (Below.refl _ w).alloc (Nat.le_refl _) _
  have R := Lib.hid (rowIns_any x a c _ hp.1 hp.2 (hP.below HB0.out) (hN.below HB0.out))
  have SX := insC.eq_1 x a c
  have SV := insV.eq_1 x a c
  show Calls Tryz.prog 55 #[.iface 46 (insV x a c)] w fun e w' => e = .returned (.string (rowB (insWo x))) ∧ Below w.heap.size w w'
  rw [SX] at R HB0
  rw [SV] at R e0 ⊢
  clear SX SV hp hP hN
  generalize rowB (insWo x) = q at *
  go_enter Tryz.func55, Tryz.ntmps55
  go_wp2_with fail
  refine R.out.mono ?_
  rintro e w1 ⟨rfl, hb1⟩
  have HB1 := Lib.hid (HB0.out.trans (hb1.mono HB0.out.size))
  clear hb1 R HB0
  go_wp2
  go_ret
  exact ⟨rfl, HB1.out⟩
 | tm t =>
  have e0 := as_ins_term (termV t)
  have e1 := as_term_term t
  have HB0 : Hid (Below w.heap.size w ((w.alloc (.cells #[.int .i64 0, .int .i64 0, .int .i64 0, .int .i64 0, .int .i64 0, .int .i64 0, .slice none 0 0, .int .i64 0] 46)).alloc (.cells (tmC t) 51))) := ((Below.refl _ w).alloc (Nat.le_refl _) _).alloc (by simp) _
  have R := Lib.hid (rowEnd_any t _ hp (hP.below HB0.out))
  have SX := tmC.eq_1 t
  have SV := termV.eq_1 t
  show Calls Tryz.prog 55 #[.iface 51 (termV t)] w fun e w' => e = .returned (.string (rowB (tmWo t))) ∧ Below w.heap.size w w'
  rw [SX] at R HB0
  rw [SV] at R e0 e1 ⊢
  clear SX SV hp hP hN
  generalize rowB (tmWo t) = q at *
  go_enter Tryz.func55, Tryz.ntmps55
  go_wp2_with fail
  refine R.out.mono ?_
  rintro e w1 ⟨rfl, hb1⟩
  have HB1 := Lib.hid (HB0.out.trans (hb1.mono HB0.out.size))
  clear hb1 R HB0
  go_wp2
  go_ret
  exact ⟨rfl, HB1.out⟩
 | op n =>
  have e0 := as_ins_op (.int .i64 n)
  have e1 := as_term_op (.int .i64 n)
  have e2 := as_op_op n
  have HB0 : Hid (Below w.heap.size w ((w.alloc (.cells #[.int .i64 0, .int .i64 0, .int .i64 0, .int .i64 0, .int .i64 0, .int .i64 0, .slice none 0 0, .int .i64 0] 46)).alloc (.cells #[.int .i64 0, .int .i64 0, .int .i64 0, .int .i64 0] 51))) := ((Below.refl _ w).alloc (Nat.le_refl _) _).alloc (by simp) _
  have R : Hid (Calls Tryz.prog 53 #[.slice (some ⟨((w.alloc (.cells #[.int .i64 0, .int .i64 0, .int .i64 0, .int .i64 0, .int .i64 0, .int .i64 0, .slice none 0 0, .int .i64 0] 46)).alloc (.cells #[.int .i64 0, .int .i64 0, .int .i64 0, .int .i64 0] 51)).heap.size, 0, none⟩) 2 2] (((w.alloc (.cells #[.int .i64 0, .int .i64 0, .int .i64 0, .int .i64 0, .int .i64 0, .int .i64 0, .slice none 0 0, .int .i64 0] 46)).alloc (.cells #[.int .i64 0, .int .i64 0, .int .i64 0, .int .i64 0] 51)).alloc (.cells #[.iface 9 (.string ⟨#[98, 108, 111, 99, 107]⟩), .iface 3 (.int .i64 n)] 20)) fun e w' => e = .returned (.string (rowB [.tx ⟨#[98, 108, 111, 99, 107]⟩, .nm n])) ∧ Below ((w.alloc (.cells #[.int .i64 0, .int .i64 0, .int .i64 0, .int .i64 0, .int .i64 0, .int .i64 0, .slice none 0 0, .int .i64 0] 46)).alloc (.cells #[.int .i64 0, .int .i64 0, .int .i64 0, .int .i64 0] 51)).heap.size ((w.alloc (.cells #[.int .i64 0, .int .i64 0, .int .i64 0, .int .i64 0, .int .i64 0, .int .i64 0, .slice none 0 0, .int .i64 0] 46)).alloc (.cells #[.int .i64 0, .int .i64 0, .int .i64 0, .int .i64 0] 51)) w') :=
   row_lit [.tx ⟨#[98, 108, 111, 99, 107]⟩, .nm n] _ _ (Below.refl _ _) (by simp) (by simp) (fun y hy => by
    simp only [List.mem_cons, List.not_mem_nil, or_false] at hy
    rcases hy with rfl | rfl
    · show _ ≤ 50; decide
    · exact hp) (hP.below HB0.out)
  simp only [szA] at R
  show Calls Tryz.prog 55 #[.iface 141 (.int .i64 n)] w fun e w' => e = .returned (.string (rowB [.tx ⟨#[98, 108, 111, 99, 107]⟩, .nm n])) ∧ Below w.heap.size w w'
  clear hp hP hN
  generalize rowB [.tx ⟨#[98, 108, 111, 99, 107]⟩, .nm n] = q at *
  go_enter Tryz.func55, Tryz.ntmps55
  go_wp2_with fail
  refine R.out.mono ?_
  rintro e w1 ⟨rfl, hb1⟩
  have HB1 := Lib.hid (HB0.out.trans (hb1.mono (by omega)))
  clear hb1 R HB0
  go_wp2
  go_ret
  exact ⟨rfl, HB1.out⟩
end Go.Proofs.YtbjmbahpcoanoaaGreatDoor
namespace Go.Proofs.YtbjmbahpcoanoaaGreatDoor
open Go.RowKit

def inC (x : Ii) : List Value := [.int .i64 x.op, .int .i64 x.dst, .int .i64 x.a, .int .i64 x.b, .int .i64 x.imm, .int .i64 x.callee, .slice none 0 0, .int .i64 x.many]
theorem inC_len (x : Ii) : (inC x).length = 8 := rfl
theorem inC_one (x : Ii) : ∀ u ∈ inC x, u.oneCell' = true := fun u hu => by
 simp only [inC, List.mem_cons, List.not_mem_nil, or_false] at hu
 rcases hu with rfl | rfl | rfl | rfl | rfl | rfl | rfl | rfl <;> rfl
theorem CurC.grownI {w w' : World} {g : Nat} {c : Cu} {row : Option Nat} (h : CurC w g c) (hb : w.grownBy w' row) (hr : ∀ k t cs, Blk w k t cs → 46 ≠ t → some k ≠ row) : CurC w' g c := by
 obtain ⟨a, cap, hc, hl, hm, hi⟩ := h
 refine ⟨a, cap, hc.grown hb (hr _ _ _ hc (by decide)), hl, hm, fun k x hx => ?_⟩
 obtain ⟨gg, o, cs, ha, hg, r⟩ := hi k x hx
 exact ⟨gg, o, cs, ha, hg.grown hb (hr _ _ _ hg (by decide)), r⟩
theorem own_kept {w w' : World} {B sz n g : Nat} {e t : TypeId} {v : Value} {xs : List Value} {cs : Array Value} (h : w.ownsRow B e sz v n xs) (k : Keep w.heap.size g w w') (hg : Blk w g t cs) (ht : e ≠ t) : w'.ownsRow B e sz v n xs := by
 have hf := own_ne h hg ht
 obtain ⟨h1, h2⟩ := h
 refine ⟨h1, ?_⟩
 rcases h2 with h2 | ⟨q, cap, cur, rfl, hq, hh, r⟩
 · exact .inl h2
 · have hne : q ≠ g := fun e => hf (by simp [Value.ownBlock, e])
   exact .inr ⟨q, cap, cur, rfl, hq, by rw [k.block q (Array.getElem?_eq_some_iff.1 hh).1 hne]; exact hh, r⟩
/-- A block that is being read: its box, its row. -/
structure Bk (w0 w W : World) (q g : Nat) (c : Cu) (l : List Ii) (v : Value) (cs : Array Value) : Prop where
 rp : Rp w0 W q g c
 b : Blk W w.heap.size 53 cs
 row : W.ownsRow w.heap.size 46 8 v l.length (l.flatMap inC)
 k : Keep w.heap.size g w W
 le : w0.heap.size ≤ w.heap.size
section
variable {w0 w W W' w4 : World} {q g : Nat} {c d : Cu} {l : List Ii} {v : Value} {cs : Array Value}
theorem Bk.call (h : Bk w0 w W q g c l v cs) (hw : Went w0 W q g d W') : Bk w0 w W' q g d l v cs := by
 obtain ⟨ds, hds⟩ := cur_blk h.rp.C
 exact ⟨hw.1, Blk.keep h.b hw.2 (blk_ne h.b hds (by decide)), own_kept h.row hw.2 hds (by decide), h.k.then_keep hw.2, h.le⟩
theorem Bk.below (h : Bk w0 w W q g c l v cs) (hb : Below W.heap.size W W') : Bk w0 w W' q g c l v cs :=
 ⟨h.rp.below hb, h.b.below hb h.b.lt, own_keep h.row ⟨hb.size, fun k _ hk => hb.block k hk⟩, h.k.then_below hb, h.le⟩
theorem Bk.alloc (h : Bk w0 w W q g c l v cs) (o : Obj) : Bk w0 w (W.alloc o) q g c l v cs := h.below ((Below.refl _ _).alloc (Nat.le_refl _) _)
theorem Bk.put (h : Bk w0 w W q g c l v cs) (j : Nat) (u : Value) : Bk w0 w (W.setCell ⟨w.heap.size, j, none⟩ u) q g c l v (cs.setIfInBounds j u) :=
 ⟨⟨h.rp.C.keep (Keep.put _ _ _ _ _) h.b (by decide) (by decide), h.rp.R.far (p := ⟨w.heap.size, j, none⟩) (blk_ne h.rp.R h.b (by decide)) u, h.rp.be.setCell (p := ⟨w.heap.size, j, none⟩) h.le u, h.rp.hg, h.rp.fit⟩, h.b.put j u,
  own_put h.row (p := ⟨w.heap.size, j, none⟩) (own_ne h.row h.b (by decide)) u,
  h.k.trans ⟨rfl, rfl, rfl, by simp [World.setCell], fun k hk _ => Below.heap_setCell W ⟨w.heap.size, j, none⟩ u k (by show k ≠ w.heap.size; omega)⟩, h.le⟩
theorem Bk.new (h : Rp w0 w q g c) (cs : Array Value) : Bk w0 w (w.alloc (.cells cs 53)) q g c [] (.slice none 0 0) cs :=
 ⟨h.below ((Below.refl _ _).alloc (Nat.le_refl _) _), Blk.new w _ _, World.ownsRow_nil _ _ _ _, Keep.alloc (Nat.le_refl _) g _, h.be.size⟩
theorem Bk.grown {v2 : Value} {x : Ii} (h : Bk w0 w W q g c l v cs) (hg : W.grownBy w4 v.ownBlock) (ho : w4.ownsRow w.heap.size 46 8 v2 (l.length + 1) (l.flatMap inC ++ inC x)) : Bk w0 w w4 q g c (l ++ [x]) v2 cs := by
 have hr : ∀ k t cs, Blk W k t cs → 46 ≠ t → some k ≠ v.ownBlock := fun k t cs hk ht => own_ne h.row hk ht
 refine ⟨⟨h.rp.C.grownI hg hr, h.rp.R.grown hg (hr _ _ _ h.rp.R (by decide)), h.rp.be.grown hg h.rp.be.size (fun k hk => Nat.le_trans h.le (h.row.lt k hk).1), h.rp.hg, h.rp.fit⟩, h.b.grown hg (hr _ _ _ h.b (by decide)), ?_, h.k.trans (Keep.grown hg h.k.size (fun k hk => (h.row.lt k hk).1) g), h.le⟩
 rw [List.flatMap_append, List.length_append]
 simpa using ho
theorem Bk.growA {o : Obj} {x : Ii} {a : Option Addr} {gg cap cap2 : Nat} (h : Bk w0 w W q g c l (.slice a l.length cap) cs) (hg : (W.alloc o).grownBy w4 (Value.slice a l.length cap).ownBlock) (ho : w4.ownsRow w.heap.size 46 8 (.slice (some ⟨gg, 0, none⟩) (l.length + 1) cap2) (l.length + 1) (l.flatMap inC ++ inC x)) :
    Bk w0 w w4 q g c (l ++ [x]) (.slice (some ⟨gg, 0, none⟩) (l.length + 1) cap2) cs := (h.alloc o).grown hg ho
end
end Go.Proofs.YtbjmbahpcoanoaaGreatDoor
