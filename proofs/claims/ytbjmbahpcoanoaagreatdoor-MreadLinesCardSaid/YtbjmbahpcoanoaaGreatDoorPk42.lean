/-
  The document's reader of targets: what stands right of an arrow (written by gen/pad.py). Conditions: the library's table of powers holds what the text lays.
-/
import Derived.Test.YtbjmbahpcoanoaaGreatDoorPk41
import Derived.Test.YtbjmbahpcoanoaaGreatDoorPk27
namespace Go.Proofs.YtbjmbahpcoanoaaGreatDoor
open Go.RowKit

theorem Did.trans {w0 w w1 w2 : World} {g : Nat} {c d : Cu} (h : Did w0 w g c w1) (k : Did w0 w1 g d w2) : Did w0 w g d w2 := h.and k
/-- The reader, and the result's box, the first one behind the world w. -/
structure Rv (w0 w W : World) (g : Nat) (c : Cu) (cs : Array Value) : Prop where
 rr : Rr w0 W g c
 b : Blk W w.heap.size 46 cs
 k : Keep w.heap.size g w W
 lt : g < w.heap.size
theorem Rv.new {w0 w : World} {g : Nat} {c : Cu} (h : Rr w0 w g c) : Rv w0 w (w.alloc (.cells zI 46)) g c zI := by
 obtain ⟨ds, hds⟩ := h.cur.blk
 exact ⟨h.below ((Below.refl _ _).alloc (Nat.le_refl _) _), Blk.new w _ _, Keep.alloc (Nat.le_refl _) g _, hds.lt⟩
theorem Rv.did {w0 w W W' : World} {g : Nat} {c d : Cu} {cs : Array Value} (h : Rv w0 w W g c cs) (hd : Did w0 W g d W') : Rv w0 w W' g d cs :=
 ⟨hd.1, Blk.keep h.b hd.2 (by have := h.lt; omega), h.k.then_keep hd.2, h.lt⟩
theorem Rr.put {w0 w W : World} {g p : Nat} {c : Cu} {cs : Array Value} (h : Rr w0 W g c) (hb : Blk W p 46 cs) (hp : w.heap.size ≤ p) (hw : w0.heap.size ≤ w.heap.size) (i : Nat) (u : Value) : Rr w0 (W.setCell ⟨p, i, none⟩ u) g c :=
 ⟨h.cur.keep (Keep.put W.heap.size p W i u) hb (by decide) (by decide), h.fit, h.be.setCell (p := ⟨p, i, none⟩) (Nat.le_trans hw hp) u, h.hg⟩
theorem Rv.put {w0 w W : World} {g : Nat} {c : Cu} {cs : Array Value} (h : Rv w0 w W g c cs) (hw : w0.heap.size ≤ w.heap.size) (i : Nat) (u : Value) : Rv w0 w (W.setCell ⟨w.heap.size, i, none⟩ u) g c (cs.setIfInBounds i u) :=
 ⟨h.rr.put h.b (Nat.le_refl _) hw i u, h.b.put i u, h.k.trans ⟨rfl, rfl, rfl, by simp [World.setCell], fun k hk _ => Below.heap_setCell W ⟨w.heap.size, i, none⟩ u k (by show k ≠ w.heap.size; omega)⟩, h.lt⟩
theorem Rv.far {w0 w W : World} {g p : Nat} {c : Cu} {cs ds : Array Value} (h : Rv w0 w W g c cs) (hb : Blk W p 46 ds) (hp : w.heap.size < p) (hw : w0.heap.size ≤ w.heap.size) (i : Nat) (u : Value) : Rv w0 w (W.setCell ⟨p, i, none⟩ u) g c cs :=
 ⟨h.rr.put hb (by omega) hw i u, h.b.far (p := ⟨p, i, none⟩) (by show w.heap.size ≠ p; omega) u, h.k.trans ⟨rfl, rfl, rfl, by simp [World.setCell], fun k hk _ => Below.heap_setCell W ⟨p, i, none⟩ u k (by show k ≠ p; omega)⟩, h.lt⟩
theorem ins8_size : (Tryz.prog.info? 46).map (·.size) = some 8 := by kernel_rfl
def put8 (W : World) (p : Nat) (x : Ii) : World := (((((((W.setCell ⟨p, 0, none⟩ (.int .i64 x.op)).setCell ⟨p, 1, none⟩ (.int .i64 x.dst)).setCell ⟨p, 2, none⟩ (.int .i64 x.a)).setCell ⟨p, 3, none⟩ (.int .i64 x.b)).setCell ⟨p, 4, none⟩ (.int .i64 x.imm)).setCell ⟨p, 5, none⟩ (.int .i64 x.callee)).setCell ⟨p, 6, none⟩ (.slice none x.args.length 0)).setCell ⟨p, 7, none⟩ (.int .i64 x.many)
theorem Rv.put8 {w0 w W : World} {g : Nat} {c : Cu} (h : Rv w0 w W g c #[.int .i64 0, .int .i64 0, .int .i64 0, .int .i64 0, .int .i64 0, .int .i64 0, .slice none 0 0, .int .i64 0]) (hw : w0.heap.size ≤ w.heap.size) (x : Ii) : Rv w0 w (put8 W w.heap.size x) g c (insC x none 0) := by
 have h8 := ((((((((h.put hw 0 (.int .i64 x.op)).put hw 1 (.int .i64 x.dst)).put hw 2 (.int .i64 x.a)).put hw 3 (.int .i64 x.b)).put hw 4 (.int .i64 x.imm)).put hw 5 (.int .i64 x.callee)).put hw 6 (.slice none x.args.length 0)).put hw 7 (.int .i64 x.many))
 have e : (((((((((#[.int .i64 0, .int .i64 0, .int .i64 0, .int .i64 0, .int .i64 0, .int .i64 0, .slice none 0 0, .int .i64 0] : Array Value).setIfInBounds 0 (.int .i64 x.op)).setIfInBounds 1 (.int .i64 x.dst)).setIfInBounds 2 (.int .i64 x.a)).setIfInBounds 3 (.int .i64 x.b)).setIfInBounds 4 (.int .i64 x.imm)).setIfInBounds 5 (.int .i64 x.callee)).setIfInBounds 6 (.slice none x.args.length 0)).setIfInBounds 7 (.int .i64 x.many)) = insC x none 0 := by simp [insC]
 rw [e] at h8
 exact h8
set_option maxRecDepth 100000 in
set_option maxHeartbeats 4000000 in
theorem rr_right {w0 w : World} {g : Nat} {c : Cu} (d : Int) (h : Rr w0 w g c) (hP : PowW w0) : Calls Tryz.prog 132 #[.pointer (some ⟨g, 0, none⟩), .int .i64 d] w fun e w' => e = .returned (insV (c.valI d) none 0) ∧ Did w0 w g c.valC w' := by
 have V0 := Lib.hid (Rv.new h)
 have HW0 : Hid (w0.heap.size ≤ w.heap.size) := h.be.size
 have NA : Hid (∀ (o : Int) W, 2 ≤ o ∧ o ≤ 10 → _) := fun o W ho => name7_any o W ho
 have KY : Hid (∀ (s : ByteArray) W, Rr w0 W g c → _) := fun s W h => rr_key s h
 have RG : Hid (∀ (e : Cu) W, Rr w0 W g e → _) := fun e W h => rr_reg h hP
 have NU : Hid (∀ (e : Cu) W, Rr w0 W g e → _) := fun e W h => rr_num (-1099511627776) 1099511627776 h
 have SL : Hid (∀ W, Rr w0 W g c → _) := fun W h => rr_slot h hP
 have NM : Hid (∀ W, Rr w0 W g c → _) := fun W h => rr_name h
 have SZ : Hid (zI = #[.int .i64 0, .int .i64 0, .int .i64 0, .int .i64 0, .int .i64 0, .int .i64 0, .slice none 0 0, .int .i64 0]) := rfl
 rw [SZ.out] at V0
 clear h hP
 go_enter Tryz.func132, Tryz.ntmps132
 go_upto_region 1 with fail
 generalize w.alloc (.cells #[.int .i64 0, .int .i64 0, .int .i64 0, .int .i64 0, .int .i64 0, .int .i64 0, .slice none 0 0, .int .i64 0] 46) = W1 at *
 go_wp2
 go_loopw [5] (fun v wr => ∃ o : Nat, v = .int .i64 o ∧ 2 ≤ o ∧ o ≤ 11 ∧ Hid (∀ m : Nat, 2 ≤ m → m < o → ¬ c.nameT = opNm (m : Int)) ∧ Rv w0 w wr g c #[.int .i64 0, .int .i64 0, .int .i64 0, .int .i64 0, .int .i64 0, .int .i64 0, .slice none 0 0, .int .i64 0]) (fun v _ => 11 - (intOf v).toNat)
 case atStart => exact ⟨2, rfl, by omega, by omega, Lib.hid (fun m h1 h2 => absurd h2 (by omega)), V0.out⟩
 case round =>
  obtain ⟨o, rfl, ho1, ho2, HM, hV⟩ := hrel
  have HV := Lib.hid hV
  clear hV V0
  by_cases hlt : o ≤ 10
  · have hlt' : (o : Int) ≤ 10 := by omega
    go_wp2_with fail
    refine (NA.out (o : Int) wr (by omega)).mono ?_
    rintro e w2 ⟨rfl, hb2⟩
    have HV2 := Lib.hid (HV.out.did (HV.out.rr.stay hb2))
    clear hb2 HV
    go_wp2_with fail
    refine (KY.out (opNm (o : Int)) w2 HV2.out.rr).mono ?_
    rintro e w3 ⟨rfl, hd3⟩
    have HV3 := Lib.hid (HV2.out.did hd3)
    clear hd3 HV2
    cases hk : c.keyB (opNm (o : Int))
    · have HM2 : Hid (∀ m : Nat, 2 ≤ m → m < o + 1 → ¬ c.nameT = opNm (m : Int)) := fun m h1 h2 => by
        by_cases e : m = o
        · subst e
          rw [key_name (opNm_some (by omega))] at hk
          exact of_decide_eq_false hk
        · exact HM.out m h1 (by omega)
      rw [key_off hk] at HV3
      clear hk HM
      go_wp2
      go_roundw
      case rel => exact ⟨o + 1, by go_num, by omega, by omega, HM2, HV3.out⟩
      case measure => simp [intOf]; omega
    · have hnm : c.nameT = opNm (o : Int) := by
        rw [key_name (opNm_some (by omega))] at hk
        exact of_decide_eq_true hk
      have h9 := opT_hit (o := o) (by omega)
      have HVI : Hid (c.valI d = ⟨(o : Int), d, c.name.regN, c.name.regC.regN, 0, 0, [], 0⟩ ∧ c.valC = c.name.regC.regC) := by
       have hs : c.slotB = false := by unfold Cu.slotB; rw [hnm, h9.2]; rfl
       have ho : opT c.nameT = o := by rw [hnm]; exact h9.1
       refine ⟨?_, ?_⟩
       · unfold Cu.valI
         rw [hs, ho, if_neg (by decide), if_neg (by omega), if_neg (by omega), if_neg (by omega)]
       · unfold Cu.valC
         rw [hs, ho, if_neg (by decide), if_neg (by omega), if_neg (by omega), if_neg (by omega)]
      rw [key_goes hk] at HV3
      have ho0 : 2 ≤ (o : Int) := by omega
      clear hk HM hnm h9
      go_wp2_with fail
      refine (RG.out c.name w3 HV3.out.rr).mono ?_
      rintro e w4 ⟨rfl, hd4⟩
      have HV4 := Lib.hid (HV3.out.did hd4)
      clear hd4 HV3
      generalize c.name.regN = ra at *
      go_upto_region 6 with fail
      have HB5 : Hid (Blk (w4.alloc (.cells #[.int .i64 o, .int .i64 d, .int .i64 ra, .int .i64 0, .int .i64 0, .int .i64 0, .slice none 0 0, .int .i64 0] 46)) w4.heap.size 46 #[.int .i64 o, .int .i64 d, .int .i64 ra, .int .i64 0, .int .i64 0, .int .i64 0, .slice none 0 0, .int .i64 0]) := Blk.new w4 _ _
      have HV5 := Lib.hid (HV4.out.did (HV4.out.rr.stay ((Below.refl w4.heap.size w4).alloc (Nat.le_refl _) (.cells #[.int .i64 o, .int .i64 d, .int .i64 ra, .int .i64 0, .int .i64 0, .int .i64 0, .slice none 0 0, .int .i64 0] 46))))
      have hl4 : w.heap.size < w4.heap.size := HV4.out.b.lt
      have hg4 : g < w.heap.size := HV4.out.lt
      generalize w4.alloc (.cells #[.int .i64 o, .int .i64 d, .int .i64 ra, .int .i64 0, .int .i64 0, .int .i64 0, .slice none 0 0, .int .i64 0] 46) = W5 at *
      clear HV4
      go_wp2_with fail
      refine (RG.out c.name.regC W5 HV5.out.rr).mono ?_
      rintro e w6 ⟨rfl, hd6⟩
      have HV6 := Lib.hid (HV5.out.did hd6)
      have HB6 : Hid (Blk w6 w4.heap.size 46 #[.int .i64 o, .int .i64 d, .int .i64 ra, .int .i64 0, .int .i64 0, .int .i64 0, .slice none 0 0, .int .i64 0]) := Blk.keep HB5.out hd6.2 (by omega)
      clear hd6 HV5 HB5
      generalize c.name.regC.regN = rb at *
      have p3 : w6.cell? ⟨w4.heap.size, 3, none⟩ = some (.int .i64 0) := HB6.out.cell 3
      have q3 := HB6.out.free 3
      have hl6 := HB6.out.lt
      go_upto_region 7 with fail
      clear p3 q3
      have hw0 := HV6.out.rr.be.size
      have HV7 := Lib.hid (HV6.out.far HB6.out hl4 HW0.out 3 (.int .i64 rb))
      have HB7 : Hid (Blk (w6.setCell ⟨w4.heap.size, 3, none⟩ (.int .i64 rb)) w4.heap.size 46 #[.int .i64 o, .int .i64 d, .int .i64 ra, .int .i64 rb, .int .i64 0, .int .i64 0, .slice none 0 0, .int .i64 0]) := HB6.out.put 3 _
      generalize w6.setCell ⟨w4.heap.size, 3, none⟩ (.int .i64 rb) = W7 at *
      have x0 : W7.cell? ⟨w4.heap.size, 0, none⟩ = some (.int .i64 o) := HB7.out.cell 0
      have x1 : W7.cell? ⟨w4.heap.size, 1, none⟩ = some (.int .i64 d) := HB7.out.cell 1
      have x2 : W7.cell? ⟨w4.heap.size, 2, none⟩ = some (.int .i64 ra) := HB7.out.cell 2
      have x3 : W7.cell? ⟨w4.heap.size, 3, none⟩ = some (.int .i64 rb) := HB7.out.cell 3
      have x4 : W7.cell? ⟨w4.heap.size, 4, none⟩ = some (.int .i64 0) := HB7.out.cell 4
      have x5 : W7.cell? ⟨w4.heap.size, 5, none⟩ = some (.int .i64 0) := HB7.out.cell 5
      have x6 : W7.cell? ⟨w4.heap.size, 6, none⟩ = some (.slice none 0 0) := HB7.out.cell 6
      have x7 : W7.cell? ⟨w4.heap.size, 7, none⟩ = some (.int .i64 0) := HB7.out.cell 7
      have y0 : W7.cell? ⟨w.heap.size, 0, none⟩ = some (.int .i64 0) := HV7.out.b.cell 0
      have y1 : W7.cell? ⟨w.heap.size, 1, none⟩ = some (.int .i64 0) := HV7.out.b.cell 1
      have y2 : W7.cell? ⟨w.heap.size, 2, none⟩ = some (.int .i64 0) := HV7.out.b.cell 2
      have y3 : W7.cell? ⟨w.heap.size, 3, none⟩ = some (.int .i64 0) := HV7.out.b.cell 3
      have y4 : W7.cell? ⟨w.heap.size, 4, none⟩ = some (.int .i64 0) := HV7.out.b.cell 4
      have y5 : W7.cell? ⟨w.heap.size, 5, none⟩ = some (.int .i64 0) := HV7.out.b.cell 5
      have y6 : W7.cell? ⟨w.heap.size, 6, none⟩ = some (.slice none 0 0) := HV7.out.b.cell 6
      have y7 : W7.cell? ⟨w.heap.size, 7, none⟩ = some (.int .i64 0) := HV7.out.b.cell 7
      have z0 := HV7.out.b.free 0
      have z1 := HV7.out.b.free 1
      have z2 := HV7.out.b.free 2
      have z3 := HV7.out.b.free 3
      have z4 := HV7.out.b.free 4
      have z5 := HV7.out.b.free 5
      have z6 := HV7.out.b.free 6
      have z7 := HV7.out.b.free 7
      go_wp2
      (try simp only [Exit.inBlock, Exit.then])
      have hend := HV7.out.put8 HW0.out ⟨(o : Int), d, ra, rb, 0, 0, [], 0⟩
      refine bodyPost_ret (results_cell_row rfl _ _ w.heap.size 46 _ (0, 0) _ (by simp) hend.b Tryz.underlying46 rfl ins8_size) rfl ?_
      exact ⟨by rw [HVI.out.1]; rfl, by rw [HVI.out.2]; exact ⟨hend.rr, hend.k⟩⟩
  · have e : o = 11 := by omega
    subst e
    clear hlt ho1 ho2
    go_wp2_with fail
    refine (KY.out ⟨#[99, 111, 110, 115, 116]⟩ wr HV.out.rr).mono ?_
    rintro e w3 ⟨rfl, hd3⟩
    have HV3 := Lib.hid (HV.out.did hd3)
    clear hd3 HV
    cases hk1 : c.keyB ⟨#[99, 111, 110, 115, 116]⟩
    case true =>
     have hnm : c.nameT = opNm (1 : Int) := by
      rw [key_name (by decide)] at hk1
      exact of_decide_eq_true hk1
     have h9 : opT (opNm (1 : Int)) = 1 ∧ slotT (opNm (1 : Int)) = none := opT_hit (o := 1) (by omega)
     have HVI : Hid (c.valI d = ⟨1, d, 0, 0, c.name.numN (-1099511627776) 1099511627776, 0, [], 0⟩ ∧ c.valC = c.name.num (-1099511627776) 1099511627776) := by
      have hs : c.slotB = false := by unfold Cu.slotB; rw [hnm]; exact (by rw [h9.2]; rfl : (slotT (opNm (1 : Int))).isSome = false)
      have ho : opT c.nameT = 1 := by rw [hnm]; exact h9.1
      refine ⟨?_, ?_⟩
      · unfold Cu.valI
        rw [hs, ho]
        rfl
      · unfold Cu.valC
        rw [hs, ho]
        rfl
     rw [key_goes hk1] at HV3
     clear hk1 HM hnm h9
     go_wp2_with fail
     refine (NU.out c.name w3 HV3.out.rr).mono ?_
     rintro e w4 ⟨rfl, hd4⟩
     have HV4 := Lib.hid (HV3.out.did hd4)
     clear hd4 HV3
     generalize c.name.numN (-1099511627776) 1099511627776 = ra at *
     have y0 : w4.cell? ⟨w.heap.size, 0, none⟩ = some (.int .i64 0) := HV4.out.b.cell 0
     have z0 := HV4.out.b.free 0
     have y1 : w4.cell? ⟨w.heap.size, 1, none⟩ = some (.int .i64 0) := HV4.out.b.cell 1
     have z1 := HV4.out.b.free 1
     have y2 : w4.cell? ⟨w.heap.size, 2, none⟩ = some (.int .i64 0) := HV4.out.b.cell 2
     have z2 := HV4.out.b.free 2
     have y3 : w4.cell? ⟨w.heap.size, 3, none⟩ = some (.int .i64 0) := HV4.out.b.cell 3
     have z3 := HV4.out.b.free 3
     have y4 : w4.cell? ⟨w.heap.size, 4, none⟩ = some (.int .i64 0) := HV4.out.b.cell 4
     have z4 := HV4.out.b.free 4
     have y5 : w4.cell? ⟨w.heap.size, 5, none⟩ = some (.int .i64 0) := HV4.out.b.cell 5
     have z5 := HV4.out.b.free 5
     have y6 : w4.cell? ⟨w.heap.size, 6, none⟩ = some (.slice none 0 0) := HV4.out.b.cell 6
     have z6 := HV4.out.b.free 6
     have y7 : w4.cell? ⟨w.heap.size, 7, none⟩ = some (.int .i64 0) := HV4.out.b.cell 7
     have z7 := HV4.out.b.free 7
     go_wp2
     (try simp only [Exit.inBlock, Exit.then])
     have hend := HV4.out.put8 HW0.out ⟨1, d, 0, 0, ra, 0, [], 0⟩
     refine bodyPost_ret (results_cell_row rfl _ _ w.heap.size 46 _ (0, 0) _ (by simp) hend.b Tryz.underlying46 rfl ins8_size) rfl ?_
     exact ⟨by rw [HVI.out.1]; rfl, by rw [HVI.out.2]; exact ⟨hend.rr, hend.k⟩⟩
    have HN1 : Hid (¬ c.nameT = opNm (1 : Int)) := by
     rw [key_name (by decide)] at hk1
     exact of_decide_eq_false hk1
    rw [key_off hk1] at HV3
    clear hk1
    go_wp2_with fail
    refine (KY.out ⟨#[108, 111, 97, 100]⟩ w3 HV3.out.rr).mono ?_
    rintro e w5 ⟨rfl, hd3⟩
    have HV5 := Lib.hid (HV3.out.did hd3)
    clear hd3 HV3
    cases hk11 : c.keyB ⟨#[108, 111, 97, 100]⟩
    case true =>
     have hnm : c.nameT = opNm (11 : Int) := by
      rw [key_name (by decide)] at hk11
      exact of_decide_eq_true hk11
     have h9 : opT (opNm (11 : Int)) = 11 ∧ slotT (opNm (11 : Int)) = none := opT_hit (o := 11) (by omega)
     have HVI : Hid (c.valI d = ⟨11, d, c.name.regN, 0, c.name.regC.numN (-1099511627776) 1099511627776, 0, [], 0⟩ ∧ c.valC = c.name.regC.num (-1099511627776) 1099511627776) := by
      have hs : c.slotB = false := by unfold Cu.slotB; rw [hnm]; exact (by rw [h9.2]; rfl : (slotT (opNm (11 : Int))).isSome = false)
      have ho : opT c.nameT = 11 := by rw [hnm]; exact h9.1
      refine ⟨?_, ?_⟩
      · unfold Cu.valI
        rw [hs, ho]
        rfl
      · unfold Cu.valC
        rw [hs, ho]
        rfl
     rw [key_goes hk11] at HV5
     clear hk11 HM hnm h9
     go_wp2_with fail
     refine (RG.out c.name w5 HV5.out.rr).mono ?_
     rintro e w6 ⟨rfl, hd4⟩
     have HV6 := Lib.hid (HV5.out.did hd4)
     clear hd4 HV5
     generalize c.name.regN = ra at *
     go_upto_region 12 with fail
     have HB7 : Hid (Blk (w6.alloc (.cells #[.int .i64 11, .int .i64 d, .int .i64 ra, .int .i64 0, .int .i64 0, .int .i64 0, .slice none 0 0, .int .i64 0] 46)) w6.heap.size 46 #[.int .i64 11, .int .i64 d, .int .i64 ra, .int .i64 0, .int .i64 0, .int .i64 0, .slice none 0 0, .int .i64 0]) := Blk.new w6 _ _
     have HV7 := Lib.hid (HV6.out.did (HV6.out.rr.stay ((Below.refl w6.heap.size w6).alloc (Nat.le_refl _) (.cells #[.int .i64 11, .int .i64 d, .int .i64 ra, .int .i64 0, .int .i64 0, .int .i64 0, .slice none 0 0, .int .i64 0] 46))))
     have hl4 : w.heap.size < w6.heap.size := HV6.out.b.lt
     have hg4 : g < w.heap.size := HV6.out.lt
     generalize w6.alloc (.cells #[.int .i64 11, .int .i64 d, .int .i64 ra, .int .i64 0, .int .i64 0, .int .i64 0, .slice none 0 0, .int .i64 0] 46) = W7 at *
     clear HV6
     go_wp2_with fail
     refine (NU.out c.name.regC W7 HV7.out.rr).mono ?_
     rintro e w8 ⟨rfl, hd6⟩
     have HV8 := Lib.hid (HV7.out.did hd6)
     have HB8 : Hid (Blk w8 w6.heap.size 46 #[.int .i64 11, .int .i64 d, .int .i64 ra, .int .i64 0, .int .i64 0, .int .i64 0, .slice none 0 0, .int .i64 0]) := Blk.keep HB7.out hd6.2 (by omega)
     clear hd6 HV7 HB7
     generalize c.name.regC.numN (-1099511627776) 1099511627776 = rb at *
     have p3 : w8.cell? ⟨w6.heap.size, 4, none⟩ = some (.int .i64 0) := HB8.out.cell 4
     have q3 := HB8.out.free 4
     have hl6 := HB8.out.lt
     go_upto_region 13 with fail
     clear p3 q3
     have HV9 := Lib.hid (HV8.out.far HB8.out hl4 HW0.out 4 (.int .i64 rb))
     have HB9 : Hid (Blk (w8.setCell ⟨w6.heap.size, 4, none⟩ (.int .i64 rb)) w6.heap.size 46 #[.int .i64 11, .int .i64 d, .int .i64 ra, .int .i64 0, .int .i64 rb, .int .i64 0, .slice none 0 0, .int .i64 0]) := HB8.out.put 4 _
     generalize w8.setCell ⟨w6.heap.size, 4, none⟩ (.int .i64 rb) = W9 at *
     have x0 : W9.cell? ⟨w6.heap.size, 0, none⟩ = some (.int .i64 11) := HB9.out.cell 0
     have x1 : W9.cell? ⟨w6.heap.size, 1, none⟩ = some (.int .i64 d) := HB9.out.cell 1
     have x2 : W9.cell? ⟨w6.heap.size, 2, none⟩ = some (.int .i64 ra) := HB9.out.cell 2
     have x3 : W9.cell? ⟨w6.heap.size, 3, none⟩ = some (.int .i64 0) := HB9.out.cell 3
     have x4 : W9.cell? ⟨w6.heap.size, 4, none⟩ = some (.int .i64 rb) := HB9.out.cell 4
     have x5 : W9.cell? ⟨w6.heap.size, 5, none⟩ = some (.int .i64 0) := HB9.out.cell 5
     have x6 : W9.cell? ⟨w6.heap.size, 6, none⟩ = some (.slice none 0 0) := HB9.out.cell 6
     have x7 : W9.cell? ⟨w6.heap.size, 7, none⟩ = some (.int .i64 0) := HB9.out.cell 7
     have y0 : W9.cell? ⟨w.heap.size, 0, none⟩ = some (.int .i64 0) := HV9.out.b.cell 0
     have z0 := HV9.out.b.free 0
     have y1 : W9.cell? ⟨w.heap.size, 1, none⟩ = some (.int .i64 0) := HV9.out.b.cell 1
     have z1 := HV9.out.b.free 1
     have y2 : W9.cell? ⟨w.heap.size, 2, none⟩ = some (.int .i64 0) := HV9.out.b.cell 2
     have z2 := HV9.out.b.free 2
     have y3 : W9.cell? ⟨w.heap.size, 3, none⟩ = some (.int .i64 0) := HV9.out.b.cell 3
     have z3 := HV9.out.b.free 3
     have y4 : W9.cell? ⟨w.heap.size, 4, none⟩ = some (.int .i64 0) := HV9.out.b.cell 4
     have z4 := HV9.out.b.free 4
     have y5 : W9.cell? ⟨w.heap.size, 5, none⟩ = some (.int .i64 0) := HV9.out.b.cell 5
     have z5 := HV9.out.b.free 5
     have y6 : W9.cell? ⟨w.heap.size, 6, none⟩ = some (.slice none 0 0) := HV9.out.b.cell 6
     have z6 := HV9.out.b.free 6
     have y7 : W9.cell? ⟨w.heap.size, 7, none⟩ = some (.int .i64 0) := HV9.out.b.cell 7
     have z7 := HV9.out.b.free 7
     go_wp2
     (try simp only [Exit.inBlock, Exit.then])
     have hend := HV9.out.put8 HW0.out ⟨11, d, ra, 0, rb, 0, [], 0⟩
     refine bodyPost_ret (results_cell_row rfl _ _ w.heap.size 46 _ (0, 0) _ (by simp) hend.b Tryz.underlying46 rfl ins8_size) rfl ?_
     exact ⟨by rw [HVI.out.1]; rfl, by rw [HVI.out.2]; exact ⟨hend.rr, hend.k⟩⟩
    have HN11 : Hid (¬ c.nameT = opNm (11 : Int)) := by
     rw [key_name (by decide)] at hk11
     exact of_decide_eq_false hk11
    rw [key_off hk11] at HV5
    clear hk11
    have HO : Hid (opT c.nameT = 0) := opT_none (fun m hm => by
     by_cases e1 : m = 1
     · subst e1; exact HN1.out
     by_cases e2 : m = 11
     · subst e2; exact HN11.out
     exact HM.out m (by omega) (by omega))
    clear HN1 HN11 HM
    go_wp2_with fail
    refine (SL.out w5 HV5.out.rr).mono ?_
    rintro e w6 ⟨rfl, hd4⟩
    have HV6 := Lib.hid (HV5.out.did hd4)
    clear hd4 HV5
    cases hs : slotT c.nameT with
    | some n =>
     have HVI : Hid (c.valI d = ⟨17, d, 0, 0, (n : Int), 0, [], 0⟩ ∧ c.valC = c.name) := by
      have hb : c.slotB = true := by unfold Cu.slotB; rw [hs]; rfl
      have hn : c.slotN = (n : Int) := by unfold Cu.slotN; rw [hs]; rfl
      have hc : c.slotC = c.name := by unfold Cu.slotC; rw [if_pos hb]
      exact ⟨by unfold Cu.valI; rw [if_pos hb, hn], by unfold Cu.valC; rw [if_pos hb, hc]⟩
     have hn0 : (0 : Int) ≤ n := by omega
     have hnI : numI (some n) = (n : Int) := rfl
     clear hs HO
     rw [hnI]
     clear hnI
     go_wp2_with fail
     refine (NM.out w6 HV6.out.rr).mono ?_
     rintro e w7 ⟨rfl, hd4⟩
     have HV7 := Lib.hid (HV6.out.did hd4)
     clear hd4 HV6
     have y0 : w7.cell? ⟨w.heap.size, 0, none⟩ = some (.int .i64 0) := HV7.out.b.cell 0
     have z0 := HV7.out.b.free 0
     have y1 : w7.cell? ⟨w.heap.size, 1, none⟩ = some (.int .i64 0) := HV7.out.b.cell 1
     have z1 := HV7.out.b.free 1
     have y2 : w7.cell? ⟨w.heap.size, 2, none⟩ = some (.int .i64 0) := HV7.out.b.cell 2
     have z2 := HV7.out.b.free 2
     have y3 : w7.cell? ⟨w.heap.size, 3, none⟩ = some (.int .i64 0) := HV7.out.b.cell 3
     have z3 := HV7.out.b.free 3
     have y4 : w7.cell? ⟨w.heap.size, 4, none⟩ = some (.int .i64 0) := HV7.out.b.cell 4
     have z4 := HV7.out.b.free 4
     have y5 : w7.cell? ⟨w.heap.size, 5, none⟩ = some (.int .i64 0) := HV7.out.b.cell 5
     have z5 := HV7.out.b.free 5
     have y6 : w7.cell? ⟨w.heap.size, 6, none⟩ = some (.slice none 0 0) := HV7.out.b.cell 6
     have z6 := HV7.out.b.free 6
     have y7 : w7.cell? ⟨w.heap.size, 7, none⟩ = some (.int .i64 0) := HV7.out.b.cell 7
     have z7 := HV7.out.b.free 7
     go_wp2
     (try simp only [Exit.inBlock, Exit.then])
     have hend := HV7.out.put8 HW0.out ⟨17, d, 0, 0, n, 0, [], 0⟩
     refine bodyPost_ret (results_cell_row rfl _ _ w.heap.size 46 _ (0, 0) _ (by simp) hend.b Tryz.underlying46 rfl ins8_size) rfl ?_
     exact ⟨by rw [HVI.out.1]; rfl, by rw [HVI.out.2]; exact ⟨hend.rr, hend.k⟩⟩
    | none =>
     have HVI : Hid (c.valI d = ⟨15, d, c.regN, 0, 0, 0, [], 0⟩ ∧ c.valC = c.regC) := by
      have hb : c.slotB = false := by unfold Cu.slotB; rw [hs]; rfl
      refine ⟨?_, ?_⟩
      · unfold Cu.valI
        rw [hb, HO.out]
        rfl
      · unfold Cu.valC
        rw [hb, HO.out]
        rfl
     have hnI : numI none = -1 := rfl
     clear hs HO
     rw [hnI]
     clear hnI
     go_wp2_with fail
     refine (RG.out c w6 HV6.out.rr).mono ?_
     rintro e w7 ⟨rfl, hd4⟩
     have HV7 := Lib.hid (HV6.out.did hd4)
     clear hd4 HV6
     generalize c.regN = ra at *
     have y0 : w7.cell? ⟨w.heap.size, 0, none⟩ = some (.int .i64 0) := HV7.out.b.cell 0
     have z0 := HV7.out.b.free 0
     have y1 : w7.cell? ⟨w.heap.size, 1, none⟩ = some (.int .i64 0) := HV7.out.b.cell 1
     have z1 := HV7.out.b.free 1
     have y2 : w7.cell? ⟨w.heap.size, 2, none⟩ = some (.int .i64 0) := HV7.out.b.cell 2
     have z2 := HV7.out.b.free 2
     have y3 : w7.cell? ⟨w.heap.size, 3, none⟩ = some (.int .i64 0) := HV7.out.b.cell 3
     have z3 := HV7.out.b.free 3
     have y4 : w7.cell? ⟨w.heap.size, 4, none⟩ = some (.int .i64 0) := HV7.out.b.cell 4
     have z4 := HV7.out.b.free 4
     have y5 : w7.cell? ⟨w.heap.size, 5, none⟩ = some (.int .i64 0) := HV7.out.b.cell 5
     have z5 := HV7.out.b.free 5
     have y6 : w7.cell? ⟨w.heap.size, 6, none⟩ = some (.slice none 0 0) := HV7.out.b.cell 6
     have z6 := HV7.out.b.free 6
     have y7 : w7.cell? ⟨w.heap.size, 7, none⟩ = some (.int .i64 0) := HV7.out.b.cell 7
     have z7 := HV7.out.b.free 7
     go_wp2
     (try simp only [Exit.inBlock, Exit.then])
     have hend := HV7.out.put8 HW0.out ⟨15, d, ra, 0, 0, 0, [], 0⟩
     refine bodyPost_ret (results_cell_row rfl _ _ w.heap.size 46 _ (0, 0) _ (by simp) hend.b Tryz.underlying46 rfl ins8_size) rfl ?_
     exact ⟨by rw [HVI.out.1]; rfl, by rw [HVI.out.2]; exact ⟨hend.rr, hend.k⟩⟩
end Go.Proofs.YtbjmbahpcoanoaaGreatDoor
