/-
  The document's reader of targets: a line, its paths joined; a block (written by gen/pai.py). Conditions: the library's table of powers holds what the text lays.
  The document's reader of targets: a block (written by gen/pai.py). Conditions: the library's table of powers holds what the text lays.
  The document's tests on a rune answer what the plain functions say. No condition beyond those that each theorem states.
-/
import Derived.Test.YtbjmbahpcoanoaaGreatDoorPk43
import Derived.Test.YtbjmbahpcoanoaaGreatDoorPk44
import Derived.Deep.CutRange
import Derived.Test.YtbjmbahpcoanoaaGreatDoorPk13
import Derived.Test.YtbjmbahpcoanoaaGreatDoorPk20
import Derived.Lib.Hide
namespace Go.Proofs.YtbjmbahpcoanoaaGreatDoor
open Go.RowKit

/-- What a line tells. -/
def lineV : Ii ⊕ Tt → Value
 | .inl x => .tuple #[insV x none 0, termV ⟨0, 0, 0, 0⟩, .bool false]
 | .inr t => .tuple #[insV ⟨0, 0, 0, 0, 0, 0, [], 0⟩ none 0, termV t, .bool true]
theorem line_any {w0 w : World} {g : Nat} {c : Cu} (h : Rr w0 w g c) (hP : PowW w0) : Calls Tryz.prog 79 #[.pointer (some ⟨g, 0, none⟩)] w fun e w' => e = .returned (lineV c.partP) ∧ Did w0 w g c.partC w' := by
 cases k0 : c.keyB kTr
 case true =>
  have a1 := key_other k0 (t := kSt) (by decide)
  have a2 := key_other k0 (t := kCa) (by decide)
  have a3 := key_other k0 (t := kRe) (by decide)
  have hp : c.partP = .inr ⟨4, 0, 0, 0⟩ ∧ c.partC = c.key kTr := by
   constructor
   · unfold Cu.partP; simp only [a1, a2, a3, k0, Bool.false_eq_true, if_false, if_true]
   · unfold Cu.partC; simp only [a1, a2, a3, k0, Bool.false_eq_true, if_false, if_true]
  rw [hp.1, hp.2]
  exact line_trap h k0
 cases k1 : c.keyB kRe
 case true =>
  have a1 := key_other k1 (t := kSt) (by decide)
  have a2 := key_other k1 (t := kCa) (by decide)
  have hp : c.partP = .inr ⟨3, (c.key kRe).toldN, 0, 0⟩ ∧ c.partC = (c.key kRe).toldC := by
   constructor
   · unfold Cu.partP; simp only [a1, a2, k1, Bool.false_eq_true, if_false, if_true]
   · unfold Cu.partC; simp only [a1, a2, k1, Bool.false_eq_true, if_false, if_true]
  rw [hp.1, hp.2]
  unfold Cu.toldN Cu.toldC
  cases ke : (c.key kRe).ends
  · exact line_return h hP k0 k1 ke
  · exact line_retend h k0 k1 ke
 cases k2 : c.isB sAr
 case true =>
  have a : ∀ t, c.keyB t = false := fun t => is_key k2
  have hp : c.partP = .inr ⟨1, 0, (c.is sAr).numN 0 199, 0⟩ ∧ c.partC = (c.is sAr).num 0 199 := by
   constructor
   · unfold Cu.partP; simp only [a, k2, Bool.false_eq_true, if_false, if_true]
   · unfold Cu.partC; simp only [a, k2, Bool.false_eq_true, if_false, if_true]
  rw [hp.1, hp.2]
  exact line_jump h k0 k1 k2
 cases k3 : c.keyB kSt
 case true =>
  have hp : c.partP = .inl ⟨12, 0, (c.key kSt).regN, (((c.key kSt).regC).num (-1099511627776) 1099511627776).regN, ((c.key kSt).regC).numN (-1099511627776) 1099511627776, 0, [], 0⟩ ∧ c.partC = (((c.key kSt).regC).num (-1099511627776) 1099511627776).regC := by
   constructor
   · unfold Cu.partP; simp only [k3, if_true]
   · unfold Cu.partC; simp only [k3, if_true]
  rw [hp.1, hp.2]
  exact line_store h hP k0 k1 k2 k3
 cases k4 : c.keyB kCa
 case true =>
  have hp : c.partP = .inl ⟨13, 0, 0, 0, 0, (c.key kCa).numN 0 99, [], ((c.key kCa).num 0 99).numN 0 8⟩ ∧ c.partC = ((c.key kCa).num 0 99).num 0 8 := by
   constructor
   · unfold Cu.partP; simp only [k3, k4, Bool.false_eq_true, if_false, if_true]
   · unfold Cu.partC; simp only [k3, k4, Bool.false_eq_true, if_false, if_true]
  rw [hp.1, hp.2]
  exact line_call h k0 k1 k2 k3 k4
 cases k5 : c.slotB
 case true =>
  have hp : c.partP = .inl ⟨16, 0, (c.slotC.mark [sAl]).regN, 0, c.slotN, 0, [], 0⟩ ∧ c.partC = (c.slotC.mark [sAl]).regC := by
   constructor
   · unfold Cu.partP; simp only [k0, k1, k2, k3, k4, k5, Bool.false_eq_true, if_false, if_true]
   · unfold Cu.partC; simp only [k0, k1, k2, k3, k4, k5, Bool.false_eq_true, if_false, if_true]
  rw [hp.1, hp.2]
  exact line_put h hP k0 k1 k2 k3 k4 k5
 cases k6 : c.regC.isB sAr
 case true =>
  have hp : c.partP = .inr ⟨2, c.regN, (c.regC.is sAr).numN 0 199, ((c.regC.is sAr).num 0 199).numN 0 199⟩ ∧ c.partC = ((c.regC.is sAr).num 0 199).num 0 199 := by
   constructor
   · unfold Cu.partP; simp only [k0, k1, k2, k3, k4, k5, k6, Bool.false_eq_true, if_false, if_true]
   · unfold Cu.partC; simp only [k0, k1, k2, k3, k4, k5, k6, Bool.false_eq_true, if_false, if_true]
  rw [hp.1, hp.2]
  exact line_branch h hP k0 k1 k2 k3 k4 k5 k6
 have hp : c.partP = .inl ((c.regC.mark [sAl]).valI c.regN) ∧ c.partC = (c.regC.mark [sAl]).valC := by
  constructor
  · unfold Cu.partP; simp only [k0, k1, k2, k3, k4, k5, k6, Bool.false_eq_true, if_false]
  · unfold Cu.partC; simp only [k0, k1, k2, k3, k4, k5, k6, Bool.false_eq_true, if_false]
 rw [hp.1, hp.2]
 exact line_value h hP k0 k1 k2 k3 k4 k5 k6
end Go.Proofs.YtbjmbahpcoanoaaGreatDoor
namespace Go.Proofs.YtbjmbahpcoanoaaGreatDoor
open Go.RowKit

set_option maxRecDepth 100000 in
set_option maxHeartbeats 8000000 in
theorem blockR_any {w0 w : World} {g : Nat} {c : Cu} (n : Int) (h : Rr w0 w g c) (hP : PowW w0) :
    Calls Tryz.prog 38 #[.pointer (some ⟨g, 0, none⟩), .int .i64 n] w fun e w' => ∃ (b : Bb) (a : Option Addr) (k : Nat) (rs cs : Array Value), e = .returned (.agg (blkC b a k)) ∧ ((c.rbC n).fault = 0 → b = c.rbB n) ∧ Rb w0 w w' g (c.rbC n) b.ins (.slice a b.ins.length k) rs cs := by
 obtain ⟨i0, hi0, hz0, hz1, hz2⟩ := info_parts ins_info
 have B0 := Lib.hid (Rb.new h #[.slice none 0 0, .int .i64 0, .int .i64 0, .int .i64 0, .int .i64 0] #[.slice none 0 0, .int .i64 0, .int .i64 0, .int .i64 0, .int .i64 0])
 have few := (h.fit.rb n).headC n
 have HF := Lib.hid few.few
 have S1 : Hid (∀ W, Rr w0 W g c → _) := fun W hr => rr_fail 3 hr
 have S2 : Hid (∀ W, Rr w0 W g (c.rb n) → _) := fun W hr => rr_key kBlock hr
 have S3 : Hid (∀ W, Rr w0 W g ((c.rb n).key kBlock) → _) := fun W hr => rr_fail 7 hr
 have S4 : Hid (∀ W, Rr w0 W g ((c.rb n).keyedP kBlock) → _) := fun W hr => rr_num n n hr
 have S5 : Hid (∀ W, Rr w0 W g (((c.rb n).keyedP kBlock).num n n) → _) := fun W hr => rr_end hr
 have LN : Hid (∀ (d : Cu) W, Rr w0 W g d → _) := fun d W hr => line_any hr hP
 have FL : Hid (∀ (d : Cu) W, Rr w0 W g d → _) := fun d W hr => rr_fail 3 hr
 have EN : Hid (∀ (d : Cu) W, Rr w0 W g d → _) := fun d W hr => rr_end hr
 have HD : Hid ((((c.rb n).keyedP kBlock).num n n).end_ = (c.rb n).headC n) := rfl
 have HR : Hid (c.rbC n = (((c.rb n).headC n).blk []).1 ∧ c.rbB n = (((c.rb n).headC n).blk []).2) := ⟨rfl, rfl⟩
 have HK : Hid ((c.rb n).keyedP kBlock = if (c.rb n).keyB kBlock then (c.rb n).key kBlock else ((c.rb n).key kBlock).fail 7) := rfl
 have HN : Hid (c.rb n = if n = 200 then c.fail 3 else c) := rfl
 have hgl : g < w.heap.size := B0.out.lt
 rw [HD.out] at S5
 rw [HR.out.1, HR.out.2]
 clear h hP few HD HR
 generalize (c.rb n).headC n = k3 at *
 generalize ((c.rb n).keyedP kBlock).num n n = k2 at *
 generalize (c.rb n).keyedP kBlock = k1 at *
 generalize (c.rb n).key kBlock = kk at *
 generalize hkb : (c.rb n).keyB kBlock = kb at *
 clear hkb
 generalize c.rb n = c0 at *
 unfold kBlock at S2
 go_enter Tryz.func38, Tryz.ntmps38
 go_upto_if 10 with fail
 go_cut [] from 9 to 12 (fun W => Rb w0 w W g c0 [] (.slice none 0 0) #[.slice none 0 0, .int .i64 0, .int .i64 0, .int .i64 0, .int .i64 0] #[.slice none 0 0, .int .i64 0, .int .i64 0, .int .i64 0, .int .i64 0])
 case first =>
  have hE := HN.out
  have hb2 : (n = 200) ↔ (n == 200) = true := by simp
  simp only [hb2] at hE
  clear HN hb2
  generalize (n == 200) = nb at *
  cases nb
  rotate_left
  · rw [if_pos rfl] at hE
    go_wp2_with fail
    refine (S1.out _ B0.out.rr).mono ?_
    rintro e w1 ⟨rfl, h1⟩
    have B1 := Lib.hid (B0.out.did h1)
    clear h1
    go_wp2
    go_meet
    rw [hE]
    exact B1.out
  · rw [if_neg (by decide)] at hE
    go_wp2
    go_meet
    rw [hE]
    exact B0.out
 case rest =>
 have B1 := Lib.hid hcut
 clear hcut B0 S1 HN
 go_wp2_with fail
 refine (S2.out _ B1.out.rr).mono ?_
 rintro e w2 ⟨rfl, h2⟩
 have B2 := Lib.hid (B1.out.did h2)
 clear h2 B1 S2
 go_upto_if 15 with fail
 go_cut [] from 13 to 17 (fun W => Rb w0 w W g k1 [] (.slice none 0 0) #[.slice none 0 0, .int .i64 0, .int .i64 0, .int .i64 0, .int .i64 0] #[.slice none 0 0, .int .i64 0, .int .i64 0, .int .i64 0, .int .i64 0])
 case first =>
  cases kb
  · have hE := HK.out
    rw [if_neg (by decide)] at hE
    go_wp2_with fail
    refine (S3.out _ B2.out.rr).mono ?_
    rintro e w3 ⟨rfl, h3⟩
    have B3 := Lib.hid (B2.out.did h3)
    clear h3
    go_wp2
    go_meet
    rw [hE]
    exact B3.out
  · have hE := HK.out
    rw [if_pos rfl] at hE
    go_wp2
    go_meet
    rw [hE]
    exact B2.out
 case rest =>
 have B3 := Lib.hid hcut
 clear hcut B2 S3 HK
 go_wp2_with fail
 refine (S4.out _ B3.out.rr).mono ?_
 rintro e w4 ⟨rfl, h4⟩
 have B4 := Lib.hid (B3.out.did h4)
 clear h4 B3 S4
 go_wp2_with fail
 refine (S5.out _ B4.out.rr).mono ?_
 rintro e w5 ⟨rfl, h5⟩
 have B5 := Lib.hid (B4.out.did h5)
 clear h5 B4 S5
 go_wp2
 go_loopg [] k3.wt (fun gk wr => ∃ (d : Cu) (l : List Ii) (a : Option Addr) (cap : Nat), d.wt ≤ gk ∧ l.length + d.wt ≤ 1000001 ∧ BkI k3 d l ∧ Rb w0 w wr g d l (.slice a l.length cap) #[.slice none 0 0, .int .i64 0, .int .i64 0, .int .i64 0, .int .i64 0] #[.slice a l.length cap, .int .i64 0, .int .i64 0, .int .i64 0, .int .i64 0])
 case atStart => exact ⟨k3, [], none, 0, Nat.le_refl _, by have := HF.out; have := (wt_len k3).2; simp; omega, ⟨rfl, fun _ => rfl⟩, B5.out⟩
 case round =>
  obtain ⟨d, l, a, cap, hg, hlen, hN, hB⟩ := hrel
  have HB := Lib.hid hB
  have HN := Lib.hid hN
  have hfit := Lib.hid hB.rr.fit
  have m0 := hB.e
  clear hB hN HF B5
  by_cases hf : d.fault = 0
  case neg =>
   have u0 : wr.cell? ⟨w.heap.size + 1, 0, none⟩ = some (.slice a l.length cap) := HB.out.b.cell 0
   have y0 : wr.cell? ⟨w.heap.size, 0, none⟩ = some (.slice none 0 0) := HB.out.r.cell 0
   have z0 := HB.out.r.free 0
   have u1 : wr.cell? ⟨w.heap.size + 1, 1, none⟩ = some (.int .i64 0) := HB.out.b.cell 1
   have y1 : wr.cell? ⟨w.heap.size, 1, none⟩ = some (.int .i64 0) := HB.out.r.cell 1
   have z1 := HB.out.r.free 1
   have u2 : wr.cell? ⟨w.heap.size + 1, 2, none⟩ = some (.int .i64 0) := HB.out.b.cell 2
   have y2 : wr.cell? ⟨w.heap.size, 2, none⟩ = some (.int .i64 0) := HB.out.r.cell 2
   have z2 := HB.out.r.free 2
   have u3 : wr.cell? ⟨w.heap.size + 1, 3, none⟩ = some (.int .i64 0) := HB.out.b.cell 3
   have y3 : wr.cell? ⟨w.heap.size, 3, none⟩ = some (.int .i64 0) := HB.out.r.cell 3
   have z3 := HB.out.r.free 3
   have u4 : wr.cell? ⟨w.heap.size + 1, 4, none⟩ = some (.int .i64 0) := HB.out.b.cell 4
   have y4 : wr.cell? ⟨w.heap.size, 4, none⟩ = some (.int .i64 0) := HB.out.r.cell 4
   have z4 := HB.out.r.free 4
   go_wp2
   (try simp only [Exit.inBlock, Exit.then])
   have HQ := (((((HB.out.putR 0 (.slice a l.length cap)).putR 1 (.int .i64 0)).putR 2 (.int .i64 0)).putR 3 (.int .i64 0)).putR 4 (.int .i64 0))
   refine bodyPost_ret (results_cell_row rfl _ _ w.heap.size 53 _ (0, 0) _ (by simp) HQ.r Tryz.underlying53 rfl block_size) rfl ?_
   have hE := HN.out.over hfit.out.ok hf
   rw [hE]
   exact ⟨⟨l, ⟨0, 0, 0, 0⟩⟩, a, cap, _, _, rfl, fun e => absurd e hf, HQ⟩

  have hf1 := hf
  rw [hf1] at m0
  clear hf1
  have P := Lib.hid (LN.out d _ HB.out.rr)
  cases hp : d.partP with
  | inr t =>
   have HE := Lib.hid (HN.out.ends hf hp)
   rw [hp] at P
   have E : Hid (∀ W, Rr w0 W g d.partC → _) := fun W hr => EN.out d.partC W hr
   clear hp hfit
   generalize d.partC = d1 at *
   generalize d1.end_ = d2 at *
   unfold lineV at P
   have PV : insV ⟨0, 0, 0, 0, 0, 0, [], 0⟩ none 0 = .agg #[.int .i64 0, .int .i64 0, .int .i64 0, .int .i64 0, .int .i64 0, .int .i64 0, .slice none 0 0, .int .i64 0] := rfl
   have PT : termV t = .agg #[.int .i64 t.kind, .int .i64 t.a, .int .i64 t.t0, .int .i64 t.t1] := rfl
   dsimp only at P
   rw [PV, PT] at P
   clear PV PT
   go_wp2_with fail
   refine P.out.mono ?_
   rintro e w6 ⟨rfl, h6⟩
   have B6 := Lib.hid (HB.out.did h6)
   have B6y := Lib.hid ((B6.out.alloc (.cells #[.int .i64 0, .int .i64 0, .int .i64 0, .int .i64 0, .int .i64 0, .int .i64 0, .slice none 0 0, .int .i64 0] 46)).alloc (.cells #[.int .i64 t.kind, .int .i64 t.a, .int .i64 t.t0, .int .i64 t.t1] 51))
   have HT : Hid (Blk ((w6.alloc (.cells #[.int .i64 0, .int .i64 0, .int .i64 0, .int .i64 0, .int .i64 0, .int .i64 0, .slice none 0 0, .int .i64 0] 46)).alloc (.cells #[.int .i64 t.kind, .int .i64 t.a, .int .i64 t.t0, .int .i64 t.t1] 51)) (w6.heap.size + 1) 51 #[.int .i64 t.kind, .int .i64 t.a, .int .i64 t.t0, .int .i64 t.t1]) := new_two w6 _ _ _
   have hbl : w.heap.size + 1 < w6.heap.size := B6.out.b.lt
   clear h6 P HB m0
   go_upto_region 10 with fail
   generalize (w6.alloc (.cells #[.int .i64 0, .int .i64 0, .int .i64 0, .int .i64 0, .int .i64 0, .int .i64 0, .slice none 0 0, .int .i64 0] 46)).alloc (.cells #[.int .i64 t.kind, .int .i64 t.a, .int .i64 t.t0, .int .i64 t.t1] 51) = W6 at *
   clear B6
   go_wp2_with fail
   refine (E.out _ B6y.out.rr).mono ?_
   rintro e w7 ⟨rfl, h7⟩
   have B7 := Lib.hid (B6y.out.did h7)
   have HT7 : Hid (Blk w7 (w6.heap.size + 1) 51 #[.int .i64 t.kind, .int .i64 t.a, .int .i64 t.t0, .int .i64 t.t1]) := Blk.keep HT.out h7.2 (by omega)
   clear h7 B6y HT E
   have t0 : w7.cell? ⟨w6.heap.size + 1, 0, none⟩ = some (.int .i64 t.kind) := HT7.out.cell 0
   have t1 : w7.cell? ⟨w6.heap.size + 1, 1, none⟩ = some (.int .i64 t.a) := HT7.out.cell 1
   have t2 : w7.cell? ⟨w6.heap.size + 1, 2, none⟩ = some (.int .i64 t.t0) := HT7.out.cell 2
   have t3 : w7.cell? ⟨w6.heap.size + 1, 3, none⟩ = some (.int .i64 t.t1) := HT7.out.cell 3
   have c0 : w7.cell? ⟨w.heap.size + 1, 0, none⟩ = some (.slice a l.length cap) := B7.out.b.cell 0
   have f0 := B7.out.b.free 0
   have c1 : w7.cell? ⟨w.heap.size + 1, 1, none⟩ = some (.int .i64 0) := B7.out.b.cell 1
   have f1 := B7.out.b.free 1
   have c2 : w7.cell? ⟨w.heap.size + 1, 2, none⟩ = some (.int .i64 0) := B7.out.b.cell 2
   have f2 := B7.out.b.free 2
   have c3 : w7.cell? ⟨w.heap.size + 1, 3, none⟩ = some (.int .i64 0) := B7.out.b.cell 3
   have f3 := B7.out.b.free 3
   have c4 : w7.cell? ⟨w.heap.size + 1, 4, none⟩ = some (.int .i64 0) := B7.out.b.cell 4
   have f4 := B7.out.b.free 4
   have hbt := HT7.out.lt
   have B8 := Lib.hid ((((B7.out.put 1 (.int .i64 t.kind)).put 2 (.int .i64 t.a)).put 3 (.int .i64 t.t0)).put 4 (.int .i64 t.t1))
   go_upto_region 15 with fail
   clear t0 t1 t2 t3 c0 c1 c2 c3 c4 f0 f1 f2 f3 f4 HT7 B7
   generalize ((((w7.setCell ⟨w.heap.size + 1, 1, none⟩ (.int .i64 t.kind)).setCell ⟨w.heap.size + 1, 2, none⟩ (.int .i64 t.a)).setCell ⟨w.heap.size + 1, 3, none⟩ (.int .i64 t.t0)).setCell ⟨w.heap.size + 1, 4, none⟩ (.int .i64 t.t1)) = W8 at *
   have u0 : W8.cell? ⟨w.heap.size + 1, 0, none⟩ = some (.slice a l.length cap) := B8.out.b.cell 0
   have y0 : W8.cell? ⟨w.heap.size, 0, none⟩ = some (.slice none 0 0) := B8.out.r.cell 0
   have z0 := B8.out.r.free 0
   have u1 : W8.cell? ⟨w.heap.size + 1, 1, none⟩ = some (.int .i64 t.kind) := B8.out.b.cell 1
   have y1 : W8.cell? ⟨w.heap.size, 1, none⟩ = some (.int .i64 0) := B8.out.r.cell 1
   have z1 := B8.out.r.free 1
   have u2 : W8.cell? ⟨w.heap.size + 1, 2, none⟩ = some (.int .i64 t.a) := B8.out.b.cell 2
   have y2 : W8.cell? ⟨w.heap.size, 2, none⟩ = some (.int .i64 0) := B8.out.r.cell 2
   have z2 := B8.out.r.free 2
   have u3 : W8.cell? ⟨w.heap.size + 1, 3, none⟩ = some (.int .i64 t.t0) := B8.out.b.cell 3
   have y3 : W8.cell? ⟨w.heap.size, 3, none⟩ = some (.int .i64 0) := B8.out.r.cell 3
   have z3 := B8.out.r.free 3
   have u4 : W8.cell? ⟨w.heap.size + 1, 4, none⟩ = some (.int .i64 t.t1) := B8.out.b.cell 4
   have y4 : W8.cell? ⟨w.heap.size, 4, none⟩ = some (.int .i64 0) := B8.out.r.cell 4
   have z4 := B8.out.r.free 4
   go_wp2
   (try simp only [Exit.inBlock, Exit.then])
   have HQ := (((((B8.out.putR 0 (.slice a l.length cap)).putR 1 (.int .i64 t.kind)).putR 2 (.int .i64 t.a)).putR 3 (.int .i64 t.t0)).putR 4 (.int .i64 t.t1))
   refine bodyPost_ret (results_cell_row rfl _ _ w.heap.size 53 _ (0, 0) _ (by simp) HQ.r Tryz.underlying53 rfl block_size) rfl ?_
   have hE := HE.out
   rw [hE]
   exact ⟨⟨l, t⟩, a, cap, _, _, rfl, fun _ => rfl, HQ⟩

  | inl x =>
   have HS := Lib.hid (HN.out.step hfit.out hf hp)
   have hless := wt_less hfit.out hf l.length
   have hx := partP_args hp
   have PV := insV_bare hx
   have PT : termV ⟨0, 0, 0, 0⟩ = .agg #[.int .i64 0, .int .i64 0, .int .i64 0, .int .i64 0] := rfl
   rw [hp] at P
   unfold lineV at P
   dsimp only at P
   rw [PV, PT] at P
   unfold Cu.longC at HS hless
   clear hp hfit hx PV PT HN
   generalize d.partC = d1 at *
   cases gk with
   | zero => exfalso; omega
   | succ gk =>
    go_wp2_with fail
    refine P.out.mono ?_
    rintro e w6 ⟨rfl, h6⟩
    have B6 := Lib.hid (HB.out.did h6)
    have B6y := Lib.hid ((B6.out.alloc (.cells #[.int .i64 x.op, .int .i64 x.dst, .int .i64 x.a, .int .i64 x.b, .int .i64 x.imm, .int .i64 x.callee, .slice none 0 0, .int .i64 x.many] 46)).alloc (.cells #[.int .i64 0, .int .i64 0, .int .i64 0, .int .i64 0] 51))
    have HX : Hid (Blk ((w6.alloc (.cells #[.int .i64 x.op, .int .i64 x.dst, .int .i64 x.a, .int .i64 x.b, .int .i64 x.imm, .int .i64 x.callee, .slice none 0 0, .int .i64 x.many] 46)).alloc (.cells #[.int .i64 0, .int .i64 0, .int .i64 0, .int .i64 0] 51)) w6.heap.size 46 #[.int .i64 x.op, .int .i64 x.dst, .int .i64 x.a, .int .i64 x.b, .int .i64 x.imm, .int .i64 x.callee, .slice none 0 0, .int .i64 x.many]) := (Blk.new w6 _ _).alloc _
    have hbl : w.heap.size + 1 < w6.heap.size := B6.out.b.lt
    clear h6 P HB m0
    go_upto_region 10 with fail
    generalize (w6.alloc (.cells #[.int .i64 x.op, .int .i64 x.dst, .int .i64 x.a, .int .i64 x.b, .int .i64 x.imm, .int .i64 x.callee, .slice none 0 0, .int .i64 x.many] 46)).alloc (.cells #[.int .i64 0, .int .i64 0, .int .i64 0, .int .i64 0] 51) = W6 at *
    clear B6
    have c0 : W6.cell? ⟨w.heap.size + 1, 0, none⟩ = some (.slice a l.length cap) := B6y.out.b.cell 0
    by_cases hn : l.length = 4000
    · rw [if_pos hn] at HS hless
      have hn1 : (l.length : Int) = 4000 := by omega
      have FE := Lib.hid (FL.out d1)
      have E : Hid (∀ W, Rr w0 W g (d1.fail 3) → _) := fun W hr => EN.out (d1.fail 3) W hr
      generalize d1.fail 3 = d1f at *
      generalize d1f.end_ = d2 at *
      go_wp2_with fail
      refine (FE.out _ B6y.out.rr).mono ?_
      rintro e w7 ⟨rfl, h7⟩
      have B7 := Lib.hid (B6y.out.did h7)
      have HX7 : Hid (Blk w7 w6.heap.size 46 #[.int .i64 x.op, .int .i64 x.dst, .int .i64 x.a, .int .i64 x.b, .int .i64 x.imm, .int .i64 x.callee, .slice none 0 0, .int .i64 x.many]) := Blk.keep HX.out h7.2 (by omega)
      clear h7 B6y HX FE c0 hn1 hn
      go_wp2_with fail
      refine (E.out _ B7.out.rr).mono ?_
      rintro e W8 ⟨rfl, h8⟩
      have B8 := Lib.hid (B7.out.did h8)
      have HX8 : Hid (Blk W8 w6.heap.size 46 #[.int .i64 x.op, .int .i64 x.dst, .int .i64 x.a, .int .i64 x.b, .int .i64 x.imm, .int .i64 x.callee, .slice none 0 0, .int .i64 x.many]) := Blk.keep HX7.out h8.2 (by omega)
      clear h8 B7 HX7 E
      have c0 : W8.cell? ⟨w.heap.size + 1, 0, none⟩ = some (.slice a l.length cap) := B8.out.b.cell 0
      have f0 := B8.out.b.free 0
      have x0 : W8.cell? ⟨w6.heap.size, 0, none⟩ = some (.int .i64 x.op) := HX8.out.cell 0
      have x1 : W8.cell? ⟨w6.heap.size, 1, none⟩ = some (.int .i64 x.dst) := HX8.out.cell 1
      have x2 : W8.cell? ⟨w6.heap.size, 2, none⟩ = some (.int .i64 x.a) := HX8.out.cell 2
      have x3 : W8.cell? ⟨w6.heap.size, 3, none⟩ = some (.int .i64 x.b) := HX8.out.cell 3
      have x4 : W8.cell? ⟨w6.heap.size, 4, none⟩ = some (.int .i64 x.imm) := HX8.out.cell 4
      have x5 : W8.cell? ⟨w6.heap.size, 5, none⟩ = some (.int .i64 x.callee) := HX8.out.cell 5
      have x6 : W8.cell? ⟨w6.heap.size, 6, none⟩ = some (.slice none 0 0) := HX8.out.cell 6
      have x7 : W8.cell? ⟨w6.heap.size, 7, none⟩ = some (.int .i64 x.many) := HX8.out.cell 7
      have hbl8 := B8.out.b.lt
      have hxl := HX8.out.lt
      have hsz := B8.out.k.size
      go_wp2_with (at_builtin; go_must (refine wpList_append_lies _ rfl _ _ _ rfl w.heap.size 46 i0 _ 8 80 Tryz.underlying47 hi0 hz0 hz1 hz2 rfl (by omega) (.slice a l.length cap) l.length (l.flatMap inC) rfl (World.ownsRow.alloc B8.out.row _) ⟨W8.heap.size, 0, none⟩ 1 1 (inC x) rfl rfl (World.news_of_block (heap_alloc_new W8 _)) (inC_one x) (by omega) (by simp only [maxLen]; omega) (by omega) (by simp; omega) (W8.heap.size + 1) (by simp) ?_; intro gg cap4 w9 hown4 hgrow hat hlt4; have hB4 := (Rb.growA B8.out hgrow hown4); have q1 : w9.cell? ⟨w.heap.size + 1, 0, none⟩ = some (.slice a l.length cap) := (by exact hB4.b.cell 0); have f1 : w9.frozen? ⟨w.heap.size + 1, 0, none⟩ = false := (by exact hB4.b.free 0)))
      have B9 := Lib.hid (hB4.put 0 (.slice (some ⟨gg, 0, none⟩) (l.length + 1) cap4))
      clear hown4 hgrow hat hlt4 hB4 q1 f1 x0 x1 x2 x3 x4 x5 x6 x7 c0 f0 hbl8 hxl hsz B8 HX8
      (try go_wp2)
      go_roundg gk
      case measure => omega
      case rel => exact ⟨d2, l ++ [x], some ⟨gg, 0, none⟩, cap4, by omega, by simp; omega, HS.out, by simpa using B9.out⟩

    · rw [if_neg hn] at HS hless
      have hn1 : ¬ (l.length : Int) = 4000 := by omega
      have E : Hid (∀ W, Rr w0 W g d1 → _) := fun W hr => EN.out d1 W hr
      generalize d1.end_ = d2 at *
      go_wp2_with fail
      refine (E.out _ B6y.out.rr).mono ?_
      rintro e W8 ⟨rfl, h8⟩
      have B8 := Lib.hid (B6y.out.did h8)
      have HX8 : Hid (Blk W8 w6.heap.size 46 #[.int .i64 x.op, .int .i64 x.dst, .int .i64 x.a, .int .i64 x.b, .int .i64 x.imm, .int .i64 x.callee, .slice none 0 0, .int .i64 x.many]) := Blk.keep HX.out h8.2 (by omega)
      clear h8 B6y HX E c0 hn1 hn
      have c0 : W8.cell? ⟨w.heap.size + 1, 0, none⟩ = some (.slice a l.length cap) := B8.out.b.cell 0
      have f0 := B8.out.b.free 0
      have x0 : W8.cell? ⟨w6.heap.size, 0, none⟩ = some (.int .i64 x.op) := HX8.out.cell 0
      have x1 : W8.cell? ⟨w6.heap.size, 1, none⟩ = some (.int .i64 x.dst) := HX8.out.cell 1
      have x2 : W8.cell? ⟨w6.heap.size, 2, none⟩ = some (.int .i64 x.a) := HX8.out.cell 2
      have x3 : W8.cell? ⟨w6.heap.size, 3, none⟩ = some (.int .i64 x.b) := HX8.out.cell 3
      have x4 : W8.cell? ⟨w6.heap.size, 4, none⟩ = some (.int .i64 x.imm) := HX8.out.cell 4
      have x5 : W8.cell? ⟨w6.heap.size, 5, none⟩ = some (.int .i64 x.callee) := HX8.out.cell 5
      have x6 : W8.cell? ⟨w6.heap.size, 6, none⟩ = some (.slice none 0 0) := HX8.out.cell 6
      have x7 : W8.cell? ⟨w6.heap.size, 7, none⟩ = some (.int .i64 x.many) := HX8.out.cell 7
      have hbl8 := B8.out.b.lt
      have hxl := HX8.out.lt
      have hsz := B8.out.k.size
      go_wp2_with (at_builtin; go_must (refine wpList_append_lies _ rfl _ _ _ rfl w.heap.size 46 i0 _ 8 80 Tryz.underlying47 hi0 hz0 hz1 hz2 rfl (by omega) (.slice a l.length cap) l.length (l.flatMap inC) rfl (World.ownsRow.alloc B8.out.row _) ⟨W8.heap.size, 0, none⟩ 1 1 (inC x) rfl rfl (World.news_of_block (heap_alloc_new W8 _)) (inC_one x) (by omega) (by simp only [maxLen]; omega) (by omega) (by simp; omega) (W8.heap.size + 1) (by simp) ?_; intro gg cap4 w9 hown4 hgrow hat hlt4; have hB4 := (Rb.growA B8.out hgrow hown4); have q1 : w9.cell? ⟨w.heap.size + 1, 0, none⟩ = some (.slice a l.length cap) := (by exact hB4.b.cell 0); have f1 : w9.frozen? ⟨w.heap.size + 1, 0, none⟩ = false := (by exact hB4.b.free 0)))
      have B9 := Lib.hid (hB4.put 0 (.slice (some ⟨gg, 0, none⟩) (l.length + 1) cap4))
      clear hown4 hgrow hat hlt4 hB4 q1 f1 x0 x1 x2 x3 x4 x5 x6 x7 c0 f0 hbl8 hxl hsz B8 HX8
      (try go_wp2)
      go_roundg gk
      case measure => omega
      case rel => exact ⟨d2, l ++ [x], some ⟨gg, 0, none⟩, cap4, by omega, by simp; omega, HS.out, by simpa using B9.out⟩
end Go.Proofs.YtbjmbahpcoanoaaGreatDoor
namespace Go.Proofs.YtbjmbahpcoanoaaGreatDoor
open Go.RowKit

theorem within_any (r lo hi : Int) (w : World) : Calls Tryz.prog 165 #[.int .i32 r, .int .i32 lo, .int .i32 hi] w fun e w' => e = .returned (.bool (decide (lo ≤ r ∧ r ≤ hi))) ∧ w = w' := by
 by_cases h : lo ≤ r
 all_goals
  go_enter Tryz.func165, Tryz.ntmps165
  go_wp2
  go_ret
  refine ⟨ret_bool ?_, rfl⟩
  simp
  try omega
theorem rdigit_any (r : Int) (w : World) : Calls Tryz.prog 166 #[.int .i32 r] w fun e w' => e = .returned (.bool (digitB r)) ∧ w = w' := by
 go_enter Tryz.func166, Tryz.ntmps166
 go_wp2_with fail
 refine (within_any _ _ _ _).mono ?_
 rintro e w1 ⟨rfl, rfl⟩
 go_wp2
 go_ret
 refine ⟨ret_bool ?_, rfl⟩
 simp [digitB]
theorem rletter_any (r : Int) (w : World) : Calls Tryz.prog 122 #[.int .i32 r] w fun e w' => e = .returned (.bool (letterB r)) ∧ w = w' := by
 cases h1 : decide (97 ≤ r ∧ r ≤ 122)
 · cases h2 : decide (945 ≤ r ∧ r ≤ 969)
   · go_enter Tryz.func122, Tryz.ntmps122
     go_wp2_with fail
     refine (within_any _ _ _ _).mono ?_
     rintro e w1 ⟨rfl, rfl⟩
     rw [h1]
     go_wp2_with fail
     refine (within_any _ _ _ _).mono ?_
     rintro e w1 ⟨rfl, rfl⟩
     rw [h2]
     go_wp2
     go_ret
     refine ⟨ret_bool ?_, rfl⟩
     simp at h1 h2 ⊢
     simp [letterB]
     omega
   · go_enter Tryz.func122, Tryz.ntmps122
     go_wp2_with fail
     refine (within_any _ _ _ _).mono ?_
     rintro e w1 ⟨rfl, rfl⟩
     rw [h1]
     go_wp2_with fail
     refine (within_any _ _ _ _).mono ?_
     rintro e w1 ⟨rfl, rfl⟩
     rw [h2]
     go_wp2
     go_ret
     refine ⟨ret_bool ?_, rfl⟩
     simp at h1 h2 ⊢
     simp [letterB]
     omega
 · go_enter Tryz.func122, Tryz.ntmps122
   go_wp2_with fail
   refine (within_any _ _ _ _).mono ?_
   rintro e w1 ⟨rfl, rfl⟩
   rw [h1]
   go_wp2
   go_ret
   refine ⟨ret_bool ?_, rfl⟩
   simp at h1 ⊢
   simp [letterB]
   omega
end Go.Proofs.YtbjmbahpcoanoaaGreatDoor
