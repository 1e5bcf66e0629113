/-
  What IrParts answers, for whatever instruction and end lie in memory. No condition beyond those that each theorem states.
-/
import Derived.Test.YtgpbpbhidemciaaGreatIrPl
import Derived.Test.YtgpbpbhidemciaaGreatIrPc
import Derived.Test.YtgpbpbhidemciaaGreatIrAw
import Derived.Deep.RegionHeld3
import Derived.Deep.CutRange
namespace Go.Proofs.YtgpbpbhidemciaaGreat
open Go.RowKit

theorem two_boxes (w : World) (x : Ii) (a : Option Addr) (c : Nat) (t : Tt) : Blk ((w.alloc (.cells (insC x a c) 25)).alloc (.cells (termC t) 30)) w.heap.size 25 (insC x a c) ∧
    Blk ((w.alloc (.cells (insC x a c) 25)).alloc (.cells (termC t) 30)) (w.heap.size + 1) 30 (termC t) ∧ Below w.heap.size w ((w.alloc (.cells (insC x a c) 25)).alloc (.cells (termC t) 30)) := by
  have h := Blk.new (w.alloc (.cells (insC x a c) 25)) 30 (termC t)
  have e : (w.alloc (.cells (insC x a c) 25)).heap.size = w.heap.size + 1 := by simp
  rw [e] at h
  exact ⟨(Blk.new w _ _).alloc _, h, ((Below.refl _ w).alloc (Nat.le_refl _) _).alloc (by simp) _⟩
theorem rel_below {B : Nat} {w0 w w' : World} (h : Below B w0 w) (hB : B ≤ w0.heap.size) (h2 : Below w.heap.size w w') : Below B w0 w' := h.trans (h2.mono (Nat.le_trans hB h.size))
theorem rel_own {W2 W : World} {l : List Int} {F : Nat} {A : Array Value} (h : Calls Tryz.prog F A W fun e w' => ∃ v, e = .returned v ∧ OwnI w' W.heap.size v l ∧ Below W.heap.size W w') (hb : Below W2.heap.size W2 W) :
    Calls Tryz.prog F A W fun e w' => ∃ v k, e = .returned (.slice v l.length k) ∧ OwnI w' W2.heap.size (.slice v l.length k) l ∧ Below W2.heap.size W2 w' ∧ ∀ b u m, OwnI W b u m → OwnI w' b u m :=
  h.mono fun e w' ⟨v, he, ho, h2⟩ => by
    obtain ⟨a, c, rfl, _, _⟩ := OwnI.shape ho
    exact ⟨a, c, he, own_base ho hb.size, rel_below hb (Nat.le_refl _) h2, fun b u m hu => own_keep hu ⟨h2.size, fun k _ hk => h2.block k hk⟩⟩
theorem rel_val {W2 W : World} {r : Value} {F : Nat} {A : Array Value} (h : Calls Tryz.prog F A W fun e w' => e = .returned r ∧ Below W.heap.size W w') (hb : Below W2.heap.size W2 W) :
    Calls Tryz.prog F A W fun e w' => e = .returned r ∧ Below W2.heap.size W2 w' := h.mono fun _ _ ⟨he, h2⟩ => ⟨he, rel_below hb (Nat.le_refl _) h2⟩
theorem ints_left {w : World} {a : Option Addr} {l m : List Int} (h : IntsW w a (l ++ m)) : IntsW w a l := fun k x hx => h k x (by rw [List.getElem?_append_left (List.getElem?_eq_some_iff.1 hx).1]; exact hx)
theorem reads_len (x : Ii) : (readsL x).length ≤ x.args.length + 2 := by
  unfold readsL
  split
  · refine Nat.le_trans (List.length_filter_le _ _) ?_
    simp
  · simp
theorem needs_len (t : Tt) : (needsL t).length ≤ 1 := by
  unfold needsL
  split
  · exact List.length_filter_le _ _
  · simp
theorem own_keeps {w w' : World} {b : Nat} {v : Value} {l : List Int} (h : OwnI w b v l) (h2 : Below w.heap.size w w') : OwnI w' b v l := own_keep h ⟨h2.size, fun k _ hk => h2.block k hk⟩
theorem row_ints {w : World} {b g cap : Nat} {l m : List Int} (h : OwnI w b (.slice (some ⟨g, 0, none⟩) (l.length + m.length) cap) (l ++ m)) : IntsW w (some ⟨g, 0, none⟩) (l ++ m) := by
  unfold OwnI at h
  rw [List.length_append] at h
  exact IntsW.own h
/-- The beginning of a row that is owned. -/
theorem own_prefix {w : World} {b g cap : Nat} {l m : List Int} (h : OwnI w b (.slice (some ⟨g, 0, none⟩) (l.length + m.length) cap) (l ++ m)) : OwnI w b (.slice (some ⟨g, 0, none⟩) l.length cap) l := by
  obtain ⟨h1, h2⟩ := h
  refine ⟨by simp, ?_⟩
  rcases h2 with ⟨h2, _⟩ | ⟨g2, cap2, cur2, e2, hB2, hh2, hle2, hmax2, hsz2, htk2⟩
  · cases h2
  injection e2 with e21 e22 e23
  injection e21 with e21
  injection e21 with e21
  subst e21
  subst e23
  refine .inr ⟨g, cap, cur2, rfl, hB2, hh2, by rw [List.length_append] at hle2; omega, hmax2, hsz2, ?_⟩
  have := congrArg (List.take (l.length * 1)) htk2
  rw [List.take_take, List.map_append, List.take_left' (by simp)] at this
  rw [← this]
  congr 1
  simp
def threeV (a b c : Value) (k : Nat) : Value := if k = 0 then a else if k = 1 then b else c
def threeL (a b c : List Int) (k : Nat) : List Int := if k = 0 then a else if k = 1 then b else c
theorem three_rows {w : World} {B : Nat} {u v z : Value} {l m n : List Int} (h0 : OwnI w B u l) (h1 : OwnI w B v m) (h2 : OwnI w B z n) (f01 : Off u v) (f02 : Off u z) (f12 : Off v z) : Rows w B 3 (threeV u v z) (threeL l m n) := by
  refine ⟨fun k hk => ?_, fun i k hi hk hne => ?_⟩
  · match k, hk with
    | 0, _ => exact h0
    | 1, _ => exact h1
    | 2, _ => exact h2
  · match i, k, hi, hk, hne with
    | 0, 0, _, _, h => exact absurd rfl h
    | 0, 1, _, _, _ => exact f01
    | 0, 2, _, _, _ => exact f02
    | 1, 0, _, _, _ => exact f01.symm
    | 1, 1, _, _, h => exact absurd rfl h
    | 1, 2, _, _, _ => exact f12
    | 2, 0, _, _, _ => exact f02.symm
    | 2, 1, _, _, _ => exact f12.symm
    | 2, 2, _, _, h => exact absurd rfl h
set_option maxHeartbeats 4000000 in
set_option maxRecDepth 100000 in
theorem parts_any (x : Ii) (a : Option Addr) (c : Nat) (t : Tt) (w : World) (_hl : x.args.length ≤ 140737488355328) (hn : a = none → c = 0) (hI : IntsW w a x.args) :
    Calls Tryz.prog 4 #[insV x a c, termV t] w fun e w' => e = .returned (.bool true) ∧ Below w.heap.size w w' := by
  obtain ⟨hX, hT, hW⟩ := two_boxes w x a c t
  have HX := Lib.hid hX
  have HT := Lib.hid hT
  have HW := Lib.hid hW
  have HI := Lib.hid (hI.below hW)
  clear hX hT hW hI
  have HL := fun h => Lib.hid (lentInts_any x.args a c ((w.alloc (.cells (insC x a c) 25)).alloc (.cells (termC t) 30)) h hn HI.out)
  unfold insV termV
  go_enter Tryz.func4, Tryz.ntmps4
  by_cases hbig : 700 < x.args.length
  · have h1 : (700 : Int) < x.args.length := by omega
    clear HL
    go_wp2_with fail
    refine (awakeI_any _).mono ?_
    rintro e w1 ⟨rfl, hb1⟩
    have HW1 : Hid (Below w.heap.size w w1) := Lib.hid (HW.out.trans (hb1.mono HW.out.size))
    clear hb1
    go_wp2
    go_ret
    exact ⟨rfl, HW1.out⟩
  · have h1 : ¬ (700 : Int) < x.args.length := by omega
    have HL := HL (by omega)
    go_wp2_with fail
    refine HL.out.mono ?_
    rintro e w1 ⟨g, cap, rfl, hcap, hcapm, hown, hb1⟩
    have HX1 := Lib.hid (HX.out.below hb1 HX.out.lt)
    have HT1 := Lib.hid (HT.out.below hb1 HT.out.lt)
    have HW1 : Hid (Below w.heap.size w w1) := Lib.hid (HW.out.trans (hb1.mono HW.out.size))
    have HI1 := Lib.hid (HI.out.below hb1)
    have HO1 := Lib.hid (own_base hown HW.out.size)
    clear hb1 hown HX HT HW HI HL
    obtain ⟨c0, c1, c2, c3, c4, c5, c6, c7⟩ := box8 HX1.out
    go_wp2_with fail
    clear c0 c1 c2 c3 c4 c5 c6 c7
    have hm12 : (markL 1 12).length = 12 := mark_len _ _
    have HM := Lib.hid (show OwnI w1 w.heap.size (.slice (some ⟨g, 0, none⟩) (x.args.length + (markL 1 12).length) cap) (x.args ++ markL 1 12) from by rw [hm12]; exact HO1.out)
    have HX2 : Hid (Blk (w1.alloc (.cells (insC x (some ⟨g, 0, none⟩) cap) 25)) w1.heap.size 25 (insC x (some ⟨g, 0, none⟩) cap)) := Lib.hid (Blk.new w1 _ _)
    have HA2 : Hid (Blk (w1.alloc (.cells (insC x (some ⟨g, 0, none⟩) cap) 25)) w.heap.size 25 (insC x a c)) := Lib.hid (HX1.out.alloc _)
    have HT2 : Hid (Blk (w1.alloc (.cells (insC x (some ⟨g, 0, none⟩) cap) 25)) (w.heap.size + 1) 30 (termC t)) := Lib.hid (HT1.out.alloc _)
    have HW2 : Hid (Below w.heap.size w (w1.alloc (.cells (insC x (some ⟨g, 0, none⟩) cap) 25))) := Lib.hid (HW1.out.alloc HW1.out.size _)
    have HI2 : Hid (IntsW (w1.alloc (.cells (insC x (some ⟨g, 0, none⟩) cap) 25)) a x.args) := Lib.hid (HI1.out.below ((Below.refl _ _).alloc (Nat.le_refl _) _))
    have HO2 : Hid (OwnI (w1.alloc (.cells (insC x (some ⟨g, 0, none⟩) cap) 25)) w.heap.size (.slice (some ⟨g, 0, none⟩) (x.args.length + (markL 1 12).length) cap) (x.args ++ markL 1 12)) := Lib.hid (World.ownsRow.alloc HM.out _)
    have HG2 : Hid (w1.heap.size < (w1.alloc (.cells (insC x (some ⟨g, 0, none⟩) cap) 25)).heap.size) := Lib.hid (by simp)
    clear HX1 HT1 HW1 HI1 HO1 HM
    clear hcapm h1
    change Code.wp _ _ _ _ (w1.alloc (.cells (insC x (some ⟨g, 0, none⟩) cap) 25))
    generalize w1.alloc (.cells (insC x (some ⟨g, 0, none⟩) cap) 25) = W2 at HX2 HA2 HT2 HW2 HI2 HO2 HG2 ⊢
    generalize w1.heap.size = X2 at HX2 HG2 ⊢
    generalize hTB : w.heap.size + 1 = TB at HT2 ⊢
    obtain ⟨a0, a1, a2, a3, a4, a5, a6, a7⟩ := box8 HX2.out
    obtain ⟨t0, t1, t2, t3⟩ := box4i HT2.out
    have HS : Hid (∀ W, Below W2.heap.size W2 W → Blk W X2 25 (insC x (some ⟨g, 0, none⟩) cap) ∧ Blk W w.heap.size 25 (insC x a c) ∧ Blk W TB 30 (termC t) ∧ IntsW W a x.args ∧ IntsW W (some ⟨g, 0, none⟩) (x.args ++ markL 1 12)) := Lib.hid fun W h =>
      ⟨HX2.out.below h HX2.out.lt, HA2.out.below h HA2.out.lt, HT2.out.below h HT2.out.lt, HI2.out.below h, (row_ints HO2.out).below h⟩
    have HL9 : Hid (x.args.length ≤ 140737488355328) := Lib.hid (by omega)
    have CR : Hid (∀ W, Below W2.heap.size W2 W → Calls Tryz.prog 10 #[insV x (some ⟨g, 0, none⟩) cap] W fun e w' => ∃ v k, e = .returned (.slice v (readsL x).length k) ∧ OwnI w' W2.heap.size (.slice v (readsL x).length k) (readsL x) ∧ Below W2.heap.size W2 w' ∧ ∀ b u m, OwnI W b u m → OwnI w' b u m) := Lib.hid fun W h =>
      rel_own (reads_any x _ cap W HL9.out (by simp) (ints_left (HS.out W h).2.2.2.2)) h
    have CN : Hid (∀ W, Below W2.heap.size W2 W → Calls Tryz.prog 11 #[termV t] W fun e w' => ∃ v k, e = .returned (.slice v (needsL t).length k) ∧ OwnI w' W2.heap.size (.slice v (needsL t).length k) (needsL t) ∧ Below W2.heap.size W2 w' ∧ ∀ b u m, OwnI W b u m → OwnI w' b u m) := Lib.hid fun W h =>
      rel_own (needs_any t W) h
    have CT : Hid (∀ W, Below W2.heap.size W2 W → Calls Tryz.prog 12 #[termV t] W fun e w' => ∃ v k, e = .returned (.slice v (toL t).length k) ∧ OwnI w' W2.heap.size (.slice v (toL t).length k) (toL t) ∧ Below W2.heap.size W2 w' ∧ ∀ b u m, OwnI W b u m → OwnI w' b u m) := Lib.hid fun W h =>
      rel_own (to_any t W) h
    unfold insV at CR
    unfold termV at CN CT
    go_region_held3 (fun w' => Below W2.heap.size W2 w' ∧ w'.cell? ⟨X2, 0, none⟩ = some (.int .i64 x.op) ∧ w'.cell? ⟨X2, 1, none⟩ = some (.int .i64 x.dst) ∧ w'.cell? ⟨X2, 2, none⟩ = some (.int .i64 x.a) ∧ w'.cell? ⟨X2, 3, none⟩ = some (.int .i64 x.b) ∧ w'.cell? ⟨X2, 4, none⟩ = some (.int .i64 x.imm) ∧ w'.cell? ⟨X2, 5, none⟩ = some (.int .i64 x.callee) ∧ w'.cell? ⟨X2, 6, none⟩ = some (.slice (some ⟨g, 0, none⟩) x.args.length cap) ∧ w'.cell? ⟨X2, 7, none⟩ = some (.int .i64 x.many) ∧ w'.cell? ⟨TB, 0, none⟩ = some (.int .i64 t.kind) ∧ w'.cell? ⟨TB, 1, none⟩ = some (.int .i64 t.a) ∧ w'.cell? ⟨TB, 2, none⟩ = some (.int .i64 t.t0) ∧ w'.cell? ⟨TB, 3, none⟩ = some (.int .i64 t.t1))
      (first
        | exact ⟨hb3, box8 (HS.out _ hb3).1 |>.1, (box8 (HS.out _ hb3).1).2.1, (box8 (HS.out _ hb3).1).2.2.1, (box8 (HS.out _ hb3).1).2.2.2.1, (box8 (HS.out _ hb3).1).2.2.2.2.1, (box8 (HS.out _ hb3).1).2.2.2.2.2.1, (box8 (HS.out _ hb3).1).2.2.2.2.2.2.1, (box8 (HS.out _ hb3).1).2.2.2.2.2.2.2, (box4i (HS.out _ hb3).2.2.1).1, (box4i (HS.out _ hb3).2.2.1).2.1, (box4i (HS.out _ hb3).2.2.1).2.2.1, (box4i (HS.out _ hb3).2.2.1).2.2.2⟩
        | exact ⟨(Below.refl _ _).drew, a0, a1, a2, a3, a4, a5, a6, a7, t0, t1, t2, t3⟩)
      (first
        | (go_at_call 10; refine (CR.out _ (by go_split_ands; assumption)).mono ?_; rintro e w3 ⟨va, ca, rfl, hoa, hb3, hk3⟩)
        | (go_at_call 11; refine (CN.out _ (by go_split_ands; assumption)).mono ?_; rintro e w4 ⟨vb, cb, rfl, hob, hb3, hk4⟩)
        | (go_at_call 12; refine (CT.out _ (by go_split_ands; assumption)).mono ?_; rintro e w5 ⟨vc, cc, rfl, hoc, hb3, hk5⟩))
    clear a0 a1 a2 a3 a4 a5 a6 a7 t0 t1 t2 t3
    rename_i hHeld
    clear hHeld
    have HRa := Lib.hid (hk5 _ _ _ (hk4 _ _ _ hoa))
    have HRb := Lib.hid (hk5 _ _ _ hob)
    have HRc := Lib.hid hoc
    have HB5 := Lib.hid hb3
    clear hoa hob hoc hk3 hk4 hk5 hb3
    obtain ⟨a0, a1, a2, a3, a4, a5, a6, a7⟩ := box8 (HS.out _ HB5.out).1
    have CQ := Lib.hid (rel_own (reads_any x _ cap w5 HL9.out (by simp) (ints_left (HS.out w5 HB5.out).2.2.2.2)) (Below.refl _ w5))
    unfold insV at CQ
    clear CR CN CT
    go_wp2_with fail
    refine CQ.out.mono ?_
    rintro e w6 ⟨vd, cd, rfl, hod, hb6, hk6⟩
    have HRd := Lib.hid hod
    have HR6 := Lib.hid (hk6 _ _ _ HRa.out)
    have HRb6 := Lib.hid (hk6 _ _ _ HRb.out)
    have HRc6 := Lib.hid (hk6 _ _ _ HRc.out)
    have HB6 : Hid (Below W2.heap.size W2 w6) := Lib.hid (rel_below HB5.out (Nat.le_refl _) hb6)
    have HZ5 : Hid (W2.heap.size ≤ w5.heap.size ∧ ∀ k, (Value.slice va (readsL x).length ca).ownBlock = some k → k < w5.heap.size) := Lib.hid ⟨HB5.out.size, fun k hk => (World.ownsRow.lt HRa.out k hk).2⟩
    have HZ : Hid (∀ W, Below w6.heap.size w6 W → Blk W X2 25 (insC x (some ⟨g, 0, none⟩) cap) ∧ Blk W w.heap.size 25 (insC x a c) ∧ Blk W TB 30 (termC t) ∧ IntsW W a x.args ∧ IntsW W (some ⟨g, 0, none⟩) (x.args ++ markL 1 12)) := Lib.hid fun W h =>
      HS.out W (rel_below HB6.out (Nat.le_refl _) h)
    clear hod hb6 hk6 HRa HRb HRc HB5 CQ a0 a1 a2 a3 a4 a5 a6 a7
    have CA1 : Hid (∀ W, Below w6.heap.size w6 W → Calls Tryz.prog 13 #[insV x (some ⟨g, 0, none⟩) cap] W fun e w' => e = .returned (.bool (isInsB x)) ∧ Below w6.heap.size w6 w') := Lib.hid fun W h =>
      rel_val (isIns_any x _ cap W HL9.out (ints_left (HZ.out W h).2.2.2.2)) h
    have CA2 : Hid (∀ W, Below w6.heap.size w6 W → Calls Tryz.prog 14 #[insV x a c] W fun e w' => e = .returned (.bool (isInsB x)) ∧ Below w6.heap.size w6 w') := Lib.hid fun W h =>
      rel_val (risIns_any x a c W HL9.out (HZ.out W h).2.2.2.1) h
    have CB1 : Hid (∀ W, Below w6.heap.size w6 W → Calls Tryz.prog 15 #[termV t] W fun e w' => e = .returned (.bool (isTermB t)) ∧ Below w6.heap.size w6 w') := Lib.hid fun W h =>
      rel_val (isTerm_any t W) h
    have CB2 : Hid (∀ W, Below w6.heap.size w6 W → Calls Tryz.prog 16 #[termV t] W fun e w' => e = .returned (.bool (isTermB t)) ∧ Below w6.heap.size w6 w') := Lib.hid fun W h =>
      rel_val (risTerm_any t W) h
    have CD1 : Hid (∀ W, Below w6.heap.size w6 W → Calls Tryz.prog 19 #[insV x (some ⟨g, 0, none⟩) cap] W fun e w' => e = .returned (.int .i64 (definesN x)) ∧ Below w6.heap.size w6 w') := Lib.hid fun W h =>
      rel_val (defines_any x _ cap W HL9.out (ints_left (HZ.out W h).2.2.2.2)) h
    have CD2 : Hid (∀ W, Below w6.heap.size w6 W → Calls Tryz.prog 20 #[insV x a c] W fun e w' => e = .returned (.int .i64 (definesN x)) ∧ Below w6.heap.size w6 w') := Lib.hid fun W h =>
      rel_val (rdefines_any x a c W HL9.out (HZ.out W h).2.2.2.1) h
    have CR2 : Hid (∀ W, Below w6.heap.size w6 W → Calls Tryz.prog 18 #[insV x a c] W fun e w' => ∃ v k, e = .returned (.slice v (readsL x).length k) ∧ OwnI w' w6.heap.size (.slice v (readsL x).length k) (readsL x) ∧ Below w6.heap.size w6 w' ∧ ∀ b u m, OwnI W b u m → OwnI w' b u m) := Lib.hid fun W h =>
      rel_own (rreads_any x a c W HL9.out hn (HZ.out W h).2.2.2.1) h
    have CN2 : Hid (∀ W, Below w6.heap.size w6 W → Calls Tryz.prog 21 #[termV t] W fun e w' => ∃ v k, e = .returned (.slice v (needsL t).length k) ∧ OwnI w' w6.heap.size (.slice v (needsL t).length k) (needsL t) ∧ Below w6.heap.size w6 w' ∧ ∀ b u m, OwnI W b u m → OwnI w' b u m) := Lib.hid fun W h =>
      rel_own (rneeds_any t W) h
    have CT2 : Hid (∀ W, Below w6.heap.size w6 W → Calls Tryz.prog 22 #[termV t] W fun e w' => ∃ v k, e = .returned (.slice v (toL t).length k) ∧ OwnI w' w6.heap.size (.slice v (toL t).length k) (toL t) ∧ Below w6.heap.size w6 w' ∧ ∀ b u m, OwnI W b u m → OwnI w' b u m) := Lib.hid fun W h =>
      rel_own (rto_any t W) h
    have CS1 : Hid (∀ W va2 ca2, Below w6.heap.size w6 W → OwnI W w6.heap.size (.slice va2 (readsL x).length ca2) (readsL x) → Calls Tryz.prog 17 #[.slice va (readsL x).length ca, .slice va2 (readsL x).length ca2] W fun e w' => e = .returned (.bool true) ∧ Below w6.heap.size w6 w') := Lib.hid fun W va2 ca2 h ho => by
      have h1 := sameInts_any (readsL x) (readsL x) va va2 ca ca2 W (by have := reads_len x; omega) (by have := reads_len x; omega) ((IntsW.own HR6.out).below h) (IntsW.own ho)
      rw [decide_eq_true rfl] at h1
      exact rel_val h1 h
    have CS2 : Hid (∀ W va2 ca2, Below w6.heap.size w6 W → OwnI W w6.heap.size (.slice va2 (needsL t).length ca2) (needsL t) → Calls Tryz.prog 17 #[.slice vb (needsL t).length cb, .slice va2 (needsL t).length ca2] W fun e w' => e = .returned (.bool true) ∧ Below w6.heap.size w6 w') := Lib.hid fun W va2 ca2 h ho => by
      have h1 := sameInts_any (needsL t) (needsL t) vb va2 cb ca2 W (by have := needs_len t; omega) (by have := needs_len t; omega) ((IntsW.own HRb6.out).below h) (IntsW.own ho)
      rw [decide_eq_true rfl] at h1
      exact rel_val h1 h
    have CS3 : Hid (∀ W va2 ca2, Below w6.heap.size w6 W → OwnI W w6.heap.size (.slice va2 (toL t).length ca2) (toL t) → Calls Tryz.prog 17 #[.slice vc (toL t).length cc, .slice va2 (toL t).length ca2] W fun e w' => e = .returned (.bool true) ∧ Below w6.heap.size w6 w') := Lib.hid fun W va2 ca2 h ho => by
      have h1 := sameInts_any (toL t) (toL t) vc va2 cc ca2 W (by have := toL_few t; omega) (by have := toL_few t; omega) ((IntsW.own HRc6.out).below h) (IntsW.own ho)
      rw [decide_eq_true rfl] at h1
      exact rel_val h1 h
    unfold insV at CA1 CA2 CD1 CD2 CR2
    unfold termV at CB1 CB2 CN2 CT2
    generalize isInsB x = q1 at CA1 CA2
    generalize isTermB t = q2 at CB1 CB2
    generalize definesN x = q3 at CD1 CD2
    have e1 : (q1 == q1) = true := by simp
    have e2 : (q2 == q2) = true := by simp
    have e3 : (q3 == q3) = true := by simp
    go_upto_region 8 with fail
    go_cut [11] from 31 to 67 (fun v W => v = .bool true ∧ Below w6.heap.size w6 W)
    case first =>
      go_region_held3 (fun w' => Below w6.heap.size w6 w' ∧ w'.cell? ⟨X2, 0, none⟩ = some (.int .i64 x.op) ∧ w'.cell? ⟨X2, 1, none⟩ = some (.int .i64 x.dst) ∧ w'.cell? ⟨X2, 2, none⟩ = some (.int .i64 x.a) ∧ w'.cell? ⟨X2, 3, none⟩ = some (.int .i64 x.b) ∧ w'.cell? ⟨X2, 4, none⟩ = some (.int .i64 x.imm) ∧ w'.cell? ⟨X2, 5, none⟩ = some (.int .i64 x.callee) ∧ w'.cell? ⟨X2, 6, none⟩ = some (.slice (some ⟨g, 0, none⟩) x.args.length cap) ∧ w'.cell? ⟨X2, 7, none⟩ = some (.int .i64 x.many) ∧ w'.cell? ⟨w.heap.size, 0, none⟩ = some (.int .i64 x.op) ∧ w'.cell? ⟨w.heap.size, 1, none⟩ = some (.int .i64 x.dst) ∧ w'.cell? ⟨w.heap.size, 2, none⟩ = some (.int .i64 x.a) ∧ w'.cell? ⟨w.heap.size, 3, none⟩ = some (.int .i64 x.b) ∧ w'.cell? ⟨w.heap.size, 4, none⟩ = some (.int .i64 x.imm) ∧ w'.cell? ⟨w.heap.size, 5, none⟩ = some (.int .i64 x.callee) ∧ w'.cell? ⟨w.heap.size, 6, none⟩ = some (.slice a x.args.length c) ∧ w'.cell? ⟨w.heap.size, 7, none⟩ = some (.int .i64 x.many) ∧ w'.cell? ⟨TB, 0, none⟩ = some (.int .i64 t.kind) ∧ w'.cell? ⟨TB, 1, none⟩ = some (.int .i64 t.a) ∧ w'.cell? ⟨TB, 2, none⟩ = some (.int .i64 t.t0) ∧ w'.cell? ⟨TB, 3, none⟩ = some (.int .i64 t.t1))
        (first
          | exact ⟨hb7, (box8 (HZ.out _ hb7).1).1, (box8 (HZ.out _ hb7).1).2.1, (box8 (HZ.out _ hb7).1).2.2.1, (box8 (HZ.out _ hb7).1).2.2.2.1, (box8 (HZ.out _ hb7).1).2.2.2.2.1, (box8 (HZ.out _ hb7).1).2.2.2.2.2.1, (box8 (HZ.out _ hb7).1).2.2.2.2.2.2.1, (box8 (HZ.out _ hb7).1).2.2.2.2.2.2.2, (box8 (HZ.out _ hb7).2.1).1, (box8 (HZ.out _ hb7).2.1).2.1, (box8 (HZ.out _ hb7).2.1).2.2.1, (box8 (HZ.out _ hb7).2.1).2.2.2.1, (box8 (HZ.out _ hb7).2.1).2.2.2.2.1, (box8 (HZ.out _ hb7).2.1).2.2.2.2.2.1, (box8 (HZ.out _ hb7).2.1).2.2.2.2.2.2.1, (box8 (HZ.out _ hb7).2.1).2.2.2.2.2.2.2, (box4i (HZ.out _ hb7).2.2.1).1, (box4i (HZ.out _ hb7).2.2.1).2.1, (box4i (HZ.out _ hb7).2.2.1).2.2.1, (box4i (HZ.out _ hb7).2.2.1).2.2.2⟩
          | exact ⟨((Below.refl _ w6).drew), (box8 (HZ.out _ ((Below.refl _ w6).drew)).1).1, (box8 (HZ.out _ ((Below.refl _ w6).drew)).1).2.1, (box8 (HZ.out _ ((Below.refl _ w6).drew)).1).2.2.1, (box8 (HZ.out _ ((Below.refl _ w6).drew)).1).2.2.2.1, (box8 (HZ.out _ ((Below.refl _ w6).drew)).1).2.2.2.2.1, (box8 (HZ.out _ ((Below.refl _ w6).drew)).1).2.2.2.2.2.1, (box8 (HZ.out _ ((Below.refl _ w6).drew)).1).2.2.2.2.2.2.1, (box8 (HZ.out _ ((Below.refl _ w6).drew)).1).2.2.2.2.2.2.2, (box8 (HZ.out _ ((Below.refl _ w6).drew)).2.1).1, (box8 (HZ.out _ ((Below.refl _ w6).drew)).2.1).2.1, (box8 (HZ.out _ ((Below.refl _ w6).drew)).2.1).2.2.1, (box8 (HZ.out _ ((Below.refl _ w6).drew)).2.1).2.2.2.1, (box8 (HZ.out _ ((Below.refl _ w6).drew)).2.1).2.2.2.2.1, (box8 (HZ.out _ ((Below.refl _ w6).drew)).2.1).2.2.2.2.2.1, (box8 (HZ.out _ ((Below.refl _ w6).drew)).2.1).2.2.2.2.2.2.1, (box8 (HZ.out _ ((Below.refl _ w6).drew)).2.1).2.2.2.2.2.2.2, (box4i (HZ.out _ ((Below.refl _ w6).drew)).2.2.1).1, (box4i (HZ.out _ ((Below.refl _ w6).drew)).2.2.1).2.1, (box4i (HZ.out _ ((Below.refl _ w6).drew)).2.2.1).2.2.1, (box4i (HZ.out _ ((Below.refl _ w6).drew)).2.2.1).2.2.2⟩)
        (first
          | (go_at_call 13; refine (CA1.out _ (by go_split_ands; assumption)).mono ?_; rintro e w7 ⟨rfl, hb7⟩)
          | (go_at_call 14; refine (CA2.out _ (by go_split_ands; assumption)).mono ?_; rintro e w7 ⟨rfl, hb7⟩)
          | (go_at_call 15; refine (CB1.out _ (by go_split_ands; assumption)).mono ?_; rintro e w7 ⟨rfl, hb7⟩)
          | (go_at_call 16; refine (CB2.out _ (by go_split_ands; assumption)).mono ?_; rintro e w7 ⟨rfl, hb7⟩)
          | (go_at_call 18; refine (CR2.out _ (by go_split_ands; assumption)).mono ?_; rintro e w7 ⟨ve, ce, rfl, hoe, hb7, _⟩)
          | (go_at_call 19; refine (CD1.out _ (by go_split_ands; assumption)).mono ?_; rintro e w7 ⟨rfl, hb7⟩)
          | (go_at_call 20; refine (CD2.out _ (by go_split_ands; assumption)).mono ?_; rintro e w7 ⟨rfl, hb7⟩)
          | (go_at_call 21; refine (CN2.out _ (by go_split_ands; assumption)).mono ?_; rintro e w7 ⟨vf, cf, rfl, hof, hb7, _⟩)
          | (go_at_call 22; refine (CT2.out _ (by go_split_ands; assumption)).mono ?_; rintro e w7 ⟨vg, cg, rfl, hog, hb7, _⟩)
          | (go_at_call 17; refine (CS3.out _ _ _ (by go_split_ands; assumption) hog).mono ?_; rintro e w7 ⟨rfl, hb7⟩)
          | (go_at_call 17; refine (CS2.out _ _ _ (by go_split_ands; assumption) hof).mono ?_; rintro e w7 ⟨rfl, hb7⟩)
          | (go_at_call 17; refine (CS1.out _ _ _ (by go_split_ands; assumption) hoe).mono ?_; rintro e w7 ⟨rfl, hb7⟩))
      go_wp2_with fail
      go_meet
      exact ⟨rfl, hb7⟩
    case rest =>
      obtain ⟨rfl, hbc⟩ := hcut
      clear CA1 CA2 CB1 CB2 CR2 CD1 CD2 CN2 CT2 CS1 CS2 CS3 e1 e2 e3 HS HX2 HA2 HT2 HI2
      have HBC := Lib.hid hbc
      obtain ⟨_, hA, _, hI9, hO9⟩ := HZ.out wc hbc
      obtain ⟨_, _, _, _, _, _, c6, _⟩ := box8 hA
      have HAX := Lib.hid hA
      have HK := Lib.hid (keptInts_any x.args g cap a c wc (by omega) hcap hI9 hO9)
      have HV0 := Lib.hid (own_base (own_keeps HR6.out hbc) HW2.out.size)
      have HV1 := Lib.hid (own_base (own_keeps HRd.out hbc) (Nat.le_trans HW2.out.size HZ5.out.1))
      have HV2 : Hid (OwnI wc w.heap.size (.slice (some ⟨g, 0, none⟩) x.args.length cap) x.args) := Lib.hid (own_prefix (own_keeps (own_keeps HO2.out HB6.out) hbc))
      have HF01 : Hid (Off (.slice va (readsL x).length ca) (.slice vd (readsL x).length cd)) := Lib.hid fun b h1 h2 => by
        have := HZ5.out.2 b h1
        have := (World.ownsRow.lt HRd.out b h2).1
        omega
      have HF02 : Hid (Off (.slice va (readsL x).length ca) (.slice (some ⟨g, 0, none⟩) x.args.length cap)) := Lib.hid fun b h1 h2 => by
        have := (World.ownsRow.lt HR6.out b h1).1
        have := (World.ownsRow.lt HO2.out b h2).2
        omega
      have HF12 : Hid (Off (.slice vd (readsL x).length cd) (.slice (some ⟨g, 0, none⟩) x.args.length cap)) := Lib.hid fun b h1 h2 => by
        have := (World.ownsRow.lt HRd.out b h1).1
        have := (World.ownsRow.lt HO2.out b h2).2
        have := HZ5.out.1
        omega
      have HBW : Hid (Below w.heap.size w wc) := Lib.hid (rel_below (HW2.out.trans (HB6.out.mono HW2.out.size)) (Nat.le_refl _) (hbc.mono (Nat.le_refl _)))
      clear hA hI9 hO9 hbc HR6 HRd HO2 HRb6 HRc6 HZ5 HZ
      go_wp2_with fail
      refine HK.out.mono ?_
      rintro e w8 ⟨rfl, hb8⟩
      have HV0' := Lib.hid (own_keeps HV0.out hb8)
      have HV1' := Lib.hid (own_keeps HV1.out hb8)
      have HV2' := Lib.hid (own_keeps HV2.out hb8)
      have HB8 := Lib.hid (rel_below HBW.out (Nat.le_refl _) hb8)
      clear hb8 HK HV0 HV1 HV2 HBW HAX c6 HBC
      have HROW := Lib.hid (three_rows HV0'.out HV1'.out HV2'.out HF01.out HF02.out HF12.out)
      have HAP := Lib.hid (apartInts_any 3 (threeV (.slice va (readsL x).length ca) (.slice vd (readsL x).length cd) (.slice (some ⟨g, 0, none⟩) x.args.length cap)) (threeL (readsL x) (readsL x) x.args) w8.heap.size 3 #[.slice va (readsL x).length ca, .slice vd (readsL x).length cd, .slice (some ⟨g, 0, none⟩) x.args.length cap] (w8.alloc (.cells #[.slice va (readsL x).length ca, .slice vd (readsL x).length cd, .slice (some ⟨g, 0, none⟩) x.args.length cap] 22)) w.heap.size (by omega) (by omega) (by have := HB8.out.size; simp; omega) (by
        have h1 := reads_len x
        intro k hk
        match k, hk with
        | 0, _ => show (readsL x).length ≤ _; omega
        | 1, _ => show (readsL x).length ≤ _; omega
        | 2, _ => show x.args.length ≤ _; omega) ⟨fun k hk => World.ownsRow.alloc (HROW.out.own k hk) _, HROW.out.off⟩ (Blk.new w8 _ _) (fun k hk => by
        match k, hk with
        | 0, _ => rfl
        | 1, _ => rfl
        | 2, _ => rfl))
      clear HROW HV0' HV1' HV2' HF01 HF02 HF12
      go_wp2_with fail
      refine HAP.out.mono ?_
      rintro e w9 ⟨rfl, hb9⟩
      have HB9 : Hid (Below w.heap.size w w9) := Lib.hid ((HB8.out.alloc HB8.out.size _).trans hb9)
      clear hb9 HAP HB8
      go_wp2_with fail
      refine (awakeI_any _).mono ?_
      rintro e w10 ⟨rfl, hb10⟩
      have HB10 : Hid (Below w.heap.size w w10) := Lib.hid (rel_below HB9.out (Nat.le_refl _) hb10)
      clear hb10
      go_wp2
      go_ret
      exact ⟨rfl, HB10.out⟩
end Go.Proofs.YtgpbpbhidemciaaGreat
