/-
  Whether an instruction of a target has just its Op's parts, and which error it has: package mir's own answers. No condition beyond those that each theorem states.
-/
import Derived.Test.YtbjmbahpcoanoaaGreatDoorPk4
import Derived.BigGuard
namespace Go.Proofs.YtbjmbahpcoanoaaGreatDoor
open Go.RowKit

theorem below_one (n v : Int) (g : Nat) (W : World) (h : Blk W g 3 #[.int .i64 v]) : Calls Tryz.prog 45 #[.int .i64 n, .slice (some ⟨g, 0, none⟩) 1 1] W fun e w' => e = .returned (.bool (belowB n [v])) ∧ Below W.heap.size W w' :=
 (areBelow_any n [v] (some ⟨g, 0, none⟩) 1 W (by simp) (ints_one h)).mono fun e w' ⟨h1, h2⟩ => ⟨h1, h2 ▸ Below.refl _ _⟩
theorem below_two (n v u : Int) (g : Nat) (W : World) (h : Blk W g 3 #[.int .i64 v, .int .i64 u]) : Calls Tryz.prog 45 #[.int .i64 n, .slice (some ⟨g, 0, none⟩) 2 2] W fun e w' => e = .returned (.bool (belowB n [v, u])) ∧ Below W.heap.size W w' :=
 (areBelow_any n [v, u] (some ⟨g, 0, none⟩) 2 W (by simp) (ints_two h)).mono fun e w' ⟨h1, h2⟩ => ⟨h1, h2 ▸ Below.refl _ _⟩
theorem below_three (n v u t : Int) (g : Nat) (W : World) (h : Blk W g 3 #[.int .i64 v, .int .i64 u, .int .i64 t]) : Calls Tryz.prog 45 #[.int .i64 n, .slice (some ⟨g, 0, none⟩) 3 3] W fun e w' => e = .returned (.bool (belowB n [v, u, t])) ∧ Below W.heap.size W w' :=
 (areBelow_any n [v, u, t] (some ⟨g, 0, none⟩) 3 W (by simp) (ints_three h)).mono fun e w' ⟨h1, h2⟩ => ⟨h1, h2 ▸ Below.refl _ _⟩
theorem blk_at {W : World} {g : Nat} (t : TypeId) (cs : Array Value) (h : W.heap.size = g) : Blk (W.alloc (.cells cs t)) g t cs := h ▸ Blk.new W t cs
/-- A machine and an instruction, each in a box of its own. -/
structure TwoM (w W : World) (m : Mm) (aa sa : Option Addr) (ac sc : Nat) (x : Ii) (a : Option Addr) (c : Nat) : Prop where
 mc : Blk W w.heap.size 39 (maxC m aa ac sa sc)
 ix : Blk W (w.heap.size + 1) 46 (insC x a c)
 be : Below w.heap.size w W
theorem TwoM.new (w : World) (m : Mm) (aa sa : Option Addr) (ac sc : Nat) (x : Ii) (a : Option Addr) (c : Nat) : TwoM w ((w.alloc (.cells (maxC m aa ac sa sc) 39)).alloc (.cells (insC x a c) 46)) m aa sa ac sc x a c := by
 refine ⟨(Blk.new w _ _).alloc _, ?_, ((Below.refl _ w).alloc (Nat.le_refl _) _).alloc (by simp) _⟩
 have h := Blk.new (w.alloc (.cells (maxC m aa ac sa sc) 39)) 46 (insC x a c)
 have e : (w.alloc (.cells (maxC m aa ac sa sc) 39)).heap.size = w.heap.size + 1 := by simp
 rw [e] at h
 exact h
theorem TwoM.below {w W W' : World} {m : Mm} {aa sa : Option Addr} {ac sc : Nat} {x : Ii} {a : Option Addr} {c : Nat} (h : TwoM w W m aa sa ac sc x a c) (hb : Below W.heap.size W W') : TwoM w W' m aa sa ac sc x a c :=
 ⟨h.mc.below hb h.mc.lt, h.ix.below hb h.ix.lt, h.be.trans (hb.mono h.be.size)⟩
theorem TwoM.alloc {w W : World} {m : Mm} {aa sa : Option Addr} {ac sc : Nat} {x : Ii} {a : Option Addr} {c : Nat} (h : TwoM w W m aa sa ac sc x a c) (o : Obj) : TwoM w (W.alloc o) m aa sa ac sc x a c :=
 h.below ((Below.refl _ W).alloc (Nat.le_refl _) _)
set_option maxHeartbeats 2000000 in
set_option maxRecDepth 100000 in
theorem isCallT_any (m : Mm) (aa sa : Option Addr) (ac sc : Nat) (x : Ii) (a : Option Addr) (c : Nat) (w : World) (hl : m.args.length ≤ 140737488355328) :
    Calls Tryz.prog 135 #[machV m aa ac sa sc, insV x a c] w fun e w' => e = .returned (.bool (isCallT m x)) ∧ Below w.heap.size w w' := by
 have HT := Lib.hid (TwoM.new w m aa sa ac sc x a c)
 have HE := Lib.hid (isCallT.eq_1 m x)
 have HM := Lib.hid (maxC.eq_1 m aa ac sa sc)
 have HC := Lib.hid (insC.eq_1 x a c)
 have hw : IntKind.i64.wrap ((m.args.length : Int) + 1) = (m.args.length : Int) + 1 := by rw [IntKind.wrap_i64]; omega
 rw [HM.out, HC.out] at HT
 unfold machV insV
 rw [HM.out]
 go_enter Tryz.func135, Tryz.ntmps135
 go_wp2_with fail
 refine (below_one 100 x.callee _ _ (blk_at _ _ (by simp))).mono ?_
 rintro e w1 ⟨rfl, hb⟩
 have HT2 := Lib.hid ((HT.out.alloc (.cells #[.int .i64 x.callee] 3)).below hb)
 clear hb HT
 obtain ⟨c0, c1, c2, c3⟩ := boxMa HT2.out.mc
 obtain ⟨d0, d1, d2, d3, d4, d5, d6, d7⟩ := box8 HT2.out.ix
 cases h1 : belowB 100 [x.callee]
 · rw [h1] at HE
   go_wp2
   go_ret
   exact ⟨by rw [HE.out]; rfl, HT2.out.be⟩
 · rw [h1] at HE
   go_wp2_with fail
   refine (below_one ((m.args.length : Int) + 1) x.many _ _ (blk_at _ _ (by simp))).mono ?_
   rintro e w2 ⟨rfl, hb⟩
   have HT3 := Lib.hid ((HT2.out.alloc (.cells #[.int .i64 x.many] 3)).below hb)
   clear hb
   go_wp2
   go_ret
   exact ⟨by rw [HE.out]; rfl, HT3.out.be⟩
set_option maxHeartbeats 8000000 in
set_option maxRecDepth 100000 in
theorem isInsT_any (m : Mm) (aa sa : Option Addr) (ac sc : Nat) (x : Ii) (a : Option Addr) (c : Nat) (w : World) (hl : m.args.length ≤ 140737488355328) (hx : x.args.length ≤ 140737488355328) :
    Calls Tryz.prog 87 #[machV m aa ac sa sc, .int .i64 (partsN x.op), insV x a c] w fun e w' => e = .returned (.bool (isInsT m x)) ∧ Below w.heap.size w w' := by
 have HT0 := Lib.hid (TwoM.new w m aa sa ac sc x a c)
 have HE := Lib.hid (isInsT.eq_1 m x)
 have V1 := Lib.hid (fun W => have_any x.op 1 W (by unfold KeyB; omega))
 have V2 := Lib.hid (fun W => have_any x.op 2 W (by unfold KeyB; omega))
 have V4 := Lib.hid (fun W => have_any x.op 4 W (by unfold KeyB; omega))
 have V48 := Lib.hid (fun W => have_any x.op 48 W (by unfold KeyB; omega))
 have V8 := Lib.hid (fun W => have_any x.op 8 W (by unfold KeyB; omega))
 have V64 := Lib.hid (fun W => have_any x.op 64 W (by unfold KeyB; omega))
 have VC := Lib.hid (fun W => isCallT_any m aa sa ac sc x a c W hl)
 have VI := Lib.hid (fun W => immT_any x.imm W)
 have HM := Lib.hid (maxC.eq_1 m aa ac sa sc)
 have HC := Lib.hid (insC.eq_1 x a c)
 have HL := Lib.hid hx
 rw [HM.out, HC.out] at HT0
 unfold machV insV at VC
 rw [HM.out] at VC
 generalize partsN x.op = p at *
 generalize hasB x.op 1 = t1 at *
 generalize hasB x.op 2 = t2 at *
 generalize hasB x.op 4 = t4 at *
 generalize hasB x.op 48 = t48 at *
 generalize hasB x.op 8 = t8 at *
 generalize hasB x.op 64 = t64 at *
 generalize immT x.imm = ti at *
 generalize isCallT m x = tc at *
 obtain ⟨b1, hb1⟩ : ∃ b, b = (p != 0) := ⟨_, rfl⟩
 obtain ⟨b2, hb2⟩ : ∃ b, b = (b1 && (t1 || x.dst == 0)) := ⟨_, rfl⟩
 obtain ⟨b3, hb3⟩ : ∃ b, b = (b2 && (t2 || x.a == 0)) := ⟨_, rfl⟩
 obtain ⟨b4, hb4⟩ : ∃ b, b = (b3 && (t4 || x.b == 0)) := ⟨_, rfl⟩
 obtain ⟨b5, hb5⟩ : ∃ b, b = (b4 && (t48 || t8 && ti || x.imm == 0)) := ⟨_, rfl⟩
 obtain ⟨b6, hb6⟩ : ∃ b, b = (b5 && (t64 && tc || x.callee == 0 && x.many == 0)) := ⟨_, rfl⟩
 have HZ : Hid (isInsT m x = (b6 && x.args.isEmpty)) := by
  show _ = _
  rw [HE.out, hb6, hb5, hb4, hb3, hb2, hb1]
 have Hb1 := Lib.hid hb1
 have Hb2 := Lib.hid hb2
 have Hb3 := Lib.hid hb3
 have Hb4 := Lib.hid hb4
 have Hb5 := Lib.hid hb5
 have Hb6 := Lib.hid hb6
 clear hb1 hb2 hb3 hb4 hb5 hb6 HE
 unfold machV insV
 rw [HM.out]
 go_enter Tryz.func87, Tryz.ntmps87
 go_upto_region 1 with fail
 apply wp_region_lit
 dsimp only [List.append]
 obtain ⟨R1, HR⟩ : ∃ R : Act → World → Prop, Hid (R = (fun A W => (∃ (u0 u2 u4 u7 u8 : Value), A = ⟨#[u0, .int .i64 p, u2, Value.pointer (some ⟨w.heap.size, 0, none⟩), u4, Value.pointer (some ⟨w.heap.size + 1, 0, none⟩), .bool false, u7, u8, .bool b1, undef, undef, undef, undef, undef, undef, undef, undef, undef, undef, undef, undef, undef, undef, undef, undef, undef, undef, undef, undef, undef, undef, undef, undef, undef, undef, undef, undef, undef, undef, undef, undef, undef, undef, undef, undef, undef, undef, undef, undef, undef, undef, undef, undef, undef, undef, undef, undef, undef, undef, undef, undef, undef, undef, undef, undef, undef, undef, undef, undef, undef, undef, undef, undef, undef, undef, undef, undef, undef], []⟩) ∧ TwoM w W m aa sa ac sc x a c)) := ⟨_, rfl⟩
 refine wpList_cut 3 R1 ?_ ?_
 · simp only [List.take_succ_cons, List.take_zero]
   have h9 := Hb1.out
   clear Hb1 Hb2 Hb3 Hb4 Hb5 Hb6 HZ
   subst h9
   go_wp2
   (show R1 _ _; rw [HR.out]; (try rw [q1]); exact ⟨⟨_, _, _, _, _, rfl⟩, HT0.out⟩)
 intro A W hA
 rw [HR.out] at hA
 obtain ⟨⟨u0, u2, u4, u7, u8, rfl⟩, hT⟩ := hA
 clear HR R1
 have HT := Lib.hid hT
 clear hT HT0
 obtain ⟨d0, d1, d2, d3, d4, d5, d6, d7⟩ := box8 HT.out.ix
 obtain ⟨c0, c1, c2, c3⟩ := boxMa HT.out.mc
 simp only [List.drop_succ_cons, List.drop_zero]
 obtain ⟨R2, HR⟩ : ∃ R : Act → World → Prop, Hid (R = (fun A W => (∃ (u0 u2 u4 u7 u8 u9 u10 u11 u12 u13 u14 u15 u16 : Value), A = ⟨#[u0, .int .i64 p, u2, Value.pointer (some ⟨w.heap.size, 0, none⟩), u4, Value.pointer (some ⟨w.heap.size + 1, 0, none⟩), .bool false, u7, u8, u9, u10, u11, u12, u13, u14, u15, u16, .bool b2, undef, undef, undef, undef, undef, undef, undef, undef, undef, undef, undef, undef, undef, undef, undef, undef, undef, undef, undef, undef, undef, undef, undef, undef, undef, undef, undef, undef, undef, undef, undef, undef, undef, undef, undef, undef, undef, undef, undef, undef, undef, undef, undef, undef, undef, undef, undef, undef, undef, undef, undef, undef, undef, undef, undef, undef, undef, undef, undef, undef, undef], []⟩) ∧ TwoM w W m aa sa ac sc x a c)) := ⟨_, rfl⟩
 refine wpList_cut 8 R2 ?_ ?_
 · simp only [List.take_succ_cons, List.take_zero]
   have h9 := Hb2.out
   clear Hb1 Hb2 Hb3 Hb4 Hb5 Hb6 HZ
   subst h9
   cases b1
   case false =>
    go_wp2
    (show R2 _ _; rw [HR.out]; (try rw [q1]); exact ⟨⟨_, _, _, _, _, _, _, _, _, _, _, _, _, rfl⟩, HT.out⟩)
   go_wp2_with fail
   refine (V1.out _).mono ?_
   rintro e w1 ⟨rfl, rfl⟩
   cases t1
   · go_wp2
     (show R2 _ _; rw [HR.out]; (try rw [q1]); exact ⟨⟨_, _, _, _, _, _, _, _, _, _, _, _, _, rfl⟩, HT.out⟩)
   · go_wp2
     (show R2 _ _; rw [HR.out]; (try rw [q1]); exact ⟨⟨_, _, _, _, _, _, _, _, _, _, _, _, _, rfl⟩, HT.out⟩)
 intro A W hA
 rw [HR.out] at hA
 obtain ⟨⟨u0, u2, u4, u7, u8, u9, u10, u11, u12, u13, u14, u15, u16, rfl⟩, hT⟩ := hA
 clear HR R2
 have HT := Lib.hid hT
 clear hT d0 d1 d2 d3 d4 d5 d6 d7 c0 c1 c2 c3
 obtain ⟨d0, d1, d2, d3, d4, d5, d6, d7⟩ := box8 HT.out.ix
 obtain ⟨c0, c1, c2, c3⟩ := boxMa HT.out.mc
 simp only [List.drop_succ_cons, List.drop_zero]
 obtain ⟨R3, HR⟩ : ∃ R : Act → World → Prop, Hid (R = (fun A W => (∃ (u0 u2 u4 u7 u8 u9 u10 u11 u12 u13 u14 u15 u16 u17 u18 u19 u20 u21 u22 u23 u24 u25 : Value), A = ⟨#[u0, .int .i64 p, u2, Value.pointer (some ⟨w.heap.size, 0, none⟩), u4, Value.pointer (some ⟨w.heap.size + 1, 0, none⟩), .bool false, u7, u8, u9, u10, u11, u12, u13, u14, u15, u16, u17, u18, u19, u20, u21, u22, u23, u24, u25, .bool b3, undef, undef, undef, undef, undef, undef, undef, undef, undef, undef, undef, undef, undef, undef, undef, undef, undef, undef, undef, undef, undef, undef, undef, undef, undef, undef, undef, undef, undef, undef, undef, undef, undef, undef, undef, undef, undef, undef, undef, undef, undef, undef, undef, undef, undef, undef, undef, undef, undef, undef, undef, undef], []⟩) ∧ TwoM w W m aa sa ac sc x a c)) := ⟨_, rfl⟩
 refine wpList_cut 9 R3 ?_ ?_
 · simp only [List.take_succ_cons, List.take_zero]
   have h9 := Hb3.out
   clear Hb1 Hb2 Hb3 Hb4 Hb5 Hb6 HZ
   subst h9
   cases b2
   case false =>
    go_wp2
    (show R3 _ _; rw [HR.out]; (try rw [q1]); exact ⟨⟨_, _, _, _, _, _, _, _, _, _, _, _, _, _, _, _, _, _, _, _, _, _, rfl⟩, HT.out⟩)
   go_wp2_with fail
   refine (V2.out _).mono ?_
   rintro e w1 ⟨rfl, rfl⟩
   cases t2
   · go_wp2
     (show R3 _ _; rw [HR.out]; (try rw [q1]); exact ⟨⟨_, _, _, _, _, _, _, _, _, _, _, _, _, _, _, _, _, _, _, _, _, _, rfl⟩, HT.out⟩)
   · go_wp2
     (show R3 _ _; rw [HR.out]; (try rw [q1]); exact ⟨⟨_, _, _, _, _, _, _, _, _, _, _, _, _, _, _, _, _, _, _, _, _, _, rfl⟩, HT.out⟩)
 intro A W hA
 rw [HR.out] at hA
 obtain ⟨⟨u0, u2, u4, u7, u8, u9, u10, u11, u12, u13, u14, u15, u16, u17, u18, u19, u20, u21, u22, u23, u24, u25, rfl⟩, hT⟩ := hA
 clear HR R3
 have HT := Lib.hid hT
 clear hT d0 d1 d2 d3 d4 d5 d6 d7 c0 c1 c2 c3
 obtain ⟨d0, d1, d2, d3, d4, d5, d6, d7⟩ := box8 HT.out.ix
 obtain ⟨c0, c1, c2, c3⟩ := boxMa HT.out.mc
 simp only [List.drop_succ_cons, List.drop_zero]
 obtain ⟨R4, HR⟩ : ∃ R : Act → World → Prop, Hid (R = (fun A W => (∃ (u0 u2 u4 u7 u8 u9 u10 u11 u12 u13 u14 u15 u16 u17 u18 u19 u20 u21 u22 u23 u24 u25 u26 u27 u28 u29 u30 u31 u32 u33 u34 : Value), A = ⟨#[u0, .int .i64 p, u2, Value.pointer (some ⟨w.heap.size, 0, none⟩), u4, Value.pointer (some ⟨w.heap.size + 1, 0, none⟩), .bool false, u7, u8, u9, u10, u11, u12, u13, u14, u15, u16, u17, u18, u19, u20, u21, u22, u23, u24, u25, u26, u27, u28, u29, u30, u31, u32, u33, u34, .bool b4, undef, undef, undef, undef, undef, undef, undef, undef, undef, undef, undef, undef, undef, undef, undef, undef, undef, undef, undef, undef, undef, undef, undef, undef, undef, undef, undef, undef, undef, undef, undef, undef, undef, undef, undef, undef, undef, undef, undef, undef, undef, undef, undef], []⟩) ∧ TwoM w W m aa sa ac sc x a c)) := ⟨_, rfl⟩
 refine wpList_cut 9 R4 ?_ ?_
 · simp only [List.take_succ_cons, List.take_zero]
   have h9 := Hb4.out
   clear Hb1 Hb2 Hb3 Hb4 Hb5 Hb6 HZ
   subst h9
   cases b3
   case false =>
    go_wp2
    (show R4 _ _; rw [HR.out]; (try rw [q1]); exact ⟨⟨_, _, _, _, _, _, _, _, _, _, _, _, _, _, _, _, _, _, _, _, _, _, _, _, _, _, _, _, _, _, _, rfl⟩, HT.out⟩)
   go_wp2_with fail
   refine (V4.out _).mono ?_
   rintro e w1 ⟨rfl, rfl⟩
   cases t4
   · go_wp2
     (show R4 _ _; rw [HR.out]; (try rw [q1]); exact ⟨⟨_, _, _, _, _, _, _, _, _, _, _, _, _, _, _, _, _, _, _, _, _, _, _, _, _, _, _, _, _, _, _, rfl⟩, HT.out⟩)
   · go_wp2
     (show R4 _ _; rw [HR.out]; (try rw [q1]); exact ⟨⟨_, _, _, _, _, _, _, _, _, _, _, _, _, _, _, _, _, _, _, _, _, _, _, _, _, _, _, _, _, _, _, rfl⟩, HT.out⟩)
 intro A W hA
 rw [HR.out] at hA
 obtain ⟨⟨u0, u2, u4, u7, u8, u9, u10, u11, u12, u13, u14, u15, u16, u17, u18, u19, u20, u21, u22, u23, u24, u25, u26, u27, u28, u29, u30, u31, u32, u33, u34, rfl⟩, hT⟩ := hA
 clear HR R4
 have HT := Lib.hid hT
 clear hT d0 d1 d2 d3 d4 d5 d6 d7 c0 c1 c2 c3
 obtain ⟨d0, d1, d2, d3, d4, d5, d6, d7⟩ := box8 HT.out.ix
 obtain ⟨c0, c1, c2, c3⟩ := boxMa HT.out.mc
 simp only [List.drop_succ_cons, List.drop_zero]
 obtain ⟨R5, HR⟩ : ∃ R : Act → World → Prop, Hid (R = (fun A W => (∃ (u0 u2 u4 u7 u8 u9 u10 u11 u12 u13 u14 u15 u16 u17 u18 u19 u20 u21 u22 u23 u24 u25 u26 u27 u28 u29 u30 u31 u32 u33 u34 u35 u36 u37 u38 u39 u40 u41 u42 u43 u44 u45 u46 u47 u48 u49 u50 u51 u52 : Value), A = ⟨#[u0, .int .i64 p, u2, Value.pointer (some ⟨w.heap.size, 0, none⟩), u4, Value.pointer (some ⟨w.heap.size + 1, 0, none⟩), .bool false, u7, u8, u9, u10, u11, u12, u13, u14, u15, u16, u17, u18, u19, u20, u21, u22, u23, u24, u25, u26, u27, u28, u29, u30, u31, u32, u33, u34, u35, u36, u37, u38, u39, u40, u41, u42, u43, u44, u45, u46, u47, u48, u49, u50, u51, u52, .bool b5, undef, undef, undef, undef, undef, undef, undef, undef, undef, undef, undef, undef, undef, undef, undef, undef, undef, undef, undef, undef, undef, undef, undef, undef, undef], []⟩) ∧ TwoM w W m aa sa ac sc x a c)) := ⟨_, rfl⟩
 refine wpList_cut 18 R5 ?_ ?_
 · simp only [List.take_succ_cons, List.take_zero]
   have h9 := Hb5.out
   clear Hb1 Hb2 Hb3 Hb4 Hb5 Hb6 HZ
   subst h9
   cases b4
   case false =>
    go_wp2
    (show R5 _ _; rw [HR.out]; (try rw [q1]); exact ⟨⟨_, _, _, _, _, _, _, _, _, _, _, _, _, _, _, _, _, _, _, _, _, _, _, _, _, _, _, _, _, _, _, _, _, _, _, _, _, _, _, _, _, _, _, _, _, _, _, _, _, rfl⟩, HT.out⟩)
   go_wp2_with fail
   refine (V48.out _).mono ?_
   rintro e w1 ⟨rfl, rfl⟩
   cases t48
   · go_wp2_with fail
     refine (V8.out _).mono ?_
     rintro e w1 ⟨rfl, rfl⟩
     cases t8
     · go_wp2
       (show R5 _ _; rw [HR.out]; (try rw [q1]); exact ⟨⟨_, _, _, _, _, _, _, _, _, _, _, _, _, _, _, _, _, _, _, _, _, _, _, _, _, _, _, _, _, _, _, _, _, _, _, _, _, _, _, _, _, _, _, _, _, _, _, _, _, rfl⟩, HT.out⟩)
     · go_wp2_with fail
       refine (VI.out _).mono ?_
       rintro e w1 ⟨rfl, rfl⟩
       cases ti
       · go_wp2
         (show R5 _ _; rw [HR.out]; (try rw [q1]); exact ⟨⟨_, _, _, _, _, _, _, _, _, _, _, _, _, _, _, _, _, _, _, _, _, _, _, _, _, _, _, _, _, _, _, _, _, _, _, _, _, _, _, _, _, _, _, _, _, _, _, _, _, rfl⟩, HT.out⟩)
       · go_wp2
         (show R5 _ _; rw [HR.out]; (try rw [q1]); exact ⟨⟨_, _, _, _, _, _, _, _, _, _, _, _, _, _, _, _, _, _, _, _, _, _, _, _, _, _, _, _, _, _, _, _, _, _, _, _, _, _, _, _, _, _, _, _, _, _, _, _, _, rfl⟩, HT.out⟩)
   · go_wp2
     (show R5 _ _; rw [HR.out]; (try rw [q1]); exact ⟨⟨_, _, _, _, _, _, _, _, _, _, _, _, _, _, _, _, _, _, _, _, _, _, _, _, _, _, _, _, _, _, _, _, _, _, _, _, _, _, _, _, _, _, _, _, _, _, _, _, _, rfl⟩, HT.out⟩)
 intro A W hA
 rw [HR.out] at hA
 obtain ⟨⟨u0, u2, u4, u7, u8, u9, u10, u11, u12, u13, u14, u15, u16, u17, u18, u19, u20, u21, u22, u23, u24, u25, u26, u27, u28, u29, u30, u31, u32, u33, u34, u35, u36, u37, u38, u39, u40, u41, u42, u43, u44, u45, u46, u47, u48, u49, u50, u51, u52, rfl⟩, hT⟩ := hA
 clear HR R5
 have HT := Lib.hid hT
 clear hT d0 d1 d2 d3 d4 d5 d6 d7 c0 c1 c2 c3
 obtain ⟨d0, d1, d2, d3, d4, d5, d6, d7⟩ := box8 HT.out.ix
 obtain ⟨c0, c1, c2, c3⟩ := boxMa HT.out.mc
 simp only [List.drop_succ_cons, List.drop_zero]
 obtain ⟨R6, HR⟩ : ∃ R : Act → World → Prop, Hid (R = (fun A W => (∃ (u0 u2 u4 u7 u8 u9 u10 u11 u12 u13 u14 u15 u16 u17 u18 u19 u20 u21 u22 u23 u24 u25 u26 u27 u28 u29 u30 u31 u32 u33 u34 u35 u36 u37 u38 u39 u40 u41 u42 u43 u44 u45 u46 u47 u48 u49 u50 u51 u52 u53 u54 u55 u56 u57 u58 u59 u60 u61 u62 u63 u64 u65 u66 u67 u68 u69 u70 u71 : Value), A = ⟨#[u0, .int .i64 p, u2, Value.pointer (some ⟨w.heap.size, 0, none⟩), u4, Value.pointer (some ⟨w.heap.size + 1, 0, none⟩), .bool false, u7, u8, u9, u10, u11, u12, u13, u14, u15, u16, u17, u18, u19, u20, u21, u22, u23, u24, u25, u26, u27, u28, u29, u30, u31, u32, u33, u34, u35, u36, u37, u38, u39, u40, u41, u42, u43, u44, u45, u46, u47, u48, u49, u50, u51, u52, u53, u54, u55, u56, u57, u58, u59, u60, u61, u62, u63, u64, u65, u66, u67, u68, u69, u70, u71, .bool b6, undef, undef, undef, undef, undef, undef], []⟩) ∧ TwoM w W m aa sa ac sc x a c)) := ⟨_, rfl⟩
 refine wpList_cut 19 R6 ?_ ?_
 · simp only [List.take_succ_cons, List.take_zero]
   have h9 := Hb6.out
   clear Hb1 Hb2 Hb3 Hb4 Hb5 Hb6 HZ
   subst h9
   cases b5
   case false =>
    go_wp2
    (show R6 _ _; rw [HR.out]; (try rw [q1]); exact ⟨⟨_, _, _, _, _, _, _, _, _, _, _, _, _, _, _, _, _, _, _, _, _, _, _, _, _, _, _, _, _, _, _, _, _, _, _, _, _, _, _, _, _, _, _, _, _, _, _, _, _, _, _, _, _, _, _, _, _, _, _, _, _, _, _, _, _, _, _, _, rfl⟩, HT.out⟩)
   go_wp2_with fail
   refine (V64.out _).mono ?_
   rintro e w1 ⟨rfl, rfl⟩
   cases t64
   · cases q1 : (x.callee == 0)
     · go_wp2
       (show R6 _ _; rw [HR.out]; (try rw [q1]); exact ⟨⟨_, _, _, _, _, _, _, _, _, _, _, _, _, _, _, _, _, _, _, _, _, _, _, _, _, _, _, _, _, _, _, _, _, _, _, _, _, _, _, _, _, _, _, _, _, _, _, _, _, _, _, _, _, _, _, _, _, _, _, _, _, _, _, _, _, _, _, _, rfl⟩, HT.out⟩)
     · go_wp2
       (show R6 _ _; rw [HR.out]; (try rw [q1]); exact ⟨⟨_, _, _, _, _, _, _, _, _, _, _, _, _, _, _, _, _, _, _, _, _, _, _, _, _, _, _, _, _, _, _, _, _, _, _, _, _, _, _, _, _, _, _, _, _, _, _, _, _, _, _, _, _, _, _, _, _, _, _, _, _, _, _, _, _, _, _, _, rfl⟩, HT.out⟩)
   · go_wp2_with fail
     refine (VC.out _).mono ?_
     rintro e w1 ⟨rfl, hb⟩
     have HT2 := Lib.hid (HT.out.below hb)
     clear hb d0 d1 d2 d3 d4 d5 d6 d7 c0 c1 c2 c3
     obtain ⟨d0, d1, d2, d3, d4, d5, d6, d7⟩ := box8 HT2.out.ix
     cases tc
     · cases q1 : (x.callee == 0)
       · go_wp2
         (show R6 _ _; rw [HR.out]; (try rw [q1]); exact ⟨⟨_, _, _, _, _, _, _, _, _, _, _, _, _, _, _, _, _, _, _, _, _, _, _, _, _, _, _, _, _, _, _, _, _, _, _, _, _, _, _, _, _, _, _, _, _, _, _, _, _, _, _, _, _, _, _, _, _, _, _, _, _, _, _, _, _, _, _, _, rfl⟩, HT2.out⟩)
       · go_wp2
         (show R6 _ _; rw [HR.out]; (try rw [q1]); exact ⟨⟨_, _, _, _, _, _, _, _, _, _, _, _, _, _, _, _, _, _, _, _, _, _, _, _, _, _, _, _, _, _, _, _, _, _, _, _, _, _, _, _, _, _, _, _, _, _, _, _, _, _, _, _, _, _, _, _, _, _, _, _, _, _, _, _, _, _, _, _, rfl⟩, HT2.out⟩)
     · go_wp2
       (show R6 _ _; rw [HR.out]; (try rw [q1]); exact ⟨⟨_, _, _, _, _, _, _, _, _, _, _, _, _, _, _, _, _, _, _, _, _, _, _, _, _, _, _, _, _, _, _, _, _, _, _, _, _, _, _, _, _, _, _, _, _, _, _, _, _, _, _, _, _, _, _, _, _, _, _, _, _, _, _, _, _, _, _, _, rfl⟩, HT2.out⟩)
 intro A W hA
 rw [HR.out] at hA
 obtain ⟨⟨u0, u2, u4, u7, u8, u9, u10, u11, u12, u13, u14, u15, u16, u17, u18, u19, u20, u21, u22, u23, u24, u25, u26, u27, u28, u29, u30, u31, u32, u33, u34, u35, u36, u37, u38, u39, u40, u41, u42, u43, u44, u45, u46, u47, u48, u49, u50, u51, u52, u53, u54, u55, u56, u57, u58, u59, u60, u61, u62, u63, u64, u65, u66, u67, u68, u69, u70, u71, rfl⟩, hT⟩ := hA
 clear HR R6
 have HT := Lib.hid hT
 clear hT d0 d1 d2 d3 d4 d5 d6 d7 c0 c1 c2 c3
 obtain ⟨d0, d1, d2, d3, d4, d5, d6, d7⟩ := box8 HT.out.ix
 obtain ⟨c0, c1, c2, c3⟩ := boxMa HT.out.mc
 simp only [List.drop_succ_cons, List.drop_zero]
 have q9 : ((x.args.length : Int) == 0) = x.args.isEmpty := by
  cases hz : x.args
  · rfl
  · simp; omega
 cases b6
 · go_wp2
   go_ret
   exact ⟨by rw [HZ.out]; rfl, HT.out.be⟩
 · go_wp2
   go_ret
   exact ⟨by rw [HZ.out, ← q9]; rfl, HT.out.be⟩
end Go.Proofs.YtbjmbahpcoanoaaGreatDoor
