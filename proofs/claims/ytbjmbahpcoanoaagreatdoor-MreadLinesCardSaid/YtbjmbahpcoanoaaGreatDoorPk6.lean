/-
  Arrays of numbers are one just if all their numbers are. No condition beyond those that each theorem states.
  Which error an instruction, and an end, of a target has; whether a target is small: package mir's own answers. No condition beyond those that each theorem states.
-/
import Derived.Test.YtbjmbahpcoanoaaGreatDoorPk1
import Derived.Laws.StructEq
import Derived.Test.YtbjmbahpcoanoaaGreatDoorPk5
namespace Go.Proofs.YtbjmbahpcoanoaaGreatDoor
open Go.RowKit

theorem int_size : (Tryz.prog.info? 3).map (·.size) = some 1 := by kernel_rfl
theorem run_part_int {t : TypeId} {k : IntKind} (h : Tryz.prog.underlying t = some (.int k)) {cs : Array Value} {o : Nat} {v : Value} (hv : cs[o]? = some v) (w : World) : (part t cs o).run Tryz.prog w = .ok v w := by
 simp [part, isAgg, run_underlying h, hv]
theorem eql_arr2_at (d0 : Nat) (h3 : ∀ (x y : Int) (W : World), (Op.equalIn d0 3 (.int .i64 x) (.int .i64 y)).run Tryz.prog W = .ok (x == y) W) (a b c d : Int) (W : World) :
    (Op.equalIn (d0 + 1) 49 (.agg #[.int .i64 a, .int .i64 b]) (.agg #[.int .i64 c, .int .i64 d])).run Tryz.prog W = .ok (a == c && b == d) W := by
 obtain ⟨j, hj, hjs⟩ := Option.map_eq_some_iff.1 int_size
 simp only [Op.equalIn, Sem.run_bind, run_underlying Tryz.underlying49, Result.andThen_ok, Std.Legacy.Range.forIn_eq_forIn_range', Std.Legacy.Range.size]
 simp [sizeOf, typeInfo, hj, hjs, List.range']
 rw [run_part_int (v := .int .i64 a) Tryz.underlying3 (by rfl)]
 simp only [Result.andThen_ok]
 rw [run_part_int (v := .int .i64 c) Tryz.underlying3 (by rfl)]
 simp only [Result.andThen_ok]
 rw [h3]
 simp only [Result.andThen_ok]
 cases h : a == c
 · simp
 · simp only [Bool.true_eq_false, if_false, Bool.true_and]
   rw [run_part_int (v := .int .i64 b) Tryz.underlying3 (by rfl)]
   simp only [Result.andThen_ok]
   rw [run_part_int (v := .int .i64 d) Tryz.underlying3 (by rfl)]
   simp only [Result.andThen_ok]
   rw [h3]
   simp only [Result.andThen_ok]
   cases h : b == d <;> simp
theorem eql_arr2 (a b c d : Int) (W : World) : (Op.equalIn 10000 49 (.agg #[.int .i64 a, .int .i64 b]) (.agg #[.int .i64 c, .int .i64 d])).run Tryz.prog W = .ok (a == c && b == d) W :=
 eql_arr2_at 9999 (fun x y W => run_equalIn_int W 9998 _ .i64 .i64 x y Tryz.underlying3) a b c d W
end Go.Proofs.YtbjmbahpcoanoaaGreatDoor
namespace Go.Proofs.YtbjmbahpcoanoaaGreatDoor
open Go.RowKit

set_option maxHeartbeats 4000000 in
set_option maxRecDepth 100000 in
theorem ofIns_any (m : Mm) (aa sa : Option Addr) (ac sc : Nat) (fr : Int) (x : Ii) (a : Option Addr) (c : Nat) (w : World) (hl : m.args.length ≤ 140737488355328) (hx : x.args.length ≤ 140737488355328) (hT : TabW w) :
    Calls Tryz.prog 46 #[machV m aa ac sa sc, .int .i64 fr, insV x a c] w fun e w' => e = .returned (.int .i64 (ofInsN m fr x)) ∧ Below w.heap.size w w' := by
 have HT0 := Lib.hid (TwoM.new w m aa sa ac sc x a c)
 have HP := Lib.hid (partsOf_any x.op _ (hT.below HT0.out.be))
 have HE := Lib.hid (ofInsN.eq_1 m fr x)
 have VI := Lib.hid (fun W => isInsT_any m aa sa ac sc x a c W hl hx)
 have V48 := Lib.hid (fun W => have_any x.op 48 W (by unfold KeyB; omega))
 have HM := Lib.hid (maxC.eq_1 m aa ac sa sc)
 have HC := Lib.hid (insC.eq_1 x a c)
 rw [HM.out, HC.out] at HT0 HP
 unfold machV insV at VI
 rw [HM.out] at VI
 generalize partsN x.op = p at *
 generalize hasB x.op 48 = t48 at *
 clear hT
 unfold machV insV
 rw [HM.out]
 go_enter Tryz.func46, Tryz.ntmps46
 go_wp2_with fail
 refine HP.out.mono ?_
 rintro e w1 ⟨rfl, hb⟩
 have HT := Lib.hid (HT0.out.below hb)
 clear hb HT0 HP
 obtain ⟨d0, d1, d2, d3, d4, d5, d6, d7⟩ := box8 HT.out.ix
 obtain ⟨c0, c1, c2, c3⟩ := boxMa HT.out.mc
 go_wp2_with fail
 refine (VI.out _).mono ?_
 rintro e w2 ⟨rfl, hb⟩
 have HT2 := Lib.hid (HT.out.below hb)
 clear hb HT d0 d1 d2 d3 d4 d5 d6 d7 c0 c1 c2 c3
 cases h1 : isInsT m x
 · rw [if_neg (by rw [h1]; decide)] at HE
   go_wp2
   go_ret
   exact ⟨by rw [HE.out]; rfl, HT2.out.be⟩
 rw [if_pos h1] at HE
 clear h1
 obtain ⟨d0, d1, d2, d3, d4, d5, d6, d7⟩ := box8 HT2.out.ix
 obtain ⟨c0, c1, c2, c3⟩ := boxMa HT2.out.mc
 go_wp2_with fail
 refine (below_three m.regs x.dst x.a x.b _ _ (Blk.new _ _ _)).mono ?_
 rintro e w3 ⟨rfl, hb⟩
 have HT3 := Lib.hid ((HT2.out.alloc (.cells #[.int .i64 x.dst, .int .i64 x.a, .int .i64 x.b] 3)).below hb)
 clear hb HT2 d0 d1 d2 d3 d4 d5 d6 d7 c0 c1 c2 c3
 cases h2 : belowB m.regs [x.dst, x.a, x.b]
 · rw [if_neg (by rw [h2]; decide)] at HE
   go_wp2
   go_ret
   exact ⟨by rw [HE.out]; rfl, HT3.out.be⟩
 rw [if_pos h2] at HE
 clear h2
 obtain ⟨d0, d1, d2, d3, d4, d5, d6, d7⟩ := box8 HT3.out.ix
 go_wp2_with fail
 refine (V48.out _).mono ?_
 rintro e w4 ⟨rfl, rfl⟩
 cases t48
 · go_wp2
   go_ret
   exact ⟨by rw [HE.out]; rfl, HT3.out.be⟩
 go_wp2_with fail
 refine (below_one fr x.imm _ _ (Blk.new _ _ _)).mono ?_
 rintro e w4 ⟨rfl, hb⟩
 have HT4 := Lib.hid ((HT3.out.alloc (.cells #[.int .i64 x.imm] 3)).below hb)
 clear hb HT3 d0 d1 d2 d3 d4 d5 d6 d7
 cases h3 : belowB fr [x.imm]
 · rw [h3] at HE
   go_wp2
   go_ret
   exact ⟨by rw [HE.out]; rfl, HT4.out.be⟩
 · rw [h3] at HE
   go_wp2
   go_ret
   exact ⟨by rw [HE.out]; rfl, HT4.out.be⟩
def tmC (t : Tt) : Array Value := #[.int .i64 t.kind, .int .i64 t.a, .int .i64 t.t0, .int .i64 t.t1]
theorem boxT {W : World} {g : Nat} {ty : TypeId} {t : Tt} (h : Blk W g ty (tmC t)) :
    W.cell? ⟨g, 0, none⟩ = some (.int .i64 t.kind) ∧ W.cell? ⟨g, 1, none⟩ = some (.int .i64 t.a) ∧ W.cell? ⟨g, 2, none⟩ = some (.int .i64 t.t0) ∧ W.cell? ⟨g, 3, none⟩ = some (.int .i64 t.t1) := ⟨h.cell 0, h.cell 1, h.cell 2, h.cell 3⟩
set_option maxHeartbeats 4000000 in
set_option maxRecDepth 100000 in
theorem isEndT_any (t : Tt) (w : World) : Calls Tryz.prog 89 #[termV t] w fun e w' => e = .returned (.bool (isEndT t)) ∧ Below w.heap.size w w' := by
 have HE := Lib.hid (isEndT.eq_1 t)
 unfold termV
 have HW : Hid (Below w.heap.size w (w.alloc (.cells (tmC t) 51))) := (Below.refl _ w).alloc (Nat.le_refl _) _
 have hq := fun W => eql_arr2 t.t0 t.t1 0 0 W
 by_cases h1 : t.kind = 1
 · have q1 : (t.kind == 1) = true := by simp [h1]
   rw [if_pos h1] at HE
   clear h1
   go_enter Tryz.func89, Tryz.ntmps89
   cases h2 : t.a == 0
   · rw [h2] at HE
     go_wp2
     go_ret
     exact ⟨by rw [HE.out]; rfl, HW.out⟩
   · rw [h2] at HE
     go_wp2
     go_ret
     exact ⟨by rw [HE.out]; rfl, HW.out⟩
 rw [if_neg h1] at HE
 have q1 : (t.kind == 1) = false := by simp [h1]
 by_cases h2 : t.kind = 2
 · have q2 : (t.kind == 2) = true := by simp [h2]
   rw [if_pos h2] at HE
   clear h1 h2
   go_enter Tryz.func89, Tryz.ntmps89
   go_wp2
   go_ret
   exact ⟨by rw [HE.out]; rfl, HW.out⟩
 rw [if_neg h2] at HE
 have q2 : (t.kind == 2) = false := by simp [h2]
 by_cases h3 : t.kind = 3
 · have q3 : (t.kind == 3) = true := by simp [h3]
   rw [if_pos h3] at HE
   clear h1 h2 h3
   go_enter Tryz.func89, Tryz.ntmps89
   go_wp2
   go_ret
   exact ⟨by rw [HE.out]; rfl, HW.out⟩
 rw [if_neg h3] at HE
 have q3 : (t.kind == 3) = false := by simp [h3]
 by_cases h4 : t.kind = 4
 · have q4 : (t.kind == 4) = true := by simp [h4]
   rw [if_pos h4] at HE
   clear h1 h2 h3 h4
   go_enter Tryz.func89, Tryz.ntmps89
   cases h2 : t.a == 0
   · rw [h2] at HE
     go_wp2
     go_ret
     exact ⟨by rw [HE.out]; rfl, HW.out⟩
   rw [h2] at HE
   go_wp2
   go_ret
   exact ⟨by rw [HE.out]; rfl, HW.out⟩
 rw [if_neg h4] at HE
 have q4 : (t.kind == 4) = false := by simp [h4]
 clear h1 h2 h3 h4
 go_enter Tryz.func89, Tryz.ntmps89
 go_wp2
 go_ret
 exact ⟨by rw [HE.out]; rfl, HW.out⟩
/-- A machine and an end, each in a box of its own. -/
structure TwoT (w W : World) (m : Mm) (aa sa : Option Addr) (ac sc : Nat) (t : Tt) : Prop where
 mc : Blk W w.heap.size 39 (maxC m aa ac sa sc)
 tm : Blk W (w.heap.size + 1) 51 (tmC t)
 be : Below w.heap.size w W
theorem TwoT.new (w : World) (m : Mm) (aa sa : Option Addr) (ac sc : Nat) (t : Tt) : TwoT w ((w.alloc (.cells (maxC m aa ac sa sc) 39)).alloc (.cells (tmC t) 51)) m aa sa ac sc t := by
 refine ⟨(Blk.new w _ _).alloc _, ?_, ((Below.refl _ w).alloc (Nat.le_refl _) _).alloc (by simp) _⟩
 exact blk_at _ _ (by simp)
theorem TwoT.below {w W W' : World} {m : Mm} {aa sa : Option Addr} {ac sc : Nat} {t : Tt} (h : TwoT w W m aa sa ac sc t) (hb : Below W.heap.size W W') : TwoT w W' m aa sa ac sc t :=
 ⟨h.mc.below hb h.mc.lt, h.tm.below hb h.tm.lt, h.be.trans (hb.mono h.be.size)⟩
theorem TwoT.alloc {w W : World} {m : Mm} {aa sa : Option Addr} {ac sc : Nat} {t : Tt} (h : TwoT w W m aa sa ac sc t) (o : Obj) : TwoT w (W.alloc o) m aa sa ac sc t :=
 h.below ((Below.refl _ W).alloc (Nat.le_refl _) _)
set_option maxHeartbeats 4000000 in
set_option maxRecDepth 100000 in
theorem readsWellT_any (m : Mm) (aa sa : Option Addr) (ac sc : Nat) (t : Tt) (w : World) :
    Calls Tryz.prog 90 #[machV m aa ac sa sc, termV t] w fun e w' => e = .returned (.bool (readsWellT m t)) ∧ Below w.heap.size w w' := by
 have HT := Lib.hid (TwoT.new w m aa sa ac sc t)
 have HE := Lib.hid (readsWellT.eq_1 m t)
 have HM := Lib.hid (maxC.eq_1 m aa ac sa sc)
 have HC := Lib.hid (tmC.eq_1 t)
 rw [HM.out, HC.out] at HT
 unfold machV termV
 rw [HM.out]
 by_cases h3 : t.kind = 3
 · have q3 : (t.kind == 3) = true := by simp [h3]
   rw [if_pos h3] at HE
   clear h3
   go_enter Tryz.func90, Tryz.ntmps90
   cases h4 : (t.a == m.ret)
   · rw [h4] at HE
     go_wp2
     go_ret
     exact ⟨by rw [HE.out]; rfl, HT.out.be⟩
   · rw [h4] at HE
     go_wp2
     go_ret
     exact ⟨by rw [HE.out]; rfl, HT.out.be⟩
 · have q3 : (t.kind == 3) = false := by simp [h3]
   rw [if_neg h3] at HE
   clear h3
   go_enter Tryz.func90, Tryz.ntmps90
   go_wp2_with fail
   refine (below_one m.regs t.a _ _ (blk_at _ _ (by simp))).mono ?_
   rintro e w1 ⟨rfl, hb⟩
   have HT2 := Lib.hid ((HT.out.alloc (.cells #[.int .i64 t.a] 3)).below hb)
   clear hb HT
   go_wp2
   go_ret
   exact ⟨by rw [HE.out]; rfl, HT2.out.be⟩
end Go.Proofs.YtbjmbahpcoanoaaGreatDoor
