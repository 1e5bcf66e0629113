/-
  Package mach's Parse: what a text tells. No condition beyond those that each theorem states.
-/
import Derived.Test.YtkfplffcegbdfaaGreatDoorMaH
import Derived.Test.YtkfplffcegbdfaaGreatDoorMaG
import Derived.Test.YtkfplffcegbdfaaGreatDoorPk10
import Derived.Laws.ResultCell
namespace Go.Proofs.YtkfplffcegbdfaaGreatDoor
open Go.RowKit

theorem start_few (s : ByteArray) : (startC s).left.length ≤ s.size + 1 := by
  have h1 := pruned_length (readWords s) (none, [])
  have h2 := read_few s
  have h3 : (startC s).left = pruned (readWords s) := rfl
  rw [h3]
  unfold pruned
  simp at h1
  omega
theorem got_small (c : Cu) (hl : c.left.length ≤ 1000000) : (gotM c).args.length ≤ 140737488355328 ∧ (gotM c).saved.length ≤ 140737488355328 := by
  have := got_len c
  omega
theorem toldE_bad {c : Cu} (h : (mc9 c).eErr ≠ 0) : toldE c = (mc9 c).eErr ∧ toldM c = noM := by
  have e : toldE c = (mc9 c).eErr := by unfold toldE; rw [if_pos h]
  exact ⟨e, by unfold toldM; rw [e, if_neg h]⟩
theorem toldE_wrong {c : Cu} (h : (mc9 c).eErr = 0) (hr : (gotM c).rightB = false) : toldE c = 2 ∧ toldM c = noM := by
  have e : toldE c = 2 := by unfold toldE; rw [if_neg (by omega), hr]; rfl
  exact ⟨e, by unfold toldM; rw [e, if_neg (by decide)]⟩
theorem toldE_right {c : Cu} (h : (mc9 c).eErr = 0) (hr : (gotM c).rightB = true) : toldE c = 0 ∧ toldM c = gotM c := by
  have e : toldE c = 0 := by unfold toldE; rw [if_neg (by omega), hr]; rfl
  exact ⟨e, by unfold toldM; rw [if_pos e]⟩
/-- What a call that reads a machine tells. -/
def ToldM (s : ByteArray) (w w' : World) (e : Ending) : Prop := ∃ aa ac sa sc, e = .returned (.tuple #[machV (toldM (startC s)) aa ac sa sc, .int .i64 (toldE (startC s))]) ∧ (OwnM w' w.heap.size (.slice aa (toldM (startC s)).args.length ac) (toldM (startC s)).args ∧ OwnM w' w.heap.size (.slice sa (toldM (startC s)).saved.length sc) (toldM (startC s)).saved) ∧ Below w.heap.size w w'
theorem OwnM.below {w w' : World} {B : Nat} {v : Value} {l : List Int} (h : OwnM w B v l) (hb : Below w.heap.size w w') : OwnM w' B v l := own_keep h ⟨hb.size, fun k _ hk => hb.block k hk⟩
theorem OwnM.put4 {w : World} {B g : Nat} {v : Value} {l : List Int} (h : OwnM w B v l) (hg : g < B) (a b c d : Value) : OwnM ((((w.setCell ⟨g, 0, none⟩ a).setCell ⟨g, 1, none⟩ b).setCell ⟨g, 2, none⟩ c).setCell ⟨g, 3, none⟩ d) B v l :=
  ownsRow_setCell_below (ownsRow_setCell_below (ownsRow_setCell_below (ownsRow_setCell_below h (a := ⟨g, 0, none⟩) hg a) (a := ⟨g, 1, none⟩) hg b) (a := ⟨g, 2, none⟩) hg c) (a := ⟨g, 3, none⟩) hg d
theorem below_put4 {B : Nat} {A W : World} {g : Nat} (h : Below B A W) (hg : B ≤ g) (a b c d : Value) : Below B A ((((W.setCell ⟨g, 0, none⟩ a).setCell ⟨g, 1, none⟩ b).setCell ⟨g, 2, none⟩ c).setCell ⟨g, 3, none⟩ d) :=
  ((((h.setCell hg _).setCell hg _).setCell hg _).setCell hg _)
theorem noM_lies (w : World) : MaW w noM none none := ⟨IntsW.nil _ _, IntsW.nil _ _⟩
set_option maxHeartbeats 4000000 in
set_option maxRecDepth 100000 in
theorem parseM_any (s : ByteArray) (w : World) (hz : s.size ≤ 262144) : Calls Tryz.prog 24 #[.string s] w fun e w' => ToldM s w w' e := by
  have hfew := start_few s
  have hb0 : Below w.heap.size w (w.alloc (.cells (maxC noM none 0 none 0) 24)) := (Below.refl _ w).alloc (Nat.le_refl _) _
  have hB0 : Hid (Blk (w.alloc (.cells (maxC noM none 0 none 0) 24)) w.heap.size 24 (maxC noM none 0 none 0)) := Blk.new w _ _
  have HB0 := Lib.hid hb0
  have OV := Lib.hid (overC_any s (w.alloc (.cells (maxC noM none 0 none 0) 24)) (by omega))
  have OK := Lib.hid (start_ok s)
  have BAD := Lib.hid (@toldE_bad (startC s))
  have WRO := Lib.hid (@toldE_wrong (startC s))
  have RIG := Lib.hid (@toldE_right (startC s))
  have SM := Lib.hid (got_small (startC s) (by omega))
  have FEW : Hid ((startC s).left.length ≤ 1000000) := by show _ ≤ _; omega
  have T : Hid (∀ w' e, (∃ aa ac sa sc, e = .returned (.tuple #[machV (toldM (startC s)) aa ac sa sc, .int .i64 (toldE (startC s))]) ∧ (OwnM w' w.heap.size (.slice aa (toldM (startC s)).args.length ac) (toldM (startC s)).args ∧ OwnM w' w.heap.size (.slice sa (toldM (startC s)).saved.length sc) (toldM (startC s)).saved) ∧ Below w.heap.size w w') → ToldM s w w' e) := fun _ _ h => h
  clear hb0 hfew
  rw [show maxC noM none 0 none 0 = #[.int .i64 0, .slice none 0 0, .int .i64 0, .slice none 0 0] from rfl] at HB0 OV hB0
  have hlt : ¬ (262144 : Int) < s.size := by omega
  generalize toldM (startC s) = tm at *
  generalize toldE (startC s) = te at *
  go_enter Tryz.func24, Tryz.ntmps24
  go_wp2_with fail
  refine OV.out.mono ?_
  rintro e w1 ⟨g, rfl, h1, hg1, hb1⟩
  have C1 := Lib.hid h1
  have G1 := Lib.hid hg1
  have B1 : Hid (Below w.heap.size w w1) := HB0.out.trans (hb1.mono HB0.out.size)
  have R1 : Hid (Blk w1 w.heap.size 24 #[.int .i64 0, .slice none 0 0, .int .i64 0, .slice none 0 0]) := hB0.out.below hb1 hB0.out.lt
  have HM := Lib.hid (machineM_any w1.heap.size g (startC s) (w1.alloc (.cells #[.pointer (some ⟨g, 0, none⟩)] 83)) (Blk.new w1 _ _) (h1.below ((Below.refl _ _).alloc (Nat.le_refl _) _)) OK.out FEW.out)
  clear h1 hb1 hg1 OV HB0 hB0
  generalize startC s = c0 at *
  go_wp2_with fail
  refine HM.out.mono ?_
  rintro e w2 ⟨aa, ac, sa, sc, rfl, hm, h2, r2, k2⟩
  have B2 : Hid (Below w.heap.size w w2) := (B1.out.trans (((Below.refl _ w1).alloc (Nat.le_refl _) _).mono B1.out.size)).trans (k2.below (by have := B1.out.size; simp; omega) (by have := G1.out; simp at this; omega))
  have R2 : Hid (Blk w2 w.heap.size 24 #[.int .i64 0, .slice none 0 0, .int .i64 0, .slice none 0 0]) := (R1.out.alloc _).keep k2 (by have := G1.out; simp at this; omega)
  have hlb : w.heap.size < (w1.alloc (.cells #[.pointer (some ⟨g, 0, none⟩)] 83)).heap.size := by have := B1.out.size; simp; omega
  have OA2 := Lib.hid hm.1
  have OS2 := Lib.hid hm.2
  generalize (w1.alloc (.cells #[.pointer (some ⟨g, 0, none⟩)] 83)).heap.size = LB at OA2 OS2 hlb
  have C2 := Lib.hid h2
  have q3 : (w2.alloc (.cells (maxC (gotM c0) aa ac sa sc) 24)).cell? ⟨w1.heap.size, 0, none⟩ = some (.pointer (some ⟨g, 0, none⟩)) := (Blk.cell (Blk.alloc r2 _) 0).trans rfl
  have X2 : Hid (Blk (w2.alloc (.cells (maxC (gotM c0) aa ac sa sc) 24)) w2.heap.size 24 (maxC (gotM c0) aa ac sa sc)) := Blk.new w2 _ _
  have hb3 : Below w2.heap.size w2 (w2.alloc (.cells (maxC (gotM c0) aa ac sa sc) 24)) := (Below.refl _ _).alloc (Nat.le_refl _) _
  have EV := Lib.hid (err_any g (mc9 c0) (w2.alloc (.cells (maxC (gotM c0) aa ac sa sc) 24)) (h2.below hb3))
  have B3 : Hid (Below w.heap.size w (w2.alloc (.cells (maxC (gotM c0) aa ac sa sc) 24))) := B2.out.trans (hb3.mono B2.out.size)
  have R3 : Hid (Blk (w2.alloc (.cells (maxC (gotM c0) aa ac sa sc) 24)) w.heap.size 24 #[.int .i64 0, .slice none 0 0, .int .i64 0, .slice none 0 0]) := R2.out.alloc _
  have OA3 := Lib.hid (OA2.out.below hb3)
  have OS3 := Lib.hid (OS2.out.below hb3)
  have MV : Hid (maxC (gotM c0) aa ac sa sc = _) := maxC.eq_1 (gotM c0) aa ac sa sc
  have MW : Hid (machV (gotM c0) aa ac sa sc = .agg (maxC (gotM c0) aa ac sa sc)) := rfl
  clear hm h2 r2 k2 hb3 HM R1 C1 B2 R2 OA2 OS2 C2 B1
  rw [MW.out]
  rw [MV.out] at EV B3 R3 OA3 OS3 X2 q3 ⊢
  generalize (mc9 c0).eErr = E at *
  go_wp2_with fail
  refine EV.out.mono ?_
  rintro e w4 ⟨rfl, hb4⟩
  have B4 : Hid (Below w.heap.size w w4) := B3.out.trans (hb4.mono B3.out.size)
  have R4 : Hid (Blk w4 w.heap.size 24 #[.int .i64 0, .slice none 0 0, .int .i64 0, .slice none 0 0]) := R3.out.below hb4 R3.out.lt
  have OA4 := Lib.hid (OA3.out.below hb4)
  have OS4 := Lib.hid (OS3.out.below hb4)
  have X4 : Hid (Blk w4 w2.heap.size 24 (maxC (gotM c0) aa ac sa sc)) := by rw [MV.out]; exact X2.out.below hb4 X2.out.lt
  obtain ⟨x0, x1, x2, x3⟩ := boxMa X4.out
  have z0 := R4.out.cell 0
  have z1 := R4.out.cell 1
  have z2 := R4.out.cell 2
  have z3 := R4.out.cell 3
  have f0 := R4.out.free 0
  have f1 := R4.out.free 1
  have f2 := R4.out.free 2
  have f3 := R4.out.free 3
  clear hb4 B3 R3 OA3 OS3 X2 EV q3
  cases hE : E != 0
  · have hE0 : E = 0 := by simpa using hE
    have RM := Lib.hid (rightM_any (gotM c0) aa sa ac sc w4 SM.out.1 SM.out.2 ⟨IntsW.own OA4.out, IntsW.own OS4.out⟩)
    rw [MW.out, MV.out] at RM
    cases hr : (gotM c0).rightB
    · obtain ⟨e1, e2⟩ := WRO.out hE0 hr
      rw [hr] at RM
      have U := Lib.hid e1
      have V := Lib.hid e2
      clear e1 e2 hE0 hr RIG BAD WRO
      go_wp2_with fail
      refine RM.out.mono ?_
      rintro e w5 ⟨rfl, hb5⟩
      have B5 : Hid (Below w.heap.size w w5) := B4.out.trans (hb5.mono B4.out.size)
      have R5 : Hid (Blk w5 w.heap.size 24 #[.int .i64 0, .slice none 0 0, .int .i64 0, .slice none 0 0]) := R4.out.below hb5 R4.out.lt
      have z0 := R5.out.cell 0
      have z1 := R5.out.cell 1
      have z2 := R5.out.cell 2
      have z3 := R5.out.cell 3
      have f0 := R5.out.free 0
      have f1 := R5.out.free 1
      have f2 := R5.out.free 2
      have f3 := R5.out.free 3
      clear hb5 RM
      go_wp2
      (try simp only [Exit.inBlock, Exit.then])
      have hb := blk_four' R5.out rfl (.int .i64 0) (.slice none 0 0) (.int .i64 0) (.slice none 0 0)
      have hld := run_loadVar_row (P := Tryz.prog) _ w.heap.size 24 24 _ (0, 0) _ hb Tryz.underlying24 rfl machine_size
      refine bodyPost_ret (v := .tuple #[.agg #[.int .i64 0, .slice none 0 0, .int .i64 0, .slice none 0 0], .int .i64 2]) ?_ rfl ?_
      · rw [results_cell_tmp rfl]
        simp [asAddr, Result.andThen, hld]
      · refine T.out _ _ ⟨none, 0, none, 0, ?_, ?_, below_put4 B5.out (Nat.le_refl _) _ _ _ _⟩
        · rw [U.out, V.out]; rfl
        · rw [V.out]; exact ⟨World.ownsRow_nil _ _ _ _, World.ownsRow_nil _ _ _ _⟩
    · obtain ⟨e1, e2⟩ := RIG.out hE0 hr
      rw [hr] at RM
      have U := Lib.hid e1
      have V := Lib.hid e2
      clear e1 e2 hE0 hr RIG BAD WRO
      go_wp2_with fail
      refine RM.out.mono ?_
      rintro e w5 ⟨rfl, hb5⟩
      have B5 : Hid (Below w.heap.size w w5) := B4.out.trans (hb5.mono B4.out.size)
      have R5 : Hid (Blk w5 w.heap.size 24 #[.int .i64 0, .slice none 0 0, .int .i64 0, .slice none 0 0]) := R4.out.below hb5 R4.out.lt
      have X5 : Hid (Blk w5 w2.heap.size 24 (maxC (gotM c0) aa ac sa sc)) := X4.out.below hb5 X4.out.lt
      have OA5 := Lib.hid (OA4.out.below hb5)
      have OS5 := Lib.hid (OS4.out.below hb5)
      obtain ⟨x0, x1, x2, x3⟩ := boxMa X5.out
      have z0 := R5.out.cell 0
      have z1 := R5.out.cell 1
      have z2 := R5.out.cell 2
      have z3 := R5.out.cell 3
      have f0 := R5.out.free 0
      have f1 := R5.out.free 1
      have f2 := R5.out.free 2
      have f3 := R5.out.free 3
      clear hb5 RM
      go_wp2
      (try simp only [Exit.inBlock, Exit.then])
      have hb := blk_four' R5.out rfl (.int .i64 (gotM c0).regs) (.slice aa (gotM c0).args.length ac) (.int .i64 (gotM c0).ret) (.slice sa (gotM c0).saved.length sc)
      have hld := run_loadVar_row (P := Tryz.prog) _ w.heap.size 24 24 _ (0, 0) _ hb Tryz.underlying24 rfl machine_size
      refine bodyPost_ret (v := .tuple #[.agg #[.int .i64 (gotM c0).regs, .slice aa (gotM c0).args.length ac, .int .i64 (gotM c0).ret, .slice sa (gotM c0).saved.length sc], .int .i64 0]) ?_ rfl ?_
      · rw [results_cell_tmp rfl]
        simp [asAddr, Result.andThen, hld]
      · refine T.out _ _ ⟨aa, ac, sa, sc, ?_, ?_, below_put4 B5.out (Nat.le_refl _) _ _ _ _⟩
        · rw [U.out, V.out]; rfl
        · rw [V.out]
          exact ⟨own_base (OA5.out.put4 hlb _ _ _ _) (by omega), own_base (OS5.out.put4 hlb _ _ _ _) (by omega)⟩
  · have hE0 : E ≠ 0 := by simpa using hE
    obtain ⟨e1, e2⟩ := BAD.out hE0
    have U := Lib.hid e1
    have V := Lib.hid e2
    clear e1 e2 hE0 RIG BAD WRO
    go_wp2
    (try simp only [Exit.inBlock, Exit.then])
    have hb := blk_four' R4.out rfl (.int .i64 0) (.slice none 0 0) (.int .i64 0) (.slice none 0 0)
    have hld := run_loadVar_row (P := Tryz.prog) _ w.heap.size 24 24 _ (0, 0) _ hb Tryz.underlying24 rfl machine_size
    refine bodyPost_ret (v := .tuple #[.agg #[.int .i64 0, .slice none 0 0, .int .i64 0, .slice none 0 0], .int .i64 E]) ?_ rfl ?_
    · rw [results_cell_tmp rfl]
      simp [asAddr, Result.andThen, hld]
    · refine T.out _ _ ⟨none, 0, none, 0, ?_, ?_, below_put4 B4.out (Nat.le_refl _) _ _ _ _⟩
      · rw [U.out, V.out]; rfl
      · rw [V.out]; exact ⟨World.ownsRow_nil _ _ _ _, World.ownsRow_nil _ _ _ _⟩
end Go.Proofs.YtkfplffcegbdfaaGreatDoor
