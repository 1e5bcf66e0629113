/-
  The walk of the statement MachBack: it answers true. No condition beyond those that each theorem states.
-/
import Derived.Test.YtkfplffcegbdfaaDoorMaBk
namespace Go.Proofs.YtkfplffcegbdfaaDoor
open Go.RowKit

set_option maxHeartbeats 8000000 in
set_option maxRecDepth 100000 in
theorem back5_any (m : Mm) (aa sa : Option Addr) (ac sc : Nat) (s : ByteArray) (w : World) (hl : m.args.length ≤ 140737488355328) (hs : m.saved.length ≤ 140737488355328) (hz : s.size ≤ 140737488355328) (hM : MaW w m aa sa) :
    Calls Tryd.prog 3 #[machV m aa ac sa sc, .string s] w fun e w' => e = .returned (.bool true) ∧ Below w.heap.size w w' := by
  have HB0 : Hid (Below w.heap.size w (w.alloc (.cells #[.int .i64 m.regs, .slice aa m.args.length ac, .int .i64 m.ret, .slice sa m.saved.length sc] 24))) := (Below.refl _ w).alloc (Nat.le_refl _) _
  have HX0 : Hid (Blk (w.alloc (.cells #[.int .i64 m.regs, .slice aa m.args.length ac, .int .i64 m.ret, .slice sa m.saved.length sc] 24)) w.heap.size 24 #[.int .i64 m.regs, .slice aa m.args.length ac, .int .i64 m.ret, .slice sa m.saved.length sc]) := Blk.new w _ _
  have HW := Lib.hid hM
  have AW : Hid (∀ w1, Below w.heap.size w w1 → Calls Tryd.prog 4 #[] w1 fun e w' => e = .returned (.bool true) ∧ Below w.heap.size w w' ∧ Hid (Below w1.heap.size w1 w')) := fun w1 h =>
    (awakeM_any w1).mono fun e w' ⟨x, y⟩ => ⟨x, h.trans (y.mono h.size), y⟩
  unfold machV maxC
  clear hM
  by_cases hn : (2000 : Int) < (m.args.length : Int) + m.saved.length + s.size
  · go_enter Tryd.func3, Tryd.ntmps3
    go_wp2_with fail
    refine (AW.out _ HB0.out).mono ?_
    rintro e w1 ⟨rfl, b1, hb⟩
    have B1 := Lib.hid b1
    have X1 : Hid (Blk w1 w.heap.size 24 #[.int .i64 m.regs, .slice aa m.args.length ac, .int .i64 m.ret, .slice sa m.saved.length sc]) := HX0.out.below hb.out HX0.out.lt
    have c1 := X1.out.cell 1
    have c3 := X1.out.cell 3
    clear b1 hb HX0 HB0 AW
    go_wp2
    go_ret
    exact ⟨rfl, B1.out⟩
  have PRr : Hid (∀ (k : Mm) a1 s1 c1 d1 W, k.rightB = true → k.args.length ≤ 1000000000 → k.saved.length ≤ 1000000000 → MaW W k a1 s1 → Below w.heap.size w W → Calls Tryd.prog 5 #[.agg #[.int .i64 k.regs, .slice a1 k.args.length c1, .int .i64 k.ret, .slice s1 k.saved.length d1]] W fun e w' => e = .returned (.tuple #[.string k.textS, .int .i64 0]) ∧ Below w.heap.size w w' ∧ Below W.heap.size W w') := fun k a1 s1 c1 d1 W hr h1 h2 hm h =>
    (printM_any k a1 s1 c1 d1 W (by omega) (by omega) hm).mono fun e w' ⟨x, y⟩ => ⟨by rw [x, (print_right hr).1, (print_right hr).2], h.trans (y.mono h.size), y⟩
  have PA : Hid (∀ (t : ByteArray) W, t.size ≤ 100000 → Below w.heap.size w W → Calls Tryd.prog 7 #[.string t] W fun e w' => ∃ a1 c1 s1 d1, e = .returned (.tuple #[machV (toldM (startC t)) a1 c1 s1 d1, .int .i64 (toldE (startC t))]) ∧ MaW w' (toldM (startC t)) a1 s1 ∧ Below w.heap.size w w' ∧ Below W.heap.size W w') := fun t W ht h =>
    (parseM_any t W ht).mono fun e w' ⟨a1, c1, s1, d1, x, ⟨y1, y2⟩, z⟩ => ⟨a1, c1, s1, d1, x, ⟨IntsW.own y1, IntsW.own y2⟩, h.trans (z.mono h.size), z⟩
  have PT : Hid (∀ (k : Mm), k.rightB = true → ∀ W, Below w.heap.size w W → Calls Tryd.prog 7 #[.string k.textS] W fun e w' => ∃ a1 c1 s1 d1, e = .returned (.tuple #[.agg #[.int .i64 k.regs, .slice a1 k.args.length c1, .int .i64 k.ret, .slice s1 k.saved.length d1], .int .i64 0]) ∧ MaW w' k a1 s1 ∧ Below w.heap.size w w' ∧ Below W.heap.size W w') := fun k hr W h => by
    have h0 := PA.out k.textS W (text_size hr) h
    rw [(text_told k hr).1, (text_told k hr).2] at h0
    exact h0
  have SA : Hid (∀ (k : Mm) a1 s1 a2 s2 c1 d1 c2 d2 W, k.args.length ≤ 1000000000 → k.saved.length ≤ 1000000000 → MaW W k a1 s1 → MaW W k a2 s2 → Below w.heap.size w W → Calls Tryd.prog 8 #[.agg #[.int .i64 k.regs, .slice a1 k.args.length c1, .int .i64 k.ret, .slice s1 k.saved.length d1], .agg #[.int .i64 k.regs, .slice a2 k.args.length c2, .int .i64 k.ret, .slice s2 k.saved.length d2]] W fun e w' => e = .returned (.bool true) ∧ Below w.heap.size w w' ∧ Hid (Below W.heap.size W w')) := fun k a1 s1 a2 s2 c1 d1 c2 d2 W h1 h2 hm hm2 h =>
    (sameM_any k a1 s1 a2 s2 c1 d1 c2 d2 W h1 h2 hm hm2).mono fun e w' ⟨x, y⟩ => ⟨x, h.trans (y.mono h.size), y⟩
  have RI : Hid (∀ w1, Below w.heap.size w w1 → Calls Tryd.prog 6 #[.agg #[.int .i64 m.regs, .slice aa m.args.length ac, .int .i64 m.ret, .slice sa m.saved.length sc]] w1 fun e w' => e = .returned (.bool m.rightB) ∧ Below w.heap.size w w' ∧ Hid (Below w1.heap.size w1 w')) := fun w1 h =>
    (rightM_any m aa sa ac sc w1 hl hs (HW.out.below h)).mono fun e w' ⟨x, y⟩ => ⟨x, h.trans (y.mono h.size), y⟩
  have hsz : s.size ≤ 100000 := by omega
  have PS := Lib.hid (fun W => PA.out s W hsz)
  have NR : Hid (toldE (startC s) = 0 → (toldM (startC s)).rightB = true ∧ True ∧ True) := fun h => ⟨told_right h, trivial, trivial⟩
  have NZ : Hid (toldE (startC s) ≠ 0 → toldM (startC s) = noM) := fun h => told_none h
  have NL := Lib.hid (told_small s hsz)
  unfold machV maxC at PS
  generalize toldM (startC s) = n at *
  generalize toldE (startC s) = E at *
  have b1 : m.args.length ≤ 2000 := by omega
  have b2 : m.saved.length ≤ 2000 := by omega
  clear PA
  cases hr : m.rightB
  · rw [hr] at RI
    have PW : Hid (∀ W, Below w.heap.size w W → Calls Tryd.prog 5 #[.agg #[.int .i64 m.regs, .slice aa m.args.length ac, .int .i64 m.ret, .slice sa m.saved.length sc]] W fun e w' => e = .returned (.tuple #[.string ⟨#[]⟩, .int .i64 2]) ∧ Below w.heap.size w w' ∧ Hid (Below W.heap.size W w')) := fun W h =>
      (printM_any m aa sa ac sc W (by omega) (by omega) (HW.out.below h)).mono fun e w' ⟨x, y⟩ => ⟨by rw [x, (print_wrong hr).1, (print_wrong hr).2], h.trans (y.mono h.size), y⟩
    clear hr
    go_enter Tryd.func3, Tryd.ntmps3
    go_wp2_with fail
    refine (AW.out _ HB0.out).mono ?_
    rintro e w1 ⟨rfl, b1', hb⟩
    have B1 := Lib.hid b1'
    have X1 : Hid (Blk w1 w.heap.size 24 #[.int .i64 m.regs, .slice aa m.args.length ac, .int .i64 m.ret, .slice sa m.saved.length sc]) := HX0.out.below hb.out HX0.out.lt
    have c0 := X1.out.cell 0
    have c1 := X1.out.cell 1
    have c2 := X1.out.cell 2
    have c3 := X1.out.cell 3
    clear b1' hb HX0 HB0 AW
    go_wp2_with fail
    refine (PW.out _ B1.out).mono ?_
    rintro e w2 ⟨rfl, b2', hb⟩
    have B2 := Lib.hid b2'
    have X2 : Hid (Blk w2 w.heap.size 24 #[.int .i64 m.regs, .slice aa m.args.length ac, .int .i64 m.ret, .slice sa m.saved.length sc]) := X1.out.below hb.out X1.out.lt
    clear b2' hb X1 B1 c0 c1 c2 c3
    have c0 := X2.out.cell 0
    have c1 := X2.out.cell 1
    have c2 := X2.out.cell 2
    have c3 := X2.out.cell 3
    go_wp2_with fail
    refine (RI.out _ B2.out).mono ?_
    rintro e w3 ⟨rfl, b3', hb⟩
    have BX := Lib.hid b3'
    clear b3' hb X2 B2 c0 c1 c2 c3 RI PW
    go_wp2_with fail
    refine (PS.out _ BX.out).mono ?_
    rintro e wa ⟨a3, c3, s3, d3, rfl, hm3, hb3, _⟩
    have hx3 : Below wa.heap.size wa (wa.alloc (.cells #[.int .i64 n.regs, .slice a3 n.args.length c3, .int .i64 n.ret, .slice s3 n.saved.length d3] 24)) := (Below.refl _ _).alloc (Nat.le_refl _) _
    have M3 : Hid (MaW (wa.alloc (.cells #[.int .i64 n.regs, .slice a3 n.args.length c3, .int .i64 n.ret, .slice s3 n.saved.length d3] 24)) n a3 s3) := hm3.below hx3
    have B3 : Hid (Below w.heap.size w (wa.alloc (.cells #[.int .i64 n.regs, .slice a3 n.args.length c3, .int .i64 n.ret, .slice s3 n.saved.length d3] 24))) := hb3.trans (hx3.mono hb3.size)
    have X3 : Hid (Blk (wa.alloc (.cells #[.int .i64 n.regs, .slice a3 n.args.length c3, .int .i64 n.ret, .slice s3 n.saved.length d3] 24)) wa.heap.size 24 #[.int .i64 n.regs, .slice a3 n.args.length c3, .int .i64 n.ret, .slice s3 n.saved.length d3]) := Blk.new wa _ _
    clear hm3 hb3 hx3
    by_cases hE : E = 0
    · obtain ⟨hn1, hn2, hn3⟩ := NR.out hE
      subst hE
      have PN := Lib.hid (PRr.out n a3 s3 c3 d3 _ hn1 NL.out.1 NL.out.2 M3.out B3.out)
      have QN := Lib.hid (PT.out n hn1)
      clear PS NR NZ
      have c0 := X3.out.cell 0
      have c1 := X3.out.cell 1
      have c2 := X3.out.cell 2
      have c3' := X3.out.cell 3
      go_wp2_with fail
      refine PN.out.mono ?_
      rintro e w4 ⟨rfl, hb4, hl4⟩
      have M4 : Hid (MaW w4 n a3 s3) := M3.out.below hl4
      have X4 : Hid (Blk w4 wa.heap.size 24 #[.int .i64 n.regs, .slice a3 n.args.length c3, .int .i64 n.ret, .slice s3 n.saved.length d3]) := X3.out.below hl4 X3.out.lt
      have B4 := Lib.hid hb4
      clear c0 c1 c2 c3' hb4 hl4 M3 X3 B3 PN
      go_wp2_with fail
      refine (QN.out _ B4.out).mono ?_
      rintro e w5 ⟨a5, c5, s5, d5, rfl, hm5, hb5, hl5⟩
      have hx5 : Below w5.heap.size w5 (w5.alloc (.cells #[.int .i64 n.regs, .slice a5 n.args.length c5, .int .i64 n.ret, .slice s5 n.saved.length d5] 24)) := (Below.refl _ _).alloc (Nat.le_refl _) _
      have M5 : Hid (MaW (w5.alloc (.cells #[.int .i64 n.regs, .slice a5 n.args.length c5, .int .i64 n.ret, .slice s5 n.saved.length d5] 24)) n a5 s5) := hm5.below hx5
      have M6 : Hid (MaW (w5.alloc (.cells #[.int .i64 n.regs, .slice a5 n.args.length c5, .int .i64 n.ret, .slice s5 n.saved.length d5] 24)) n a3 s3) := (M4.out.below hl5).below hx5
      have B5 : Hid (Below w.heap.size w (w5.alloc (.cells #[.int .i64 n.regs, .slice a5 n.args.length c5, .int .i64 n.ret, .slice s5 n.saved.length d5] 24))) := hb5.trans (hx5.mono hb5.size)
      have X5 : Hid (Blk (w5.alloc (.cells #[.int .i64 n.regs, .slice a5 n.args.length c5, .int .i64 n.ret, .slice s5 n.saved.length d5] 24)) w5.heap.size 24 #[.int .i64 n.regs, .slice a5 n.args.length c5, .int .i64 n.ret, .slice s5 n.saved.length d5]) := Blk.new w5 _ _
      have X6 : Hid (Blk (w5.alloc (.cells #[.int .i64 n.regs, .slice a5 n.args.length c5, .int .i64 n.ret, .slice s5 n.saved.length d5] 24)) wa.heap.size 24 #[.int .i64 n.regs, .slice a3 n.args.length c3, .int .i64 n.ret, .slice s3 n.saved.length d3]) := (X4.out.below hl5 X4.out.lt).alloc _
      have SS := Lib.hid (SA.out n a5 s5 a3 s3 c5 d5 c3 d3 _ NL.out.1 NL.out.2 M5.out M6.out B5.out)
      have e0 := X5.out.cell 0
      have e1 := X5.out.cell 1
      have e2 := X5.out.cell 2
      have e3 := X5.out.cell 3
      have g0 := X6.out.cell 0
      have g1 := X6.out.cell 1
      have g2 := X6.out.cell 2
      have g3 := X6.out.cell 3
      clear hm5 hb5 hl5 hx5 M4 X4 B4 M5 M6 X5 X6 QN
      go_wp2_with fail
      refine SS.out.mono ?_
      rintro e w7 ⟨rfl, hb7, _⟩
      have B7 := Lib.hid hb7
      clear hb7 e0 e1 e2 e3 g0 g1 g2 g3 SS B5
      go_wp2
      go_ret
      exact ⟨rfl, B7.out⟩
    · have hq : (E == 0) = false := by simpa using hE
      have hno := NZ.out hE
      have SS : Hid (Calls Tryd.prog 8 #[.agg #[.int .i64 n.regs, .slice a3 n.args.length c3, .int .i64 n.ret, .slice s3 n.saved.length d3], .agg #[.int .i64 0, .slice none 0 0, .int .i64 0, .slice none 0 0]] (wa.alloc (.cells #[.int .i64 n.regs, .slice a3 n.args.length c3, .int .i64 n.ret, .slice s3 n.saved.length d3] 24)) fun e w' => e = .returned (.bool true) ∧ Below w.heap.size w w' ∧ Hid (Below (wa.alloc (.cells #[.int .i64 n.regs, .slice a3 n.args.length c3, .int .i64 n.ret, .slice s3 n.saved.length d3] 24)).heap.size (wa.alloc (.cells #[.int .i64 n.regs, .slice a3 n.args.length c3, .int .i64 n.ret, .slice s3 n.saved.length d3] 24)) w')) := by
        have h := SA.out n a3 s3 none none c3 d3 0 0 _ NL.out.1 NL.out.2 M3.out (by rw [hno]; exact ⟨IntsW.nil _ _, IntsW.nil _ _⟩) B3.out
        rw [hno] at h ⊢
        exact h
      have c0 := X3.out.cell 0
      have c1 := X3.out.cell 1
      have c2 := X3.out.cell 2
      have c3' := X3.out.cell 3
      clear PS NR NZ hno
      go_wp2_with fail
      refine SS.out.mono ?_
      rintro e w4 ⟨rfl, hb4, _⟩
      have B4 := Lib.hid hb4
      clear hb4 c0 c1 c2 c3' SS B3 M3 X3
      go_wp2
      go_ret
      exact ⟨rfl, B4.out⟩
  · have LO : Hid (∀ W, Below w.heap.size w W → Calls Tryd.prog 9 #[.agg #[.int .i64 m.regs, .slice aa m.args.length ac, .int .i64 m.ret, .slice sa m.saved.length sc]] W fun e w' => ∃ a c, e = .returned (.slice a m.lostL.length c) ∧ IntsW w' a m.lostL ∧ Below w.heap.size w w' ∧ Hid (Below W.heap.size W w')) := fun W h =>
      (lost_any m aa sa ac sc W hl hs (HW.out.below h)).mono fun e w' ⟨a, c, x, y, z⟩ => ⟨a, c, x, IntsW.own y, h.trans (z.mono h.size), z⟩
    have KE : Hid (∀ W, Below w.heap.size w W → Calls Tryd.prog 10 #[.agg #[.int .i64 m.regs, .slice aa m.args.length ac, .int .i64 m.ret, .slice sa m.saved.length sc]] W fun e w' => ∃ a c, e = .returned (.slice a m.saved.length c) ∧ Below w.heap.size w w' ∧ Hid (Below W.heap.size W w')) := fun W h =>
      (keeps_any m aa sa ac sc W hl hs (HW.out.below h)).mono fun e w' ⟨a, c, x, _, z⟩ => ⟨a, c, by rw [x, keeps_right hr], h.trans (z.mono h.size), z⟩
    have IS : Hid (∀ (i : Nat) x W, m.lostL[i]? = some x → Below w.heap.size w W → Calls Tryd.prog 11 #[.agg #[.int .i64 m.regs, .slice aa m.args.length ac, .int .i64 m.ret, .slice sa m.saved.length sc], .int .i64 x] W fun e w' => e = .returned (.bool false) ∧ Below w.heap.size w w' ∧ Hid (Below W.heap.size W w')) := fun i x W hx h =>
      (isSaved_any m aa sa ac sc x W hl hs (HW.out.below h)).mono fun e w' ⟨y, z⟩ => ⟨by rw [y, saved_not (lost_not hr (List.mem_of_getElem? hx))], h.trans (z.mono h.size), z⟩
    have LLen := lost_all_len hr
    have LR := Lib.hid (ret_lost hr)
    have LP : Hid (∀ (i j : Nat) x y, i < j → m.lostL[i]? = some x → m.lostL[j]? = some y → x < y) := fun i j x y h1 h2 h3 => lost_rises hr h1 h2 h3
    obtain ⟨r1, r2, _, _⟩ := regs_bound hr
    have PM := Lib.hid (PRr.out m aa sa ac sc)
    have QM := Lib.hid (PT.out m hr)
    have HRT : Hid (m.rightB = true) := hr
    rw [hr] at RI
    clear hr
    generalize m.lostL = Ls at *
    have b3 : Ls.length ≤ 64 := by omega
    have hwr : IntKind.i64.wrap m.regs = m.regs := by rw [IntKind.wrap_i64]; omega
    go_enter Tryd.func3, Tryd.ntmps3
    go_wp2_with fail
    refine (AW.out _ HB0.out).mono ?_
    rintro e w1 ⟨rfl, b1', hb⟩
    have B1 := Lib.hid b1'
    have X1 : Hid (Blk w1 w.heap.size 24 #[.int .i64 m.regs, .slice aa m.args.length ac, .int .i64 m.ret, .slice sa m.saved.length sc]) := HX0.out.below hb.out HX0.out.lt
    have P1 := Lib.hid (PM.out w1 HRT.out (by omega) (by omega) (HW.out.below B1.out) B1.out)
    have c0 := X1.out.cell 0
    have c1 := X1.out.cell 1
    have c2 := X1.out.cell 2
    have c3 := X1.out.cell 3
    clear b1' hb HX0 HB0 AW PM
    go_wp2_with fail
    refine P1.out.mono ?_
    rintro e w2 ⟨rfl, b2', hb⟩
    have B2 := Lib.hid b2'
    have X2 : Hid (Blk w2 w.heap.size 24 #[.int .i64 m.regs, .slice aa m.args.length ac, .int .i64 m.ret, .slice sa m.saved.length sc]) := X1.out.below hb X1.out.lt
    clear b2' hb X1 B1 c0 c1 c2 c3 P1
    have c0 := X2.out.cell 0
    have c1 := X2.out.cell 1
    have c2 := X2.out.cell 2
    have c3 := X2.out.cell 3
    go_wp2_with fail
    refine (RI.out _ B2.out).mono ?_
    rintro e w3 ⟨rfl, b3', hb⟩
    have B3' := Lib.hid b3'
    have X3' : Hid (Blk w3 w.heap.size 24 #[.int .i64 m.regs, .slice aa m.args.length ac, .int .i64 m.ret, .slice sa m.saved.length sc]) := X2.out.below hb.out X2.out.lt
    clear b3' hb X2 B2 c0 c1 c2 c3 RI
    go_wp2_with fail
    refine (QM.out _ B3'.out).mono ?_
    rintro e w4 ⟨a4, c4, s4, d4, rfl, hm4, hb4, hl4⟩
    have hx4 : Below w4.heap.size w4 (w4.alloc (.cells #[.int .i64 m.regs, .slice a4 m.args.length c4, .int .i64 m.ret, .slice s4 m.saved.length d4] 24)) := (Below.refl _ _).alloc (Nat.le_refl _) _
    have M4 : Hid (MaW (w4.alloc (.cells #[.int .i64 m.regs, .slice a4 m.args.length c4, .int .i64 m.ret, .slice s4 m.saved.length d4] 24)) m a4 s4) := hm4.below hx4
    have B4 : Hid (Below w.heap.size w (w4.alloc (.cells #[.int .i64 m.regs, .slice a4 m.args.length c4, .int .i64 m.ret, .slice s4 m.saved.length d4] 24))) := hb4.trans (hx4.mono hb4.size)
    have X4 : Hid (Blk (w4.alloc (.cells #[.int .i64 m.regs, .slice a4 m.args.length c4, .int .i64 m.ret, .slice s4 m.saved.length d4] 24)) w4.heap.size 24 #[.int .i64 m.regs, .slice a4 m.args.length c4, .int .i64 m.ret, .slice s4 m.saved.length d4]) := Blk.new w4 _ _
    have Y4 : Hid (Blk (w4.alloc (.cells #[.int .i64 m.regs, .slice a4 m.args.length c4, .int .i64 m.ret, .slice s4 m.saved.length d4] 24)) w.heap.size 24 #[.int .i64 m.regs, .slice aa m.args.length ac, .int .i64 m.ret, .slice sa m.saved.length sc]) := (X3'.out.below hl4 X3'.out.lt).alloc _
    have S4 := Lib.hid (SA.out m a4 s4 aa sa c4 d4 ac sc _ (by omega) (by omega) M4.out (HW.out.below B4.out) B4.out)
    clear hm4 hb4 hl4 hx4 QM X3' B3' M4
    have e0 := X4.out.cell 0
    have e1 := X4.out.cell 1
    have e2 := X4.out.cell 2
    have e3 := X4.out.cell 3
    have c0 := Y4.out.cell 0
    have c1 := Y4.out.cell 1
    have c2 := Y4.out.cell 2
    have c3 := Y4.out.cell 3
    go_wp2_with fail
    refine S4.out.mono ?_
    rintro e w5 ⟨rfl, hb5, hl5⟩
    have B5 := Lib.hid hb5
    have X5 : Hid (Blk w5 w.heap.size 24 #[.int .i64 m.regs, .slice aa m.args.length ac, .int .i64 m.ret, .slice sa m.saved.length sc]) := Y4.out.below hl5.out Y4.out.lt
    clear hb5 hl5 S4 X4 Y4 B4 e0 e1 e2 e3 c0 c1 c2 c3
    have c0 := X5.out.cell 0
    have c1 := X5.out.cell 1
    have c2 := X5.out.cell 2
    have c3 := X5.out.cell 3
    go_wp2_with fail
    refine (LO.out _ B5.out).mono ?_
    rintro e w6 ⟨la, lc, rfl, hi6, hb6, hl6⟩
    have B6 := Lib.hid hb6
    have I6 := Lib.hid hi6
    have X6 : Hid (Blk w6 w.heap.size 24 #[.int .i64 m.regs, .slice aa m.args.length ac, .int .i64 m.ret, .slice sa m.saved.length sc]) := X5.out.below hl6.out X5.out.lt
    clear hb6 hl6 hi6 X5 B5 c0 c1 c2 c3 LO
    have HS : Hid (∀ W, Below w6.heap.size w6 W → Below w6.heap.size w6 W ∧ W.cell? ⟨w.heap.size, 0, none⟩ = some (.int .i64 m.regs) ∧ W.cell? ⟨w.heap.size, 1, none⟩ = some (.slice aa m.args.length ac) ∧ W.cell? ⟨w.heap.size, 2, none⟩ = some (.int .i64 m.ret) ∧ W.cell? ⟨w.heap.size, 3, none⟩ = some (.slice sa m.saved.length sc)) := fun W h => ⟨h, boxMa (X6.out.below h X6.out.lt)⟩
    have KE6 : Hid (∀ W, Below w6.heap.size w6 W → Calls Tryd.prog 10 #[.agg #[.int .i64 m.regs, .slice aa m.args.length ac, .int .i64 m.ret, .slice sa m.saved.length sc]] W fun e w' => ∃ a c, e = .returned (.slice a m.saved.length c) ∧ Below w6.heap.size w6 w') := fun W h =>
      (KE.out W (B6.out.trans (h.mono B6.out.size))).mono fun e w' ⟨a, c, x, _, z⟩ => ⟨a, c, x, h.trans (z.out.mono h.size)⟩
    obtain ⟨c0, c1, c2, c3⟩ := boxMa X6.out
    clear KE
    go_upto_region 13 with fail
    go_region_held3 (fun W => Below w6.heap.size w6 W ∧ W.cell? ⟨w.heap.size, 0, none⟩ = some (.int .i64 m.regs) ∧ W.cell? ⟨w.heap.size, 1, none⟩ = some (.slice aa m.args.length ac) ∧ W.cell? ⟨w.heap.size, 2, none⟩ = some (.int .i64 m.ret) ∧ W.cell? ⟨w.heap.size, 3, none⟩ = some (.slice sa m.saved.length sc))
      (first | (refine HS.out _ ?_; (repeat (first | with_reducible apply belM_alloc | with_reducible apply belM_drew)); (first | exact Below.refl _ _ | assumption)))
      (first | (go_at_call 10; refine (KE6.out _ (by go_split_ands; assumption)).mono ?_; rintro e w7 ⟨ka, kc, rfl, hb7⟩))
    have B7 : Hid (Below w.heap.size w w7) := B6.out.trans (hb7.mono B6.out.size)
    have X7 : Hid (Blk w7 w.heap.size 24 #[.int .i64 m.regs, .slice aa m.args.length ac, .int .i64 m.ret, .slice sa m.saved.length sc]) := X6.out.below hb7 X6.out.lt
    have I7 : Hid (IntsW w7 la Ls) := I6.out.below hb7
    clear hb7 X6 B6 I6 HS KE6 c0 c1 c2 c3
    obtain ⟨x0, hx0⟩ : ∃ x0, Ls[0]? = some x0 := ⟨_, List.getElem?_eq_getElem (by
      have h := LR.out
      rw [List.contains_eq_mem, decide_eq_true_eq] at h
      exact List.length_pos_of_mem h)⟩
    obtain ⟨g, o, rfl, _, _⟩ := I7.out 0 x0 hx0
    clear hx0
    go_wp2
    go_loopw [10, 11] (fun v k wr => ∃ i : Int, v = .bool ((Ls.take i.toNat).contains m.ret) ∧ k = .int .i64 i ∧ 0 ≤ i ∧ i ≤ Ls.length ∧ IntsW wr (some ⟨g, o, none⟩) Ls ∧ Blk wr w.heap.size 24 #[.int .i64 m.regs, .slice aa m.args.length ac, .int .i64 m.ret, .slice sa m.saved.length sc] ∧ Below w.heap.size w wr) (fun _ k _ => Ls.length - (intOf k).toNat)
    case atStart => exact ⟨0, by simp, rfl, by omega, by omega, I7.out, X7.out, B7.out⟩
    case round =>
      obtain ⟨i, rfl, rfl, hi0, hi1, hI, hX, hB⟩ := hrel
      have HI := Lib.hid hI
      have HX := Lib.hid hX
      have HB := Lib.hid hB
      clear hI hX hB I7 X7 B7
      generalize hc : (Ls.take i.toNat).contains m.ret = b
      have HC := Lib.hid hc
      clear hc
      by_cases hlt : i < Ls.length
      · obtain ⟨x, hx⟩ : ∃ x, Ls[i.toNat]? = some x := ⟨_, List.getElem?_eq_getElem (by omega)⟩
        obtain ⟨g', o', e, _, h0⟩ := HI.out _ x hx
        simp only [Option.some.injEq, Addr.mk.injEq, and_true] at e
        obtain ⟨rfl, rfl⟩ := e
        have ISi := Lib.hid (fun W => IS.out i.toNat x W hx)
        have HT : Hid ((Ls.take (i + 1).toNat).contains m.ret = (b || (x == m.ret))) := by
          show _ = _
          rw [show (i + 1).toNat = i.toNat + 1 by omega, take_ret Ls i.toNat x m.ret hx, HC.out]
        have hbig : i ≤ 140737488355328 := by omega
        have ISr : Hid (∀ W, Below wr.heap.size wr W → Calls Tryd.prog 11 #[.agg #[.int .i64 m.regs, .slice aa m.args.length ac, .int .i64 m.ret, .slice sa m.saved.length sc], .int .i64 x] W fun e w' => e = .returned (.bool false) ∧ Below wr.heap.size wr w') := fun W h =>
          (ISi.out W (HB.out.trans (h.mono HB.out.size))).mono fun e w' ⟨a, _, z⟩ => ⟨a, h.trans (z.out.mono h.size)⟩
        obtain ⟨c0, c1, c2, c3⟩ := boxMa HX.out
        by_cases hz0 : i = 0
        · subst hz0
          have h00 : wr.cell? ⟨g, o, none⟩ = some (.int .i64 x) := by simpa using h0
          have hg : g < wr.heap.size := by
            obtain ⟨g', o', e, hg, _⟩ := HI.out _ x hx
            simp only [Option.some.injEq, Addr.mk.injEq, and_true] at e
            obtain ⟨rfl, rfl⟩ := e
            exact hg
          have hb0 : Below wr.heap.size wr wr.drew := (Below.refl wr.heap.size wr).drew
          have HS : Hid (∀ W, Below wr.heap.size wr W → Below wr.heap.size wr W ∧ W.cell? ⟨w.heap.size, 0, none⟩ = some (.int .i64 m.regs) ∧ W.cell? ⟨w.heap.size, 1, none⟩ = some (.slice aa m.args.length ac) ∧ W.cell? ⟨w.heap.size, 2, none⟩ = some (.int .i64 m.ret) ∧ W.cell? ⟨w.heap.size, 3, none⟩ = some (.slice sa m.saved.length sc) ∧ W.cell? ⟨g, o, none⟩ = some (.int .i64 x)) := fun W h => by
            obtain ⟨k0, k1, k2, k3⟩ := boxMa (HX.out.below h HX.out.lt)
            exact ⟨h, k0, k1, k2, k3, (h.cell hg).trans h00⟩
          clear hx LP IS ISi
          go_upto_region 19 with fail
          refine wp_region_held_drew (S := fun W => Below wr.heap.size wr W ∧ W.cell? ⟨w.heap.size, 0, none⟩ = some (.int .i64 m.regs) ∧ W.cell? ⟨w.heap.size, 1, none⟩ = some (.slice aa m.args.length ac) ∧ W.cell? ⟨w.heap.size, 2, none⟩ = some (.int .i64 m.ret) ∧ W.cell? ⟨w.heap.size, 3, none⟩ = some (.slice sa m.saved.length sc) ∧ W.cell? ⟨g, o, none⟩ = some (.int .i64 x)) (by kernel_rfl) ?_ (fun hHeld => ?_)
          · exact HS.out _ hb0
          refine wpAnyH_take (i := 0) (v := ?v_0) (by simp only [List.getElem?_toArray, List.getElem?_cons_zero]; rfl) (by kernel_rfl) (by kernel_rfl) (by kernel_rfl) (by exact fun _ _ _ h => h) (Or.inl ⟨by rfl, ?y_0⟩) (by assumption) ?_
          case y_0 => (intro w hSw; (try dsimp only at hSw); go_simp; try (with_reducible rfl))
          try simp only [Act.put, List.setIfInBounds_toArray, List.set_cons_zero, List.set_cons_succ]
          refine wpAnyH_take (i := 1) (v := ?v_1) (by simp only [List.getElem?_toArray, List.getElem?_cons_succ, List.getElem?_cons_zero]; rfl) (by kernel_rfl) (by kernel_rfl) (by kernel_rfl) (by exact fun _ _ _ h => h) (Or.inl ⟨by rfl, ?y_1⟩) (by assumption) ?_
          case y_1 => (intro w hSw; (try dsimp only at hSw); go_simp; try (with_reducible rfl))
          try simp only [Act.put, List.setIfInBounds_toArray, List.set_cons_zero, List.set_cons_succ]
          refine wpAnyH_take (i := 2) (v := ?v_2) (by simp only [List.getElem?_toArray, List.getElem?_cons_succ, List.getElem?_cons_zero]; rfl) (by kernel_rfl) (by kernel_rfl) (by kernel_rfl) (by exact fun _ _ _ h => h) (Or.inl ⟨by rfl, ?y_2⟩) (by assumption) ?_
          case y_2 => (intro w hSw; (try dsimp only at hSw); go_simp; try (with_reducible rfl))
          try simp only [Act.put, List.setIfInBounds_toArray, List.set_cons_zero, List.set_cons_succ]
          refine wpAnyH_take (i := 3) (v := ?v_3) (by simp only [List.getElem?_toArray, List.getElem?_cons_succ, List.getElem?_cons_zero]; rfl) (by kernel_rfl) (by kernel_rfl) (by kernel_rfl) (by exact fun _ _ _ h => h) (Or.inl ⟨by rfl, ?y_3⟩) (by assumption) ?_
          case y_3 => (intro w hSw; (try dsimp only at hSw); go_simp; try (with_reducible rfl))
          try simp only [Act.put, List.setIfInBounds_toArray, List.set_cons_zero, List.set_cons_succ]
          refine wpAnyH_take (i := 4) (v := ?v_4) (by simp only [List.getElem?_toArray, List.getElem?_cons_succ, List.getElem?_cons_zero]; rfl) (by kernel_rfl) (by kernel_rfl) (by kernel_rfl) (by exact fun _ _ _ h => h) (Or.inl ⟨by rfl, ?y_4⟩) (by assumption) ?_
          case y_4 => (intro w hSw; (try dsimp only at hSw); go_simp; try (with_reducible rfl))
          try simp only [Act.put, List.setIfInBounds_toArray, List.set_cons_zero, List.set_cons_succ]
          refine wpAnyH_ready (rs := [5]) (by kernel_rfl) (by simp) ?_
          refine AllReadyH.cons (by simp only [List.getElem?_toArray, List.getElem?_cons_succ, List.getElem?_cons_zero]; rfl) (fun K hK => ?_) AllReadyH.nil
          go_simp
          go_at_call 11
          refine (ISr.out _ hb0).mono ?_
          rintro e w8 ⟨rfl, hb8⟩
          (try go_wp2_with fail)
          refine hK.out _ _ ?_ (fun hHeld2 => ?_)
          · exact HS.out _ hb8
          clear hK K hHeld
          have hHeld := hHeld2
          clear hHeld2
          try simp only [Act.put, List.setIfInBounds_toArray, List.set_cons_zero, List.set_cons_succ]
          refine wpAnyH_take (i := 6) (v := ?v_6) (by simp only [List.getElem?_toArray, List.getElem?_cons_succ, List.getElem?_cons_zero]; rfl) (by kernel_rfl) (by kernel_rfl) (by kernel_rfl) (by exact fun _ _ _ h => h) (Or.inl ⟨by rfl, ?y_6⟩) (by assumption) ?_
          case y_6 => (intro w hSw; (try dsimp only at hSw); go_simp; try (with_reducible rfl))
          try simp only [Act.put, List.setIfInBounds_toArray, List.set_cons_zero, List.set_cons_succ]
          refine wpAnyH_take (i := 7) (v := ?v_7) (by simp only [List.getElem?_toArray, List.getElem?_cons_succ, List.getElem?_cons_zero]; rfl) (by kernel_rfl) (by kernel_rfl) (by kernel_rfl) (by exact fun _ _ _ h => h) (Or.inl ⟨by rfl, ?y_7⟩) (by assumption) ?_
          case y_7 => (intro w hSw; (try dsimp only at hSw); go_simp; try (with_reducible rfl))
          try simp only [Act.put, List.setIfInBounds_toArray, List.set_cons_zero, List.set_cons_succ]
          refine wpAnyH_take (i := 8) (v := ?v_8) (by simp only [List.getElem?_toArray, List.getElem?_cons_succ, List.getElem?_cons_zero]; rfl) (by kernel_rfl) (by kernel_rfl) (by kernel_rfl) (by exact fun _ _ _ h => h) (Or.inl ⟨by rfl, ?y_8⟩) (by assumption) ?_
          case y_8 => (intro w hSw; (try dsimp only at hSw); go_simp; try (with_reducible rfl))
          try simp only [Act.put, List.setIfInBounds_toArray, List.set_cons_zero, List.set_cons_succ]
          refine wpAnyH_take (i := 9) (v := ?v_9) (by simp only [List.getElem?_toArray, List.getElem?_cons_succ, List.getElem?_cons_zero]; rfl) (by kernel_rfl) (by kernel_rfl) (by kernel_rfl) (by exact fun _ _ _ h => h) (Or.inl ⟨by rfl, ?y_9⟩) (by assumption) ?_
          case y_9 => (intro w hSw; (try dsimp only at hSw); go_simp; try (with_reducible rfl))
          try simp only [Act.put, List.setIfInBounds_toArray, List.set_cons_zero, List.set_cons_succ]
          refine wpAnyH_take (i := 10) (v := undef) (by simp only [List.getElem?_toArray, List.getElem?_cons_succ, List.getElem?_cons_zero]; rfl) (by kernel_rfl) (by kernel_rfl) (by kernel_rfl) (by exact fun _ _ _ h => h) (Or.inr ⟨by rfl, rfl⟩) (by assumption) ?_
          try simp only [Act.put, List.setIfInBounds_toArray, List.set_cons_zero, List.set_cons_succ]
          refine wpAnyH_take (i := 11) (v := undef) (by simp only [List.getElem?_toArray, List.getElem?_cons_succ, List.getElem?_cons_zero]; rfl) (by kernel_rfl) (by kernel_rfl) (by kernel_rfl) (by exact fun _ _ _ h => h) (Or.inr ⟨by rfl, rfl⟩) (by assumption) ?_
          try simp only [Act.put, List.setIfInBounds_toArray, List.set_cons_zero, List.set_cons_succ]
          refine wpAnyH_take (i := 12) (v := undef) (by simp only [List.getElem?_toArray, List.getElem?_cons_succ, List.getElem?_cons_zero]; rfl) (by kernel_rfl) (by kernel_rfl) (by kernel_rfl) (by exact fun _ _ _ h => h) (Or.inr ⟨by rfl, rfl⟩) (by assumption) ?_
          try simp only [Act.put, List.setIfInBounds_toArray, List.set_cons_zero, List.set_cons_succ]
          refine wpAnyH_take (i := 13) (v := undef) (by simp only [List.getElem?_toArray, List.getElem?_cons_succ, List.getElem?_cons_zero]; rfl) (by kernel_rfl) (by kernel_rfl) (by kernel_rfl) (by exact fun _ _ _ h => h) (Or.inr ⟨by rfl, rfl⟩) (by assumption) ?_
          try simp only [Act.put, List.setIfInBounds_toArray, List.set_cons_zero, List.set_cons_succ]
          refine wpAnyH_take (i := 14) (v := undef) (by simp only [List.getElem?_toArray, List.getElem?_cons_succ, List.getElem?_cons_zero]; rfl) (by kernel_rfl) (by kernel_rfl) (by kernel_rfl) (by exact fun _ _ _ h => h) (Or.inr ⟨by rfl, rfl⟩) (by assumption) ?_
          try simp only [Act.put, List.setIfInBounds_toArray, List.set_cons_zero, List.set_cons_succ]
          refine wpAnyH_take (i := 15) (v := undef) (by simp only [List.getElem?_toArray, List.getElem?_cons_succ, List.getElem?_cons_zero]; rfl) (by kernel_rfl) (by kernel_rfl) (by kernel_rfl) (by exact fun _ _ _ h => h) (Or.inr ⟨by rfl, rfl⟩) (by assumption) ?_
          try simp only [Act.put, List.setIfInBounds_toArray, List.set_cons_zero, List.set_cons_succ]
          refine wpAnyH_take (i := 16) (v := undef) (by simp only [List.getElem?_toArray, List.getElem?_cons_succ, List.getElem?_cons_zero]; rfl) (by kernel_rfl) (by kernel_rfl) (by kernel_rfl) (by exact fun _ _ _ h => h) (Or.inr ⟨by rfl, rfl⟩) (by assumption) ?_
          try simp only [Act.put, List.setIfInBounds_toArray, List.set_cons_zero, List.set_cons_succ]
          refine wpAnyH_take (i := 17) (v := undef) (by simp only [List.getElem?_toArray, List.getElem?_cons_succ, List.getElem?_cons_zero]; rfl) (by kernel_rfl) (by kernel_rfl) (by kernel_rfl) (by exact fun _ _ _ h => h) (Or.inr ⟨by rfl, rfl⟩) (by assumption) ?_
          try simp only [Act.put, List.setIfInBounds_toArray, List.set_cons_zero, List.set_cons_succ]
          refine wpAnyH_take (i := 18) (v := undef) (by simp only [List.getElem?_toArray, List.getElem?_cons_succ, List.getElem?_cons_zero]; rfl) (by kernel_rfl) (by kernel_rfl) (by kernel_rfl) (by exact fun _ _ _ h => h) (Or.inr ⟨by rfl, rfl⟩) (by assumption) ?_
          try simp only [Act.put, List.setIfInBounds_toArray, List.set_cons_zero, List.set_cons_succ]
          refine wpAnyH_take (i := 19) (v := undef) (by simp only [List.getElem?_toArray, List.getElem?_cons_succ, List.getElem?_cons_zero]; rfl) (by kernel_rfl) (by kernel_rfl) (by kernel_rfl) (by exact fun _ _ _ h => h) (Or.inr ⟨by rfl, rfl⟩) (by assumption) ?_
          try simp only [Act.put, List.setIfInBounds_toArray, List.set_cons_zero, List.set_cons_succ]
          refine wpAnyH_take (i := 20) (v := ?v_20) (by simp only [List.getElem?_toArray, List.getElem?_cons_succ, List.getElem?_cons_zero]; rfl) (by kernel_rfl) (by kernel_rfl) (by kernel_rfl) (by exact fun _ _ _ h => h) (Or.inl ⟨by rfl, ?y_20⟩) (by assumption) ?_
          case y_20 => (intro w hSw; (try dsimp only at hSw); go_simp; try (with_reducible rfl))
          try simp only [Act.put, List.setIfInBounds_toArray, List.set_cons_zero, List.set_cons_succ]
          refine wpAnyH_take (i := 21) (v := ?v_21) (by simp only [List.getElem?_toArray, List.getElem?_cons_succ, List.getElem?_cons_zero]; rfl) (by kernel_rfl) (by kernel_rfl) (by kernel_rfl) (by exact fun _ _ _ h => h) (Or.inl ⟨by rfl, ?y_21⟩) (by assumption) ?_
          case y_21 => (intro w hSw; (try dsimp only at hSw); go_simp; try (with_reducible rfl))
          try simp only [Act.put, List.setIfInBounds_toArray, List.set_cons_zero, List.set_cons_succ]
          refine wpAnyH_done (by kernel_rfl) ?_ _
          clear hHeld
          obtain ⟨k0, k1, k2, k3⟩ := boxMa (HX.out.below hb8 HX.out.lt)
          have h8 := (hb8.cell hg).trans h00
          have X8 : Hid (Blk w8 w.heap.size 24 #[.int .i64 m.regs, .slice aa m.args.length ac, .int .i64 m.ret, .slice sa m.saved.length sc]) := HX.out.below hb8 HX.out.lt
          have I8 : Hid (IntsW w8 (some ⟨g, o, none⟩) Ls) := HI.out.below hb8
          have B8 : Hid (Below w.heap.size w w8) := HB.out.trans (hb8.mono HB.out.size)
          clear c0 c1 c2 c3 ISr HS hb0
          cases b
          · by_cases hxr : x = m.ret
            · have hxe : (x == m.ret) = true := by simpa using hxr
              subst hxr
              go_wp2
              go_quiet (fail)
              go_wp2
              go_roundw
              case rel => exact ⟨0 + 1, by rw [HT.out]; simp, by go_num, by omega, by omega, I8.out.below (below_draws (Below.refl _ _) _), X8.out.below (below_draws (Below.refl _ _) _) X8.out.lt, below_draws B8.out _⟩
              case measure => simp [intOf]; omega
            · have hxe : (x == m.ret) = false := by simpa using hxr
              go_wp2
              go_quiet (fail)
              go_wp2
              go_roundw
              case rel => exact ⟨0 + 1, by rw [HT.out]; simp [hxr], by go_num, by omega, by omega, I8.out.below (below_draws (Below.refl _ _) _), X8.out.below (below_draws (Below.refl _ _) _) X8.out.lt, below_draws B8.out _⟩
              case measure => simp [intOf]; omega
          · go_wp2
            go_quiet (fail)
            go_wp2
            go_roundw
            case rel => exact ⟨0 + 1, by rw [HT.out]; simp, by go_num, by omega, by omega, I8.out.below (below_draws (Below.refl _ _) _), X8.out.below (below_draws (Below.refl _ _) _) X8.out.lt, below_draws B8.out _⟩
            case measure => simp [intOf]; omega
        · have h1i : 1 ≤ i := by omega
          have hm1 : 0 ≤ i - 1 := by omega
          have hm2 : i - 1 < Ls.length := by omega
          have hwi : IntKind.i64.wrap (i - 1) = i - 1 := by rw [IntKind.wrap_i64]; omega
          have hgt : decide (0 < i) = true := decide_eq_true (by omega)
          obtain ⟨y, hy⟩ : ∃ y, Ls[i.toNat - 1]? = some y := ⟨_, List.getElem?_eq_getElem (by omega)⟩
          have hyx := LP.out (i.toNat - 1) i.toNat y x (by omega) hy hx
          have hle : decide (x ≤ y) = false := decide_eq_false (by omega)
          obtain ⟨g', o', e, hg, h1⟩ := HI.out _ y hy
          simp only [Option.some.injEq, Addr.mk.injEq, and_true] at e
          obtain ⟨rfl, rfl⟩ := e
          have HS : Hid (∀ W, Below wr.heap.size wr W → Below wr.heap.size wr W ∧ W.cell? ⟨w.heap.size, 0, none⟩ = some (.int .i64 m.regs) ∧ W.cell? ⟨w.heap.size, 1, none⟩ = some (.slice aa m.args.length ac) ∧ W.cell? ⟨w.heap.size, 2, none⟩ = some (.int .i64 m.ret) ∧ W.cell? ⟨w.heap.size, 3, none⟩ = some (.slice sa m.saved.length sc) ∧ W.cell? ⟨g, o + i.toNat, none⟩ = some (.int .i64 x) ∧ W.cell? ⟨g, o + (i.toNat - 1), none⟩ = some (.int .i64 y)) := fun W h => by
            obtain ⟨k0, k1, k2, k3⟩ := boxMa (HX.out.below h HX.out.lt)
            exact ⟨h, k0, k1, k2, k3, (h.cell hg).trans h0, (h.cell hg).trans h1⟩
          clear hx hy LP IS ISi
          go_upto_region 19 with fail
          go_region_held3 (fun W => Below wr.heap.size wr W ∧ W.cell? ⟨w.heap.size, 0, none⟩ = some (.int .i64 m.regs) ∧ W.cell? ⟨w.heap.size, 1, none⟩ = some (.slice aa m.args.length ac) ∧ W.cell? ⟨w.heap.size, 2, none⟩ = some (.int .i64 m.ret) ∧ W.cell? ⟨w.heap.size, 3, none⟩ = some (.slice sa m.saved.length sc) ∧ W.cell? ⟨g, o + i.toNat, none⟩ = some (.int .i64 x) ∧ W.cell? ⟨g, o + (i.toNat - 1), none⟩ = some (.int .i64 y))
            (first | (refine HS.out _ ?_; (repeat (first | with_reducible apply belM_alloc | with_reducible apply belM_drew)); (first | exact Below.refl _ _ | assumption)))
            (first | (go_at_call 11; refine (ISr.out _ (by go_split_ands; assumption)).mono ?_; rintro e w8 ⟨rfl, hb8⟩))
          all_goals (
            obtain ⟨k0, k1, k2, k3⟩ := boxMa (HX.out.below hb8 HX.out.lt)
            have h8 := (hb8.cell hg).trans h0
            have X8 : Hid (Blk w8 w.heap.size 24 #[.int .i64 m.regs, .slice aa m.args.length ac, .int .i64 m.ret, .slice sa m.saved.length sc]) := HX.out.below hb8 HX.out.lt
            have I8 : Hid (IntsW w8 (some ⟨g, o, none⟩) Ls) := HI.out.below hb8
            have B8 : Hid (Below w.heap.size w w8) := HB.out.trans (hb8.mono HB.out.size)
            clear c0 c1 c2 c3 HS ISr h1 hle hgt
            cases b
            · by_cases hxr : x = m.ret
              · have hxe : (x == m.ret) = true := by simpa using hxr
                subst hxr
                go_wp2
                go_quiet (fail)
                go_wp2
                go_roundw
                case rel => exact ⟨i + 1, by rw [HT.out]; simp, by go_num, by omega, by omega, I8.out.below (below_draws (Below.refl _ _) _), X8.out.below (below_draws (Below.refl _ _) _) X8.out.lt, below_draws B8.out _⟩
                case measure => simp [intOf]; omega
              · have hxe : (x == m.ret) = false := by simpa using hxr
                go_wp2
                go_quiet (fail)
                go_wp2
                go_roundw
                case rel => exact ⟨i + 1, by rw [HT.out]; simp [hxr], by go_num, by omega, by omega, I8.out.below (below_draws (Below.refl _ _) _), X8.out.below (below_draws (Below.refl _ _) _) X8.out.lt, below_draws B8.out _⟩
                case measure => simp [intOf]; omega
            · go_wp2
              go_quiet (fail)
              go_wp2
              go_roundw
              case rel => exact ⟨i + 1, by rw [HT.out]; simp, by go_num, by omega, by omega, I8.out.below (below_draws (Below.refl _ _) _), X8.out.below (below_draws (Below.refl _ _) _) X8.out.lt, below_draws B8.out _⟩
              case measure => simp [intOf]; omega)
      · have hb : b = true := by
          rw [← HC.out, List.take_of_length_le (by omega)]
          exact LR.out
        subst hb
        clear HC IS LP LR HI HX
        go_wp2_with fail
        refine (PS.out _ HB.out).mono ?_
        rintro e wa ⟨a3, c3, s3, d3, rfl, hm3, hb3, _⟩
        have hx3 : Below wa.heap.size wa (wa.alloc (.cells #[.int .i64 n.regs, .slice a3 n.args.length c3, .int .i64 n.ret, .slice s3 n.saved.length d3] 24)) := (Below.refl _ _).alloc (Nat.le_refl _) _
        have M3 : Hid (MaW (wa.alloc (.cells #[.int .i64 n.regs, .slice a3 n.args.length c3, .int .i64 n.ret, .slice s3 n.saved.length d3] 24)) n a3 s3) := hm3.below hx3
        have B3 : Hid (Below w.heap.size w (wa.alloc (.cells #[.int .i64 n.regs, .slice a3 n.args.length c3, .int .i64 n.ret, .slice s3 n.saved.length d3] 24))) := hb3.trans (hx3.mono hb3.size)
        have X3 : Hid (Blk (wa.alloc (.cells #[.int .i64 n.regs, .slice a3 n.args.length c3, .int .i64 n.ret, .slice s3 n.saved.length d3] 24)) wa.heap.size 24 #[.int .i64 n.regs, .slice a3 n.args.length c3, .int .i64 n.ret, .slice s3 n.saved.length d3]) := Blk.new wa _ _
        clear hm3 hb3 hx3
        by_cases hE : E = 0
        · obtain ⟨hn1, hn2, hn3⟩ := NR.out hE
          subst hE
          have PN := Lib.hid (PRr.out n a3 s3 c3 d3 _ hn1 NL.out.1 NL.out.2 M3.out B3.out)
          have QN := Lib.hid (PT.out n hn1)
          clear PS NR NZ
          have c0 := X3.out.cell 0
          have c1 := X3.out.cell 1
          have c2 := X3.out.cell 2
          have c3' := X3.out.cell 3
          go_wp2_with fail
          refine PN.out.mono ?_
          rintro e w4 ⟨rfl, hb4, hl4⟩
          have M4 : Hid (MaW w4 n a3 s3) := M3.out.below hl4
          have X4 : Hid (Blk w4 wa.heap.size 24 #[.int .i64 n.regs, .slice a3 n.args.length c3, .int .i64 n.ret, .slice s3 n.saved.length d3]) := X3.out.below hl4 X3.out.lt
          have B4 := Lib.hid hb4
          clear c0 c1 c2 c3' hb4 hl4 M3 X3 B3 PN
          go_wp2_with fail
          refine (QN.out _ B4.out).mono ?_
          rintro e w5 ⟨a5, c5, s5, d5, rfl, hm5, hb5, hl5⟩
          have hx5 : Below w5.heap.size w5 (w5.alloc (.cells #[.int .i64 n.regs, .slice a5 n.args.length c5, .int .i64 n.ret, .slice s5 n.saved.length d5] 24)) := (Below.refl _ _).alloc (Nat.le_refl _) _
          have M5 : Hid (MaW (w5.alloc (.cells #[.int .i64 n.regs, .slice a5 n.args.length c5, .int .i64 n.ret, .slice s5 n.saved.length d5] 24)) n a5 s5) := hm5.below hx5
          have M6 : Hid (MaW (w5.alloc (.cells #[.int .i64 n.regs, .slice a5 n.args.length c5, .int .i64 n.ret, .slice s5 n.saved.length d5] 24)) n a3 s3) := (M4.out.below hl5).below hx5
          have B5 : Hid (Below w.heap.size w (w5.alloc (.cells #[.int .i64 n.regs, .slice a5 n.args.length c5, .int .i64 n.ret, .slice s5 n.saved.length d5] 24))) := hb5.trans (hx5.mono hb5.size)
          have X5 : Hid (Blk (w5.alloc (.cells #[.int .i64 n.regs, .slice a5 n.args.length c5, .int .i64 n.ret, .slice s5 n.saved.length d5] 24)) w5.heap.size 24 #[.int .i64 n.regs, .slice a5 n.args.length c5, .int .i64 n.ret, .slice s5 n.saved.length d5]) := Blk.new w5 _ _
          have X6 : Hid (Blk (w5.alloc (.cells #[.int .i64 n.regs, .slice a5 n.args.length c5, .int .i64 n.ret, .slice s5 n.saved.length d5] 24)) wa.heap.size 24 #[.int .i64 n.regs, .slice a3 n.args.length c3, .int .i64 n.ret, .slice s3 n.saved.length d3]) := (X4.out.below hl5 X4.out.lt).alloc _
          have SS := Lib.hid (SA.out n a5 s5 a3 s3 c5 d5 c3 d3 _ NL.out.1 NL.out.2 M5.out M6.out B5.out)
          have e0 := X5.out.cell 0
          have e1 := X5.out.cell 1
          have e2 := X5.out.cell 2
          have e3 := X5.out.cell 3
          have g0 := X6.out.cell 0
          have g1 := X6.out.cell 1
          have g2 := X6.out.cell 2
          have g3 := X6.out.cell 3
          clear hm5 hb5 hl5 hx5 M4 X4 B4 M5 M6 X5 X6 QN
          go_wp2_with fail
          refine SS.out.mono ?_
          rintro e w7 ⟨rfl, hb7, _⟩
          have B7 := Lib.hid hb7
          clear hb7 e0 e1 e2 e3 g0 g1 g2 g3 SS B5
          go_wp2
          go_ret
          exact ⟨rfl, B7.out⟩
        · have hq : (E == 0) = false := by simpa using hE
          have hno := NZ.out hE
          have SS : Hid (Calls Tryd.prog 8 #[.agg #[.int .i64 n.regs, .slice a3 n.args.length c3, .int .i64 n.ret, .slice s3 n.saved.length d3], .agg #[.int .i64 0, .slice none 0 0, .int .i64 0, .slice none 0 0]] (wa.alloc (.cells #[.int .i64 n.regs, .slice a3 n.args.length c3, .int .i64 n.ret, .slice s3 n.saved.length d3] 24)) fun e w' => e = .returned (.bool true) ∧ Below w.heap.size w w' ∧ Hid (Below (wa.alloc (.cells #[.int .i64 n.regs, .slice a3 n.args.length c3, .int .i64 n.ret, .slice s3 n.saved.length d3] 24)).heap.size (wa.alloc (.cells #[.int .i64 n.regs, .slice a3 n.args.length c3, .int .i64 n.ret, .slice s3 n.saved.length d3] 24)) w')) := by
            have h := SA.out n a3 s3 none none c3 d3 0 0 _ NL.out.1 NL.out.2 M3.out (by rw [hno]; exact ⟨IntsW.nil _ _, IntsW.nil _ _⟩) B3.out
            rw [hno] at h ⊢
            exact h
          have c0 := X3.out.cell 0
          have c1 := X3.out.cell 1
          have c2 := X3.out.cell 2
          have c3' := X3.out.cell 3
          clear PS NR NZ hno
          go_wp2_with fail
          refine SS.out.mono ?_
          rintro e w4 ⟨rfl, hb4, _⟩
          have B4 := Lib.hid hb4
          clear hb4 c0 c1 c2 c3' SS B3 M3 X3
          go_wp2
          go_ret
          exact ⟨rfl, B4.out⟩
end Go.Proofs.YtkfplffcegbdfaaDoor
