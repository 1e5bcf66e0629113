/-
  Which error an end of a target has, whether a target is right, how great it is, by the document. No condition beyond those that each theorem states.
-/
import Derived.Test.YtjmdgbgjleeloaaGreatDoorMiT
import Derived.Test.YtjmdgbgjleeloaaGreatDoorMiF
import Derived.Test.YtjmdgbgjleeloaaGreatDoorPk25
import Derived.Test.YtjmdgbgjleeloaaGreatDoorMrA
import Derived.Deep.RegionHeld3
namespace Go.Proofs.YtjmdgbgjleeloaaGreatDoor
open Go.RowKit

def lastD (nb : Int) (t : Tt) : Int := if withB t.t0 0 (nb - 1) = true then 0 else 9
theorem below_with2 (n v u : Int) : belowB n [v, u] = (withB v 0 (n - 1) && withB u 0 (n - 1)) := by
  unfold belowB withB
  rw [Bool.eq_iff_iff]
  simp
  omega
theorem with_nought {n : Int} (h : 1 ≤ n) : withB 0 0 (n - 1) = true := by
  unfold withB
  simp
  omega
theorem end_jump (m : Mm) (nb : Int) (t : Tt) (hr : 1 ≤ m.regs) (hn : 1 ≤ nb) (h : t.kind = 1) : ofEndN m nb t = if (t.a == 0) = true then (if (t.t1 == 0) = true then lastD nb t else 2) else 2 := by
  unfold ofEndN isEndT readsWellT lastD
  rw [if_pos h, if_neg (show ¬ t.kind = 3 by omega), below_with1, below_with2]
  cases h1 : t.a == 0
  · rfl
  cases h2 : t.t1 == 0
  · rfl
  have e1 : t.a = 0 := by simpa using h1
  have e2 : t.t1 = 0 := by simpa using h2
  rw [e1, e2, with_nought hr, with_nought hn]
  cases withB t.t0 0 (nb - 1) <;> rfl
theorem end_branch (m : Mm) (nb : Int) (t : Tt) (h : t.kind = 2) : ofEndN m nb t = if withB t.a 0 (m.regs - 1) = true then (if withB t.t1 0 (nb - 1) = true then lastD nb t else 9) else 10 := by
  unfold ofEndN isEndT readsWellT lastD
  rw [if_neg (show ¬ t.kind = 1 by omega), if_pos h, if_neg (show ¬ t.kind = 3 by omega), below_with1, below_with2]
  cases withB t.a 0 (m.regs - 1) <;> cases withB t.t1 0 (nb - 1) <;> cases withB t.t0 0 (nb - 1) <;> rfl
theorem end_return (m : Mm) (nb : Int) (t : Tt) (hn : 1 ≤ nb) (h : t.kind = 3) : ofEndN m nb t = if (t.t0 == 0 && t.t1 == 0) = true then (if (t.a == -1) = true then lastD nb t else if (t.a == m.ret) = true then lastD nb t else 10) else 2 := by
  unfold ofEndN isEndT readsWellT lastD
  rw [if_neg (show ¬ t.kind = 1 by omega), if_neg (show ¬ t.kind = 2 by omega), if_pos h, if_pos h, below_with2]
  cases h1 : t.t0 == 0
  · rfl
  cases h2 : t.t1 == 0
  · rfl
  have e1 : t.t0 = 0 := by simpa using h1
  have e2 : t.t1 = 0 := by simpa using h2
  rw [e1, e2, with_nought hn]
  cases (t.a == -1) <;> cases (t.a == m.ret) <;> rfl
theorem end_trap (m : Mm) (nb : Int) (t : Tt) (hr : 1 ≤ m.regs) (hn : 1 ≤ nb) (h : t.kind = 4) : ofEndN m nb t = if (t.a == 0) = true then (if (t.t0 == 0 && t.t1 == 0) = true then lastD nb t else 2) else 2 := by
  unfold ofEndN isEndT readsWellT lastD
  rw [if_neg (show ¬ t.kind = 1 by omega), if_neg (show ¬ t.kind = 2 by omega), if_neg (show ¬ t.kind = 3 by omega), if_pos h, if_neg (show ¬ t.kind = 3 by omega), below_with1, below_with2]
  cases h0 : t.a == 0
  · rfl
  cases h1 : t.t0 == 0
  · rfl
  cases h2 : t.t1 == 0
  · rfl
  have e0 : t.a = 0 := by simpa using h0
  have e1 : t.t0 = 0 := by simpa using h1
  have e2 : t.t1 = 0 := by simpa using h2
  rw [e0, e1, e2, with_nought hn, with_nought hr]
  rfl
theorem end_else (m : Mm) (nb : Int) (t : Tt) (h1 : ¬ t.kind = 1) (h2 : ¬ t.kind = 2) (h3 : ¬ t.kind = 3) (h4 : ¬ t.kind = 4) : ofEndN m nb t = 2 := by
  unfold ofEndN isEndT
  rw [if_neg h1, if_neg h2, if_neg h3, if_neg h4]
  rfl
set_option maxHeartbeats 8000000 in
set_option maxRecDepth 100000 in
theorem term6_any (m : Mm) (aa sa : Option Addr) (ac sc : Nat) (nb : Int) (t : Tt) (w : World) (hr : 1 ≤ m.regs ∧ m.regs ≤ 1000) (hn : 1 ≤ nb ∧ nb ≤ 1000) :
    Calls Tryz.prog 103 #[machV m aa ac sa sc, .int .i64 nb, termV t] w fun e w' => e = .returned (.int .i64 (ofEndN m nb t)) ∧ Below w.heap.size w w' := by
  have HT := Lib.hid (TwoT.new w m aa sa ac sc t)
  have HM := Lib.hid (maxC.eq_1 m aa ac sa sc)
  have HC := Lib.hid (tmC.eq_1 t)
  have HW := Lib.hid within6_any
  have hw1 : IntKind.i64.wrap (m.regs - 1) = m.regs - 1 := by rw [IntKind.wrap_i64]; omega
  have hw2 : IntKind.i64.wrap (nb - 1) = nb - 1 := by rw [IntKind.wrap_i64]; omega
  have E1 := Lib.hid (fun h => end_jump m nb t hr.1 hn.1 h)
  have E2 := Lib.hid (fun h => end_branch m nb t h)
  have E3 := Lib.hid (fun h => end_return m nb t hn.1 h)
  have E4 := Lib.hid (fun h => end_trap m nb t hr.1 hn.1 h)
  have E5 := Lib.hid (fun h1 h2 h3 h4 => end_else m nb t h1 h2 h3 h4)
  have HL := Lib.hid (lastD.eq_1 nb t)
  have hq := fun W => eql_arr2 t.t0 t.t1 0 0 W
  rw [HM.out, HC.out] at HT
  clear hr hn
  generalize ofEndN m nb t = r at *
  generalize lastD nb t = ls at *
  unfold machV termV
  rw [HM.out]
  obtain ⟨c0, c1, c2, c3⟩ := boxMa HT.out.mc
  obtain ⟨d0, d1, d2, d3⟩ := boxT HT.out.tm
  by_cases h1 : t.kind = 1
  · have q1 : (t.kind == 1) = true := by simp [h1]
    have HE := Lib.hid (E1.out h1)
    clear h1 E1 E2 E3 E4 E5
    go_enter Tryz.func103, Tryz.ntmps103
    cases ha : t.a == 0
    · have hna : (t.a != 0) = true := by simp [bne, ha]
      rw [ha, if_neg (by decide)] at HE
      go_wp2
      go_ret
      exact ⟨by rw [HE.out]; rfl, HT.out.be⟩
    have hna : (t.a != 0) = false := by simp [bne, ha]
    rw [ha, if_pos rfl] at HE
    cases hb : t.t1 == 0
    · have hnb : (t.t1 != 0) = true := by simp [bne, hb]
      rw [hb, if_neg (by decide)] at HE
      go_wp2
      go_ret
      exact ⟨by rw [HE.out]; rfl, HT.out.be⟩
    have hnb : (t.t1 != 0) = false := by simp [bne, hb]
    rw [hb, if_pos rfl] at HE
    go_wp2_with fail
    refine (HW.out _ _ _ _).mono ?_
    rintro e w1 ⟨rfl, rfl⟩
    generalize withB t.t0 0 (nb - 1) = k at *
    cases k
    · rw [if_neg (by decide)] at HL
      go_wp2
      go_ret
      exact ⟨by rw [HE.out, HL.out]; rfl, HT.out.be⟩
    · rw [if_pos rfl] at HL
      go_wp2
      go_ret
      exact ⟨by rw [HE.out, HL.out]; rfl, HT.out.be⟩
  have q1 : (t.kind == 1) = false := by simp [h1]
  by_cases h2 : t.kind = 2
  · have q2 : (t.kind == 2) = true := by simp [h2]
    have HE := Lib.hid (E2.out h2)
    clear h1 h2 E1 E2 E3 E4 E5
    go_enter Tryz.func103, Tryz.ntmps103
    go_wp2_with fail
    refine (HW.out _ _ _ _).mono ?_
    rintro e w1 ⟨rfl, rfl⟩
    generalize withB t.a 0 (m.regs - 1) = k at *
    cases k
    · rw [if_neg (by decide)] at HE
      go_wp2
      go_ret
      exact ⟨by rw [HE.out]; rfl, HT.out.be⟩
    rw [if_pos rfl] at HE
    go_wp2_with fail
    refine (HW.out _ _ _ _).mono ?_
    rintro e w1 ⟨rfl, rfl⟩
    generalize withB t.t1 0 (nb - 1) = k at *
    cases k
    · rw [if_neg (by decide)] at HE
      go_wp2
      go_ret
      exact ⟨by rw [HE.out]; rfl, HT.out.be⟩
    rw [if_pos rfl] at HE
    go_wp2_with fail
    refine (HW.out _ _ _ _).mono ?_
    rintro e w1 ⟨rfl, rfl⟩
    generalize withB t.t0 0 (nb - 1) = k at *
    cases k
    · rw [if_neg (by decide)] at HL
      go_wp2
      go_ret
      exact ⟨by rw [HE.out, HL.out]; rfl, HT.out.be⟩
    · rw [if_pos rfl] at HL
      go_wp2
      go_ret
      exact ⟨by rw [HE.out, HL.out]; rfl, HT.out.be⟩
  have q2 : (t.kind == 2) = false := by simp [h2]
  by_cases h3 : t.kind = 3
  · have q3 : (t.kind == 3) = true := by simp [h3]
    have HE := Lib.hid (E3.out h3)
    clear h1 h2 h3 E1 E2 E3 E4 E5
    go_enter Tryz.func103, Tryz.ntmps103
    cases hb : (t.t0 == 0 && t.t1 == 0)
    · rw [hb, if_neg (by decide)] at HE
      go_wp2
      go_ret
      exact ⟨by rw [HE.out]; rfl, HT.out.be⟩
    rw [hb, if_pos rfl] at HE
    cases ha : (t.a == -1)
    case true =>
      have hna : (t.a != -1) = false := by simp [bne, ha]
      rw [ha, if_pos rfl] at HE
      go_wp2_with fail
      refine (HW.out _ _ _ _).mono ?_
      rintro e w1 ⟨rfl, rfl⟩
      generalize withB t.t0 0 (nb - 1) = k at *
      cases k
      · rw [if_neg (by decide)] at HL
        go_wp2
        go_ret
        exact ⟨by rw [HE.out, HL.out]; rfl, HT.out.be⟩
      · rw [if_pos rfl] at HL
        go_wp2
        go_ret
        exact ⟨by rw [HE.out, HL.out]; rfl, HT.out.be⟩
    have hna : (t.a != -1) = true := by simp [bne, ha]
    rw [ha, if_neg (by decide)] at HE
    cases hd : (t.a == m.ret)
    · have hnd : (t.a != m.ret) = true := by simp [bne, hd]
      rw [hd, if_neg (by decide)] at HE
      go_wp2
      go_ret
      exact ⟨by rw [HE.out]; rfl, HT.out.be⟩
    have hnd : (t.a != m.ret) = false := by simp [bne, hd]
    rw [hd, if_pos rfl] at HE
    go_wp2_with fail
    refine (HW.out _ _ _ _).mono ?_
    rintro e w1 ⟨rfl, rfl⟩
    generalize withB t.t0 0 (nb - 1) = k at *
    cases k
    · rw [if_neg (by decide)] at HL
      go_wp2
      go_ret
      exact ⟨by rw [HE.out, HL.out]; rfl, HT.out.be⟩
    · rw [if_pos rfl] at HL
      go_wp2
      go_ret
      exact ⟨by rw [HE.out, HL.out]; rfl, HT.out.be⟩
  have q3 : (t.kind == 3) = false := by simp [h3]
  by_cases h4 : t.kind = 4
  · have q4 : (t.kind == 4) = true := by simp [h4]
    have HE := Lib.hid (E4.out h4)
    clear h1 h2 h3 h4 E1 E2 E3 E4 E5
    go_enter Tryz.func103, Tryz.ntmps103
    cases ha : t.a == 0
    · have hna : (t.a != 0) = true := by simp [bne, ha]
      rw [ha, if_neg (by decide)] at HE
      go_wp2
      go_ret
      exact ⟨by rw [HE.out]; rfl, HT.out.be⟩
    have hna : (t.a != 0) = false := by simp [bne, ha]
    rw [ha, if_pos rfl] at HE
    cases hb : (t.t0 == 0 && t.t1 == 0)
    · rw [hb, if_neg (by decide)] at HE
      go_wp2
      go_ret
      exact ⟨by rw [HE.out]; rfl, HT.out.be⟩
    rw [hb, if_pos rfl] at HE
    go_wp2_with fail
    refine (HW.out _ _ _ _).mono ?_
    rintro e w1 ⟨rfl, rfl⟩
    generalize withB t.t0 0 (nb - 1) = k at *
    cases k
    · rw [if_neg (by decide)] at HL
      go_wp2
      go_ret
      exact ⟨by rw [HE.out, HL.out]; rfl, HT.out.be⟩
    · rw [if_pos rfl] at HL
      go_wp2
      go_ret
      exact ⟨by rw [HE.out, HL.out]; rfl, HT.out.be⟩
  have q4 : (t.kind == 4) = false := by simp [h4]
  have HE := Lib.hid (E5.out h1 h2 h3 h4)
  clear h1 h2 h3 h4 E1 E2 E3 E4 E5
  go_enter Tryz.func103, Tryz.ntmps103
  go_wp2
  go_ret
  exact ⟨by rw [HE.out]; rfl, HT.out.be⟩
theorem right_regs {m : Mm} (h : m.rightB = true) : (1 ≤ m.regs ∧ m.regs ≤ 1000) ∧ m.args.length ≤ 1000 := by
  have h1 := ((right_iff m).1 h).small
  unfold Mm.smallB at h1
  simp at h1
  omega
def longD (t : Gg) : Bool := decide ((t.blocks.length : Int) < 1) || decide ((200 : Int) < t.blocks.length) || !withB t.frame 0 400
theorem small_doc (t : Gg) : smallT t = !(longD t || t.blocks.any fun b => decide (4000 < (b.ins.length : Int))) := by
  have hB : (t.blocks.any fun b => decide (4000 < (b.ins.length : Int))) = !(t.blocks.all fun b => !(decide (4000 < b.ins.length))) := by
    induction t.blocks with
    | nil => rfl
    | cons b l ih =>
      rw [List.any_cons, List.all_cons, ih, show decide (4000 < (b.ins.length : Int)) = decide (4000 < b.ins.length) by rw [decide_eq_decide]; omega]
      cases decide (4000 < b.ins.length) <;> simp
  unfold smallT longD withB
  rw [hB]
  have e1 : decide ((t.blocks.length : Int) < 1) = (t.blocks.length == 0) := by
    rw [Bool.eq_iff_iff, decide_eq_true_iff, beq_iff_eq]
    omega
  have e2 : decide ((200 : Int) < t.blocks.length) = decide (200 < t.blocks.length) := by rw [decide_eq_decide]; omega
  have e3 : decide (0 ≤ t.frame) = !decide (t.frame < 0) := by
    rw [Bool.eq_iff_iff]
    simp
  have e4 : decide (t.frame ≤ 400) = !decide (400 < t.frame) := by
    rw [Bool.eq_iff_iff]
    simp
  rw [e1, e2, e3, e4]
  generalize (t.blocks.length == 0) = a
  generalize decide (200 < t.blocks.length) = b
  generalize decide (t.frame < 0) = c
  generalize decide (400 < t.frame) = d
  generalize (t.blocks.all fun b => !(decide (4000 < b.ins.length))) = e
  revert a b c d e
  decide
set_option maxHeartbeats 8000000 in
set_option maxRecDepth 100000 in
theorem right6_any (m : Mm) (aa sa : Option Addr) (ac sc : Nat) (t : Gg) (ba : Option Addr) (bc : Nat) (w : World) (hl : m.args.length ≤ 140737488355328) (hs : m.saved.length ≤ 140737488355328) (hac : m.args.length ≤ ac) (hM : MaW w m aa sa) (hB : BlsW w ba t.blocks) (hS : SmallG t) :
    Calls Tryz.prog 58 #[machV m aa ac sa sc, tgV t ba bc] w fun e w' => e = .returned (.int .i64 (rightT m t)) ∧ Below w.heap.size w w' := by
  have HG0 := Lib.hid (TwoG.new w m aa sa ac sc t ba bc)
  have VM := Lib.hid (rright_any m aa sa ac sc _ hl hs hac (hM.below HG0.out.be))
  have VI := Lib.hid (fun (hr : m.rightB = true) (hf : 0 ≤ t.frame ∧ t.frame ≤ 1000) (x : Ii) (a : Option Addr) (c : Nat) (h : x.args.length ≤ 140737488355328) W => ins6_any m aa sa ac sc t.frame x a c W ⟨by have := (right_regs hr).1; omega, (right_regs hr).1.2⟩ hf hl h)
  have VE := Lib.hid (fun (hr : m.rightB = true) (hn : 1 ≤ (t.blocks.length : Int) ∧ (t.blocks.length : Int) ≤ 1000) (x : Tt) W => term6_any m aa sa ac sc t.blocks.length x W (right_regs hr).1 hn)
  have HE := Lib.hid (rightT.eq_1 m t)
  have HSD := Lib.hid (small_doc t)
  have HBL := Lib.hid hB
  have HS := Lib.hid hS
  have hbl := hS.b
  have HW := Lib.hid within6_any
  have HM := Lib.hid (maxC.eq_1 m aa ac sa sc)
  have HC := Lib.hid (tgC.eq_1 t ba bc)
  rw [HM.out, HC.out] at HG0 VM
  unfold machV at VM VI VE
  unfold insV at VI
  unfold termV at VE
  rw [HM.out] at VM VI VE
  clear hM hB hS hl hs hac
  unfold machV tgV
  rw [HM.out, HC.out]
  obtain ⟨c0, c1, c2, c3⟩ := boxMa HG0.out.mc
  go_enter Tryz.func58, Tryz.ntmps58
  go_wp2_with fail
  refine VM.out.mono ?_
  rintro e w1 ⟨rfl, hb⟩
  have HG := Lib.hid (HG0.out.below hb)
  clear hb HG0 VM c0 c1 c2 c3
  obtain ⟨d0, d1⟩ := boxG HG.out.tg
  cases h1 : m.rightB
  · rw [if_neg (by rw [h1]; decide)] at HE
    go_wp2
    go_ret
    exact ⟨by rw [HE.out]; rfl, HG.out.be⟩
  rw [if_pos h1] at HE
  have VI2 := Lib.hid (VI.out h1)
  have VE2 := Lib.hid (VE.out h1)
  clear h1 VI VE
  obtain ⟨bl, hbl0⟩ : ∃ b, b = longD t := ⟨_, rfl⟩
  rw [← hbl0] at HSD
  have HBL0 := Lib.hid hbl0
  have HN : Hid (bl = false → (1 ≤ (t.blocks.length : Int) ∧ (t.blocks.length : Int) ≤ 1000) ∧ (0 ≤ t.frame ∧ t.frame ≤ 1000)) := Lib.hid fun h => by
    rw [hbl0] at h
    unfold longD withB at h
    simp at h
    omega
  clear hbl0
  go_upto_region 3 with fail
  go_cut [5] from 14 to 29 (fun v W => v = .bool bl ∧ w1 = W)
  case first =>
    have E := Lib.hid (HBL0.out.trans (longD.eq_1 t))
    clear HBL0 HSD HE HN
    by_cases h2 : t.blocks.length = 0
    · have h3 : (t.blocks.length : Int) < 1 := by omega
      rw [decide_eq_true h3] at E
      go_wp2_with fail
      go_meet
      exact ⟨by rw [E.out]; rfl, rfl⟩
    have h3 : ¬ (t.blocks.length : Int) < 1 := by omega
    rw [decide_eq_false h3] at E
    by_cases h4 : (200 : Int) < t.blocks.length
    · rw [decide_eq_true h4] at E
      go_wp2_with fail
      go_meet
      exact ⟨by rw [E.out]; rfl, rfl⟩
    rw [decide_eq_false h4] at E
    go_wp2_with fail
    refine (HW.out _ _ _ _).mono ?_
    rintro e w2 ⟨rfl, rfl⟩
    go_wp2_with fail
    go_meet
    exact ⟨by rw [E.out]; rfl, rfl⟩
  case rest =>
    obtain ⟨rfl, rfl⟩ := hcut
    clear HBL0 d0 d1
    obtain ⟨d0, d1⟩ := boxG HG.out.tg
    go_wp2
    go_loopw [5, 6] (fun v k wr => ∃ (j : Nat) (lg : Bool), v = .bool lg ∧ k = .int .i64 j ∧ j ≤ t.blocks.length ∧ Hid (smallT t = !(lg || (t.blocks.drop j).any fun b => decide (4000 < (b.ins.length : Int)))) ∧ Hid (lg = false → (1 ≤ (t.blocks.length : Int) ∧ (t.blocks.length : Int) ≤ 1000) ∧ (0 ≤ t.frame ∧ t.frame ≤ 1000)) ∧ w1 = wr) (fun _ k _ => t.blocks.length - (intOf k).toNat)
    case atStart => exact ⟨0, bl, rfl, rfl, Nat.zero_le _, by simpa [Hid] using HSD.out, HN, rfl⟩
    case round =>
      obtain ⟨j, lg, rfl, rfl, hj, HA, HP, rfl⟩ := hrel
      clear HSD HN
      cases lg
      case true =>
        have h3 : smallT t = false := by rw [HA.out]; rfl
        rw [h3, if_neg (by decide)] at HE
        clear h3 HA HP
        by_cases hlt : (j : Int) < t.blocks.length
        · go_wp2
          go_ret
          exact ⟨by rw [HE.out]; rfl, HG.out.be⟩
        · go_wp2
          go_ret
          exact ⟨by rw [HE.out]; rfl, HG.out.be⟩
      by_cases hlt : j < t.blocks.length
      · have hlt' : (j : Int) < t.blocks.length := by omega
        have hj0 : (0 : Int) ≤ j := by omega
        obtain ⟨y, hy⟩ : ∃ y, t.blocks[j]? = some y := ⟨_, List.getElem?_eq_getElem hlt⟩
        obtain ⟨g, o, ya, yc, he, hg, hc⟩ := (HBL.out.below HG.out.be) j y hy
        subst he
        have hyi := (HS.out.i y (List.mem_of_getElem? hy)).1
        have HD : Hid (smallT t = !(decide (4000 < (y.ins.length : Int)) || (t.blocks.drop (j + 1)).any fun b => decide (4000 < (b.ins.length : Int)))) := by
          show _ = _
          rw [HA.out, List.drop_eq_getElem_cons hlt, (List.getElem?_eq_some_iff.1 hy).2]
          rfl
        have e0 := hc.c0
        clear hy HA hc
        by_cases hq : (4000 : Int) < y.ins.length
        · rw [decide_eq_true hq] at HD
          go_wp2
          go_roundw
          case rel => exact ⟨j + 1, true, rfl, by go_num, by omega, HD, Lib.hid fun h => (by cases h), trivial⟩
          case measure => simp [intOf]; omega
        · rw [decide_eq_false hq] at HD
          go_wp2
          go_roundw
          case rel => exact ⟨j + 1, false, rfl, by go_num, by omega, HD, HP, trivial⟩
          case measure => simp [intOf]; omega
      have e : j = t.blocks.length := by omega
      subst e
      have hlt' : ¬ (t.blocks.length : Int) < t.blocks.length := by omega
      have h3 : smallT t = true := by
        rw [HA.out, List.drop_length]
        rfl
      rw [h3, if_pos rfl] at HE
      clear h3 HA
      obtain ⟨hnb, hfr⟩ := HP.out rfl
      have HNB := Lib.hid hnb
      have HFR := Lib.hid hfr
      clear HP hnb hfr
      go_wp2
      clear d0 d1
      go_loopw [7] (fun k wr => ∃ j : Nat, k = .int .i64 j ∧ j ≤ t.blocks.length ∧ Hid (rightT m t = blErr m t.frame t.blocks.length (t.blocks.drop j)) ∧ TwoG w wr m aa sa ac sc t ba bc) (fun k _ => t.blocks.length - (intOf k).toNat)
      case atStart => exact ⟨0, rfl, Nat.zero_le _, HE, HG.out⟩
      case round =>
        obtain ⟨j, rfl, hj, HA, hG⟩ := hrel
        clear HG HE
        have HG := Lib.hid hG
        clear hG
        obtain ⟨d0, d1⟩ := boxG HG.out.tg
        by_cases hlt : j < t.blocks.length
        · have hlt' : (j : Int) < t.blocks.length := by omega
          have hj0 : (0 : Int) ≤ j := by omega
          obtain ⟨y, hy⟩ : ∃ y, t.blocks[j]? = some y := ⟨_, List.getElem?_eq_getElem hlt⟩
          obtain ⟨g, o, ya, yc, he, hg, hc⟩ := HBL.out j y hy
          subst he
          have hyi := HS.out.i y (List.mem_of_getElem? hy)
          have hyl := hyi.1
          have HYI := Lib.hid hyi
          have HD : Hid (rightT m t = if insErr m t.frame y.ins = 0 then (if ofEndN m t.blocks.length y.tm = 0 then blErr m t.frame t.blocks.length (t.blocks.drop (j + 1)) else ofEndN m t.blocks.length y.tm) else insErr m t.frame y.ins) := by
            show _ = _
            rw [HA.out, List.drop_eq_getElem_cons hlt, (List.getElem?_eq_some_iff.1 hy).2]
            rfl
          have HY := Lib.hid (fun W (h : Below w.heap.size w W) => hc.below hg h)
          have HIN := Lib.hid hc.ins
          clear hy HA hc hg hyi
          have e0 := (HY.out _ HG.out.be).c0
          go_wp2
          clear d0 d1 e0
          go_loopw [8] (fun k w3 => ∃ i : Nat, k = .int .i64 i ∧ i ≤ y.ins.length ∧ Hid (insErr m t.frame y.ins = insErr m t.frame (y.ins.drop i)) ∧ TwoG w w3 m aa sa ac sc t (some ⟨g, o, none⟩) bc) (fun k _ => y.ins.length - (intOf k).toNat)
          case atStart => exact ⟨0, rfl, Nat.zero_le _, rfl, HG.out⟩
          case round =>
            obtain ⟨i, rfl, hi, HF, hG⟩ := hrel
            clear HG
            have HG := Lib.hid hG
            have HGd : TwoG w wr.drew m aa sa ac sc t (some ⟨g, o, none⟩) bc := ⟨hG.mc.drew, hG.tg.drew, hG.be.drew⟩
            have HGD := Lib.hid HGd
            clear hG HGd
            obtain ⟨d0, d1⟩ := boxG HG.out.tg
            have y0 := (HY.out _ HG.out.be).c0
            by_cases hi2 : i < y.ins.length
            · have hi3 : (i : Int) < y.ins.length := by omega
              have hi0 : (0 : Int) ≤ i := by omega
              obtain ⟨z, hz⟩ : ∃ z, y.ins[i]? = some z := ⟨_, List.getElem?_eq_getElem hi2⟩
              obtain ⟨g1, o1, za, zc, he1, hg1, hz1⟩ := HIN.out i z hz
              subst he1
              have HZL := HYI.out.2 z (List.mem_of_getElem? hz)
              have HD2 : Hid (insErr m t.frame y.ins = if ofInsN m t.frame z = 0 then insErr m t.frame (y.ins.drop (i + 1)) else ofInsN m t.frame z) := by
                show _ = _
                rw [HF.out, List.drop_eq_getElem_cons hi2, (List.getElem?_eq_some_iff.1 hz).2]
                rfl
              have SE : Hid (∀ W, TwoG w W m aa sa ac sc t (some ⟨g, o, none⟩) bc → (Below w.heap.size w W ∧ (W.cell? ⟨w.heap.size, 0, none⟩ = some (.int .i64 m.regs) ∧ W.cell? ⟨w.heap.size, 1, none⟩ = some (.slice aa m.args.length ac) ∧ W.cell? ⟨w.heap.size, 2, none⟩ = some (.int .i64 m.ret) ∧ W.cell? ⟨w.heap.size, 3, none⟩ = some (.slice sa m.saved.length sc)) ∧ (W.cell? ⟨w.heap.size + 1, 0, none⟩ = some (.int .i64 t.frame) ∧ W.cell? ⟨w.heap.size + 1, 1, none⟩ = some (.slice (some ⟨g, o, none⟩) t.blocks.length bc)) ∧ W.cell? ⟨g, o + j * 5, none⟩ = some (.slice (some ⟨g1, o1, none⟩) y.ins.length yc) ∧ (W.cell? ⟨g1, o1 + i * 8, none⟩ = some (.int .i64 z.op) ∧ W.cell? ⟨g1, o1 + i * 8 + 1, none⟩ = some (.int .i64 z.dst) ∧ W.cell? ⟨g1, o1 + i * 8 + 2, none⟩ = some (.int .i64 z.a) ∧ W.cell? ⟨g1, o1 + i * 8 + 3, none⟩ = some (.int .i64 z.b) ∧ W.cell? ⟨g1, o1 + i * 8 + 4, none⟩ = some (.int .i64 z.imm) ∧ W.cell? ⟨g1, o1 + i * 8 + 5, none⟩ = some (.int .i64 z.callee) ∧ W.cell? ⟨g1, o1 + i * 8 + 6, none⟩ = some (.slice za z.args.length zc) ∧ W.cell? ⟨g1, o1 + i * 8 + 7, none⟩ = some (.int .i64 z.many)))) := Lib.hid fun W h =>
                have q := hz1.below hg1 h.be
                ⟨h.be, boxMa h.mc, boxG h.tg, (HY.out W h.be).c0, q.c0, q.c1, q.c2, q.c3, q.c4, q.c5, q.c6, q.c7⟩
              have HC4 := Lib.hid (fun W => VI2.out HFR.out z za zc (by omega) W)
              clear hz hz1 HF hg1
              obtain ⟨_, ⟨c0, c1, c2, c3⟩, _, _, e0, e1, e2, e3, e4, e5, e6, e7⟩ := SE.out _ HG.out
              go_wp2_with fail
              go_region_held3 (fun W => Below w.heap.size w W ∧ (W.cell? ⟨w.heap.size, 0, none⟩ = some (.int .i64 m.regs) ∧ W.cell? ⟨w.heap.size, 1, none⟩ = some (.slice aa m.args.length ac) ∧ W.cell? ⟨w.heap.size, 2, none⟩ = some (.int .i64 m.ret) ∧ W.cell? ⟨w.heap.size, 3, none⟩ = some (.slice sa m.saved.length sc)) ∧ (W.cell? ⟨w.heap.size + 1, 0, none⟩ = some (.int .i64 t.frame) ∧ W.cell? ⟨w.heap.size + 1, 1, none⟩ = some (.slice (some ⟨g, o, none⟩) t.blocks.length bc)) ∧ W.cell? ⟨g, o + j * 5, none⟩ = some (.slice (some ⟨g1, o1, none⟩) y.ins.length yc) ∧ (W.cell? ⟨g1, o1 + i * 8, none⟩ = some (.int .i64 z.op) ∧ W.cell? ⟨g1, o1 + i * 8 + 1, none⟩ = some (.int .i64 z.dst) ∧ W.cell? ⟨g1, o1 + i * 8 + 2, none⟩ = some (.int .i64 z.a) ∧ W.cell? ⟨g1, o1 + i * 8 + 3, none⟩ = some (.int .i64 z.b) ∧ W.cell? ⟨g1, o1 + i * 8 + 4, none⟩ = some (.int .i64 z.imm) ∧ W.cell? ⟨g1, o1 + i * 8 + 5, none⟩ = some (.int .i64 z.callee) ∧ W.cell? ⟨g1, o1 + i * 8 + 6, none⟩ = some (.slice za z.args.length zc) ∧ W.cell? ⟨g1, o1 + i * 8 + 7, none⟩ = some (.int .i64 z.many)))
                (first
                  | exact SE.out _ hk
                  | exact SE.out _ HGD.out)
                (first
                  | (go_at_call 102; refine (HC4.out _).mono ?_; rintro e w5 ⟨rfl, hb⟩; have hk := HGD.out.below hb))
              have HG5 := Lib.hid hk
              clear HC4 SE hk hb HG HGD d0 d1 y0 c0 c1 c2 c3 e0 e1 e2 e3 e4 e5 e6 e7
              by_cases hN : ofInsN m t.frame z = 0
              · have hq : (ofInsN m t.frame z != 0) = false := by simp [hN]
                rw [if_pos hN] at HD2
                clear hN
                go_wp2
                go_roundw
                case rel => exact ⟨i + 1, by go_num, by omega, HD2, HG5.out⟩
                case measure => simp [intOf]; omega
              · have hq : (ofInsN m t.frame z != 0) = true := by simp [hN]
                rw [if_neg hN] at HD2
                rw [if_neg (by rw [HD2.out]; exact hN)] at HD
                clear hN
                go_wp2
                go_ret
                exact ⟨by rw [HD.out, HD2.out]; rfl, HG5.out.be⟩
            · have e : i = y.ins.length := by omega
              subst e
              have hi3 : ¬ (y.ins.length : Int) < y.ins.length := by omega
              have hI0 : insErr m t.frame y.ins = 0 := by
                rw [HF.out, List.drop_length]
                rfl
              rw [if_pos hI0] at HD
              have SE : Hid (∀ W, TwoG w W m aa sa ac sc t (some ⟨g, o, none⟩) bc → (Below w.heap.size w W ∧ (W.cell? ⟨w.heap.size, 0, none⟩ = some (.int .i64 m.regs) ∧ W.cell? ⟨w.heap.size, 1, none⟩ = some (.slice aa m.args.length ac) ∧ W.cell? ⟨w.heap.size, 2, none⟩ = some (.int .i64 m.ret) ∧ W.cell? ⟨w.heap.size, 3, none⟩ = some (.slice sa m.saved.length sc)) ∧ (W.cell? ⟨w.heap.size + 1, 0, none⟩ = some (.int .i64 t.frame) ∧ W.cell? ⟨w.heap.size + 1, 1, none⟩ = some (.slice (some ⟨g, o, none⟩) t.blocks.length bc)) ∧ (W.cell? ⟨g, o + j * 5 + 1, none⟩ = some (.int .i64 y.tm.kind) ∧ W.cell? ⟨g, o + j * 5 + 2, none⟩ = some (.int .i64 y.tm.a) ∧ W.cell? ⟨g, o + j * 5 + 3, none⟩ = some (.int .i64 y.tm.t0) ∧ W.cell? ⟨g, o + j * 5 + 4, none⟩ = some (.int .i64 y.tm.t1)))) := Lib.hid fun W h =>
                have q := HY.out W h.be
                ⟨h.be, boxMa h.mc, boxG h.tg, q.c1, q.c2, q.c3, q.c4⟩
              have HC4 := Lib.hid (fun W => VE2.out HNB.out y.tm W)
              clear HF hI0
              obtain ⟨_, ⟨c0, c1, c2, c3⟩, _, e0, e1, e2, e3⟩ := SE.out _ HG.out
              go_wp2_with fail
              go_region_held3 (fun W => Below w.heap.size w W ∧ (W.cell? ⟨w.heap.size, 0, none⟩ = some (.int .i64 m.regs) ∧ W.cell? ⟨w.heap.size, 1, none⟩ = some (.slice aa m.args.length ac) ∧ W.cell? ⟨w.heap.size, 2, none⟩ = some (.int .i64 m.ret) ∧ W.cell? ⟨w.heap.size, 3, none⟩ = some (.slice sa m.saved.length sc)) ∧ (W.cell? ⟨w.heap.size + 1, 0, none⟩ = some (.int .i64 t.frame) ∧ W.cell? ⟨w.heap.size + 1, 1, none⟩ = some (.slice (some ⟨g, o, none⟩) t.blocks.length bc)) ∧ (W.cell? ⟨g, o + j * 5 + 1, none⟩ = some (.int .i64 y.tm.kind) ∧ W.cell? ⟨g, o + j * 5 + 2, none⟩ = some (.int .i64 y.tm.a) ∧ W.cell? ⟨g, o + j * 5 + 3, none⟩ = some (.int .i64 y.tm.t0) ∧ W.cell? ⟨g, o + j * 5 + 4, none⟩ = some (.int .i64 y.tm.t1)))
                (first
                  | exact SE.out _ hk
                  | exact SE.out _ HGD.out)
                (first
                  | (go_at_call 103; refine (HC4.out _).mono ?_; rintro e w5 ⟨rfl, hb⟩; have hk := HGD.out.below hb))
              have HG5 := Lib.hid hk
              clear HC4 SE hk hb HG HGD d0 d1 y0 c0 c1 c2 c3 e0 e1 e2 e3
              by_cases hN : ofEndN m t.blocks.length y.tm = 0
              · have hq : (ofEndN m t.blocks.length y.tm != 0) = false := by simp [hN]
                rw [if_pos hN] at HD
                clear hN
                go_wp2
                go_roundw
                case rel => exact ⟨j + 1, by go_num, by omega, HD, HG5.out⟩
                case measure => simp [intOf]; omega
              · have hq : (ofEndN m t.blocks.length y.tm != 0) = true := by simp [hN]
                rw [if_neg hN] at HD
                clear hN
                go_wp2
                go_ret
                exact ⟨by rw [HD.out]; rfl, HG5.out.be⟩
        · have e : j = t.blocks.length := by omega
          subst e
          have hlt' : ¬ (t.blocks.length : Int) < t.blocks.length := by omega
          go_wp2
          go_ret
          exact ⟨by rw [HA.out, List.drop_length]; rfl, HG.out.be⟩
end Go.Proofs.YtjmdgbgjleeloaaGreatDoor
