/-
  Which error an instruction of a target has, by the document. No condition beyond those that each theorem states.
-/
import Derived.Test.YtjmdgbgjleeloaaGreatDoorQk9
import Derived.Deep.Cut
import Derived.Deep.CutRange
namespace Go.Proofs.YtjmdgbgjleeloaaGreatDoor
open Go.RowKit

def withB (n lo hi : Int) : Bool := decide (lo ≤ n) && decide (n ≤ hi)
set_option maxRecDepth 100000 in
theorem within6_any (n lo hi : Int) (w : World) : Calls Tryz.prog 101 #[.int .i64 n, .int .i64 lo, .int .i64 hi] w fun e w' => e = .returned (.bool (withB n lo hi)) ∧ w = w' := by
  have HE := Lib.hid (withB.eq_1 n lo hi)
  by_cases h1 : lo ≤ n
  · rw [decide_eq_true h1] at HE
    go_enter Tryz.func101, Tryz.ntmps101
    go_wp2
    go_ret
    exact ⟨by rw [HE.out]; rfl, rfl⟩
  · rw [decide_eq_false h1] at HE
    go_enter Tryz.func101, Tryz.ntmps101
    go_wp2
    go_ret
    exact ⟨by rw [HE.out]; rfl, rfl⟩
def immD (t48 t8 : Bool) (x : Ii) : Bool := x.imm == 0 || (t48 || (t8 && withB x.imm (-1099511627776) 1099511627776))
def callD (t64 : Bool) (n : Int) (x : Ii) : Bool := (x.callee == 0 && x.many == 0) || ((t64 && withB x.callee 0 99) && withB x.many 0 n)
def argD (te t1 t2 t4 I C : Bool) (x : Ii) : Bool := te || !I || !C || decide (0 < (x.args.length : Int)) || (!t1 && x.dst != 0) || (!t2 && x.a != 0) || (!t4 && x.b != 0)
def regD (n : Int) (x : Ii) : Bool := !withB x.dst 0 (n - 1) || !withB x.a 0 (n - 1) || !withB x.b 0 (n - 1)
def slotD (t48 : Bool) (fr : Int) (x : Ii) : Bool := t48 && !withB x.imm 0 (fr - 1)
theorem below_with1 (n v : Int) : belowB n [v] = withB v 0 (n - 1) := by
  unfold belowB withB
  rw [Bool.eq_iff_iff]
  simp
  omega
theorem below_with3 (n v u t : Int) : belowB n [v, u, t] = (withB v 0 (n - 1) && (withB u 0 (n - 1) && withB t 0 (n - 1))) := by
  unfold belowB withB
  rw [Bool.eq_iff_iff]
  simp
  omega
theorem arg_doc (m : Mm) (x : Ii) : isInsT m x = !(argD (!(partsN x.op != 0)) (hasB x.op 1) (hasB x.op 2) (hasB x.op 4) (immD (hasB x.op 48) (hasB x.op 8) x) (callD (hasB x.op 64) m.args.length x) x) := by
  unfold isInsT argD immD callD isCallT immT
  rw [below_with1, below_with1, show ((100 : Int) - 1) = 99 from rfl, show ((m.args.length : Int) + 1 - 1) = m.args.length by omega]
  have e6 : x.args.isEmpty = !decide (0 < (x.args.length : Int)) := by cases x.args <;> simp
  rw [e6, show (decide ((-1099511627776 : Int) ≤ x.imm) && decide (x.imm ≤ 1099511627776)) = withB x.imm (-1099511627776) 1099511627776 from rfl]
  simp only [bne]
  generalize decide (0 < (x.args.length : Int)) = r
  generalize withB x.imm (-1099511627776) 1099511627776 = i1
  generalize withB x.callee 0 99 = c1
  generalize withB x.many 0 m.args.length = c2
  generalize (x.imm == 0) = i0
  generalize (x.callee == 0) = c0
  generalize (x.many == 0) = m0
  generalize (x.dst == 0) = d0
  generalize (x.a == 0) = a0
  generalize (x.b == 0) = b0
  generalize (partsN x.op == 0) = p0
  generalize hasB x.op 1 = t1
  generalize hasB x.op 2 = t2
  generalize hasB x.op 4 = t4
  generalize hasB x.op 48 = t48
  generalize hasB x.op 8 = t8
  generalize hasB x.op 64 = t64
  have hI : (t48 || t8 && i1 || i0) = (i0 || (t48 || t8 && i1)) := by cases t48 <;> cases t8 <;> cases i1 <;> cases i0 <;> rfl
  have hC : (t64 && (c1 && c2) || c0 && m0) = (c0 && m0 || t64 && c1 && c2) := by cases t64 <;> cases c1 <;> cases c2 <;> cases c0 <;> cases m0 <;> rfl
  rw [hI, hC]
  generalize (i0 || (t48 || t8 && i1)) = I
  generalize (c0 && m0 || t64 && c1 && c2) = C
  have hD : (t1 || d0) = !(!t1 && !d0) := by cases t1 <;> cases d0 <;> rfl
  have hA : (t2 || a0) = !(!t2 && !a0) := by cases t2 <;> cases a0 <;> rfl
  have hB : (t4 || b0) = !(!t4 && !b0) := by cases t4 <;> cases b0 <;> rfl
  rw [hD, hA, hB]
  generalize (!t1 && !d0) = D
  generalize (!t2 && !a0) = A
  generalize (!t4 && !b0) = B
  revert p0 D A B I C r
  decide
theorem ins_doc (m : Mm) (fr : Int) (x : Ii) : ofInsN m fr x =
    if argD (!(partsN x.op != 0)) (hasB x.op 1) (hasB x.op 2) (hasB x.op 4) (immD (hasB x.op 48) (hasB x.op 8) x) (callD (hasB x.op 64) m.args.length x) x = true then 2
    else if regD m.regs x = true then 10 else if slotD (hasB x.op 48) fr x = true then 11 else 0 := by
  unfold ofInsN
  rw [arg_doc, below_with3, below_with1]
  unfold regD slotD
  generalize argD _ _ _ _ _ _ _ = A
  generalize withB x.dst 0 (m.regs - 1) = d
  generalize withB x.a 0 (m.regs - 1) = a
  generalize withB x.b 0 (m.regs - 1) = b
  generalize withB x.imm 0 (fr - 1) = i
  generalize hasB x.op 48 = t
  cases A <;> cases d <;> cases a <;> cases b <;> cases i <;> cases t <;> rfl
set_option maxHeartbeats 16000000 in
set_option maxRecDepth 100000 in
theorem ins6_any (m : Mm) (aa sa : Option Addr) (ac sc : Nat) (fr : Int) (x : Ii) (a : Option Addr) (c : Nat) (w : World) (hr : 0 ≤ m.regs ∧ m.regs ≤ 1000) (hf : 0 ≤ fr ∧ fr ≤ 1000) (_hl : m.args.length ≤ 140737488355328) (hx : x.args.length ≤ 140737488355328) :
    Calls Tryz.prog 102 #[machV m aa ac sa sc, .int .i64 fr, insV x a c] w fun e w' => e = .returned (.int .i64 (ofInsN m fr x)) ∧ Below w.heap.size w w' := by
  have HT := Lib.hid (TwoM.new w m aa sa ac sc x a c)
  have HE := Lib.hid (ins_doc m fr x)
  have HH := Lib.hid (fun W => has6_any x.op W)
  have HW := Lib.hid within6_any
  have L := let_g x.op
  have I100 := Lib.hid (fun W => in6_any (hasG x.op) 100 W (hasG_small _))
  have I97 := Lib.hid (fun W => in6_any (hasG x.op) 97 W (hasG_small _))
  have I98 := Lib.hid (fun W => in6_any (hasG x.op) 98 W (hasG_small _))
  have I105 := Lib.hid (fun W => in6_any (hasG x.op) 105 W (hasG_small _))
  have I115 := Lib.hid (fun W => in6_any (hasG x.op) 115 W (hasG_small _))
  rw [L.d] at I100
  rw [L.a] at I97
  rw [L.b] at I98
  rw [L.i] at I105
  rw [L.s] at I115
  have QC : Hid (((hasG x.op).toList == [99]) = hasB x.op 64) := by
    show _ = _
    cases h : hasB x.op 64
    · exact bytes_c fun e => by rw [L.c.mpr e] at h; cases h
    · rw [L.c.mp h, ByteArray.toList_eq]; rfl
  have QE : Hid ((hasG x.op).toList.isEmpty = !(partsN x.op != 0)) := by
    show _ = _
    cases h : (partsN x.op != 0)
    · rw [L.n.mp h, ByteArray.toList_eq]; rfl
    · exact bytes_empty fun e => by rw [L.n.mpr e] at h; cases h
  have HM := Lib.hid (maxC.eq_1 m aa ac sa sc)
  have HC := Lib.hid (insC.eq_1 x a c)
  rw [HM.out, HC.out] at HT
  clear L
  generalize hasG x.op = h at *
  generalize (!(partsN x.op != 0)) = te at *
  generalize hasB x.op 1 = t1 at *
  generalize hasB x.op 2 = t2 at *
  generalize hasB x.op 4 = t4 at *
  generalize hasB x.op 48 = t48 at *
  generalize hasB x.op 8 = t8 at *
  generalize hasB x.op 64 = t64 at *
  obtain ⟨bI, hbI⟩ : ∃ b, b = immD t48 t8 x := ⟨_, rfl⟩
  obtain ⟨bC, hbC⟩ : ∃ b, b = callD t64 m.args.length x := ⟨_, rfl⟩
  rw [← hbI, ← hbC] at HE
  obtain ⟨bA, hbA⟩ : ∃ b, b = argD te t1 t2 t4 bI bC x := ⟨_, rfl⟩
  obtain ⟨bR, hbR⟩ : ∃ b, b = regD m.regs x := ⟨_, rfl⟩
  obtain ⟨bS, hbS⟩ : ∃ b, b = slotD t48 fr x := ⟨_, rfl⟩
  rw [← hbA, ← hbR, ← hbS] at HE
  have HBI := Lib.hid hbI
  have HBC := Lib.hid hbC
  have HBA := Lib.hid hbA
  have HBR := Lib.hid hbR
  have HBS := Lib.hid hbS
  have hw1 : IntKind.i64.wrap (m.regs - 1) = m.regs - 1 := by rw [IntKind.wrap_i64]; omega
  have hw2 : IntKind.i64.wrap (fr - 1) = fr - 1 := by rw [IntKind.wrap_i64]; omega
  clear hbI hbC hbA hbR hbS hr hf
  unfold machV insV
  rw [HM.out]
  go_enter Tryz.func102, Tryz.ntmps102
  go_wp2_with fail
  refine (HH.out _).mono ?_
  rintro e w1 ⟨rfl, rfl⟩
  obtain ⟨d0, d1, d2, d3, d4, d5, d6, d7⟩ := box8 HT.out.ix
  obtain ⟨c0, c1, c2, c3⟩ := boxMa HT.out.mc
  go_upto_region 2 with fail
  go_cut [8] from 13 to 28 (fun v W => v = .bool bI ∧ TwoM w W m aa sa ac sc x a c)
  case first =>
    have E := Lib.hid (HBI.out.trans (immD.eq_1 t48 t8 x))
    clear HBI HBC HBA HBR HBS HE
    cases hz : (x.imm == 0)
    case true =>
      rw [hz] at E
      go_wp2_with fail
      go_meet
      exact ⟨by rw [E.out]; rfl, HT.out⟩
    rw [hz] at E
    go_wp2_with fail
    refine (I115.out _).mono ?_
    rintro e w1 ⟨rfl, rfl⟩
    cases t48
    case true =>
      go_wp2_with fail
      go_meet
      exact ⟨by rw [E.out]; rfl, HT.out⟩
    go_wp2_with fail
    refine (I105.out _).mono ?_
    rintro e w1 ⟨rfl, rfl⟩
    cases t8
    case false =>
      go_wp2_with fail
      go_meet
      exact ⟨by rw [E.out]; rfl, HT.out⟩
    go_wp2_with fail
    refine (HW.out _ _ _ _).mono ?_
    rintro e w1 ⟨rfl, rfl⟩
    go_wp2_with fail
    go_meet
    exact ⟨by rw [E.out]; rfl, HT.out⟩
  case rest =>
    obtain ⟨rfl, hT⟩ := hcut
    clear d0 d1 d2 d3 d4 d5 d6 d7 c0 c1 c2 c3 HT
    have HT := Lib.hid hT
    clear hT
    obtain ⟨d0, d1, d2, d3, d4, d5, d6, d7⟩ := box8 HT.out.ix
    obtain ⟨c0, c1, c2, c3⟩ := boxMa HT.out.mc
    go_upto_region 3 with fail
    go_cut [9] from 29 to 53 (fun v W => v = .bool bC ∧ TwoM w W m aa sa ac sc x a c)
    case first =>
      have E := Lib.hid (HBC.out.trans (callD.eq_1 t64 m.args.length x))
      have qc := QC.out
      clear HBI HBC HBA HBR HBS HE QC QE
      cases hz : (x.callee == 0)
      case false =>
        rw [hz] at E
        cases t64
        case false =>
          go_wp2_with fail
          go_meet
          exact ⟨by rw [E.out]; rfl, HT.out⟩
        go_wp2_with fail
        refine (HW.out _ _ _ _).mono ?_
        rintro e w1 ⟨rfl, rfl⟩
        generalize withB x.callee 0 99 = k at *
        cases k
        case false =>
          go_wp2_with fail
          go_meet
          exact ⟨by rw [E.out]; rfl, HT.out⟩
        go_wp2_with fail
        refine (HW.out _ _ _ _).mono ?_
        rintro e w1 ⟨rfl, rfl⟩
        go_wp2_with fail
        go_meet
        exact ⟨by rw [E.out]; rfl, HT.out⟩
      rw [hz] at E
      cases hy : (x.many == 0)
      case true =>
        rw [hy] at E
        go_wp2_with fail
        go_meet
        exact ⟨by rw [E.out]; rfl, HT.out⟩
      rw [hy] at E
      cases t64
      case false =>
        go_wp2_with fail
        go_meet
        exact ⟨by rw [E.out]; rfl, HT.out⟩
      go_wp2_with fail
      refine (HW.out _ _ _ _).mono ?_
      rintro e w1 ⟨rfl, rfl⟩
      generalize withB x.callee 0 99 = k at *
      cases k
      case false =>
        go_wp2_with fail
        go_meet
        exact ⟨by rw [E.out]; rfl, HT.out⟩
      go_wp2_with fail
      refine (HW.out _ _ _ _).mono ?_
      rintro e w1 ⟨rfl, rfl⟩
      go_wp2_with fail
      go_meet
      exact ⟨by rw [E.out]; rfl, HT.out⟩
    case rest =>
      obtain ⟨rfl, hT⟩ := hcut
      clear d0 d1 d2 d3 d4 d5 d6 d7 c0 c1 c2 c3 HT
      have HT := Lib.hid hT
      clear hT
      obtain ⟨d0, d1, d2, d3, d4, d5, d6, d7⟩ := box8 HT.out.ix
      obtain ⟨c0, c1, c2, c3⟩ := boxMa HT.out.mc
      go_upto_region 4 with fail
      go_cut [2, 99] from 54 to 99 (fun _ v W => v = .bool bA ∧ TwoM w W m aa sa ac sc x a c)
      case first =>
        have E := Lib.hid (HBA.out.trans (argD.eq_1 te t1 t2 t4 bI bC x))
        have qe := QE.out
        clear HBI HBC HBA HBR HBS HE QC QE
        cases te
        case true =>
          go_wp2_with fail
          go_meet
          exact ⟨by rw [E.out]; rfl, HT.out⟩
        cases bI
        case false =>
          go_wp2_with fail
          go_meet
          exact ⟨by rw [E.out]; rfl, HT.out⟩
        cases bC
        case false =>
          go_wp2_with fail
          go_meet
          exact ⟨by rw [E.out]; rfl, HT.out⟩
        by_cases hq : x.args.length = 0
        case neg =>
          have hq1 : 0 < x.args.length := by omega
          have hq2 : (0 : Int) < x.args.length := by omega
          rw [decide_eq_true hq2] at E
          go_wp2_with fail
          go_meet
          exact ⟨by rw [E.out]; rfl, HT.out⟩
        have hq2 : ¬ (0 : Int) < x.args.length := by omega
        rw [decide_eq_false hq2] at E
        clear hq2
        go_wp2_with fail
        refine (I100.out _).mono ?_
        rintro e w1 ⟨rfl, rfl⟩
        cases t1
        case false =>
          cases hpdst : (x.dst == 0)
          case false =>
            have hndst : (x.dst != 0) = true := by simp [bne, hpdst]
            rw [hndst] at E
            go_wp2_with fail
            go_meet
            exact ⟨by rw [E.out]; rfl, HT.out⟩
          have hndst : (x.dst != 0) = false := by simp [bne, hpdst]
          rw [hndst] at E
          go_wp2_with fail
          refine (I97.out _).mono ?_
          rintro e w1 ⟨rfl, rfl⟩
          cases t2
          case false =>
            cases hpa : (x.a == 0)
            case false =>
              have hna : (x.a != 0) = true := by simp [bne, hpa]
              rw [hna] at E
              go_wp2_with fail
              go_meet
              exact ⟨by rw [E.out]; rfl, HT.out⟩
            have hna : (x.a != 0) = false := by simp [bne, hpa]
            rw [hna] at E
            go_wp2_with fail
            refine (I98.out _).mono ?_
            rintro e w1 ⟨rfl, rfl⟩
            cases t4
            case false =>
              cases hpb : (x.b == 0)
              case false =>
                have hnb : (x.b != 0) = true := by simp [bne, hpb]
                rw [hnb] at E
                go_wp2_with fail
                go_meet
                exact ⟨by rw [E.out]; rfl, HT.out⟩
              have hnb : (x.b != 0) = false := by simp [bne, hpb]
              rw [hnb] at E
              go_wp2_with fail
              go_meet
              exact ⟨by rw [E.out]; rfl, HT.out⟩
            go_wp2_with fail
            go_meet
            exact ⟨by rw [E.out]; rfl, HT.out⟩
          go_wp2_with fail
          refine (I98.out _).mono ?_
          rintro e w1 ⟨rfl, rfl⟩
          cases t4
          case false =>
            cases hpb : (x.b == 0)
            case false =>
              have hnb : (x.b != 0) = true := by simp [bne, hpb]
              rw [hnb] at E
              go_wp2_with fail
              go_meet
              exact ⟨by rw [E.out]; rfl, HT.out⟩
            have hnb : (x.b != 0) = false := by simp [bne, hpb]
            rw [hnb] at E
            go_wp2_with fail
            go_meet
            exact ⟨by rw [E.out]; rfl, HT.out⟩
          go_wp2_with fail
          go_meet
          exact ⟨by rw [E.out]; rfl, HT.out⟩
        go_wp2_with fail
        refine (I97.out _).mono ?_
        rintro e w1 ⟨rfl, rfl⟩
        cases t2
        case false =>
          cases hpa : (x.a == 0)
          case false =>
            have hna : (x.a != 0) = true := by simp [bne, hpa]
            rw [hna] at E
            go_wp2_with fail
            go_meet
            exact ⟨by rw [E.out]; rfl, HT.out⟩
          have hna : (x.a != 0) = false := by simp [bne, hpa]
          rw [hna] at E
          go_wp2_with fail
          refine (I98.out _).mono ?_
          rintro e w1 ⟨rfl, rfl⟩
          cases t4
          case false =>
            cases hpb : (x.b == 0)
            case false =>
              have hnb : (x.b != 0) = true := by simp [bne, hpb]
              rw [hnb] at E
              go_wp2_with fail
              go_meet
              exact ⟨by rw [E.out]; rfl, HT.out⟩
            have hnb : (x.b != 0) = false := by simp [bne, hpb]
            rw [hnb] at E
            go_wp2_with fail
            go_meet
            exact ⟨by rw [E.out]; rfl, HT.out⟩
          go_wp2_with fail
          go_meet
          exact ⟨by rw [E.out]; rfl, HT.out⟩
        go_wp2_with fail
        refine (I98.out _).mono ?_
        rintro e w1 ⟨rfl, rfl⟩
        cases t4
        case false =>
          cases hpb : (x.b == 0)
          case false =>
            have hnb : (x.b != 0) = true := by simp [bne, hpb]
            rw [hnb] at E
            go_wp2_with fail
            go_meet
            exact ⟨by rw [E.out]; rfl, HT.out⟩
          have hnb : (x.b != 0) = false := by simp [bne, hpb]
          rw [hnb] at E
          go_wp2_with fail
          go_meet
          exact ⟨by rw [E.out]; rfl, HT.out⟩
        go_wp2_with fail
        go_meet
        exact ⟨by rw [E.out]; rfl, HT.out⟩
      case rest =>
        obtain ⟨rfl, hT⟩ := hcut
        clear d0 d1 d2 d3 d4 d5 d6 d7 c0 c1 c2 c3 HT
        have HT := Lib.hid hT
        clear hT
        obtain ⟨d0, d1, d2, d3, d4, d5, d6, d7⟩ := box8 HT.out.ix
        obtain ⟨c0, c1, c2, c3⟩ := boxMa HT.out.mc
        cases bA
        case true =>
          go_wp2
          go_ret
          exact ⟨by rw [HE.out]; rfl, HT.out.be⟩
        go_upto_region 6 with fail
        go_cut [124] from 100 to 124 (fun v W => v = .bool bR ∧ TwoM w W m aa sa ac sc x a c)
        case first =>
          have E := Lib.hid (HBR.out.trans (regD.eq_1 m.regs x))
          clear HBI HBC HBA HBR HBS HE QC QE
          go_wp2_with fail
          refine (HW.out _ _ _ _).mono ?_
          rintro e w1 ⟨rfl, rfl⟩
          generalize withB x.dst 0 (m.regs - 1) = kdst at *
          cases kdst
          case false =>
            go_wp2_with fail
            go_meet
            exact ⟨by rw [E.out]; rfl, HT.out⟩
          go_wp2_with fail
          refine (HW.out _ _ _ _).mono ?_
          rintro e w1 ⟨rfl, rfl⟩
          generalize withB x.a 0 (m.regs - 1) = ka at *
          cases ka
          case false =>
            go_wp2_with fail
            go_meet
            exact ⟨by rw [E.out]; rfl, HT.out⟩
          go_wp2_with fail
          refine (HW.out _ _ _ _).mono ?_
          rintro e w1 ⟨rfl, rfl⟩
          go_wp2_with fail
          go_meet
          exact ⟨by rw [E.out]; rfl, HT.out⟩
        case rest =>
          obtain ⟨rfl, hT⟩ := hcut
          clear d0 d1 d2 d3 d4 d5 d6 d7 c0 c1 c2 c3 HT
          have HT := Lib.hid hT
          clear hT
          obtain ⟨d0, d1, d2, d3, d4, d5, d6, d7⟩ := box8 HT.out.ix
          obtain ⟨c0, c1, c2, c3⟩ := boxMa HT.out.mc
          cases bR
          case true =>
            go_wp2
            go_ret
            exact ⟨by rw [HE.out]; rfl, HT.out.be⟩
          go_upto_region 8 with fail
          go_cut [134] from 125 to 134 (fun v W => v = .bool bS ∧ TwoM w W m aa sa ac sc x a c)
          case first =>
            have E := Lib.hid (HBS.out.trans (slotD.eq_1 t48 fr x))
            clear HBI HBC HBA HBR HBS HE QC QE
            go_wp2_with fail
            refine (I115.out _).mono ?_
            rintro e w1 ⟨rfl, rfl⟩
            cases t48
            case false =>
              go_wp2_with fail
              go_meet
              exact ⟨by rw [E.out]; rfl, HT.out⟩
            go_wp2_with fail
            refine (HW.out _ _ _ _).mono ?_
            rintro e w1 ⟨rfl, rfl⟩
            go_wp2_with fail
            go_meet
            exact ⟨by rw [E.out]; rfl, HT.out⟩
          case rest =>
            obtain ⟨rfl, hT⟩ := hcut
            clear d0 d1 d2 d3 d4 d5 d6 d7 c0 c1 c2 c3 HT
            have HT := Lib.hid hT
            clear hT
            obtain ⟨d0, d1, d2, d3, d4, d5, d6, d7⟩ := box8 HT.out.ix
            obtain ⟨c0, c1, c2, c3⟩ := boxMa HT.out.mc
            cases bS
            · go_wp2
              go_ret
              exact ⟨by rw [HE.out]; rfl, HT.out.be⟩
            · go_wp2
              go_ret
              exact ⟨by rw [HE.out]; rfl, HT.out.be⟩
end Go.Proofs.YtjmdgbgjleeloaaGreatDoor
