/-
  The document's small answers about ends, and what it says of numbers read, defined, needed, gone to. No condition beyond those that each theorem states.
-/
import Derived.Test.YtgpbpbhidemciaaGreatIrJ
namespace Go.Proofs.YtgpbpbhidemciaaGreat
open Go.RowKit

def inB (s : ByteArray) (c : Int) : Bool := s.data.toList.any fun b => (b.toNat : Int) == c
def hasS (o : Int) : ByteArray :=
  if o = 1 then ⟨#[100, 105]⟩ else if 2 ≤ o ∧ o ≤ 10 then ⟨#[100, 97, 98]⟩ else if o = 11 then ⟨#[100, 97, 105]⟩ else if o = 12 then ⟨#[97, 98, 105]⟩ else if o = 13 then ⟨#[99]⟩ else if o = 14 then ⟨#[100, 97]⟩ else ⟨#[]⟩
theorem rvar_any (n : Int) (w : World) : Calls Tryz.prog 44 #[.int .i64 n] w fun e w' => e = .returned (.bool (varB n)) ∧ w = w' := by
  go_enter Tryz.func44, Tryz.ntmps44
  by_cases h1 : (1 : Int) ≤ n
  · go_wp2
    go_ret
    exact ⟨by simp [varB]; try omega, rfl⟩
  · go_wp2
    go_ret
    exact ⟨by simp [varB]; try omega, rfl⟩
set_option maxRecDepth 100000 in
theorem rin_any (s : ByteArray) (c : Int) (w : World) (hs : s.size ≤ 1000) : Calls Tryz.prog 45 #[.string s, .int .u8 c] w fun e w' => e = .returned (.bool (inB s c)) ∧ w = w' := by
  have hl : s.data.toList.length = s.size := rfl
  go_enter Tryz.func45, Tryz.ntmps45
  go_wp2
  go_loopw [5] (fun k wr => ∃ j : Nat, k = .int .i64 j ∧ j ≤ s.size ∧ Hid (inB s c = (s.data.toList.drop j).any fun b => (b.toNat : Int) == c) ∧ w = wr) (fun k _ => s.size - (intOf k).toNat)
  case atStart => exact ⟨0, rfl, Nat.zero_le _, rfl, rfl⟩
  case round =>
    obtain ⟨j, rfl, hj, HA, rfl⟩ := hrel
    by_cases hlt : j < s.size
    · have hlt' : (j : Int) < s.size := by omega
      have hj0 : (0 : Int) ≤ j := by omega
      have HD : Hid (inB s c = (((s[j].toNat : Int) == c) || (s.data.toList.drop (j + 1)).any fun b => (b.toNat : Int) == c)) := by
        show _ = _
        rw [HA.out, List.drop_eq_getElem_cons (by omega)]
        rfl
      clear HA
      cases hq : ((s[j].toNat : Int) == c)
      · rw [hq] at HD
        go_wp2
        go_roundw
        case rel => exact ⟨j + 1, by go_num, by omega, by have := HD.out; simpa [Hid] using this, trivial⟩
        case measure => simp [intOf]; omega
      · rw [hq] at HD
        go_wp2
        go_ret
        exact ⟨by rw [HD.out]; rfl, rfl⟩
    · have e : j = s.size := by omega
      subst e
      go_wp2
      go_ret
      refine ⟨?_, rfl⟩
      rw [HA.out, List.drop_eq_nil_of_le (by omega)]
      rfl
set_option maxRecDepth 100000 in
theorem rpart_any (s : ByteArray) (c n : Int) (b : Bool) (w : World) (hs : s.size ≤ 1000) (hb : inB s c = b) : Calls Tryz.prog 43 #[.string s, .int .u8 c, .int .i64 n] w fun e w' => e = .returned (.bool (fitsB b n)) ∧ w = w' := by
  have HI := Lib.hid (rin_any s c w hs)
  rw [hb] at HI
  clear hb hs
  go_enter Tryz.func43, Tryz.ntmps43
  go_wp2_with fail
  refine HI.out.mono ?_
  rintro e w1 ⟨rfl, rfl⟩
  cases b
  · go_wp2
    go_ret
    exact ⟨by simp [fitsB], rfl⟩
  · go_wp2_with fail
    refine (rvar_any n w).mono ?_
    rintro e w1 ⟨rfl, rfl⟩
    go_wp2
    go_ret
    exact ⟨by simp [fitsB], rfl⟩
set_option maxHeartbeats 2000000 in
set_option maxRecDepth 100000 in
theorem rhas_any (o : Int) (w : World) : Calls Tryz.prog 42 #[.int .i64 o] w fun e w' => e = .returned (.string (hasS o)) ∧ w = w' := by
  have HE := Lib.hid (hasS.eq_1 o)
  go_enter Tryz.func42, Tryz.ntmps42
  by_cases h1 : o = 1
  · have q1 : (o == 1) = true := by simp [h1]
    rw [if_pos h1] at HE
    clear h1
    go_wp2
    go_ret
    exact ⟨by rw [HE.out]; rfl, rfl⟩
  have q1 : (o == 1) = false := by simp [h1]
  rw [if_neg h1] at HE
  by_cases h2 : 2 ≤ o ∧ o ≤ 10
  · obtain ⟨h2a, h2b⟩ := h2
    rw [if_pos ⟨h2a, h2b⟩] at HE
    go_wp2
    go_ret
    exact ⟨by rw [HE.out]; rfl, rfl⟩
  rw [if_neg h2] at HE
  by_cases h2a : 2 ≤ o
  · have h2b : ¬ o ≤ 10 := fun h => h2 ⟨h2a, h⟩
    clear h2
    by_cases h11 : o = 11
    · have q11 : (o == 11) = true := by simp [h11]
      rw [if_pos h11] at HE
      clear h11
      go_wp2
      go_ret
      exact ⟨by rw [HE.out]; rfl, rfl⟩
    have q11 : (o == 11) = false := by simp [h11]
    rw [if_neg h11] at HE
    by_cases h12 : o = 12
    · have q12 : (o == 12) = true := by simp [h12]
      rw [if_pos h12] at HE
      clear h12
      go_wp2
      go_ret
      exact ⟨by rw [HE.out]; rfl, rfl⟩
    have q12 : (o == 12) = false := by simp [h12]
    rw [if_neg h12] at HE
    by_cases h13 : o = 13
    · have q13 : (o == 13) = true := by simp [h13]
      rw [if_pos h13] at HE
      clear h13
      go_wp2
      go_ret
      exact ⟨by rw [HE.out]; rfl, rfl⟩
    have q13 : (o == 13) = false := by simp [h13]
    rw [if_neg h13] at HE
    by_cases h14 : o = 14
    · have q14 : (o == 14) = true := by simp [h14]
      rw [if_pos h14] at HE
      clear h14
      go_wp2
      go_ret
      exact ⟨by rw [HE.out]; rfl, rfl⟩
    have q14 : (o == 14) = false := by simp [h14]
    rw [if_neg h14] at HE
    go_wp2
    go_ret
    exact ⟨by rw [HE.out]; rfl, rfl⟩
  · clear h2
    by_cases h11 : o = 11
    · have q11 : (o == 11) = true := by simp [h11]
      rw [if_pos h11] at HE
      clear h11
      go_wp2
      go_ret
      exact ⟨by rw [HE.out]; rfl, rfl⟩
    have q11 : (o == 11) = false := by simp [h11]
    rw [if_neg h11] at HE
    by_cases h12 : o = 12
    · have q12 : (o == 12) = true := by simp [h12]
      rw [if_pos h12] at HE
      clear h12
      go_wp2
      go_ret
      exact ⟨by rw [HE.out]; rfl, rfl⟩
    have q12 : (o == 12) = false := by simp [h12]
    rw [if_neg h12] at HE
    by_cases h13 : o = 13
    · have q13 : (o == 13) = true := by simp [h13]
      rw [if_pos h13] at HE
      clear h13
      go_wp2
      go_ret
      exact ⟨by rw [HE.out]; rfl, rfl⟩
    have q13 : (o == 13) = false := by simp [h13]
    rw [if_neg h13] at HE
    by_cases h14 : o = 14
    · have q14 : (o == 14) = true := by simp [h14]
      rw [if_pos h14] at HE
      clear h14
      go_wp2
      go_ret
      exact ⟨by rw [HE.out]; rfl, rfl⟩
    have q14 : (o == 14) = false := by simp [h14]
    rw [if_neg h14] at HE
    go_wp2
    go_ret
    exact ⟨by rw [HE.out]; rfl, rfl⟩
set_option maxHeartbeats 4000000 in
set_option maxRecDepth 100000 in
theorem risIns_const (x : Ii) (a : Option Addr) (c : Nat) (w : World) (hl : x.args.length ≤ 140737488355328) (h13 : ¬ x.op = 13) (hS : hasS x.op = ⟨#[100, 105]⟩) (hD : opD x.op = true) (hA : opA x.op = false) (hB : opB x.op = false) (hI : opI x.op = true) :
    Calls Tryz.prog 14 #[insV x a c] w fun e w' => e = .returned (.bool (isInsB x)) ∧ Below w.heap.size w w' := by
  have HE := Lib.hid (isOp_kind _ _ _ _ x (by rw [hD, hA, hB, hI]; rfl) hD hA hB hI h13)
  have HH := Lib.hid (fun W => rhas_any x.op W)
  rw [hS] at HH
  have PA := Lib.hid (fun W => rpart_any ⟨#[100, 105]⟩ 97 x.a false W (by decide) (by decide))
  have PB := Lib.hid (fun W => rpart_any ⟨#[100, 105]⟩ 98 x.b false W (by decide) (by decide))
  have PD := Lib.hid (fun W => rpart_any ⟨#[100, 105]⟩ 100 x.dst true W (by decide) (by decide))
  have PI := Lib.hid (fun W => rin_any ⟨#[100, 105]⟩ 105 W (by decide))
  rw [show inB ⟨#[100, 105]⟩ 105 = true by decide] at PI
  clear hS hD hA hB hI h13
  have HX : Hid (Blk (w.alloc (.cells (insC x a c) 25)) w.heap.size 25 (insC x a c)) := Blk.new w _ _
  have HW : Hid (Below w.heap.size w (w.alloc (.cells (insC x a c) 25))) := (Below.refl _ w).alloc (Nat.le_refl _) _
  have HC := Lib.hid (insC.eq_1 x a c)
  rw [HC.out] at HW
  unfold insV
  go_enter Tryz.func14, Tryz.ntmps14
  go_wp2_with fail
  refine (HH.out _).mono ?_
  rintro e w1 ⟨rfl, rfl⟩
  cases hm : x.many != 0
  case true =>
    have hm2 : (x.many == 0) = false := by simpa using hm
    rw [hm2] at HE
    go_wp2
    go_ret
    exact ⟨by rw [HE.out]; simp, HW.out⟩
  have hm2 : (x.many == 0) = true := by simpa using hm
  rw [hm2] at HE
  go_wp2_with fail
  refine (PA.out _).mono ?_
  rintro e w1 ⟨rfl, rfl⟩
  cases hA : fitsB false x.a
  case false =>
    rw [hA] at HE
    go_wp2
    go_ret
    exact ⟨by rw [HE.out]; simp, HW.out⟩
  rw [hA] at HE
  go_wp2_with fail
  refine (PB.out _).mono ?_
  rintro e w1 ⟨rfl, rfl⟩
  cases hB : fitsB false x.b
  case false =>
    rw [hB] at HE
    go_wp2
    go_ret
    exact ⟨by rw [HE.out]; simp, HW.out⟩
  rw [hB] at HE
  cases h0 : x.imm == 0
  · go_wp2_with fail
    refine (PI.out _).mono ?_
    rintro e w1 ⟨rfl, rfl⟩
    by_cases h1 : -1099511627776 ≤ x.imm
    · by_cases h2 : x.imm ≤ 1099511627776
      · have hc : (immB x.imm && true || x.imm == 0) = true := by simp [immB, h1, h2]
        rw [h0] at hc
        rw [h0, hc] at HE
        go_wp2_with fail
        refine (PD.out _).mono ?_
        rintro e w1 ⟨rfl, rfl⟩
        cases hDD : fitsB true x.dst
        case false =>
          rw [hDD] at HE
          go_wp2
          go_ret
          exact ⟨by rw [HE.out]; simp, HW.out⟩
        rw [hDD] at HE
        cases h5 : x.callee == 0
        case false =>
          rw [h5] at HE
          go_wp2
          go_ret
          exact ⟨by rw [HE.out]; simp, HW.out⟩
        rw [h5] at HE
        cases h6 : x.args.isEmpty
        case false =>
          rw [h6] at HE
          have h6' : ((x.args.length : Int) == 0) = false := by
            have : ¬ x.args = [] := by simpa using h6
            have := List.length_pos_iff.2 this
            rw [beq_eq_false_iff_ne]; omega
          go_wp2
          go_ret
          exact ⟨by rw [HE.out]; simp, HW.out⟩
        rw [h6] at HE
        have h6' : ((x.args.length : Int) == 0) = true := by
          have : x.args = [] := by simpa using h6
          simp [this]
        go_wp2
        go_ret
        exact ⟨by rw [HE.out]; simp, HW.out⟩
      · have hc : (immB x.imm && true || false) = false := by simp [immB]; intro _; omega
        rw [h0, hc] at HE
        go_wp2_with fail
        refine (PD.out _).mono ?_
        rintro e w1 ⟨rfl, rfl⟩
        cases hDD : fitsB true x.dst
        case false =>
          rw [hDD] at HE
          go_wp2
          go_ret
          exact ⟨by rw [HE.out]; simp, HW.out⟩
        rw [hDD] at HE
        go_wp2
        go_ret
        exact ⟨by rw [HE.out]; simp, HW.out⟩
    · have hc : (immB x.imm && true || false) = false := by simp [immB]; omega
      rw [h0, hc] at HE
      go_wp2_with fail
      refine (PD.out _).mono ?_
      rintro e w1 ⟨rfl, rfl⟩
      cases hDD : fitsB true x.dst
      case false =>
        rw [hDD] at HE
        go_wp2
        go_ret
        exact ⟨by rw [HE.out]; simp, HW.out⟩
      rw [hDD] at HE
      go_wp2
      go_ret
      exact ⟨by rw [HE.out]; simp, HW.out⟩
  · have hc : (immB x.imm && true || true) = true := by simp
    rw [h0, hc] at HE
    go_wp2_with fail
    refine (PD.out _).mono ?_
    rintro e w1 ⟨rfl, rfl⟩
    cases hDD : fitsB true x.dst
    case false =>
      rw [hDD] at HE
      go_wp2
      go_ret
      exact ⟨by rw [HE.out]; simp, HW.out⟩
    rw [hDD] at HE
    cases h5 : x.callee == 0
    case false =>
      rw [h5] at HE
      go_wp2
      go_ret
      exact ⟨by rw [HE.out]; simp, HW.out⟩
    rw [h5] at HE
    cases h6 : x.args.isEmpty
    case false =>
      rw [h6] at HE
      have h6' : ((x.args.length : Int) == 0) = false := by
        have : ¬ x.args = [] := by simpa using h6
        have := List.length_pos_iff.2 this
        rw [beq_eq_false_iff_ne]; omega
      go_wp2
      go_ret
      exact ⟨by rw [HE.out]; simp, HW.out⟩
    rw [h6] at HE
    have h6' : ((x.args.length : Int) == 0) = true := by
      have : x.args = [] := by simpa using h6
      simp [this]
    go_wp2
    go_ret
    exact ⟨by rw [HE.out]; simp, HW.out⟩
set_option maxHeartbeats 4000000 in
set_option maxRecDepth 100000 in
theorem risIns_arith (x : Ii) (a : Option Addr) (c : Nat) (w : World) (hl : x.args.length ≤ 140737488355328) (h13 : ¬ x.op = 13) (hS : hasS x.op = ⟨#[100, 97, 98]⟩) (hD : opD x.op = true) (hA : opA x.op = true) (hB : opB x.op = true) (hI : opI x.op = false) :
    Calls Tryz.prog 14 #[insV x a c] w fun e w' => e = .returned (.bool (isInsB x)) ∧ Below w.heap.size w w' := by
  have HE := Lib.hid (isOp_kind _ _ _ _ x (by rw [hD, hA, hB, hI]; rfl) hD hA hB hI h13)
  have HH := Lib.hid (fun W => rhas_any x.op W)
  rw [hS] at HH
  have PA := Lib.hid (fun W => rpart_any ⟨#[100, 97, 98]⟩ 97 x.a true W (by decide) (by decide))
  have PB := Lib.hid (fun W => rpart_any ⟨#[100, 97, 98]⟩ 98 x.b true W (by decide) (by decide))
  have PD := Lib.hid (fun W => rpart_any ⟨#[100, 97, 98]⟩ 100 x.dst true W (by decide) (by decide))
  have PI := Lib.hid (fun W => rin_any ⟨#[100, 97, 98]⟩ 105 W (by decide))
  rw [show inB ⟨#[100, 97, 98]⟩ 105 = false by decide] at PI
  clear hS hD hA hB hI h13
  have HX : Hid (Blk (w.alloc (.cells (insC x a c) 25)) w.heap.size 25 (insC x a c)) := Blk.new w _ _
  have HW : Hid (Below w.heap.size w (w.alloc (.cells (insC x a c) 25))) := (Below.refl _ w).alloc (Nat.le_refl _) _
  have HC := Lib.hid (insC.eq_1 x a c)
  rw [HC.out] at HW
  unfold insV
  go_enter Tryz.func14, Tryz.ntmps14
  go_wp2_with fail
  refine (HH.out _).mono ?_
  rintro e w1 ⟨rfl, rfl⟩
  cases hm : x.many != 0
  case true =>
    have hm2 : (x.many == 0) = false := by simpa using hm
    rw [hm2] at HE
    go_wp2
    go_ret
    exact ⟨by rw [HE.out]; simp, HW.out⟩
  have hm2 : (x.many == 0) = true := by simpa using hm
  rw [hm2] at HE
  go_wp2_with fail
  refine (PA.out _).mono ?_
  rintro e w1 ⟨rfl, rfl⟩
  cases hA : fitsB true x.a
  case false =>
    rw [hA] at HE
    go_wp2
    go_ret
    exact ⟨by rw [HE.out]; simp, HW.out⟩
  rw [hA] at HE
  go_wp2_with fail
  refine (PB.out _).mono ?_
  rintro e w1 ⟨rfl, rfl⟩
  cases hB : fitsB true x.b
  case false =>
    rw [hB] at HE
    go_wp2
    go_ret
    exact ⟨by rw [HE.out]; simp, HW.out⟩
  rw [hB] at HE
  cases h0 : x.imm == 0
  · go_wp2_with fail
    refine (PI.out _).mono ?_
    rintro e w1 ⟨rfl, rfl⟩
    have hc : (immB x.imm && false || false) = false := by simp
    rw [h0, hc] at HE
    go_wp2_with fail
    refine (PD.out _).mono ?_
    rintro e w1 ⟨rfl, rfl⟩
    cases hDD : fitsB true x.dst
    case false =>
      rw [hDD] at HE
      go_wp2
      go_ret
      exact ⟨by rw [HE.out]; simp, HW.out⟩
    rw [hDD] at HE
    go_wp2
    go_ret
    exact ⟨by rw [HE.out]; simp, HW.out⟩
  · have hc : (immB x.imm && false || true) = true := by simp
    rw [h0, hc] at HE
    go_wp2_with fail
    refine (PD.out _).mono ?_
    rintro e w1 ⟨rfl, rfl⟩
    cases hDD : fitsB true x.dst
    case false =>
      rw [hDD] at HE
      go_wp2
      go_ret
      exact ⟨by rw [HE.out]; simp, HW.out⟩
    rw [hDD] at HE
    cases h5 : x.callee == 0
    case false =>
      rw [h5] at HE
      go_wp2
      go_ret
      exact ⟨by rw [HE.out]; simp, HW.out⟩
    rw [h5] at HE
    cases h6 : x.args.isEmpty
    case false =>
      rw [h6] at HE
      have h6' : ((x.args.length : Int) == 0) = false := by
        have : ¬ x.args = [] := by simpa using h6
        have := List.length_pos_iff.2 this
        rw [beq_eq_false_iff_ne]; omega
      go_wp2
      go_ret
      exact ⟨by rw [HE.out]; simp, HW.out⟩
    rw [h6] at HE
    have h6' : ((x.args.length : Int) == 0) = true := by
      have : x.args = [] := by simpa using h6
      simp [this]
    go_wp2
    go_ret
    exact ⟨by rw [HE.out]; simp, HW.out⟩
set_option maxHeartbeats 4000000 in
set_option maxRecDepth 100000 in
theorem risIns_load (x : Ii) (a : Option Addr) (c : Nat) (w : World) (hl : x.args.length ≤ 140737488355328) (h13 : ¬ x.op = 13) (hS : hasS x.op = ⟨#[100, 97, 105]⟩) (hD : opD x.op = true) (hA : opA x.op = true) (hB : opB x.op = false) (hI : opI x.op = true) :
    Calls Tryz.prog 14 #[insV x a c] w fun e w' => e = .returned (.bool (isInsB x)) ∧ Below w.heap.size w w' := by
  have HE := Lib.hid (isOp_kind _ _ _ _ x (by rw [hD, hA, hB, hI]; rfl) hD hA hB hI h13)
  have HH := Lib.hid (fun W => rhas_any x.op W)
  rw [hS] at HH
  have PA := Lib.hid (fun W => rpart_any ⟨#[100, 97, 105]⟩ 97 x.a true W (by decide) (by decide))
  have PB := Lib.hid (fun W => rpart_any ⟨#[100, 97, 105]⟩ 98 x.b false W (by decide) (by decide))
  have PD := Lib.hid (fun W => rpart_any ⟨#[100, 97, 105]⟩ 100 x.dst true W (by decide) (by decide))
  have PI := Lib.hid (fun W => rin_any ⟨#[100, 97, 105]⟩ 105 W (by decide))
  rw [show inB ⟨#[100, 97, 105]⟩ 105 = true by decide] at PI
  clear hS hD hA hB hI h13
  have HX : Hid (Blk (w.alloc (.cells (insC x a c) 25)) w.heap.size 25 (insC x a c)) := Blk.new w _ _
  have HW : Hid (Below w.heap.size w (w.alloc (.cells (insC x a c) 25))) := (Below.refl _ w).alloc (Nat.le_refl _) _
  have HC := Lib.hid (insC.eq_1 x a c)
  rw [HC.out] at HW
  unfold insV
  go_enter Tryz.func14, Tryz.ntmps14
  go_wp2_with fail
  refine (HH.out _).mono ?_
  rintro e w1 ⟨rfl, rfl⟩
  cases hm : x.many != 0
  case true =>
    have hm2 : (x.many == 0) = false := by simpa using hm
    rw [hm2] at HE
    go_wp2
    go_ret
    exact ⟨by rw [HE.out]; simp, HW.out⟩
  have hm2 : (x.many == 0) = true := by simpa using hm
  rw [hm2] at HE
  go_wp2_with fail
  refine (PA.out _).mono ?_
  rintro e w1 ⟨rfl, rfl⟩
  cases hA : fitsB true x.a
  case false =>
    rw [hA] at HE
    go_wp2
    go_ret
    exact ⟨by rw [HE.out]; simp, HW.out⟩
  rw [hA] at HE
  go_wp2_with fail
  refine (PB.out _).mono ?_
  rintro e w1 ⟨rfl, rfl⟩
  cases hB : fitsB false x.b
  case false =>
    rw [hB] at HE
    go_wp2
    go_ret
    exact ⟨by rw [HE.out]; simp, HW.out⟩
  rw [hB] at HE
  cases h0 : x.imm == 0
  · go_wp2_with fail
    refine (PI.out _).mono ?_
    rintro e w1 ⟨rfl, rfl⟩
    by_cases h1 : -1099511627776 ≤ x.imm
    · by_cases h2 : x.imm ≤ 1099511627776
      · have hc : (immB x.imm && true || x.imm == 0) = true := by simp [immB, h1, h2]
        rw [h0] at hc
        rw [h0, hc] at HE
        go_wp2_with fail
        refine (PD.out _).mono ?_
        rintro e w1 ⟨rfl, rfl⟩
        cases hDD : fitsB true x.dst
        case false =>
          rw [hDD] at HE
          go_wp2
          go_ret
          exact ⟨by rw [HE.out]; simp, HW.out⟩
        rw [hDD] at HE
        cases h5 : x.callee == 0
        case false =>
          rw [h5] at HE
          go_wp2
          go_ret
          exact ⟨by rw [HE.out]; simp, HW.out⟩
        rw [h5] at HE
        cases h6 : x.args.isEmpty
        case false =>
          rw [h6] at HE
          have h6' : ((x.args.length : Int) == 0) = false := by
            have : ¬ x.args = [] := by simpa using h6
            have := List.length_pos_iff.2 this
            rw [beq_eq_false_iff_ne]; omega
          go_wp2
          go_ret
          exact ⟨by rw [HE.out]; simp, HW.out⟩
        rw [h6] at HE
        have h6' : ((x.args.length : Int) == 0) = true := by
          have : x.args = [] := by simpa using h6
          simp [this]
        go_wp2
        go_ret
        exact ⟨by rw [HE.out]; simp, HW.out⟩
      · have hc : (immB x.imm && true || false) = false := by simp [immB]; intro _; omega
        rw [h0, hc] at HE
        go_wp2_with fail
        refine (PD.out _).mono ?_
        rintro e w1 ⟨rfl, rfl⟩
        cases hDD : fitsB true x.dst
        case false =>
          rw [hDD] at HE
          go_wp2
          go_ret
          exact ⟨by rw [HE.out]; simp, HW.out⟩
        rw [hDD] at HE
        go_wp2
        go_ret
        exact ⟨by rw [HE.out]; simp, HW.out⟩
    · have hc : (immB x.imm && true || false) = false := by simp [immB]; omega
      rw [h0, hc] at HE
      go_wp2_with fail
      refine (PD.out _).mono ?_
      rintro e w1 ⟨rfl, rfl⟩
      cases hDD : fitsB true x.dst
      case false =>
        rw [hDD] at HE
        go_wp2
        go_ret
        exact ⟨by rw [HE.out]; simp, HW.out⟩
      rw [hDD] at HE
      go_wp2
      go_ret
      exact ⟨by rw [HE.out]; simp, HW.out⟩
  · have hc : (immB x.imm && true || true) = true := by simp
    rw [h0, hc] at HE
    go_wp2_with fail
    refine (PD.out _).mono ?_
    rintro e w1 ⟨rfl, rfl⟩
    cases hDD : fitsB true x.dst
    case false =>
      rw [hDD] at HE
      go_wp2
      go_ret
      exact ⟨by rw [HE.out]; simp, HW.out⟩
    rw [hDD] at HE
    cases h5 : x.callee == 0
    case false =>
      rw [h5] at HE
      go_wp2
      go_ret
      exact ⟨by rw [HE.out]; simp, HW.out⟩
    rw [h5] at HE
    cases h6 : x.args.isEmpty
    case false =>
      rw [h6] at HE
      have h6' : ((x.args.length : Int) == 0) = false := by
        have : ¬ x.args = [] := by simpa using h6
        have := List.length_pos_iff.2 this
        rw [beq_eq_false_iff_ne]; omega
      go_wp2
      go_ret
      exact ⟨by rw [HE.out]; simp, HW.out⟩
    rw [h6] at HE
    have h6' : ((x.args.length : Int) == 0) = true := by
      have : x.args = [] := by simpa using h6
      simp [this]
    go_wp2
    go_ret
    exact ⟨by rw [HE.out]; simp, HW.out⟩
set_option maxHeartbeats 4000000 in
set_option maxRecDepth 100000 in
theorem risIns_store (x : Ii) (a : Option Addr) (c : Nat) (w : World) (hl : x.args.length ≤ 140737488355328) (h13 : ¬ x.op = 13) (hS : hasS x.op = ⟨#[97, 98, 105]⟩) (hD : opD x.op = false) (hA : opA x.op = true) (hB : opB x.op = true) (hI : opI x.op = true) :
    Calls Tryz.prog 14 #[insV x a c] w fun e w' => e = .returned (.bool (isInsB x)) ∧ Below w.heap.size w w' := by
  have HE := Lib.hid (isOp_kind _ _ _ _ x (by rw [hD, hA, hB, hI]; rfl) hD hA hB hI h13)
  have HH := Lib.hid (fun W => rhas_any x.op W)
  rw [hS] at HH
  have PA := Lib.hid (fun W => rpart_any ⟨#[97, 98, 105]⟩ 97 x.a true W (by decide) (by decide))
  have PB := Lib.hid (fun W => rpart_any ⟨#[97, 98, 105]⟩ 98 x.b true W (by decide) (by decide))
  have PD := Lib.hid (fun W => rpart_any ⟨#[97, 98, 105]⟩ 100 x.dst false W (by decide) (by decide))
  have PI := Lib.hid (fun W => rin_any ⟨#[97, 98, 105]⟩ 105 W (by decide))
  rw [show inB ⟨#[97, 98, 105]⟩ 105 = true by decide] at PI
  clear hS hD hA hB hI h13
  have HX : Hid (Blk (w.alloc (.cells (insC x a c) 25)) w.heap.size 25 (insC x a c)) := Blk.new w _ _
  have HW : Hid (Below w.heap.size w (w.alloc (.cells (insC x a c) 25))) := (Below.refl _ w).alloc (Nat.le_refl _) _
  have HC := Lib.hid (insC.eq_1 x a c)
  rw [HC.out] at HW
  unfold insV
  go_enter Tryz.func14, Tryz.ntmps14
  go_wp2_with fail
  refine (HH.out _).mono ?_
  rintro e w1 ⟨rfl, rfl⟩
  cases hm : x.many != 0
  case true =>
    have hm2 : (x.many == 0) = false := by simpa using hm
    rw [hm2] at HE
    go_wp2
    go_ret
    exact ⟨by rw [HE.out]; simp, HW.out⟩
  have hm2 : (x.many == 0) = true := by simpa using hm
  rw [hm2] at HE
  go_wp2_with fail
  refine (PA.out _).mono ?_
  rintro e w1 ⟨rfl, rfl⟩
  cases hA : fitsB true x.a
  case false =>
    rw [hA] at HE
    go_wp2
    go_ret
    exact ⟨by rw [HE.out]; simp, HW.out⟩
  rw [hA] at HE
  go_wp2_with fail
  refine (PB.out _).mono ?_
  rintro e w1 ⟨rfl, rfl⟩
  cases hB : fitsB true x.b
  case false =>
    rw [hB] at HE
    go_wp2
    go_ret
    exact ⟨by rw [HE.out]; simp, HW.out⟩
  rw [hB] at HE
  cases h0 : x.imm == 0
  · go_wp2_with fail
    refine (PI.out _).mono ?_
    rintro e w1 ⟨rfl, rfl⟩
    by_cases h1 : -1099511627776 ≤ x.imm
    · by_cases h2 : x.imm ≤ 1099511627776
      · have hc : (immB x.imm && true || x.imm == 0) = true := by simp [immB, h1, h2]
        rw [h0] at hc
        rw [h0, hc] at HE
        go_wp2_with fail
        refine (PD.out _).mono ?_
        rintro e w1 ⟨rfl, rfl⟩
        cases hDD : fitsB false x.dst
        case false =>
          rw [hDD] at HE
          go_wp2
          go_ret
          exact ⟨by rw [HE.out]; simp, HW.out⟩
        rw [hDD] at HE
        cases h5 : x.callee == 0
        case false =>
          rw [h5] at HE
          go_wp2
          go_ret
          exact ⟨by rw [HE.out]; simp, HW.out⟩
        rw [h5] at HE
        cases h6 : x.args.isEmpty
        case false =>
          rw [h6] at HE
          have h6' : ((x.args.length : Int) == 0) = false := by
            have : ¬ x.args = [] := by simpa using h6
            have := List.length_pos_iff.2 this
            rw [beq_eq_false_iff_ne]; omega
          go_wp2
          go_ret
          exact ⟨by rw [HE.out]; simp, HW.out⟩
        rw [h6] at HE
        have h6' : ((x.args.length : Int) == 0) = true := by
          have : x.args = [] := by simpa using h6
          simp [this]
        go_wp2
        go_ret
        exact ⟨by rw [HE.out]; simp, HW.out⟩
      · have hc : (immB x.imm && true || false) = false := by simp [immB]; intro _; omega
        rw [h0, hc] at HE
        go_wp2_with fail
        refine (PD.out _).mono ?_
        rintro e w1 ⟨rfl, rfl⟩
        cases hDD : fitsB false x.dst
        case false =>
          rw [hDD] at HE
          go_wp2
          go_ret
          exact ⟨by rw [HE.out]; simp, HW.out⟩
        rw [hDD] at HE
        go_wp2
        go_ret
        exact ⟨by rw [HE.out]; simp, HW.out⟩
    · have hc : (immB x.imm && true || false) = false := by simp [immB]; omega
      rw [h0, hc] at HE
      go_wp2_with fail
      refine (PD.out _).mono ?_
      rintro e w1 ⟨rfl, rfl⟩
      cases hDD : fitsB false x.dst
      case false =>
        rw [hDD] at HE
        go_wp2
        go_ret
        exact ⟨by rw [HE.out]; simp, HW.out⟩
      rw [hDD] at HE
      go_wp2
      go_ret
      exact ⟨by rw [HE.out]; simp, HW.out⟩
  · have hc : (immB x.imm && true || true) = true := by simp
    rw [h0, hc] at HE
    go_wp2_with fail
    refine (PD.out _).mono ?_
    rintro e w1 ⟨rfl, rfl⟩
    cases hDD : fitsB false x.dst
    case false =>
      rw [hDD] at HE
      go_wp2
      go_ret
      exact ⟨by rw [HE.out]; simp, HW.out⟩
    rw [hDD] at HE
    cases h5 : x.callee == 0
    case false =>
      rw [h5] at HE
      go_wp2
      go_ret
      exact ⟨by rw [HE.out]; simp, HW.out⟩
    rw [h5] at HE
    cases h6 : x.args.isEmpty
    case false =>
      rw [h6] at HE
      have h6' : ((x.args.length : Int) == 0) = false := by
        have : ¬ x.args = [] := by simpa using h6
        have := List.length_pos_iff.2 this
        rw [beq_eq_false_iff_ne]; omega
      go_wp2
      go_ret
      exact ⟨by rw [HE.out]; simp, HW.out⟩
    rw [h6] at HE
    have h6' : ((x.args.length : Int) == 0) = true := by
      have : x.args = [] := by simpa using h6
      simp [this]
    go_wp2
    go_ret
    exact ⟨by rw [HE.out]; simp, HW.out⟩
set_option maxHeartbeats 4000000 in
set_option maxRecDepth 100000 in
theorem risIns_copy (x : Ii) (a : Option Addr) (c : Nat) (w : World) (hl : x.args.length ≤ 140737488355328) (h13 : ¬ x.op = 13) (hS : hasS x.op = ⟨#[100, 97]⟩) (hD : opD x.op = true) (hA : opA x.op = true) (hB : opB x.op = false) (hI : opI x.op = false) :
    Calls Tryz.prog 14 #[insV x a c] w fun e w' => e = .returned (.bool (isInsB x)) ∧ Below w.heap.size w w' := by
  have HE := Lib.hid (isOp_kind _ _ _ _ x (by rw [hD, hA, hB, hI]; rfl) hD hA hB hI h13)
  have HH := Lib.hid (fun W => rhas_any x.op W)
  rw [hS] at HH
  have PA := Lib.hid (fun W => rpart_any ⟨#[100, 97]⟩ 97 x.a true W (by decide) (by decide))
  have PB := Lib.hid (fun W => rpart_any ⟨#[100, 97]⟩ 98 x.b false W (by decide) (by decide))
  have PD := Lib.hid (fun W => rpart_any ⟨#[100, 97]⟩ 100 x.dst true W (by decide) (by decide))
  have PI := Lib.hid (fun W => rin_any ⟨#[100, 97]⟩ 105 W (by decide))
  rw [show inB ⟨#[100, 97]⟩ 105 = false by decide] at PI
  clear hS hD hA hB hI h13
  have HX : Hid (Blk (w.alloc (.cells (insC x a c) 25)) w.heap.size 25 (insC x a c)) := Blk.new w _ _
  have HW : Hid (Below w.heap.size w (w.alloc (.cells (insC x a c) 25))) := (Below.refl _ w).alloc (Nat.le_refl _) _
  have HC := Lib.hid (insC.eq_1 x a c)
  rw [HC.out] at HW
  unfold insV
  go_enter Tryz.func14, Tryz.ntmps14
  go_wp2_with fail
  refine (HH.out _).mono ?_
  rintro e w1 ⟨rfl, rfl⟩
  cases hm : x.many != 0
  case true =>
    have hm2 : (x.many == 0) = false := by simpa using hm
    rw [hm2] at HE
    go_wp2
    go_ret
    exact ⟨by rw [HE.out]; simp, HW.out⟩
  have hm2 : (x.many == 0) = true := by simpa using hm
  rw [hm2] at HE
  go_wp2_with fail
  refine (PA.out _).mono ?_
  rintro e w1 ⟨rfl, rfl⟩
  cases hA : fitsB true x.a
  case false =>
    rw [hA] at HE
    go_wp2
    go_ret
    exact ⟨by rw [HE.out]; simp, HW.out⟩
  rw [hA] at HE
  go_wp2_with fail
  refine (PB.out _).mono ?_
  rintro e w1 ⟨rfl, rfl⟩
  cases hB : fitsB false x.b
  case false =>
    rw [hB] at HE
    go_wp2
    go_ret
    exact ⟨by rw [HE.out]; simp, HW.out⟩
  rw [hB] at HE
  cases h0 : x.imm == 0
  · go_wp2_with fail
    refine (PI.out _).mono ?_
    rintro e w1 ⟨rfl, rfl⟩
    have hc : (immB x.imm && false || false) = false := by simp
    rw [h0, hc] at HE
    go_wp2_with fail
    refine (PD.out _).mono ?_
    rintro e w1 ⟨rfl, rfl⟩
    cases hDD : fitsB true x.dst
    case false =>
      rw [hDD] at HE
      go_wp2
      go_ret
      exact ⟨by rw [HE.out]; simp, HW.out⟩
    rw [hDD] at HE
    go_wp2
    go_ret
    exact ⟨by rw [HE.out]; simp, HW.out⟩
  · have hc : (immB x.imm && false || true) = true := by simp
    rw [h0, hc] at HE
    go_wp2_with fail
    refine (PD.out _).mono ?_
    rintro e w1 ⟨rfl, rfl⟩
    cases hDD : fitsB true x.dst
    case false =>
      rw [hDD] at HE
      go_wp2
      go_ret
      exact ⟨by rw [HE.out]; simp, HW.out⟩
    rw [hDD] at HE
    cases h5 : x.callee == 0
    case false =>
      rw [h5] at HE
      go_wp2
      go_ret
      exact ⟨by rw [HE.out]; simp, HW.out⟩
    rw [h5] at HE
    cases h6 : x.args.isEmpty
    case false =>
      rw [h6] at HE
      have h6' : ((x.args.length : Int) == 0) = false := by
        have : ¬ x.args = [] := by simpa using h6
        have := List.length_pos_iff.2 this
        rw [beq_eq_false_iff_ne]; omega
      go_wp2
      go_ret
      exact ⟨by rw [HE.out]; simp, HW.out⟩
    rw [h6] at HE
    have h6' : ((x.args.length : Int) == 0) = true := by
      have : x.args = [] := by simpa using h6
      simp [this]
    go_wp2
    go_ret
    exact ⟨by rw [HE.out]; simp, HW.out⟩
set_option maxHeartbeats 4000000 in
set_option maxRecDepth 100000 in
theorem risIns_none (x : Ii) (a : Option Addr) (c : Nat) (w : World) (hS : hasS x.op = ⟨#[]⟩) (hE : isInsB x = false) :
    Calls Tryz.prog 14 #[insV x a c] w fun e w' => e = .returned (.bool (isInsB x)) ∧ Below w.heap.size w w' := by
  have HE := Lib.hid hE
  have HH := Lib.hid (fun W => rhas_any x.op W)
  rw [hS] at HH
  clear hS hE
  have HW : Hid (Below w.heap.size w (w.alloc (.cells (insC x a c) 25))) := (Below.refl _ w).alloc (Nat.le_refl _) _
  have HC := Lib.hid (insC.eq_1 x a c)
  rw [HC.out] at HW
  unfold insV
  go_enter Tryz.func14, Tryz.ntmps14
  go_wp2_with fail
  refine (HH.out _).mono ?_
  rintro e w1 ⟨rfl, rfl⟩
  go_wp2
  go_ret
  exact ⟨by rw [HE.out]; rfl, HW.out⟩
set_option maxHeartbeats 4000000 in
set_option maxRecDepth 100000 in
theorem risIns_call (x : Ii) (a : Option Addr) (c : Nat) (w : World) (hl : x.args.length ≤ 140737488355328) (hI : IntsW w a x.args) (hS : hasS x.op = ⟨#[99]⟩) (h13 : x.op = 13) :
    Calls Tryz.prog 14 #[insV x a c] w fun e w' => e = .returned (.bool (isInsB x)) ∧ Below w.heap.size w w' := by
  have HE : Hid (isInsB x = (fitsB (x.dst != 0) x.dst && decide (0 ≤ x.callee) && decide (x.callee ≤ 99) && decide (x.args.length ≤ 8) && x.args.all varB && fitsB false x.a && fitsB false x.b && x.imm == 0 && x.many == 0)) := by
    show _ = _
    unfold isInsB isCallB
    rw [if_pos h13]
    rfl
  have HH := Lib.hid (fun W => rhas_any x.op W)
  rw [hS] at HH
  have PA := Lib.hid (fun W => rpart_any ⟨#[99]⟩ 97 x.a false W (by decide) (by decide))
  have PB := Lib.hid (fun W => rpart_any ⟨#[99]⟩ 98 x.b false W (by decide) (by decide))
  clear hS h13
  have HX : Hid (Blk (w.alloc (.cells (insC x a c) 25)) w.heap.size 25 (insC x a c)) := Blk.new w _ _
  have HW : Hid (Below w.heap.size w (w.alloc (.cells (insC x a c) 25))) := (Below.refl _ w).alloc (Nat.le_refl _) _
  have HI : Hid (IntsW (w.alloc (.cells (insC x a c) 25)) a x.args) := hI.below HW.out
  clear hI
  have HC := Lib.hid (insC.eq_1 x a c)
  have HX2 : Hid (Blk (w.alloc (.cells #[.int .i64 x.op, .int .i64 x.dst, .int .i64 x.a, .int .i64 x.b, .int .i64 x.imm, .int .i64 x.callee, .slice a x.args.length c, .int .i64 x.many] 25)) w.heap.size 25 (insC x a c)) := HX.out
  rw [HC.out] at HW HI
  unfold insV
  go_enter Tryz.func14, Tryz.ntmps14
  go_wp2_with fail
  refine (HH.out _).mono ?_
  rintro e w1 ⟨rfl, rfl⟩
  generalize (w.alloc (.cells #[.int .i64 x.op, .int .i64 x.dst, .int .i64 x.a, .int .i64 x.b, .int .i64 x.imm, .int .i64 x.callee, .slice a x.args.length c, .int .i64 x.many] 25)) = W at *
  obtain ⟨c0, c1, c2, c3, c4, c5, c6, c7⟩ := box8 HX2.out
  cases hm : x.many != 0
  case true =>
    have hm2 : (x.many == 0) = false := by simpa using hm
    rw [hm2] at HE
    go_wp2
    go_ret
    exact ⟨by rw [HE.out]; simp, HW.out⟩
  have hm2 : (x.many == 0) = true := by simpa using hm
  rw [hm2] at HE
  go_wp2_with fail
  refine (PA.out _).mono ?_
  rintro e w1 ⟨rfl, rfl⟩
  cases hA : fitsB false x.a
  case false =>
    rw [hA] at HE
    go_wp2
    go_ret
    exact ⟨by rw [HE.out]; simp, HW.out⟩
  rw [hA] at HE
  go_wp2_with fail
  refine (PB.out _).mono ?_
  rintro e w1 ⟨rfl, rfl⟩
  cases hB : fitsB false x.b
  case false =>
    rw [hB] at HE
    go_wp2
    go_ret
    exact ⟨by rw [HE.out]; simp, HW.out⟩
  rw [hB] at HE
  have HAL : Hid (x.args.all varB = (x.args.drop 0).all varB) := rfl
  go_wp2
  go_loopw [4] (fun k wr => ∃ j : Nat, k = .int .i64 j ∧ j ≤ x.args.length ∧ Hid (x.args.all varB = (x.args.drop j).all varB) ∧ W = wr) (fun k _ => x.args.length - (intOf k).toNat)
  case atStart => exact ⟨0, rfl, Nat.zero_le _, HAL.out, rfl⟩
  case round =>
    obtain ⟨j, rfl, hj, HA2, rfl⟩ := hrel
    by_cases hlt : j < x.args.length
    · have hlt' : (j : Int) < x.args.length := by omega
      have hj0 : (0 : Int) ≤ j := by omega
      obtain ⟨y, hy⟩ : ∃ y, x.args[j]? = some y := ⟨_, List.getElem?_eq_getElem hlt⟩
      obtain ⟨g, o, rfl, hg, h0⟩ := HI.out j y hy
      have HD : Hid (x.args.all varB = (varB y && (x.args.drop (j + 1)).all varB)) := by
        show _ = _
        rw [HA2.out, List.drop_eq_getElem_cons hlt, (List.getElem?_eq_some_iff.1 hy).2]
        rfl
      clear hy HA2
      go_wp2_with fail
      refine (rvar_any y W).mono ?_
      rintro e w1 ⟨rfl, rfl⟩
      cases hv : varB y
      · rw [hv] at HD
        rw [HD.out] at HE
        go_wp2
        go_ret
        exact ⟨by rw [HE.out]; simp, HW.out⟩
      · rw [hv] at HD
        go_wp2
        go_roundw
        case rel => exact ⟨j + 1, by go_num, by omega, by have := HD.out; simpa [Hid] using this, trivial⟩
        case measure => simp [intOf]; omega
    · have e : j = x.args.length := by omega
      subst e
      have hlt' : ¬ (x.args.length : Int) < x.args.length := by omega
      rw [HA2.out, List.drop_length] at HE
      by_cases h3 : x.args.length ≤ 8
      case neg =>
        have h3' : ¬ (x.args.length : Int) ≤ 8 := by omega
        have e3 : decide (x.args.length ≤ 8) = false := by simpa using h3
        rw [e3] at HE
        go_wp2
        go_ret
        exact ⟨by rw [HE.out]; simp, HW.out⟩
      have h3' : (x.args.length : Int) ≤ 8 := by omega
      rw [decide_eq_true h3] at HE
      by_cases h1 : 0 ≤ x.callee
      case neg =>
        have e1 : decide (0 ≤ x.callee) = false := by simpa using h1
        rw [e1] at HE
        go_wp2
        go_ret
        exact ⟨by rw [HE.out]; simp, HW.out⟩
      rw [decide_eq_true h1] at HE
      by_cases h2 : x.callee ≤ 99
      case neg =>
        have e1 : decide (x.callee ≤ 99) = false := by simpa using h2
        rw [e1] at HE
        go_wp2
        go_ret
        exact ⟨by rw [HE.out]; simp, HW.out⟩
      rw [decide_eq_true h2] at HE
      cases h4 : x.dst == 0
      · have hd : (x.dst != 0) = true := by simpa [bne] using h4
        have hf : fitsB (x.dst != 0) x.dst = varB x.dst := by rw [hd]; rfl
        rw [hf] at HE
        go_wp2_with fail
        refine (rvar_any x.dst W).mono ?_
        rintro e w1 ⟨rfl, rfl⟩
        cases h5 : varB x.dst
        · rw [h5] at HE
          go_wp2
          go_ret
          exact ⟨by rw [HE.out]; simp, HW.out⟩
        · rw [h5] at HE
          go_wp2
          go_ret
          exact ⟨by rw [HE.out]; simp, HW.out⟩
      · have hd : x.dst = 0 := by simpa using h4
        have hf : fitsB (x.dst != 0) x.dst = true := by rw [hd]; rfl
        rw [hf] at HE
        clear hd
        go_wp2
        go_ret
        exact ⟨by rw [HE.out]; simp, HW.out⟩
theorem risIns_any (x : Ii) (a : Option Addr) (c : Nat) (w : World) (hl : x.args.length ≤ 140737488355328) (hI : IntsW w a x.args) :
    Calls Tryz.prog 14 #[insV x a c] w fun e w' => e = .returned (.bool (isInsB x)) ∧ Below w.heap.size w w' := by
  by_cases h13 : x.op = 13
  · exact risIns_call x a c w hl hI (by rw [h13]; rfl) h13
  · by_cases h1 : x.op = 1
    · exact risIns_const x a c w hl h13 (by rw [h1]; rfl) (by rw [h1]; rfl) (by rw [h1]; rfl) (by rw [h1]; rfl) (by rw [h1]; rfl)
    · by_cases h2 : 2 ≤ x.op ∧ x.op ≤ 10
      · have ha : arithB x.op = true := by simp [arithB, h2.1, h2.2]
        have n1 : (x.op == 1) = false := by simp [h1]
        have n11 : (x.op == 11) = false := by rw [beq_eq_false_iff_ne]; omega
        have n12 : (x.op == 12) = false := by rw [beq_eq_false_iff_ne]; omega
        have n14 : (x.op == 14) = false := by rw [beq_eq_false_iff_ne]; omega
        exact risIns_arith x a c w hl h13 (by unfold hasS; rw [if_neg h1, if_pos h2]) (by simp [opD, ha]) (by simp [opA, ha]) (by simp [opB, ha]) (by simp [opI, n1, n11, n12])
      · by_cases h11 : x.op = 11
        · exact risIns_load x a c w hl h13 (by rw [h11]; rfl) (by rw [h11]; rfl) (by rw [h11]; rfl) (by rw [h11]; rfl) (by rw [h11]; rfl)
        · by_cases h12 : x.op = 12
          · exact risIns_store x a c w hl h13 (by rw [h12]; rfl) (by rw [h12]; rfl) (by rw [h12]; rfl) (by rw [h12]; rfl) (by rw [h12]; rfl)
          · by_cases h14 : x.op = 14
            · exact risIns_copy x a c w hl h13 (by rw [h14]; rfl) (by rw [h14]; rfl) (by rw [h14]; rfl) (by rw [h14]; rfl) (by rw [h14]; rfl)
            · refine risIns_none x a c w (by unfold hasS; rw [if_neg h1, if_neg h2, if_neg h11, if_neg h12, if_neg h13, if_neg h14]) ?_
              have ha : arithB x.op = false := by
                unfold arithB
                by_cases h : 2 ≤ x.op
                · have : ¬ x.op ≤ 10 := fun h' => h2 ⟨h, h'⟩
                  simp [this]
                · simp [h]
              unfold isInsB isOpB
              rw [if_neg h13]
              simp [opD, opA, opB, opI, ha, h1, h11, h12, h14]
end Go.Proofs.YtgpbpbhidemciaaGreat
namespace Go.Proofs.YtgpbpbhidemciaaGreat
open Go.RowKit

set_option maxHeartbeats 4000000 in
set_option maxRecDepth 100000 in
theorem risTerm_any (t : Tt) (w : World) : Calls Tryz.prog 16 #[termV t] w fun e w' => e = .returned (.bool (isTermB t)) ∧ Below w.heap.size w w' := by
  have HE := Lib.hid (isTermB.eq_1 t)
  unfold termV
  have HX : Hid (Blk (w.alloc (.cells (termC t) 30)) w.heap.size 30 (termC t)) := Blk.new w _ _
  have HW : Hid (Below w.heap.size w (w.alloc (.cells (termC t) 30))) := (Below.refl _ w).alloc (Nat.le_refl _) _
  by_cases h1 : t.kind = 1
  · have q1 : (t.kind == 1) = true := by simp [h1]
    rw [if_pos h1] at HE
    clear h1
    go_enter Tryz.func16, Tryz.ntmps16
    cases h2 : t.a == 0
    · rw [h2] at HE
      go_wp2
      go_ret
      exact ⟨by rw [HE.out]; rfl, HW.out⟩
    · rw [h2] at HE
      go_wp2
      go_ret
      exact ⟨by rw [HE.out]; rfl, HW.out⟩
  rw [if_neg h1] at HE
  have q1 : (t.kind == 1) = false := by simp [h1]
  by_cases h2 : t.kind = 2
  · have q2 : (t.kind == 2) = true := by simp [h2]
    rw [if_pos h2] at HE
    clear h1 h2
    go_enter Tryz.func16, Tryz.ntmps16
    go_wp2_with fail
    refine (rvar_any t.a _).mono ?_
    rintro e w1 ⟨rfl, rfl⟩
    go_wp2
    go_ret
    exact ⟨by rw [HE.out]; rfl, HW.out⟩
  rw [if_neg h2] at HE
  have q2 : (t.kind == 2) = false := by simp [h2]
  by_cases h3 : t.kind = 3
  · have q3 : (t.kind == 3) = true := by simp [h3]
    rw [if_pos h3] at HE
    clear h1 h2 h3
    go_enter Tryz.func16, Tryz.ntmps16
    have hq := fun W => eql_arr2 t.t0 t.t1 0 0 W
    cases h0 : t.a == 0
    · have hd : (t.a != 0) = true := by simpa [bne] using h0
      have hf : fitsB (t.a != 0) t.a = varB t.a := by rw [hd]; rfl
      rw [hf] at HE
      go_wp2_with fail
      refine (rvar_any t.a _).mono ?_
      rintro e w1 ⟨rfl, rfl⟩
      cases h5 : varB t.a
      · rw [h5] at HE
        go_wp2
        go_ret
        exact ⟨by rw [HE.out]; rfl, HW.out⟩
      · rw [h5] at HE
        go_wp2
        go_ret
        exact ⟨by rw [HE.out]; rfl, HW.out⟩
    · have hd : t.a = 0 := by simpa using h0
      have hf : fitsB (t.a != 0) t.a = true := by rw [hd]; rfl
      rw [hf] at HE
      clear hd
      go_wp2
      go_ret
      exact ⟨by rw [HE.out]; rfl, HW.out⟩
  rw [if_neg h3] at HE
  have q3 : (t.kind == 3) = false := by simp [h3]
  by_cases h4 : t.kind = 4
  · have q4 : (t.kind == 4) = true := by simp [h4]
    rw [if_pos h4] at HE
    clear h1 h2 h3 h4
    go_enter Tryz.func16, Tryz.ntmps16
    cases h2 : t.a == 0
    · rw [h2] at HE
      go_wp2
      go_ret
      exact ⟨by rw [HE.out]; rfl, HW.out⟩
    rw [h2] at HE
    have hq := fun W => eql_arr2 t.t0 t.t1 0 0 W
    go_wp2
    go_ret
    exact ⟨by rw [HE.out]; rfl, HW.out⟩
  rw [if_neg h4] at HE
  have q4 : (t.kind == 4) = false := by simp [h4]
  clear h1 h2 h3 h4
  go_enter Tryz.func16, Tryz.ntmps16
  go_wp2
  go_ret
  exact ⟨by rw [HE.out]; rfl, HW.out⟩

set_option maxHeartbeats 1000000 in
set_option maxRecDepth 100000 in
theorem rdefines_any (x : Ii) (a : Option Addr) (c : Nat) (w : World) (hl : x.args.length ≤ 140737488355328) (hI : IntsW w a x.args) :
    Calls Tryz.prog 20 #[insV x a c] w fun e w' => e = .returned (.int .i64 (definesN x)) ∧ Below w.heap.size w w' := by
  have HX : Hid (Blk (w.alloc (.cells (insC x a c) 25)) w.heap.size 25 (insC x a c)) := Blk.new w _ _
  have HW : Hid (Below w.heap.size w (w.alloc (.cells (insC x a c) 25))) := (Below.refl _ w).alloc (Nat.le_refl _) _
  have HC := Lib.hid (risIns_any x a c _ hl (hI.below HW.out))
  have HE := Lib.hid (definesN.eq_1 x)
  clear hI
  unfold insV at HC ⊢
  go_enter Tryz.func20, Tryz.ntmps20
  go_wp2_with fail
  refine HC.out.mono ?_
  rintro e w1 ⟨rfl, hb⟩
  have HX1 : Hid (Blk w1 w.heap.size 25 (insC x a c)) := HX.out.below hb HX.out.lt
  have HW1 : Hid (Below w.heap.size w w1) := HW.out.trans (hb.mono HW.out.size)
  clear hb HX HW HC
  obtain ⟨c0, c1, c2, c3, c4, c5, c6, c7⟩ := box8 HX1.out
  cases hi : isInsB x
  · rw [hi] at HE
    go_wp2
    go_ret
    exact ⟨by rw [HE.out]; rfl, HW1.out⟩
  · rw [hi] at HE
    go_wp2
    go_ret
    exact ⟨by rw [HE.out]; rfl, HW1.out⟩
set_option maxHeartbeats 1000000 in
set_option maxRecDepth 100000 in
theorem rneeds_any (t : Tt) (w : World) :
    Calls Tryz.prog 21 #[termV t] w fun e w' => ∃ v, e = .returned v ∧ OwnI w' w.heap.size v (needsL t) ∧ Below w.heap.size w w' := by
  have HX : Hid (Blk (w.alloc (.cells (termC t) 30)) w.heap.size 30 (termC t)) := Blk.new w _ _
  have HW : Hid (Below w.heap.size w (w.alloc (.cells (termC t) 30))) := (Below.refl _ w).alloc (Nat.le_refl _) _
  have HC := Lib.hid (risTerm_any t (w.alloc (.cells (termC t) 30)))
  have HE := Lib.hid (needsL.eq_1 t)
  unfold termV at HC ⊢
  go_enter Tryz.func21, Tryz.ntmps21
  go_wp2_with fail
  refine HC.out.mono ?_
  rintro e w1 ⟨rfl, hb⟩
  have HX1 : Hid (Blk w1 w.heap.size 30 (termC t)) := HX.out.below hb HX.out.lt
  have HW1 : Hid (Below w.heap.size w w1) := HW.out.trans (hb.mono HW.out.size)
  clear hb HX HW HC
  obtain ⟨c0, c1, c2, c3⟩ := box4i HX1.out
  cases hi : isTermB t
  · rw [hi] at HE
    go_wp2
    go_ret
    refine ⟨_, rfl, ?_, HW1.out⟩
    rw [HE.out]
    exact World.ownsRow_nil _ _ _ _
  · rw [hi] at HE
    cases h0 : t.a == 0
    · have hg : givenL [t.a] = [t.a] := by simp [givenL, bne, h0]
      rw [hg] at HE
      have HN : Hid (Blk (w1.alloc (.cells #[.int .i64 t.a] 3)) w1.heap.size 3 ([t.a].map (Value.int .i64)).toArray) := Blk.new w1 _ _
      go_wp2
      go_ret
      refine ⟨_, rfl, ?_, HW1.out.alloc (by have := HW1.out.size; omega) _⟩
      rw [HE.out]
      exact OwnI.new HN.out HW1.out.size (by simp)
    · have hg : givenL [t.a] = [] := by simp [givenL, bne, h0]
      rw [hg] at HE
      go_wp2
      go_ret
      refine ⟨_, rfl, ?_, HW1.out⟩
      rw [HE.out]
      exact World.ownsRow_nil _ _ _ _
set_option maxHeartbeats 1000000 in
set_option maxRecDepth 100000 in
theorem rto_any (t : Tt) (w : World) :
    Calls Tryz.prog 22 #[termV t] w fun e w' => ∃ v, e = .returned v ∧ OwnI w' w.heap.size v (toL t) ∧ Below w.heap.size w w' := by
  have HX : Hid (Blk (w.alloc (.cells (termC t) 30)) w.heap.size 30 (termC t)) := Blk.new w _ _
  have HW : Hid (Below w.heap.size w (w.alloc (.cells (termC t) 30))) := (Below.refl _ w).alloc (Nat.le_refl _) _
  have HC := Lib.hid (risTerm_any t (w.alloc (.cells (termC t) 30)))
  have HE := Lib.hid (toL.eq_1 t)
  unfold termV at HC ⊢
  go_enter Tryz.func22, Tryz.ntmps22
  go_wp2_with fail
  refine HC.out.mono ?_
  rintro e w1 ⟨rfl, hb⟩
  have HX1 : Hid (Blk w1 w.heap.size 30 (termC t)) := HX.out.below hb HX.out.lt
  have HW1 : Hid (Below w.heap.size w w1) := HW.out.trans (hb.mono HW.out.size)
  clear hb HX HW HC
  obtain ⟨c0, c1, c2, c3⟩ := box4i HX1.out
  cases hi : isTermB t
  · rw [hi] at HE
    go_wp2
    go_ret
    refine ⟨_, rfl, ?_, HW1.out⟩
    rw [HE.out]
    exact World.ownsRow_nil _ _ _ _
  rw [hi] at HE
  by_cases h1 : t.kind = 1
  · have q1 : (t.kind == 1) = true := by simp [h1]
    rw [if_pos h1] at HE
    have HN : Hid (Blk (w1.alloc (.cells #[.int .i64 t.t0] 3)) w1.heap.size 3 ([t.t0].map (Value.int .i64)).toArray) := Blk.new w1 _ _
    go_wp2
    go_ret
    refine ⟨_, rfl, ?_, HW1.out.alloc (by have := HW1.out.size; omega) _⟩
    rw [HE.out]
    exact OwnI.new HN.out HW1.out.size (by simp)
  rw [if_neg h1] at HE
  have q1 : (t.kind == 1) = false := by simp [h1]
  by_cases h2 : t.kind = 2
  · have q2 : (t.kind == 2) = true := by simp [h2]
    rw [if_pos h2] at HE
    have HN : Hid (Blk (w1.alloc (.cells #[.int .i64 t.t0, .int .i64 t.t1] 3)) w1.heap.size 3 ([t.t0, t.t1].map (Value.int .i64)).toArray) := Blk.new w1 _ _
    go_wp2
    go_ret
    refine ⟨_, rfl, ?_, HW1.out.alloc (by have := HW1.out.size; omega) _⟩
    rw [HE.out]
    exact OwnI.new HN.out HW1.out.size (by simp)
  rw [if_neg h2] at HE
  have q2 : (t.kind == 2) = false := by simp [h2]
  go_wp2
  go_ret
  refine ⟨_, rfl, ?_, HW1.out⟩
  rw [HE.out]
  exact World.ownsRow_nil _ _ _ _
end Go.Proofs.YtgpbpbhidemciaaGreat
