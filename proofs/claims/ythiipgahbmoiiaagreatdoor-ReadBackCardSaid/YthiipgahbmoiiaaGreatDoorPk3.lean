/-
  Package ir tells whether an instruction is right as the plain function says. No condition beyond those that each theorem states.
-/
import Derived.Test.YthiipgahbmoiiaaGreatDoorPk2
namespace Go.Proofs.YthiipgahbmoiiaaGreatDoor
open Go.RowKit

theorem op_class (o : Int) : (opD o = true ∧ opA o = false ∧ opB o = false ∧ opI o = true) ∨ (opD o = true ∧ opA o = true ∧ opB o = true ∧ opI o = false) ∨ (opD o = true ∧ opA o = true ∧ opB o = false ∧ opI o = true) ∨
    (opD o = false ∧ opA o = true ∧ opB o = true ∧ opI o = true) ∨ (opD o = true ∧ opA o = true ∧ opB o = false ∧ opI o = false) ∨ (opD o = false ∧ opA o = false ∧ opB o = false ∧ opI o = false) := by
  unfold opD opA opB opI
  cases ha : arithB o
  · by_cases h1 : o = 1
    · subst h1; decide
    · by_cases h2 : o = 11
      · subst h2; decide
      · by_cases h3 : o = 12
        · subst h3; decide
        · by_cases h4 : o = 14
          · subst h4; decide
          · simp [h1, h2, h3, h4]
  · have h : 2 ≤ o ∧ o ≤ 10 := by simpa [arithB] using ha
    have h1 : (o == 1) = false := by simp; omega
    have h2 : (o == 11) = false := by simp; omega
    have h3 : (o == 12) = false := by simp; omega
    have h4 : (o == 14) = false := by simp; omega
    rw [h1, h2, h3, h4]
    simp
theorem box4 {W : World} {g : Nat} {t : TypeId} {a b c d : Value} (h : Blk W g t #[a, b, c, d]) :
    W.cell? ⟨g, 0, none⟩ = some a ∧ W.cell? ⟨g, 1, none⟩ = some b ∧ W.cell? ⟨g, 2, none⟩ = some c ∧ W.cell? ⟨g, 3, none⟩ = some d := ⟨h.cell 0, h.cell 1, h.cell 2, h.cell 3⟩
/-- An instruction that is no call, its parts of that kind. -/
theorem isOp_kind (D A B I : Bool) (x : Ii) (h : (opD x.op || opA x.op || opB x.op || opI x.op) = true) (hD : opD x.op = D) (hA : opA x.op = A) (hB : opB x.op = B) (hI : opI x.op = I) (h13 : ¬ x.op = 13) :
    isInsB x = (fitsB D x.dst && fitsB A x.a && fitsB B x.b && (immB x.imm && I || x.imm == 0) && x.callee == 0 && x.args.isEmpty && x.many == 0) := by
  unfold isInsB isOpB
  rw [if_neg h13, h, hD, hA, hB, hI]
  rfl
set_option maxHeartbeats 4000000 in
set_option maxRecDepth 100000 in
theorem isIns_const (x : Ii) (a : Option Addr) (c : Nat) (w : World) (h13 : ¬ x.op = 13) (hD : opD x.op = true) (hA : opA x.op = false) (hB : opB x.op = false) (hI : opI x.op = true) :
    Calls Tryz.prog 142 #[insV x a c] w fun e w' => e = .returned (.bool (isInsB x)) ∧ Below w.heap.size w w' := by
  have HE := Lib.hid (isOp_kind _ _ _ _ x (by rw [hD, hA, hB, hI]; rfl) hD hA hB hI h13)
  have HV : Hid (partsV x.op = .agg #[.bool true, .bool false, .bool false, .bool true]) := by
    show _ = _
    unfold partsV
    rw [hD, hA, hB, hI]
  have q13 : (x.op == 13) = false := by simp [h13]
  clear hD hA hB hI h13
  unfold insV
  go_enter Tryz.func142, Tryz.ntmps142
  have HX : Hid (Blk (w.alloc (.cells (insC x a c) 45)) w.heap.size 45 (insC x a c)) := Blk.new w _ _
  have HW : Hid (Below w.heap.size w (w.alloc (.cells (insC x a c) 45))) := (Below.refl _ w).alloc (Nat.le_refl _) _
  go_wp2_with fail
  refine (partsOf_any x.op _).mono ?_
  rintro e w1 ⟨rfl, hb⟩
  rw [HV.out]
  have HX1 : Hid (Blk w1 w.heap.size 45 (insC x a c)) := HX.out.below hb HX.out.lt
  have HW1 : Hid (Below w.heap.size w w1) := HW.out.trans (hb.mono HW.out.size)
  clear hb HX HW HV
  have HP2 : Hid (Blk (w1.alloc (.cells #[.bool true, .bool false, .bool false, .bool true] 217)) w1.heap.size 217 #[.bool true, .bool false, .bool false, .bool true]) := Blk.new w1 _ _
  have HX2 : Hid (Blk (w1.alloc (.cells #[.bool true, .bool false, .bool false, .bool true] 217)) w.heap.size 45 (insC x a c)) := HX1.out.alloc _
  have HW2 : Hid (Below w.heap.size w (w1.alloc (.cells #[.bool true, .bool false, .bool false, .bool true] 217))) := HW1.out.alloc (by have := HW1.out.size; omega) _
  obtain ⟨c0, c1, c2, c3, c4, c5, c6, c7⟩ := box8 HX2.out
  go_wp2_with fail
  clear c0 c1 c2 c3 c4 c5 c6 c7 HX1 HW1
  generalize (w1.alloc (.cells #[.bool true, .bool false, .bool false, .bool true] 217)) = w2 at *
  generalize w1.heap.size = q at *
  refine (fits_any true x.dst _).mono ?_
  rintro e w3 ⟨rfl, hb⟩
  have HX3 : Hid (Blk w3 w.heap.size 45 (insC x a c)) := HX2.out.below hb HX2.out.lt
  have HP3 : Hid (Blk w3 q 217 _) := HP2.out.below hb HP2.out.lt
  have HW3 : Hid (Below w.heap.size w w3) := HW2.out.trans (hb.mono HW2.out.size)
  clear hb HX2 HW2 HP2
  cases hf : fitsB true x.dst
  · rw [hf] at HE
    go_wp2
    go_ret
    exact ⟨by rw [HE.out]; rfl, HW3.out⟩
  rw [hf] at HE
  clear hf
  obtain ⟨c0, c1, c2, c3, c4, c5, c6, c7⟩ := box8 HX3.out
  obtain ⟨d0, d1, d2, d3⟩ := box4 HP3.out
  go_wp2_with fail
  clear c0 c1 c2 c3 c4 c5 c6 c7 d0 d1 d2 d3
  refine (fits_any false x.a _).mono ?_
  rintro e w4 ⟨rfl, hb⟩
  have HX4 : Hid (Blk w4 w.heap.size 45 (insC x a c)) := HX3.out.below hb HX3.out.lt
  have HP4 : Hid (Blk w4 q 217 _) := HP3.out.below hb HP3.out.lt
  have HW4 : Hid (Below w.heap.size w w4) := HW3.out.trans (hb.mono HW3.out.size)
  clear hb HX3 HW3 HP3
  cases hf : fitsB false x.a
  · rw [hf] at HE
    go_wp2
    go_ret
    exact ⟨by rw [HE.out]; rfl, HW4.out⟩
  rw [hf] at HE
  clear hf
  obtain ⟨c0, c1, c2, c3, c4, c5, c6, c7⟩ := box8 HX4.out
  obtain ⟨d0, d1, d2, d3⟩ := box4 HP4.out
  go_wp2_with fail
  clear c0 c1 c2 c3 c4 c5 c6 c7 d0 d1 d2 d3
  refine (fits_any false x.b _).mono ?_
  rintro e w5 ⟨rfl, hb⟩
  have HX5 : Hid (Blk w5 w.heap.size 45 (insC x a c)) := HX4.out.below hb HX4.out.lt
  have HP5 : Hid (Blk w5 q 217 _) := HP4.out.below hb HP4.out.lt
  have HW5 : Hid (Below w.heap.size w w5) := HW4.out.trans (hb.mono HW4.out.size)
  clear hb HX4 HW4 HP4
  cases hf : fitsB false x.b
  · rw [hf] at HE
    go_wp2
    go_ret
    exact ⟨by rw [HE.out]; rfl, HW5.out⟩
  rw [hf] at HE
  clear hf
  obtain ⟨c0, c1, c2, c3, c4, c5, c6, c7⟩ := box8 HX5.out
  obtain ⟨d0, d1, d2, d3⟩ := box4 HP5.out
  go_wp2_with fail
  refine (isImm_any x.imm _).mono ?_
  rintro e w6 ⟨rfl, rfl⟩
  cases hi : (immB x.imm && true || x.imm == 0)
  case false =>
    rw [hi] at HE
    cases hm : immB x.imm
    · rw [hm] at hi
      have h0 : (x.imm == 0) = false := by simpa using hi
      go_wp2
      go_ret
      exact ⟨by rw [HE.out]; rfl, HW5.out⟩
    · rw [hm] at hi
      cases hi
  rw [hi] at HE
  have HI := Lib.hid hi
  clear hi
  cases h5 : x.callee == 0
  case false =>
    rw [h5] at HE
    cases hm : immB x.imm
    · have h0 : (x.imm == 0) = true := by have := HI.out; rw [hm] at this; simpa using this
      go_wp2
      go_ret
      exact ⟨by rw [HE.out]; rfl, HW5.out⟩
    · skip
      go_wp2
      go_ret
      exact ⟨by rw [HE.out]; rfl, HW5.out⟩
  rw [h5] at HE
  cases h6 : x.args.isEmpty
  case false =>
    rw [h6] at HE
    have h6' : ((x.args.length : Int) == 0) = false := by
      have : ¬ x.args = [] := by simpa using h6
      have := List.length_pos_iff.2 this
      simp; omega
    cases hm : immB x.imm
    · have h0 : (x.imm == 0) = true := by have := HI.out; rw [hm] at this; simpa using this
      go_wp2
      go_ret
      exact ⟨by rw [HE.out]; rfl, HW5.out⟩
    · skip
      go_wp2
      go_ret
      exact ⟨by rw [HE.out]; rfl, HW5.out⟩
  rw [h6] at HE
  have h6' : ((x.args.length : Int) == 0) = true := by
    have : x.args = [] := by simpa using h6
    simp [this]
  cases hm : immB x.imm
  · have h0 : (x.imm == 0) = true := by have := HI.out; rw [hm] at this; simpa using this
    go_wp2
    go_ret
    exact ⟨by rw [HE.out]; rfl, HW5.out⟩
  · skip
    go_wp2
    go_ret
    exact ⟨by rw [HE.out]; rfl, HW5.out⟩
set_option maxHeartbeats 4000000 in
set_option maxRecDepth 100000 in
theorem isIns_arith (x : Ii) (a : Option Addr) (c : Nat) (w : World) (h13 : ¬ x.op = 13) (hD : opD x.op = true) (hA : opA x.op = true) (hB : opB x.op = true) (hI : opI x.op = false) :
    Calls Tryz.prog 142 #[insV x a c] w fun e w' => e = .returned (.bool (isInsB x)) ∧ Below w.heap.size w w' := by
  have HE := Lib.hid (isOp_kind _ _ _ _ x (by rw [hD, hA, hB, hI]; rfl) hD hA hB hI h13)
  have HV : Hid (partsV x.op = .agg #[.bool true, .bool true, .bool true, .bool false]) := by
    show _ = _
    unfold partsV
    rw [hD, hA, hB, hI]
  have q13 : (x.op == 13) = false := by simp [h13]
  clear hD hA hB hI h13
  unfold insV
  go_enter Tryz.func142, Tryz.ntmps142
  have HX : Hid (Blk (w.alloc (.cells (insC x a c) 45)) w.heap.size 45 (insC x a c)) := Blk.new w _ _
  have HW : Hid (Below w.heap.size w (w.alloc (.cells (insC x a c) 45))) := (Below.refl _ w).alloc (Nat.le_refl _) _
  go_wp2_with fail
  refine (partsOf_any x.op _).mono ?_
  rintro e w1 ⟨rfl, hb⟩
  rw [HV.out]
  have HX1 : Hid (Blk w1 w.heap.size 45 (insC x a c)) := HX.out.below hb HX.out.lt
  have HW1 : Hid (Below w.heap.size w w1) := HW.out.trans (hb.mono HW.out.size)
  clear hb HX HW HV
  have HP2 : Hid (Blk (w1.alloc (.cells #[.bool true, .bool true, .bool true, .bool false] 217)) w1.heap.size 217 #[.bool true, .bool true, .bool true, .bool false]) := Blk.new w1 _ _
  have HX2 : Hid (Blk (w1.alloc (.cells #[.bool true, .bool true, .bool true, .bool false] 217)) w.heap.size 45 (insC x a c)) := HX1.out.alloc _
  have HW2 : Hid (Below w.heap.size w (w1.alloc (.cells #[.bool true, .bool true, .bool true, .bool false] 217))) := HW1.out.alloc (by have := HW1.out.size; omega) _
  obtain ⟨c0, c1, c2, c3, c4, c5, c6, c7⟩ := box8 HX2.out
  go_wp2_with fail
  clear c0 c1 c2 c3 c4 c5 c6 c7 HX1 HW1
  generalize (w1.alloc (.cells #[.bool true, .bool true, .bool true, .bool false] 217)) = w2 at *
  generalize w1.heap.size = q at *
  refine (fits_any true x.dst _).mono ?_
  rintro e w3 ⟨rfl, hb⟩
  have HX3 : Hid (Blk w3 w.heap.size 45 (insC x a c)) := HX2.out.below hb HX2.out.lt
  have HP3 : Hid (Blk w3 q 217 _) := HP2.out.below hb HP2.out.lt
  have HW3 : Hid (Below w.heap.size w w3) := HW2.out.trans (hb.mono HW2.out.size)
  clear hb HX2 HW2 HP2
  cases hf : fitsB true x.dst
  · rw [hf] at HE
    go_wp2
    go_ret
    exact ⟨by rw [HE.out]; rfl, HW3.out⟩
  rw [hf] at HE
  clear hf
  obtain ⟨c0, c1, c2, c3, c4, c5, c6, c7⟩ := box8 HX3.out
  obtain ⟨d0, d1, d2, d3⟩ := box4 HP3.out
  go_wp2_with fail
  clear c0 c1 c2 c3 c4 c5 c6 c7 d0 d1 d2 d3
  refine (fits_any true x.a _).mono ?_
  rintro e w4 ⟨rfl, hb⟩
  have HX4 : Hid (Blk w4 w.heap.size 45 (insC x a c)) := HX3.out.below hb HX3.out.lt
  have HP4 : Hid (Blk w4 q 217 _) := HP3.out.below hb HP3.out.lt
  have HW4 : Hid (Below w.heap.size w w4) := HW3.out.trans (hb.mono HW3.out.size)
  clear hb HX3 HW3 HP3
  cases hf : fitsB true x.a
  · rw [hf] at HE
    go_wp2
    go_ret
    exact ⟨by rw [HE.out]; rfl, HW4.out⟩
  rw [hf] at HE
  clear hf
  obtain ⟨c0, c1, c2, c3, c4, c5, c6, c7⟩ := box8 HX4.out
  obtain ⟨d0, d1, d2, d3⟩ := box4 HP4.out
  go_wp2_with fail
  clear c0 c1 c2 c3 c4 c5 c6 c7 d0 d1 d2 d3
  refine (fits_any true x.b _).mono ?_
  rintro e w5 ⟨rfl, hb⟩
  have HX5 : Hid (Blk w5 w.heap.size 45 (insC x a c)) := HX4.out.below hb HX4.out.lt
  have HP5 : Hid (Blk w5 q 217 _) := HP4.out.below hb HP4.out.lt
  have HW5 : Hid (Below w.heap.size w w5) := HW4.out.trans (hb.mono HW4.out.size)
  clear hb HX4 HW4 HP4
  cases hf : fitsB true x.b
  · rw [hf] at HE
    go_wp2
    go_ret
    exact ⟨by rw [HE.out]; rfl, HW5.out⟩
  rw [hf] at HE
  clear hf
  obtain ⟨c0, c1, c2, c3, c4, c5, c6, c7⟩ := box8 HX5.out
  obtain ⟨d0, d1, d2, d3⟩ := box4 HP5.out
  go_wp2_with fail
  refine (isImm_any x.imm _).mono ?_
  rintro e w6 ⟨rfl, rfl⟩
  cases hi : (immB x.imm && false || x.imm == 0)
  case false =>
    rw [hi] at HE
    cases hm : immB x.imm
    · rw [hm] at hi
      have h0 : (x.imm == 0) = false := by simpa using hi
      go_wp2
      go_ret
      exact ⟨by rw [HE.out]; rfl, HW5.out⟩
    · rw [hm] at hi
      have h0 : (x.imm == 0) = false := by simpa using hi
      go_wp2
      go_ret
      exact ⟨by rw [HE.out]; rfl, HW5.out⟩
  rw [hi] at HE
  have HI := Lib.hid hi
  clear hi
  cases h5 : x.callee == 0
  case false =>
    rw [h5] at HE
    have h0 : (x.imm == 0) = true := by have := HI.out; cases hm : immB x.imm <;> rw [hm] at this <;> simpa using this
    cases hm : immB x.imm
    · skip
      go_wp2
      go_ret
      exact ⟨by rw [HE.out]; rfl, HW5.out⟩
    · skip
      go_wp2
      go_ret
      exact ⟨by rw [HE.out]; rfl, HW5.out⟩
  rw [h5] at HE
  cases h6 : x.args.isEmpty
  case false =>
    rw [h6] at HE
    have h6' : ((x.args.length : Int) == 0) = false := by
      have : ¬ x.args = [] := by simpa using h6
      have := List.length_pos_iff.2 this
      simp; omega
    have h0 : (x.imm == 0) = true := by have := HI.out; cases hm : immB x.imm <;> rw [hm] at this <;> simpa using this
    cases hm : immB x.imm
    · skip
      go_wp2
      go_ret
      exact ⟨by rw [HE.out]; rfl, HW5.out⟩
    · skip
      go_wp2
      go_ret
      exact ⟨by rw [HE.out]; rfl, HW5.out⟩
  rw [h6] at HE
  have h6' : ((x.args.length : Int) == 0) = true := by
    have : x.args = [] := by simpa using h6
    simp [this]
  have h0 : (x.imm == 0) = true := by have := HI.out; cases hm : immB x.imm <;> rw [hm] at this <;> simpa using this
  cases hm : immB x.imm
  · skip
    go_wp2
    go_ret
    exact ⟨by rw [HE.out]; rfl, HW5.out⟩
  · skip
    go_wp2
    go_ret
    exact ⟨by rw [HE.out]; rfl, HW5.out⟩
set_option maxHeartbeats 4000000 in
set_option maxRecDepth 100000 in
theorem isIns_load (x : Ii) (a : Option Addr) (c : Nat) (w : World) (h13 : ¬ x.op = 13) (hD : opD x.op = true) (hA : opA x.op = true) (hB : opB x.op = false) (hI : opI x.op = true) :
    Calls Tryz.prog 142 #[insV x a c] w fun e w' => e = .returned (.bool (isInsB x)) ∧ Below w.heap.size w w' := by
  have HE := Lib.hid (isOp_kind _ _ _ _ x (by rw [hD, hA, hB, hI]; rfl) hD hA hB hI h13)
  have HV : Hid (partsV x.op = .agg #[.bool true, .bool true, .bool false, .bool true]) := by
    show _ = _
    unfold partsV
    rw [hD, hA, hB, hI]
  have q13 : (x.op == 13) = false := by simp [h13]
  clear hD hA hB hI h13
  unfold insV
  go_enter Tryz.func142, Tryz.ntmps142
  have HX : Hid (Blk (w.alloc (.cells (insC x a c) 45)) w.heap.size 45 (insC x a c)) := Blk.new w _ _
  have HW : Hid (Below w.heap.size w (w.alloc (.cells (insC x a c) 45))) := (Below.refl _ w).alloc (Nat.le_refl _) _
  go_wp2_with fail
  refine (partsOf_any x.op _).mono ?_
  rintro e w1 ⟨rfl, hb⟩
  rw [HV.out]
  have HX1 : Hid (Blk w1 w.heap.size 45 (insC x a c)) := HX.out.below hb HX.out.lt
  have HW1 : Hid (Below w.heap.size w w1) := HW.out.trans (hb.mono HW.out.size)
  clear hb HX HW HV
  have HP2 : Hid (Blk (w1.alloc (.cells #[.bool true, .bool true, .bool false, .bool true] 217)) w1.heap.size 217 #[.bool true, .bool true, .bool false, .bool true]) := Blk.new w1 _ _
  have HX2 : Hid (Blk (w1.alloc (.cells #[.bool true, .bool true, .bool false, .bool true] 217)) w.heap.size 45 (insC x a c)) := HX1.out.alloc _
  have HW2 : Hid (Below w.heap.size w (w1.alloc (.cells #[.bool true, .bool true, .bool false, .bool true] 217))) := HW1.out.alloc (by have := HW1.out.size; omega) _
  obtain ⟨c0, c1, c2, c3, c4, c5, c6, c7⟩ := box8 HX2.out
  go_wp2_with fail
  clear c0 c1 c2 c3 c4 c5 c6 c7 HX1 HW1
  generalize (w1.alloc (.cells #[.bool true, .bool true, .bool false, .bool true] 217)) = w2 at *
  generalize w1.heap.size = q at *
  refine (fits_any true x.dst _).mono ?_
  rintro e w3 ⟨rfl, hb⟩
  have HX3 : Hid (Blk w3 w.heap.size 45 (insC x a c)) := HX2.out.below hb HX2.out.lt
  have HP3 : Hid (Blk w3 q 217 _) := HP2.out.below hb HP2.out.lt
  have HW3 : Hid (Below w.heap.size w w3) := HW2.out.trans (hb.mono HW2.out.size)
  clear hb HX2 HW2 HP2
  cases hf : fitsB true x.dst
  · rw [hf] at HE
    go_wp2
    go_ret
    exact ⟨by rw [HE.out]; rfl, HW3.out⟩
  rw [hf] at HE
  clear hf
  obtain ⟨c0, c1, c2, c3, c4, c5, c6, c7⟩ := box8 HX3.out
  obtain ⟨d0, d1, d2, d3⟩ := box4 HP3.out
  go_wp2_with fail
  clear c0 c1 c2 c3 c4 c5 c6 c7 d0 d1 d2 d3
  refine (fits_any true x.a _).mono ?_
  rintro e w4 ⟨rfl, hb⟩
  have HX4 : Hid (Blk w4 w.heap.size 45 (insC x a c)) := HX3.out.below hb HX3.out.lt
  have HP4 : Hid (Blk w4 q 217 _) := HP3.out.below hb HP3.out.lt
  have HW4 : Hid (Below w.heap.size w w4) := HW3.out.trans (hb.mono HW3.out.size)
  clear hb HX3 HW3 HP3
  cases hf : fitsB true x.a
  · rw [hf] at HE
    go_wp2
    go_ret
    exact ⟨by rw [HE.out]; rfl, HW4.out⟩
  rw [hf] at HE
  clear hf
  obtain ⟨c0, c1, c2, c3, c4, c5, c6, c7⟩ := box8 HX4.out
  obtain ⟨d0, d1, d2, d3⟩ := box4 HP4.out
  go_wp2_with fail
  clear c0 c1 c2 c3 c4 c5 c6 c7 d0 d1 d2 d3
  refine (fits_any false x.b _).mono ?_
  rintro e w5 ⟨rfl, hb⟩
  have HX5 : Hid (Blk w5 w.heap.size 45 (insC x a c)) := HX4.out.below hb HX4.out.lt
  have HP5 : Hid (Blk w5 q 217 _) := HP4.out.below hb HP4.out.lt
  have HW5 : Hid (Below w.heap.size w w5) := HW4.out.trans (hb.mono HW4.out.size)
  clear hb HX4 HW4 HP4
  cases hf : fitsB false x.b
  · rw [hf] at HE
    go_wp2
    go_ret
    exact ⟨by rw [HE.out]; rfl, HW5.out⟩
  rw [hf] at HE
  clear hf
  obtain ⟨c0, c1, c2, c3, c4, c5, c6, c7⟩ := box8 HX5.out
  obtain ⟨d0, d1, d2, d3⟩ := box4 HP5.out
  go_wp2_with fail
  refine (isImm_any x.imm _).mono ?_
  rintro e w6 ⟨rfl, rfl⟩
  cases hi : (immB x.imm && true || x.imm == 0)
  case false =>
    rw [hi] at HE
    cases hm : immB x.imm
    · rw [hm] at hi
      have h0 : (x.imm == 0) = false := by simpa using hi
      go_wp2
      go_ret
      exact ⟨by rw [HE.out]; rfl, HW5.out⟩
    · rw [hm] at hi
      cases hi
  rw [hi] at HE
  have HI := Lib.hid hi
  clear hi
  cases h5 : x.callee == 0
  case false =>
    rw [h5] at HE
    cases hm : immB x.imm
    · have h0 : (x.imm == 0) = true := by have := HI.out; rw [hm] at this; simpa using this
      go_wp2
      go_ret
      exact ⟨by rw [HE.out]; rfl, HW5.out⟩
    · skip
      go_wp2
      go_ret
      exact ⟨by rw [HE.out]; rfl, HW5.out⟩
  rw [h5] at HE
  cases h6 : x.args.isEmpty
  case false =>
    rw [h6] at HE
    have h6' : ((x.args.length : Int) == 0) = false := by
      have : ¬ x.args = [] := by simpa using h6
      have := List.length_pos_iff.2 this
      simp; omega
    cases hm : immB x.imm
    · have h0 : (x.imm == 0) = true := by have := HI.out; rw [hm] at this; simpa using this
      go_wp2
      go_ret
      exact ⟨by rw [HE.out]; rfl, HW5.out⟩
    · skip
      go_wp2
      go_ret
      exact ⟨by rw [HE.out]; rfl, HW5.out⟩
  rw [h6] at HE
  have h6' : ((x.args.length : Int) == 0) = true := by
    have : x.args = [] := by simpa using h6
    simp [this]
  cases hm : immB x.imm
  · have h0 : (x.imm == 0) = true := by have := HI.out; rw [hm] at this; simpa using this
    go_wp2
    go_ret
    exact ⟨by rw [HE.out]; rfl, HW5.out⟩
  · skip
    go_wp2
    go_ret
    exact ⟨by rw [HE.out]; rfl, HW5.out⟩
set_option maxHeartbeats 4000000 in
set_option maxRecDepth 100000 in
theorem isIns_store (x : Ii) (a : Option Addr) (c : Nat) (w : World) (h13 : ¬ x.op = 13) (hD : opD x.op = false) (hA : opA x.op = true) (hB : opB x.op = true) (hI : opI x.op = true) :
    Calls Tryz.prog 142 #[insV x a c] w fun e w' => e = .returned (.bool (isInsB x)) ∧ Below w.heap.size w w' := by
  have HE := Lib.hid (isOp_kind _ _ _ _ x (by rw [hD, hA, hB, hI]; rfl) hD hA hB hI h13)
  have HV : Hid (partsV x.op = .agg #[.bool false, .bool true, .bool true, .bool true]) := by
    show _ = _
    unfold partsV
    rw [hD, hA, hB, hI]
  have q13 : (x.op == 13) = false := by simp [h13]
  clear hD hA hB hI h13
  unfold insV
  go_enter Tryz.func142, Tryz.ntmps142
  have HX : Hid (Blk (w.alloc (.cells (insC x a c) 45)) w.heap.size 45 (insC x a c)) := Blk.new w _ _
  have HW : Hid (Below w.heap.size w (w.alloc (.cells (insC x a c) 45))) := (Below.refl _ w).alloc (Nat.le_refl _) _
  go_wp2_with fail
  refine (partsOf_any x.op _).mono ?_
  rintro e w1 ⟨rfl, hb⟩
  rw [HV.out]
  have HX1 : Hid (Blk w1 w.heap.size 45 (insC x a c)) := HX.out.below hb HX.out.lt
  have HW1 : Hid (Below w.heap.size w w1) := HW.out.trans (hb.mono HW.out.size)
  clear hb HX HW HV
  have HP2 : Hid (Blk (w1.alloc (.cells #[.bool false, .bool true, .bool true, .bool true] 217)) w1.heap.size 217 #[.bool false, .bool true, .bool true, .bool true]) := Blk.new w1 _ _
  have HX2 : Hid (Blk (w1.alloc (.cells #[.bool false, .bool true, .bool true, .bool true] 217)) w.heap.size 45 (insC x a c)) := HX1.out.alloc _
  have HW2 : Hid (Below w.heap.size w (w1.alloc (.cells #[.bool false, .bool true, .bool true, .bool true] 217))) := HW1.out.alloc (by have := HW1.out.size; omega) _
  obtain ⟨c0, c1, c2, c3, c4, c5, c6, c7⟩ := box8 HX2.out
  go_wp2_with fail
  clear c0 c1 c2 c3 c4 c5 c6 c7 HX1 HW1
  generalize (w1.alloc (.cells #[.bool false, .bool true, .bool true, .bool true] 217)) = w2 at *
  generalize w1.heap.size = q at *
  refine (fits_any false x.dst _).mono ?_
  rintro e w3 ⟨rfl, hb⟩
  have HX3 : Hid (Blk w3 w.heap.size 45 (insC x a c)) := HX2.out.below hb HX2.out.lt
  have HP3 : Hid (Blk w3 q 217 _) := HP2.out.below hb HP2.out.lt
  have HW3 : Hid (Below w.heap.size w w3) := HW2.out.trans (hb.mono HW2.out.size)
  clear hb HX2 HW2 HP2
  cases hf : fitsB false x.dst
  · rw [hf] at HE
    go_wp2
    go_ret
    exact ⟨by rw [HE.out]; rfl, HW3.out⟩
  rw [hf] at HE
  clear hf
  obtain ⟨c0, c1, c2, c3, c4, c5, c6, c7⟩ := box8 HX3.out
  obtain ⟨d0, d1, d2, d3⟩ := box4 HP3.out
  go_wp2_with fail
  clear c0 c1 c2 c3 c4 c5 c6 c7 d0 d1 d2 d3
  refine (fits_any true x.a _).mono ?_
  rintro e w4 ⟨rfl, hb⟩
  have HX4 : Hid (Blk w4 w.heap.size 45 (insC x a c)) := HX3.out.below hb HX3.out.lt
  have HP4 : Hid (Blk w4 q 217 _) := HP3.out.below hb HP3.out.lt
  have HW4 : Hid (Below w.heap.size w w4) := HW3.out.trans (hb.mono HW3.out.size)
  clear hb HX3 HW3 HP3
  cases hf : fitsB true x.a
  · rw [hf] at HE
    go_wp2
    go_ret
    exact ⟨by rw [HE.out]; rfl, HW4.out⟩
  rw [hf] at HE
  clear hf
  obtain ⟨c0, c1, c2, c3, c4, c5, c6, c7⟩ := box8 HX4.out
  obtain ⟨d0, d1, d2, d3⟩ := box4 HP4.out
  go_wp2_with fail
  clear c0 c1 c2 c3 c4 c5 c6 c7 d0 d1 d2 d3
  refine (fits_any true x.b _).mono ?_
  rintro e w5 ⟨rfl, hb⟩
  have HX5 : Hid (Blk w5 w.heap.size 45 (insC x a c)) := HX4.out.below hb HX4.out.lt
  have HP5 : Hid (Blk w5 q 217 _) := HP4.out.below hb HP4.out.lt
  have HW5 : Hid (Below w.heap.size w w5) := HW4.out.trans (hb.mono HW4.out.size)
  clear hb HX4 HW4 HP4
  cases hf : fitsB true x.b
  · rw [hf] at HE
    go_wp2
    go_ret
    exact ⟨by rw [HE.out]; rfl, HW5.out⟩
  rw [hf] at HE
  clear hf
  obtain ⟨c0, c1, c2, c3, c4, c5, c6, c7⟩ := box8 HX5.out
  obtain ⟨d0, d1, d2, d3⟩ := box4 HP5.out
  go_wp2_with fail
  refine (isImm_any x.imm _).mono ?_
  rintro e w6 ⟨rfl, rfl⟩
  cases hi : (immB x.imm && true || x.imm == 0)
  case false =>
    rw [hi] at HE
    cases hm : immB x.imm
    · rw [hm] at hi
      have h0 : (x.imm == 0) = false := by simpa using hi
      go_wp2
      go_ret
      exact ⟨by rw [HE.out]; rfl, HW5.out⟩
    · rw [hm] at hi
      cases hi
  rw [hi] at HE
  have HI := Lib.hid hi
  clear hi
  cases h5 : x.callee == 0
  case false =>
    rw [h5] at HE
    cases hm : immB x.imm
    · have h0 : (x.imm == 0) = true := by have := HI.out; rw [hm] at this; simpa using this
      go_wp2
      go_ret
      exact ⟨by rw [HE.out]; rfl, HW5.out⟩
    · skip
      go_wp2
      go_ret
      exact ⟨by rw [HE.out]; rfl, HW5.out⟩
  rw [h5] at HE
  cases h6 : x.args.isEmpty
  case false =>
    rw [h6] at HE
    have h6' : ((x.args.length : Int) == 0) = false := by
      have : ¬ x.args = [] := by simpa using h6
      have := List.length_pos_iff.2 this
      simp; omega
    cases hm : immB x.imm
    · have h0 : (x.imm == 0) = true := by have := HI.out; rw [hm] at this; simpa using this
      go_wp2
      go_ret
      exact ⟨by rw [HE.out]; rfl, HW5.out⟩
    · skip
      go_wp2
      go_ret
      exact ⟨by rw [HE.out]; rfl, HW5.out⟩
  rw [h6] at HE
  have h6' : ((x.args.length : Int) == 0) = true := by
    have : x.args = [] := by simpa using h6
    simp [this]
  cases hm : immB x.imm
  · have h0 : (x.imm == 0) = true := by have := HI.out; rw [hm] at this; simpa using this
    go_wp2
    go_ret
    exact ⟨by rw [HE.out]; rfl, HW5.out⟩
  · skip
    go_wp2
    go_ret
    exact ⟨by rw [HE.out]; rfl, HW5.out⟩
set_option maxHeartbeats 4000000 in
set_option maxRecDepth 100000 in
theorem isIns_copy (x : Ii) (a : Option Addr) (c : Nat) (w : World) (h13 : ¬ x.op = 13) (hD : opD x.op = true) (hA : opA x.op = true) (hB : opB x.op = false) (hI : opI x.op = false) :
    Calls Tryz.prog 142 #[insV x a c] w fun e w' => e = .returned (.bool (isInsB x)) ∧ Below w.heap.size w w' := by
  have HE := Lib.hid (isOp_kind _ _ _ _ x (by rw [hD, hA, hB, hI]; rfl) hD hA hB hI h13)
  have HV : Hid (partsV x.op = .agg #[.bool true, .bool true, .bool false, .bool false]) := by
    show _ = _
    unfold partsV
    rw [hD, hA, hB, hI]
  have q13 : (x.op == 13) = false := by simp [h13]
  clear hD hA hB hI h13
  unfold insV
  go_enter Tryz.func142, Tryz.ntmps142
  have HX : Hid (Blk (w.alloc (.cells (insC x a c) 45)) w.heap.size 45 (insC x a c)) := Blk.new w _ _
  have HW : Hid (Below w.heap.size w (w.alloc (.cells (insC x a c) 45))) := (Below.refl _ w).alloc (Nat.le_refl _) _
  go_wp2_with fail
  refine (partsOf_any x.op _).mono ?_
  rintro e w1 ⟨rfl, hb⟩
  rw [HV.out]
  have HX1 : Hid (Blk w1 w.heap.size 45 (insC x a c)) := HX.out.below hb HX.out.lt
  have HW1 : Hid (Below w.heap.size w w1) := HW.out.trans (hb.mono HW.out.size)
  clear hb HX HW HV
  have HP2 : Hid (Blk (w1.alloc (.cells #[.bool true, .bool true, .bool false, .bool false] 217)) w1.heap.size 217 #[.bool true, .bool true, .bool false, .bool false]) := Blk.new w1 _ _
  have HX2 : Hid (Blk (w1.alloc (.cells #[.bool true, .bool true, .bool false, .bool false] 217)) w.heap.size 45 (insC x a c)) := HX1.out.alloc _
  have HW2 : Hid (Below w.heap.size w (w1.alloc (.cells #[.bool true, .bool true, .bool false, .bool false] 217))) := HW1.out.alloc (by have := HW1.out.size; omega) _
  obtain ⟨c0, c1, c2, c3, c4, c5, c6, c7⟩ := box8 HX2.out
  go_wp2_with fail
  clear c0 c1 c2 c3 c4 c5 c6 c7 HX1 HW1
  generalize (w1.alloc (.cells #[.bool true, .bool true, .bool false, .bool false] 217)) = w2 at *
  generalize w1.heap.size = q at *
  refine (fits_any true x.dst _).mono ?_
  rintro e w3 ⟨rfl, hb⟩
  have HX3 : Hid (Blk w3 w.heap.size 45 (insC x a c)) := HX2.out.below hb HX2.out.lt
  have HP3 : Hid (Blk w3 q 217 _) := HP2.out.below hb HP2.out.lt
  have HW3 : Hid (Below w.heap.size w w3) := HW2.out.trans (hb.mono HW2.out.size)
  clear hb HX2 HW2 HP2
  cases hf : fitsB true x.dst
  · rw [hf] at HE
    go_wp2
    go_ret
    exact ⟨by rw [HE.out]; rfl, HW3.out⟩
  rw [hf] at HE
  clear hf
  obtain ⟨c0, c1, c2, c3, c4, c5, c6, c7⟩ := box8 HX3.out
  obtain ⟨d0, d1, d2, d3⟩ := box4 HP3.out
  go_wp2_with fail
  clear c0 c1 c2 c3 c4 c5 c6 c7 d0 d1 d2 d3
  refine (fits_any true x.a _).mono ?_
  rintro e w4 ⟨rfl, hb⟩
  have HX4 : Hid (Blk w4 w.heap.size 45 (insC x a c)) := HX3.out.below hb HX3.out.lt
  have HP4 : Hid (Blk w4 q 217 _) := HP3.out.below hb HP3.out.lt
  have HW4 : Hid (Below w.heap.size w w4) := HW3.out.trans (hb.mono HW3.out.size)
  clear hb HX3 HW3 HP3
  cases hf : fitsB true x.a
  · rw [hf] at HE
    go_wp2
    go_ret
    exact ⟨by rw [HE.out]; rfl, HW4.out⟩
  rw [hf] at HE
  clear hf
  obtain ⟨c0, c1, c2, c3, c4, c5, c6, c7⟩ := box8 HX4.out
  obtain ⟨d0, d1, d2, d3⟩ := box4 HP4.out
  go_wp2_with fail
  clear c0 c1 c2 c3 c4 c5 c6 c7 d0 d1 d2 d3
  refine (fits_any false x.b _).mono ?_
  rintro e w5 ⟨rfl, hb⟩
  have HX5 : Hid (Blk w5 w.heap.size 45 (insC x a c)) := HX4.out.below hb HX4.out.lt
  have HP5 : Hid (Blk w5 q 217 _) := HP4.out.below hb HP4.out.lt
  have HW5 : Hid (Below w.heap.size w w5) := HW4.out.trans (hb.mono HW4.out.size)
  clear hb HX4 HW4 HP4
  cases hf : fitsB false x.b
  · rw [hf] at HE
    go_wp2
    go_ret
    exact ⟨by rw [HE.out]; rfl, HW5.out⟩
  rw [hf] at HE
  clear hf
  obtain ⟨c0, c1, c2, c3, c4, c5, c6, c7⟩ := box8 HX5.out
  obtain ⟨d0, d1, d2, d3⟩ := box4 HP5.out
  go_wp2_with fail
  refine (isImm_any x.imm _).mono ?_
  rintro e w6 ⟨rfl, rfl⟩
  cases hi : (immB x.imm && false || x.imm == 0)
  case false =>
    rw [hi] at HE
    cases hm : immB x.imm
    · rw [hm] at hi
      have h0 : (x.imm == 0) = false := by simpa using hi
      go_wp2
      go_ret
      exact ⟨by rw [HE.out]; rfl, HW5.out⟩
    · rw [hm] at hi
      have h0 : (x.imm == 0) = false := by simpa using hi
      go_wp2
      go_ret
      exact ⟨by rw [HE.out]; rfl, HW5.out⟩
  rw [hi] at HE
  have HI := Lib.hid hi
  clear hi
  cases h5 : x.callee == 0
  case false =>
    rw [h5] at HE
    have h0 : (x.imm == 0) = true := by have := HI.out; cases hm : immB x.imm <;> rw [hm] at this <;> simpa using this
    cases hm : immB x.imm
    · skip
      go_wp2
      go_ret
      exact ⟨by rw [HE.out]; rfl, HW5.out⟩
    · skip
      go_wp2
      go_ret
      exact ⟨by rw [HE.out]; rfl, HW5.out⟩
  rw [h5] at HE
  cases h6 : x.args.isEmpty
  case false =>
    rw [h6] at HE
    have h6' : ((x.args.length : Int) == 0) = false := by
      have : ¬ x.args = [] := by simpa using h6
      have := List.length_pos_iff.2 this
      simp; omega
    have h0 : (x.imm == 0) = true := by have := HI.out; cases hm : immB x.imm <;> rw [hm] at this <;> simpa using this
    cases hm : immB x.imm
    · skip
      go_wp2
      go_ret
      exact ⟨by rw [HE.out]; rfl, HW5.out⟩
    · skip
      go_wp2
      go_ret
      exact ⟨by rw [HE.out]; rfl, HW5.out⟩
  rw [h6] at HE
  have h6' : ((x.args.length : Int) == 0) = true := by
    have : x.args = [] := by simpa using h6
    simp [this]
  have h0 : (x.imm == 0) = true := by have := HI.out; cases hm : immB x.imm <;> rw [hm] at this <;> simpa using this
  cases hm : immB x.imm
  · skip
    go_wp2
    go_ret
    exact ⟨by rw [HE.out]; rfl, HW5.out⟩
  · skip
    go_wp2
    go_ret
    exact ⟨by rw [HE.out]; rfl, HW5.out⟩
set_option maxHeartbeats 4000000 in
set_option maxRecDepth 100000 in
theorem isIns_none (x : Ii) (a : Option Addr) (c : Nat) (w : World) (h13 : ¬ x.op = 13) (hD : opD x.op = false) (hA : opA x.op = false) (hB : opB x.op = false) (hI : opI x.op = false) :
    Calls Tryz.prog 142 #[insV x a c] w fun e w' => e = .returned (.bool (isInsB x)) ∧ Below w.heap.size w w' := by
  have HE : Hid (isInsB x = false) := by
    show _ = _
    unfold isInsB isOpB
    rw [if_neg h13, hD, hA, hB, hI]
    rfl
  have HV : Hid (partsV x.op = .agg #[.bool false, .bool false, .bool false, .bool false]) := by
    show _ = _
    unfold partsV
    rw [hD, hA, hB, hI]
  have q13 : (x.op == 13) = false := by simp [h13]
  clear hD hA hB hI h13
  unfold insV
  go_enter Tryz.func142, Tryz.ntmps142
  have HX : Hid (Blk (w.alloc (.cells (insC x a c) 45)) w.heap.size 45 (insC x a c)) := Blk.new w _ _
  have HW : Hid (Below w.heap.size w (w.alloc (.cells (insC x a c) 45))) := (Below.refl _ w).alloc (Nat.le_refl _) _
  go_wp2_with fail
  refine (partsOf_any x.op _).mono ?_
  rintro e w1 ⟨rfl, hb⟩
  rw [HV.out]
  have HW1 : Hid (Below w.heap.size w w1) := HW.out.trans (hb.mono HW.out.size)
  clear hb HX HW HV
  have HW2 : Hid (Below w.heap.size w (w1.alloc (.cells #[.bool false, .bool false, .bool false, .bool false] 217))) := HW1.out.alloc (by have := HW1.out.size; omega) _
  go_wp2
  go_ret
  exact ⟨by rw [HE.out]; rfl, HW2.out⟩
set_option maxHeartbeats 1000000 in
set_option maxRecDepth 100000 in
theorem isIns_call (x : Ii) (a : Option Addr) (c : Nat) (w : World) (hl : x.args.length ≤ 140737488355328) (hI : IntsW w a x.args) (h13 : x.op = 13) :
    Calls Tryz.prog 142 #[insV x a c] w fun e w' => e = .returned (.bool (isInsB x)) ∧ Below w.heap.size w w' := by
  have HE : Hid (isInsB x = isCallB x) := by
    show _ = _
    unfold isInsB
    rw [if_pos h13]
  have q13 : (x.op == 13) = true := by simp [h13]
  clear h13
  have HW : Hid (Below w.heap.size w (w.alloc (.cells (insC x a c) 45))) := (Below.refl _ w).alloc (Nat.le_refl _) _
  have HI : Hid (IntsW (w.alloc (.cells (insC x a c) 45)) a x.args) := hI.below HW.out
  clear hI
  have HC := Lib.hid (isCall_any x a c _ hl HI.out)
  unfold insV at HC ⊢
  go_enter Tryz.func142, Tryz.ntmps142
  go_wp2_with fail
  refine HC.out.mono ?_
  rintro e w1 ⟨rfl, hb⟩
  go_wp2
  go_ret
  exact ⟨by rw [HE.out]; rfl, HW.out.trans (hb.mono HW.out.size)⟩
theorem isIns_any (x : Ii) (a : Option Addr) (c : Nat) (w : World) (hl : x.args.length ≤ 140737488355328) (hI : IntsW w a x.args) :
    Calls Tryz.prog 142 #[insV x a c] w fun e w' => e = .returned (.bool (isInsB x)) ∧ Below w.heap.size w w' := by
  by_cases h13 : x.op = 13
  · exact isIns_call x a c w hl hI h13
  · rcases op_class x.op with ⟨h1, h2, h3, h4⟩ | ⟨h1, h2, h3, h4⟩ | ⟨h1, h2, h3, h4⟩ | ⟨h1, h2, h3, h4⟩ | ⟨h1, h2, h3, h4⟩ | ⟨h1, h2, h3, h4⟩
    · exact isIns_const x a c w h13 h1 h2 h3 h4
    · exact isIns_arith x a c w h13 h1 h2 h3 h4
    · exact isIns_load x a c w h13 h1 h2 h3 h4
    · exact isIns_store x a c w h13 h1 h2 h3 h4
    · exact isIns_copy x a c w h13 h1 h2 h3 h4
    · exact isIns_none x a c w h13 h1 h2 h3 h4
end Go.Proofs.YthiipgahbmoiiaaGreatDoor
