/-
  What can be written has parts that can be told; package mread's Print. Conditions: the library's tables, the Ops' names and parts hold what the text lays.
-/
import Derived.Test.YtjmdgbgjleeloaaGreatDoorQk4
namespace Go.Proofs.YtjmdgbgjleeloaaGreatDoor
open Go.RowKit

theorem ins_range {x : Ii} (h : ofInsN wideM 400 x = 0) : (1 ≤ x.op ∧ x.op ≤ 17 ∧ x.op ≠ 14) ∧ (0 ≤ x.dst ∧ x.dst < 64) ∧ (0 ≤ x.a ∧ x.a < 64) ∧ (0 ≤ x.b ∧ x.b < 64) ∧ (-1099511627776 ≤ x.imm ∧ x.imm ≤ 1099511627776) ∧ (0 ≤ x.callee ∧ x.callee < 100) ∧ (0 ≤ x.many ∧ x.many < 9) ∧ x.args = [] := by
  obtain ⟨h1, h2, h3⟩ := ins_right h
  have h4 := below_iff.1 h2
  have r1 := h4 x.dst (by simp)
  have r2 := h4 x.a (by simp)
  have r3 := h4 x.b (by simp)
  have h5 := h1
  unfold isInsT at h5
  simp only [Bool.and_eq_true, bne_iff_ne] at h5
  obtain ⟨⟨⟨⟨⟨⟨p1, _⟩, _⟩, _⟩, p5⟩, p6⟩, p7⟩ := h5
  refine ⟨?_, r1, r2, r3, ?_, ?_, ?_, by simpa using p7⟩
  · rcases op_cases x.op with ⟨h0, _⟩ | h | h | h | h | h | h | h | h | h | h | h | h | h | h | h | h
    · exact absurd h0 p1
    all_goals omega
  · simp only [Bool.or_eq_true, Bool.and_eq_true, beq_iff_eq] at p5
    rcases p5 with (h6 | ⟨_, h6⟩) | h6
    · have := below_iff.1 (h3 h6) x.imm (by simp)
      omega
    · unfold immT at h6
      simp only [Bool.and_eq_true, decide_eq_true_eq] at h6
      exact h6
    · omega
  · simp only [Bool.or_eq_true, Bool.and_eq_true, beq_iff_eq] at p6
    rcases p6 with ⟨_, h6⟩ | ⟨h6, _⟩
    · unfold isCallT at h6
      simp only [Bool.and_eq_true] at h6
      exact below_iff.1 h6.1 x.callee (by simp)
    · omega
  · simp only [Bool.or_eq_true, Bool.and_eq_true, beq_iff_eq] at p6
    rcases p6 with ⟨_, h6⟩ | ⟨_, h6⟩
    · unfold isCallT at h6
      simp only [Bool.and_eq_true] at h6
      have := below_iff.1 h6.2 x.many (by simp)
      have e : (wideM.args.length : Int) = 8 := rfl
      omega
    · omega
theorem ins_range' {x : Ii} (h : ofInsN wideM 400 x = 0) : (1 ≤ x.op ∧ x.op ≤ 17 ∧ x.op ≠ 14) ∧ InsR x := by
  obtain ⟨h1, h2, h3, h4, h5, h6, h7, _⟩ := ins_range h
  refine ⟨h1, ?_, ?_, ?_, ?_, ?_, ?_⟩ <;> unfold R64 <;> omega
/-- What a target that can be written has. -/
structure CanB (b : Bb) : Prop where
  ins : ∀ x ∈ b.ins, ofInsN wideM 400 x = 0
  tm : ofEndN wideM 200 (wideB b).tm = 0
  few : b.ins.length ≤ 4000
theorem can_parts {t : Gg} (h : canG t = true) : (0 ≤ t.frame ∧ t.frame ≤ 400) ∧ (0 < t.blocks.length ∧ t.blocks.length ≤ 200) ∧ ∀ b ∈ t.blocks, CanB b := by
  unfold canG at h
  simp only [Bool.and_eq_true, decide_eq_true_eq, beq_iff_eq] at h
  obtain ⟨⟨⟨⟨h1, h2⟩, h3⟩, h4⟩, h5⟩ := h
  obtain ⟨_, g2, g3⟩ := right_parts0 h5
  have hlen : (wideG t).blocks.length = 200 := by unfold wideG; simp; omega
  rw [hlen] at g3
  refine ⟨⟨h1, h2⟩, ⟨h3, h4⟩, fun b hb => ?_⟩
  have hm : wideB b ∈ (wideG t).blocks := by
    unfold wideG
    simp only [List.mem_append, List.mem_map]
    exact .inl ⟨b, hb, rfl⟩
  obtain ⟨q1, q2⟩ := blErr_all g3 (wideB b) hm
  have hi : (wideB b).ins = b.ins := by unfold wideB; split <;> rfl
  refine ⟨fun x hx => insErr_all q1 x (by rw [hi]; exact hx), q2, ?_⟩
  unfold smallT at g2
  simp only [Bool.and_eq_true, List.all_eq_true, Bool.not_eq_true', decide_eq_false_iff_not] at g2
  have := g2.2 (wideB b) hm
  rw [hi] at this
  omega
theorem can_end {b : Bb} (h : CanB b) : (b.tm.kind = 1 ∨ b.tm.kind = 2 ∨ b.tm.kind = 3 ∨ b.tm.kind = 4) ∧ (-1 ≤ b.tm.a ∧ b.tm.a < 64) ∧ (0 ≤ b.tm.t0 ∧ b.tm.t0 < 200) ∧ (0 ≤ b.tm.t1 ∧ b.tm.t1 < 200) := by
  obtain ⟨h1, h2, h3⟩ := end_right h.tm
  have h4 := below_iff.1 h3
  have t0 := h4 (wideB b).tm.t0 (by simp)
  have t1 := h4 (wideB b).tm.t1 (by simp)
  have hk : (wideB b).tm.kind = b.tm.kind ∧ (wideB b).tm.t0 = b.tm.t0 ∧ (wideB b).tm.t1 = b.tm.t1 := by unfold wideB; split <;> exact ⟨rfl, rfl, rfl⟩
  rw [hk.2.1] at t0
  rw [hk.2.2] at t1
  have hkind : b.tm.kind = 1 ∨ b.tm.kind = 2 ∨ b.tm.kind = 3 ∨ b.tm.kind = 4 := by
    unfold isEndT at h1
    rw [hk.1] at h1
    repeat' split at h1
    all_goals first | omega | (exact absurd h1 (by decide))
  refine ⟨hkind, ?_, t0, t1⟩
  by_cases h5 : b.tm.kind = 3 ∧ isRegT b.tm.a = true
  · have := h5.2
    unfold isRegT at this
    simp only [Bool.and_eq_true, decide_eq_true_eq] at this
    omega
  · have hw : wideB b = b := by unfold wideB; rw [if_neg h5]
    rw [hw] at h2
    unfold readsWellT at h2
    split at h2
    · simp only [Bool.or_eq_true, beq_iff_eq] at h2
      have e : wideM.ret = 0 := rfl
      omega
    · have := below_iff.1 h2 b.tm.a (by simp)
      have e : wideM.regs = 64 := rfl
      omega
theorem can_okB {b : Bb} (h : CanB b) : OkB b := by
  obtain ⟨_, h1, h2, h3⟩ := can_end h
  refine ⟨fun x hx => ins_range' (h.ins x hx), ⟨?_, ?_, ?_⟩, by have := h.few; omega⟩ <;> unfold R64 <;> omega
/-- What Print tells. -/
def printS (t : Gg) : ByteArray := if canG t = true ∧ (gtxL t).length ≤ 262144 then ⟨(gtxL t).toArray⟩ else ⟨#[]⟩
def printE (t : Gg) : Int := if canG t = true then (if (gtxL t).length ≤ 262144 then 0 else 3) else 2
set_option maxRecDepth 100000 in
set_option maxHeartbeats 4000000 in
theorem print_any (t : Gg) (ba : Option Addr) (bc : Nat) (w : World) (hB : BlsW w ba t.blocks) (hS : SmallG t) (hT : TabW w) (hP : PowW w) (hN : NamesW w) :
    Calls Tryz.prog 11 #[tgV t ba bc] w fun e w' => e = .returned (.tuple #[.string (printS t), .int .i64 (printE t)]) ∧ Below w.heap.size w w' := by
  have hb0 : Below w.heap.size w (w.alloc (.cells (tgC t ba bc) 24)) := (Below.refl _ w).alloc (Nat.le_refl _) _
  have C := Lib.hid (can_any t ba bc _ (hB.below hb0) hS (hT.below hb0))
  have HB0 := Lib.hid hb0
  have HX0 : Hid (Blk (w.alloc (.cells (tgC t ba bc) 24)) w.heap.size 24 (tgC t ba bc)) := Blk.new w _ _
  have T : Hid (canG t = true → ∀ W, Below w.heap.size w W → Calls Tryz.prog 23 #[tgV t ba bc] W fun e w' => ∃ s, (e = .returned (.string s) ∧ TextIs t s) ∧ Below W.heap.size W w') := fun hc W hb => by
    obtain ⟨h1, h2, h3⟩ := can_parts hc
    exact textOf_any t ba bc W (hB.below hb) (fun b hb => can_okB (h3 b hb)) (by omega) (by unfold R64; omega) (hP.below hb) (hN.below hb)
  have ES : Hid (printS t = if canG t = true ∧ (gtxL t).length ≤ 262144 then ⟨(gtxL t).toArray⟩ else ⟨#[]⟩) := rfl
  have EE : Hid (printE t = if canG t = true then (if (gtxL t).length ≤ 262144 then 0 else 3) else 2) := rfl
  have ST := Lib.hid (tgC.eq_1 t ba bc)
  unfold tgV at C T ⊢
  rw [ST.out] at C HB0 HX0 T ⊢
  clear hb0 hB hS hT hP hN
  cases hc : canG t
  · have hs : printS t = ⟨#[]⟩ := by rw [ES.out, hc]; simp
    have he : printE t = 2 := by rw [EE.out, hc]; simp
    rw [hs, he]
    rw [hc] at C
    clear hs he hc T
    go_enter Tryz.func11, Tryz.ntmps11
    go_wp2_with fail
    refine C.out.mono ?_
    rintro e w1 ⟨rfl, hb1⟩
    have HB1 := Lib.hid (HB0.out.trans (hb1.mono HB0.out.size))
    clear hb1 C
    go_wp2
    go_ret2
    exact ⟨rfl, HB1.out⟩
  · rw [hc] at C
    have T1 := Lib.hid (T.out hc)
    have hs : printS t = if (gtxL t).length ≤ 262144 then ⟨(gtxL t).toArray⟩ else ⟨#[]⟩ := by rw [ES.out, hc]; simp
    have he : printE t = if (gtxL t).length ≤ 262144 then 0 else 3 := by rw [EE.out, hc]; simp
    have HS := Lib.hid hs
    have HE := Lib.hid he
    clear hs he hc T ES EE
    generalize printS t = ps at *
    generalize printE t = pe at *
    go_enter Tryz.func11, Tryz.ntmps11
    go_wp2_with fail
    refine C.out.mono ?_
    rintro e w1 ⟨rfl, hb1⟩
    have HB1 := Lib.hid (HB0.out.trans (hb1.mono HB0.out.size))
    have hx1 := HX0.out.below hb1 HX0.out.lt
    have x0 : w1.cell? ⟨w.heap.size, 0, none⟩ = some (.int .i64 t.frame) := hx1.cell 0
    have x1 : w1.cell? ⟨w.heap.size, 1, none⟩ = some (.slice ba t.blocks.length bc) := hx1.cell 1
    have T2 := Lib.hid (T1.out w1 HB1.out)
    clear hb1 C hx1 HX0 HB0 T1
    go_wp2_with fail
    refine T2.out.mono ?_
    rintro e w2 ⟨s, ⟨rfl, hti⟩, hb2⟩
    have HB2 : Hid (Below w.heap.size w w2) := HB1.out.trans (hb2.mono HB1.out.size)
    have HTI := Lib.hid hti
    clear hb2 T2 x0 x1 HB1 hti
    rcases HTI.out with ⟨h1, h2⟩ | ⟨h1, h2⟩
    · have hsz : s.size = (gtxL t).length := by rw [← h1, Array.length_toList]; rfl
      have hle : ¬ (262144 : Int) < s.size := by omega
      have HPS : Hid (ps = s) := by
        show ps = s
        rw [HS.out, if_pos h2, ← h1]
      have HPE : Hid (pe = 0) := by
        show pe = 0
        rw [HE.out, if_pos h2]
      clear HTI h1 h2 hsz
      go_wp2
      go_ret2
      exact ⟨by rw [HPS.out, HPE.out]; rfl, HB2.out⟩
    · have hgt : (262144 : Int) < s.size := by omega
      have HPS : Hid (ps = ⟨#[]⟩) := by
        show ps = _
        rw [HS.out, if_neg (by omega)]
      have HPE : Hid (pe = 3) := by
        show pe = 3
        rw [HE.out, if_neg (by omega)]
      clear HTI h1 h2
      go_wp2
      go_ret2
      exact ⟨by rw [HPS.out, HPE.out]; rfl, HB2.out⟩
end Go.Proofs.YtjmdgbgjleeloaaGreatDoor
