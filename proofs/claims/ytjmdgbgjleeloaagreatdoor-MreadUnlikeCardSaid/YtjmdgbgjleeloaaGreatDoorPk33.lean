/-
  Package mread's canBeWritten and Print. Conditions: the library's tables, the Ops' names and parts hold what the text lays.
  What a target without an error has, plainly. No condition beyond those that each theorem states.
  What can be written has parts that can be told; package mread's Print. Conditions: the library's tables, the Ops' names and parts hold what the text lays.
  The words of a target's text (plainly): they are read again. No condition beyond those that each theorem states.
-/
import Derived.Test.YtjmdgbgjleeloaaGreatDoorPk32
import Derived.Test.YtjmdgbgjleeloaaGreatDoorPk26
import Derived.Deep.RegionHeld3
import Derived.Test.YtjmdgbgjleeloaaGreatDoorPk3
import Derived.Test.YtjmdgbgjleeloaaGreatDoorPk31
import Derived.Test.YtjmdgbgjleeloaaGreatDoorPk27
namespace Go.Proofs.YtjmdgbgjleeloaaGreatDoor
open Go.RowKit

def canG (t : Gg) : Bool := decide (0 ≤ t.frame) && decide (t.frame ≤ 400) && decide (0 < t.blocks.length) && decide (t.blocks.length ≤ 200) && (rightT wideM (wideG t) == 0)
theorem wide_small {t : Gg} (h : SmallG t) (h2 : t.blocks.length ≤ 200) : SmallG (wideG t) := by
  refine ⟨by unfold wideG; simp; omega, fun x hx => ?_⟩
  unfold wideG at hx
  simp only [List.mem_append, List.mem_map, List.mem_replicate] at hx
  rcases hx with ⟨b, hb, rfl⟩ | ⟨_, rfl⟩
  · have := h.i b hb
    unfold wideB
    split
    · exact this
    · exact this
  · exact ⟨by simp [trapB], fun i hi => by simp [trapB] at hi⟩
theorem belP_alloc {A w : World} {o : Obj} (h : Below A.heap.size A w) : Below A.heap.size A (w.alloc o) := h.alloc h.size o
theorem belP_drew {A w : World} (h : Below A.heap.size A w) : Below A.heap.size A w.drew := h.drew
set_option maxRecDepth 100000 in
set_option maxHeartbeats 8000000 in
theorem can_any (t : Gg) (ba : Option Addr) (bc : Nat) (w : World) (hB : BlsW w ba t.blocks) (hS : SmallG t) (hT : TabW w) :
    Calls Tryz.prog 22 #[tgV t ba bc] w fun e w' => e = .returned (.bool (canG t)) ∧ Below w.heap.size w w' := by
  have HBL := Lib.hid hB
  have HSM := Lib.hid hS
  have HTW := Lib.hid hT
  have hlen := hS.b
  have hb0 : Below w.heap.size w (w.alloc (.cells (tgC t ba bc) 24)) := (Below.refl _ w).alloc (Nat.le_refl _) _
  have HB0 := Lib.hid hb0
  have HX0 : Hid (Blk (w.alloc (.cells (tgC t ba bc) 24)) w.heap.size 24 (tgC t ba bc)) := Blk.new w _ _
  have HQ : Hid (canG t = (decide (0 ≤ t.frame) && decide (t.frame ≤ 400) && decide (0 < t.blocks.length) && decide (t.blocks.length ≤ 200) && (rightT wideM (wideG t) == 0))) := rfl
  have ST := Lib.hid (tgC.eq_1 t ba bc)
  rw [ST.out] at HB0 HX0
  unfold tgV
  rw [ST.out]
  clear hB hS hT hb0
  by_cases h1 : t.frame < 0
  · have hq : canG t = false := by rw [HQ.out, decide_eq_false (by omega)]; rfl
    rw [hq]
    clear hq
    go_enter Tryz.func22, Tryz.ntmps22
    go_wp2
    go_ret
    exact ⟨rfl, HB0.out⟩
  by_cases h2 : 400 < t.frame
  · have hq : canG t = false := by rw [HQ.out, decide_eq_false (p := t.frame ≤ 400) (by omega)]; simp
    rw [hq]
    clear hq
    go_enter Tryz.func22, Tryz.ntmps22
    go_wp2
    go_ret
    exact ⟨rfl, HB0.out⟩
  by_cases h3 : t.blocks.length = 0
  · have hq : canG t = false := by rw [HQ.out, decide_eq_false (p := 0 < t.blocks.length) (by omega)]; simp
    rw [hq]
    clear hq
    generalize hn : t.blocks.length = n at *
    subst h3
    go_enter Tryz.func22, Tryz.ntmps22
    go_wp2
    go_ret
    exact ⟨rfl, HB0.out⟩
  have h30 : ((t.blocks.length : Int) == 0) = false := beq_eq_false_iff_ne.2 (by omega)
  by_cases h4 : 200 < t.blocks.length
  · have hq : canG t = false := by rw [HQ.out, decide_eq_false (p := t.blocks.length ≤ 200) (by omega)]; simp
    rw [hq]
    clear hq
    have h4' : (200 : Int) < t.blocks.length := by omega
    go_enter Tryz.func22, Tryz.ntmps22
    go_wp2
    go_ret
    exact ⟨rfl, HB0.out⟩
  have h4' : ¬ (200 : Int) < t.blocks.length := by omega
  have hq : canG t = (rightT wideM (wideG t) == 0) := by rw [HQ.out, decide_eq_true (p := 0 ≤ t.frame) (by omega), decide_eq_true (p := t.frame ≤ 400) (by omega), decide_eq_true (p := 0 < t.blocks.length) (by omega), decide_eq_true (p := t.blocks.length ≤ 200) (by omega)]; simp
  rw [hq]
  clear hq HQ
  obtain ⟨A, hA⟩ : ∃ A, A = w.alloc (.cells #[.int .i64 t.frame, .slice ba t.blocks.length bc] 24) := ⟨_, rfl⟩
  have WI : Hid (∀ W, Below A.heap.size A W → Calls Tryz.prog 50 #[] W fun e w' => ∃ a c, e = .returned (machV wideM a c none 0) ∧ Hid (MaW w' wideM a none) ∧ Below A.heap.size A w' ∧ Hid (Below W.heap.size W w')) := fun W h => (widest_any W).mono fun e w' ⟨⟨a, c, g1, g2⟩, g3⟩ => ⟨a, c, g1, g2, h.trans (g3.mono h.size), g3⟩
  have WN : Hid (∀ W, Below A.heap.size A W → Calls Tryz.prog 51 #[.agg #[.int .i64 t.frame, .slice ba t.blocks.length bc]] W fun e w' => ∃ a c, e = .returned (tgV (wideG t) a c) ∧ Hid (BlsW w' a (wideG t).blocks) ∧ Below A.heap.size A w' ∧ Hid (Below W.heap.size W w')) := fun W h => by
    have hw : Below w.heap.size w W := (hA ▸ HB0.out).trans (h.mono (by rw [hA]; exact HB0.out.size))
    have h5 := widened_any t ba bc W (HBL.out.below hw) (by omega) (fun b hb => (HSM.out.i b hb).1)
    unfold tgV at h5
    rw [ST.out] at h5
    exact h5.mono fun e w' ⟨⟨a, c, g1, g2⟩, g3⟩ => ⟨a, c, g1, g2, h.trans (g3.mono h.size), g3⟩
  have RG : Hid (∀ (W : World) (a : Option Addr) (c : Nat) (b : Option Addr) (d : Nat), Below A.heap.size A W → MaW W wideM a none → BlsW W b (wideG t).blocks → Calls Tryz.prog 19 #[machV wideM a c none 0, tgV (wideG t) b d] W fun e w' => e = .returned (.int .i64 (rightT wideM (wideG t))) ∧ Below A.heap.size A w') := fun W a c b d h g1 g2 => by
    have hw : Below w.heap.size w W := (hA ▸ HB0.out).trans (h.mono (by rw [hA]; exact HB0.out.size))
    exact (right_any wideM a none c 0 (wideG t) b d W (by decide) (by decide) g1 g2 (wide_small HSM.out (by omega)) (HTW.out.below hw)).mono fun e w' ⟨g3, g4⟩ => ⟨g3, h.trans (g4.mono h.size)⟩
  have HZ : Hid (∀ W, Below A.heap.size A W → Below A.heap.size A W ∧ W.cell? ⟨w.heap.size, 0, none⟩ = some (.int .i64 t.frame) ∧ W.cell? ⟨w.heap.size, 1, none⟩ = some (.slice ba t.blocks.length bc)) := fun W h => by
    have hx := (hA ▸ HX0.out : Blk A w.heap.size 24 #[.int .i64 t.frame, .slice ba t.blocks.length bc])
    exact ⟨h, (hx.below h hx.lt).cell 0, (hx.below h hx.lt).cell 1⟩
  have HBA : Hid (Below w.heap.size w A) := hA ▸ HB0.out
  unfold machV at WI RG
  rw [show maxC wideM = fun a c b d => #[.int .i64 64, .slice a 8 c, .int .i64 0, .slice b 0 d] from rfl] at WI RG
  obtain ⟨G, hG⟩ : ∃ G, G = wideG t := ⟨_, rfl⟩
  unfold tgV tgC at WN RG
  rw [← hG] at WN RG ⊢
  generalize rightT wideM G = q at *
  clear hG ST HX0
  go_enter Tryz.func22, Tryz.ntmps22
  go_upto_region 3 with fail
  rw [← hA]
  clear hA HB0
  have hbd : Below A.heap.size A A.drew := (Below.refl _ _).drew
  go_region_held3 (fun W => Below A.heap.size A W ∧ W.cell? ⟨w.heap.size, 0, none⟩ = some (.int .i64 t.frame) ∧ W.cell? ⟨w.heap.size, 1, none⟩ = some (.slice ba t.blocks.length bc))
    (first | (refine HZ.out _ ?_; (repeat (first | with_reducible apply belP_alloc | with_reducible apply belP_drew)); (first | exact Below.refl _ _ | assumption)))
    (first
      | (go_at_call 50; refine (WI.out _ (by go_split_ands; assumption)).mono ?_; rintro e w21 ⟨va, vc, rfl, hM21, hb21, hW21⟩)
      | (go_at_call 51; refine (WN.out _ (by go_split_ands; assumption)).mono ?_; rintro e w22 ⟨vb, vd, rfl, hG22, hb22, hW22⟩)
      | (go_at_call 19; (first | refine (RG.out _ _ _ _ _ hb22 (hM21.out.below hW22.out) hG22.out).mono ?_ | refine (RG.out _ _ _ _ _ hb21 hM21.out (hG22.out.below hW21.out)).mono ?_); rintro e w23 ⟨rfl, hb23⟩))
  all_goals (
    go_wp2
    go_ret
    exact ⟨rfl, HBA.out.trans (hb23.mono HBA.out.size)⟩)
end Go.Proofs.YtjmdgbgjleeloaaGreatDoor
namespace Go.Proofs.YtjmdgbgjleeloaaGreatDoor

theorem ins_right {m : Mm} {fr : Int} {x : Ii} (h : ofInsN m fr x = 0) : isInsT m x = true ∧ belowB m.regs [x.dst, x.a, x.b] = true ∧ (hasB x.op 48 = true → belowB fr [x.imm] = true) := by
  unfold ofInsN at h
  by_cases h1 : isInsT m x = true
  · rw [if_pos h1] at h
    by_cases h2 : belowB m.regs [x.dst, x.a, x.b] = true
    · rw [if_pos h2] at h
      refine ⟨h1, h2, fun h3 => ?_⟩
      cases h4 : belowB fr [x.imm]
      · rw [h3, h4] at h
        exact absurd h (by decide)
      · rfl
    · rw [if_neg h2] at h
      exact absurd h (by decide)
  · rw [if_neg h1] at h
    exact absurd h (by decide)
theorem end_right {m : Mm} {nb : Int} {t : Tt} (h : ofEndN m nb t = 0) : isEndT t = true ∧ readsWellT m t = true ∧ belowB nb [t.t0, t.t1] = true := by
  unfold ofEndN at h
  by_cases h1 : isEndT t = true
  · rw [if_pos h1] at h
    by_cases h2 : readsWellT m t = true
    · rw [if_pos h2] at h
      by_cases h3 : belowB nb [t.t0, t.t1] = true
      · exact ⟨h1, h2, h3⟩
      · rw [if_neg h3] at h; exact absurd h (by decide)
    · rw [if_neg h2] at h; exact absurd h (by decide)
  · rw [if_neg h1] at h; exact absurd h (by decide)
theorem insErr_all {m : Mm} {fr : Int} : ∀ {l : List Ii}, insErr m fr l = 0 → ∀ x ∈ l, ofInsN m fr x = 0
  | [], _, x, hx => by simp at hx
  | y :: l, h, x, hx => by
    unfold insErr at h
    by_cases h1 : ofInsN m fr y = 0
    · rw [if_pos h1] at h
      rcases List.mem_cons.1 hx with rfl | hx
      · exact h1
      · exact insErr_all h x hx
    · rw [if_neg h1] at h; exact absurd h h1
theorem blErr_all {m : Mm} {fr nb : Int} : ∀ {l : List Bb}, blErr m fr nb l = 0 → ∀ b ∈ l, insErr m fr b.ins = 0 ∧ ofEndN m nb b.tm = 0
  | [], _, x, hx => by simp at hx
  | y :: l, h, x, hx => by
    unfold blErr at h
    by_cases h1 : insErr m fr y.ins = 0
    · rw [if_pos h1] at h
      by_cases h2 : ofEndN m nb y.tm = 0
      · rw [if_pos h2] at h
        rcases List.mem_cons.1 hx with rfl | hx
        · exact ⟨h1, h2⟩
        · exact blErr_all h x hx
      · rw [if_neg h2] at h; exact absurd h h2
    · rw [if_neg h1] at h; exact absurd h h1
theorem right_parts0 {m : Mm} {t : Gg} (h : rightT m t = 0) : m.rightB = true ∧ smallT t = true ∧ blErr m t.frame t.blocks.length t.blocks = 0 := by
  unfold rightT at h
  by_cases h1 : m.rightB = true
  · rw [if_pos h1] at h
    by_cases h2 : smallT t = true
    · rw [if_pos h2] at h
      exact ⟨h1, h2, h⟩
    · rw [if_neg h2] at h; exact absurd h (by decide)
  · rw [if_neg h1] at h; exact absurd h (by decide)
end Go.Proofs.YtjmdgbgjleeloaaGreatDoor
namespace Go.Proofs.YtjmdgbgjleeloaaGreatDoor
open Go.RowKit

theorem ins_range {x : Ii} (h : ofInsN wideM 400 x = 0) : (1 ≤ x.op ∧ x.op ≤ 17 ∧ x.op ≠ 14) ∧ (0 ≤ x.dst ∧ x.dst < 64) ∧ (0 ≤ x.a ∧ x.a < 64) ∧ (0 ≤ x.b ∧ x.b < 64) ∧ (-1099511627776 ≤ x.imm ∧ x.imm ≤ 1099511627776) ∧ (0 ≤ x.callee ∧ x.callee < 100) ∧ (0 ≤ x.many ∧ x.many < 9) ∧ x.args = [] := by
  obtain ⟨h1, h2, h3⟩ := ins_right h
  have h4 := below_iff.1 h2
  have r1 := h4 x.dst (by simp)
  have r2 := h4 x.a (by simp)
  have r3 := h4 x.b (by simp)
  have h5 := h1
  unfold isInsT at h5
  simp only [Bool.and_eq_true, bne_iff_ne] at h5
  obtain ⟨⟨⟨⟨⟨⟨p1, _⟩, _⟩, _⟩, p5⟩, p6⟩, p7⟩ := h5
  refine ⟨?_, r1, r2, r3, ?_, ?_, ?_, by simpa using p7⟩
  · rcases op_cases x.op with ⟨h0, _⟩ | h | h | h | h | h | h | h | h | h | h | h | h | h | h | h | h
    · exact absurd h0 p1
    all_goals omega
  · simp only [Bool.or_eq_true, Bool.and_eq_true, beq_iff_eq] at p5
    rcases p5 with (h6 | ⟨_, h6⟩) | h6
    · have := below_iff.1 (h3 h6) x.imm (by simp)
      omega
    · unfold immT at h6
      simp only [Bool.and_eq_true, decide_eq_true_eq] at h6
      exact h6
    · omega
  · simp only [Bool.or_eq_true, Bool.and_eq_true, beq_iff_eq] at p6
    rcases p6 with ⟨_, h6⟩ | ⟨h6, _⟩
    · unfold isCallT at h6
      simp only [Bool.and_eq_true] at h6
      exact below_iff.1 h6.1 x.callee (by simp)
    · omega
  · simp only [Bool.or_eq_true, Bool.and_eq_true, beq_iff_eq] at p6
    rcases p6 with ⟨_, h6⟩ | ⟨_, h6⟩
    · unfold isCallT at h6
      simp only [Bool.and_eq_true] at h6
      have := below_iff.1 h6.2 x.many (by simp)
      have e : (wideM.args.length : Int) = 8 := rfl
      omega
    · omega
theorem ins_range' {x : Ii} (h : ofInsN wideM 400 x = 0) : (1 ≤ x.op ∧ x.op ≤ 17 ∧ x.op ≠ 14) ∧ InsR x := by
  obtain ⟨h1, h2, h3, h4, h5, h6, h7, _⟩ := ins_range h
  refine ⟨h1, ?_, ?_, ?_, ?_, ?_, ?_⟩ <;> unfold R64 <;> omega
/-- What a target that can be written has. -/
structure CanB (b : Bb) : Prop where
  ins : ∀ x ∈ b.ins, ofInsN wideM 400 x = 0
  tm : ofEndN wideM 200 (wideB b).tm = 0
  few : b.ins.length ≤ 4000
theorem can_parts {t : Gg} (h : canG t = true) : (0 ≤ t.frame ∧ t.frame ≤ 400) ∧ (0 < t.blocks.length ∧ t.blocks.length ≤ 200) ∧ ∀ b ∈ t.blocks, CanB b := by
  unfold canG at h
  simp only [Bool.and_eq_true, decide_eq_true_eq, beq_iff_eq] at h
  obtain ⟨⟨⟨⟨h1, h2⟩, h3⟩, h4⟩, h5⟩ := h
  obtain ⟨_, g2, g3⟩ := right_parts0 h5
  have hlen : (wideG t).blocks.length = 200 := by unfold wideG; simp; omega
  rw [hlen] at g3
  refine ⟨⟨h1, h2⟩, ⟨h3, h4⟩, fun b hb => ?_⟩
  have hm : wideB b ∈ (wideG t).blocks := by
    unfold wideG
    simp only [List.mem_append, List.mem_map]
    exact .inl ⟨b, hb, rfl⟩
  obtain ⟨q1, q2⟩ := blErr_all g3 (wideB b) hm
  have hi : (wideB b).ins = b.ins := by unfold wideB; split <;> rfl
  refine ⟨fun x hx => insErr_all q1 x (by rw [hi]; exact hx), q2, ?_⟩
  unfold smallT at g2
  simp only [Bool.and_eq_true, List.all_eq_true, Bool.not_eq_true', decide_eq_false_iff_not] at g2
  have := g2.2 (wideB b) hm
  rw [hi] at this
  omega
theorem can_end {b : Bb} (h : CanB b) : (b.tm.kind = 1 ∨ b.tm.kind = 2 ∨ b.tm.kind = 3 ∨ b.tm.kind = 4) ∧ (-1 ≤ b.tm.a ∧ b.tm.a < 64) ∧ (0 ≤ b.tm.t0 ∧ b.tm.t0 < 200) ∧ (0 ≤ b.tm.t1 ∧ b.tm.t1 < 200) := by
  obtain ⟨h1, h2, h3⟩ := end_right h.tm
  have h4 := below_iff.1 h3
  have t0 := h4 (wideB b).tm.t0 (by simp)
  have t1 := h4 (wideB b).tm.t1 (by simp)
  have hk : (wideB b).tm.kind = b.tm.kind ∧ (wideB b).tm.t0 = b.tm.t0 ∧ (wideB b).tm.t1 = b.tm.t1 := by unfold wideB; split <;> exact ⟨rfl, rfl, rfl⟩
  rw [hk.2.1] at t0
  rw [hk.2.2] at t1
  have hkind : b.tm.kind = 1 ∨ b.tm.kind = 2 ∨ b.tm.kind = 3 ∨ b.tm.kind = 4 := by
    unfold isEndT at h1
    rw [hk.1] at h1
    repeat' split at h1
    all_goals first | omega | (exact absurd h1 (by decide))
  refine ⟨hkind, ?_, t0, t1⟩
  by_cases h5 : b.tm.kind = 3 ∧ isRegT b.tm.a = true
  · have := h5.2
    unfold isRegT at this
    simp only [Bool.and_eq_true, decide_eq_true_eq] at this
    omega
  · have hw : wideB b = b := by unfold wideB; rw [if_neg h5]
    rw [hw] at h2
    unfold readsWellT at h2
    split at h2
    · simp only [Bool.or_eq_true, beq_iff_eq] at h2
      have e : wideM.ret = 0 := rfl
      omega
    · have := below_iff.1 h2 b.tm.a (by simp)
      have e : wideM.regs = 64 := rfl
      omega
theorem can_okB {b : Bb} (h : CanB b) : OkB b := by
  obtain ⟨_, h1, h2, h3⟩ := can_end h
  refine ⟨fun x hx => ins_range' (h.ins x hx), ⟨?_, ?_, ?_⟩, by have := h.few; omega⟩ <;> unfold R64 <;> omega
/-- What Print tells. -/
def printS (t : Gg) : ByteArray := if canG t = true ∧ (gtxL t).length ≤ 262144 then ⟨(gtxL t).toArray⟩ else ⟨#[]⟩
def printE (t : Gg) : Int := if canG t = true then (if (gtxL t).length ≤ 262144 then 0 else 3) else 2
set_option maxRecDepth 100000 in
set_option maxHeartbeats 4000000 in
theorem print_any (t : Gg) (ba : Option Addr) (bc : Nat) (w : World) (hB : BlsW w ba t.blocks) (hS : SmallG t) (hT : TabW w) (hP : PowW w) (hN : NamesW w) :
    Calls Tryz.prog 11 #[tgV t ba bc] w fun e w' => e = .returned (.tuple #[.string (printS t), .int .i64 (printE t)]) ∧ Below w.heap.size w w' := by
  have hb0 : Below w.heap.size w (w.alloc (.cells (tgC t ba bc) 24)) := (Below.refl _ w).alloc (Nat.le_refl _) _
  have C := Lib.hid (can_any t ba bc _ (hB.below hb0) hS (hT.below hb0))
  have HB0 := Lib.hid hb0
  have HX0 : Hid (Blk (w.alloc (.cells (tgC t ba bc) 24)) w.heap.size 24 (tgC t ba bc)) := Blk.new w _ _
  have T : Hid (canG t = true → ∀ W, Below w.heap.size w W → Calls Tryz.prog 23 #[tgV t ba bc] W fun e w' => ∃ s, (e = .returned (.string s) ∧ TextIs t s) ∧ Below W.heap.size W w') := fun hc W hb => by
    obtain ⟨h1, h2, h3⟩ := can_parts hc
    exact textOf_any t ba bc W (hB.below hb) (fun b hb => can_okB (h3 b hb)) (by omega) (by unfold R64; omega) (hP.below hb) (hN.below hb)
  have ES : Hid (printS t = if canG t = true ∧ (gtxL t).length ≤ 262144 then ⟨(gtxL t).toArray⟩ else ⟨#[]⟩) := rfl
  have EE : Hid (printE t = if canG t = true then (if (gtxL t).length ≤ 262144 then 0 else 3) else 2) := rfl
  have ST := Lib.hid (tgC.eq_1 t ba bc)
  unfold tgV at C T ⊢
  rw [ST.out] at C HB0 HX0 T ⊢
  clear hb0 hB hS hT hP hN
  cases hc : canG t
  · have hs : printS t = ⟨#[]⟩ := by rw [ES.out, hc]; simp
    have he : printE t = 2 := by rw [EE.out, hc]; simp
    rw [hs, he]
    rw [hc] at C
    clear hs he hc T
    go_enter Tryz.func11, Tryz.ntmps11
    go_wp2_with fail
    refine C.out.mono ?_
    rintro e w1 ⟨rfl, hb1⟩
    have HB1 := Lib.hid (HB0.out.trans (hb1.mono HB0.out.size))
    clear hb1 C
    go_wp2
    go_ret2
    exact ⟨rfl, HB1.out⟩
  · rw [hc] at C
    have T1 := Lib.hid (T.out hc)
    have hs : printS t = if (gtxL t).length ≤ 262144 then ⟨(gtxL t).toArray⟩ else ⟨#[]⟩ := by rw [ES.out, hc]; simp
    have he : printE t = if (gtxL t).length ≤ 262144 then 0 else 3 := by rw [EE.out, hc]; simp
    have HS := Lib.hid hs
    have HE := Lib.hid he
    clear hs he hc T ES EE
    generalize printS t = ps at *
    generalize printE t = pe at *
    go_enter Tryz.func11, Tryz.ntmps11
    go_wp2_with fail
    refine C.out.mono ?_
    rintro e w1 ⟨rfl, hb1⟩
    have HB1 := Lib.hid (HB0.out.trans (hb1.mono HB0.out.size))
    have hx1 := HX0.out.below hb1 HX0.out.lt
    have x0 : w1.cell? ⟨w.heap.size, 0, none⟩ = some (.int .i64 t.frame) := hx1.cell 0
    have x1 : w1.cell? ⟨w.heap.size, 1, none⟩ = some (.slice ba t.blocks.length bc) := hx1.cell 1
    have T2 := Lib.hid (T1.out w1 HB1.out)
    clear hb1 C hx1 HX0 HB0 T1
    go_wp2_with fail
    refine T2.out.mono ?_
    rintro e w2 ⟨s, ⟨rfl, hti⟩, hb2⟩
    have HB2 : Hid (Below w.heap.size w w2) := HB1.out.trans (hb2.mono HB1.out.size)
    have HTI := Lib.hid hti
    clear hb2 T2 x0 x1 HB1 hti
    rcases HTI.out with ⟨h1, h2⟩ | ⟨h1, h2⟩
    · have hsz : s.size = (gtxL t).length := by rw [← h1, Array.length_toList]; rfl
      have hle : ¬ (262144 : Int) < s.size := by omega
      have HPS : Hid (ps = s) := by
        show ps = s
        rw [HS.out, if_pos h2, ← h1]
      have HPE : Hid (pe = 0) := by
        show pe = 0
        rw [HE.out, if_pos h2]
      clear HTI h1 h2 hsz
      go_wp2
      go_ret2
      exact ⟨by rw [HPS.out, HPE.out]; rfl, HB2.out⟩
    · have hgt : (262144 : Int) < s.size := by omega
      have HPS : Hid (ps = ⟨#[]⟩) := by
        show ps = _
        rw [HS.out, if_neg (by omega)]
      have HPE : Hid (pe = 3) := by
        show pe = 3
        rw [HE.out, if_neg (by omega)]
      clear HTI h1 h2
      go_wp2
      go_ret2
      exact ⟨by rw [HPS.out, HPE.out]; rfl, HB2.out⟩
end Go.Proofs.YtjmdgbgjleeloaaGreatDoor
namespace Go.Proofs.YtjmdgbgjleeloaaGreatDoor

theorem rd_shown (s : ByteArray) (ws : List Wd) (hs : s.data.toList = shownL false ws) (hc : ∀ x ∈ ws, canB x = true) : readErr s = 0 ∧ (readWords s).map key = ws.map key := by
  obtain ⟨vs, e1, e2⟩ := back_go s ws false s.size 0 [] 1 1 (Nat.zero_le _) (by rw [List.drop_zero, ← hs]) hc (by omega)
  have e := read_eq s
  unfold refRead at e
  rw [e1] at e
  simp only [Prod.mk.injEq, List.nil_append] at e
  exact ⟨e.2.2.2.symm, by rw [← e.1]; exact e2⟩
theorem key_ends {x y : Wd} (h : key x = key y) : endK x = endK y := by
  have : x.k = y.k := congrArg Prod.fst h
  unfold endK
  rw [this]
/-- Words alike but for their places leave words alike. -/
theorem fold_keys : ∀ (ws us : List Wd) (st su : Option Wd × List Wd), ws.map key = us.map key → st.1.map key = su.1.map key → st.2.map key = su.2.map key →
    (ws.foldl stepC st).2.map key = (us.foldl stepC su).2.map key := by
  intro ws
  induction ws with
  | nil =>
    intro us st su h _ h2
    have : us = [] := by simpa using h.symm
    subst this
    exact h2
  | cons x r ih =>
    intro us st su h h1 h2
    cases us with
    | nil => simp at h
    | cons y u =>
      simp only [List.map_cons, List.cons.injEq] at h
      rw [List.foldl_cons, List.foldl_cons]
      have he := key_ends h.1
      have hn : st.2 = [] ↔ su.2 = [] := by
        constructor
        · intro e; rw [e] at h2; simpa using h2.symm
        · intro e; rw [e] at h2; simpa using h2
      refine ih u _ _ h.2 ?_ ?_
      · unfold stepC
        rw [← he]
        cases hx : endK x
        · rfl
        · simp only [if_true, Option.map_some, Option.some.injEq]
          cases h3 : st.1 with
          | none =>
            rw [h3] at h1
            have h4 : su.1 = none := by simpa using h1.symm
            rw [h4]
            exact h.1
          | some a =>
            rw [h3] at h1
            cases h4 : su.1 with
            | none => rw [h4] at h1; simp at h1
            | some b => rw [h4] at h1; simpa using h1
      · unfold stepC
        rw [← he]
        cases hx : endK x
        · simp only [Bool.false_eq_true, if_false, List.map_append, List.map_cons, List.map_nil]
          rw [h.1]
          congr 1
          by_cases h3 : st.2 = []
          · rw [if_pos h3, if_pos (hn.1 h3)]
          · rw [if_neg h3, if_neg (fun e => h3 (hn.2 e)), List.map_append, List.map_append, h2]
            congr 1
            cases h4 : st.1 <;> cases h5 : su.1 <;> rw [h4, h5] at h1 <;> simp_all
        · exact h2
theorem pruned_same {vs ws : List Wd} (h : vs.map key = ws.map key) : (pruned vs).map key = (pruned ws).map key := fold_keys vs ws _ _ h rfl rfl
def enW : Wd := ⟨4, ⟨#[]⟩, 0, 0, 0⟩
theorem prune_run : ∀ (ws out : List Wd), (∀ x ∈ ws, endK x = false) → ws.foldl stepC (none, out) = (none, out ++ ws) := by
  intro ws
  induction ws with
  | nil => intro out _; simp
  | cons x r ih =>
    intro out h
    have hx := h x (by simp)
    rw [List.foldl_cons]
    have e : stepC (none, out) x = (none, out ++ [x]) := by
      unfold stepC
      rw [hx]
      by_cases ho : out = []
      · simp [ho]
      · simp [ho]
    rw [e, ih _ (fun y hy => h y (by simp [hy]))]
    simp
/-- Lines, each with its end, behind lines. -/
theorem prune_lines : ∀ (ls : List (List Wd)) (out : List Wd), out ≠ [] → (∀ l ∈ ls, l ≠ [] ∧ ∀ x ∈ l, endK x = false) →
    (ls.flatMap fun l => l ++ [enW]).foldl stepC (some enW, out) = (some enW, out ++ ls.flatMap fun l => enW :: l) := by
  intro ls
  induction ls with
  | nil => intro out _ _; simp
  | cons l r ih =>
    intro out ho h
    obtain ⟨h1, h2⟩ := h l (by simp)
    cases l with
    | nil => exact absurd rfl h1
    | cons x u =>
      have hx := h2 x (by simp)
      have e1 : stepC (some enW, out) x = (none, out ++ [enW] ++ [x]) := by
        unfold stepC
        rw [hx]
        simp [ho]
      have e2 : stepC (none, out ++ [enW] ++ [x] ++ u) enW = (some enW, out ++ [enW] ++ [x] ++ u) := rfl
      have e3 : (x :: u ++ [enW]).foldl stepC (some enW, out) = (some enW, out ++ [enW] ++ [x] ++ u) := by
        rw [List.cons_append, List.foldl_cons, e1, List.foldl_append, prune_run u _ (fun y hy => h2 y (by simp [hy])), List.foldl_cons, List.foldl_nil, e2]
      rw [List.flatMap_cons, List.foldl_append, e3, ih _ (by simp) (fun y hy => h y (by simp [hy]))]
      simp
theorem pruned_lines (l : List Wd) (ls : List (List Wd)) (h : ∀ y ∈ l :: ls, y ≠ [] ∧ ∀ x ∈ y, endK x = false) : pruned ((l :: ls).flatMap fun l => l ++ [enW]) = l ++ ls.flatMap fun l => enW :: l := by
  obtain ⟨h1, h2⟩ := h l (by simp)
  unfold pruned
  have e2 : stepC (none, [] ++ l) enW = (some enW, l) := rfl
  rw [List.flatMap_cons, List.foldl_append, List.foldl_append, prune_run l [] h2, List.foldl_cons, List.foldl_nil, e2, prune_lines ls l h1 (fun y hy => h y (by simp [hy]))]
/-- A word of a line, as a word of a text. -/
def txW (s : ByteArray) : Wd := if s = larr ∨ s = rarr then ⟨3, s, 0, 0, 0⟩ else ⟨1, s, 0, 0, 0⟩
def Wo.wd : Wo → Wd
  | .tx s => txW s
  | .rg n => ⟨1, ⟨#[114]⟩ ++ itS n, 0, 0, 0⟩
  | .sl n => ⟨1, ⟨#[115]⟩ ++ itS n, 0, 0, 0⟩
  | .nm n => ⟨2, itS n, n, 0, 0⟩
theorem wd_text (x : Wo) : x.wd.t = x.b := by
  cases x with
  | tx s => unfold Wo.wd; dsimp only; unfold txW; split <;> rfl
  | rg n => rfl
  | sl n => rfl
  | nm n => rfl
theorem wd_kind (x : Wo) : x.wd.k ≠ 4 := by
  cases x with
  | tx s => unfold Wo.wd; dsimp only; unfold txW; split; exact (by decide : (3 : Int) ≠ 4); exact (by decide : (1 : Int) ≠ 4)
  | rg n => exact (by decide : (1 : Int) ≠ 4)
  | sl n => exact (by decide : (1 : Int) ≠ 4)
  | nm n => exact (by decide : (2 : Int) ≠ 4)
theorem wd_noend (x : Wo) : endK x.wd = false := by
  cases x with
  | tx s => unfold Wo.wd; dsimp only; unfold txW; split <;> rfl
  | rg n => rfl
  | sl n => rfl
  | nm n => rfl
theorem join_tail_cons (x : List UInt8) (r : List (List UInt8)) : Lib.joinTail [32] (x :: r) = 32 :: (x ++ Lib.joinTail [32] r) := by simp [Lib.joinTail]
theorem sh_line (l : List Wo) (r : List Wd) : shownL true (l.map Wo.wd ++ r) = Lib.joinTail [32] (l.map fun x => x.b.data.toList) ++ shownL true r := by
  induction l with
  | nil => simp [Lib.joinTail]
  | cons x l ih =>
    rw [List.map_cons, List.cons_append, shownL, if_neg (wd_kind x), ih, List.map_cons, join_tail_cons, wd_text]
    simp
theorem sh_row (l : List Wo) (r : List Wd) (h : l ≠ []) : shownL false (l.map Wo.wd ++ enW :: r) = rowL l ++ shownL false r := by
  have h1 : rowL l = Lib.join (l.map fun x => x.b.data.toList) [32] ++ [10] := by
    unfold rowL rowB joinB
    rw [ByteArray.data_append, Array.toList_append, List.map_map]
    rfl
  cases l with
  | nil => exact absurd rfl h
  | cons x u =>
    rw [h1, List.map_cons, List.cons_append, shownL, if_neg (wd_kind x), sh_line, List.map_cons, Lib.join_cons, wd_text]
    have e : shownL true (enW :: r) = 10 :: shownL false r := by rw [shownL]; exact if_pos rfl
    rw [e]
    simp
/-- The lines of a target; their words. -/
def Gg.lns (t : Gg) : List (List Wo) := headWo t :: blsWo 0 t.blocks
def Gg.wds (t : Gg) : List Wd := (t.lns.map fun l => l.map Wo.wd).flatMap fun l => l ++ [enW]
theorem sh_lines : ∀ ls : List (List Wo), (∀ l ∈ ls, l ≠ []) → shownL false ((ls.map fun l => l.map Wo.wd).flatMap fun l => l ++ [enW]) = ls.flatMap rowL := by
  intro ls
  induction ls with
  | nil => intro _; rfl
  | cons l r ih =>
    intro h
    rw [List.map_cons, List.flatMap_cons, List.append_assoc, List.flatMap_cons, List.singleton_append, sh_row l _ (h l (by simp)), ih (fun y hy => h y (by simp [hy]))]
/-- A word of a line that can be told. -/
def txL : List ByteArray := [kTarget, kBlock, kSt, kCa, kRe, kTr, sAr, sAl] ++ opNameL.tail
def Wo.fine : Wo → Prop
  | .tx s => s ∈ txL
  | .rg n => 0 ≤ n ∧ n < 64
  | .sl n => 0 ≤ n ∧ n < 400
  | .nm n => -1099511627776 ≤ n ∧ n ≤ 1099511627776
theorem nat_of {n : Int} {k : Nat} (h : 0 ≤ n ∧ n < k) : ∃ m : Nat, n = (m : Int) ∧ m < k := ⟨n.toNat, by omega, by omega⟩
theorem tx_can : (txL.all fun s => canB (Wo.tx s).wd) = true := by decide +kernel
theorem rg_can : ((List.range 64).all fun (n : Nat) => canB (Wo.rg (n : Int)).wd) = true := by decide +kernel
theorem sl_can : ((List.range 400).all fun (n : Nat) => canB (Wo.sl (n : Int)).wd) = true := by decide +kernel
theorem fine_can {x : Wo} (h : x.fine) : canB x.wd = true := by
  cases x with
  | tx s => exact List.all_eq_true.1 tx_can s h
  | rg n => obtain ⟨m, rfl, hm⟩ := nat_of (k := 64) h; exact List.all_eq_true.1 rg_can m (List.mem_range.2 hm)
  | sl n => obtain ⟨m, rfl, hm⟩ := nat_of (k := 400) h; exact List.all_eq_true.1 sl_can m (List.mem_range.2 hm)
  | nm n =>
    have h : -1099511627776 ≤ n ∧ n ≤ 1099511627776 := h
    show canB ⟨2, itS n, n, 0, 0⟩ = true
    unfold canB
    rw [if_neg (by show ¬ (2 : Int) = 1; decide), if_pos rfl]
    simp only [Bool.and_eq_true, decide_eq_true_eq]
    exact ⟨by unfold boundB; exact decide_eq_true h, rfl⟩
theorem tx_in {s : ByteArray} (h : (txL.any fun y => decide (y = s)) = true) : s ∈ txL := by
  obtain ⟨y, hy, e⟩ := List.any_eq_true.1 h
  rw [decide_eq_true_eq] at e
  exact e ▸ hy
theorem op_name_in {o : Int} (h : 1 ≤ o ∧ o < 12) : opNm o ∈ txL := by
  have : ((List.range 12).all fun (n : Nat) => decide (n = 0) || txL.any fun y => decide (y = opNm (n : Int))) = true := by decide +kernel
  obtain ⟨m, rfl, hm⟩ := nat_of (n := o) (k := 12) ⟨by omega, h.2⟩
  have := List.all_eq_true.1 this m (List.mem_range.2 hm)
  rw [Bool.or_eq_true, decide_eq_true_eq] at this
  rcases this with h | h
  · omega
  · exact tx_in h
theorem ins_fine {x : Ii} (h : ofInsN wideM 400 x = 0) : insWo x ≠ [] ∧ ∀ y ∈ insWo x, y.fine := by
  obtain ⟨h1, h2, h3, h4, h5, h6, h7, _⟩ := ins_range h
  have hsl : x.op = 16 ∨ x.op = 17 → 0 ≤ x.imm ∧ x.imm < 400 := fun ho => by
    obtain ⟨_, _, q⟩ := ins_right h
    have := below_iff.1 (q (by rcases ho with e | e <;> rw [e] <;> decide)) x.imm (by simp)
    exact this
  have kl : larr ∈ txL := tx_in (by decide +kernel)
  have ks : (⟨#[115, 116, 111, 114, 101]⟩ : ByteArray) ∈ txL := tx_in (by decide +kernel)
  have kc : (⟨#[99, 97, 108, 108]⟩ : ByteArray) ∈ txL := tx_in (by decide +kernel)
  have kn : ∀ o : Int, 1 ≤ o ∧ o < 12 → opNm o ∈ txL := fun o ho => op_name_in ho
  unfold insWo
  repeat' split
  all_goals (refine ⟨by simp, fun y hy => ?_⟩; simp only [List.mem_cons, List.not_mem_nil, or_false] at hy)
  · rcases hy with rfl | rfl | rfl | rfl
    · exact h2
    · exact kl
    · exact kn _ (by omega)
    · exact h5
  · rcases hy with rfl | rfl | rfl | rfl | rfl
    · exact h2
    · exact kl
    · exact kn _ (by omega)
    · exact h3
    · exact h5
  · rcases hy with rfl | rfl | rfl | rfl
    · exact ks
    · exact h3
    · exact h5
    · exact h4
  · rcases hy with rfl | rfl | rfl
    · exact kc
    · show -1099511627776 ≤ x.callee ∧ _; omega
    · show -1099511627776 ≤ x.many ∧ _; omega
  · rcases hy with rfl | rfl | rfl
    · exact h2
    · exact kl
    · exact h3
  · rcases hy with rfl | rfl | rfl
    · exact hsl (by omega)
    · exact kl
    · exact h3
  · rcases hy with rfl | rfl | rfl
    · exact h2
    · exact kl
    · exact hsl (by omega)
  · rcases hy with rfl | rfl | rfl | rfl | rfl
    · exact h2
    · exact kl
    · exact kn _ (by omega)
    · exact h3
    · exact h4
theorem tm_fine {b : Bb} (h : CanB b) : tmWo b.tm ≠ [] ∧ ∀ y ∈ tmWo b.tm, y.fine := by
  obtain ⟨h1, h2, h3, h4⟩ := can_end h
  have ka : rarr ∈ txL := tx_in (by decide +kernel)
  have kr : (⟨#[114, 101, 116, 117, 114, 110]⟩ : ByteArray) ∈ txL := tx_in (by decide +kernel)
  have kt : (⟨#[116, 114, 97, 112]⟩ : ByteArray) ∈ txL := tx_in (by decide +kernel)
  have hbr : b.tm.kind = 2 → 0 ≤ b.tm.a ∧ b.tm.a < 64 := fun hk => by
    obtain ⟨_, q, _⟩ := end_right h.tm
    have hw : wideB b = b := by unfold wideB; rw [if_neg (by omega)]
    rw [hw] at q
    unfold readsWellT at q
    rw [if_neg (by omega)] at q
    have := below_iff.1 q b.tm.a (by simp)
    exact this
  unfold tmWo
  repeat' split
  all_goals (refine ⟨by simp, fun y hy => ?_⟩; simp only [List.mem_cons, List.not_mem_nil, or_false] at hy)
  · rcases hy with rfl | rfl
    · exact ka
    · show -1099511627776 ≤ b.tm.t0 ∧ _; omega
  · rcases hy with rfl | rfl | rfl | rfl
    · exact hbr (by omega)
    · exact ka
    · show -1099511627776 ≤ b.tm.t0 ∧ _; omega
    · show -1099511627776 ≤ b.tm.t1 ∧ _; omega
  · subst hy; exact kr
  · rcases hy with rfl | rfl
    · exact kr
    · show 0 ≤ b.tm.a ∧ b.tm.a < 64; omega
  · subst hy; exact kt
theorem bls_fine : ∀ (bs : List Bb) (k : Nat), k + bs.length ≤ 200 → (∀ b ∈ bs, CanB b) → ∀ l ∈ blsWo k bs, l ≠ [] ∧ ∀ y ∈ l, y.fine := by
  intro bs
  induction bs with
  | nil => intro k _ _ l hl; simp [blsWo] at hl
  | cons b r ih =>
    intro k hk hb l hl
    rw [List.length_cons] at hk
    simp only [blsWo, blWo, List.mem_append, List.mem_cons, List.mem_map, List.not_mem_nil, or_false, List.cons_append] at hl
    rcases hl with rfl | (⟨x, hx, rfl⟩ | rfl) | hl
    · refine ⟨by simp [opWo], fun y hy => ?_⟩
      simp only [opWo, List.mem_cons, List.not_mem_nil, or_false] at hy
      rcases hy with rfl | rfl
      · exact (tx_in (by decide +kernel) : kBlock ∈ txL)
      · show -1099511627776 ≤ (k : Int) ∧ _; omega
    · exact ins_fine ((hb b (by simp)).ins x hx)
    · exact tm_fine (hb b (by simp))
    · exact ih (k + 1) (by omega) (fun c hc => hb c (by simp [hc])) l hl
theorem lns_fine {t : Gg} (h : canG t = true) : ∀ l ∈ t.lns, l ≠ [] ∧ ∀ y ∈ l, y.fine := by
  obtain ⟨h1, h2, h3⟩ := can_parts h
  intro l hl
  rcases List.mem_cons.1 hl with rfl | hl
  · refine ⟨by simp [headWo], fun y hy => ?_⟩
    simp only [headWo, List.mem_cons, List.not_mem_nil, or_false] at hy
    rcases hy with rfl | rfl
    · exact (tx_in (by decide +kernel) : kTarget ∈ txL)
    · show -1099511627776 ≤ t.frame ∧ _; omega
  · exact bls_fine t.blocks 0 (by omega) h3 l hl
theorem text_words (t : Gg) (h : ∀ l ∈ t.lns, l ≠ []) : gtxL t = shownL false t.wds := by
  unfold Gg.wds
  rw [sh_lines _ h]
  rfl
/-- Its words, by what they are. -/
abbrev Kk := Int × ByteArray × Int
def kE : Kk := key enW
def keyO (x : Wo) : Kk := key x.wd
def tailK (ls : List (List Wo)) : List Kk := ls.flatMap fun l => kE :: l.map keyO
def linesK : List (List Wo) → List Kk
  | [] => []
  | l :: ls => l.map keyO ++ tailK ls
theorem wds_keys (t : Gg) (h : ∀ l ∈ t.lns, l ≠ []) : (pruned t.wds).map key = linesK t.lns := by
  unfold Gg.wds Gg.lns
  rw [List.map_cons, pruned_lines _ _ (fun y hy => ?_)]
  · simp only [linesK, tailK, List.map_append, List.map_map, List.map_flatMap, List.flatMap_map, List.map_cons]
    rfl
  · rw [← List.map_cons] at hy
    obtain ⟨l, hl, rfl⟩ := List.mem_map.1 hy
    refine ⟨by have := h l hl; simpa using this, fun x hx => ?_⟩
    obtain ⟨y, _, rfl⟩ := List.mem_map.1 hx
    exact wd_noend y
/-- A cursor that is not broken, over words of that kind. -/
structure St (c : Cu) (ks : List Kk) : Prop where
  left : c.left.map key = ks
  fault : c.fault = 0
theorem start_target {t : Gg} (h : canG t = true) (s : ByteArray) (hs : s.data.toList = gtxL t) : St (startC s) (linesK t.lns) := by
  have hf := lns_fine h
  have hne : ∀ l ∈ t.lns, l ≠ [] := fun l hl => (hf l hl).1
  obtain ⟨h1, h2⟩ := rd_shown s t.wds (hs.trans (text_words t hne)) (fun x hx => by
    unfold Gg.wds at hx
    simp only [List.mem_flatMap, List.mem_map, List.mem_append, List.mem_cons, List.not_mem_nil, or_false] at hx
    obtain ⟨_, ⟨l, hl, rfl⟩, hx⟩ := hx
    rcases hx with hx | rfl
    · obtain ⟨y, hy, rfl⟩ := List.mem_map.1 hx
      exact fine_can ((hf l hl).2 y hy)
    · rfl)
  refine ⟨?_, h1⟩
  show (pruned (readWords s)).map key = _
  rw [pruned_same h2, wds_keys t hne]
end Go.Proofs.YtjmdgbgjleeloaaGreatDoor
