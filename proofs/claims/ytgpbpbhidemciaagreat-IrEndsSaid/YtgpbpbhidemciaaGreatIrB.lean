/-
  Package ir tells whether a call, and an end, is right, as the plain functions say. No condition beyond those that each theorem states.
-/
import Derived.Test.YtgpbpbhidemciaaGreatIrA
namespace Go.Proofs.YtgpbpbhidemciaaGreat
open Go.RowKit

/-- An instruction's cells. -/
def insC (x : Ii) (a : Option Addr) (c : Nat) : Array Value := #[.int .i64 x.op, .int .i64 x.dst, .int .i64 x.a, .int .i64 x.b, .int .i64 x.imm, .int .i64 x.callee, .slice a x.args.length c, .int .i64 x.many]
theorem box8 {W : World} {g : Nat} {t : TypeId} {x : Ii} {a : Option Addr} {c : Nat} (h : Blk W g t (insC x a c)) :
    W.cell? ⟨g, 0, none⟩ = some (.int .i64 x.op) ∧ W.cell? ⟨g, 1, none⟩ = some (.int .i64 x.dst) ∧ W.cell? ⟨g, 2, none⟩ = some (.int .i64 x.a) ∧ W.cell? ⟨g, 3, none⟩ = some (.int .i64 x.b) ∧
    W.cell? ⟨g, 4, none⟩ = some (.int .i64 x.imm) ∧ W.cell? ⟨g, 5, none⟩ = some (.int .i64 x.callee) ∧ W.cell? ⟨g, 6, none⟩ = some (.slice a x.args.length c) ∧ W.cell? ⟨g, 7, none⟩ = some (.int .i64 x.many) :=
  ⟨h.cell 0, h.cell 1, h.cell 2, h.cell 3, h.cell 4, h.cell 5, h.cell 6, h.cell 7⟩
set_option maxHeartbeats 2000000 in
set_option maxRecDepth 100000 in
theorem isCall_any (x : Ii) (a : Option Addr) (c : Nat) (w : World) (hl : x.args.length ≤ 140737488355328) (hI : IntsW w a x.args) :
    Calls Tryz.prog 38 #[insV x a c] w fun e w' => e = .returned (.bool (isCallB x)) ∧ Below w.heap.size w w' := by
  have HI := Lib.hid hI
  clear hI
  unfold insV
  go_enter Tryz.func38, Tryz.ntmps38
  have HB : Hid (Blk (w.alloc (.cells (insC x a c) 25)) w.heap.size 25 (insC x a c)) := Blk.new w _ _
  have HW : Hid (Below w.heap.size w (w.alloc (.cells (insC x a c) 25))) := (Below.refl _ w).alloc (Nat.le_refl _) _
  have HE := Lib.hid (isCallB.eq_1 x)
  go_wp2_with fail
  refine (fits_any (x.dst != 0) x.dst _).mono ?_
  rintro e w1 ⟨rfl, hb⟩
  have HB1 : Hid (Blk w1 w.heap.size 25 (insC x a c)) := HB.out.below hb HB.out.lt
  have HW1 : Hid (Below w.heap.size w w1) := HW.out.trans (hb.mono HW.out.size)
  have HI1 : Hid (IntsW w1 a x.args) := HI.out.below HW1.out
  clear hb HB HW HI
  obtain ⟨c0, c1, c2, c3, c4, c5, c6, c7⟩ := box8 HB1.out
  cases hf : fitsB (x.dst != 0) x.dst
  · rw [hf] at HE
    go_wp2
    go_ret
    exact ⟨by rw [HE.out]; rfl, HW1.out⟩
  rw [hf] at HE
  by_cases h1 : 0 ≤ x.callee
  case neg =>
    have : decide (0 ≤ x.callee) = false := by simpa using h1
    rw [this] at HE
    go_wp2
    go_ret
    exact ⟨by rw [HE.out]; rfl, HW1.out⟩
  rw [decide_eq_true h1] at HE
  by_cases h2 : x.callee ≤ 99
  case neg =>
    have : decide (x.callee ≤ 99) = false := by simpa using h2
    rw [this] at HE
    go_wp2
    go_ret
    exact ⟨by rw [HE.out]; rfl, HW1.out⟩
  rw [decide_eq_true h2] at HE
  by_cases h3 : x.args.length ≤ 8
  case neg =>
    have : decide (x.args.length ≤ 8) = false := by simpa using h3
    have h3' : ¬ (x.args.length : Int) ≤ 8 := by omega
    rw [this] at HE
    go_wp2
    go_ret
    exact ⟨by rw [HE.out]; rfl, HW1.out⟩
  have h3' : (x.args.length : Int) ≤ 8 := by omega
  rw [decide_eq_true h3] at HE
  go_wp2_with fail
  refine (areVars_any x.args a c _ hl HI1.out).mono ?_
  rintro e w2 ⟨rfl, rfl⟩
  cases hv : x.args.all varB
  · rw [hv] at HE
    go_wp2
    go_ret
    exact ⟨by rw [HE.out]; rfl, HW1.out⟩
  rw [hv] at HE
  cases h4 : x.a == 0
  · rw [h4] at HE
    go_wp2
    go_ret
    exact ⟨by rw [HE.out]; rfl, HW1.out⟩
  rw [h4] at HE
  cases h5 : x.b == 0
  · rw [h5] at HE
    go_wp2
    go_ret
    exact ⟨by rw [HE.out]; rfl, HW1.out⟩
  rw [h5] at HE
  cases h6 : x.imm == 0
  · rw [h6] at HE
    go_wp2
    go_ret
    exact ⟨by rw [HE.out]; rfl, HW1.out⟩
  rw [h6] at HE
  go_wp2
  go_ret
  exact ⟨by rw [HE.out]; rfl, HW1.out⟩
end Go.Proofs.YtgpbpbhidemciaaGreat
