/-
  The document's text of a machine, and whether two rows of facts are the same. No condition beyond those that each theorem states.
-/
import Derived.Test.YtkfplffcegbdfaaGreatDoorPk5
import Derived.Test.YtkfplffcegbdfaaGreatDoorMrA
import Derived.Test.YtkfplffcegbdfaaGreatDoorMaK
import Derived.Deep.RegionHeld3
import Derived.Deep.CutRange
import Derived.Great.Walk
import Derived.Deep.QuietTactic
import Derived.BigQuiet
namespace Go.Proofs.YtkfplffcegbdfaaGreatDoor
open Go.RowKit

set_option maxHeartbeats 2000000 in
set_option maxRecDepth 100000 in
theorem rrow_any (s : ByteArray) (l : List Int) (a : Option Addr) (c : Nat) (w : World) (hs : s.size ≤ 1000) (hl : l.length ≤ 64) (hx : ∀ x ∈ l, 0 ≤ x ∧ x < 100) (hI : IntsW w a l) :
    Calls Tryz.prog 27 #[.string s, .slice a l.length c] w fun e w' => e = .returned (.string (rowS s l)) ∧ w = w' := by
  have HI := Lib.hid hI
  have HX := Lib.hid hx
  have HT : Hid (∀ j, j ≤ l.length → (rowS s (l.take j)).size ≤ 1192) := fun j hj => by
    have h := rowS_size (l.take j) (fun x hx2 => hx x (List.mem_of_mem_take hx2)) s
    have : (l.take j).length ≤ 64 := by simp; omega
    omega
  clear hI hx
  go_enter Tryz.func27, Tryz.ntmps27
  go_wp2
  go_loopw [0, 5] (fun v k wr => ∃ j : Nat, v = .string (rowS s (l.take j)) ∧ k = .int .i64 j ∧ j ≤ l.length ∧ w = wr) (fun _ k _ => l.length - (intOf k).toNat)
  case atStart => exact ⟨0, rfl, rfl, Nat.zero_le _, rfl⟩
  case round =>
    obtain ⟨j, rfl, rfl, hj, rfl⟩ := hrel
    by_cases hlt : j < l.length
    · have hlt' : (j : Int) < l.length := by omega
      have hj0 : (0 : Int) ≤ j := by omega
      obtain ⟨x, hx⟩ : ∃ x, l[j]? = some x := ⟨_, List.getElem?_eq_getElem hlt⟩
      obtain ⟨g, o, rfl, hg, h0⟩ := HI.out j x hx
      have hv := HX.out x (List.mem_of_getElem? hx)
      have hn := numS_len x hv
      have hp := HT.out j hj
      have HE : Hid (rowS s (l.take (j + 1)) = rowS s (l.take j) ++ ⟨#[32]⟩ ++ numS x) := by
        show _ = _
        rw [List.take_add_one, hx]
        exact rowS_snoc _ _ _
      clear hx
      have CI := Lib.hid (itoaM_any x hv w)
      generalize rowS s (l.take j) = p at *
      generalize numS x = q at *
      have a1 : ∀ w, (Op.stringOp .add p ⟨#[32]⟩).run Tryz.prog w = .ok (.string (p ++ ⟨#[32]⟩)) w := fun w => run_string_add_sum w p ⟨#[32]⟩ (by show p.size + 1 ≤ _; omega)
      have a2 : ∀ w, (Op.stringOp .add (p ++ ⟨#[32]⟩) q).run Tryz.prog w = .ok (.string (p ++ ⟨#[32]⟩ ++ q)) w := fun w => run_string_add_sum w _ q (by rw [ByteArray.size_append]; show p.size + 1 + q.size ≤ _; omega)
      have hq1 : ¬ (9223372036854775807 < p.size + 1) := by omega
      have hq2 : ¬ (9223372036854775806 < p.size) := by omega
      have hq3 : ¬ (9223372036854775807 ≤ p.size) := by omega
      have hq4 : ¬ (9223372036854775807 < p.size + 1 + q.size) := by omega
      go_wp2_with fail
      refine CI.out.mono ?_
      rintro e w1 ⟨rfl, rfl⟩
      go_wp2
      go_roundw
      case rel => exact ⟨j + 1, by rw [HE.out], by go_num, by omega, trivial⟩
      case measure => simp [intOf]; omega
    · have e : l.take j = l := List.take_of_length_le (by omega)
      rw [e]
      go_wp2
      go_ret
      exact ⟨rfl, rfl⟩
set_option maxHeartbeats 4000000 in
set_option maxRecDepth 100000 in
theorem rprint_any (m : Mm) (aa sa : Option Addr) (ac sc : Nat) (w : World) (hl : m.args.length ≤ 140737488355328) (hs : m.saved.length ≤ 140737488355328) (hc : m.args.length ≤ ac) (hM : MaW w m aa sa) :
    Calls Tryz.prog 8 #[machV m aa ac sa sc] w fun e w' => e = .returned (.tuple #[.string m.printS, .int .i64 m.printE]) ∧ Below w.heap.size w w' := by
  have HB0 : Hid (Below w.heap.size w (w.alloc (.cells (maxC m aa ac sa sc) 24))) := (Below.refl _ w).alloc (Nat.le_refl _) _
  have HX0 : Hid (Blk (w.alloc (.cells (maxC m aa ac sa sc) 24)) w.heap.size 24 (maxC m aa ac sa sc)) := Blk.new w _ _
  have HR := Lib.hid (rright_any m aa sa ac sc (w.alloc (.cells (maxC m aa ac sa sc) 24)) hl hs hc (hM.below HB0.out))
  have HW := Lib.hid hM
  obtain ⟨c0, c1, c2, c3⟩ := boxMa (m := m) (aa := aa) (sa := sa) (ac := ac) (sc := sc) HX0.out
  have HM : Hid (maxC m aa ac sa sc = _) := maxC.eq_1 m aa ac sa sc
  unfold machV at HR ⊢
  clear hM
  rw [HM.out] at HB0 HX0 HR c0 c1 c2 c3 ⊢
  cases hr : m.rightB
  · obtain ⟨e1, e2⟩ := print_wrong hr
    have HE : Hid (m.printS = ⟨#[]⟩ ∧ m.printE = 2) := ⟨e1, e2⟩
    rw [hr] at HR
    clear hr e1 e2
    go_enter Tryz.func8, Tryz.ntmps8
    go_wp2_with fail
    refine HR.out.mono ?_
    rintro e w1 ⟨rfl, hb⟩
    have HB1 : Hid (Below w.heap.size w w1) := HB0.out.trans (hb.mono HB0.out.size)
    clear hb
    go_wp2
    go_ret2
    exact ⟨by rw [HE.out.1, HE.out.2]; rfl, HB1.out⟩
  · obtain ⟨e1, e2⟩ := print_right hr
    obtain ⟨b1, b2, b3, b4, b5, b6⟩ := right_small hr
    have HE : Hid (m.printS = rowS rMachine [m.regs] ++ rowS rArgs m.args ++ rowS rRet [m.ret] ++ rowS rSaved m.saved ++ ⟨#[10]⟩ ∧ m.printE = 0) := ⟨by rw [e1, text_rows], e2⟩
    rw [hr] at HR
    clear hr e1 e2
    go_enter Tryz.func8, Tryz.ntmps8
    go_wp2_with fail
    refine HR.out.mono ?_
    rintro e A ⟨rfl, hb⟩
    have HB1 : Hid (Below w.heap.size w A) := HB0.out.trans (hb.mono HB0.out.size)
    have HX1 : Hid (Blk A w.heap.size 24 (maxC m aa ac sa sc)) := HX0.out.below hb HX0.out.lt
    have HM1 : Hid (MaW A m aa sa) := HW.out.below HB1.out
    clear hb HR HB0 HX0 HW c0 c1 c2 c3
    obtain ⟨c0, c1, c2, c3⟩ := boxMa HX1.out
    have HS : Hid (∀ W, Below A.heap.size A W → Below A.heap.size A W ∧ W.cell? ⟨w.heap.size, 0, none⟩ = some (.int .i64 m.regs) ∧ W.cell? ⟨w.heap.size, 1, none⟩ = some (.slice aa m.args.length ac) ∧ W.cell? ⟨w.heap.size, 2, none⟩ = some (.int .i64 m.ret) ∧ W.cell? ⟨w.heap.size, 3, none⟩ = some (.slice sa m.saved.length sc)) := fun W h => ⟨h, boxMa (HX1.out.below h HX1.out.lt)⟩
    have C1 : Hid (∀ W a, Below A.heap.size A W → IntsW W a [m.regs] → Calls Tryz.prog 27 #[.string ⟨#[109, 97, 99, 104, 105, 110, 101]⟩, .slice a 1 1] W fun e w' => e = .returned (.string (rowS rMachine [m.regs])) ∧ Below A.heap.size A w' ∧ Hid (Below W.heap.size W w')) := fun W a h hi =>
      (rrow_any rMachine [m.regs] a 1 W (by decide) (by simp) (fun x hx => by simp at hx; subst hx; exact b3) hi).mono fun e w' ⟨h1, h2⟩ => ⟨h1, h2 ▸ h, h2 ▸ Below.refl _ _⟩
    have C2 : Hid (∀ W, Below A.heap.size A W → Calls Tryz.prog 27 #[.string ⟨#[32, 97, 114, 103, 115]⟩, .slice aa m.args.length ac] W fun e w' => e = .returned (.string (rowS rArgs m.args)) ∧ Below A.heap.size A w' ∧ Hid (Below W.heap.size W w')) := fun W h =>
      (rrow_any rArgs m.args aa ac W (by decide) b1 b5 (HM1.out.below h).args).mono fun e w' ⟨h1, h2⟩ => ⟨h1, h2 ▸ h, h2 ▸ Below.refl _ _⟩
    have C3 : Hid (∀ W a, Below A.heap.size A W → IntsW W a [m.ret] → Calls Tryz.prog 27 #[.string ⟨#[32, 114, 101, 116]⟩, .slice a 1 1] W fun e w' => e = .returned (.string (rowS rRet [m.ret])) ∧ Below A.heap.size A w' ∧ Hid (Below W.heap.size W w')) := fun W a h hi =>
      (rrow_any rRet [m.ret] a 1 W (by decide) (by simp) (fun x hx => by simp at hx; subst hx; exact b4) hi).mono fun e w' ⟨h1, h2⟩ => ⟨h1, h2 ▸ h, h2 ▸ Below.refl _ _⟩
    have C4 : Hid (∀ W, Below A.heap.size A W → Calls Tryz.prog 27 #[.string ⟨#[32, 115, 97, 118, 101, 100]⟩, .slice sa m.saved.length sc] W fun e w' => e = .returned (.string (rowS rSaved m.saved)) ∧ Below A.heap.size A w' ∧ Hid (Below W.heap.size W w')) := fun W h =>
      (rrow_any rSaved m.saved sa sc W (by decide) b2 b6 (HM1.out.below h).saved).mono fun e w' ⟨h1, h2⟩ => ⟨h1, h2 ▸ h, h2 ▸ Below.refl _ _⟩
    have z1 : (rowS rMachine [m.regs]).size ≤ 10 := by
      have := rowS_size [m.regs] (fun x hx => by simp at hx; subst hx; exact b3) rMachine
      have e : rMachine.size = 7 := by decide
      simp only [List.length_cons, List.length_nil] at this
      omega
    have z2 : (rowS rArgs m.args).size ≤ 200 := by
      have := rowS_size m.args b5 rArgs
      have e : rArgs.size = 5 := by decide
      omega
    have z3 : (rowS rRet [m.ret]).size ≤ 10 := by
      have := rowS_size [m.ret] (fun x hx => by simp at hx; subst hx; exact b4) rRet
      have e : rRet.size = 4 := by decide
      simp only [List.length_cons, List.length_nil] at this
      omega
    have z4 : (rowS rSaved m.saved).size ≤ 200 := by
      have := rowS_size m.saved b6 rSaved
      have e : rSaved.size = 6 := by decide
      omega
    clear b1 b2 b3 b4 b5 b6
    generalize rowS rMachine [m.regs] = p1 at *
    generalize rowS rArgs m.args = p2 at *
    generalize rowS rRet [m.ret] = p3 at *
    generalize rowS rSaved m.saved = p4 at *
    have a1 : ∀ w, (Op.stringOp .add p1 p2).run Tryz.prog w = .ok (.string (p1 ++ p2)) w := fun w => run_string_add_sum w _ _ (by omega)
    have a2 : ∀ w, (Op.stringOp .add (p1 ++ p2) p3).run Tryz.prog w = .ok (.string (p1 ++ p2 ++ p3)) w := fun w => run_string_add_sum w _ _ (by rw [ByteArray.size_append]; omega)
    have a3 : ∀ w, (Op.stringOp .add (p1 ++ p2 ++ p3) p4).run Tryz.prog w = .ok (.string (p1 ++ p2 ++ p3 ++ p4)) w := fun w => run_string_add_sum w _ _ (by rw [ByteArray.size_append, ByteArray.size_append]; omega)
    have a4 : ∀ w, (Op.stringOp .add (p1 ++ p2 ++ p3 ++ p4) ⟨#[10]⟩).run Tryz.prog w = .ok (.string (p1 ++ p2 ++ p3 ++ p4 ++ ⟨#[10]⟩)) w := fun w => run_string_add_sum w _ _ (by rw [ByteArray.size_append, ByteArray.size_append, ByteArray.size_append]; show p1.size + p2.size + p3.size + p4.size + 1 ≤ _; omega)
    have hb0 := (Below.refl A.heap.size A).drew
    go_upto_region 3 with fail
    go_cut [4] from 8 to 24 (fun v W => v = .string (p1 ++ p2 ++ p3 ++ p4) ∧ Below A.heap.size A W)
    case first =>
      go_region_held3 (fun W => Below A.heap.size A W ∧ W.cell? ⟨w.heap.size, 0, none⟩ = some (.int .i64 m.regs) ∧ W.cell? ⟨w.heap.size, 1, none⟩ = some (.slice aa m.args.length ac) ∧ W.cell? ⟨w.heap.size, 2, none⟩ = some (.int .i64 m.ret) ∧ W.cell? ⟨w.heap.size, 3, none⟩ = some (.slice sa m.saved.length sc))
        (first | (refine HS.out _ ?_; (repeat (first | with_reducible apply belM_alloc | with_reducible apply belM_drew)); (first | exact Below.refl _ _ | assumption)))
        (first
          | (go_at_call 27; have hq := hW13; refine (C4.out _ (by go_split_ands; assumption)).mono ?_; rintro e w16 ⟨rfl, hb16, hW16⟩)
          | (go_at_call 27; have hq := hW9; refine (C3.out _ _ (by go_split_ands; assumption) (by (repeat (with_reducible apply intsW_drew)); first | exact one_reg _ _ | exact one_regN _ _ _ (by simp) | (refine IntsW.below ?_ hW9.out; (repeat (with_reducible apply intsW_drew)); first | exact one_reg _ _ | exact one_regN _ _ _ (by simp) | (refine intsW_alloc ?_ _; (repeat (with_reducible apply intsW_drew)); first | exact one_reg _ _ | exact one_regN _ _ _ (by simp)) | (refine IntsW.below ?_ hW6.out; (repeat (with_reducible apply intsW_drew)); first | exact one_reg _ _ | exact one_regN _ _ _ (by simp) | (refine intsW_alloc ?_ _; (repeat (with_reducible apply intsW_drew)); first | exact one_reg _ _ | exact one_regN _ _ _ (by simp)))) | (refine intsW_alloc ?_ _; (repeat (with_reducible apply intsW_drew)); first | exact one_reg _ _ | exact one_regN _ _ _ (by simp)))).mono ?_; rintro e w13 ⟨rfl, hb13, hW13⟩)
          | (go_at_call 27; have hq := hW6; refine (C2.out _ (by go_split_ands; assumption)).mono ?_; rintro e w9 ⟨rfl, hb9, hW9⟩)
          | (go_at_call 27; refine (C1.out _ _ (by go_split_ands; assumption) (by (repeat (with_reducible apply intsW_drew)); first | exact one_reg _ _ | exact one_regN _ _ _ (by simp) | (refine intsW_alloc ?_ _; (repeat (with_reducible apply intsW_drew)); first | exact one_reg _ _ | exact one_regN _ _ _ (by simp)))).mono ?_; rintro e w6 ⟨rfl, hb6, hW6⟩))
      all_goals (
        go_wp2_with fail
        go_meet
        exact ⟨rfl, hb16⟩)
    case rest =>
      obtain ⟨rfl, hbc⟩ := hcut
      clear C1 C2 C3 C4 HS HX1
      go_wp2
      go_ret2
      exact ⟨by rw [HE.out.1, HE.out.2]; rfl, HB1.out.trans (hbc.mono HB1.out.size)⟩
/-- Facts of saved registers lie in a row from there. -/
def FactsW (w : World) (a : Option Addr) (l : List Int) : Prop := ∀ k x, l[k]? = some x → ∃ g, a = some ⟨g, 0, none⟩ ∧ g < w.heap.size ∧ w.cell? ⟨g, k * 3, none⟩ = some (.int .i64 (-1 - x)) ∧ w.cell? ⟨g, k * 3 + 1, none⟩ = some (.bool false) ∧ w.cell? ⟨g, k * 3 + 2, none⟩ = some (.int .i64 x)
theorem FactsW.below {w w' : World} {a : Option Addr} {l : List Int} (h : FactsW w a l) (hb : Below w.heap.size w w') : FactsW w' a l := fun k x hx => by
  obtain ⟨g, ha, hg, h0, h1, h2⟩ := h k x hx
  exact ⟨g, ha, Nat.lt_of_lt_of_le hg hb.size, (hb.cell hg).trans h0, (hb.cell hg).trans h1, (hb.cell hg).trans h2⟩
theorem factC_at (l : List Int) : ∀ (k : Nat) (x : Int), l[k]? = some x → (l.flatMap factC)[k * 3]? = some (.int .i64 (-1 - x)) ∧ (l.flatMap factC)[k * 3 + 1]? = some (.bool false) ∧ (l.flatMap factC)[k * 3 + 2]? = some (.int .i64 x) := by
  induction l with
  | nil => intro k x h; simp at h
  | cons y r ih =>
    intro k x h
    rw [List.flatMap_cons]
    cases k with
    | zero => simp only [List.getElem?_cons_zero, Option.some.injEq] at h; subst h; exact ⟨rfl, rfl, rfl⟩
    | succ k =>
      simp only [List.getElem?_cons_succ] at h
      obtain ⟨h0, h1, h2⟩ := ih k x h
      have e : (factC y).length = 3 := rfl
      refine ⟨?_, ?_, ?_⟩
      · rw [show (k + 1) * 3 = (factC y).length + k * 3 by rw [e]; omega, List.getElem?_append_right (by omega), Nat.add_sub_cancel_left]; exact h0
      · rw [show (k + 1) * 3 + 1 = (factC y).length + (k * 3 + 1) by rw [e]; omega, List.getElem?_append_right (by omega), Nat.add_sub_cancel_left]; exact h1
      · rw [show (k + 1) * 3 + 2 = (factC y).length + (k * 3 + 2) by rw [e]; omega, List.getElem?_append_right (by omega), Nat.add_sub_cancel_left]; exact h2
theorem FactsW.own {w : World} {B : Nat} {a : Option Addr} {c : Nat} {l : List Int} (h : OwnF w B (.slice a l.length c) l) : FactsW w a l := fun k x hx => by
  have hk := (List.getElem?_eq_some_iff.1 hx).1
  obtain ⟨g, cap, hv, _, hlt⟩ := World.ownsRow.form h (by omega)
  injection hv with ha
  subst ha
  obtain ⟨h0, h1, h2⟩ := factC_at l k x hx
  have at_ : ∀ (j : Nat) (u : Value), (l.flatMap factC)[j]? = some u → w.cell? ⟨g, j, none⟩ = some u := fun j u hu => by
    have h3 := World.ownsRow.cells h (g := g) rfl j u hu
    have e : (⟨g, 0, none⟩ : Addr).add j = ⟨g, j, none⟩ := by
      unfold Addr.add
      split <;> simp_all
    rw [e] at h3
    exact h3
  exact ⟨g, rfl, hlt, at_ _ _ h0, at_ _ _ h1, at_ _ _ h2⟩
set_option maxHeartbeats 2000000 in
set_option maxRecDepth 100000 in
theorem sameFacts_any (l : List Int) (a a' : Option Addr) (c c' : Nat) (w : World) (hl : l.length ≤ 1000000) (hI : FactsW w a l) (hJ : FactsW w a' l) :
    Calls Tryz.prog 16 #[.slice a l.length c, .slice a' l.length c'] w fun e w' => e = .returned (.bool true) ∧ Below w.heap.size w w' := by
  have HI := Lib.hid hI
  have HJ := Lib.hid hJ
  clear hI hJ
  have h' : ((l.length : Int) == l.length) = true := by simp
  have h'' : ((l.length : Int) != l.length) = false := by simp
  go_enter Tryz.func16, Tryz.ntmps16
  go_wp2
  go_loopw [5] (fun k wr => ∃ j : Nat, k = .int .i64 j ∧ j ≤ l.length ∧ Below w.heap.size w wr) (fun k _ => l.length - (intOf k).toNat)
  case atStart => exact ⟨0, rfl, Nat.zero_le _, Below.refl _ _⟩
  case round =>
    obtain ⟨j, rfl, hj, hW⟩ := hrel
    have HW := Lib.hid hW
    clear hW
    by_cases hlt : j < l.length
    · have hlt' : (j : Int) < l.length := by omega
      have hj0 : (0 : Int) ≤ j := by omega
      obtain ⟨x, hx⟩ : ∃ x, l[j]? = some x := ⟨_, List.getElem?_eq_getElem hlt⟩
      obtain ⟨g, rfl, hg, h0, h1, h2⟩ := (HI.out.below HW.out) j x hx
      obtain ⟨g2, rfl, hg2, k0, k1, k2⟩ := (HJ.out.below HW.out) j x hx
      clear hx hg hg2
      go_wp2_with fail
      go_quiet (fail)
      go_wp2
      go_roundw
      case rel => exact ⟨j + 1, by go_num, by omega, below_drewN HW.out _⟩
      case measure => simp [intOf]; omega
    · have e : j = l.length := by omega
      subst e
      have hlt' : ¬ (l.length : Int) < l.length := by omega
      go_wp2
      go_ret
      exact ⟨rfl, HW.out⟩
end Go.Proofs.YtkfplffcegbdfaaGreatDoor
