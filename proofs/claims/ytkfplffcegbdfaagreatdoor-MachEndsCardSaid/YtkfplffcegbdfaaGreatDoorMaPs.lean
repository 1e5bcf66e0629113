/-
  The text of a machine: package mach's own. No condition beyond those that each theorem states.
-/
import Derived.Test.YtkfplffcegbdfaaGreatDoorMaPr
import Derived.Great.Walk
namespace Go.Proofs.YtkfplffcegbdfaaGreatDoor
open Go.RowKit

abbrev kMachine : ByteArray := ⟨#[109, 97, 99, 104, 105, 110, 101]⟩
abbrev kArgs : ByteArray := ⟨#[97, 114, 103, 115]⟩
abbrev kRet : ByteArray := ⟨#[114, 101, 116]⟩
abbrev kSaved : ByteArray := ⟨#[115, 97, 118, 101, 100]⟩
def Mm.partsL (m : Mm) : List ByteArray := [joinS (partS kMachine [m.regs]), joinS (partS kArgs m.args), joinS (partS kRet [m.ret]), joinS (partS kSaved m.saved)]
/-- The text of a right machine. -/
def Mm.textS (m : Mm) : ByteArray := joinS m.partsL ++ ⟨#[10]⟩
theorem belM_drew {A w : World} (h : Below A.heap.size A w) : Below A.heap.size A w.drew := h.drew
theorem belM_alloc {A w : World} (h : Below A.heap.size A w) (o : Obj) : Below A.heap.size A (w.alloc o) := h.alloc h.size o
theorem one_regN (W : World) (n : Nat) (x : Int) (h : W.heap.size = n) : IntsW (W.alloc (.cells #[.int .i64 x] 3)) (some ⟨n, 0, none⟩) [x] := by
  subst h
  exact one_reg W x
theorem intsW_drew {w : World} {a : Option Addr} {l : List Int} (h : IntsW w a l) : IntsW w.drew a l := h
theorem intsW_alloc {w : World} {a : Option Addr} {l : List Int} (h : IntsW w a l) (o : Obj) : IntsW (w.alloc o) a l := h.below ((Below.refl _ _).alloc (Nat.le_refl _) o)
theorem joinS_size (xs : List ByteArray) (n : Nat) (h : ∀ x ∈ xs, x.size ≤ n) : (joinS xs).size ≤ xs.length * (n + 1) := by
  have := joinS_len xs n h
  show (Lib.join (xs.map (·.data.toList)) [32]).toArray.size ≤ _
  rw [List.size_toArray]
  exact this
theorem partS_size (name : ByteArray) (l : List Int) (hn : name.size ≤ 1000) (hl : l.length ≤ 64) (hx : ∀ x ∈ l, 0 ≤ x ∧ x < 100) : (joinS (partS name l)).size ≤ 100000 := by
  have h1 := joinS_size (partS name l) 1000 (by
    intro y hy
    simp only [partS, List.mem_cons, List.mem_map] at hy
    rcases hy with rfl | ⟨z, hz, rfl⟩
    · exact hn
    · have := numS_len z (hx z hz); omega)
  have h2 : (partS name l).length ≤ 65 := by simp [partS]; omega
  have h3 : (partS name l).length * (1000 + 1) ≤ 65 * 1001 := Nat.mul_le_mul h2 (Nat.le_refl _)
  omega

set_option maxHeartbeats 4000000 in
set_option maxRecDepth 100000 in
theorem textOf_any (m : Mm) (aa sa : Option Addr) (ac sc : Nat) (w : World) (hl : m.args.length ≤ 64) (hs : m.saved.length ≤ 64)
    (hr : 0 ≤ m.regs ∧ m.regs < 100) (ht : 0 ≤ m.ret ∧ m.ret < 100) (ha : ∀ x ∈ m.args, 0 ≤ x ∧ x < 100) (hv : ∀ x ∈ m.saved, 0 ≤ x ∧ x < 100) (hM : MaW w m aa sa) :
    Calls Tryz.prog 26 #[machV m aa ac sa sc] w fun e w' => e = .returned (.string m.textS) ∧ Below w.heap.size w w' := by
  have HB0 : Hid (Below w.heap.size w (w.alloc (.cells (maxC m aa ac sa sc) 24))) := (Below.refl _ w).alloc (Nat.le_refl _) _
  have HX0 : Hid (Blk (w.alloc (.cells (maxC m aa ac sa sc) 24)) w.heap.size 24 (maxC m aa ac sa sc)) := Blk.new w _ _
  have HM0 : Hid (MaW (w.alloc (.cells (maxC m aa ac sa sc) 24)) m aa sa) := hM.below HB0.out
  have HM : Hid (maxC m aa ac sa sc = _) := maxC.eq_1 m aa ac sa sc
  have HT : Hid (m.textS = joinS [joinS (partS kMachine [m.regs]), joinS (partS kArgs m.args), joinS (partS kRet [m.ret]), joinS (partS kSaved m.saved)] ++ ⟨#[10]⟩) := rfl
  unfold machV
  clear hM
  go_enter Tryz.func26, Tryz.ntmps26
  go_upto_region 1 with fail
  change Code.wp _ _ _ _ (World.alloc _ _)
  generalize hA : (w.alloc (.cells (maxC m aa ac sa sc) 24)) = A at HB0 HX0 HM0 ⊢
  clear hA
  have HS : Hid (∀ W, Below A.heap.size A W → Below A.heap.size A W ∧ W.cell? ⟨w.heap.size, 0, none⟩ = some (.int .i64 m.regs) ∧ W.cell? ⟨w.heap.size, 1, none⟩ = some (.slice aa m.args.length ac) ∧ W.cell? ⟨w.heap.size, 2, none⟩ = some (.int .i64 m.ret) ∧ W.cell? ⟨w.heap.size, 3, none⟩ = some (.slice sa m.saved.length sc)) := fun W h => ⟨h, boxMa (HX0.out.below h HX0.out.lt)⟩
  have C1 : Hid (∀ W a, Below A.heap.size A W → IntsW W a [m.regs] → Calls Tryz.prog 44 #[.string ⟨#[109, 97, 99, 104, 105, 110, 101]⟩, .slice a 1 1] W fun e w' => e = .returned (.string (joinS (partS kMachine [m.regs]))) ∧ Below A.heap.size A w' ∧ Hid (Below W.heap.size W w')) := fun W a h hi =>
    (part_any kMachine [m.regs] a 1 W (by decide) (by simp) (fun x hx => by simp at hx; subst hx; exact hr) hi).mono fun e w' ⟨h1, h2⟩ => ⟨h1, h.trans (h2.mono h.size), h2⟩
  have C2 : Hid (∀ W, Below A.heap.size A W → Calls Tryz.prog 44 #[.string ⟨#[97, 114, 103, 115]⟩, .slice aa m.args.length ac] W fun e w' => e = .returned (.string (joinS (partS kArgs m.args))) ∧ Below A.heap.size A w' ∧ Hid (Below W.heap.size W w')) := fun W h =>
    (part_any kArgs m.args aa ac W (by decide) hl ha (HM0.out.below h).args).mono fun e w' ⟨h1, h2⟩ => ⟨h1, h.trans (h2.mono h.size), h2⟩
  have C3 : Hid (∀ W a, Below A.heap.size A W → IntsW W a [m.ret] → Calls Tryz.prog 44 #[.string ⟨#[114, 101, 116]⟩, .slice a 1 1] W fun e w' => e = .returned (.string (joinS (partS kRet [m.ret]))) ∧ Below A.heap.size A w' ∧ Hid (Below W.heap.size W w')) := fun W a h hi =>
    (part_any kRet [m.ret] a 1 W (by decide) (by simp) (fun x hx => by simp at hx; subst hx; exact ht) hi).mono fun e w' ⟨h1, h2⟩ => ⟨h1, h.trans (h2.mono h.size), h2⟩
  have C4 : Hid (∀ W, Below A.heap.size A W → Calls Tryz.prog 44 #[.string ⟨#[115, 97, 118, 101, 100]⟩, .slice sa m.saved.length sc] W fun e w' => e = .returned (.string (joinS (partS kSaved m.saved))) ∧ Below A.heap.size A w' ∧ Hid (Below W.heap.size W w')) := fun W h =>
    (part_any kSaved m.saved sa sc W (by decide) hs hv (HM0.out.below h).saved).mono fun e w' ⟨h1, h2⟩ => ⟨h1, h.trans (h2.mono h.size), h2⟩
  have z1 : (joinS (partS kMachine [m.regs])).size ≤ 100000 := partS_size _ _ (by decide) (by simp) (fun x hx => by simp at hx; subst hx; exact hr)
  have z2 : (joinS (partS kArgs m.args)).size ≤ 100000 := partS_size _ _ (by decide) hl ha
  have z3 : (joinS (partS kRet [m.ret])).size ≤ 100000 := partS_size _ _ (by decide) (by simp) (fun x hx => by simp at hx; subst hx; exact ht)
  have z4 : (joinS (partS kSaved m.saved)).size ≤ 100000 := partS_size _ _ (by decide) hs hv
  clear hr ht ha hv hl hs HM0
  generalize joinS (partS kMachine [m.regs]) = p1 at *
  generalize joinS (partS kArgs m.args) = p2 at *
  generalize joinS (partS kRet [m.ret]) = p3 at *
  generalize joinS (partS kSaved m.saved) = p4 at *
  have CJ : Hid (∀ W, Below A.heap.size A W → Calls Tryz.prog 43 #[.slice (some ⟨W.heap.size, 0, none⟩) 4 4, .string ⟨#[32]⟩] (W.alloc (.cells #[.string p1, .string p2, .string p3, .string p4] 9)) fun e w' => e = .returned (.string (joinS [p1, p2, p3, p4])) ∧ Below A.heap.size A w') := fun W h =>
    (joinO [p1, p2, p3, p4] (.slice (some ⟨W.heap.size, 0, none⟩) 4 4) _ W.heap.size 100000 (World.ownsRow_lit W #[.string p1, .string p2, .string p3, .string p4] 4 (Nat.le_refl _) (by simp [maxLen]) rfl) (by simp) (by simp) (by omega) (by
      intro y hy
      simp only [List.mem_cons, List.not_mem_nil, or_false] at hy
      rcases hy with rfl | rfl | rfl | rfl <;> assumption)).mono fun e w' ⟨h1, h2⟩ => ⟨h1, (belM_alloc h _).trans (h2.mono (belM_alloc h _).size)⟩
  have zJ : (joinS [p1, p2, p3, p4]).size ≤ 1000000 := by
    have := joinS_size [p1, p2, p3, p4] 100000 (by
      intro y hy
      simp only [List.mem_cons, List.not_mem_nil, or_false] at hy
      rcases hy with rfl | rfl | rfl | rfl <;> assumption)
    simp only [List.length_cons, List.length_nil] at this
    omega
  have hb0 := (Below.refl A.heap.size A).drew
  clear z1 z2 z3 z4
  generalize joinS [p1, p2, p3, p4] = q at *
  have hq1 : ¬ (9223372036854775807 < q.size + 1) := by omega
  have hq2 : ¬ (9223372036854775806 < q.size) := by omega
  have hq3 : ¬ (9223372036854775807 ≤ q.size) := by omega
  have hadd : ∀ w, (Op.stringOp .add q ⟨#[10]⟩).run Tryz.prog w = .ok (.string (q ++ ⟨#[10]⟩)) w := fun w => run_string_add_sum w q ⟨#[10]⟩ (by show q.size + 1 ≤ _; omega)
  go_cut [2] from 3 to 20 (fun v W => v = .string m.textS ∧ Below A.heap.size A W)
  case first =>
    go_region_held3 (fun W => Below A.heap.size A W ∧ W.cell? ⟨w.heap.size, 0, none⟩ = some (.int .i64 m.regs) ∧ W.cell? ⟨w.heap.size, 1, none⟩ = some (.slice aa m.args.length ac) ∧ W.cell? ⟨w.heap.size, 2, none⟩ = some (.int .i64 m.ret) ∧ W.cell? ⟨w.heap.size, 3, none⟩ = some (.slice sa m.saved.length sc))
      (first | (refine HS.out _ ?_; (repeat (first | with_reducible apply belM_alloc | with_reducible apply belM_drew)); (first | exact Below.refl _ _ | assumption)))
      (first
        | (go_at_call 44; have hq := hW13; refine (C4.out _ (by go_split_ands; assumption)).mono ?_; rintro e w16 ⟨rfl, hb16, hW16⟩)
        | (go_at_call 44; have hq := hW9; refine (C3.out _ _ (by go_split_ands; assumption) (by (repeat (with_reducible apply intsW_drew)); first | exact one_reg _ _ | exact one_regN _ _ _ (by simp) | (refine IntsW.below ?_ hW9.out; (repeat (with_reducible apply intsW_drew)); first | exact one_reg _ _ | exact one_regN _ _ _ (by simp) | (refine intsW_alloc ?_ _; (repeat (with_reducible apply intsW_drew)); first | exact one_reg _ _ | exact one_regN _ _ _ (by simp)) | (refine IntsW.below ?_ hW6.out; (repeat (with_reducible apply intsW_drew)); first | exact one_reg _ _ | exact one_regN _ _ _ (by simp) | (refine intsW_alloc ?_ _; (repeat (with_reducible apply intsW_drew)); first | exact one_reg _ _ | exact one_regN _ _ _ (by simp)))))).mono ?_; rintro e w13 ⟨rfl, hb13, hW13⟩)
        | (go_at_call 44; have hq := hW6; refine (C2.out _ (by go_split_ands; assumption)).mono ?_; rintro e w9 ⟨rfl, hb9, hW9⟩)
        | (go_at_call 44; refine (C1.out _ _ (by go_split_ands; assumption) (by (repeat (with_reducible apply intsW_drew)); first | exact one_reg _ _ | exact one_regN _ _ _ (by simp) | (refine intsW_alloc ?_ _; (repeat (with_reducible apply intsW_drew)); first | exact one_reg _ _ | exact one_regN _ _ _ (by simp)))).mono ?_; rintro e w6 ⟨rfl, hb6, hW6⟩)
        | (go_at_call 43; refine (CJ.out _ (by go_split_ands; assumption)).mono ?_; rintro e w18 ⟨rfl, hb18⟩))
    all_goals (
      go_wp2_with fail
      go_meet
      exact ⟨by rw [HT.out], hb18⟩)
  case rest =>
    obtain ⟨rfl, hbc⟩ := hcut
    clear C1 C2 C3 C4 CJ HS HX0
    go_wp2
    go_ret
    exact ⟨rfl, HB0.out.trans (hbc.mono HB0.out.size)⟩

def Mm.printS (m : Mm) : ByteArray := if m.rightB then m.textS else ⟨#[]⟩
def Mm.printE (m : Mm) : Int := if m.rightB then 0 else 2
theorem print_right {m : Mm} (h : m.rightB = true) : m.printS = m.textS ∧ m.printE = 0 := by
  unfold Mm.printS Mm.printE
  simp [h]
theorem print_wrong {m : Mm} (h : m.rightB = false) : m.printS = ⟨#[]⟩ ∧ m.printE = 2 := by
  unfold Mm.printS Mm.printE
  simp [h]
theorem right_small {m : Mm} (h : m.rightB = true) : m.args.length ≤ 64 ∧ m.saved.length ≤ 64 ∧ (0 ≤ m.regs ∧ m.regs < 100) ∧ (0 ≤ m.ret ∧ m.ret < 100) ∧ (∀ x ∈ m.args, 0 ≤ x ∧ x < 100) ∧ (∀ x ∈ m.saved, 0 ≤ x ∧ x < 100) := by
  have hi := (right_iff m).1 h
  have hr := hi.small
  simp only [Mm.smallB, Bool.and_eq_true, decide_eq_true_eq] at hr
  have reg : ∀ x, m.regB x = true → 0 ≤ x ∧ x < 100 := fun x hx => by
    simp only [Mm.regB, Bool.and_eq_true, decide_eq_true_eq] at hx
    omega
  refine ⟨by omega, by omega, by omega, reg _ hi.ret, fun x hx => reg x ?_, fun x hx => reg x ?_⟩
  · exact List.all_eq_true.1 hi.args x hx
  · exact List.all_eq_true.1 hi.saved x hx

set_option maxHeartbeats 2000000 in
set_option maxRecDepth 100000 in
theorem printM_any (m : Mm) (aa sa : Option Addr) (ac sc : Nat) (w : World) (hl : m.args.length ≤ 140737488355328) (hs : m.saved.length ≤ 140737488355328) (hM : MaW w m aa sa) :
    Calls Tryz.prog 7 #[machV m aa ac sa sc] w fun e w' => e = .returned (.tuple #[.string m.printS, .int .i64 m.printE]) ∧ Below w.heap.size w w' := by
  have HB0 : Hid (Below w.heap.size w (w.alloc (.cells (maxC m aa ac sa sc) 24))) := (Below.refl _ w).alloc (Nat.le_refl _) _
  have HX0 : Hid (Blk (w.alloc (.cells (maxC m aa ac sa sc) 24)) w.heap.size 24 (maxC m aa ac sa sc)) := Blk.new w _ _
  have HR := Lib.hid (rightM_any m aa sa ac sc (w.alloc (.cells (maxC m aa ac sa sc) 24)) hl hs (hM.below HB0.out))
  have HW := Lib.hid hM
  have HM : Hid (maxC m aa ac sa sc = _) := maxC.eq_1 m aa ac sa sc
  unfold machV at HR ⊢
  clear hM
  rw [HM.out] at HB0 HX0 HR ⊢
  cases hr : m.rightB
  · have HE := Lib.hid (print_wrong hr)
    rw [hr] at HR
    clear hr
    go_enter Tryz.func7, Tryz.ntmps7
    go_wp2_with fail
    refine HR.out.mono ?_
    rintro e w1 ⟨rfl, hb⟩
    have HB1 : Hid (Below w.heap.size w w1) := HB0.out.trans (hb.mono HB0.out.size)
    clear hb
    go_wp2
    go_ret2
    exact ⟨by rw [HE.out.1, HE.out.2]; rfl, HB1.out⟩
  · have HE := Lib.hid (print_right hr)
    obtain ⟨b1, b2, b3, b4, b5, b6⟩ := right_small hr
    rw [hr] at HR
    have HN := Lib.hid (⟨b5, b6⟩ : (∀ x ∈ m.args, 0 ≤ x ∧ x < 100) ∧ (∀ x ∈ m.saved, 0 ≤ x ∧ x < 100))
    clear hr b5 b6
    go_enter Tryz.func7, Tryz.ntmps7
    go_wp2_with fail
    refine HR.out.mono ?_
    rintro e w1 ⟨rfl, hb⟩
    obtain ⟨c0, c1, c2, c3⟩ := boxMa (m := m) (aa := aa) (sa := sa) (ac := ac) (sc := sc) (HX0.out.below hb HX0.out.lt)
    have HB1 : Hid (Below w.heap.size w w1) := HB0.out.trans (hb.mono HB0.out.size)
    have HS := Lib.hid (textOf_any m aa sa ac sc w1 b1 b2 b3 b4 HN.out.1 HN.out.2 (HW.out.below HB1.out))
    unfold machV at HS
    rw [HM.out] at HS
    clear hb HR HX0 HB0
    go_wp2_with fail
    refine HS.out.mono ?_
    rintro e w2 ⟨rfl, hb⟩
    have HB2 : Hid (Below w.heap.size w w2) := HB1.out.trans (hb.mono HB1.out.size)
    clear hb
    go_wp2
    go_ret2
    exact ⟨by rw [HE.out.1, HE.out.2]; rfl, HB2.out⟩
end Go.Proofs.YtkfplffcegbdfaaGreatDoor
