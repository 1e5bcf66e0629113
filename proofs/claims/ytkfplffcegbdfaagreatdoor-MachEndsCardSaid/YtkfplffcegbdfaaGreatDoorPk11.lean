/-
  Package mach's IsSaved. No condition beyond those that each theorem states.
  The chapter's example of a machine is told as it says. No condition beyond those that each theorem states.
-/
import Derived.Test.YtkfplffcegbdfaaGreatDoorMaK
import Derived.Test.YtkfplffcegbdfaaGreatDoorPk5
import Derived.Deep.QuietTactic
import Derived.BigQuiet
import Derived.Test.YtkfplffcegbdfaaGreatDoorMaO
namespace Go.Proofs.YtkfplffcegbdfaaGreatDoor
open Go.RowKit

set_option maxHeartbeats 1000000 in
set_option maxRecDepth 100000 in
theorem indexI_any (l : List Int) (v : Int) (a : Option Addr) (c : Nat) (w : World) (hl : l.length ≤ 140737488355328) (hI : IntsW w a l) :
    Calls Tryz.prog 47 #[.slice a l.length c, .int .i64 v] w fun e w' => (∃ n : Int, e = .returned (.int .i64 n) ∧ decide (0 ≤ n) = l.contains v) ∧ w = w' := by
  have HI := Lib.hid hI
  clear hI
  go_enter Tryz.func47, Tryz.ntmps47
  go_wp2
  go_loopw [8] (fun k wr => ∃ j : Nat, k = .int .i64 j ∧ j ≤ l.length ∧ Hid (l.contains v = (l.drop j).contains v) ∧ w = wr) (fun k _ => l.length - (intOf k).toNat)
  case atStart => exact ⟨0, rfl, Nat.zero_le _, rfl, rfl⟩
  case round =>
    obtain ⟨j, rfl, hj, HA, rfl⟩ := hrel
    by_cases hlt : j < l.length
    · have hlt' : (j : Int) < l.length := by omega
      have hj0 : (0 : Int) ≤ j := by omega
      obtain ⟨x, hx⟩ : ∃ x, l[j]? = some x := ⟨_, List.getElem?_eq_getElem hlt⟩
      obtain ⟨g, o, rfl, hg, h0⟩ := HI.out j x hx
      have HD : Hid (l.contains v = (v == x || (l.drop (j + 1)).contains v)) := by
        show _ = _
        rw [HA.out, List.drop_eq_getElem_cons hlt, (List.getElem?_eq_some_iff.1 hx).2]
        rw [List.contains_cons]
      clear hx HA
      cases hq : v == x
      · rw [hq] at HD
        go_wp2
        go_roundw
        case rel => exact ⟨j + 1, by go_num, by omega, by have := HD.out; simpa [Hid] using this, trivial⟩
        case measure => simp [intOf]; omega
      · rw [hq] at HD
        go_wp2
        go_ret
        exact ⟨⟨j, rfl, by rw [HD.out]; simp⟩, rfl⟩
    · have e : j = l.length := by omega
      subst e
      go_wp2
      go_ret
      exact ⟨⟨-1, rfl, by rw [HA.out]; simp⟩, rfl⟩
set_option maxRecDepth 100000 in
theorem containsI_any (l : List Int) (v : Int) (a : Option Addr) (c : Nat) (w : World) (hl : l.length ≤ 140737488355328) (hI : IntsW w a l) :
    Calls Tryz.prog 35 #[.slice a l.length c, .int .i64 v] w fun e w' => e = .returned (.bool (l.contains v)) ∧ w = w' := by
  go_enter Tryz.func35, Tryz.ntmps35
  go_wp2_with fail
  refine (indexI_any l v a c w hl hI).mono ?_
  rintro e w1 ⟨⟨n, rfl, hn⟩, rfl⟩
  have HN := Lib.hid hn
  clear hn
  go_wp2
  go_ret
  exact ⟨by rw [← HN.out]; rfl, rfl⟩
/-- What IsSaved tells at this commit. -/
def Mm.isSavedB (m : Mm) (r : Int) : Bool := m.saved.contains r
theorem saved_of {m : Mm} {r : Int} (_h : m.rightB = true) (hr : m.saved.contains r = true) : m.isSavedB r = true := hr
theorem saved_not {m : Mm} {r : Int} (hr : m.saved.contains r = false) : m.isSavedB r = false := hr
set_option maxHeartbeats 2000000 in
set_option maxRecDepth 100000 in
theorem isSaved_any (m : Mm) (aa sa : Option Addr) (ac sc : Nat) (r : Int) (w : World) (_hl : m.args.length ≤ 140737488355328) (hs : m.saved.length ≤ 140737488355328) (hM : MaW w m aa sa) :
    Calls Tryz.prog 12 #[machV m aa ac sa sc, .int .i64 r] w fun e w' => e = .returned (.bool (m.isSavedB r)) ∧ Below w.heap.size w w' := by
  have HB0 : Hid (Below w.heap.size w (w.alloc (.cells (maxC m aa ac sa sc) 24))) := (Below.refl _ w).alloc (Nat.le_refl _) _
  have HX0 : Hid (Blk (w.alloc (.cells (maxC m aa ac sa sc) 24)) w.heap.size 24 (maxC m aa ac sa sc)) := Blk.new w _ _
  have HC := Lib.hid (containsI_any m.saved r sa sc (w.alloc (.cells (maxC m aa ac sa sc) 24)) hs (hM.saved.below HB0.out))
  obtain ⟨c0, c1, c2, c3⟩ := boxMa (m := m) (aa := aa) (sa := sa) (ac := ac) (sc := sc) HX0.out
  have HM : Hid (maxC m aa ac sa sc = _) := maxC.eq_1 m aa ac sa sc
  have HE : Hid (m.isSavedB r = m.saved.contains r) := rfl
  generalize m.isSavedB r = res at *
  obtain ⟨cb, hcb⟩ : ∃ cb, m.saved.contains r = cb := ⟨_, rfl⟩
  rw [hcb] at HC HE
  unfold machV
  clear hM HX0 hcb
  rw [HM.out] at HB0 HC c0 c1 c2 c3 ⊢
  go_enter Tryz.func12, Tryz.ntmps12
  go_wp2_with fail
  refine HC.out.mono ?_
  rintro e w1 ⟨rfl, rfl⟩
  go_wp2
  go_ret
  exact ⟨by rw [HE.out]; rfl, HB0.out⟩
end Go.Proofs.YtkfplffcegbdfaaGreatDoor
namespace Go.Proofs.YtkfplffcegbdfaaGreatDoor
open Go.RowKit

def exM : ByteArray := ⟨#[109, 97, 99, 104, 105, 110, 101, 32, 52, 32, 97, 114, 103, 115, 32, 48, 32, 49, 32, 114, 101, 116, 32, 48, 32, 115, 97, 118, 101, 100, 32, 50, 32, 51]⟩
theorem exM_tells : toldE (startC exM) = 0 ∧ (toldM (startC exM)).regs = 4 ∧ (toldM (startC exM)).args = [0, 1] ∧ (toldM (startC exM)).ret = 0 ∧ (toldM (startC exM)).saved = [2, 3] := by decide +kernel
def exK : Mm := ⟨4, [0, 1], 0, [2, 3]⟩
theorem exM_is : toldM (startC exM) = exK := by
  obtain ⟨_, h1, h2, h3, h4⟩ := exM_tells
  cases hq : toldM (startC exM)
  rw [hq] at h1 h2 h3 h4
  simp only at h1 h2 h3 h4
  subst h1 h2 h3 h4
  rfl
theorem exK_right : exK.rightB = true ∧ exK.lostL = [0, 1] ∧ exK.isSavedB 3 = true ∧ exK.keepsL.length = 2 := by decide +kernel
set_option maxHeartbeats 4000000 in
set_option maxRecDepth 100000 in
theorem awakeM_any (w : World) : Calls Tryz.prog 5 #[] w fun e w' => e = .returned (.bool true) ∧ Below w.heap.size w w' := by
  have P : Hid (Calls Tryz.prog 24 #[.string exM] w fun e w' => ∃ aa ac sa sc, e = .returned (.tuple #[machV exK aa ac sa sc, .int .i64 0]) ∧ MaW w' exK aa sa ∧ Below w.heap.size w w') := by
    refine (parseM_any exM w (by decide)).mono ?_
    rintro e w' ⟨aa, ac, sa, sc, h1, h2, h3⟩
    rw [exM_is, exM_tells.1] at h1
    rw [exM_is] at h2
    exact ⟨aa, ac, sa, sc, h1, ⟨IntsW.own h2.1, IntsW.own h2.2⟩, h3⟩
  have MV : ∀ aa ac sa sc, machV exK aa ac sa sc = .agg #[.int .i64 4, .slice aa 2 ac, .int .i64 0, .slice sa 2 sc] := fun _ _ _ _ => rfl
  obtain ⟨k1, k2, k3, k4⟩ := exK_right
  have R : Hid (∀ aa ac sa sc w1, MaW w1 exK aa sa → Calls Tryz.prog 10 #[.agg #[.int .i64 4, .slice aa 2 ac, .int .i64 0, .slice sa 2 sc]] w1 fun e w' => e = .returned (.bool true) ∧ Below w1.heap.size w1 w') := fun aa ac sa sc w1 h => by
    have := rightM_any exK aa sa ac sc w1 (by decide) (by decide) h
    rw [k1] at this
    exact this
  have L : Hid (∀ aa ac sa sc w1, MaW w1 exK aa sa → Calls Tryz.prog 9 #[.agg #[.int .i64 4, .slice aa 2 ac, .int .i64 0, .slice sa 2 sc]] w1 fun e w' => ∃ a c, e = .returned (.slice a 2 c) ∧ IntsW w' a [0, 1] ∧ Below w1.heap.size w1 w') := fun aa ac sa sc w1 h => by
    refine (lost_any exK aa sa ac sc w1 (by decide) (by decide) h).mono ?_
    rintro e w' ⟨a, c, h1, h2, h3⟩
    rw [k2] at h1 h2
    exact ⟨a, c, h1, IntsW.own h2, h3⟩
  have I : Hid (∀ aa ac sa sc w1, MaW w1 exK aa sa → Calls Tryz.prog 12 #[.agg #[.int .i64 4, .slice aa 2 ac, .int .i64 0, .slice sa 2 sc], .int .i64 3] w1 fun e w' => e = .returned (.bool true) ∧ Below w1.heap.size w1 w') := fun aa ac sa sc w1 h => by
    have := isSaved_any exK aa sa ac sc 3 w1 (by decide) (by decide) h
    rw [k3] at this
    exact this
  have K : Hid (∀ aa ac sa sc w1, MaW w1 exK aa sa → Calls Tryz.prog 17 #[.agg #[.int .i64 4, .slice aa 2 ac, .int .i64 0, .slice sa 2 sc]] w1 fun e w' => ∃ a c, e = .returned (.slice a 2 c) ∧ Below w1.heap.size w1 w') := fun aa ac sa sc w1 h => by
    refine (keeps_any exK aa sa ac sc w1 (by decide) (by decide) h).mono ?_
    rintro e w' ⟨a, c, h1, h2, h3⟩
    rw [k4] at h1
    exact ⟨a, c, h1, h3⟩
  have S : Hid (∀ a c W w1, Below (World.alloc W (.cells #[.int .i64 0, .int .i64 1] 3)).heap.size (World.alloc W (.cells #[.int .i64 0, .int .i64 1] 3)) w1 → IntsW w1 a [0, 1] → Calls Tryz.prog 14 #[.slice a 2 c, .slice (some ⟨W.heap.size, 0, none⟩) 2 2] w1 fun e w' => e = .returned (.bool true) ∧ Below w1.heap.size w1 w') := fun a c W w1 hb h => by
    have hI : IntsW (W.alloc (.cells #[.int .i64 0, .int .i64 1] 3)) (some ⟨W.heap.size, 0, none⟩) [0, 1] := IntsW.row (Blk.new W _ _) (fun k x hx => by
      rcases k with _ | _ | k
      · simpa using hx
      · simpa using hx
      · simp at hx)
    exact sameInts_any [0, 1] [0, 1] a _ c 2 w1 (by simp) (by simp) h (hI.below hb)
  simp only [MV] at P
  unfold exM at P
  clear MV k1 k2 k3 k4
  go_enter Tryz.func5, Tryz.ntmps5
  go_wp2_with fail
  refine P.out.mono ?_
  rintro e w1 ⟨aa, ac, sa, sc, rfl, hm, hb1⟩
  have B1 := Lib.hid hb1
  have hb2 : Below w1.heap.size w1 (w1.alloc (.cells #[.int .i64 4, .slice aa 2 ac, .int .i64 0, .slice sa 2 sc] 24)) := (Below.refl _ _).alloc (Nat.le_refl _) _
  have M2 := Lib.hid (hm.below hb2)
  have B2 : Hid (Below w.heap.size w (w1.alloc (.cells #[.int .i64 4, .slice aa 2 ac, .int .i64 0, .slice sa 2 sc] 24))) := B1.out.trans (hb2.mono B1.out.size)
  have X2 : Hid (Blk (w1.alloc (.cells #[.int .i64 4, .slice aa 2 ac, .int .i64 0, .slice sa 2 sc] 24)) w1.heap.size 24 #[.int .i64 4, .slice aa 2 ac, .int .i64 0, .slice sa 2 sc]) := Blk.new w1 _ _
  clear hm hb1 hb2 B1 P
  go_wp2_with fail
  refine (R.out aa ac sa sc _ M2.out).mono ?_
  rintro e w3 ⟨rfl, hb3⟩
  have B3 : Hid (Below w.heap.size w w3) := B2.out.trans (hb3.mono B2.out.size)
  have M3 := Lib.hid (M2.out.below hb3)
  have X3 : Hid (Blk w3 w1.heap.size 24 #[.int .i64 4, .slice aa 2 ac, .int .i64 0, .slice sa 2 sc]) := X2.out.below hb3 X2.out.lt
  have c0 := X3.out.cell 0
  have c1 := X3.out.cell 1
  have c2 := X3.out.cell 2
  have c3 := X3.out.cell 3
  clear hb3 B2 M2 X2 R
  go_wp2_with fail
  refine (L.out aa ac sa sc _ M3.out).mono ?_
  rintro e w4 ⟨la, lc, rfl, hli, hb4⟩
  have B4 : Hid (Below w.heap.size w w4) := B3.out.trans (hb4.mono B3.out.size)
  have M4 := Lib.hid (M3.out.below hb4)
  have X4 : Hid (Blk w4 w1.heap.size 24 #[.int .i64 4, .slice aa 2 ac, .int .i64 0, .slice sa 2 sc]) := X3.out.below hb4 X3.out.lt
  have hb5 : Below w4.heap.size w4 (w4.alloc (.cells #[.int .i64 0, .int .i64 1] 3)) := (Below.refl _ _).alloc (Nat.le_refl _) _
  have SS := Lib.hid (S.out la lc w4 _ (Below.refl _ _) (hli.below hb5))
  clear hb4 B3 M3 X3 L hli c0 c1 c2 c3
  go_wp2_with fail
  refine SS.out.mono ?_
  rintro e w6 ⟨rfl, hb6⟩
  have hb7 := hb5.trans (hb6.mono hb5.size)
  have B6 : Hid (Below w.heap.size w w6) := B4.out.trans (hb7.mono B4.out.size)
  have M6 := Lib.hid (M4.out.below hb7)
  have X6 : Hid (Blk w6 w1.heap.size 24 #[.int .i64 4, .slice aa 2 ac, .int .i64 0, .slice sa 2 sc]) := X4.out.below hb7 X4.out.lt
  have c0 := X6.out.cell 0
  have c1 := X6.out.cell 1
  have c2 := X6.out.cell 2
  have c3 := X6.out.cell 3
  clear hb6 hb7 hb5 B4 M4 X4 SS S
  go_wp2_with fail
  refine (I.out aa ac sa sc _ M6.out).mono ?_
  rintro e w8 ⟨rfl, hb8⟩
  have B8 : Hid (Below w.heap.size w w8) := B6.out.trans (hb8.mono B6.out.size)
  have M8 := Lib.hid (M6.out.below hb8)
  have X8 : Hid (Blk w8 w1.heap.size 24 #[.int .i64 4, .slice aa 2 ac, .int .i64 0, .slice sa 2 sc]) := X6.out.below hb8 X6.out.lt
  clear hb8 B6 M6 X6 I c0 c1 c2 c3
  have c0 := X8.out.cell 0
  have c1 := X8.out.cell 1
  have c2 := X8.out.cell 2
  have c3 := X8.out.cell 3
  go_wp2_with fail
  refine (K.out aa ac sa sc _ M8.out).mono ?_
  rintro e w9 ⟨ka, kc, rfl, hb9⟩
  have B9 : Hid (Below w.heap.size w w9) := B8.out.trans (hb9.mono B8.out.size)
  clear hb9 B8 M8 X8 K c0 c1 c2 c3
  go_wp2
  go_ret
  exact ⟨rfl, B9.out⟩
end Go.Proofs.YtkfplffcegbdfaaGreatDoor
