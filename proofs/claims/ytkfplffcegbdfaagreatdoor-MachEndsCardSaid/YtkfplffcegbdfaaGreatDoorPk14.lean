/-
  The document's cursor: names, numbers, ends, signs, and where it is broken. No condition beyond those that each theorem states.
  The document's tests on a rune answer what the plain functions say. No condition beyond those that each theorem states.
-/
import Derived.Test.YtkfplffcegbdfaaGreatDoorRCur2
import Derived.Test.YtkfplffcegbdfaaGreatDoorLeaf
import Derived.Test.YtkfplffcegbdfaaGreatDoorPk6
import Derived.Lib.Hide
namespace Go.Proofs.YtkfplffcegbdfaaGreatDoor
open Go.RowKit

set_option maxHeartbeats 1000000 in
set_option maxRecDepth 100000 in
theorem numR_any (g : Nat) (c : Cu) (least most : Int) (w : World) (h : CurR w g c) (hok : c.Ok) : Calls Tryz.prog 67 #[.pointer (some ⟨g, 0, none⟩), .int .i64 least, .int .i64 most] w fun e w' => e = .returned (.int .i64 (c.numN least most)) ∧ CurR w' g (c.num least most) ∧ Keep w.heap.size g w w' := by
  have M := Lib.hid (moreR_any g c w h hok)
  have FL := Lib.hid (fun ee => failR_any g c ee w h hok)
  cases hle : c.left with
  | nil =>
    have hm : c.more = false := by simp [Cu.more, hle]
    have he : c.numN least most = 0 := by simp [Cu.numN, numP, hle]
    have hn : c.num least most = c.fail 7 := by simp [Cu.num, numP, hle]
    rw [hm] at M
    rw [he, hn]
    clear h hok hle hm he hn
    go_enter Tryz.func67, Tryz.ntmps67
    go_wp2_with fail
    refine M.out.mono ?_
    rintro e w1 ⟨rfl, rfl⟩
    go_wp2_with fail
    refine (FL.out 7).mono ?_
    rintro e w1 ⟨rfl, h1, k1⟩
    have H1 := Lib.hid h1
    have K1 := Lib.hid k1
    clear h1 k1
    go_wp2
    go_ret
    exact ⟨rfl, H1.out, K1.out⟩
  | cons x r =>
    have hm : c.more = true := by simp [Cu.more, hle]
    rw [hm] at M
    obtain ⟨hf, gg, o, cap, hb, hl, hmx, hr, hgg, n0, n1, n2, n3, n4⟩ := h.some_ hok hle
    have m0 : w.cell? ⟨g, 0, none⟩ = some (.slice (some ⟨gg, o, none⟩) (r.length + 1) cap) := hb.cell 0
    have f0 := hb.free 0
    have hp : (0 : Int) < r.length + 1 := by omega
    have P := CurR.pass_ hb hf hle hl hmx hr
    by_cases hk : x.k = 2
    · have q : (x.k != 2) = false := by simp [hk]
      by_cases h1 : x.n < least
      · have he : c.numN least most = 0 := by simp [Cu.numN, Cu.numFits, numP, hle, hk]; omega
        have hn : c.num least most = c.fail 3 := by simp [Cu.num, Cu.numFits, numP, hle, hk]; omega
        rw [he, hn]
        have q1 : decide (x.n < least) = true := decide_eq_true h1
        clear h hok hle hm hf hb hr he hn hk n1 n3 n4 P h1
        go_enter Tryz.func67, Tryz.ntmps67
        go_wp2_with fail
        refine M.out.mono ?_
        rintro e w1 ⟨rfl, rfl⟩
        go_wp2_with fail
        refine (FL.out 3).mono ?_
        rintro e w1 ⟨rfl, h1, k1⟩
        have H1 := Lib.hid h1
        have K1 := Lib.hid k1
        clear h1 k1
        go_wp2
        go_ret
        exact ⟨rfl, H1.out, K1.out⟩
      have q1 : decide (x.n < least) = false := decide_eq_false h1
      by_cases h2 : most < x.n
      · have he : c.numN least most = 0 := by simp [Cu.numN, Cu.numFits, numP, hle, hk]; omega
        have hn : c.num least most = c.fail 3 := by simp [Cu.num, Cu.numFits, numP, hle, hk]; omega
        rw [he, hn]
        have q2 : decide (most < x.n) = true := decide_eq_true h2
        clear h hok hle hm hf hb hr he hn hk n1 n3 n4 P h1 h2
        go_enter Tryz.func67, Tryz.ntmps67
        go_wp2_with fail
        refine M.out.mono ?_
        rintro e w1 ⟨rfl, rfl⟩
        go_wp2_with fail
        refine (FL.out 3).mono ?_
        rintro e w1 ⟨rfl, h1, k1⟩
        have H1 := Lib.hid h1
        have K1 := Lib.hid k1
        clear h1 k1
        go_wp2
        go_ret
        exact ⟨rfl, H1.out, K1.out⟩
      have q2 : decide (most < x.n) = false := decide_eq_false h2
      have he : c.numN least most = x.n := by simp [Cu.numN, Cu.numFits, numP, hle, hk]; omega
      have hn : c.num least most = c.pass := by simp [Cu.num, Cu.numFits, numP, hle, hk]; omega
      rw [he, hn]
      clear he hn hk FL n1 h1 h2
      by_cases hc : cap = 1
      · obtain ⟨hr0, P1⟩ := P.1 hc
        have HP := Lib.hid P1
        subst hc hr0
        clear h hok hle hm hf hb hr n3 n4 P P1 hl
        go_enter Tryz.func67, Tryz.ntmps67
        go_wp2_with fail
        refine M.out.mono ?_
        rintro e w1 ⟨rfl, rfl⟩
        go_wp2
        go_ret
        exact ⟨rfl, (HP.out _).1, (HP.out _).2⟩
      · have HP := Lib.hid (P.2 hc)
        have hc1 : (1 : Int) ≤ cap := by omega
        clear h hok hle hm hf hb hr n3 n4 P
        go_enter Tryz.func67, Tryz.ntmps67
        go_wp2_with fail
        refine M.out.mono ?_
        rintro e w1 ⟨rfl, rfl⟩
        go_wp2
        go_ret
        exact ⟨rfl, HP.out.1, HP.out.2⟩
    · have he : c.numN least most = 0 := by simp [Cu.numN, numP, hle, hk]
      have hn : c.num least most = c.fail 7 := by simp [Cu.num, numP, hle, hk]
      rw [he, hn]
      have q : (x.k != 2) = true := by simp [hk]
      clear h hok hle hm hf hb hr he hn hk n1 n2 n3 n4 P
      go_enter Tryz.func67, Tryz.ntmps67
      go_wp2_with fail
      refine M.out.mono ?_
      rintro e w1 ⟨rfl, rfl⟩
      go_wp2_with fail
      refine (FL.out 7).mono ?_
      rintro e w1 ⟨rfl, h1, k1⟩
      have H1 := Lib.hid h1
      have K1 := Lib.hid k1
      clear h1 k1
      go_wp2
      go_ret
      exact ⟨rfl, H1.out, K1.out⟩
/-- What is broken stays so. -/
theorem mark_broken {c : Cu} (h : c.Ok) (hf : c.fault ≠ 0) : ∀ l : List ByteArray, c.mark l = c := by
  intro l
  cases l with
  | nil => rfl
  | cons s r =>
    have e : c.isB s = false := by unfold Cu.isB; rw [h.gone hf]; rfl
    unfold Cu.mark
    rw [e]
    exact fail_same (.inr hf)
theorem mark_step {c : Cu} (h : c.Ok) (s : ByteArray) (r : List ByteArray) : c.mark (s :: r) = (if c.isB s then c.is s else c.fail 7).mark r := by
  rw [Cu.mark]
  cases hb : c.isB s
  · simp only [Bool.false_eq_true, if_false]
    by_cases hf : c.fault = 0
    · rw [mark_broken (h.fail 7)]
      rw [fail_form (by decide) hf]
      show (7 : Int) ≠ 0
      decide
    · rw [fail_same (.inr hf), mark_broken h hf]
  · rfl
set_option maxRecDepth 100000 in
theorem errR_any (g : Nat) (c : Cu) (w : World) (h : CurR w g c) (hok : c.Ok) : Calls Tryz.prog 69 #[.pointer (some ⟨g, 0, none⟩)] w fun e w' => e = .returned (.tuple #[.int .i64 c.eLine, .int .i64 c.eCol, .int .i64 c.eErr]) ∧ Below w.heap.size w w' := by
  by_cases hf : c.fault = 0
  · cases hle : c.left with
    | nil =>
      have E : Hid (c.eLine = 0 ∧ c.eCol = 0 ∧ c.eErr = 0) := by refine ⟨?_, ?_, ?_⟩ <;> simp [Cu.eLine, Cu.eCol, Cu.eErr, hf, hle]
      rw [E.out.1, E.out.2.1, E.out.2.2]
      rcases h.none_ hle with ⟨_, a, cap, m0, m1⟩ | ⟨hf', _⟩
      · clear h hok hf hle E
        go_enter Tryz.func69, Tryz.ntmps69
        go_wp2
        go_ret3
        exact ⟨rfl, Below.refl _ _⟩
      · exact absurd hf hf'
    | cons x r =>
      have E : Hid (c.eLine = x.l ∧ c.eCol = x.c ∧ c.eErr = 7) := by refine ⟨?_, ?_, ?_⟩ <;> simp [Cu.eLine, Cu.eCol, Cu.eErr, hf, hle]
      rw [E.out.1, E.out.2.1, E.out.2.2]
      obtain ⟨hf', gg, o, cap, hb, hl, hmx, hr, hgg, n0, n1, n2, n3, n4⟩ := h.some_ hok hle
      have m0 : w.cell? ⟨g, 0, none⟩ = some (.slice (some ⟨gg, o, none⟩) (r.length + 1) cap) := hb.cell 0
      have m1 : w.cell? ⟨g, 1, none⟩ = some (.int .i64 0) := hb.cell 1
      have hp : (0 : Int) < r.length + 1 := by omega
      clear h hok hf hle E hf' hb hr n0 n1 n2
      go_enter Tryz.func69, Tryz.ntmps69
      go_wp2_with fail
      go_quiet (fail)
      go_wp2
      go_ret3
      exact ⟨rfl, below_draws (Below.refl _ _) _⟩
  · have E : Hid (c.eLine = c.line ∧ c.eCol = c.col ∧ c.eErr = c.fault) := by refine ⟨?_, ?_, ?_⟩ <;> simp [Cu.eLine, Cu.eCol, Cu.eErr, hf]
    rw [E.out.1, E.out.2.1, E.out.2.2]
    obtain ⟨a, cap, L, hb, _⟩ := h
    have m1 : w.cell? ⟨g, 1, none⟩ = some (.int .i64 c.fault) := hb.cell 1
    have m2 : w.cell? ⟨g, 2, none⟩ = some (.int .i64 c.line) := hb.cell 2
    have m3 : w.cell? ⟨g, 3, none⟩ = some (.int .i64 c.col) := hb.cell 3
    have q : (c.fault != 0) = true := by simp [hf]
    clear hf E hb hok
    go_enter Tryz.func69, Tryz.ntmps69
    go_wp2_with fail
    go_quiet (fail)
    go_wp2
    go_ret3
    exact ⟨rfl, below_draws (Below.refl _ _) _⟩
end Go.Proofs.YtkfplffcegbdfaaGreatDoor
namespace Go.Proofs.YtkfplffcegbdfaaGreatDoor
open Go.RowKit

theorem within_any (r lo hi : Int) (w : World) : Calls Tryz.prog 147 #[.int .i32 r, .int .i32 lo, .int .i32 hi] w fun e w' => e = .returned (.bool (decide (lo ≤ r ∧ r ≤ hi))) ∧ w = w' := by
  by_cases h : lo ≤ r
  all_goals
    go_enter Tryz.func147, Tryz.ntmps147
    go_wp2
    go_ret
    refine ⟨ret_bool ?_, rfl⟩
    simp
    try omega
theorem rdigit_any (r : Int) (w : World) : Calls Tryz.prog 148 #[.int .i32 r] w fun e w' => e = .returned (.bool (digitB r)) ∧ w = w' := by
  go_enter Tryz.func148, Tryz.ntmps148
  go_wp2_with fail
  refine (within_any _ _ _ _).mono ?_
  rintro e w1 ⟨rfl, rfl⟩
  go_wp2
  go_ret
  refine ⟨ret_bool ?_, rfl⟩
  simp [digitB]
theorem rletter_any (r : Int) (w : World) : Calls Tryz.prog 128 #[.int .i32 r] w fun e w' => e = .returned (.bool (letterB r)) ∧ w = w' := by
  cases h1 : decide (97 ≤ r ∧ r ≤ 122)
  · cases h2 : decide (945 ≤ r ∧ r ≤ 969)
    · go_enter Tryz.func128, Tryz.ntmps128
      go_wp2_with fail
      refine (within_any _ _ _ _).mono ?_
      rintro e w1 ⟨rfl, rfl⟩
      rw [h1]
      go_wp2_with fail
      refine (within_any _ _ _ _).mono ?_
      rintro e w1 ⟨rfl, rfl⟩
      rw [h2]
      go_wp2
      go_ret
      refine ⟨ret_bool ?_, rfl⟩
      simp at h1 h2 ⊢
      simp [letterB]
      omega
    · go_enter Tryz.func128, Tryz.ntmps128
      go_wp2_with fail
      refine (within_any _ _ _ _).mono ?_
      rintro e w1 ⟨rfl, rfl⟩
      rw [h1]
      go_wp2_with fail
      refine (within_any _ _ _ _).mono ?_
      rintro e w1 ⟨rfl, rfl⟩
      rw [h2]
      go_wp2
      go_ret
      refine ⟨ret_bool ?_, rfl⟩
      simp at h1 h2 ⊢
      simp [letterB]
      omega
  · go_enter Tryz.func128, Tryz.ntmps128
    go_wp2_with fail
    refine (within_any _ _ _ _).mono ?_
    rintro e w1 ⟨rfl, rfl⟩
    rw [h1]
    go_wp2
    go_ret
    refine ⟨ret_bool ?_, rfl⟩
    simp at h1 ⊢
    simp [letterB]
    omega
end Go.Proofs.YtkfplffcegbdfaaGreatDoor
