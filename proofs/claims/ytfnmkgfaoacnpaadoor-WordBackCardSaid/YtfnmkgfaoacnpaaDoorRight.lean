/-
  The document's test of a word that may be shown answers what package word's own test answers. No condition beyond those that each theorem states.
-/
import Derived.Test.YtfnmkgfaoacnpaaDoorCan
import Derived.Test.YtfnmkgfaoacnpaaDoorRef2
namespace Go.Proofs.YtfnmkgfaoacnpaaDoor
open Go.RowKit

theorem isSignB_ref (s : ByteArray) : isSignB s = (decide (0 < (atP s 0).2) && decide ((atP s 0).2 = s.size) && signB (atP s 0).1) := by
  have hff : signB ((65533 : Nat) : Int) = false := by decide
  have h0 : signB ((0 : Nat) : Int) = false := by decide
  unfold isSignB Lib.decodeGo atP
  by_cases hs : s.size = 0
  · simp [hs]
    exact hff
  · have hs' : 0 < s.size := by omega
    rw [if_neg hs, if_pos hs']
    by_cases hb : (Utf8.decode s 0).1 = 65533 ∧ (Utf8.decode s 0).2 = 1
    · rw [if_pos hb, hb.1, hff]
      simp
    · rw [if_neg hb]
      have := wide_pos s 0 hs'
      have h1 : decide (0 < (Utf8.decode s 0).2) = true := by simp; omega
      rw [h1, Bool.true_and]
set_option maxHeartbeats 1000000 in
set_option maxRecDepth 100000 in
theorem rright_any (k n l c : Int) (t : ByteArray) (w : World) (hT : Tabs w) (hz : t.size ≤ 10000) : Calls Tryd.prog 23 #[aggW ⟨k, t, n, l, c⟩] w fun e w' => e = .returned (.bool (canB ⟨k, t, n, l, c⟩)) ∧ Below w.heap.size w w' := by
  unfold aggW
  have hb0 := (Below.refl _ w).alloc (Nat.le_refl _) (.cells #[.int .i64 k, .string t, .int .i64 n, .int .i64 l, .int .i64 c] 56)
  have hT1 := hT.below hb0
  have Hb0 := Lib.hid hb0
  have HT1 := Lib.hid hT1
  clear hb0 hT1 hT
  by_cases h1 : k = 1
  · subst h1
    by_cases hn : n = 0
    · subst hn
      go_enter Tryd.func23, Tryd.ntmps23
      go_wp2_with fail
      refine (rname_any t _ hz).mono ?_
      rintro e w1 ⟨rfl, rfl⟩
      have H := Hb0
      go_wp2
      go_ret
      exact ⟨by simp [canB, nameB_same], H.out⟩
    · go_enter Tryd.func23, Tryd.ntmps23
      go_wp2
      go_ret
      exact ⟨by simp [canB, hn], Hb0.out⟩
  by_cases h2 : k = 2
  · subst h2
    by_cases hn : boundB n = true
    · have hn' : -1099511627776 ≤ n ∧ n ≤ 1099511627776 := by simpa [boundB] using hn
      obtain ⟨hn1, hn2⟩ := hn'
      have IT := Lib.hid (fun w h => itoa_any n w h (by omega) (by omega))
      have E : Hid (canB ⟨2, t, n, l, c⟩ = decide (t = ⟨(Lib.itoa n).toArray⟩)) := by show _ = _; simp only [canB]; rw [if_neg (by decide), if_pos trivial, hn, Bool.true_and]
      generalize (⟨(Lib.itoa n).toArray⟩ : ByteArray) = S at *
      clear hn
      have IA0 : Calls Tryd.prog 34 #[.int .i64 n] (w.alloc (.cells #[.int .i64 2, .string t, .int .i64 n, .int .i64 l, .int .i64 c] 56)).drew fun e w' => e = .returned (.string S) ∧ w'.cell? ⟨w.heap.size, 1, none⟩ = some (.string t) ∧ Below w.heap.size w w' := by
        refine (IT.out (World.drew _) (HT1.out.below (Below.refl _ _).drew)).mono ?_
        rintro e w' ⟨rfl, hb⟩
        refine ⟨rfl, cell_below hb ?_, Hb0.out.drew.trans (hb.mono (by simp))⟩
        show (w.alloc (.cells #[.int .i64 2, .string t, .int .i64 n, .int .i64 l, .int .i64 c] 56)).cell? ⟨w.heap.size, 1, none⟩ = _
        simp
      have IA := Lib.hid IA0
      clear IT HT1 IA0
      by_cases ht : t = S
      · have E2 : Hid (canB ⟨2, t, n, l, c⟩ = true) := by show _ = _; rw [E.out]; exact decide_eq_true ht
        subst ht
        clear E
        go_enter Tryd.func23, Tryd.ntmps23
        go_wp2_with fail
        go_region_with (go_at_call 34; refine IA.out.mono ?_; rintro e w1 ⟨rfl, c1, hb1⟩; have H1 := Lib.hid hb1; clear hb1)
        all_goals
          go_wp2
          go_ret
          exact ⟨by rw [E2.out]; rfl, H1.out⟩
      · have E2 : Hid (canB ⟨2, t, n, l, c⟩ = false) := by show _ = _; rw [E.out]; exact decide_eq_false ht
        clear E
        have q := list_ne ht
        go_enter Tryd.func23, Tryd.ntmps23
        go_wp2_with fail
        go_region_with (go_at_call 34; refine IA.out.mono ?_; rintro e w1 ⟨rfl, c1, hb1⟩; have H1 := Lib.hid hb1; clear hb1)
        all_goals
          go_wp2
          go_ret
          refine ⟨?_, H1.out⟩
          rw [E2.out]
          simp [Act.put, q]
    · have hn' : boundB n = false := by simpa using hn
      have E : Hid (canB ⟨2, t, n, l, c⟩ = false) := by show _ = _; simp only [canB]; rw [if_neg (by decide), if_pos trivial, hn', Bool.false_and]
      have hd : ¬ (-1099511627776 ≤ n ∧ n ≤ 1099511627776) := by simpa [boundB] using hn
      clear hn hn'
      by_cases h0 : -1099511627776 ≤ n
      · have h1 : decide (n ≤ 1099511627776) = false := by simp; omega
        clear hd
        go_enter Tryd.func23, Tryd.ntmps23
        go_wp2_with fail
        go_quiet (fail)
        go_wp2
        go_ret
        exact ⟨by rw [E.out]; rfl, below_draws Hb0.out _⟩
      · have h1 : decide (-1099511627776 ≤ n) = false := by simpa using h0
        clear hd h0
        go_enter Tryd.func23, Tryd.ntmps23
        go_wp2_with fail
        go_quiet (fail)
        go_wp2
        go_ret
        exact ⟨by rw [E.out]; rfl, below_draws Hb0.out _⟩
  by_cases h3 : k = 3
  · subst h3
    have AT := Lib.hid (fun w => at_any t 0 w hz)
    by_cases hn : n = 0
    · subst hn
      have E : Hid (canB ⟨3, t, 0, l, c⟩ = (decide (0 < (atP t 0).2) && decide ((atP t 0).2 = t.size) && signB (atP t 0).1)) := by
        show _ = _
        rw [← isSignB_ref]
        simp only [canB]
        rw [if_neg (by decide), if_neg (by decide), if_pos trivial]
        simp
      generalize atP t 0 = pq at *
      obtain ⟨ch, m⟩ := pq
      by_cases hm : 0 < m
      · have hm' : 0 < (m : Int) := by omega
        by_cases hs : m = t.size
        · have hs' : ((m : Int) == t.size) = true := by simp [hs]
          have E2 : Hid (canB ⟨3, t, 0, l, c⟩ = signB ch) := by show _ = _; rw [E.out]; simp [hs]; omega
          clear E hs
          go_enter Tryd.func23, Tryd.ntmps23
          go_wp2_with fail
          refine (AT.out _).mono ?_
          rintro e w1 ⟨rfl, rfl⟩
          go_wp2_with fail
          refine (rsign_any _ _).mono ?_
          rintro e w1 ⟨rfl, rfl⟩
          go_wp2
          go_ret
          exact ⟨by rw [E2.out]; rfl, Hb0.out⟩
        · have hs' : ((m : Int) == t.size) = false := by simp; omega
          have E2 : Hid (canB ⟨3, t, 0, l, c⟩ = false) := by show _ = _; rw [E.out]; simp [hs]
          clear E hs
          go_enter Tryd.func23, Tryd.ntmps23
          go_wp2_with fail
          refine (AT.out _).mono ?_
          rintro e w1 ⟨rfl, rfl⟩
          go_wp2
          go_ret
          exact ⟨by rw [E2.out]; rfl, Hb0.out⟩
      · have hm' : decide (0 < m) = false := by simp; omega
        have hm2 : decide (0 < (m : Int)) = false := by simp; omega
        have E2 : Hid (canB ⟨3, t, 0, l, c⟩ = false) := by show _ = _; rw [E.out, hm']; rfl
        clear E hm
        go_enter Tryd.func23, Tryd.ntmps23
        go_wp2_with fail
        refine (AT.out _).mono ?_
        rintro e w1 ⟨rfl, rfl⟩
        go_wp2
        go_ret
        exact ⟨by rw [E2.out]; rfl, Hb0.out⟩
    · have E2 : Hid (canB ⟨3, t, n, l, c⟩ = false) := by show _ = _; simp [canB, hn]
      go_enter Tryd.func23, Tryd.ntmps23
      go_wp2_with fail
      refine (AT.out _).mono ?_
      rintro e w1 ⟨rfl, rfl⟩
      go_wp2
      go_ret
      exact ⟨by rw [E2.out]; rfl, Hb0.out⟩
  by_cases h4 : k = 4
  · subst h4
    by_cases hn : n = 0
    · subst hn
      by_cases ht : t = ⟨#[]⟩
      · subst ht
        go_enter Tryd.func23, Tryd.ntmps23
        go_wp2
        go_ret
        exact ⟨by simp [canB], Hb0.out⟩
      · go_enter Tryd.func23, Tryd.ntmps23
        go_wp2
        go_ret
        have E2 : canB ⟨4, t, 0, l, c⟩ = false := by simp only [canB]; rw [if_neg (by decide), if_neg (by decide), if_neg (by decide), if_pos trivial, decide_eq_false ht]; simp
        rw [E2]
        exact ⟨by simp [list_empty ht], Hb0.out⟩
    · go_enter Tryd.func23, Tryd.ntmps23
      go_wp2
      go_ret
      exact ⟨by simp [canB, hn], Hb0.out⟩
  go_enter Tryd.func23, Tryd.ntmps23
  go_wp2
  go_ret
  exact ⟨by simp [canB, h1, h2, h3, h4], Hb0.out⟩
end Go.Proofs.YtfnmkgfaoacnpaaDoor
