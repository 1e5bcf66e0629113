/-
  The walk of the statement WordReads: it answers true for every text and turns nothing that was there. No condition beyond those that each theorem states.
-/
import Derived.Test.YtfnmkgfaoacnpaaDoorLaw2
namespace Go.Proofs.YtfnmkgfaoacnpaaDoor
open Go.RowKit

theorem same_yes (xs : List Wd) (v1 v2 : Value) (B1 B2 : Nat) (w : World) (hn : xs.length ≤ 100000) (h1 : w.ownsRow B1 25 5 v1 xs.length (xs.flatMap flatW)) (h2 : Outs w B2 v2 xs) :
    Calls Tryd.prog 26 #[v1, v2] w fun e w' => e = .returned (.bool true) ∧ Below w.heap.size w w' := by
  by_cases h0 : xs = []
  · subst h0
    obtain ⟨a, c, rfl⟩ := own_shape h1
    obtain ⟨b, d, rfl⟩ := own_shape h2
    refine (same_none a b c d w).mono ?_
    rintro e w' ⟨rfl, k, rfl⟩
    exact ⟨rfl, below_draws (Below.refl _ _) k⟩
  · have hp : 0 < xs.length := List.length_pos_iff.2 h0
    obtain ⟨g1, c1, rfl, _⟩ := h1.form hp
    obtain ⟨g2, c2, rfl, _⟩ := World.ownsRow.form h2 hp
    refine (same_some xs g1 g2 c1 c2 _ _ w hn h1 h2).mono ?_
    rintro e w' ⟨rfl, k, rfl⟩
    exact ⟨rfl, below_draws (Below.refl _ _) k⟩
/-- A text has no more words than bytes. -/
theorem words_few (s : ByteArray) : ∀ (f i : Nat) (out : List Wd) (l c : Int) (r : Bool), out.length ≤ i → i ≤ s.size → (refGo s f out l c r i).1.length ≤ s.size := by
  intro f
  induction f with
  | zero => intro i out l c r h1 h2; rw [refGo]; simp only; omega
  | succ f ih =>
    intro i out l c r h1 h2
    rw [refGo]
    by_cases hlt : i < s.size
    · rw [if_pos hlt]
      have hal := atP_le s i hlt
      by_cases hm : (atP s i).2 = 0
      · rw [if_pos hm]; simp
      rw [if_neg hm]
      split
      · exact ih _ _ _ _ _ (by simp; omega) (by omega)
      split
      · exact ih _ _ _ _ _ (by omega) hal
      split
      · rename_i hz
        have hle := numLen_le s i hlt
        split
        · split
          · simp
          · exact ih _ _ _ _ _ (by unfold numEnd; simp; omega) hle
        · simp
      split
      · rename_i hl
        split
        · simp
        · have hr := runTo_le s false i h2
          have hpos : i < (runTo s false i).1 := by
            unfold runTo
            obtain ⟨q, hq⟩ : ∃ q, s.size = q + 1 := ⟨s.size - 1, by omega⟩
            rw [hq, runEnd, if_pos hlt, if_neg (by simp [stopB, hl]; omega)]
            have := (runEnd_le s false q (i + (atP s i).2) (0 + 1) hal).1
            omega
          exact ih _ _ _ _ _ (by simp; omega) hr.2.1
      split
      · exact ih _ _ _ _ _ (by simp; omega) hal
      · simp
    · rw [if_neg hlt]
      simp only
      omega
theorem readWords_few (s : ByteArray) : (readWords s).length ≤ s.size := by
  have h := words_few s s.size 0 [] 1 1 false (by simp) (by omega)
  have e := read_eq s
  unfold refRead at e
  rw [e] at h
  exact h
set_option maxHeartbeats 1000000 in
set_option maxRecDepth 100000 in
theorem word_reads_any (s : ByteArray) (w : World) (hs : s.size ≤ maxLen) :
    Calls Tryd.prog 14 #[.string s] w fun e w' => e = .returned (.bool true) ∧ Below w.heap.size w w' := by
  unfold maxLen at hs
  by_cases hl : 4000 < s.size
  · have hl' : (4000 : Int) < s.size := by omega
    go_enter Tryd.func14, Tryd.ntmps14
    go_wp2_with fail
    refine (awake_any _).mono ?_
    rintro e w1 ⟨rfl, hb1⟩
    have HB1 := Lib.hid hb1
    clear hb1
    go_wp2
    go_ret
    exact ⟨rfl, HB1.out⟩
  · have hl' : (s.size : Int) ≤ 4000 := by omega
    have hz : s.size ≤ 100000 := by omega
    have hfew := readWords_few s
    go_enter Tryd.func14, Tryd.ntmps14
    go_wp2_with fail
    refine (read_any s _ hz).mono ?_
    rintro e w1 ⟨v1, rfl, ho1, hb1⟩
    have HO1 := Lib.hid ho1
    have HB1 := Lib.hid hb1
    clear ho1 hb1
    go_wp2_with fail
    refine (rread_any s _ hz).mono ?_
    rintro e w2 ⟨v2, rfl, ho2, hb2⟩
    rw [read_eq s] at ho2 ⊢
    have HO2 := Lib.hid ho2
    have HB2 := Lib.hid hb2
    have HO1' := Lib.hid (own_keep HO1.out ⟨hb2.size, fun k _ hk => hb2.block k hk⟩)
    clear ho2 hb2 HO1
    go_wp2_with fail
    refine (same_yes (readWords s) v1 v2 _ _ _ (by omega) HO1'.out HO2.out).mono ?_
    rintro e w3 ⟨rfl, hb3⟩
    have HB3 := Lib.hid hb3
    clear hb3 HO1' HO2
    go_wp2_with fail
    refine (name_any s _).mono ?_
    rintro e w4 ⟨rfl, hb4⟩
    have HB4 := Lib.hid hb4
    clear hb4
    go_wp2_with fail
    refine (rname_any s _ hz).mono ?_
    rintro e w5 ⟨rfl, rfl⟩
    rw [← nameB_same s]
    go_wp2_with fail
    refine (awake_any _).mono ?_
    rintro e w6 ⟨rfl, hb6⟩
    have HB6 := Lib.hid hb6
    clear hb6
    go_wp2
    go_ret
    have z1 := HB1.out.size
    have z2 := HB2.out.size
    have z3 := HB3.out.size
    have z4 := HB4.out.size
    exact ⟨rfl, (((HB1.out.trans (HB2.out.mono (by omega))).trans (HB3.out.mono (by omega))).trans (HB4.out.mono (by omega))).trans (HB6.out.mono (by omega))⟩
end Go.Proofs.YtfnmkgfaoacnpaaDoor
