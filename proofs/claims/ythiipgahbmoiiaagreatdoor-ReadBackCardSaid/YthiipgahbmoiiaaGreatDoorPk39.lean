/-
  The document's function that decodes a rune answers what the plain function says. No condition beyond those that each theorem states.
-/
import Derived.Test.YthiipgahbmoiiaaGreatDoorPk38
import Derived.Test.YthiipgahbmoiiaaGreatDoorPk19
namespace Go.Proofs.YthiipgahbmoiiaaGreatDoor
open Go.RowKit

theorem get_ok (s : ByteArray) (i : Nat) (h : i < s.size) : s.get! i = s[i]'h := by simp [ByteArray.get!, getElem!_pos, h]; rfl
theorem acc_small (s : ByteArray) (i : Nat) (c : Int) (m j : Nat) (hc0 : 0 ≤ c) (hc : m = 2 ∧ c ≤ 31 ∨ m = 3 ∧ c ≤ 15 ∨ m = 4 ∧ c ≤ 7) (hj : j < m) (hk : ∀ t, 1 ≤ t → t ≤ j → contB s (i + t)) :
    0 ≤ accR s i c j ∧ accR s i c j ≤ 2097151 ∧ (j + 1 < m → accR s i c j ≤ 32767) := by
  have h4 : j = 0 ∨ j = 1 ∨ j = 2 ∨ j = 3 := by omega
  rcases h4 with rfl | rfl | rfl | rfl
  · show 0 ≤ c ∧ c ≤ 2097151 ∧ _
    show 0 ≤ c ∧ c ≤ 2097151 ∧ (_ → c ≤ 32767)
    omega
  · have h1 := hk 1 (by omega) (by omega)
    unfold contB at h1
    rw [accR_one]
    omega
  · have h1 := hk 1 (by omega) (by omega)
    have h2 := hk 2 (by omega) (by omega)
    unfold contB at h1 h2
    rw [accR_two]
    omega
  · have h1 := hk 1 (by omega) (by omega)
    have h2 := hk 2 (by omega) (by omega)
    have h3 := hk 3 (by omega) (by omega)
    unfold contB at h1 h2 h3
    rw [accR_three]
    omega
theorem at_end (s : ByteArray) (i : Nat) (w : World) (hi : ¬ i < s.size) : Calls Tryz.prog 130 #[.string s, .int .i64 i] w fun e w' => e = .returned (.tuple #[.int .i32 (atP s i).1, .int .i64 (atP s i).2]) ∧ w = w'  := by
  have E : Hid (atP s i = (0, 0)) := if_neg hi
  have hi' : (s.size : Int) ≤ i := by omega
  go_enter Tryz.func130, Tryz.ntmps130
  go_wp2
  go_ret2
  rw [E.out]
  exact ⟨rfl, rfl⟩
set_option maxRecDepth 100000 in
theorem at_ascii (s : ByteArray) (i : Nat) (w : World) (hi : i < s.size) (hb : (s[i]'hi).toNat < 128) : Calls Tryz.prog 130 #[.string s, .int .i64 i] w fun e w' => e = .returned (.tuple #[.int .i32 (atP s i).1, .int .i64 (atP s i).2]) ∧ w = w'  := by
  have E : Hid (atP s i = ((s[i]'hi).toNat, 1)) := by
    have := atP_one s i hi (by rw [get_ok s i hi]; exact hb)
    rw [get_ok s i hi] at this
    exact this
  have hi' : (i : Int) < s.size := by omega
  have hi0 : (0 : Int) ≤ i := by omega
  have hb' : ((s[i]'hi).toNat : Int) < 128 := by omega
  go_enter Tryz.func130, Tryz.ntmps130
  go_wp2
  go_ret2
  rw [E.out]
  exact ⟨rfl, rfl⟩
set_option maxRecDepth 100000 in
theorem at_bad (s : ByteArray) (i : Nat) (w : World) (hi : i < s.size) (hb : 128 ≤ (s[i]'hi).toNat) (hb1 : (s[i]'hi).toNat < 192 ∨ 248 ≤ (s[i]'hi).toNat) : Calls Tryz.prog 130 #[.string s, .int .i64 i] w fun e w' => e = .returned (.tuple #[.int .i32 (atP s i).1, .int .i64 (atP s i).2]) ∧ w = w'  := by
  have E : Hid (atP s i = (0, 0)) := atP_none s i (by rw [get_ok s i hi]; exact hb) (by rw [get_ok s i hi]; exact hb1)
  have hi' : (i : Int) < s.size := by omega
  have hi0 : (0 : Int) ≤ i := by omega
  have hb' : 128 ≤ ((s[i]'hi).toNat : Int) := by omega
  have hb2 := (s[i]'hi).toNat_lt
  have hb3 : ((s[i]'hi).toNat : Int) ≤ 255 := by omega
  rcases hb1 with hb1 | hb1
  · have hb4 : ((s[i]'hi).toNat : Int) < 192 := by omega
    go_enter Tryz.func130, Tryz.ntmps130
    go_wp2_with (go_at_call 174; refine (within_any _ _ _ _).mono ?_; rintro e w1 ⟨rfl, rfl⟩)
    go_ret2
    rw [E.out]
    exact ⟨rfl, rfl⟩
  · have hb4 : 248 ≤ ((s[i]'hi).toNat : Int) := by omega
    go_enter Tryz.func130, Tryz.ntmps130
    go_wp2_with (go_at_call 174; refine (within_any _ _ _ _).mono ?_; rintro e w1 ⟨rfl, rfl⟩)
    go_ret2
    rw [E.out]
    exact ⟨rfl, rfl⟩

set_option maxHeartbeats 1000000 in
set_option maxRecDepth 100000 in
theorem at_two (s : ByteArray) (i : Nat) (w : World) (hi : i < s.size) (hz : s.size ≤ 100000) (hb1 : 192 ≤ (s[i]'hi).toNat) (hb2 : (s[i]'hi).toNat ≤ 223) : Calls Tryz.prog 130 #[.string s, .int .i64 i] w fun e w' => e = .returned (.tuple #[.int .i32 (atP s i).1, .int .i64 (atP s i).2]) ∧ w = w'  := by
  have A : Hid (atP s i = if i + 2 ≤ s.size ∧ contB s (i + 1) ∧ okB 128 (accR s i ((s[i]'hi).toNat - 192) 1) then ((accR s i ((s[i]'hi).toNat - 192) 1).toNat, 2) else (0, 0)) := by
    have := atP_two s i (by rw [get_ok s i hi]; exact ⟨hb1, hb2⟩)
    rw [get_ok s i hi] at this
    exact this
  have hi' : (i : Int) < s.size := by omega
  have hi0 : (0 : Int) ≤ i := by omega
  have hc1 : 192 ≤ ((s[i]'hi).toNat : Int) := by omega
  have hc2 : ((s[i]'hi).toNat : Int) ≤ 223 := by omega
  by_cases hl : i + 2 ≤ s.size
  · have hl' : (i : Int) + 2 ≤ s.size := by omega
    have hl2 : decide ((s.size : Int) < i + 2) = false := by simp; omega
    go_enter Tryz.func130, Tryz.ntmps130
    go_wp2_with (go_at_call 174; refine (within_any _ _ _ _).mono ?_; rintro e w1 ⟨rfl, rfl⟩)
    go_loop [9, 10] (fun r k => ∃ j : Nat, j + 1 ≤ 2 ∧ k = .int .i64 ((j : Int) + 1) ∧ r = .int .i32 (accR s i ((s[i]'hi).toNat - 192) j) ∧ Hid (∀ t, 1 ≤ t → t ≤ j → contB s (i + t))) (fun _ k => 2 - (intOf k).toNat)
    case atStart => exact ⟨0, by omega, rfl, rfl, fun t h1 h2 => absurd h1 (by omega)⟩
    case round =>
      obtain ⟨j, hj, rfl, rfl, HK⟩ := hrel
      obtain ⟨hr0, hr1, hr2⟩ := acc_small s i ((s[i]'hi).toNat - 192) 2 j (by omega) (.inl ⟨rfl, by omega⟩) (by omega) HK.out
      by_cases hjm : j + 1 < 2
      · have hr3 := hr2 hjm
        clear hr2
        have hij : i + (j + 1) < s.size := by omega
        have hij' : (i : Int) + ((j : Int) + 1) < s.size := by omega
        have hj' : (j : Int) + 1 < 2 := by omega
        have hx0 : (0 : Int) ≤ ((s[i + (j + 1)]'hij).toNat : Int) := by omega
        have hx1 : ((s[i + (j + 1)]'hij).toNat : Int) ≤ 255 := by have := (s[i + (j + 1)]'hij).toNat_lt; omega
        have HN : Hid (accR s i ((s[i]'hi).toNat - 192) (j + 1) = 64 * accR s i ((s[i]'hi).toNat - 192) j + ((s[i + (j + 1)]'hij).toNat : Int) - 128) := by
          show _ = _
          rw [accR, get_ok s _ hij]
        by_cases hcb : contB s (i + (j + 1))
        · have hcb2 := hcb
          unfold contB at hcb2
          rw [get_ok s _ hij] at hcb2
          have hk0 : 128 ≤ ((s[i + (j + 1)]'hij).toNat : Int) := by omega
          have hk1 : ((s[i + (j + 1)]'hij).toNat : Int) ≤ 191 := by omega
          have HK2 : Hid (∀ t, 1 ≤ t → t ≤ j + 1 → contB s (i + t)) := by
            intro t h1 h2
            by_cases ht : t = j + 1
            · rw [ht]; exact hcb
            · exact HK.out t h1 (by omega)
          clear hcb hcb2
          go_wp2_with (go_at_call 174; refine (within_any _ _ _ _).mono ?_; rintro e w1 ⟨rfl, rfl⟩)
          go_round
          case rel => exact ⟨j + 1, by omega, by go_num, by rw [HN.out], HK2⟩
          case measure => simp [intOf]; omega
        · have E : Hid (atP s i = (0, 0)) := by
            show _ = _
            rw [A.out, if_neg]
            intro h
            have hh : ∀ t, 1 ≤ t → t < 2 → contB s (i + t) := by
              intro t h1 h2
              have h4 : t = 1 := by omega
              subst h4; exact h.2.1
            exact hcb (hh (j + 1) (by omega) hjm)
          have hcb2 := hcb
          unfold contB at hcb2
          rw [get_ok s _ hij] at hcb2
          have hk : ((s[i + (j + 1)]'hij).toNat : Int) < 128 ∨ 191 < ((s[i + (j + 1)]'hij).toNat : Int) := by omega
          clear hcb hcb2 A
          rcases hk with hk | hk
          · have hkb : decide (128 ≤ ((s[i + (j + 1)]'hij).toNat : Int)) = false := by simp; omega
            go_wp2_with (go_at_call 174; refine (within_any _ _ _ _).mono ?_; rintro e w1 ⟨rfl, rfl⟩)
            go_ret2
            rw [E.out]
            exact ⟨rfl, rfl⟩
          · have hkb : decide (((s[i + (j + 1)]'hij).toNat : Int) ≤ 191) = false := by simp; omega
            go_wp2_with (go_at_call 174; refine (within_any _ _ _ _).mono ?_; rintro e w1 ⟨rfl, rfl⟩)
            go_ret2
            rw [E.out]
            exact ⟨rfl, rfl⟩
      · obtain rfl : j = 1 := by omega
        have A2 := Lib.hid A.out
        clear A hr2 hjm
        generalize accR s i ((s[i]'hi).toNat - 192) 1 = R at *
        by_cases h1 : R < 128
        · have E : Hid (atP s i = (0, 0)) := by show _ = _; rw [A2.out, if_neg]; intro h; have := h.2.2; unfold okB at this; omega
          clear A2
          go_wp2_with (go_at_call 174; refine (within_any _ _ _ _).mono ?_; rintro e w1 ⟨rfl, rfl⟩)
          go_ret2
          rw [E.out]
          exact ⟨rfl, rfl⟩
        have h1' : 128 ≤ R := by omega
        clear h1
        by_cases h2 : 1114111 < R
        · have E : Hid (atP s i = (0, 0)) := by show _ = _; rw [A2.out, if_neg]; intro h; have := h.2.2; unfold okB at this; omega
          clear A2
          go_wp2_with (go_at_call 174; refine (within_any _ _ _ _).mono ?_; rintro e w1 ⟨rfl, rfl⟩)
          go_ret2
          rw [E.out]
          exact ⟨rfl, rfl⟩
        have h2' : R ≤ 1114111 := by omega
        clear h2
        by_cases h3 : 55296 ≤ R ∧ R ≤ 57343
        · have E : Hid (atP s i = (0, 0)) := by show _ = _; rw [A2.out, if_neg]; intro h; have := h.2.2; unfold okB at this; omega
          obtain ⟨h3, h4⟩ := h3
          clear A2
          go_wp2_with (go_at_call 174; refine (within_any _ _ _ _).mono ?_; rintro e w1 ⟨rfl, rfl⟩)
          go_ret2
          rw [E.out]
          exact ⟨rfl, rfl⟩
        have E : Hid (atP s i = (R.toNat, 2)) := by
          show _ = _
          rw [A2.out, if_pos]
          exact ⟨hl, HK.out 1 (by omega) (by omega), ⟨by omega, by omega, by omega⟩⟩
        have hRR : Hid (((R.toNat : Nat) : Int) = R) := by show _ = _; omega
        have h3' : R < 55296 ∨ 57343 < R := by omega
        clear A2 h3
        rcases h3' with h3 | h3
        · go_wp2_with (go_at_call 174; refine (within_any _ _ _ _).mono ?_; rintro e w1 ⟨rfl, rfl⟩)
          go_ret2
          rw [E.out]
          refine ⟨?_, rfl⟩
          show _ = Ending.returned (.tuple #[.int .i32 ((R.toNat : Nat) : Int), .int .i64 2])
          rw [hRR.out]
          rfl
        · go_wp2_with (go_at_call 174; refine (within_any _ _ _ _).mono ?_; rintro e w1 ⟨rfl, rfl⟩)
          go_ret2
          rw [E.out]
          refine ⟨?_, rfl⟩
          show _ = Ending.returned (.tuple #[.int .i32 ((R.toNat : Nat) : Int), .int .i64 2])
          rw [hRR.out]
          rfl
  · have E : Hid (atP s i = (0, 0)) := by show _ = _; rw [A.out, if_neg]; intro h; exact hl h.1
    have hl' : (s.size : Int) < (i : Int) + 2 := by omega
    clear A
    go_enter Tryz.func130, Tryz.ntmps130
    go_wp2_with (go_at_call 174; refine (within_any _ _ _ _).mono ?_; rintro e w1 ⟨rfl, rfl⟩)
    go_ret2
    rw [E.out]
    exact ⟨rfl, rfl⟩

set_option maxHeartbeats 1000000 in
set_option maxRecDepth 100000 in
theorem at_three (s : ByteArray) (i : Nat) (w : World) (hi : i < s.size) (hz : s.size ≤ 100000) (hb1 : 224 ≤ (s[i]'hi).toNat) (hb2 : (s[i]'hi).toNat ≤ 239) : Calls Tryz.prog 130 #[.string s, .int .i64 i] w fun e w' => e = .returned (.tuple #[.int .i32 (atP s i).1, .int .i64 (atP s i).2]) ∧ w = w'  := by
  have A : Hid (atP s i = if i + 3 ≤ s.size ∧ contB s (i + 1) ∧ contB s (i + 2) ∧ okB 2048 (accR s i ((s[i]'hi).toNat - 224) 2) then ((accR s i ((s[i]'hi).toNat - 224) 2).toNat, 3) else (0, 0)) := by
    have := atP_three s i (by rw [get_ok s i hi]; exact ⟨hb1, hb2⟩)
    rw [get_ok s i hi] at this
    exact this
  have hi' : (i : Int) < s.size := by omega
  have hi0 : (0 : Int) ≤ i := by omega
  have hc1 : 224 ≤ ((s[i]'hi).toNat : Int) := by omega
  have hc2 : ((s[i]'hi).toNat : Int) ≤ 239 := by omega
  by_cases hl : i + 3 ≤ s.size
  · have hl' : (i : Int) + 3 ≤ s.size := by omega
    have hl2 : decide ((s.size : Int) < i + 3) = false := by simp; omega
    go_enter Tryz.func130, Tryz.ntmps130
    go_wp2_with (go_at_call 174; refine (within_any _ _ _ _).mono ?_; rintro e w1 ⟨rfl, rfl⟩)
    go_loop [9, 10] (fun r k => ∃ j : Nat, j + 1 ≤ 3 ∧ k = .int .i64 ((j : Int) + 1) ∧ r = .int .i32 (accR s i ((s[i]'hi).toNat - 224) j) ∧ Hid (∀ t, 1 ≤ t → t ≤ j → contB s (i + t))) (fun _ k => 3 - (intOf k).toNat)
    case atStart => exact ⟨0, by omega, rfl, rfl, fun t h1 h2 => absurd h1 (by omega)⟩
    case round =>
      obtain ⟨j, hj, rfl, rfl, HK⟩ := hrel
      obtain ⟨hr0, hr1, hr2⟩ := acc_small s i ((s[i]'hi).toNat - 224) 3 j (by omega) (.inr (.inl ⟨rfl, by omega⟩)) (by omega) HK.out
      by_cases hjm : j + 1 < 3
      · have hr3 := hr2 hjm
        clear hr2
        have hij : i + (j + 1) < s.size := by omega
        have hij' : (i : Int) + ((j : Int) + 1) < s.size := by omega
        have hj' : (j : Int) + 1 < 3 := by omega
        have hx0 : (0 : Int) ≤ ((s[i + (j + 1)]'hij).toNat : Int) := by omega
        have hx1 : ((s[i + (j + 1)]'hij).toNat : Int) ≤ 255 := by have := (s[i + (j + 1)]'hij).toNat_lt; omega
        have HN : Hid (accR s i ((s[i]'hi).toNat - 224) (j + 1) = 64 * accR s i ((s[i]'hi).toNat - 224) j + ((s[i + (j + 1)]'hij).toNat : Int) - 128) := by
          show _ = _
          rw [accR, get_ok s _ hij]
        by_cases hcb : contB s (i + (j + 1))
        · have hcb2 := hcb
          unfold contB at hcb2
          rw [get_ok s _ hij] at hcb2
          have hk0 : 128 ≤ ((s[i + (j + 1)]'hij).toNat : Int) := by omega
          have hk1 : ((s[i + (j + 1)]'hij).toNat : Int) ≤ 191 := by omega
          have HK2 : Hid (∀ t, 1 ≤ t → t ≤ j + 1 → contB s (i + t)) := by
            intro t h1 h2
            by_cases ht : t = j + 1
            · rw [ht]; exact hcb
            · exact HK.out t h1 (by omega)
          clear hcb hcb2
          go_wp2_with (go_at_call 174; refine (within_any _ _ _ _).mono ?_; rintro e w1 ⟨rfl, rfl⟩)
          go_round
          case rel => exact ⟨j + 1, by omega, by go_num, by rw [HN.out], HK2⟩
          case measure => simp [intOf]; omega
        · have E : Hid (atP s i = (0, 0)) := by
            show _ = _
            rw [A.out, if_neg]
            intro h
            have hh : ∀ t, 1 ≤ t → t < 3 → contB s (i + t) := by
              intro t h1 h2
              have h4 : t = 1 ∨ t = 2 := by omega
              rcases h4 with rfl | rfl
              · exact h.2.1
              · exact h.2.2.1
            exact hcb (hh (j + 1) (by omega) hjm)
          have hcb2 := hcb
          unfold contB at hcb2
          rw [get_ok s _ hij] at hcb2
          have hk : ((s[i + (j + 1)]'hij).toNat : Int) < 128 ∨ 191 < ((s[i + (j + 1)]'hij).toNat : Int) := by omega
          clear hcb hcb2 A
          rcases hk with hk | hk
          · have hkb : decide (128 ≤ ((s[i + (j + 1)]'hij).toNat : Int)) = false := by simp; omega
            go_wp2_with (go_at_call 174; refine (within_any _ _ _ _).mono ?_; rintro e w1 ⟨rfl, rfl⟩)
            go_ret2
            rw [E.out]
            exact ⟨rfl, rfl⟩
          · have hkb : decide (((s[i + (j + 1)]'hij).toNat : Int) ≤ 191) = false := by simp; omega
            go_wp2_with (go_at_call 174; refine (within_any _ _ _ _).mono ?_; rintro e w1 ⟨rfl, rfl⟩)
            go_ret2
            rw [E.out]
            exact ⟨rfl, rfl⟩
      · obtain rfl : j = 2 := by omega
        have A2 := Lib.hid A.out
        clear A hr2 hjm
        generalize accR s i ((s[i]'hi).toNat - 224) 2 = R at *
        by_cases h1 : R < 2048
        · have E : Hid (atP s i = (0, 0)) := by show _ = _; rw [A2.out, if_neg]; intro h; have := h.2.2.2; unfold okB at this; omega
          clear A2
          go_wp2_with (go_at_call 174; refine (within_any _ _ _ _).mono ?_; rintro e w1 ⟨rfl, rfl⟩)
          go_ret2
          rw [E.out]
          exact ⟨rfl, rfl⟩
        have h1' : 2048 ≤ R := by omega
        clear h1
        by_cases h2 : 1114111 < R
        · have E : Hid (atP s i = (0, 0)) := by show _ = _; rw [A2.out, if_neg]; intro h; have := h.2.2.2; unfold okB at this; omega
          clear A2
          go_wp2_with (go_at_call 174; refine (within_any _ _ _ _).mono ?_; rintro e w1 ⟨rfl, rfl⟩)
          go_ret2
          rw [E.out]
          exact ⟨rfl, rfl⟩
        have h2' : R ≤ 1114111 := by omega
        clear h2
        by_cases h3 : 55296 ≤ R ∧ R ≤ 57343
        · have E : Hid (atP s i = (0, 0)) := by show _ = _; rw [A2.out, if_neg]; intro h; have := h.2.2.2; unfold okB at this; omega
          obtain ⟨h3, h4⟩ := h3
          clear A2
          go_wp2_with (go_at_call 174; refine (within_any _ _ _ _).mono ?_; rintro e w1 ⟨rfl, rfl⟩)
          go_ret2
          rw [E.out]
          exact ⟨rfl, rfl⟩
        have E : Hid (atP s i = (R.toNat, 3)) := by
          show _ = _
          rw [A2.out, if_pos]
          exact ⟨hl, HK.out 1 (by omega) (by omega), HK.out 2 (by omega) (by omega), ⟨by omega, by omega, by omega⟩⟩
        have hRR : Hid (((R.toNat : Nat) : Int) = R) := by show _ = _; omega
        have h3' : R < 55296 ∨ 57343 < R := by omega
        clear A2 h3
        rcases h3' with h3 | h3
        · go_wp2_with (go_at_call 174; refine (within_any _ _ _ _).mono ?_; rintro e w1 ⟨rfl, rfl⟩)
          go_ret2
          rw [E.out]
          refine ⟨?_, rfl⟩
          show _ = Ending.returned (.tuple #[.int .i32 ((R.toNat : Nat) : Int), .int .i64 3])
          rw [hRR.out]
          rfl
        · go_wp2_with (go_at_call 174; refine (within_any _ _ _ _).mono ?_; rintro e w1 ⟨rfl, rfl⟩)
          go_ret2
          rw [E.out]
          refine ⟨?_, rfl⟩
          show _ = Ending.returned (.tuple #[.int .i32 ((R.toNat : Nat) : Int), .int .i64 3])
          rw [hRR.out]
          rfl
  · have E : Hid (atP s i = (0, 0)) := by show _ = _; rw [A.out, if_neg]; intro h; exact hl h.1
    have hl' : (s.size : Int) < (i : Int) + 3 := by omega
    clear A
    go_enter Tryz.func130, Tryz.ntmps130
    go_wp2_with (go_at_call 174; refine (within_any _ _ _ _).mono ?_; rintro e w1 ⟨rfl, rfl⟩)
    go_ret2
    rw [E.out]
    exact ⟨rfl, rfl⟩

set_option maxHeartbeats 1000000 in
set_option maxRecDepth 100000 in
theorem at_four (s : ByteArray) (i : Nat) (w : World) (hi : i < s.size) (hz : s.size ≤ 100000) (hb1 : 240 ≤ (s[i]'hi).toNat) (hb2 : (s[i]'hi).toNat ≤ 247) : Calls Tryz.prog 130 #[.string s, .int .i64 i] w fun e w' => e = .returned (.tuple #[.int .i32 (atP s i).1, .int .i64 (atP s i).2]) ∧ w = w'  := by
  have A : Hid (atP s i = if i + 4 ≤ s.size ∧ contB s (i + 1) ∧ contB s (i + 2) ∧ contB s (i + 3) ∧ okB 65536 (accR s i ((s[i]'hi).toNat - 240) 3) then ((accR s i ((s[i]'hi).toNat - 240) 3).toNat, 4) else (0, 0)) := by
    have := atP_four s i (by rw [get_ok s i hi]; exact ⟨hb1, hb2⟩)
    rw [get_ok s i hi] at this
    exact this
  have hi' : (i : Int) < s.size := by omega
  have hi0 : (0 : Int) ≤ i := by omega
  have hc1 : 240 ≤ ((s[i]'hi).toNat : Int) := by omega
  have hc2 : ((s[i]'hi).toNat : Int) ≤ 247 := by omega
  by_cases hl : i + 4 ≤ s.size
  · have hl' : (i : Int) + 4 ≤ s.size := by omega
    have hl2 : decide ((s.size : Int) < i + 4) = false := by simp; omega
    go_enter Tryz.func130, Tryz.ntmps130
    go_wp2_with (go_at_call 174; refine (within_any _ _ _ _).mono ?_; rintro e w1 ⟨rfl, rfl⟩)
    go_loop [9, 10] (fun r k => ∃ j : Nat, j + 1 ≤ 4 ∧ k = .int .i64 ((j : Int) + 1) ∧ r = .int .i32 (accR s i ((s[i]'hi).toNat - 240) j) ∧ Hid (∀ t, 1 ≤ t → t ≤ j → contB s (i + t))) (fun _ k => 4 - (intOf k).toNat)
    case atStart => exact ⟨0, by omega, rfl, rfl, fun t h1 h2 => absurd h1 (by omega)⟩
    case round =>
      obtain ⟨j, hj, rfl, rfl, HK⟩ := hrel
      obtain ⟨hr0, hr1, hr2⟩ := acc_small s i ((s[i]'hi).toNat - 240) 4 j (by omega) (.inr (.inr ⟨rfl, by omega⟩)) (by omega) HK.out
      by_cases hjm : j + 1 < 4
      · have hr3 := hr2 hjm
        clear hr2
        have hij : i + (j + 1) < s.size := by omega
        have hij' : (i : Int) + ((j : Int) + 1) < s.size := by omega
        have hj' : (j : Int) + 1 < 4 := by omega
        have hx0 : (0 : Int) ≤ ((s[i + (j + 1)]'hij).toNat : Int) := by omega
        have hx1 : ((s[i + (j + 1)]'hij).toNat : Int) ≤ 255 := by have := (s[i + (j + 1)]'hij).toNat_lt; omega
        have HN : Hid (accR s i ((s[i]'hi).toNat - 240) (j + 1) = 64 * accR s i ((s[i]'hi).toNat - 240) j + ((s[i + (j + 1)]'hij).toNat : Int) - 128) := by
          show _ = _
          rw [accR, get_ok s _ hij]
        by_cases hcb : contB s (i + (j + 1))
        · have hcb2 := hcb
          unfold contB at hcb2
          rw [get_ok s _ hij] at hcb2
          have hk0 : 128 ≤ ((s[i + (j + 1)]'hij).toNat : Int) := by omega
          have hk1 : ((s[i + (j + 1)]'hij).toNat : Int) ≤ 191 := by omega
          have HK2 : Hid (∀ t, 1 ≤ t → t ≤ j + 1 → contB s (i + t)) := by
            intro t h1 h2
            by_cases ht : t = j + 1
            · rw [ht]; exact hcb
            · exact HK.out t h1 (by omega)
          clear hcb hcb2
          go_wp2_with (go_at_call 174; refine (within_any _ _ _ _).mono ?_; rintro e w1 ⟨rfl, rfl⟩)
          go_round
          case rel => exact ⟨j + 1, by omega, by go_num, by rw [HN.out], HK2⟩
          case measure => simp [intOf]; omega
        · have E : Hid (atP s i = (0, 0)) := by
            show _ = _
            rw [A.out, if_neg]
            intro h
            have hh : ∀ t, 1 ≤ t → t < 4 → contB s (i + t) := by
              intro t h1 h2
              have h4 : t = 1 ∨ t = 2 ∨ t = 3 := by omega
              rcases h4 with rfl | rfl | rfl
              · exact h.2.1
              · exact h.2.2.1
              · exact h.2.2.2.1
            exact hcb (hh (j + 1) (by omega) hjm)
          have hcb2 := hcb
          unfold contB at hcb2
          rw [get_ok s _ hij] at hcb2
          have hk : ((s[i + (j + 1)]'hij).toNat : Int) < 128 ∨ 191 < ((s[i + (j + 1)]'hij).toNat : Int) := by omega
          clear hcb hcb2 A
          rcases hk with hk | hk
          · have hkb : decide (128 ≤ ((s[i + (j + 1)]'hij).toNat : Int)) = false := by simp; omega
            go_wp2_with (go_at_call 174; refine (within_any _ _ _ _).mono ?_; rintro e w1 ⟨rfl, rfl⟩)
            go_ret2
            rw [E.out]
            exact ⟨rfl, rfl⟩
          · have hkb : decide (((s[i + (j + 1)]'hij).toNat : Int) ≤ 191) = false := by simp; omega
            go_wp2_with (go_at_call 174; refine (within_any _ _ _ _).mono ?_; rintro e w1 ⟨rfl, rfl⟩)
            go_ret2
            rw [E.out]
            exact ⟨rfl, rfl⟩
      · obtain rfl : j = 3 := by omega
        have A2 := Lib.hid A.out
        clear A hr2 hjm
        generalize accR s i ((s[i]'hi).toNat - 240) 3 = R at *
        by_cases h1 : R < 65536
        · have E : Hid (atP s i = (0, 0)) := by show _ = _; rw [A2.out, if_neg]; intro h; have := h.2.2.2.2; unfold okB at this; omega
          clear A2
          go_wp2_with (go_at_call 174; refine (within_any _ _ _ _).mono ?_; rintro e w1 ⟨rfl, rfl⟩)
          go_ret2
          rw [E.out]
          exact ⟨rfl, rfl⟩
        have h1' : 65536 ≤ R := by omega
        clear h1
        by_cases h2 : 1114111 < R
        · have E : Hid (atP s i = (0, 0)) := by show _ = _; rw [A2.out, if_neg]; intro h; have := h.2.2.2.2; unfold okB at this; omega
          clear A2
          go_wp2_with (go_at_call 174; refine (within_any _ _ _ _).mono ?_; rintro e w1 ⟨rfl, rfl⟩)
          go_ret2
          rw [E.out]
          exact ⟨rfl, rfl⟩
        have h2' : R ≤ 1114111 := by omega
        clear h2
        by_cases h3 : 55296 ≤ R ∧ R ≤ 57343
        · have E : Hid (atP s i = (0, 0)) := by show _ = _; rw [A2.out, if_neg]; intro h; have := h.2.2.2.2; unfold okB at this; omega
          obtain ⟨h3, h4⟩ := h3
          clear A2
          go_wp2_with (go_at_call 174; refine (within_any _ _ _ _).mono ?_; rintro e w1 ⟨rfl, rfl⟩)
          go_ret2
          rw [E.out]
          exact ⟨rfl, rfl⟩
        have E : Hid (atP s i = (R.toNat, 4)) := by
          show _ = _
          rw [A2.out, if_pos]
          exact ⟨hl, HK.out 1 (by omega) (by omega), HK.out 2 (by omega) (by omega), HK.out 3 (by omega) (by omega), ⟨by omega, by omega, by omega⟩⟩
        have hRR : Hid (((R.toNat : Nat) : Int) = R) := by show _ = _; omega
        have h3' : 57343 < R := by omega
        clear A2 h3
        go_wp2_with (go_at_call 174; refine (within_any _ _ _ _).mono ?_; rintro e w1 ⟨rfl, rfl⟩)
        go_ret2
        rw [E.out]
        refine ⟨?_, rfl⟩
        show _ = Ending.returned (.tuple #[.int .i32 ((R.toNat : Nat) : Int), .int .i64 4])
        rw [hRR.out]
        rfl
  · have E : Hid (atP s i = (0, 0)) := by show _ = _; rw [A.out, if_neg]; intro h; exact hl h.1
    have hl' : (s.size : Int) < (i : Int) + 4 := by omega
    clear A
    go_enter Tryz.func130, Tryz.ntmps130
    go_wp2_with (go_at_call 174; refine (within_any _ _ _ _).mono ?_; rintro e w1 ⟨rfl, rfl⟩)
    go_ret2
    rw [E.out]
    exact ⟨rfl, rfl⟩

theorem at_any (s : ByteArray) (i : Nat) (w : World) (hz : s.size ≤ 100000) : Calls Tryz.prog 130 #[.string s, .int .i64 i] w fun e w' => e = .returned (.tuple #[.int .i32 (atP s i).1, .int .i64 (atP s i).2]) ∧ w = w'  := by
  by_cases hi : i < s.size
  · by_cases h1 : (s[i]'hi).toNat < 128
    · exact at_ascii s i w hi h1
    by_cases h2 : (s[i]'hi).toNat < 192
    · exact at_bad s i w hi (by omega) (.inl h2)
    by_cases h3 : (s[i]'hi).toNat ≤ 223
    · exact at_two s i w hi hz (by omega) h3
    by_cases h4 : (s[i]'hi).toNat ≤ 239
    · exact at_three s i w hi hz (by omega) h4
    by_cases h5 : (s[i]'hi).toNat ≤ 247
    · exact at_four s i w hi hz (by omega) h5
    exact at_bad s i w hi (by omega) (.inr (by omega))
  · exact at_end s i w hi
end Go.Proofs.YthiipgahbmoiiaaGreatDoor
