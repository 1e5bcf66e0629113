/-
  The document's function for a run answers what the plain function says. No condition beyond those that each theorem states.
-/
import Derived.Test.YtkfplffcegbdfaaGreatDoorRefAt
import Derived.Test.YtkfplffcegbdfaaGreatDoorPk7
namespace Go.Proofs.YtkfplffcegbdfaaGreatDoor
open Go.RowKit

set_option maxHeartbeats 1000000 in
set_option maxRecDepth 100000 in
theorem run_true (s : ByteArray) (i : Nat) (w : World) (hi : i ≤ s.size) (hz : s.size ≤ 100000) :
    Calls Tryz.prog 129 #[.string s, .int .i64 i, .bool true] w fun e w' => e = .returned (.tuple #[.int .i64 (((runTo s true i).1 - i : Nat) : Int), .int .i64 (runTo s true i).2]) ∧ w = w' := by
  have hle := runTo_le s true i hi
  go_enter Tryz.func129, Tryz.ntmps129
  go_wp2
  go_loop [8, 9] (fun a b => ∃ f k n : Nat, a = .int .i64 k ∧ b = .int .i64 n ∧ i ≤ k ∧ k ≤ s.size ∧ n ≤ k ∧ s.size ≤ k + f ∧ Hid (runEnd s true f k n = runTo s true i)) (fun a _ => s.size - (intOf a).toNat)
  case atStart => exact ⟨s.size, i, 0, rfl, rfl, Nat.le_refl _, hi, Nat.zero_le _, by omega, rfl⟩
  case round =>
    obtain ⟨f, k, n, rfl, rfl, hik, hk, hnk, hf, HS⟩ := hrel
    by_cases hlt : k < s.size
    · have hlt' : (k : Int) < s.size := by omega
      obtain ⟨f, rfl⟩ : ∃ f', f = f' + 1 := ⟨f - 1, by omega⟩
      have hal := atP_le s k hlt
      by_cases hm : (atP s k).2 = 0
      · have E : Hid (runTo s true i = (k, n)) := by
          show _ = _
          rw [← HS.out]
          exact runEnd_stop s true _ k n (fun _ => .inl hm)
        have q : ((((atP s k).2 : Nat) : Int) == 0) = true := by simp [hm]
        clear hm HS hle
        go_wp2_with (go_at_call 124; refine (at_any s k _ hz).mono ?_; rintro e w1 ⟨rfl, rfl⟩)
        go_ret2
        rw [E.out]
        exact ⟨by simp; omega, rfl⟩
      · have q : ((((atP s k).2 : Nat) : Int) == 0) = false := by simp [hm]
        have hm1 : 1 ≤ (atP s k).2 := by omega
        by_cases hd : digitB ((atP s k).1 : Int) = true
        · have E : Hid (runEnd s true f (k + (atP s k).2) (n + 1) = runTo s true i) := by
            show _ = _
            rw [← HS.out, runEnd, if_pos hlt, if_neg (by simp [stopB, hm, hd])]
          clear HS hle hm
          go_wp2_with (first
          | (go_at_call 124; refine (at_any s k _ hz).mono ?_; rintro e w1 ⟨rfl, rfl⟩)
          | (go_at_call 148; refine (rdigit_any _ _).mono ?_; rintro e w1 ⟨rfl, rfl⟩)
          | (go_at_call 128; refine (rletter_any _ _).mono ?_; rintro e w1 ⟨rfl, rfl⟩))
          go_round
          case rel => exact ⟨f, k + (atP s k).2, n + 1, by go_num, by go_num, by omega, hal, by omega, by omega, E⟩
          case measure => simp [intOf]; omega
        have hd : digitB ((atP s k).1 : Int) = false := by simpa using hd
        have E : Hid (runTo s true i = (k, n)) := by
          show _ = _
          rw [← HS.out]
          exact runEnd_stop s true _ k n (fun _ => .inr (by simp [stopB, hd]))
        clear HS hle hm
        go_wp2_with (first
          | (go_at_call 124; refine (at_any s k _ hz).mono ?_; rintro e w1 ⟨rfl, rfl⟩)
          | (go_at_call 148; refine (rdigit_any _ _).mono ?_; rintro e w1 ⟨rfl, rfl⟩)
          | (go_at_call 128; refine (rletter_any _ _).mono ?_; rintro e w1 ⟨rfl, rfl⟩))
        go_ret2
        rw [E.out]
        exact ⟨by simp; omega, rfl⟩
    · have hlt' : (s.size : Int) ≤ k := by omega
      have E : Hid (runTo s true i = (k, n)) := by
        show _ = _
        rw [← HS.out]
        exact runEnd_stop s true _ k n (fun h => absurd h hlt)
      clear HS hle
      go_wp2
      go_ret2
      rw [E.out]
      exact ⟨by simp; omega, rfl⟩

set_option maxHeartbeats 1000000 in
set_option maxRecDepth 100000 in
theorem run_false (s : ByteArray) (i : Nat) (w : World) (hi : i ≤ s.size) (hz : s.size ≤ 100000) :
    Calls Tryz.prog 129 #[.string s, .int .i64 i, .bool false] w fun e w' => e = .returned (.tuple #[.int .i64 (((runTo s false i).1 - i : Nat) : Int), .int .i64 (runTo s false i).2]) ∧ w = w' := by
  have hle := runTo_le s false i hi
  go_enter Tryz.func129, Tryz.ntmps129
  go_wp2
  go_loop [8, 9] (fun a b => ∃ f k n : Nat, a = .int .i64 k ∧ b = .int .i64 n ∧ i ≤ k ∧ k ≤ s.size ∧ n ≤ k ∧ s.size ≤ k + f ∧ Hid (runEnd s false f k n = runTo s false i)) (fun a _ => s.size - (intOf a).toNat)
  case atStart => exact ⟨s.size, i, 0, rfl, rfl, Nat.le_refl _, hi, Nat.zero_le _, by omega, rfl⟩
  case round =>
    obtain ⟨f, k, n, rfl, rfl, hik, hk, hnk, hf, HS⟩ := hrel
    by_cases hlt : k < s.size
    · have hlt' : (k : Int) < s.size := by omega
      obtain ⟨f, rfl⟩ : ∃ f', f = f' + 1 := ⟨f - 1, by omega⟩
      have hal := atP_le s k hlt
      by_cases hm : (atP s k).2 = 0
      · have E : Hid (runTo s false i = (k, n)) := by
          show _ = _
          rw [← HS.out]
          exact runEnd_stop s false _ k n (fun _ => .inl hm)
        have q : ((((atP s k).2 : Nat) : Int) == 0) = true := by simp [hm]
        clear hm HS hle
        go_wp2_with (go_at_call 124; refine (at_any s k _ hz).mono ?_; rintro e w1 ⟨rfl, rfl⟩)
        go_ret2
        rw [E.out]
        exact ⟨by simp; omega, rfl⟩
      · have q : ((((atP s k).2 : Nat) : Int) == 0) = false := by simp [hm]
        have hm1 : 1 ≤ (atP s k).2 := by omega
        by_cases hd : digitB ((atP s k).1 : Int) = true
        · have E : Hid (runEnd s false f (k + (atP s k).2) (n + 1) = runTo s false i) := by
            show _ = _
            rw [← HS.out, runEnd, if_pos hlt, if_neg (by simp [stopB, hm, hd])]
          clear HS hle hm
          go_wp2_with (first
          | (go_at_call 124; refine (at_any s k _ hz).mono ?_; rintro e w1 ⟨rfl, rfl⟩)
          | (go_at_call 148; refine (rdigit_any _ _).mono ?_; rintro e w1 ⟨rfl, rfl⟩)
          | (go_at_call 128; refine (rletter_any _ _).mono ?_; rintro e w1 ⟨rfl, rfl⟩))
          go_round
          case rel => exact ⟨f, k + (atP s k).2, n + 1, by go_num, by go_num, by omega, hal, by omega, by omega, E⟩
          case measure => simp [intOf]; omega
        have hd : digitB ((atP s k).1 : Int) = false := by simpa using hd
        by_cases hl : letterB ((atP s k).1 : Int) = true
        · have E : Hid (runEnd s false f (k + (atP s k).2) (n + 1) = runTo s false i) := by
            show _ = _
            rw [← HS.out, runEnd, if_pos hlt, if_neg (by simp [stopB, hm, hl])]
          clear HS hle hm
          go_wp2_with (first
          | (go_at_call 124; refine (at_any s k _ hz).mono ?_; rintro e w1 ⟨rfl, rfl⟩)
          | (go_at_call 148; refine (rdigit_any _ _).mono ?_; rintro e w1 ⟨rfl, rfl⟩)
          | (go_at_call 128; refine (rletter_any _ _).mono ?_; rintro e w1 ⟨rfl, rfl⟩))
          go_round
          case rel => exact ⟨f, k + (atP s k).2, n + 1, by go_num, by go_num, by omega, hal, by omega, by omega, E⟩
          case measure => simp [intOf]; omega
        have hl : letterB ((atP s k).1 : Int) = false := by simpa using hl
        have E : Hid (runTo s false i = (k, n)) := by
          show _ = _
          rw [← HS.out]
          exact runEnd_stop s false _ k n (fun _ => .inr (by simp [stopB, hd, hl]))
        clear HS hle hm
        go_wp2_with (first
          | (go_at_call 124; refine (at_any s k _ hz).mono ?_; rintro e w1 ⟨rfl, rfl⟩)
          | (go_at_call 148; refine (rdigit_any _ _).mono ?_; rintro e w1 ⟨rfl, rfl⟩)
          | (go_at_call 128; refine (rletter_any _ _).mono ?_; rintro e w1 ⟨rfl, rfl⟩))
        go_ret2
        rw [E.out]
        exact ⟨by simp; omega, rfl⟩
    · have hlt' : (s.size : Int) ≤ k := by omega
      have E : Hid (runTo s false i = (k, n)) := by
        show _ = _
        rw [← HS.out]
        exact runEnd_stop s false _ k n (fun h => absurd h hlt)
      clear HS hle
      go_wp2
      go_ret2
      rw [E.out]
      exact ⟨by simp; omega, rfl⟩

end Go.Proofs.YtkfplffcegbdfaaGreatDoor
