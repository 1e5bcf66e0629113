/-
  The document's function for a run answers what the plain function says. No condition beyond those that each theorem states.
  The document's functions for a number's length and value answer what the plain functions say. No condition beyond those that each theorem states.
  The document's test for a sign answers what the plain function says. No condition beyond those that each theorem states.
  The document's test for a blank answers what the plain function says. No condition.
  A row of the document's words that a call made. No condition beyond those that each theorem states.
-/
import Derived.Test.YtbjmbahpcoanoaaGreatDoorPk46
import Derived.Test.YtbjmbahpcoanoaaGreatDoorPk20
import Derived.Test.YtbjmbahpcoanoaaGreatDoorPk45
import Derived.Test.YtbjmbahpcoanoaaGreatDoorPk14
namespace Go.Proofs.YtbjmbahpcoanoaaGreatDoor
open Go.RowKit

set_option maxHeartbeats 1000000 in
set_option maxRecDepth 100000 in
theorem run_true (s : ByteArray) (i : Nat) (w : World) (hi : i ≤ s.size) (hz : s.size ≤ 100000) :
    Calls Tryz.prog 123 #[.string s, .int .i64 i, .bool true] w fun e w' => e = .returned (.tuple #[.int .i64 (((runTo s true i).1 - i : Nat) : Int), .int .i64 (runTo s true i).2]) ∧ w = w' := by
 have hle := runTo_le s true i hi
 go_enter Tryz.func123, Tryz.ntmps123
 go_wp2
 go_loop [8, 9] (fun a b => ∃ f k n : Nat, a = .int .i64 k ∧ b = .int .i64 n ∧ i ≤ k ∧ k ≤ s.size ∧ n ≤ k ∧ s.size ≤ k + f ∧ Hid (runEnd s true f k n = runTo s true i)) (fun a _ => s.size - (intOf a).toNat)
 case atStart => exact ⟨s.size, i, 0, rfl, rfl, Nat.le_refl _, hi, Nat.zero_le _, by omega, rfl⟩
 case round =>
  obtain ⟨f, k, n, rfl, rfl, hik, hk, hnk, hf, HS⟩ := hrel
  by_cases hlt : k < s.size
  · have hlt' : (k : Int) < s.size := by omega
    obtain ⟨f, rfl⟩ : ∃ f', f = f' + 1 := ⟨f - 1, by omega⟩
    have hal := atP_le s k hlt
    by_cases hm : (atP s k).2 = 0
    · have E : Hid (runTo s true i = (k, n)) := by
        show _ = _
        rw [← HS.out]
        exact runEnd_stop s true _ k n (fun _ => .inl hm)
      have q : ((((atP s k).2 : Nat) : Int) == 0) = true := by simp [hm]
      clear hm HS hle
      go_wp2_with (go_at_call 118; refine (at_any s k _ hz).mono ?_; rintro e w1 ⟨rfl, rfl⟩)
      go_ret2
      rw [E.out]
      exact ⟨by simp; omega, rfl⟩
    · have q : ((((atP s k).2 : Nat) : Int) == 0) = false := by simp [hm]
      have hm1 : 1 ≤ (atP s k).2 := by omega
      by_cases hd : digitB ((atP s k).1 : Int) = true
      · have E : Hid (runEnd s true f (k + (atP s k).2) (n + 1) = runTo s true i) := by
          show _ = _
          rw [← HS.out, runEnd, if_pos hlt, if_neg (by simp [stopB, hm, hd])]
        clear HS hle hm
        go_wp2_with (first
        | (go_at_call 118; refine (at_any s k _ hz).mono ?_; rintro e w1 ⟨rfl, rfl⟩)
        | (go_at_call 166; refine (rdigit_any _ _).mono ?_; rintro e w1 ⟨rfl, rfl⟩)
        | (go_at_call 122; refine (rletter_any _ _).mono ?_; rintro e w1 ⟨rfl, rfl⟩))
        go_round
        case rel => exact ⟨f, k + (atP s k).2, n + 1, by go_num, by go_num, by omega, hal, by omega, by omega, E⟩
        case measure => simp [intOf]; omega
      have hd : digitB ((atP s k).1 : Int) = false := by simpa using hd
      have E : Hid (runTo s true i = (k, n)) := by
       show _ = _
       rw [← HS.out]
       exact runEnd_stop s true _ k n (fun _ => .inr (by simp [stopB, hd]))
      clear HS hle hm
      go_wp2_with (first
       | (go_at_call 118; refine (at_any s k _ hz).mono ?_; rintro e w1 ⟨rfl, rfl⟩)
       | (go_at_call 166; refine (rdigit_any _ _).mono ?_; rintro e w1 ⟨rfl, rfl⟩)
       | (go_at_call 122; refine (rletter_any _ _).mono ?_; rintro e w1 ⟨rfl, rfl⟩))
      go_ret2
      rw [E.out]
      exact ⟨by simp; omega, rfl⟩
  · have hlt' : (s.size : Int) ≤ k := by omega
    have E : Hid (runTo s true i = (k, n)) := by
     show _ = _
     rw [← HS.out]
     exact runEnd_stop s true _ k n (fun h => absurd h hlt)
    clear HS hle
    go_wp2
    go_ret2
    rw [E.out]
    exact ⟨by simp; omega, rfl⟩

set_option maxHeartbeats 1000000 in
set_option maxRecDepth 100000 in
theorem run_false (s : ByteArray) (i : Nat) (w : World) (hi : i ≤ s.size) (hz : s.size ≤ 100000) :
    Calls Tryz.prog 123 #[.string s, .int .i64 i, .bool false] w fun e w' => e = .returned (.tuple #[.int .i64 (((runTo s false i).1 - i : Nat) : Int), .int .i64 (runTo s false i).2]) ∧ w = w' := by
 have hle := runTo_le s false i hi
 go_enter Tryz.func123, Tryz.ntmps123
 go_wp2
 go_loop [8, 9] (fun a b => ∃ f k n : Nat, a = .int .i64 k ∧ b = .int .i64 n ∧ i ≤ k ∧ k ≤ s.size ∧ n ≤ k ∧ s.size ≤ k + f ∧ Hid (runEnd s false f k n = runTo s false i)) (fun a _ => s.size - (intOf a).toNat)
 case atStart => exact ⟨s.size, i, 0, rfl, rfl, Nat.le_refl _, hi, Nat.zero_le _, by omega, rfl⟩
 case round =>
  obtain ⟨f, k, n, rfl, rfl, hik, hk, hnk, hf, HS⟩ := hrel
  by_cases hlt : k < s.size
  · have hlt' : (k : Int) < s.size := by omega
    obtain ⟨f, rfl⟩ : ∃ f', f = f' + 1 := ⟨f - 1, by omega⟩
    have hal := atP_le s k hlt
    by_cases hm : (atP s k).2 = 0
    · have E : Hid (runTo s false i = (k, n)) := by
        show _ = _
        rw [← HS.out]
        exact runEnd_stop s false _ k n (fun _ => .inl hm)
      have q : ((((atP s k).2 : Nat) : Int) == 0) = true := by simp [hm]
      clear hm HS hle
      go_wp2_with (go_at_call 118; refine (at_any s k _ hz).mono ?_; rintro e w1 ⟨rfl, rfl⟩)
      go_ret2
      rw [E.out]
      exact ⟨by simp; omega, rfl⟩
    · have q : ((((atP s k).2 : Nat) : Int) == 0) = false := by simp [hm]
      have hm1 : 1 ≤ (atP s k).2 := by omega
      by_cases hd : digitB ((atP s k).1 : Int) = true
      · have E : Hid (runEnd s false f (k + (atP s k).2) (n + 1) = runTo s false i) := by
          show _ = _
          rw [← HS.out, runEnd, if_pos hlt, if_neg (by simp [stopB, hm, hd])]
        clear HS hle hm
        go_wp2_with (first
        | (go_at_call 118; refine (at_any s k _ hz).mono ?_; rintro e w1 ⟨rfl, rfl⟩)
        | (go_at_call 166; refine (rdigit_any _ _).mono ?_; rintro e w1 ⟨rfl, rfl⟩)
        | (go_at_call 122; refine (rletter_any _ _).mono ?_; rintro e w1 ⟨rfl, rfl⟩))
        go_round
        case rel => exact ⟨f, k + (atP s k).2, n + 1, by go_num, by go_num, by omega, hal, by omega, by omega, E⟩
        case measure => simp [intOf]; omega
      have hd : digitB ((atP s k).1 : Int) = false := by simpa using hd
      by_cases hl : letterB ((atP s k).1 : Int) = true
      · have E : Hid (runEnd s false f (k + (atP s k).2) (n + 1) = runTo s false i) := by
          show _ = _
          rw [← HS.out, runEnd, if_pos hlt, if_neg (by simp [stopB, hm, hl])]
        clear HS hle hm
        go_wp2_with (first
        | (go_at_call 118; refine (at_any s k _ hz).mono ?_; rintro e w1 ⟨rfl, rfl⟩)
        | (go_at_call 166; refine (rdigit_any _ _).mono ?_; rintro e w1 ⟨rfl, rfl⟩)
        | (go_at_call 122; refine (rletter_any _ _).mono ?_; rintro e w1 ⟨rfl, rfl⟩))
        go_round
        case rel => exact ⟨f, k + (atP s k).2, n + 1, by go_num, by go_num, by omega, hal, by omega, by omega, E⟩
        case measure => simp [intOf]; omega
      have hl : letterB ((atP s k).1 : Int) = false := by simpa using hl
      have E : Hid (runTo s false i = (k, n)) := by
       show _ = _
       rw [← HS.out]
       exact runEnd_stop s false _ k n (fun _ => .inr (by simp [stopB, hd, hl]))
      clear HS hle hm
      go_wp2_with (first
       | (go_at_call 118; refine (at_any s k _ hz).mono ?_; rintro e w1 ⟨rfl, rfl⟩)
       | (go_at_call 166; refine (rdigit_any _ _).mono ?_; rintro e w1 ⟨rfl, rfl⟩)
       | (go_at_call 122; refine (rletter_any _ _).mono ?_; rintro e w1 ⟨rfl, rfl⟩))
      go_ret2
      rw [E.out]
      exact ⟨by simp; omega, rfl⟩
  · have hlt' : (s.size : Int) ≤ k := by omega
    have E : Hid (runTo s false i = (k, n)) := by
     show _ = _
     rw [← HS.out]
     exact runEnd_stop s false _ k n (fun h => absurd h hlt)
    clear HS hle
    go_wp2
    go_ret2
    rw [E.out]
    exact ⟨by simp; omega, rfl⟩

end Go.Proofs.YtbjmbahpcoanoaaGreatDoor
namespace Go.Proofs.YtbjmbahpcoanoaaGreatDoor
open Go.RowKit

set_option maxRecDepth 100000 in
theorem numbers_any (s : ByteArray) (i : Nat) (w : World) (hi : i < s.size) (hz : s.size ≤ 100000) :
    Calls Tryz.prog 120 #[.string s, .int .i64 i] w fun e w' => e = .returned (.int .i64 (numLen s i)) ∧ w = w' := by
 have hi' : (i : Int) < s.size := by omega
 have hi0 : (0 : Int) ≤ i := by omega
 have hg := get_ok s i hi
 obtain ⟨h, hh⟩ : ∃ h, h = headOf s i := ⟨_, rfl⟩
 have hh1 : i ≤ h := by rw [hh]; unfold headOf; split <;> omega
 have hh2 : h ≤ s.size := by rw [hh]; unfold headOf; split <;> omega
 have hle := runTo_le s true h hh2
 obtain ⟨m, hm⟩ : ∃ m, m = (runTo s true h).1 - h := ⟨_, rfl⟩
 have hm1 : m ≤ 100000 := by omega
 have E : Hid (numLen s i = if m = 0 then 0 else (h - i) + m) := by show _ = _; rw [hm, hh]; rfl
 have R := Lib.hid (run_true s h w hh2 hz)
 rw [← hm] at R
 by_cases hb : (s[i]'hi).toNat = 45
 · have hv : h = i + 1 := by rw [hh]; unfold headOf; rw [hg, if_pos hb]
   have q : (((s[i]'hi).toNat : Int) == 45) = true := by simp [hb]
   subst hv
   clear hb hg hh hle hm
   by_cases h0 : m = 0
   · have q0 : ((m : Int) == 0) = true := by simp [h0]
     have E2 : Hid (numLen s i = 0) := by show _ = _; rw [E.out, if_pos h0]
     clear h0 E
     go_enter Tryz.func120, Tryz.ntmps120
     go_wp2_with fail
     refine R.out.mono ?_
     rintro e w1 ⟨rfl, rfl⟩
     go_wp2
     go_ret
     rw [E2.out]
     exact ⟨rfl, rfl⟩
   · have q0 : ((m : Int) == 0) = false := by simp [h0]
     have E2 : Hid (numLen s i = 1 + m) := by show _ = _; rw [E.out, if_neg h0]; omega
     clear h0 E
     go_enter Tryz.func120, Tryz.ntmps120
     go_wp2_with fail
     refine R.out.mono ?_
     rintro e w1 ⟨rfl, rfl⟩
     go_wp2
     go_ret
     rw [E2.out]
     exact ⟨by simp; omega, rfl⟩
 · have hv : h = i := by rw [hh]; unfold headOf; rw [hg, if_neg hb]
   have q : (((s[i]'hi).toNat : Int) == 45) = false := by simp; omega
   subst hv
   clear hb hg hh hle hm
   by_cases h0 : m = 0
   · have q0 : ((m : Int) == 0) = true := by simp [h0]
     have E2 : Hid (numLen s h = 0) := by show _ = _; rw [E.out, if_pos h0]
     clear h0 E
     go_enter Tryz.func120, Tryz.ntmps120
     go_wp2_with fail
     refine R.out.mono ?_
     rintro e w1 ⟨rfl, rfl⟩
     go_wp2
     go_ret
     rw [E2.out]
     exact ⟨rfl, rfl⟩
   · have q0 : ((m : Int) == 0) = false := by simp [h0]
     have E2 : Hid (numLen s h = m) := by show _ = _; rw [E.out, if_neg h0]; omega
     clear h0 E
     go_enter Tryz.func120, Tryz.ntmps120
     go_wp2_with fail
     refine R.out.mono ?_
     rintro e w1 ⟨rfl, rfl⟩
     go_wp2
     go_ret
     rw [E2.out]
     exact ⟨by simp, rfl⟩

set_option maxHeartbeats 1000000 in
set_option maxRecDepth 100000 in
theorem value_any (t : ByteArray) (w : World) (ht : 0 < t.size) (hz : t.size ≤ 100000) (hd : Digs t) :
    Calls Tryz.prog 121 #[.string t] w fun e w' => e = .returned (.tuple #[.int .i64 (valN t), .bool (valOk t)]) ∧ w = w' := by
 have HD := Lib.hid hd
 have ht0 : (0 : Int) < t.size := by omega
 have h0 := get_ok t 0 ht
 go_enter Tryz.func121, Tryz.ntmps121
 go_wp2
 go_loop [4, 5] (fun a b => ∃ k : Nat, a = .int .i64 (valT t k) ∧ b = .int .i64 k ∧ k ≤ t.size ∧ valT t k ≤ 1099511627776) (fun _ b => t.size - (intOf b).toNat)
 case atStart => exact ⟨0, rfl, rfl, Nat.zero_le _, by show (0 : Int) ≤ _; omega⟩
 case round =>
  obtain ⟨k, rfl, rfl, hk, hv⟩ := hrel
  have hv0 := valT_pos HD.out k hk
  by_cases hlt : k < t.size
  · have hlt' : (k : Int) < t.size := by omega
    have hg := get_ok t k hlt
    have hdk := HD.out k hlt
    rw [hg] at hdk
    have N : Hid (valT t (k + 1) = if (t[k]'hlt).toNat = 45 then valT t k else 10 * valT t k + ((t[k]'hlt).toNat - 48)) := by show _ = _; rw [valT, hg]
    clear hg h0 hd
    by_cases hb : (t[k]'hlt).toNat = 45
    · have q : (((t[k]'hlt).toNat : Int) == 45) = true := by simp [hb]
      have N2 : Hid (valT t (k + 1) = valT t k) := by show _ = _; rw [N.out, if_pos hb]
      clear hb N hdk
      go_wp2
      go_round
      case rel => exact ⟨k + 1, by rw [N2.out], by go_num, by omega, by rw [N2.out]; exact hv⟩
      case measure => simp [intOf]; omega
    · have q : (((t[k]'hlt).toNat : Int) == 45) = false := by simp; omega
      have hd2 : 48 ≤ (t[k]'hlt).toNat ∧ (t[k]'hlt).toNat ≤ 57 := hdk.resolve_left hb
      have N2 : Hid (valT t (k + 1) = 10 * valT t k + ((t[k]'hlt).toNat - 48)) := by show _ = _; rw [N.out, if_neg hb]
      have hd3 : 48 ≤ ((t[k]'hlt).toNat : Int) := by omega
      have hd4 : ((t[k]'hlt).toNat : Int) ≤ 57 := by omega
      clear hb N hdk hd2
      by_cases hov : 1099511627776 < 10 * valT t k + (((t[k]'hlt).toNat : Int) - 48)
      · have hno : valOk t = false := by
          unfold valOk
          have := valT_le HD.out (t.size - (k + 1)) (k + 1) (by omega)
          have e : k + 1 + (t.size - (k + 1)) = t.size := by omega
          rw [e, N2.out] at this
          simp
          omega
        have E : Hid (valOk t = false ∧ valN t = 0) := ⟨hno, by unfold valN; rw [if_neg (by simp [hno])]⟩
        clear hno N2
        go_wp2
        go_ret2
        rw [E.out.1, E.out.2]
        exact ⟨rfl, rfl⟩
      · have hov2 : 10 * valT t k + (((t[k]'hlt).toNat : Int) - 48) ≤ 1099511627776 := by omega
        clear hov
        go_wp2
        go_round
        case rel => exact ⟨k + 1, by rw [N2.out], by go_num, by omega, by rw [N2.out]; exact hov2⟩
        case measure => simp [intOf]; omega
  · have hlt' : (t.size : Int) ≤ k := by omega
    obtain rfl : k = t.size := by omega
    have hok : valOk t = true := by unfold valOk; simp; omega
    by_cases hb : (t[0]'ht).toNat = 45
    · have q : (((t[0]'ht).toNat : Int) == 45) = true := by simp [hb]
      have E : Hid (valOk t = true ∧ valN t = -valT t t.size) := ⟨hok, by unfold valN; rw [if_pos hok, h0, if_pos hb]⟩
      clear hb hok h0 hd
      go_wp2
      go_ret2
      rw [E.out.1, E.out.2]
      exact ⟨rfl, rfl⟩
    · have q : (((t[0]'ht).toNat : Int) == 45) = false := by simp; omega
      have E : Hid (valOk t = true ∧ valN t = valT t t.size) := ⟨hok, by unfold valN; rw [if_pos hok, h0, if_neg hb]⟩
      clear hb hok h0 hd
      go_wp2
      go_ret2
      rw [E.out.1, E.out.2]
      exact ⟨rfl, rfl⟩
end Go.Proofs.YtbjmbahpcoanoaaGreatDoor
namespace Go.Proofs.YtbjmbahpcoanoaaGreatDoor
open Go.RowKit

theorem rsign_any (r : Int) (w : World) : Calls Tryz.prog 124 #[.int .i32 r] w fun e w' => e = .returned (.bool (signB r)) ∧ w = w' := by
 by_cases h0 : r = 61
 · go_enter Tryz.func124, Tryz.ntmps124
   go_wp2
   go_ret
   refine ⟨ret_bool ?_, rfl⟩
   simp [signB, h0]
 by_cases h1 : r = 44
 · go_enter Tryz.func124, Tryz.ntmps124
   go_wp2
   go_ret
   refine ⟨ret_bool ?_, rfl⟩
   simp [signB, h1]
 by_cases h2 : r = 58
 · go_enter Tryz.func124, Tryz.ntmps124
   go_wp2
   go_ret
   refine ⟨ret_bool ?_, rfl⟩
   simp [signB, h2]
 by_cases h3 : r = 40
 · go_enter Tryz.func124, Tryz.ntmps124
   go_wp2
   go_ret
   refine ⟨ret_bool ?_, rfl⟩
   simp [signB, h3]
 by_cases h4 : r = 41
 · go_enter Tryz.func124, Tryz.ntmps124
   go_wp2
   go_ret
   refine ⟨ret_bool ?_, rfl⟩
   simp [signB, h4]
 by_cases h5 : r = 91
 · go_enter Tryz.func124, Tryz.ntmps124
   go_wp2
   go_ret
   refine ⟨ret_bool ?_, rfl⟩
   simp [signB, h5]
 by_cases h6 : r = 93
 · go_enter Tryz.func124, Tryz.ntmps124
   go_wp2
   go_ret
   refine ⟨ret_bool ?_, rfl⟩
   simp [signB, h6]
 by_cases h7 : r = 43
 · go_enter Tryz.func124, Tryz.ntmps124
   go_wp2
   go_ret
   refine ⟨ret_bool ?_, rfl⟩
   simp [signB, h7]
 by_cases h8 : r = 8594
 · go_enter Tryz.func124, Tryz.ntmps124
   go_wp2
   go_ret
   refine ⟨ret_bool ?_, rfl⟩
   simp [signB, h8]
 by_cases h9 : r = 8592
 · go_enter Tryz.func124, Tryz.ntmps124
   go_wp2
   go_ret
   refine ⟨ret_bool ?_, rfl⟩
   simp [signB, h9]
 go_enter Tryz.func124, Tryz.ntmps124
 go_wp2
 go_ret
 refine ⟨ret_bool ?_, rfl⟩
 simp [signB, h0, h1, h2, h3, h4, h5, h6, h7, h8, h9]
end Go.Proofs.YtbjmbahpcoanoaaGreatDoor
namespace Go.Proofs.YtbjmbahpcoanoaaGreatDoor
open Go.RowKit

theorem blank_any (r : Int) (w : World) : Calls Tryz.prog 119 #[.int .i32 r] w fun e w' => e = .returned (.bool (decide (r = 32 ∨ r = 9))) ∧ w = w' := by
 by_cases h : r = 32
 all_goals
  go_enter Tryz.func119, Tryz.ntmps119
  go_wp2
  go_ret
  refine ⟨ret_bool ?_, rfl⟩
  simp [h]
end Go.Proofs.YtbjmbahpcoanoaaGreatDoor
namespace Go.Proofs.YtbjmbahpcoanoaaGreatDoor
open Go.RowKit

theorem rword_info : (Tryz.prog.info? 121).map (fun i => (i.zero, i.size, i.bytes)) = some (some (.agg #[.int .i64 0, .string noText, .int .i64 0, .int .i64 0, .int .i64 0]), 5, 48) := by kernel_rfl
/-- The words so far. -/
def Outs (w : World) (B : Nat) (v : Value) (ws : List Wd) : Prop := w.ownsRow B 121 5 v ws.length (ws.flatMap flatW)
theorem Outs.more {w2 : World} {B gg cap : Nat} {ws : List Wd} {x : Wd} (h : w2.ownsRow B 121 5 (.slice (some ⟨gg, 0, none⟩) (ws.length + 1) cap) (ws.length + 1) (ws.flatMap flatW ++ flatW x)) :
    Outs w2 B (.slice (some ⟨gg, 0, none⟩) (ws.length + 1) cap) (ws ++ [x]) := by
 unfold Outs
 rw [List.length_append, List.flatMap_append]
 simpa using h
end Go.Proofs.YtbjmbahpcoanoaaGreatDoor
