/-
  Both tests whether a text is a name answer what the plain functions say. No condition beyond those that each theorem states.
-/
import Derived.Test.YtfnmkgfaoacnpaaRefAt
import Derived.Test.YtfnmkgfaoacnpaaNameM
import Derived.Lib.OthersKept
namespace Go.Proofs.Ytfnmkgfaoacnpaa
open Go.RowKit

set_option maxHeartbeats 1000000 in
set_option maxRecDepth 100000 in
theorem rname_any (s : ByteArray) (w : World) (hz : s.size ≤ 100000) :
    Calls Try.prog 14 #[.string s] w fun e w' => e = .returned (.bool (rnameB s)) ∧ w = w' := by
  go_enter Try.func14, Try.ntmps14
  go_wp2
  go_loop [3, 4] (fun a b => ∃ f k n : Nat, a = .int .i64 n ∧ b = .int .i64 k ∧ k ≤ s.size ∧ n ≤ k ∧ s.size ≤ k + f ∧ Hid (rnameGo s f k n = rnameB s)) (fun _ b => s.size - (intOf b).toNat)
  case atStart => exact ⟨s.size, 0, 0, rfl, rfl, Nat.zero_le _, Nat.le_refl _, by omega, rfl⟩
  case round =>
    obtain ⟨f, k, n, rfl, rfl, hk, hnk, hf, HS⟩ := hrel
    by_cases hlt : k < s.size
    · have hlt' : (k : Int) < s.size := by omega
      obtain ⟨f, rfl⟩ : ∃ f', f = f' + 1 := ⟨f - 1, by omega⟩
      have hal := atP_le s k hlt
      by_cases hm : (atP s k).2 = 0
      · have E : Hid (rnameB s = false) := by
          show _ = _
          rw [← HS.out, rnameGo, if_pos hlt, if_neg (fun h => h.1 hm)]
        have q : ((((atP s k).2 : Nat) : Int) == 0) = true := by simp [hm]
        clear hm HS
        go_wp2_with (go_at_call 35; refine (at_any s k _ hz).mono ?_; rintro e w1 ⟨rfl, rfl⟩)
        go_ret
        rw [E.out]
        exact ⟨rfl, rfl⟩
      have q : ((((atP s k).2 : Nat) : Int) == 0) = false := by simp [hm]
      have hm1 : 1 ≤ (atP s k).2 := by omega
      by_cases hl : letterB ((atP s k).1 : Int) = true
      · have E : Hid (rnameGo s f (k + (atP s k).2) (n + 1) = rnameB s) := by
          show _ = _
          rw [← HS.out, rnameGo, if_pos hlt, if_pos ⟨hm, by simp [hl]⟩]
        clear hm HS
        go_wp2_with (first
          | (go_at_call 35; refine (at_any s k _ hz).mono ?_; rintro e w1 ⟨rfl, rfl⟩)
          | (go_at_call 44; refine (rdigit_any _ _).mono ?_; rintro e w1 ⟨rfl, rfl⟩)
          | (go_at_call 39; refine (rletter_any _ _).mono ?_; rintro e w1 ⟨rfl, rfl⟩))
        go_round
        case rel => exact ⟨f, k + (atP s k).2, n + 1, by go_num, by go_num, hal, by omega, by omega, E⟩
        case measure => simp [intOf]; omega
      have hl : letterB ((atP s k).1 : Int) = false := by simpa using hl
      by_cases hn : n = 0
      · have E : Hid (rnameB s = false) := by
          show _ = _
          rw [← HS.out, rnameGo, if_pos hlt, if_neg (fun h => by simp [hl, hn] at h)]
        have q2 : ((n : Int) == 0) = true := by simp [hn]
        clear hm HS hn
        go_wp2_with (first
          | (go_at_call 35; refine (at_any s k _ hz).mono ?_; rintro e w1 ⟨rfl, rfl⟩)
          | (go_at_call 44; refine (rdigit_any _ _).mono ?_; rintro e w1 ⟨rfl, rfl⟩)
          | (go_at_call 39; refine (rletter_any _ _).mono ?_; rintro e w1 ⟨rfl, rfl⟩))
        go_ret
        rw [E.out]
        exact ⟨rfl, rfl⟩
      have q2 : ((n : Int) == 0) = false := by simp [hn]
      have hn1 : 0 < n := by omega
      by_cases hd : digitB ((atP s k).1 : Int) = true
      · have E : Hid (rnameGo s f (k + (atP s k).2) (n + 1) = rnameB s) := by
          show _ = _
          rw [← HS.out, rnameGo, if_pos hlt, if_pos ⟨hm, by simp [hl, hd, hn1]⟩]
        clear hm HS hn
        go_wp2_with (first
          | (go_at_call 35; refine (at_any s k _ hz).mono ?_; rintro e w1 ⟨rfl, rfl⟩)
          | (go_at_call 44; refine (rdigit_any _ _).mono ?_; rintro e w1 ⟨rfl, rfl⟩)
          | (go_at_call 39; refine (rletter_any _ _).mono ?_; rintro e w1 ⟨rfl, rfl⟩))
        go_round
        case rel => exact ⟨f, k + (atP s k).2, n + 1, by go_num, by go_num, hal, by omega, by omega, E⟩
        case measure => simp [intOf]; omega
      have hd : digitB ((atP s k).1 : Int) = false := by simpa using hd
      have E : Hid (rnameB s = false) := by
        show _ = _
        rw [← HS.out, rnameGo, if_pos hlt, if_neg (fun h => by simp [hl, hd] at h)]
      clear hm HS hn
      go_wp2_with (first
        | (go_at_call 35; refine (at_any s k _ hz).mono ?_; rintro e w1 ⟨rfl, rfl⟩)
        | (go_at_call 44; refine (rdigit_any _ _).mono ?_; rintro e w1 ⟨rfl, rfl⟩)
        | (go_at_call 39; refine (rletter_any _ _).mono ?_; rintro e w1 ⟨rfl, rfl⟩))
      go_ret
      rw [E.out]
      exact ⟨rfl, rfl⟩
    · have hlt' : (s.size : Int) ≤ k := by omega
      have E : Hid (rnameB s = decide (1 ≤ n ∧ n ≤ 16)) := by
        show _ = _
        rw [← HS.out, rnameGo_end s f k n hlt]
      clear HS
      by_cases h1 : 1 ≤ n
      · have h1' : 1 ≤ (n : Int) := by omega
        go_wp2
        go_ret
        rw [E.out]
        refine ⟨ret_bool ?_, rfl⟩
        simp
        try omega
      · have h1' : (n : Int) < 1 := by omega
        go_wp2
        go_ret
        rw [E.out]
        refine ⟨ret_bool ?_, rfl⟩
        simp
        try omega

set_option maxHeartbeats 1000000 in
set_option maxRecDepth 100000 in
theorem name_any (s : ByteArray) (w : World) :
    Calls Try.prog 13 #[.string s] w fun e w' => e = .returned (.bool (nameB s)) ∧ Below w.heap.size w w' := by
  go_enter Try.func13, Try.ntmps13
  go_wp2
  go_loopw [3] (fun a wr => ∃ f k n : Nat, a = .int .i64 n ∧ wr.heap[w.heap.size]? = some (.stringIter s k) ∧ Below w.heap.size w wr ∧ n ≤ 16 ∧ s.size ≤ k + f ∧ Hid (nameGo s f k n = nameB s)) (fun _ wr => s.size - wr.iterPos w.heap.size)
  case atStart => exact ⟨s.size, 0, 0, rfl, World.iter_heap w s 0, (Below.refl _ _).alloc (Nat.le_refl _) _, by omega, by omega, rfl⟩
  case round =>
    obtain ⟨f, pos, n, rfl, hit, hbw, hn16, hf, HS⟩ := hrel
    have hpos0 := iter_pos hit
    by_cases hp : pos < s.size
    · have hnx : ∀ ty, (Instr.next (.pointer (some ⟨w.heap.size, 0, none⟩)) true ty).run Try.prog wr = _ := fun ty => Lib.run_next_any_at wr w.heap.size s pos ty hit hp
      have hwd := wide_pos s pos hp
      obtain ⟨f, rfl⟩ : ∃ f', f = f' + 1 := ⟨f - 1, by omega⟩
      have hit2 := Lib.iterAt_heap wr w.heap.size s pos (pos + (Utf8.decode s pos).2) hit
      have hbw2 := Lib.below_iterAt hbw (k := w.heap.size) (Nat.le_refl _) s (pos + (Utf8.decode s pos).2)
      obtain ⟨W1, hW1⟩ : ∃ W1, W1 = wr.iterAt w.heap.size s (pos + (Utf8.decode s pos).2) := ⟨_, rfl⟩
      rw [← hW1] at hnx hit2 hbw2
      have Hit2 := Lib.hid hit2
      have Hbw2 := Lib.hid hbw2
      have Hpos := Lib.hid hpos0
      clear hW1 hit hbw hit2 hbw2 hpos0
      have hr : Hid (∀ b : Bool, (letterB ((Utf8.decode s pos).1 : Int) || (decide (0 < n) && digitB ((Utf8.decode s pos).1 : Int))) = b → nameB s = if b = true ∧ n ≠ 16 then nameGo s f (pos + (Utf8.decode s pos).2) (n + 1) else false) := by
        intro b hb
        rw [← HS.out, nameGo, if_pos hp, hb]
      by_cases hl : letterB ((Utf8.decode s pos).1 : Int) = true
      · by_cases h16 : n = 16
        · have q16 : ((n : Int) == 16) = true := by simp [h16]
          have E : Hid (nameB s = false) := by show _ = _; rw [hr.out true (by simp [*])]; simp [h16]
          clear hr HS h16
          go_wp2_with (first
            | (go_at_call 43; refine (isDigit_any _ _).mono ?_; rintro e w1 ⟨rfl, rfl⟩)
            | (go_at_call 42; refine (letter_any _ _).mono ?_; rintro e w1 ⟨rfl, rfl⟩))
          go_ret
          rw [E.out]
          exact ⟨rfl, Hbw2.out⟩
        · have q16 : ((n : Int) == 16) = false := by simp; omega
          have E : Hid (nameGo s f (pos + (Utf8.decode s pos).2) (n + 1) = nameB s) := by show _ = _; rw [hr.out true (by simp [*]), if_pos ⟨rfl, h16⟩]
          clear hr HS
          go_wp2_with (first
            | (go_at_call 43; refine (isDigit_any _ _).mono ?_; rintro e w1 ⟨rfl, rfl⟩)
            | (go_at_call 42; refine (letter_any _ _).mono ?_; rintro e w1 ⟨rfl, rfl⟩))
          go_roundw
          case rel => exact ⟨f, pos + (Utf8.decode s pos).2, n + 1, by go_num, Hit2.out, Hbw2.out, by omega, by omega, E⟩
          case measure =>
            rw [iter_pos Hit2.out, Hpos.out]
            omega
      have hl : letterB ((Utf8.decode s pos).1 : Int) = false := by simpa using hl
      by_cases hn : n = 0
      · have q2 : decide (0 < n) = false := by simp [hn]
        have E : Hid (nameB s = false) := by show _ = _; rw [hr.out false (by simp [hl, hn])]; simp
        clear hr HS hn
        go_wp2_with (first
          | (go_at_call 43; refine (isDigit_any _ _).mono ?_; rintro e w1 ⟨rfl, rfl⟩)
          | (go_at_call 42; refine (letter_any _ _).mono ?_; rintro e w1 ⟨rfl, rfl⟩))
        go_ret
        rw [E.out]
        exact ⟨rfl, Hbw2.out⟩
      have q2 : (0 : Int) < n := by omega
      have hn1 : 0 < n := by omega
      by_cases hd : digitB ((Utf8.decode s pos).1 : Int) = true
      · by_cases h16 : n = 16
        · have q16 : ((n : Int) == 16) = true := by simp [h16]
          have E : Hid (nameB s = false) := by show _ = _; rw [hr.out true (by simp [*])]; simp [h16]
          clear hr HS h16
          go_wp2_with (first
            | (go_at_call 43; refine (isDigit_any _ _).mono ?_; rintro e w1 ⟨rfl, rfl⟩)
            | (go_at_call 42; refine (letter_any _ _).mono ?_; rintro e w1 ⟨rfl, rfl⟩))
          go_ret
          rw [E.out]
          exact ⟨rfl, Hbw2.out⟩
        · have q16 : ((n : Int) == 16) = false := by simp; omega
          have E : Hid (nameGo s f (pos + (Utf8.decode s pos).2) (n + 1) = nameB s) := by show _ = _; rw [hr.out true (by simp [*]), if_pos ⟨rfl, h16⟩]
          clear hr HS
          go_wp2_with (first
            | (go_at_call 43; refine (isDigit_any _ _).mono ?_; rintro e w1 ⟨rfl, rfl⟩)
            | (go_at_call 42; refine (letter_any _ _).mono ?_; rintro e w1 ⟨rfl, rfl⟩))
          go_roundw
          case rel => exact ⟨f, pos + (Utf8.decode s pos).2, n + 1, by go_num, Hit2.out, Hbw2.out, by omega, by omega, E⟩
          case measure =>
            rw [iter_pos Hit2.out, Hpos.out]
            omega
      have hd : digitB ((Utf8.decode s pos).1 : Int) = false := by simpa using hd
      have E : Hid (nameB s = false) := by show _ = _; rw [hr.out false (by simp [hl, hd])]; simp
      clear hr HS hn
      go_wp2_with (first
        | (go_at_call 43; refine (isDigit_any _ _).mono ?_; rintro e w1 ⟨rfl, rfl⟩)
        | (go_at_call 42; refine (letter_any _ _).mono ?_; rintro e w1 ⟨rfl, rfl⟩))
      go_ret
      rw [E.out]
      exact ⟨rfl, Hbw2.out⟩
    · have hnx : ∀ ty, (Instr.next (.pointer (some ⟨w.heap.size, 0, none⟩)) true ty).run Try.prog wr = _ := fun ty => Lib.run_next_end_at wr w.heap.size s pos ty hit hp
      have E : Hid (nameB s = decide (0 < n)) := by show _ = _; rw [← HS.out, nameGo_end s f pos n hp]
      have Hbw := Lib.hid hbw
      clear HS hit hbw hpos0
      go_wp2
      go_ret
      rw [E.out]
      refine ⟨ret_bool ?_, Hbw.out⟩
      simp
end Go.Proofs.Ytfnmkgfaoacnpaa
