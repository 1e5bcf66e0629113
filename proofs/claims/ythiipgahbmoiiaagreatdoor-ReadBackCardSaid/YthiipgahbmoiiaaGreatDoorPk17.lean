/-
  What a rune is for is told as the plain function says. No condition beyond those that each theorem states.
-/
import Derived.Test.YthiipgahbmoiiaaGreatDoorPk16
import Derived.Test.YthiipgahbmoiiaaGreatDoorPk8
import Derived.Lib.IndexBytes
namespace Go.Proofs.YthiipgahbmoiiaaGreatDoor
open Go.RowKit

/-- Bytes that are no rune. -/
theorem use_raw (g : Nat) (s : ByteArray) (σ : Rd) (i : Nat) (r : Int) (b : Nat) (w : World) (h : Lies w b g s σ) (hi : i < s.size) (hz : s.size ≤ 300000) (hr : r = 65533) (hp : ([239, 191, 189] : List UInt8).isPrefixOf (s.data.toList.drop i) = false) :
    Calls Tryz.prog 156 #[.pointer (some ⟨g, 0, none⟩), .int .i64 i, .int .i32 r] w fun e w' => e = .returned (.int .i64 (useOf s σ.remark i r)) ∧ w = w'  := by
  have m10 : w.cell? ⟨g, 10, none⟩ = some (.string s) := by obtain ⟨a, c, hb, _⟩ := h; exact hb.cell 10
  have m12 : w.cell? ⟨g, 12, none⟩ = some (.bool σ.remark) := by obtain ⟨a, c, hb, _⟩ := h; exact hb.cell 12
  have hi' : (i : Int) ≤ s.size := by omega
  have hi0 : (0 : Int) ≤ i := by omega
  have D := Lib.hid (digit_behind_any g s σ i b w h hi hz)
  clear h
  have E : Hid (useOf s σ.remark i r = 0) := by show _ = _; simp [useOf, rawB, hr, hp]
  have q : (r == 65533) = true := by simp [hr]
  have P : Hid (Lib.hasPrefix (s.extract i s.size).data.toList (⟨#[239, 191, 189]⟩ : ByteArray).data.toList = false) := by
    show _ = _
    rw [Lib.extract_to_end]
    exact hp
  clear hr hp
  go_enter Tryz.func156, Tryz.ntmps156
  go_wp2_with fail
  refine (Tryz.strings_HasPrefix _ _ _).mono ?_
  rintro e w1 ⟨rfl, rfl⟩
  rw [P.out]
  go_wp2
  go_ret
  exact ⟨by rw [E.out]; rfl, rfl⟩

/-- U+FFFD itself. -/
theorem use_fffd (g : Nat) (s : ByteArray) (σ : Rd) (i : Nat) (r : Int) (b : Nat) (w : World) (h : Lies w b g s σ) (hi : i < s.size) (hz : s.size ≤ 300000) (hr : r = 65533) (hp : ([239, 191, 189] : List UInt8).isPrefixOf (s.data.toList.drop i) = true) :
    Calls Tryz.prog 156 #[.pointer (some ⟨g, 0, none⟩), .int .i64 i, .int .i32 r] w fun e w' => e = .returned (.int .i64 (useOf s σ.remark i r)) ∧ w = w'  := by
  have m10 : w.cell? ⟨g, 10, none⟩ = some (.string s) := by obtain ⟨a, c, hb, _⟩ := h; exact hb.cell 10
  have m12 : w.cell? ⟨g, 12, none⟩ = some (.bool σ.remark) := by obtain ⟨a, c, hb, _⟩ := h; exact hb.cell 12
  have hi' : (i : Int) ≤ s.size := by omega
  have hi0 : (0 : Int) ≤ i := by omega
  have D := Lib.hid (digit_behind_any g s σ i b w h hi hz)
  clear h
  subst hr
  have P : Hid (Lib.hasPrefix (s.extract i s.size).data.toList (⟨#[239, 191, 189]⟩ : ByteArray).data.toList = true) := by
    show _ = _
    rw [Lib.extract_to_end]
    exact hp
  cases hm : σ.remark
  · have s0 : signB 65533 = false := by decide
    have l0 : letterB 65533 = false := by decide
    have d0 : digitB 65533 = false := by decide
    have E : Hid (useOf s false i 65533 = 0) := by show _ = _; simp [useOf, rawB, hp, s0, l0, d0]
    rw [hm] at m12
    clear hm hp
    go_enter Tryz.func156, Tryz.ntmps156
    go_wp2_with fail
    refine (Tryz.strings_HasPrefix _ _ _).mono ?_
    rintro e w1 ⟨rfl, rfl⟩
    rw [P.out]
    go_wp2_with (first
      | (go_at_call 186; refine (sign_any _ _).mono ?_; rintro e w1 ⟨rfl, rfl⟩)
      | (go_at_call 188; refine (letter_any _ _).mono ?_; rintro e w1 ⟨rfl, rfl⟩)
      | (go_at_call 189; refine (isDigit_any _ _).mono ?_; rintro e w1 ⟨rfl, rfl⟩))
    go_ret
    exact ⟨by rw [E.out]; rfl, rfl⟩
  · have E : Hid (useOf s true i 65533 = 3) := by show _ = _; simp [useOf, rawB, hp]
    rw [hm] at m12
    clear hm hp
    go_enter Tryz.func156, Tryz.ntmps156
    go_wp2_with fail
    refine (Tryz.strings_HasPrefix _ _ _).mono ?_
    rintro e w1 ⟨rfl, rfl⟩
    rw [P.out]
    go_wp2_with (first
      | (go_at_call 186; refine (sign_any _ _).mono ?_; rintro e w1 ⟨rfl, rfl⟩)
      | (go_at_call 188; refine (letter_any _ _).mono ?_; rintro e w1 ⟨rfl, rfl⟩)
      | (go_at_call 189; refine (isDigit_any _ _).mono ?_; rintro e w1 ⟨rfl, rfl⟩))
    go_ret
    exact ⟨by rw [E.out]; rfl, rfl⟩

theorem use_r10 (g : Nat) (s : ByteArray) (σ : Rd) (i : Nat) (r : Int) (b : Nat) (w : World) (h : Lies w b g s σ) (hi : i < s.size) (hz : s.size ≤ 300000) (hf : ¬ r = 65533) (h10 : r = 10) :
    Calls Tryz.prog 156 #[.pointer (some ⟨g, 0, none⟩), .int .i64 i, .int .i32 r] w fun e w' => e = .returned (.int .i64 (useOf s σ.remark i r)) ∧ w = w'  := by
  have m10 : w.cell? ⟨g, 10, none⟩ = some (.string s) := by obtain ⟨a, c, hb, _⟩ := h; exact hb.cell 10
  have m12 : w.cell? ⟨g, 12, none⟩ = some (.bool σ.remark) := by obtain ⟨a, c, hb, _⟩ := h; exact hb.cell 12
  have hi' : (i : Int) ≤ s.size := by omega
  have hi0 : (0 : Int) ≤ i := by omega
  have D := Lib.hid (digit_behind_any g s σ i b w h hi hz)
  clear h
  subst h10
  have E : Hid (useOf s σ.remark i 10 = 1) := by show _ = _; simp [useOf, rawB]
  go_enter Tryz.func156, Tryz.ntmps156
  go_wp2_with (first
    | (go_at_call 185; refine (Tryz.strings_HasPrefix _ _ _).mono ?_; rintro e w1 ⟨rfl, rfl⟩)
    | (go_at_call 186; refine (sign_any _ _).mono ?_; rintro e w1 ⟨rfl, rfl⟩)
    | (go_at_call 187; refine (D.out).mono ?_; rintro e w1 ⟨rfl, rfl⟩)
    | (go_at_call 188; refine (letter_any _ _).mono ?_; rintro e w1 ⟨rfl, rfl⟩)
    | (go_at_call 189; refine (isDigit_any _ _).mono ?_; rintro e w1 ⟨rfl, rfl⟩))
  go_ret
  exact ⟨by rw [E.out]; rfl, rfl⟩

theorem use_rem (g : Nat) (s : ByteArray) (σ : Rd) (i : Nat) (r : Int) (b : Nat) (w : World) (h : Lies w b g s σ) (hi : i < s.size) (hz : s.size ≤ 300000) (hf : ¬ r = 65533) (h10 : ¬ r = 10) (hm : σ.remark = true) :
    Calls Tryz.prog 156 #[.pointer (some ⟨g, 0, none⟩), .int .i64 i, .int .i32 r] w fun e w' => e = .returned (.int .i64 (useOf s σ.remark i r)) ∧ w = w'  := by
  have m10 : w.cell? ⟨g, 10, none⟩ = some (.string s) := by obtain ⟨a, c, hb, _⟩ := h; exact hb.cell 10
  have m12 : w.cell? ⟨g, 12, none⟩ = some (.bool σ.remark) := by obtain ⟨a, c, hb, _⟩ := h; exact hb.cell 12
  have hi' : (i : Int) ≤ s.size := by omega
  have hi0 : (0 : Int) ≤ i := by omega
  have D := Lib.hid (digit_behind_any g s σ i b w h hi hz)
  clear h
  have E : Hid (useOf s σ.remark i r = 3) := by show _ = _; simp [useOf, rawB, hf, h10, hm]
  rw [hm] at m12
  clear hm
  go_enter Tryz.func156, Tryz.ntmps156
  go_wp2_with (first
    | (go_at_call 185; refine (Tryz.strings_HasPrefix _ _ _).mono ?_; rintro e w1 ⟨rfl, rfl⟩)
    | (go_at_call 186; refine (sign_any _ _).mono ?_; rintro e w1 ⟨rfl, rfl⟩)
    | (go_at_call 187; refine (D.out).mono ?_; rintro e w1 ⟨rfl, rfl⟩)
    | (go_at_call 188; refine (letter_any _ _).mono ?_; rintro e w1 ⟨rfl, rfl⟩)
    | (go_at_call 189; refine (isDigit_any _ _).mono ?_; rintro e w1 ⟨rfl, rfl⟩))
  go_ret
  exact ⟨by rw [E.out]; rfl, rfl⟩

theorem use_b32 (g : Nat) (s : ByteArray) (σ : Rd) (i : Nat) (r : Int) (b : Nat) (w : World) (h : Lies w b g s σ) (hi : i < s.size) (hz : s.size ≤ 300000) (hf : ¬ r = 65533) (hm : σ.remark = false) (hr : r = 32) :
    Calls Tryz.prog 156 #[.pointer (some ⟨g, 0, none⟩), .int .i64 i, .int .i32 r] w fun e w' => e = .returned (.int .i64 (useOf s σ.remark i r)) ∧ w = w'  := by
  have m10 : w.cell? ⟨g, 10, none⟩ = some (.string s) := by obtain ⟨a, c, hb, _⟩ := h; exact hb.cell 10
  have m12 : w.cell? ⟨g, 12, none⟩ = some (.bool σ.remark) := by obtain ⟨a, c, hb, _⟩ := h; exact hb.cell 12
  have hi' : (i : Int) ≤ s.size := by omega
  have hi0 : (0 : Int) ≤ i := by omega
  have D := Lib.hid (digit_behind_any g s σ i b w h hi hz)
  clear h
  subst hr
  have E : Hid (useOf s σ.remark i 32 = 3) := by show _ = _; simp [useOf, rawB, hm]
  rw [hm] at m12
  clear hm
  go_enter Tryz.func156, Tryz.ntmps156
  go_wp2_with (first
    | (go_at_call 185; refine (Tryz.strings_HasPrefix _ _ _).mono ?_; rintro e w1 ⟨rfl, rfl⟩)
    | (go_at_call 186; refine (sign_any _ _).mono ?_; rintro e w1 ⟨rfl, rfl⟩)
    | (go_at_call 187; refine (D.out).mono ?_; rintro e w1 ⟨rfl, rfl⟩)
    | (go_at_call 188; refine (letter_any _ _).mono ?_; rintro e w1 ⟨rfl, rfl⟩)
    | (go_at_call 189; refine (isDigit_any _ _).mono ?_; rintro e w1 ⟨rfl, rfl⟩))
  go_ret
  exact ⟨by rw [E.out]; rfl, rfl⟩

theorem use_b9 (g : Nat) (s : ByteArray) (σ : Rd) (i : Nat) (r : Int) (b : Nat) (w : World) (h : Lies w b g s σ) (hi : i < s.size) (hz : s.size ≤ 300000) (hf : ¬ r = 65533) (hm : σ.remark = false) (hr : r = 9) :
    Calls Tryz.prog 156 #[.pointer (some ⟨g, 0, none⟩), .int .i64 i, .int .i32 r] w fun e w' => e = .returned (.int .i64 (useOf s σ.remark i r)) ∧ w = w'  := by
  have m10 : w.cell? ⟨g, 10, none⟩ = some (.string s) := by obtain ⟨a, c, hb, _⟩ := h; exact hb.cell 10
  have m12 : w.cell? ⟨g, 12, none⟩ = some (.bool σ.remark) := by obtain ⟨a, c, hb, _⟩ := h; exact hb.cell 12
  have hi' : (i : Int) ≤ s.size := by omega
  have hi0 : (0 : Int) ≤ i := by omega
  have D := Lib.hid (digit_behind_any g s σ i b w h hi hz)
  clear h
  subst hr
  have E : Hid (useOf s σ.remark i 9 = 3) := by show _ = _; simp [useOf, rawB, hm]
  rw [hm] at m12
  clear hm
  go_enter Tryz.func156, Tryz.ntmps156
  go_wp2_with (first
    | (go_at_call 185; refine (Tryz.strings_HasPrefix _ _ _).mono ?_; rintro e w1 ⟨rfl, rfl⟩)
    | (go_at_call 186; refine (sign_any _ _).mono ?_; rintro e w1 ⟨rfl, rfl⟩)
    | (go_at_call 187; refine (D.out).mono ?_; rintro e w1 ⟨rfl, rfl⟩)
    | (go_at_call 188; refine (letter_any _ _).mono ?_; rintro e w1 ⟨rfl, rfl⟩)
    | (go_at_call 189; refine (isDigit_any _ _).mono ?_; rintro e w1 ⟨rfl, rfl⟩))
  go_ret
  exact ⟨by rw [E.out]; rfl, rfl⟩

theorem use_r59 (g : Nat) (s : ByteArray) (σ : Rd) (i : Nat) (r : Int) (b : Nat) (w : World) (h : Lies w b g s σ) (hi : i < s.size) (hz : s.size ≤ 300000) (hf : ¬ r = 65533) (hm : σ.remark = false) (hr : r = 59) :
    Calls Tryz.prog 156 #[.pointer (some ⟨g, 0, none⟩), .int .i64 i, .int .i32 r] w fun e w' => e = .returned (.int .i64 (useOf s σ.remark i r)) ∧ w = w'  := by
  have m10 : w.cell? ⟨g, 10, none⟩ = some (.string s) := by obtain ⟨a, c, hb, _⟩ := h; exact hb.cell 10
  have m12 : w.cell? ⟨g, 12, none⟩ = some (.bool σ.remark) := by obtain ⟨a, c, hb, _⟩ := h; exact hb.cell 12
  have hi' : (i : Int) ≤ s.size := by omega
  have hi0 : (0 : Int) ≤ i := by omega
  have D := Lib.hid (digit_behind_any g s σ i b w h hi hz)
  clear h
  subst hr
  have E : Hid (useOf s σ.remark i 59 = 2) := by show _ = _; simp [useOf, rawB, hm]
  rw [hm] at m12
  clear hm
  go_enter Tryz.func156, Tryz.ntmps156
  go_wp2_with (first
    | (go_at_call 185; refine (Tryz.strings_HasPrefix _ _ _).mono ?_; rintro e w1 ⟨rfl, rfl⟩)
    | (go_at_call 186; refine (sign_any _ _).mono ?_; rintro e w1 ⟨rfl, rfl⟩)
    | (go_at_call 187; refine (D.out).mono ?_; rintro e w1 ⟨rfl, rfl⟩)
    | (go_at_call 188; refine (letter_any _ _).mono ?_; rintro e w1 ⟨rfl, rfl⟩)
    | (go_at_call 189; refine (isDigit_any _ _).mono ?_; rintro e w1 ⟨rfl, rfl⟩))
  go_ret
  exact ⟨by rw [E.out]; rfl, rfl⟩

theorem use_sig (g : Nat) (s : ByteArray) (σ : Rd) (i : Nat) (r : Int) (b : Nat) (w : World) (h : Lies w b g s σ) (hi : i < s.size) (hz : s.size ≤ 300000) (hf : ¬ r = 65533) (hm : σ.remark = false) (h10 : ¬ r = 10) (h32 : ¬ r = 32) (h9 : ¬ r = 9) (h59 : ¬ r = 59) (hsg : signB r = true) :
    Calls Tryz.prog 156 #[.pointer (some ⟨g, 0, none⟩), .int .i64 i, .int .i32 r] w fun e w' => e = .returned (.int .i64 (useOf s σ.remark i r)) ∧ w = w'  := by
  have m10 : w.cell? ⟨g, 10, none⟩ = some (.string s) := by obtain ⟨a, c, hb, _⟩ := h; exact hb.cell 10
  have m12 : w.cell? ⟨g, 12, none⟩ = some (.bool σ.remark) := by obtain ⟨a, c, hb, _⟩ := h; exact hb.cell 12
  have hi' : (i : Int) ≤ s.size := by omega
  have hi0 : (0 : Int) ≤ i := by omega
  have D := Lib.hid (digit_behind_any g s σ i b w h hi hz)
  clear h
  have E : Hid (useOf s σ.remark i r = 4) := by show _ = _; simp [useOf, rawB, hf, hm, h10, h32, h9, h59, hsg]
  rw [hm] at m12
  clear hm
  go_enter Tryz.func156, Tryz.ntmps156
  go_wp2_with (first
    | (go_at_call 185; refine (Tryz.strings_HasPrefix _ _ _).mono ?_; rintro e w1 ⟨rfl, rfl⟩)
    | (go_at_call 186; refine (sign_any _ _).mono ?_; rintro e w1 ⟨rfl, rfl⟩)
    | (go_at_call 187; refine (D.out).mono ?_; rintro e w1 ⟨rfl, rfl⟩)
    | (go_at_call 188; refine (letter_any _ _).mono ?_; rintro e w1 ⟨rfl, rfl⟩)
    | (go_at_call 189; refine (isDigit_any _ _).mono ?_; rintro e w1 ⟨rfl, rfl⟩))
  go_ret
  exact ⟨by rw [E.out]; rfl, rfl⟩

theorem use_min (g : Nat) (s : ByteArray) (σ : Rd) (i : Nat) (r : Int) (b : Nat) (w : World) (h : Lies w b g s σ) (hi : i < s.size) (hz : s.size ≤ 300000) (hf : ¬ r = 65533) (hm : σ.remark = false) (hr : r = 45) (hb : behindB s i = true) :
    Calls Tryz.prog 156 #[.pointer (some ⟨g, 0, none⟩), .int .i64 i, .int .i32 r] w fun e w' => e = .returned (.int .i64 (useOf s σ.remark i r)) ∧ w = w'  := by
  have m10 : w.cell? ⟨g, 10, none⟩ = some (.string s) := by obtain ⟨a, c, hb, _⟩ := h; exact hb.cell 10
  have m12 : w.cell? ⟨g, 12, none⟩ = some (.bool σ.remark) := by obtain ⟨a, c, hb, _⟩ := h; exact hb.cell 12
  have hi' : (i : Int) ≤ s.size := by omega
  have hi0 : (0 : Int) ≤ i := by omega
  have D := Lib.hid (digit_behind_any g s σ i b w h hi hz)
  clear h
  subst hr
  have s0 : signB 45 = false := by decide
  have E : Hid (useOf s σ.remark i 45 = 5) := by show _ = _; simp [useOf, rawB, s0, hm, hb]
  rw [hm] at m12
  clear hm
  go_enter Tryz.func156, Tryz.ntmps156
  go_wp2_with (first
    | (go_at_call 185; refine (Tryz.strings_HasPrefix _ _ _).mono ?_; rintro e w1 ⟨rfl, rfl⟩)
    | (go_at_call 186; refine (sign_any _ _).mono ?_; rintro e w1 ⟨rfl, rfl⟩)
    | (go_at_call 187; refine (D.out).mono ?_; rintro e w1 ⟨rfl, rfl⟩)
    | (go_at_call 188; refine (letter_any _ _).mono ?_; rintro e w1 ⟨rfl, rfl⟩)
    | (go_at_call 189; refine (isDigit_any _ _).mono ?_; rintro e w1 ⟨rfl, rfl⟩))
  go_ret
  exact ⟨by rw [E.out]; rfl, rfl⟩

theorem use_mno (g : Nat) (s : ByteArray) (σ : Rd) (i : Nat) (r : Int) (b : Nat) (w : World) (h : Lies w b g s σ) (hi : i < s.size) (hz : s.size ≤ 300000) (hf : ¬ r = 65533) (hm : σ.remark = false) (hr : r = 45) (hb : behindB s i = false) :
    Calls Tryz.prog 156 #[.pointer (some ⟨g, 0, none⟩), .int .i64 i, .int .i32 r] w fun e w' => e = .returned (.int .i64 (useOf s σ.remark i r)) ∧ w = w'  := by
  have m10 : w.cell? ⟨g, 10, none⟩ = some (.string s) := by obtain ⟨a, c, hb, _⟩ := h; exact hb.cell 10
  have m12 : w.cell? ⟨g, 12, none⟩ = some (.bool σ.remark) := by obtain ⟨a, c, hb, _⟩ := h; exact hb.cell 12
  have hi' : (i : Int) ≤ s.size := by omega
  have hi0 : (0 : Int) ≤ i := by omega
  have D := Lib.hid (digit_behind_any g s σ i b w h hi hz)
  clear h
  subst hr
  have s0 : signB 45 = false := by decide
  have l0 : letterB 45 = false := by decide
  have d0 : digitB 45 = false := by decide
  have E : Hid (useOf s σ.remark i 45 = 0) := by show _ = _; simp [useOf, rawB, s0, hm, hb, l0, d0]
  rw [hm] at m12
  clear hm
  go_enter Tryz.func156, Tryz.ntmps156
  go_wp2_with (first
    | (go_at_call 185; refine (Tryz.strings_HasPrefix _ _ _).mono ?_; rintro e w1 ⟨rfl, rfl⟩)
    | (go_at_call 186; refine (sign_any _ _).mono ?_; rintro e w1 ⟨rfl, rfl⟩)
    | (go_at_call 187; refine (D.out).mono ?_; rintro e w1 ⟨rfl, rfl⟩)
    | (go_at_call 188; refine (letter_any _ _).mono ?_; rintro e w1 ⟨rfl, rfl⟩)
    | (go_at_call 189; refine (isDigit_any _ _).mono ?_; rintro e w1 ⟨rfl, rfl⟩))
  go_ret
  exact ⟨by rw [E.out]; rfl, rfl⟩

theorem use_let (g : Nat) (s : ByteArray) (σ : Rd) (i : Nat) (r : Int) (b : Nat) (w : World) (h : Lies w b g s σ) (hi : i < s.size) (hz : s.size ≤ 300000) (hf : ¬ r = 65533) (hm : σ.remark = false) (h10 : ¬ r = 10) (h32 : ¬ r = 32) (h9 : ¬ r = 9) (h59 : ¬ r = 59) (hsg : signB r = false) (h45 : ¬ r = 45) (hl : letterB r = true) :
    Calls Tryz.prog 156 #[.pointer (some ⟨g, 0, none⟩), .int .i64 i, .int .i32 r] w fun e w' => e = .returned (.int .i64 (useOf s σ.remark i r)) ∧ w = w'  := by
  have m10 : w.cell? ⟨g, 10, none⟩ = some (.string s) := by obtain ⟨a, c, hb, _⟩ := h; exact hb.cell 10
  have m12 : w.cell? ⟨g, 12, none⟩ = some (.bool σ.remark) := by obtain ⟨a, c, hb, _⟩ := h; exact hb.cell 12
  have hi' : (i : Int) ≤ s.size := by omega
  have hi0 : (0 : Int) ≤ i := by omega
  have D := Lib.hid (digit_behind_any g s σ i b w h hi hz)
  clear h
  have E : Hid (useOf s σ.remark i r = 6) := by show _ = _; simp [useOf, rawB, hf, hm, h10, h32, h9, h59, hsg, h45, hl]
  rw [hm] at m12
  clear hm
  go_enter Tryz.func156, Tryz.ntmps156
  go_wp2_with (first
    | (go_at_call 185; refine (Tryz.strings_HasPrefix _ _ _).mono ?_; rintro e w1 ⟨rfl, rfl⟩)
    | (go_at_call 186; refine (sign_any _ _).mono ?_; rintro e w1 ⟨rfl, rfl⟩)
    | (go_at_call 187; refine (D.out).mono ?_; rintro e w1 ⟨rfl, rfl⟩)
    | (go_at_call 188; refine (letter_any _ _).mono ?_; rintro e w1 ⟨rfl, rfl⟩)
    | (go_at_call 189; refine (isDigit_any _ _).mono ?_; rintro e w1 ⟨rfl, rfl⟩))
  go_ret
  exact ⟨by rw [E.out]; rfl, rfl⟩

theorem use_dig (g : Nat) (s : ByteArray) (σ : Rd) (i : Nat) (r : Int) (b : Nat) (w : World) (h : Lies w b g s σ) (hi : i < s.size) (hz : s.size ≤ 300000) (hf : ¬ r = 65533) (hm : σ.remark = false) (h10 : ¬ r = 10) (h32 : ¬ r = 32) (h9 : ¬ r = 9) (h59 : ¬ r = 59) (hsg : signB r = false) (h45 : ¬ r = 45) (hl : letterB r = false) (hd : digitB r = true) :
    Calls Tryz.prog 156 #[.pointer (some ⟨g, 0, none⟩), .int .i64 i, .int .i32 r] w fun e w' => e = .returned (.int .i64 (useOf s σ.remark i r)) ∧ w = w'  := by
  have m10 : w.cell? ⟨g, 10, none⟩ = some (.string s) := by obtain ⟨a, c, hb, _⟩ := h; exact hb.cell 10
  have m12 : w.cell? ⟨g, 12, none⟩ = some (.bool σ.remark) := by obtain ⟨a, c, hb, _⟩ := h; exact hb.cell 12
  have hi' : (i : Int) ≤ s.size := by omega
  have hi0 : (0 : Int) ≤ i := by omega
  have D := Lib.hid (digit_behind_any g s σ i b w h hi hz)
  clear h
  have E : Hid (useOf s σ.remark i r = 7) := by show _ = _; simp [useOf, rawB, hf, hm, h10, h32, h9, h59, hsg, h45, hl, hd]
  rw [hm] at m12
  clear hm
  go_enter Tryz.func156, Tryz.ntmps156
  go_wp2_with (first
    | (go_at_call 185; refine (Tryz.strings_HasPrefix _ _ _).mono ?_; rintro e w1 ⟨rfl, rfl⟩)
    | (go_at_call 186; refine (sign_any _ _).mono ?_; rintro e w1 ⟨rfl, rfl⟩)
    | (go_at_call 187; refine (D.out).mono ?_; rintro e w1 ⟨rfl, rfl⟩)
    | (go_at_call 188; refine (letter_any _ _).mono ?_; rintro e w1 ⟨rfl, rfl⟩)
    | (go_at_call 189; refine (isDigit_any _ _).mono ?_; rintro e w1 ⟨rfl, rfl⟩))
  go_ret
  exact ⟨by rw [E.out]; rfl, rfl⟩

theorem use_non (g : Nat) (s : ByteArray) (σ : Rd) (i : Nat) (r : Int) (b : Nat) (w : World) (h : Lies w b g s σ) (hi : i < s.size) (hz : s.size ≤ 300000) (hf : ¬ r = 65533) (hm : σ.remark = false) (h10 : ¬ r = 10) (h32 : ¬ r = 32) (h9 : ¬ r = 9) (h59 : ¬ r = 59) (hsg : signB r = false) (h45 : ¬ r = 45) (hl : letterB r = false) (hd : digitB r = false) :
    Calls Tryz.prog 156 #[.pointer (some ⟨g, 0, none⟩), .int .i64 i, .int .i32 r] w fun e w' => e = .returned (.int .i64 (useOf s σ.remark i r)) ∧ w = w'  := by
  have m10 : w.cell? ⟨g, 10, none⟩ = some (.string s) := by obtain ⟨a, c, hb, _⟩ := h; exact hb.cell 10
  have m12 : w.cell? ⟨g, 12, none⟩ = some (.bool σ.remark) := by obtain ⟨a, c, hb, _⟩ := h; exact hb.cell 12
  have hi' : (i : Int) ≤ s.size := by omega
  have hi0 : (0 : Int) ≤ i := by omega
  have D := Lib.hid (digit_behind_any g s σ i b w h hi hz)
  clear h
  have E : Hid (useOf s σ.remark i r = 0) := by show _ = _; simp [useOf, rawB, hf, hm, h10, h32, h9, h59, hsg, h45, hl, hd]
  rw [hm] at m12
  clear hm
  go_enter Tryz.func156, Tryz.ntmps156
  go_wp2_with (first
    | (go_at_call 185; refine (Tryz.strings_HasPrefix _ _ _).mono ?_; rintro e w1 ⟨rfl, rfl⟩)
    | (go_at_call 186; refine (sign_any _ _).mono ?_; rintro e w1 ⟨rfl, rfl⟩)
    | (go_at_call 187; refine (D.out).mono ?_; rintro e w1 ⟨rfl, rfl⟩)
    | (go_at_call 188; refine (letter_any _ _).mono ?_; rintro e w1 ⟨rfl, rfl⟩)
    | (go_at_call 189; refine (isDigit_any _ _).mono ?_; rintro e w1 ⟨rfl, rfl⟩))
  go_ret
  exact ⟨by rw [E.out]; rfl, rfl⟩

theorem use_any (g : Nat) (s : ByteArray) (σ : Rd) (i : Nat) (r : Int) (b : Nat) (w : World) (h : Lies w b g s σ) (hi : i < s.size) (hz : s.size ≤ 300000) :
    Calls Tryz.prog 156 #[.pointer (some ⟨g, 0, none⟩), .int .i64 i, .int .i32 r] w fun e w' => e = .returned (.int .i64 (useOf s σ.remark i r)) ∧ w = w'  := by
  by_cases hf : r = 65533
  · cases hp : ([239, 191, 189] : List UInt8).isPrefixOf (s.data.toList.drop i)
    · exact use_raw g s σ i r b w h hi hz hf hp
    · exact use_fffd g s σ i r b w h hi hz hf hp
  by_cases h10 : r = 10
  · exact use_r10 g s σ i r b w h hi hz hf h10
  cases hm : σ.remark
  · rw [← hm]
    by_cases h32 : r = 32
    · exact use_b32 g s σ i r b w h hi hz hf hm h32
    by_cases h9 : r = 9
    · exact use_b9 g s σ i r b w h hi hz hf hm h9
    by_cases h59 : r = 59
    · exact use_r59 g s σ i r b w h hi hz hf hm h59
    cases hsg : signB r
    · by_cases h45 : r = 45
      · cases hb : behindB s i
        · exact use_mno g s σ i r b w h hi hz hf hm h45 hb
        · exact use_min g s σ i r b w h hi hz hf hm h45 hb
      · cases hl : letterB r
        · cases hd : digitB r
          · exact use_non g s σ i r b w h hi hz hf hm h10 h32 h9 h59 hsg h45 hl hd
          · exact use_dig g s σ i r b w h hi hz hf hm h10 h32 h9 h59 hsg h45 hl hd
        · exact use_let g s σ i r b w h hi hz hf hm h10 h32 h9 h59 hsg h45 hl
    · exact use_sig g s σ i r b w h hi hz hf hm h10 h32 h9 h59 hsg
  · rw [← hm]
    exact use_rem g s σ i r b w h hi hz hf h10 hm
end Go.Proofs.YthiipgahbmoiiaaGreatDoor
