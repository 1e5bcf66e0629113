/-
  A word as a cursor holds it: what it has is told by its type. What the tests of it answer. No condition beyond those that each theorem states.
-/
import Derived.Test.YtkfplffcegbdfaaGreatDoorPk1
import Derived.Test.YtkfplffcegbdfaaGreatDoorLeaf
import Derived.Test.YtkfplffcegbdfaaGreatDoorRead1
import Derived.Lib.Hide
namespace Go.Proofs.YtkfplffcegbdfaaGreatDoor
open Go.RowKit

theorem text_eq (a b : ByteArray) : (a.toList == b.toList) = decide (a = b) := by
  by_cases h : a = b
  · subst h; simp
  · rw [decide_eq_false h]
    rw [beq_eq_false_iff_ne]
    intro e
    rw [ByteArray.toList_eq, ByteArray.toList_eq] at e
    exact h (ByteArray.ext (Array.toList_inj.mp e))
def hasV (x : Wd) : Value := if x.k = 1 then .iface 235 (.string x.t) else if x.k = 2 then .iface 236 (.int .i64 x.n) else if x.k = 3 then .iface 237 (.string x.t) else .iface 239 (.agg #[])
def hasO : Option Wd → Value
  | none => .nilIface
  | some x => hasV x
def lineO : Option Wd → Int
  | none => 0
  | some x => x.l
def colO : Option Wd → Int
  | none => 0
  | some x => x.c
def itemV (o : Option Wd) : Value := .agg #[hasO o, .int .i64 (lineO o), .int .i64 (colO o)]
theorem has_ways (o : Option Wd) : hasO o = .nilIface ∧ nameP o = (⟨#[]⟩, false) ∧ numP o = (0, false) ∧ (∀ s, signP o s = false) ∧ endP o = false ∨
    (∃ t, hasO o = .iface 235 (.string t) ∧ nameP o = (t, true) ∧ numP o = (0, false) ∧ (∀ s, signP o s = false) ∧ endP o = false) ∨
    (∃ n, hasO o = .iface 236 (.int .i64 n) ∧ nameP o = (⟨#[]⟩, false) ∧ numP o = (n, true) ∧ (∀ s, signP o s = false) ∧ endP o = false) ∨
    (∃ t, hasO o = .iface 237 (.string t) ∧ nameP o = (⟨#[]⟩, false) ∧ numP o = (0, false) ∧ (∀ s, signP o s = decide (t = s)) ∧ endP o = false) ∨
    (hasO o = .iface 239 (.agg #[]) ∧ nameP o = (⟨#[]⟩, false) ∧ numP o = (0, false) ∧ (∀ s, signP o s = false) ∧ endP o = true) := by
  cases o with
  | none => exact .inl ⟨rfl, rfl, rfl, fun _ => rfl, rfl⟩
  | some x =>
    by_cases h1 : x.k = 1
    · exact .inr (.inl ⟨x.t, by simp [hasO, hasV, h1], by simp [nameP, h1], by simp [numP, h1], fun s => by simp [signP, h1], by simp [endP, endK, h1]⟩)
    by_cases h2 : x.k = 2
    · exact .inr (.inr (.inl ⟨x.n, by simp [hasO, hasV, h2], by simp [nameP, h2], by simp [numP, h2], fun s => by simp [signP, h2], by simp [endP, endK, h2]⟩))
    by_cases h3 : x.k = 3
    · exact .inr (.inr (.inr (.inl ⟨x.t, by simp [hasO, hasV, h3], by simp [nameP, h3], by simp [numP, h3], fun s => by simp [signP, h3], by simp [endP, endK, h3]⟩)))
    · exact .inr (.inr (.inr (.inr ⟨by simp [hasO, hasV, h1, h2, h3], by simp [nameP, h1], by simp [numP, h2], fun s => by simp [signP, h3], by simp [endP, endK, h1, h2, h3]⟩)))
theorem as_name_nil (W : World) : (Instr.typeAssert (.nilIface) 20 235 true).run Tryz.prog W = .ok (.tuple #[.string ⟨#[]⟩, .bool false]) W := by kernel_rfl
theorem as_name_name (t : ByteArray) (W : World) : (Instr.typeAssert (.iface 235 (.string t)) 20 235 true).run Tryz.prog W = .ok (.tuple #[.string t, .bool true]) W := by kernel_rfl
theorem as_name_num (n : Int) (W : World) : (Instr.typeAssert (.iface 236 (.int .i64 n)) 20 235 true).run Tryz.prog W = .ok (.tuple #[.string ⟨#[]⟩, .bool false]) W := by kernel_rfl
theorem as_name_sign (t : ByteArray) (W : World) : (Instr.typeAssert (.iface 237 (.string t)) 20 235 true).run Tryz.prog W = .ok (.tuple #[.string ⟨#[]⟩, .bool false]) W := by kernel_rfl
theorem as_name_end (W : World) : (Instr.typeAssert (.iface 239 (.agg #[])) 20 235 true).run Tryz.prog W = .ok (.tuple #[.string ⟨#[]⟩, .bool false]) W := by kernel_rfl
theorem as_num_nil (W : World) : (Instr.typeAssert (.nilIface) 20 236 true).run Tryz.prog W = .ok (.tuple #[.int .i64 0, .bool false]) W := by kernel_rfl
theorem as_num_name (t : ByteArray) (W : World) : (Instr.typeAssert (.iface 235 (.string t)) 20 236 true).run Tryz.prog W = .ok (.tuple #[.int .i64 0, .bool false]) W := by kernel_rfl
theorem as_num_num (n : Int) (W : World) : (Instr.typeAssert (.iface 236 (.int .i64 n)) 20 236 true).run Tryz.prog W = .ok (.tuple #[.int .i64 n, .bool true]) W := by kernel_rfl
theorem as_num_sign (t : ByteArray) (W : World) : (Instr.typeAssert (.iface 237 (.string t)) 20 236 true).run Tryz.prog W = .ok (.tuple #[.int .i64 0, .bool false]) W := by kernel_rfl
theorem as_num_end (W : World) : (Instr.typeAssert (.iface 239 (.agg #[])) 20 236 true).run Tryz.prog W = .ok (.tuple #[.int .i64 0, .bool false]) W := by kernel_rfl
theorem as_sign_nil (W : World) : (Instr.typeAssert (.nilIface) 20 237 true).run Tryz.prog W = .ok (.tuple #[.string ⟨#[]⟩, .bool false]) W := by kernel_rfl
theorem as_sign_name (t : ByteArray) (W : World) : (Instr.typeAssert (.iface 235 (.string t)) 20 237 true).run Tryz.prog W = .ok (.tuple #[.string ⟨#[]⟩, .bool false]) W := by kernel_rfl
theorem as_sign_num (n : Int) (W : World) : (Instr.typeAssert (.iface 236 (.int .i64 n)) 20 237 true).run Tryz.prog W = .ok (.tuple #[.string ⟨#[]⟩, .bool false]) W := by kernel_rfl
theorem as_sign_sign (t : ByteArray) (W : World) : (Instr.typeAssert (.iface 237 (.string t)) 20 237 true).run Tryz.prog W = .ok (.tuple #[.string t, .bool true]) W := by kernel_rfl
theorem as_sign_end (W : World) : (Instr.typeAssert (.iface 239 (.agg #[])) 20 237 true).run Tryz.prog W = .ok (.tuple #[.string ⟨#[]⟩, .bool false]) W := by kernel_rfl
theorem as_end_nil (W : World) : (Instr.typeAssert (.nilIface) 20 239 true).run Tryz.prog W = .ok (.tuple #[.agg #[], .bool false]) W := by kernel_rfl
theorem as_end_name (t : ByteArray) (W : World) : (Instr.typeAssert (.iface 235 (.string t)) 20 239 true).run Tryz.prog W = .ok (.tuple #[.agg #[], .bool false]) W := by kernel_rfl
theorem as_end_num (n : Int) (W : World) : (Instr.typeAssert (.iface 236 (.int .i64 n)) 20 239 true).run Tryz.prog W = .ok (.tuple #[.agg #[], .bool false]) W := by kernel_rfl
theorem as_end_sign (t : ByteArray) (W : World) : (Instr.typeAssert (.iface 237 (.string t)) 20 239 true).run Tryz.prog W = .ok (.tuple #[.agg #[], .bool false]) W := by kernel_rfl
theorem as_end_end (W : World) : (Instr.typeAssert (.iface 239 (.agg #[])) 20 239 true).run Tryz.prog W = .ok (.tuple #[.agg #[], .bool true]) W := by kernel_rfl

set_option maxRecDepth 100000 in
theorem asName_any (o : Option Wd) (w : World) : Calls Tryz.prog 138 #[itemV o] w fun e w' => e = .returned (.tuple #[.string (nameP o).1, .bool (nameP o).2]) ∧ Below w.heap.size w w' := by
  have hb := (Below.refl _ w).alloc (Nat.le_refl _) (.cells #[hasO o, .int .i64 (lineO o), .int .i64 (colO o)] 127)
  have HB := Lib.hid hb
  clear hb
  unfold itemV
  generalize lineO o = L at *
  generalize colO o = C at *
  rcases has_ways o with ⟨h0, h1, h2, h3, h4⟩ | ⟨t, h0, h1, h2, h3, h4⟩ | ⟨n, h0, h1, h2, h3, h4⟩ | ⟨t, h0, h1, h2, h3, h4⟩ | ⟨h0, h1, h2, h3, h4⟩
  · rw [h1]
    rw [h0] at HB ⊢
    clear h0 h1 h2 h3 h4
    have hta := fun W => as_name_nil W
    go_enter Tryz.func138, Tryz.ntmps138
    go_wp2
    go_ret2
    exact ⟨rfl, HB.out⟩
  · rw [h1]
    rw [h0] at HB ⊢
    clear h0 h1 h2 h3 h4
    have hta := fun W => as_name_name t W
    go_enter Tryz.func138, Tryz.ntmps138
    go_wp2
    go_ret2
    exact ⟨rfl, HB.out⟩
  · rw [h1]
    rw [h0] at HB ⊢
    clear h0 h1 h2 h3 h4
    have hta := fun W => as_name_num n W
    go_enter Tryz.func138, Tryz.ntmps138
    go_wp2
    go_ret2
    exact ⟨rfl, HB.out⟩
  · rw [h1]
    rw [h0] at HB ⊢
    clear h0 h1 h2 h3 h4
    have hta := fun W => as_name_sign t W
    go_enter Tryz.func138, Tryz.ntmps138
    go_wp2
    go_ret2
    exact ⟨rfl, HB.out⟩
  · rw [h1]
    rw [h0] at HB ⊢
    clear h0 h1 h2 h3 h4
    have hta := fun W => as_name_end W
    go_enter Tryz.func138, Tryz.ntmps138
    go_wp2
    go_ret2
    exact ⟨rfl, HB.out⟩

set_option maxRecDepth 100000 in
theorem asNumber_any (o : Option Wd) (w : World) : Calls Tryz.prog 139 #[itemV o] w fun e w' => e = .returned (.tuple #[.int .i64 (numP o).1, .bool (numP o).2]) ∧ Below w.heap.size w w' := by
  have hb := (Below.refl _ w).alloc (Nat.le_refl _) (.cells #[hasO o, .int .i64 (lineO o), .int .i64 (colO o)] 127)
  have HB := Lib.hid hb
  clear hb
  unfold itemV
  generalize lineO o = L at *
  generalize colO o = C at *
  rcases has_ways o with ⟨h0, h1, h2, h3, h4⟩ | ⟨t, h0, h1, h2, h3, h4⟩ | ⟨n, h0, h1, h2, h3, h4⟩ | ⟨t, h0, h1, h2, h3, h4⟩ | ⟨h0, h1, h2, h3, h4⟩
  · rw [h2]
    rw [h0] at HB ⊢
    clear h0 h1 h2 h3 h4
    have hta := fun W => as_num_nil W
    go_enter Tryz.func139, Tryz.ntmps139
    go_wp2
    go_ret2
    exact ⟨rfl, HB.out⟩
  · rw [h2]
    rw [h0] at HB ⊢
    clear h0 h1 h2 h3 h4
    have hta := fun W => as_num_name t W
    go_enter Tryz.func139, Tryz.ntmps139
    go_wp2
    go_ret2
    exact ⟨rfl, HB.out⟩
  · rw [h2]
    rw [h0] at HB ⊢
    clear h0 h1 h2 h3 h4
    have hta := fun W => as_num_num n W
    go_enter Tryz.func139, Tryz.ntmps139
    go_wp2
    go_ret2
    exact ⟨rfl, HB.out⟩
  · rw [h2]
    rw [h0] at HB ⊢
    clear h0 h1 h2 h3 h4
    have hta := fun W => as_num_sign t W
    go_enter Tryz.func139, Tryz.ntmps139
    go_wp2
    go_ret2
    exact ⟨rfl, HB.out⟩
  · rw [h2]
    rw [h0] at HB ⊢
    clear h0 h1 h2 h3 h4
    have hta := fun W => as_num_end W
    go_enter Tryz.func139, Tryz.ntmps139
    go_wp2
    go_ret2
    exact ⟨rfl, HB.out⟩

set_option maxRecDepth 100000 in
theorem isEnd_any (o : Option Wd) (w : World) : Calls Tryz.prog 111 #[itemV o] w fun e w' => e = .returned (.bool (endP o)) ∧ Below w.heap.size w w' := by
  have hb := (Below.refl _ w).alloc (Nat.le_refl _) (.cells #[hasO o, .int .i64 (lineO o), .int .i64 (colO o)] 127)
  have HB := Lib.hid hb
  clear hb
  unfold itemV
  generalize lineO o = L at *
  generalize colO o = C at *
  rcases has_ways o with ⟨h0, h1, h2, h3, h4⟩ | ⟨t, h0, h1, h2, h3, h4⟩ | ⟨n, h0, h1, h2, h3, h4⟩ | ⟨t, h0, h1, h2, h3, h4⟩ | ⟨h0, h1, h2, h3, h4⟩
  · rw [h4]
    rw [h0] at HB ⊢
    clear h0 h1 h2 h3 h4
    have hta := fun W => as_end_nil W
    go_enter Tryz.func111, Tryz.ntmps111
    go_wp2
    go_ret
    exact ⟨rfl, HB.out.alloc (by simp) _⟩
  · rw [h4]
    rw [h0] at HB ⊢
    clear h0 h1 h2 h3 h4
    have hta := fun W => as_end_name t W
    go_enter Tryz.func111, Tryz.ntmps111
    go_wp2
    go_ret
    exact ⟨rfl, HB.out.alloc (by simp) _⟩
  · rw [h4]
    rw [h0] at HB ⊢
    clear h0 h1 h2 h3 h4
    have hta := fun W => as_end_num n W
    go_enter Tryz.func111, Tryz.ntmps111
    go_wp2
    go_ret
    exact ⟨rfl, HB.out.alloc (by simp) _⟩
  · rw [h4]
    rw [h0] at HB ⊢
    clear h0 h1 h2 h3 h4
    have hta := fun W => as_end_sign t W
    go_enter Tryz.func111, Tryz.ntmps111
    go_wp2
    go_ret
    exact ⟨rfl, HB.out.alloc (by simp) _⟩
  · rw [h4]
    rw [h0] at HB ⊢
    clear h0 h1 h2 h3 h4
    have hta := fun W => as_end_end W
    go_enter Tryz.func111, Tryz.ntmps111
    go_wp2
    go_ret
    exact ⟨rfl, HB.out.alloc (by simp) _⟩


theorem held_any (x : Wd) (w : World) : Calls Tryz.prog 110 #[.agg #[.int .i64 x.k, .string x.t, .int .i64 x.n, .int .i64 x.l, .int .i64 x.c]] w fun e w' => e = .returned (hasV x) ∧ Below w.heap.size w w' := by
  have hb := (Below.refl _ w).alloc (Nat.le_refl _) (.cells #[.int .i64 x.k, .string x.t, .int .i64 x.n, .int .i64 x.l, .int .i64 x.c] 204)
  have HB := Lib.hid hb
  clear hb
  obtain ⟨k, t, n, l, c⟩ := x
  simp only at HB ⊢
  by_cases h1 : k = 1
  · have E : Hid (hasV ⟨k, t, n, l, c⟩ = .iface 235 (.string t)) := by show _ = _; simp [hasV, h1]
    subst h1
    go_enter Tryz.func110, Tryz.ntmps110
    go_wp2
    go_ret
    exact ⟨by rw [E.out]; rfl, HB.out⟩
  by_cases h2 : k = 2
  · have E : Hid (hasV ⟨k, t, n, l, c⟩ = .iface 236 (.int .i64 n)) := by show _ = _; simp [hasV, h2]
    subst h2
    go_enter Tryz.func110, Tryz.ntmps110
    go_wp2
    go_ret
    exact ⟨by rw [E.out]; rfl, HB.out⟩
  by_cases h3 : k = 3
  · have E : Hid (hasV ⟨k, t, n, l, c⟩ = .iface 237 (.string t)) := by show _ = _; simp [hasV, h3]
    subst h3
    go_enter Tryz.func110, Tryz.ntmps110
    go_wp2
    go_ret
    exact ⟨by rw [E.out]; rfl, HB.out⟩
  have E : Hid (hasV ⟨k, t, n, l, c⟩ = .iface 239 (.agg #[])) := by show _ = _; simp [hasV, h1, h2, h3]
  have q1 : (k == 1) = false := by simp [h1]
  have q2 : (k == 2) = false := by simp [h2]
  have q3 : (k == 3) = false := by simp [h3]
  go_enter Tryz.func110, Tryz.ntmps110
  go_wp2
  go_ret
  exact ⟨by rw [E.out]; rfl, HB.out⟩
end Go.Proofs.YtkfplffcegbdfaaGreatDoor
