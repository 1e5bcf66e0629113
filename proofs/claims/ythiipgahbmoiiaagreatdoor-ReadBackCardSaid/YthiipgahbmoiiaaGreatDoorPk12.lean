/-
  A word as a cursor holds it: what it has is told by its type. What the tests of it answer. No condition beyond those that each theorem states.
  Package line's cursor in memory: a block of five cells, and a row of words behind it. What its own small calls answer. No condition beyond those that each theorem states.
  Package line's cursor: the next word is got, and gone over. No condition beyond those that each theorem states.
-/
import Derived.Test.YthiipgahbmoiiaaGreatDoorPk10
import Derived.Test.YthiipgahbmoiiaaGreatDoorPk11
import Derived.Lib.Hide
import Derived.Lib.Builder
import Derived.Lib.Walk
import Derived.LaidEqlPtr
import Derived.Laws.Pointers
namespace Go.Proofs.YthiipgahbmoiiaaGreatDoor
open Go.RowKit

theorem text_eq (a b : ByteArray) : (a.toList == b.toList) = decide (a = b) := by
  by_cases h : a = b
  · subst h; simp
  · rw [decide_eq_false h]
    rw [beq_eq_false_iff_ne]
    intro e
    rw [ByteArray.toList_eq, ByteArray.toList_eq] at e
    exact h (ByteArray.ext (Array.toList_inj.mp e))
def hasV (x : Wd) : Value := if x.k = 1 then .iface 202 (.string x.t) else if x.k = 2 then .iface 203 (.int .i64 x.n) else if x.k = 3 then .iface 204 (.string x.t) else .iface 206 (.agg #[])
def hasO : Option Wd → Value
  | none => .nilIface
  | some x => hasV x
def lineO : Option Wd → Int
  | none => 0
  | some x => x.l
def colO : Option Wd → Int
  | none => 0
  | some x => x.c
def itemV (o : Option Wd) : Value := .agg #[hasO o, .int .i64 (lineO o), .int .i64 (colO o)]
theorem has_ways (o : Option Wd) : hasO o = .nilIface ∧ nameP o = (⟨#[]⟩, false) ∧ numP o = (0, false) ∧ (∀ s, signP o s = false) ∧ endP o = false ∨
    (∃ t, hasO o = .iface 202 (.string t) ∧ nameP o = (t, true) ∧ numP o = (0, false) ∧ (∀ s, signP o s = false) ∧ endP o = false) ∨
    (∃ n, hasO o = .iface 203 (.int .i64 n) ∧ nameP o = (⟨#[]⟩, false) ∧ numP o = (n, true) ∧ (∀ s, signP o s = false) ∧ endP o = false) ∨
    (∃ t, hasO o = .iface 204 (.string t) ∧ nameP o = (⟨#[]⟩, false) ∧ numP o = (0, false) ∧ (∀ s, signP o s = decide (t = s)) ∧ endP o = false) ∨
    (hasO o = .iface 206 (.agg #[]) ∧ nameP o = (⟨#[]⟩, false) ∧ numP o = (0, false) ∧ (∀ s, signP o s = false) ∧ endP o = true) := by
  cases o with
  | none => exact .inl ⟨rfl, rfl, rfl, fun _ => rfl, rfl⟩
  | some x =>
    by_cases h1 : x.k = 1
    · exact .inr (.inl ⟨x.t, by simp [hasO, hasV, h1], by simp [nameP, h1], by simp [numP, h1], fun s => by simp [signP, h1], by simp [endP, endK, h1]⟩)
    by_cases h2 : x.k = 2
    · exact .inr (.inr (.inl ⟨x.n, by simp [hasO, hasV, h2], by simp [nameP, h2], by simp [numP, h2], fun s => by simp [signP, h2], by simp [endP, endK, h2]⟩))
    by_cases h3 : x.k = 3
    · exact .inr (.inr (.inr (.inl ⟨x.t, by simp [hasO, hasV, h3], by simp [nameP, h3], by simp [numP, h3], fun s => by simp [signP, h3], by simp [endP, endK, h3]⟩)))
    · exact .inr (.inr (.inr (.inr ⟨by simp [hasO, hasV, h1, h2, h3], by simp [nameP, h1], by simp [numP, h2], fun s => by simp [signP, h3], by simp [endP, endK, h1, h2, h3]⟩)))
theorem as_name_nil (W : World) : (Instr.typeAssert (.nilIface) 20 202 true).run Tryz.prog W = .ok (.tuple #[.string ⟨#[]⟩, .bool false]) W := by kernel_rfl
theorem as_name_name (t : ByteArray) (W : World) : (Instr.typeAssert (.iface 202 (.string t)) 20 202 true).run Tryz.prog W = .ok (.tuple #[.string t, .bool true]) W := by kernel_rfl
theorem as_name_num (n : Int) (W : World) : (Instr.typeAssert (.iface 203 (.int .i64 n)) 20 202 true).run Tryz.prog W = .ok (.tuple #[.string ⟨#[]⟩, .bool false]) W := by kernel_rfl
theorem as_name_sign (t : ByteArray) (W : World) : (Instr.typeAssert (.iface 204 (.string t)) 20 202 true).run Tryz.prog W = .ok (.tuple #[.string ⟨#[]⟩, .bool false]) W := by kernel_rfl
theorem as_name_end (W : World) : (Instr.typeAssert (.iface 206 (.agg #[])) 20 202 true).run Tryz.prog W = .ok (.tuple #[.string ⟨#[]⟩, .bool false]) W := by kernel_rfl
theorem as_num_nil (W : World) : (Instr.typeAssert (.nilIface) 20 203 true).run Tryz.prog W = .ok (.tuple #[.int .i64 0, .bool false]) W := by kernel_rfl
theorem as_num_name (t : ByteArray) (W : World) : (Instr.typeAssert (.iface 202 (.string t)) 20 203 true).run Tryz.prog W = .ok (.tuple #[.int .i64 0, .bool false]) W := by kernel_rfl
theorem as_num_num (n : Int) (W : World) : (Instr.typeAssert (.iface 203 (.int .i64 n)) 20 203 true).run Tryz.prog W = .ok (.tuple #[.int .i64 n, .bool true]) W := by kernel_rfl
theorem as_num_sign (t : ByteArray) (W : World) : (Instr.typeAssert (.iface 204 (.string t)) 20 203 true).run Tryz.prog W = .ok (.tuple #[.int .i64 0, .bool false]) W := by kernel_rfl
theorem as_num_end (W : World) : (Instr.typeAssert (.iface 206 (.agg #[])) 20 203 true).run Tryz.prog W = .ok (.tuple #[.int .i64 0, .bool false]) W := by kernel_rfl
theorem as_sign_nil (W : World) : (Instr.typeAssert (.nilIface) 20 204 true).run Tryz.prog W = .ok (.tuple #[.string ⟨#[]⟩, .bool false]) W := by kernel_rfl
theorem as_sign_name (t : ByteArray) (W : World) : (Instr.typeAssert (.iface 202 (.string t)) 20 204 true).run Tryz.prog W = .ok (.tuple #[.string ⟨#[]⟩, .bool false]) W := by kernel_rfl
theorem as_sign_num (n : Int) (W : World) : (Instr.typeAssert (.iface 203 (.int .i64 n)) 20 204 true).run Tryz.prog W = .ok (.tuple #[.string ⟨#[]⟩, .bool false]) W := by kernel_rfl
theorem as_sign_sign (t : ByteArray) (W : World) : (Instr.typeAssert (.iface 204 (.string t)) 20 204 true).run Tryz.prog W = .ok (.tuple #[.string t, .bool true]) W := by kernel_rfl
theorem as_sign_end (W : World) : (Instr.typeAssert (.iface 206 (.agg #[])) 20 204 true).run Tryz.prog W = .ok (.tuple #[.string ⟨#[]⟩, .bool false]) W := by kernel_rfl
theorem as_end_nil (W : World) : (Instr.typeAssert (.nilIface) 20 206 true).run Tryz.prog W = .ok (.tuple #[.agg #[], .bool false]) W := by kernel_rfl
theorem as_end_name (t : ByteArray) (W : World) : (Instr.typeAssert (.iface 202 (.string t)) 20 206 true).run Tryz.prog W = .ok (.tuple #[.agg #[], .bool false]) W := by kernel_rfl
theorem as_end_num (n : Int) (W : World) : (Instr.typeAssert (.iface 203 (.int .i64 n)) 20 206 true).run Tryz.prog W = .ok (.tuple #[.agg #[], .bool false]) W := by kernel_rfl
theorem as_end_sign (t : ByteArray) (W : World) : (Instr.typeAssert (.iface 204 (.string t)) 20 206 true).run Tryz.prog W = .ok (.tuple #[.agg #[], .bool false]) W := by kernel_rfl
theorem as_end_end (W : World) : (Instr.typeAssert (.iface 206 (.agg #[])) 20 206 true).run Tryz.prog W = .ok (.tuple #[.agg #[], .bool true]) W := by kernel_rfl

set_option maxRecDepth 100000 in
theorem asName_any (o : Option Wd) (w : World) : Calls Tryz.prog 160 #[itemV o] w fun e w' => e = .returned (.tuple #[.string (nameP o).1, .bool (nameP o).2]) ∧ Below w.heap.size w w' := by
  have hb := (Below.refl _ w).alloc (Nat.le_refl _) (.cells #[hasO o, .int .i64 (lineO o), .int .i64 (colO o)] 122)
  have HB := Lib.hid hb
  clear hb
  unfold itemV
  generalize lineO o = L at *
  generalize colO o = C at *
  rcases has_ways o with ⟨h0, h1, h2, h3, h4⟩ | ⟨t, h0, h1, h2, h3, h4⟩ | ⟨n, h0, h1, h2, h3, h4⟩ | ⟨t, h0, h1, h2, h3, h4⟩ | ⟨h0, h1, h2, h3, h4⟩
  · rw [h1]
    rw [h0] at HB ⊢
    clear h0 h1 h2 h3 h4
    have hta := fun W => as_name_nil W
    go_enter Tryz.func160, Tryz.ntmps160
    go_wp2
    go_ret2
    exact ⟨rfl, HB.out⟩
  · rw [h1]
    rw [h0] at HB ⊢
    clear h0 h1 h2 h3 h4
    have hta := fun W => as_name_name t W
    go_enter Tryz.func160, Tryz.ntmps160
    go_wp2
    go_ret2
    exact ⟨rfl, HB.out⟩
  · rw [h1]
    rw [h0] at HB ⊢
    clear h0 h1 h2 h3 h4
    have hta := fun W => as_name_num n W
    go_enter Tryz.func160, Tryz.ntmps160
    go_wp2
    go_ret2
    exact ⟨rfl, HB.out⟩
  · rw [h1]
    rw [h0] at HB ⊢
    clear h0 h1 h2 h3 h4
    have hta := fun W => as_name_sign t W
    go_enter Tryz.func160, Tryz.ntmps160
    go_wp2
    go_ret2
    exact ⟨rfl, HB.out⟩
  · rw [h1]
    rw [h0] at HB ⊢
    clear h0 h1 h2 h3 h4
    have hta := fun W => as_name_end W
    go_enter Tryz.func160, Tryz.ntmps160
    go_wp2
    go_ret2
    exact ⟨rfl, HB.out⟩

set_option maxRecDepth 100000 in
theorem asNumber_any (o : Option Wd) (w : World) : Calls Tryz.prog 166 #[itemV o] w fun e w' => e = .returned (.tuple #[.int .i64 (numP o).1, .bool (numP o).2]) ∧ Below w.heap.size w w' := by
  have hb := (Below.refl _ w).alloc (Nat.le_refl _) (.cells #[hasO o, .int .i64 (lineO o), .int .i64 (colO o)] 122)
  have HB := Lib.hid hb
  clear hb
  unfold itemV
  generalize lineO o = L at *
  generalize colO o = C at *
  rcases has_ways o with ⟨h0, h1, h2, h3, h4⟩ | ⟨t, h0, h1, h2, h3, h4⟩ | ⟨n, h0, h1, h2, h3, h4⟩ | ⟨t, h0, h1, h2, h3, h4⟩ | ⟨h0, h1, h2, h3, h4⟩
  · rw [h2]
    rw [h0] at HB ⊢
    clear h0 h1 h2 h3 h4
    have hta := fun W => as_num_nil W
    go_enter Tryz.func166, Tryz.ntmps166
    go_wp2
    go_ret2
    exact ⟨rfl, HB.out⟩
  · rw [h2]
    rw [h0] at HB ⊢
    clear h0 h1 h2 h3 h4
    have hta := fun W => as_num_name t W
    go_enter Tryz.func166, Tryz.ntmps166
    go_wp2
    go_ret2
    exact ⟨rfl, HB.out⟩
  · rw [h2]
    rw [h0] at HB ⊢
    clear h0 h1 h2 h3 h4
    have hta := fun W => as_num_num n W
    go_enter Tryz.func166, Tryz.ntmps166
    go_wp2
    go_ret2
    exact ⟨rfl, HB.out⟩
  · rw [h2]
    rw [h0] at HB ⊢
    clear h0 h1 h2 h3 h4
    have hta := fun W => as_num_sign t W
    go_enter Tryz.func166, Tryz.ntmps166
    go_wp2
    go_ret2
    exact ⟨rfl, HB.out⟩
  · rw [h2]
    rw [h0] at HB ⊢
    clear h0 h1 h2 h3 h4
    have hta := fun W => as_num_end W
    go_enter Tryz.func166, Tryz.ntmps166
    go_wp2
    go_ret2
    exact ⟨rfl, HB.out⟩

set_option maxRecDepth 100000 in
theorem isEnd_any (o : Option Wd) (w : World) : Calls Tryz.prog 120 #[itemV o] w fun e w' => e = .returned (.bool (endP o)) ∧ Below w.heap.size w w' := by
  have hb := (Below.refl _ w).alloc (Nat.le_refl _) (.cells #[hasO o, .int .i64 (lineO o), .int .i64 (colO o)] 122)
  have HB := Lib.hid hb
  clear hb
  unfold itemV
  generalize lineO o = L at *
  generalize colO o = C at *
  rcases has_ways o with ⟨h0, h1, h2, h3, h4⟩ | ⟨t, h0, h1, h2, h3, h4⟩ | ⟨n, h0, h1, h2, h3, h4⟩ | ⟨t, h0, h1, h2, h3, h4⟩ | ⟨h0, h1, h2, h3, h4⟩
  · rw [h4]
    rw [h0] at HB ⊢
    clear h0 h1 h2 h3 h4
    have hta := fun W => as_end_nil W
    go_enter Tryz.func120, Tryz.ntmps120
    go_wp2
    go_ret
    exact ⟨rfl, HB.out.alloc (by simp) _⟩
  · rw [h4]
    rw [h0] at HB ⊢
    clear h0 h1 h2 h3 h4
    have hta := fun W => as_end_name t W
    go_enter Tryz.func120, Tryz.ntmps120
    go_wp2
    go_ret
    exact ⟨rfl, HB.out.alloc (by simp) _⟩
  · rw [h4]
    rw [h0] at HB ⊢
    clear h0 h1 h2 h3 h4
    have hta := fun W => as_end_num n W
    go_enter Tryz.func120, Tryz.ntmps120
    go_wp2
    go_ret
    exact ⟨rfl, HB.out.alloc (by simp) _⟩
  · rw [h4]
    rw [h0] at HB ⊢
    clear h0 h1 h2 h3 h4
    have hta := fun W => as_end_sign t W
    go_enter Tryz.func120, Tryz.ntmps120
    go_wp2
    go_ret
    exact ⟨rfl, HB.out.alloc (by simp) _⟩
  · rw [h4]
    rw [h0] at HB ⊢
    clear h0 h1 h2 h3 h4
    have hta := fun W => as_end_end W
    go_enter Tryz.func120, Tryz.ntmps120
    go_wp2
    go_ret
    exact ⟨rfl, HB.out.alloc (by simp) _⟩

set_option maxRecDepth 100000 in
theorem isSignI_any (o : Option Wd) (s : ByteArray) (w : World) : Calls Tryz.prog 195 #[itemV o, .string s] w fun e w' => e = .returned (.bool (signP o s)) ∧ Below w.heap.size w w' := by
  have hb := (Below.refl _ w).alloc (Nat.le_refl _) (.cells #[hasO o, .int .i64 (lineO o), .int .i64 (colO o)] 122)
  have HB := Lib.hid hb
  clear hb
  unfold itemV
  generalize lineO o = L at *
  generalize colO o = C at *
  rcases has_ways o with ⟨h0, h1, h2, h3, h4⟩ | ⟨t, h0, h1, h2, h3, h4⟩ | ⟨n, h0, h1, h2, h3, h4⟩ | ⟨t, h0, h1, h2, h3, h4⟩ | ⟨h0, h1, h2, h3, h4⟩
  · rw [h3]
    rw [h0] at HB ⊢
    clear h0 h1 h2 h3 h4
    have hta := fun W => as_sign_nil W
    go_enter Tryz.func195, Tryz.ntmps195
    go_wp2
    go_ret
    exact ⟨rfl, HB.out⟩
  · rw [h3]
    rw [h0] at HB ⊢
    clear h0 h1 h2 h3 h4
    have hta := fun W => as_sign_name t W
    go_enter Tryz.func195, Tryz.ntmps195
    go_wp2
    go_ret
    exact ⟨rfl, HB.out⟩
  · rw [h3]
    rw [h0] at HB ⊢
    clear h0 h1 h2 h3 h4
    have hta := fun W => as_sign_num n W
    go_enter Tryz.func195, Tryz.ntmps195
    go_wp2
    go_ret
    exact ⟨rfl, HB.out⟩
  · rw [h3]
    rw [h0] at HB ⊢
    clear h0 h1 h2 h3 h4
    have hta := fun W => as_sign_sign t W
    go_enter Tryz.func195, Tryz.ntmps195
    go_wp2
    go_ret
    exact ⟨by rw [← text_eq]; rfl, HB.out⟩
  · rw [h3]
    rw [h0] at HB ⊢
    clear h0 h1 h2 h3 h4
    have hta := fun W => as_sign_end W
    go_enter Tryz.func195, Tryz.ntmps195
    go_wp2
    go_ret
    exact ⟨rfl, HB.out⟩

theorem held_any (x : Wd) (w : World) : Calls Tryz.prog 119 #[.agg #[.int .i64 x.k, .string x.t, .int .i64 x.n, .int .i64 x.l, .int .i64 x.c]] w fun e w' => e = .returned (hasV x) ∧ Below w.heap.size w w' := by
  have hb := (Below.refl _ w).alloc (Nat.le_refl _) (.cells #[.int .i64 x.k, .string x.t, .int .i64 x.n, .int .i64 x.l, .int .i64 x.c] 158)
  have HB := Lib.hid hb
  clear hb
  obtain ⟨k, t, n, l, c⟩ := x
  simp only at HB ⊢
  by_cases h1 : k = 1
  · have E : Hid (hasV ⟨k, t, n, l, c⟩ = .iface 202 (.string t)) := by show _ = _; simp [hasV, h1]
    subst h1
    go_enter Tryz.func119, Tryz.ntmps119
    go_wp2
    go_ret
    exact ⟨by rw [E.out]; rfl, HB.out⟩
  by_cases h2 : k = 2
  · have E : Hid (hasV ⟨k, t, n, l, c⟩ = .iface 203 (.int .i64 n)) := by show _ = _; simp [hasV, h2]
    subst h2
    go_enter Tryz.func119, Tryz.ntmps119
    go_wp2
    go_ret
    exact ⟨by rw [E.out]; rfl, HB.out⟩
  by_cases h3 : k = 3
  · have E : Hid (hasV ⟨k, t, n, l, c⟩ = .iface 204 (.string t)) := by show _ = _; simp [hasV, h3]
    subst h3
    go_enter Tryz.func119, Tryz.ntmps119
    go_wp2
    go_ret
    exact ⟨by rw [E.out]; rfl, HB.out⟩
  have E : Hid (hasV ⟨k, t, n, l, c⟩ = .iface 206 (.agg #[])) := by show _ = _; simp [hasV, h1, h2, h3]
  have q1 : (k == 1) = false := by simp [h1]
  have q2 : (k == 2) = false := by simp [h2]
  have q3 : (k == 3) = false := by simp [h3]
  go_enter Tryz.func119, Tryz.ntmps119
  go_wp2
  go_ret
  exact ⟨by rw [E.out]; rfl, HB.out⟩
end Go.Proofs.YthiipgahbmoiiaaGreatDoor
namespace Go.Proofs.YthiipgahbmoiiaaGreatDoor
open Go.RowKit

/-- The row of words that are left. -/
def RowI (w : World) (a : Option Addr) (ws : List Wd) : Prop := ∀ k x, ws[k]? = some x → ∃ gg o cs, a = some ⟨gg, o, none⟩ ∧ Blk w gg 122 cs ∧ cs[o + k * 3]? = some (hasV x) ∧ cs[o + k * 3 + 1]? = some (.int .i64 x.l) ∧ cs[o + k * 3 + 2]? = some (.int .i64 x.c)
def cellsC (g : Nat) (a : Option Addr) (cap : Nat) (c : Cu) : Array Value := #[.slice a c.left.length cap, .pointer (some ⟨g, 0, none⟩), .int .i64 c.line, .int .i64 c.col, .int .i64 c.fault]
def CurC (w : World) (g : Nat) (c : Cu) : Prop := ∃ a cap, Blk w g 116 (cellsC g a cap c) ∧ c.left.length ≤ cap ∧ cap ≤ 9223372036854775807 ∧ RowI w a c.left
theorem blk_ne {w : World} {g g' : Nat} {t t' : TypeId} {cs cs' : Array Value} (h : Blk w g t cs) (h' : Blk w g' t' cs') (ht : t ≠ t') : g ≠ g' := by
  rintro rfl
  unfold Blk at h h'
  rw [h] at h'
  injection h' with h'
  injection h' with _ h'
  exact ht h'
theorem Blk.keep {w w' : World} {g g' : Nat} {t : TypeId} {cs : Array Value} (h : Blk w g t cs) (hk : Keep w.heap.size g' w w') (hne : g ≠ g') : Blk w' g t cs := (hk.block g h.lt hne).trans h
theorem RowI.keep {w w' : World} {a : Option Addr} {ws : List Wd} {g' : Nat} {t' : TypeId} {cs' : Array Value} (h : RowI w a ws) (hk : Keep w.heap.size g' w w') (hg : Blk w g' t' cs') (ht : 122 ≠ t') : RowI w' a ws := fun k x hx => by
  obtain ⟨gg, o, cs, ha, hb, r⟩ := h k x hx
  exact ⟨gg, o, cs, ha, hb.keep hk (blk_ne hb hg ht), r⟩
theorem RowI.below {w w' : World} {a : Option Addr} {ws : List Wd} (h : RowI w a ws) (hk : Below w.heap.size w w') : RowI w' a ws := fun k x hx => by
  obtain ⟨gg, o, cs, ha, hb, r⟩ := h k x hx
  exact ⟨gg, o, cs, ha, hb.below hk hb.lt, r⟩
theorem CurC.lt {w : World} {g : Nat} {c : Cu} (h : CurC w g c) : g < w.heap.size := by obtain ⟨_, _, hb, _⟩ := h; exact hb.lt
theorem CurC.below {w w' : World} {g : Nat} {c : Cu} (h : CurC w g c) (hk : Below w.heap.size w w') : CurC w' g c := by
  obtain ⟨a, cap, hb, hl, hm, hr⟩ := h
  exact ⟨a, cap, hb.below hk hb.lt, hl, hm, hr.below hk⟩
theorem CurC.keep {w w' : World} {g g' : Nat} {c : Cu} {t' : TypeId} {cs' : Array Value} (h : CurC w g c) (hk : Keep w.heap.size g' w w') (hg : Blk w g' t' cs') (h1 : 122 ≠ t') (h2 : 116 ≠ t') : CurC w' g c := by
  obtain ⟨a, cap, hb, hl, hm, hr⟩ := h
  exact ⟨a, cap, hb.keep hk (blk_ne hb hg h2), hl, hm, hr.keep hk hg h1⟩
/-- One that is written anew, its row as it was. -/
theorem CurC.put {w w' : World} {g : Nat} {c c' : Cu} {a a' : Option Addr} {cap cap' : Nat} (hb : Blk w g 116 (cellsC g a cap c)) (hb' : Blk w' g 116 (cellsC g a' cap' c')) (hk : Keep w.heap.size g w w') (hl : c'.left.length ≤ cap') (hm : cap' ≤ 9223372036854775807) (hr : RowI w a' c'.left) : CurC w' g c' :=
  ⟨a', cap', hb', hl, hm, hr.keep hk hb (by decide)⟩
theorem RowI.tail {w : World} {gg o : Nat} {x : Wd} {ws : List Wd} (h : RowI w (some ⟨gg, o, none⟩) (x :: ws)) : RowI w (some ⟨gg, o + 3, none⟩) ws := fun k y hy => by
  obtain ⟨gg', o', cs, ha, hb, h0, h1, h2⟩ := h (k + 1) y (by simpa using hy)
  simp only [Option.some.injEq, Addr.mk.injEq] at ha
  obtain ⟨rfl, rfl, _⟩ := ha
  have e : o + (k + 1) * 3 = o + 3 + k * 3 := by omega
  rw [e] at h0 h1 h2
  exact ⟨gg, o + 3, cs, rfl, hb, h0, h1, h2⟩
theorem RowI.nil (w : World) (a : Option Addr) : RowI w a [] := fun k x hx => by simp at hx

theorem cursor_size : (Tryz.prog.info? 116).map (·.size) = some 5 := by kernel_rfl
set_option maxRecDepth 100000 in
theorem told_any (g : Nat) (c : Cu) (w : World) (h : CurC w g c) : Calls Tryz.prog 82 #[.pointer (some ⟨g, 0, none⟩)] w fun e w' => e = .returned (.bool true) ∧ w = w' := by
  obtain ⟨j, hj, hjs⟩ := Option.map_eq_some_iff.1 cursor_size
  obtain ⟨a, cap, hb, _, _, _⟩ := h
  have m1 : w.cell? ⟨g, 1, none⟩ = some (.pointer (some ⟨g, 0, none⟩)) := hb.cell 1
  have hpe := fun W : World => run_eql_ptr_same W ⟨g, 0, none⟩ Tryz.underlying62 hj
  go_enter Tryz.func82, Tryz.ntmps82
  go_wp2
  go_ret
  exact ⟨rfl, rfl⟩
theorem has_iface (x : Wd) : ∃ T v, hasV x = .iface T v := by
  unfold hasV
  split
  · exact ⟨_, _, rfl⟩
  split
  · exact ⟨_, _, rfl⟩
  split
  · exact ⟨_, _, rfl⟩
  · exact ⟨_, _, rfl⟩
/-- The next word's cells. -/
theorem RowI.head {w : World} {a : Option Addr} {x : Wd} {r : List Wd} (h : RowI w a (x :: r)) : ∃ gg o, a = some ⟨gg, o, none⟩ ∧ gg < w.heap.size ∧ w.cell? ⟨gg, o, none⟩ = some (hasV x) ∧ w.cell? ⟨gg, o + 1, none⟩ = some (.int .i64 x.l) ∧ w.cell? ⟨gg, o + 2, none⟩ = some (.int .i64 x.c) := by
  obtain ⟨gg, o, cs, ha, hb, h0, h1, h2⟩ := h 0 x rfl
  simp only [Nat.zero_mul, Nat.add_zero] at h0 h1 h2
  exact ⟨gg, o, ha, hb.lt, (hb.cell _).trans h0, (hb.cell _).trans h1, (hb.cell _).trans h2⟩
set_option maxRecDepth 100000 in
theorem next_any (g : Nat) (c : Cu) (w : World) (h : CurC w g c) : Calls Tryz.prog 83 #[.pointer (some ⟨g, 0, none⟩)] w fun e w' => e = .returned (itemV c.left.head?) ∧ Below w.heap.size w w' := by
  obtain ⟨a, cap, hb, hl, hm, hr⟩ := h
  have hlt := hb.lt
  have m0 : w.cell? ⟨g, 0, none⟩ = some (.slice a c.left.length cap) := hb.cell 0
  have hb0 := (Below.refl _ w).alloc (Nat.le_refl _) (.cells #[.nilIface, .int .i64 0, .int .i64 0] 122)
  have HB := Lib.hid hb0
  clear hb0 hb
  cases hle : c.left with
  | nil =>
    rw [hle] at m0
    clear hr hl hle
    go_enter Tryz.func83, Tryz.ntmps83
    go_wp2
    refine bodyPost_ret (v := itemV none) (by simp [results, Tryz.results83, go_sem, itemV, hasO, lineO, colO]) rfl ⟨rfl, ?_⟩
    exact HB.out
  | cons x r =>
    rw [hle] at m0 hr
    obtain ⟨gg, o, rfl, hgg, n0, n1, n2⟩ := hr.head
    have hlen : (0 : Int) < r.length + 1 := by omega
    have hlen2 : (((r.length + 1 : Nat) : Int) == 0) = false := by simp; omega
    have E : itemV (some x) = .agg #[hasV x, .int .i64 x.l, .int .i64 x.c] := rfl
    obtain ⟨T, v, hv⟩ := has_iface x
    rw [hv] at n0 E
    have HE := Lib.hid E
    clear hr hl hle E hv
    go_enter Tryz.func83, Tryz.ntmps83
    go_wp2
    refine bodyPost_ret (v := .agg #[.iface T v, .int .i64 x.l, .int .i64 x.c]) (by simp [results, Tryz.results83, go_sem]) rfl ⟨by rw [← HE.out]; rfl, ?_⟩
    exact (Below.refl _ w).alloc (Nat.le_refl _) _
end Go.Proofs.YthiipgahbmoiiaaGreatDoor
namespace Go.Proofs.YthiipgahbmoiiaaGreatDoor
open Go.RowKit

theorem item_form (o : Option Wd) : itemV o = .agg #[.nilIface, .int .i64 (lineO o), .int .i64 (colO o)] ∨ ∃ T v, itemV o = .agg #[.iface T v, .int .i64 (lineO o), .int .i64 (colO o)] := by
  cases o with
  | none => exact .inl rfl
  | some x =>
    obtain ⟨T, v, h⟩ := has_iface x
    exact .inr ⟨T, v, by rw [← h]; rfl⟩
set_option maxRecDepth 100000 in
theorem now_any (g : Nat) (c : Cu) (w : World) (h : CurC w g c) : Calls Tryz.prog 127 #[.pointer (some ⟨g, 0, none⟩)] w fun e w' => e = .returned (itemV c.left.head?) ∧ Below w.heap.size w w' := by
  have hb0 : Below w.heap.size w (w.alloc (.cells #[.nilIface, .int .i64 0, .int .i64 0] 122)) := (Below.refl _ w).alloc (Nat.le_refl _) _
  have h1 := h.below hb0
  have T := Lib.hid (told_any g c _ h1)
  have N := Lib.hid (next_any g c _ h1)
  clear h1 h hb0
  obtain ⟨o, ho⟩ : ∃ o, c.left.head? = o := ⟨_, rfl⟩
  rw [ho] at N ⊢
  clear ho
  rcases item_form o with hf | ⟨Y, v, hf⟩
  · rw [hf] at N ⊢
    clear hf
    go_enter Tryz.func127, Tryz.ntmps127
    go_wp2_with fail
    refine T.out.mono ?_
    rintro e w1 ⟨rfl, rfl⟩
    go_wp2_with fail
    refine N.out.mono ?_
    rintro e w1 ⟨rfl, hb⟩
    have HB : Hid (w1.heap[w.heap.size]? = some (.cells #[.nilIface, .int .i64 0, .int .i64 0] 122 (0, 0))) := (hb.block _ (by simp)).trans (heap_alloc_new w _)
    have c0 : w1.cell? ⟨w.heap.size, 0, none⟩ = some .nilIface := (Blk.cell (t := 122) HB.out 0).trans rfl
    have c1 : w1.cell? ⟨w.heap.size, 1, none⟩ = some (.int .i64 0) := (Blk.cell (t := 122) HB.out 1).trans rfl
    have c2 : w1.cell? ⟨w.heap.size, 2, none⟩ = some (.int .i64 0) := (Blk.cell (t := 122) HB.out 2).trans rfl
    have f0 := Blk.free (t := 122) HB.out 0
    have f1 := Blk.free (t := 122) HB.out 1
    have f2 := Blk.free (t := 122) HB.out 2
    have HK : Hid (Below w.heap.size w w1) := ((Below.refl _ w).alloc (Nat.le_refl _) _).trans (hb.mono (by simp))
    clear hb N T
    go_wp2
    have HB3 := ((Blk.put HB.out 0 (Value.nilIface)).put 1 (.int .i64 (lineO o))).put 2 (.int .i64 (colO o))
    have HK3 := Lib.hid (((HK.out.setCell (p := ⟨w.heap.size, 0, none⟩) (Nat.le_refl _) (Value.nilIface)).setCell (p := ⟨w.heap.size, 1, none⟩) (Nat.le_refl _) (.int .i64 (lineO o))).setCell (p := ⟨w.heap.size, 2, none⟩) (Nat.le_refl _) (.int .i64 (colO o)))
    clear c0 c1 c2 f0 f1 f2 HB HK
    generalize ((w1.setCell ⟨w.heap.size, 0, none⟩ (Value.nilIface)).setCell ⟨w.heap.size, 1, none⟩ (.int .i64 (lineO o))).setCell ⟨w.heap.size, 2, none⟩ (.int .i64 (colO o)) = w4 at *
    have k0 : w4.cell? ⟨w.heap.size, 0, none⟩ = some (Value.nilIface) := (HB3.cell 0).trans rfl
    have k1 : w4.cell? ⟨w.heap.size, 1, none⟩ = some (.int .i64 (lineO o)) := (HB3.cell 1).trans rfl
    have k2 : w4.cell? ⟨w.heap.size, 2, none⟩ = some (.int .i64 (colO o)) := (HB3.cell 2).trans rfl
    exact bodyPost_ret (v := .agg #[Value.nilIface, .int .i64 (lineO o), .int .i64 (colO o)]) (by simp [results, Tryz.results127, go_sem, k0, k1, k2]) rfl ⟨rfl, HK3.out⟩
  · rw [hf] at N ⊢
    clear hf
    go_enter Tryz.func127, Tryz.ntmps127
    go_wp2_with fail
    refine T.out.mono ?_
    rintro e w1 ⟨rfl, rfl⟩
    go_wp2_with fail
    refine N.out.mono ?_
    rintro e w1 ⟨rfl, hb⟩
    have HB : Hid (w1.heap[w.heap.size]? = some (.cells #[.nilIface, .int .i64 0, .int .i64 0] 122 (0, 0))) := (hb.block _ (by simp)).trans (heap_alloc_new w _)
    have c0 : w1.cell? ⟨w.heap.size, 0, none⟩ = some .nilIface := (Blk.cell (t := 122) HB.out 0).trans rfl
    have c1 : w1.cell? ⟨w.heap.size, 1, none⟩ = some (.int .i64 0) := (Blk.cell (t := 122) HB.out 1).trans rfl
    have c2 : w1.cell? ⟨w.heap.size, 2, none⟩ = some (.int .i64 0) := (Blk.cell (t := 122) HB.out 2).trans rfl
    have f0 := Blk.free (t := 122) HB.out 0
    have f1 := Blk.free (t := 122) HB.out 1
    have f2 := Blk.free (t := 122) HB.out 2
    have HK : Hid (Below w.heap.size w w1) := ((Below.refl _ w).alloc (Nat.le_refl _) _).trans (hb.mono (by simp))
    clear hb N T
    go_wp2
    have HB3 := ((Blk.put HB.out 0 (Value.iface Y v)).put 1 (.int .i64 (lineO o))).put 2 (.int .i64 (colO o))
    have HK3 := Lib.hid (((HK.out.setCell (p := ⟨w.heap.size, 0, none⟩) (Nat.le_refl _) (Value.iface Y v)).setCell (p := ⟨w.heap.size, 1, none⟩) (Nat.le_refl _) (.int .i64 (lineO o))).setCell (p := ⟨w.heap.size, 2, none⟩) (Nat.le_refl _) (.int .i64 (colO o)))
    clear c0 c1 c2 f0 f1 f2 HB HK
    generalize ((w1.setCell ⟨w.heap.size, 0, none⟩ (Value.iface Y v)).setCell ⟨w.heap.size, 1, none⟩ (.int .i64 (lineO o))).setCell ⟨w.heap.size, 2, none⟩ (.int .i64 (colO o)) = w4 at *
    have k0 : w4.cell? ⟨w.heap.size, 0, none⟩ = some (Value.iface Y v) := (HB3.cell 0).trans rfl
    have k1 : w4.cell? ⟨w.heap.size, 1, none⟩ = some (.int .i64 (lineO o)) := (HB3.cell 1).trans rfl
    have k2 : w4.cell? ⟨w.heap.size, 2, none⟩ = some (.int .i64 (colO o)) := (HB3.cell 2).trans rfl
    exact bodyPost_ret (v := .agg #[Value.iface Y v, .int .i64 (lineO o), .int .i64 (colO o)]) (by simp [results, Tryz.results127, go_sem, k0, k1, k2]) rfl ⟨rfl, HK3.out⟩
set_option maxRecDepth 100000 in
theorem pass_any2 (g : Nat) (c : Cu) (w : World) (h : CurC w g c) (h0 : c.left ≠ []) : Calls Tryz.prog 165 #[.pointer (some ⟨g, 0, none⟩)] w fun e w' => e = .returned (.tuple #[]) ∧ CurC w' g c.pass ∧ Keep w.heap.size g w w' := by
  obtain ⟨a, cap, hb, hl, hm, hr⟩ := id h
  have m0 : w.cell? ⟨g, 0, none⟩ = some (.slice a c.left.length cap) := hb.cell 0
  have f0 := hb.free 0
  have HB := Lib.hid hb
  have hlt := hb.lt
  clear hb h
  cases hle : c.left with
  | nil => exact absurd hle h0
  | cons x r =>
    rw [hle] at m0 hr hl
    obtain ⟨gg, o, rfl, _⟩ := hr.head
    have HR := Lib.hid hr
    simp only [List.length_cons] at hl m0
    by_cases hc : cap = 1
    · subst hc
      have hr0 : r = [] := List.length_eq_zero_iff.1 (by omega)
      have HE : Hid (c.pass = { c with left := [] }) := by show _ = _; simp [Cu.pass, hle, hr0]
      subst hr0
      have HK : Hid (∀ a', Blk (w.setCell ⟨g, 0, none⟩ (.slice a' 0 0)) g 116 (cellsC g a' 0 { c with left := [] })) := fun a' => HB.out.put 0 _
      clear hr hle h0 hl
      go_enter Tryz.func165, Tryz.ntmps165
      go_wp2
      go_end0
      refine ⟨rfl, ?_, Keep.put _ _ _ _ _⟩
      rw [HE.out]
      exact CurC.put HB.out (HK.out _) (Keep.put _ _ _ _ _) (Nat.le_refl 0) (by omega) (RowI.nil _ _)
    · have hc1 : (1 : Int) ≤ cap := by omega
      have HE : Hid (c.pass = { c with left := r }) := by show _ = _; simp [Cu.pass, hle]
      clear hr hle h0
      go_enter Tryz.func165, Tryz.ntmps165
      go_wp2
      go_end0
      refine ⟨rfl, ?_, Keep.put _ _ _ _ _⟩
      rw [HE.out]
      exact CurC.put (c' := { c with left := r }) HB.out (HB.out.put 0 _) (Keep.put _ _ _ _ _) (by simp only; omega) (by omega) HR.out.tail
theorem over_any (g : Nat) (c : Cu) (b : Bool) (w : World) (h : CurC w g c) (h0 : b = true → c.left ≠ []) : Calls Tryz.prog 126 #[.pointer (some ⟨g, 0, none⟩), .bool b] w fun e w' => e = .returned (.bool b) ∧ CurC w' g (c.over b) ∧ Keep w.heap.size g w w' := by
  cases b
  · have H := Lib.hid h
    clear h h0
    go_enter Tryz.func126, Tryz.ntmps126
    go_wp2
    go_ret
    exact ⟨rfl, H.out, Keep.refl _ _ _⟩
  · have P := Lib.hid (pass_any2 g c w h (h0 rfl))
    clear h h0
    go_enter Tryz.func126, Tryz.ntmps126
    go_wp2_with fail
    refine P.out.mono ?_
    rintro e w1 ⟨rfl, h1, k1⟩
    have H1 := Lib.hid h1
    have K1 := Lib.hid k1
    clear h1 k1
    go_wp2
    go_ret
    exact ⟨rfl, H1.out, K1.out⟩
theorem neq_nil_nil (W : World) : (binOp .neq 20 .nilIface .nilIface).run Tryz.prog W = .ok (.bool false) W := by kernel_rfl
theorem neq_has_nil (T : TypeId) (v : Value) (W : World) : (binOp .neq 20 (.iface T v) .nilIface).run Tryz.prog W = .ok (.bool true) W := by kernel_rfl
theorem eql_nil_nil (W : World) : (binOp .eql 20 .nilIface .nilIface).run Tryz.prog W = .ok (.bool true) W := by kernel_rfl
theorem eql_has_nil (T : TypeId) (v : Value) (W : World) : (binOp .eql 20 (.iface T v) .nilIface).run Tryz.prog W = .ok (.bool false) W := by kernel_rfl
theorem item_has (V : Value) (L C : Int) (W : World) : (Instr.field 122 (.agg #[V, .int .i64 L, .int .i64 C]) 0).run Tryz.prog W = .ok V W := by kernel_rfl
theorem item_place (V : Value) (L C : Int) (W : World) : (Instr.field 122 (.agg #[V, .int .i64 L, .int .i64 C]) 1).run Tryz.prog W = .ok (.agg #[.int .i64 L, .int .i64 C]) W := by kernel_rfl
theorem more_form (c : Cu) : c.more = (match c.left.head? with | some _ => true | none => false) := by
  unfold Cu.more
  cases c.left <;> rfl
set_option maxRecDepth 100000 in
theorem more_any (g : Nat) (c : Cu) (w : World) (h : CurC w g c) : Calls Tryz.prog 79 #[.pointer (some ⟨g, 0, none⟩)] w fun e w' => e = .returned (.bool c.more) ∧ Below w.heap.size w w' := by
  have N := Lib.hid (now_any g c w h)
  rw [more_form]
  clear h
  cases ho : c.left.head? with
  | none =>
    rw [ho] at N
    simp only [itemV, hasO] at N ⊢
    clear ho
    have hn := neq_nil_nil
    have hf := item_has
    go_enter Tryz.func79, Tryz.ntmps79
    go_wp2_with fail
    refine N.out.mono ?_
    rintro e w1 ⟨rfl, hb⟩
    have HB := Lib.hid hb
    clear hb N
    go_wp2
    go_ret
    exact ⟨rfl, HB.out⟩
  | some x =>
    obtain ⟨T, v, hv⟩ := has_iface x
    rw [ho] at N
    simp only [itemV, hasO, hv] at N ⊢
    clear ho hv
    have hn := neq_has_nil
    have hf := item_has
    go_enter Tryz.func79, Tryz.ntmps79
    go_wp2_with fail
    refine N.out.mono ?_
    rintro e w1 ⟨rfl, hb⟩
    have HB := Lib.hid hb
    clear hb N
    go_wp2
    go_ret
    exact ⟨rfl, HB.out⟩
end Go.Proofs.YthiipgahbmoiiaaGreatDoor
