/-
  Numbers as words, and words as numbers: strconv's Itoa and Atoi, behind whatever lay ahead. Conditions: the library's tables hold what the library's text lays.
  Rows of numbers that a call made, and appending numbers that lie somewhere to them. No condition beyond those that each theorem states.
  A target's lines as rows of words, plainly; package mread's words and rows. Conditions: the library's tables hold what the library's text lays.
-/
import Derived.Test.YtbjmbahpcoanoaaGreatDoorPk10
import Derived.Test.YtbjmbahpcoanoaaGreatDoorPk1
import Derived.Lib.ItoaLen
import Derived.Lib.AtoiErrMem
import Derived.Laws.Concat
import Derived.OwnWalk
import Derived.Deep.DeepMust
import Derived.Deep.RegionLaw
import Derived.Laws.AppendOwnNone
import Derived.Maps.AppendAt
import Derived.Test.YtbjmbahpcoanoaaGreatDoorPk4
namespace Go.Proofs.YtbjmbahpcoanoaaGreatDoor
open Go.RowKit

theorem var_below {w w' : World} (hb : Below w.heap.size w w') {name : String} {cs : Array Value} (h : w.var? Tryz.prog name = some cs) : w'.var? Tryz.prog name = some cs := by
 unfold World.var? at *
 cases hg : Tryz.prog.globalNamed name with
 | none => simp [hg] at h
 | some g =>
  simp only [hg, Option.bind_some] at h ⊢
  cases hk : w.heap[g]? with
  | none => simp [hk] at h
  | some o => rw [hb.block g (Array.getElem?_eq_some_iff.1 hk).1, hk]; rw [hk] at h; exact h
/-- The powers of ten lie as they were laid. -/
def PowW (w : World) : Prop := Lib.TabIs Tryz.prog w "internal/strconv.uint64pow10" .u64 Lib.pow10Tab
theorem PowW.below {w w' : World} (h : PowW w) (hb : Below w.heap.size w w') : PowW w' := var_below hb h
/-- Both of strconv's errors are there. -/
def ErrsW (w : World) : Prop := (∃ t p, w.var? Tryz.prog "strconv.ErrSyntax" = some #[.iface t p]) ∧ ∃ t p, w.var? Tryz.prog "strconv.ErrRange" = some #[.iface t p]
theorem ErrsW.below {w w' : World} (h : ErrsW w) (hb : Below w.heap.size w w') : ErrsW w' := by
 obtain ⟨⟨t, p, h1⟩, t', p', h2⟩ := h
 exact ⟨⟨t, p, var_below hb h1⟩, t', p', var_below hb h2⟩
/-- A number's digits. -/
def itS (n : Int) : ByteArray := ⟨(Lib.itoa n).toArray⟩
theorem itS_len (n : Int) (h0 : -9223372036854775808 ≤ n) (h1 : n ≤ 9223372036854775807) : (itS n).size ≤ 21 := by
 show (Lib.itoa n).toArray.size ≤ 21
 rw [List.size_toArray]
 exact Lib.itoa_length_le n h0 h1
theorem below_grow (w : World) (k : Nat) (os : Array Obj) : Below w.heap.size w (Sort.grow (w.drewN k) os) := by
 refine (below_draws (Below.refl _ w) k).trans ⟨rfl, rfl, rfl, ?_, ?_⟩
 · simp [Sort.grow]
 · intro j hj
   simp only [Sort.grow]
   exact Array.getElem?_append_left hj
theorem itoaP_any (n : Int) (w : World) (hP : PowW w) (h0 : -9223372036854775808 ≤ n) (h1 : n ≤ 9223372036854775807) :
    Calls Tryz.prog 25 #[.int .i64 n] w fun e w' => e = .returned (.string (itS n)) ∧ Below w.heap.size w w' :=
 (Tryz.strconv_Itoa n h0 h1 w hP).mono fun _ _ ⟨h2, k, os, h3⟩ => ⟨h2, h3 ▸ below_grow w k os⟩
theorem atoi_good (s : ByteArray) (v : Int) (w : World) (hs : s.size ≤ 1000000) (h : Lib.atoiAll s.data.toList = .ok v) :
    Calls Tryz.prog 197 #[.string s] w fun e w' => e = .returned (.tuple #[.int .i64 v, .nilIface]) ∧ Below w.heap.size w w' :=
 (Tryz.strconv_Atoi_ok s (by omega) v h w).mono fun e w' ⟨h1, h2⟩ => ⟨h1, by
   rcases h2 with rfl | ⟨t, rfl⟩
   · exact Below.refl _ _
   · exact Lib.bytesWorld_below _ _ _⟩
theorem atoi_bad (s : ByteArray) (w : World) (hE : ErrsW w) (hs : s.size ≤ 1000000) (h : ∀ v, Lib.atoiAll s.data.toList ≠ .ok v) :
    Calls Tryz.prog 197 #[.string s] w fun e w' => ∃ (v : Int) (t : TypeId) (N : Nat), e = .returned (.tuple #[.int .i64 v, .iface t (.pointer (some ⟨N, 0, none⟩))]) ∧ Below w.heap.size w w' := by
 obtain ⟨⟨t, p, h1⟩, t', p', h2⟩ := hE
 cases hh : Lib.atoiAll s.data.toList
 case ok v => exact absurd hh (h v)
 case range => exact (Tryz.strconv_Atoi_range_var s (by omega) hh t' p' w h2).mono fun e w' ⟨N, g1, _, _, g4⟩ => ⟨_, _, N, g1, g4⟩
 · exact (Any.strconv_Atoi_syntax_var Tryz.laysC172 s (by omega) hh t p w h1).mono fun e w' ⟨N, g1, _, _, g4⟩ => ⟨0, _, N, g1, g4⟩
/-- Small numbers, as they are written, are read. -/
theorem atoi_itoa : ∀ n : Nat, n < 400 → Lib.atoiAll (Lib.itoa (n : Int)) = .ok (n : Int) := by
 have h : ((List.range 400).all fun (n : Nat) => match Lib.atoiAll (Lib.itoa (n : Int)) with | .ok v => v == (n : Int) | _ => false) = true := by decide +kernel
 intro n hn
 have h1 := List.all_eq_true.1 h n (by simpa using hn)
 cases hh : Lib.atoiAll (Lib.itoa (n : Int))
 case ok v => rw [hh] at h1; simp at h1; rw [h1]
 all_goals (rw [hh] at h1; cases h1)
end Go.Proofs.YtbjmbahpcoanoaaGreatDoor
namespace Go.Proofs.YtbjmbahpcoanoaaGreatDoor
open Go.RowKit

theorem int_info : (Tryz.prog.info? 3).map (fun i => (i.zero, i.size, i.bytes)) = some (some (.int .i64 0), 1, 8) := by kernel_rfl
/-- Numbers that a call made. -/
def OwnI (w : World) (B : Nat) (v : Value) (l : List Int) : Prop := w.ownsRow B 3 1 v l.length (l.map (Value.int .i64))
theorem OwnI.more {w2 : World} {B gg cap : Nat} {l : List Int} {x : Int} (h : w2.ownsRow B 3 1 (.slice (some ⟨gg, 0, none⟩) (l.length + 1) cap) (l.length + 1) (l.map (Value.int .i64) ++ [.int .i64 x])) :
    OwnI w2 B (.slice (some ⟨gg, 0, none⟩) (l.length + 1) cap) (l ++ [x]) := by
 unfold OwnI
 rw [List.length_append, List.map_append]
 simpa using h
theorem grownBy_same (w : World) (row : Option Nat) : w.grownBy w row := ⟨rfl, rfl, rfl, Nat.le_refl _, fun _ _ _ => rfl⟩
theorem OwnI.shape {w : World} {B : Nat} {v : Value} {l : List Int} (h : OwnI w B v l) : ∃ a c, v = .slice a l.length c ∧ (a = none → c = 0) ∧ IntsW w a l := by
 have h0 := h
 rcases h.2 with ⟨rfl, h1⟩ | ⟨g, cap, cur, rfl, _⟩
 · have : l = [] := List.length_eq_zero_iff.1 h1
   subst this
   exact ⟨none, 0, rfl, fun _ => rfl, IntsW.nil _ _⟩
 · exact ⟨some ⟨g, 0, none⟩, cap, rfl, (fun h => by cases h), IntsW.own h0⟩
/-- A new block of numbers is a row of the call's own. -/
theorem OwnI.new {w : World} {B g : Nat} {l : List Int} (h : Blk w g 3 (l.map (Value.int .i64)).toArray) (hB : B ≤ g) (hl : l.length ≤ 1000000) : OwnI w B (.slice (some ⟨g, 0, none⟩) l.length l.length) l :=
 ⟨by simp, .inr ⟨g, l.length, _, rfl, hB, h, Nat.le_refl _, by simp only [maxLen]; omega, by simp, by simp [List.take_of_length_le]⟩⟩
theorem wpList_append_ints {ops : Array Oper} {rest : List Oper} {o : Oper} {a : Act} {w : World} {Q : Exit → Act → World → Prop} (hgd : o.guard = none) (s x : Operand)
    (ho : o.op = .call { callee := .builtin .append, args := #[s, x], argTypes := #[37, 37] }) (base : Nat) (v : Value) (l0 : List Int) (hs : a.eval s = v) (hown : OwnI w base v l0)
    (sa : Option Addr) (c : Nat) (l : List Int) (hx : a.eval x = .slice sa l.length c) (hn : sa = none → c = 0) (hI : IntsW w sa l) (hb : l0.length + l.length ≤ 2000000) (hbase : base ≤ w.heap.size)
    (h : ∀ v' w', OwnI w' base v' (l0 ++ l) → w.grownBy w' v.ownBlock → (v'.ownBlock = v.ownBlock ∨ v'.ownBlock = some w.heap.size) → wpList Tryz.prog ops Q rest (a.put o.dst v') w') : wpList Tryz.prog ops Q (o :: rest) a w := by
 obtain ⟨i0, hi0, hz0, hz1, hz2⟩ := info_parts int_info
 cases sa with
 | none =>
  have hl : l = [] := by
   cases l with
   | nil => rfl
   | cons y l =>
    obtain ⟨g, p, h1, _⟩ := hI 0 y rfl
    cases h1
  subst hl
  rw [hn rfl] at hx
  refine wpList_append_own_none hgd s x _ ho base _ i0 1 Tryz.underlying37 hi0 v l0.length _ hs hown hx (h v w (by simpa using hown) (grownBy_same _ _) (.inl rfl))
 | some ad =>
  refine wpList_plain hgd fun K hK => ?_
  obtain ⟨v', w', hr, h2, h3, _, h5⟩ := run_append_own_at (P := Tryz.prog) w base 37 o.type 3 i0 _ 1 8 Tryz.underlying37 hi0 hz0 hz1 hz2 rfl (by omega) v l0.length _ hown ad l.length c (l.map (Value.int .i64)) (by simp) (fun j u hu => by
   rw [List.getElem?_map, Option.map_eq_some_iff] at hu
   obtain ⟨y, hy, rfl⟩ := hu
   obtain ⟨g, p, h1, _, h4⟩ := hI j y hy
   simp only [Option.some.injEq] at h1
   subst h1
   have e : (⟨g, p, none⟩ : Addr).add j = ⟨g, p + j, none⟩ := by
    unfold Addr.add
    split <;> simp_all
   rw [e]
   exact h4) (fun u hu => by
   obtain ⟨y, _, rfl⟩ := List.mem_map.1 hu
   rfl) (by simp only [maxLen]; omega) (by omega) hbase
  unfold Oper.wp execOp
  simp only [ho, resolve, invoke, builtin, Sem.run_bind, Sem.run_pure, Result.andThen_ok, List.map_toArray, List.map_cons, List.map_nil, hs, hx, hr]
  refine hK _ _ (h v' w' ?_ h3 h5)
  unfold OwnI
  rw [List.length_append, List.map_append]
  exact h2
end Go.Proofs.YtbjmbahpcoanoaaGreatDoor
namespace Go.Proofs.YtbjmbahpcoanoaaGreatDoor
open Go.RowKit

theorem strS_info : (Tryz.prog.info? 9).map (fun i => (i.zero, i.size, i.bytes)) = some (some (.string ⟨#[]⟩), 1, 16) := by kernel_rfl
/-- A word of a line: a text, a register, a slot, a number. -/
inductive Wo where
 | tx (s : ByteArray)
 | rg (n : Int)
 | sl (n : Int)
 | nm (n : Int)
def Wo.b : Wo → ByteArray
 | .tx s => s
 | .rg n => ⟨#[114]⟩ ++ itS n
 | .sl n => ⟨#[115]⟩ ++ itS n
 | .nm n => itS n
def Wo.v : Wo → Value
 | .tx s => .iface 9 (.string s)
 | .rg n => .iface 184 (.int .i64 n)
 | .sl n => .iface 187 (.int .i64 n)
 | .nm n => .iface 3 (.int .i64 n)
def Wo.ok : Wo → Prop
 | .tx s => s.size ≤ 50
 | .rg n => -9223372036854775808 ≤ n ∧ n ≤ 9223372036854775807
 | .sl n => -9223372036854775808 ≤ n ∧ n ≤ 9223372036854775807
 | .nm n => -9223372036854775808 ≤ n ∧ n ≤ 9223372036854775807
theorem Wo.len {x : Wo} (h : x.ok) : x.b.size ≤ 50 := by
 cases x with
 | tx s => exact h
 | rg n => have := itS_len n h.1 h.2; show (_ ++ _ : ByteArray).size ≤ _; rw [ByteArray.size_append]; show 1 + _ ≤ _; omega
 | sl n => have := itS_len n h.1 h.2; show (_ ++ _ : ByteArray).size ≤ _; rw [ByteArray.size_append]; show 1 + _ ≤ _; omega
 | nm n => have := itS_len n h.1 h.2; show (itS n).size ≤ _; omega
set_option maxRecDepth 100000 in
theorem numbered_any (p : ByteArray) (n : Int) (w : World) (hp : p.size ≤ 1000) (hP : PowW w) (h0 : -9223372036854775808 ≤ n) (h1 : n ≤ 9223372036854775807) :
    Calls Tryz.prog 139 #[.string p, .int .i64 n] w fun e w' => e = .returned (.string (p ++ itS n)) ∧ Below w.heap.size w w' := by
 have hl := itS_len n h0 h1
 have I := Lib.hid (itoaP_any n w hP h0 h1)
 generalize itS n = q at *
 have hadd : ∀ w, (Op.stringOp .add p q).run Tryz.prog w = .ok (.string (p ++ q)) w := fun w => run_string_add_sum w p q (by omega)
 clear hP
 go_enter Tryz.func139, Tryz.ntmps139
 go_wp2_with fail
 refine I.out.mono ?_
 rintro e w1 ⟨rfl, hb1⟩
 have HB := Lib.hid hb1
 clear hb1 I
 go_wp2
 go_ret
 exact ⟨rfl, HB.out⟩
theorem as_str_str (t : ByteArray) (W : World) : (Instr.typeAssert (.iface 9 (.string t)) 20 9 true).run Tryz.prog W = .ok (.tuple #[.string t, .bool true]) W := by kernel_rfl
theorem as_str_reg (n : Int) (W : World) : (Instr.typeAssert (.iface 184 (.int .i64 n)) 20 9 true).run Tryz.prog W = .ok (.tuple #[.string ⟨#[]⟩, .bool false]) W := by kernel_rfl
theorem as_str_slot (n : Int) (W : World) : (Instr.typeAssert (.iface 187 (.int .i64 n)) 20 9 true).run Tryz.prog W = .ok (.tuple #[.string ⟨#[]⟩, .bool false]) W := by kernel_rfl
theorem as_str_int (n : Int) (W : World) : (Instr.typeAssert (.iface 3 (.int .i64 n)) 20 9 true).run Tryz.prog W = .ok (.tuple #[.string ⟨#[]⟩, .bool false]) W := by kernel_rfl
theorem as_reg_reg (n : Int) (W : World) : (Instr.typeAssert (.iface 184 (.int .i64 n)) 20 184 true).run Tryz.prog W = .ok (.tuple #[.int .i64 n, .bool true]) W := by kernel_rfl
theorem as_reg_slot (n : Int) (W : World) : (Instr.typeAssert (.iface 187 (.int .i64 n)) 20 184 true).run Tryz.prog W = .ok (.tuple #[.int .i64 0, .bool false]) W := by kernel_rfl
theorem as_reg_int (n : Int) (W : World) : (Instr.typeAssert (.iface 3 (.int .i64 n)) 20 184 true).run Tryz.prog W = .ok (.tuple #[.int .i64 0, .bool false]) W := by kernel_rfl
theorem as_slot_slot (n : Int) (W : World) : (Instr.typeAssert (.iface 187 (.int .i64 n)) 20 187 true).run Tryz.prog W = .ok (.tuple #[.int .i64 n, .bool true]) W := by kernel_rfl
theorem as_slot_int (n : Int) (W : World) : (Instr.typeAssert (.iface 3 (.int .i64 n)) 20 187 true).run Tryz.prog W = .ok (.tuple #[.int .i64 0, .bool false]) W := by kernel_rfl
theorem as_int_int (n : Int) (W : World) : (Instr.typeAssert (.iface 3 (.int .i64 n)) 20 3 false).run Tryz.prog W = .ok (.int .i64 n) W := by kernel_rfl
set_option maxRecDepth 100000 in
theorem written_any (x : Wo) (w : World) (hx : x.ok) (hP : PowW w) :
    Calls Tryz.prog 95 #[x.v] w fun e w' => e = .returned (.string x.b) ∧ Below w.heap.size w w' := by
 cases x with
 | tx s =>
  unfold Wo.v
  have e0 := as_str_str s
  go_enter Tryz.func95, Tryz.ntmps95
  go_wp2
  go_ret
  exact ⟨rfl, Below.refl _ _⟩
 | rg n =>
  have I := Lib.hid (numbered_any ⟨#[114]⟩ n w (by decide) hP hx.1 hx.2)
  unfold Wo.v
  generalize hq : (⟨#[114]⟩ ++ itS n : ByteArray) = q at I
  have HQ := Lib.hid hq
  clear hq
  clear hP hx
  have e0 := as_str_reg n
  have e1 := as_reg_reg n
  go_enter Tryz.func95, Tryz.ntmps95
  go_wp2_with fail
  refine I.out.mono ?_
  rintro e w1 ⟨rfl, hb1⟩
  have HB := Lib.hid hb1
  clear hb1 I
  go_wp2
  go_ret
  exact ⟨by rw [← HQ.out]; rfl, HB.out⟩
 | sl n =>
  have I := Lib.hid (numbered_any ⟨#[115]⟩ n w (by decide) hP hx.1 hx.2)
  unfold Wo.v
  generalize hq : (⟨#[115]⟩ ++ itS n : ByteArray) = q at I
  have HQ := Lib.hid hq
  clear hq
  clear hP hx
  have e0 := as_str_slot n
  have e1 := as_reg_slot n
  have e2 := as_slot_slot n
  go_enter Tryz.func95, Tryz.ntmps95
  go_wp2_with fail
  refine I.out.mono ?_
  rintro e w1 ⟨rfl, hb1⟩
  have HB := Lib.hid hb1
  clear hb1 I
  go_wp2
  go_ret
  exact ⟨by rw [← HQ.out]; rfl, HB.out⟩
 | nm n =>
  have I := Lib.hid (itoaP_any n w hP hx.1 hx.2)
  unfold Wo.v
  generalize hq : itS n = q at I
  have HQ := Lib.hid hq
  clear hq
  clear hP hx
  have e0 := as_str_int n
  have e1 := as_reg_int n
  have e2 := as_slot_int n
  have e3 := as_int_int n
  go_enter Tryz.func95, Tryz.ntmps95
  go_wp2_with fail
  refine I.out.mono ?_
  rintro e w1 ⟨rfl, hb1⟩
  have HB := Lib.hid hb1
  clear hb1 I
  go_wp2
  go_ret
  exact ⟨by rw [← HQ.out]; rfl, HB.out⟩
/-- Words in memory. -/
def WosW (w : World) (a : Option Addr) (l : List Wo) : Prop := ∀ (k : Nat) (x : Wo), l[k]? = some x → ∃ g o, a = some ⟨g, o, none⟩ ∧ g < w.heap.size ∧ w.cell? ⟨g, o + k, none⟩ = some x.v
theorem WosW.below {w w' : World} {a : Option Addr} {l : List Wo} (h : WosW w a l) (hb : Below w.heap.size w w') : WosW w' a l := fun k x hx => by
 obtain ⟨g, o, ha, hg, hc⟩ := h k x hx
 exact ⟨g, o, ha, Nat.lt_of_lt_of_le hg hb.size, (hb.cell hg).trans hc⟩
/-- Texts that a call made. -/
def OwnS (w : World) (B : Nat) (v : Value) (l : List ByteArray) : Prop := w.ownsRow B 9 1 v l.length (l.map Value.string)
theorem OwnS.more {w2 : World} {B gg cap : Nat} {l : List ByteArray} {x : ByteArray} (h : w2.ownsRow B 9 1 (.slice (some ⟨gg, 0, none⟩) (l.length + 1) cap) (l.length + 1) (l.map Value.string ++ [.string x])) :
    OwnS w2 B (.slice (some ⟨gg, 0, none⟩) (l.length + 1) cap) (l ++ [x]) := by
 unfold OwnS
 rw [List.length_append, List.map_append]
 simpa using h
/-- Words, one blank between. -/
def joinB (xs : List ByteArray) : ByteArray := ⟨(Lib.join (xs.map (·.data.toList)) [32]).toArray⟩
def rowB (l : List Wo) : ByteArray := joinB (l.map Wo.b) ++ ⟨#[10]⟩
theorem lens_le (xs : List ByteArray) (n : Nat) (h : ∀ x ∈ xs, x.size ≤ n) : Lib.lens (xs.map (·.data.toList)) ≤ xs.length * n := by
 induction xs with
 | nil => simp [Lib.lens]
 | cons x r ih =>
  have h1 := h x (by simp)
  have h2 := ih (fun y hy => h y (by simp [hy]))
  rw [Lib.size_eq] at h1
  simp only [Lib.lens, List.map_cons, List.sum_cons, List.length_cons] at *
  rw [Nat.add_mul]
  omega
theorem joinB_len (xs : List ByteArray) (n : Nat) (h : ∀ x ∈ xs, x.size ≤ n) : (Lib.join (xs.map (·.data.toList)) [32]).length ≤ xs.length * (n + 1) := by
 have h0 := lens_le xs n h
 cases xs with
 | nil => simp [Lib.join_nil]
 | cons x r =>
  rw [List.map_cons] at h0 ⊢
  rw [Lib.join_length, List.length_map]
  generalize Lib.lens _ = L at *
  simp only [List.length_cons, List.length_nil, Nat.add_mul, Nat.mul_add] at *
  omega
theorem joinB_any (xs : List ByteArray) (v : Value) (w : World) (B n : Nat) (hO : OwnS w B v xs) (hne : xs ≠ []) (hN : xs.length ≤ 100) (hn : n ≤ 100000) (h : ∀ x ∈ xs, x.size ≤ n) :
    Calls Tryz.prog 96 #[v, .string ⟨#[32]⟩] w fun e w' => e = .returned (.string (joinB xs)) ∧ Below w.heap.size w w' := by
 have hp : 0 < xs.length := List.length_pos_iff.2 hne
 obtain ⟨g, cap, rfl, _, hlt⟩ := World.ownsRow.form hO hp
 have hcap : xs.length ≤ cap := by
  rcases hO.2 with ⟨hv, _⟩ | ⟨g', cap', cur, hv, _, _, hle, _⟩
  · cases hv
  · injection hv with _ _ hc; omega
 have hl := joinB_len xs n h
 have hm : xs.length * (n + 1) ≤ 100 * 100001 := Nat.mul_le_mul hN (by omega)
 refine Tryz.strings_Join g 0 cap xs ⟨#[32]⟩ w (fun j x hx => ?_) hlt (by omega) hcap (by show (Lib.join (xs.map (·.data.toList)) [32]).length ≤ _; omega)
 exact hO.cells (g := g) rfl j (Value.string x) (by rw [List.getElem?_map, hx]; rfl) |>.trans rfl |> fun h2 => by
  have e : (⟨g, 0, none⟩ : Addr).add j = ⟨g, 0 + j, none⟩ := by
   unfold Addr.add
   split <;> simp_all
  rw [← e]
  exact h2
set_option maxHeartbeats 2000000 in
set_option maxRecDepth 100000 in
theorem row_any (l : List Wo) (a : Option Addr) (c : Nat) (w : World) (hl : 0 < l.length) (hl2 : l.length ≤ 10) (hx : ∀ x ∈ l, x.ok) (hI : WosW w a l) (hP : PowW w) :
    Calls Tryz.prog 53 #[.slice a l.length c] w fun e w' => e = .returned (.string (rowB l)) ∧ Below w.heap.size w w' := by
 obtain ⟨i0, hi0, hz0, hz1, hz2⟩ := info_parts strS_info
 have HI := Lib.hid hI
 have HX := Lib.hid hx
 have HP := Lib.hid hP
 clear hI hx hP
 go_enter Tryz.func53, Tryz.ntmps53
 go_wp2
 go_loopw [3, 8] (fun v k wr => ∃ (j : Nat) (b : Option Addr) (d : Nat), v = .slice b j d ∧ k = .int .i64 j ∧ j ≤ l.length ∧ OwnS wr w.heap.size v ((l.take j).map Wo.b) ∧ Below w.heap.size w wr) (fun _ k _ => l.length - (intOf k).toNat)
 case atStart => exact ⟨0, none, 0, rfl, rfl, by omega, World.ownsRow_nil _ _ _ _, Below.refl _ _⟩
 case round =>
  obtain ⟨j, b, d, rfl, rfl, hj, hO, hB⟩ := hrel
  have HO := Lib.hid hO
  have HB := Lib.hid hB
  clear hO hB
  have hpl : ((l.take j).map Wo.b).length = j := by simp; omega
  by_cases hlt : j < l.length
  · obtain ⟨x, hxj⟩ : ∃ x, l[j]? = some x := ⟨l[j], List.getElem?_eq_getElem hlt⟩
    have hx0 := HX.out x (List.mem_of_getElem? hxj)
    obtain ⟨g, o, rfl, hg, hc⟩ := (HI.out.below HB.out) j x hxj
    have HT := Lib.hid (written_any x wr hx0 (HP.out.below HB.out))
    have HE : Hid ((l.take (j + 1)).map Wo.b = (l.take j).map Wo.b ++ [x.b]) := by
     show _ = _
     rw [List.take_add_one, hxj]
     simp
    have hs := HB.out.size
    have hlt' : (j : Int) < l.length := by omega
    have hj0 : (0 : Int) ≤ j := by omega
    obtain ⟨T, u, hv⟩ : ∃ T u, x.v = .iface T u := by cases x <;> exact ⟨_, _, rfl⟩
    rw [hv] at hc HT
    clear hx0 hv
    go_wp2_with fail
    refine HT.out.mono ?_
    rintro e w1 ⟨rfl, hb1⟩
    have HB1 : Hid (Below w.heap.size w w1) := HB.out.trans (hb1.mono HB.out.size)
    have HO1 : Hid (w1.ownsRow w.heap.size 9 1 (.slice b j d) j (((l.take j).map Wo.b).map Value.string)) := by
     have h1 : OwnS w1 w.heap.size (.slice b j d) ((l.take j).map Wo.b) := own_keep HO.out ⟨hb1.size, fun k _ hk => hb1.block k hk⟩
     unfold OwnS at h1
     rw [hpl] at h1
     exact h1
    have hs1 := HB1.out.size
    clear hb1 HT HO HB hc hg
    go_wp2_with (at_builtin; go_must (refine wpList_append_lies _ rfl _ _ _ rfl w.heap.size 9 i0 _ 1 16 Tryz.underlying36 hi0 hz0 hz1 hz2 rfl (by omega) (.slice b j d) j (((l.take j).map Wo.b).map Value.string) rfl (World.ownsRow.alloc HO1.out _) ⟨w1.heap.size, 0, none⟩ 1 1 [.string x.b] rfl rfl (World.news_of_block (heap_alloc_new w1 _)) (by simp [Value.oneCell']) (by omega) (by simp only [maxLen]; omega) (by omega) (by simp; omega) (w1.heap.size + 1) (by simp) ?_; intro gg cap5 w5 hown5 hgrow hat hlt5))
    have hO5 : OwnS w5 w.heap.size (.slice (some ⟨gg, 0, none⟩) (j + 1) cap5) ((l.take j).map Wo.b ++ [x.b]) := by
     have := OwnS.more (l := (l.take j).map Wo.b) (x := x.b) (w2 := w5) (B := w.heap.size) (gg := gg) (cap := cap5) (by rw [hpl]; exact hown5)
     rw [hpl] at this
     exact this
    have HO5 := Lib.hid hO5
    have HB5 : Hid (Below w.heap.size w w5) := (HB1.out.alloc (by omega) _).grown hgrow (by simp; omega) (fun k hk => (HO1.out.lt k hk).1)
    clear hown5 hgrow hat hlt5 hO5
    go_wp2
    go_roundw
    case rel => exact ⟨j + 1, some ⟨gg, 0, none⟩, cap5, rfl, by go_num, by omega, by rw [HE.out]; exact HO5.out, HB5.out⟩
    case measure => simp [intOf]; omega
  · obtain rfl : j = l.length := by omega
    have hall : l.take l.length = l := List.take_of_length_le (Nat.le_refl _)
    rw [hall] at hpl HO
    have HLN : Hid ((joinB (l.map Wo.b)).size + 1 ≤ 9223372036854775807) := by
     have h1 := joinB_len (l.map Wo.b) 50 (fun y hy => by obtain ⟨z, hz, rfl⟩ := List.mem_map.1 hy; exact Wo.len (HX.out z hz))
     show (Lib.join ((l.map Wo.b).map (·.data.toList)) [32]).toArray.size + 1 ≤ _
     rw [List.size_toArray]
     rw [hpl] at h1
     have : l.length * (50 + 1) ≤ 10 * 51 := Nat.mul_le_mul hl2 (Nat.le_refl _)
     omega
    have HJ := Lib.hid (joinB_any (l.map Wo.b) _ wr w.heap.size 50 HO.out (by intro e; rw [e] at hpl; simp at hpl; omega) (by rw [hpl]; omega) (by omega) (fun y hy => by obtain ⟨z, hz, rfl⟩ := List.mem_map.1 hy; exact Wo.len (HX.out z hz)))
    have HQ : Hid (rowB l = joinB (l.map Wo.b) ++ ⟨#[10]⟩) := rfl
    clear hall hpl
    generalize joinB (l.map Wo.b) = q at *
    have hln := HLN.out
    have hadd : ∀ w, (Op.stringOp .add q ⟨#[10]⟩).run Tryz.prog w = .ok (.string (q ++ ⟨#[10]⟩)) w := fun w => run_string_add_sum w q ⟨#[10]⟩ (by show q.size + 1 ≤ _; omega)
    go_wp2_with fail
    refine HJ.out.mono ?_
    rintro e w1 ⟨rfl, hb⟩
    have HB1 : Hid (Below w.heap.size w w1) := HB.out.trans (hb.mono HB.out.size)
    clear hb
    go_wp2
    go_ret
    exact ⟨by rw [HQ.out]; rfl, HB1.out⟩
end Go.Proofs.YtbjmbahpcoanoaaGreatDoor
