/-
  The document's small words of a target (package intarsiaref07: reg, slot, name). Conditions: the library's table of powers holds what the text lays.
  The document's cursor in memory: a block of four cells, and a row of words behind it. What its calls answer is what the plain state says. No condition beyond those that each theorem states.
  The document's cursor: what its calls tell, and what they leave. No condition beyond those that each theorem states.
  The document's reader of targets (package intarsiaref07): which register, which slot comes next. Conditions: the library's table of powers holds what the text lays.
-/
import Derived.Test.YtbjmbahpcoanoaaGreatDoorPk35
import Derived.Deep.RegionHeld3
import Derived.Deep.CutRange
import Derived.Test.YtbjmbahpcoanoaaGreatDoorPk23
import Derived.Test.YtbjmbahpcoanoaaGreatDoorPk13
import Derived.Test.YtbjmbahpcoanoaaGreatDoorPk15
namespace Go.Proofs.YtbjmbahpcoanoaaGreatDoor
open Go.RowKit

theorem itS_size (n : Int) (h : R64 n) : (itS n).size ≤ 21 := itS_len n h.1 h.2
theorem rgT_size (n : Int) (h : R64 n) : (rgT n).size ≤ 30 := by have := itS_len n h.1 h.2; unfold rgT; rw [ByteArray.size_append]; show 1 + _ ≤ _; omega
theorem slT_size (n : Int) (h : R64 n) : (slT n).size ≤ 30 := by have := itS_len n h.1 h.2; unfold slT; rw [ByteArray.size_append]; show 1 + _ ≤ _; omega
theorem lit_row (l : List Wo) (h : l ≠ []) : (rowB l).data.toList = (match l with | [] => [] | x :: r => x.b.data.toList ++ r.flatMap fun y => 32 :: y.b.data.toList) ++ [10] := by
 cases l with
 | nil => exact absurd rfl h
 | cons x r =>
  unfold rowB joinB
  rw [ByteArray.data_append, Array.toList_append, List.map_map, List.map_cons, Lib.join_cons]
  show (Array.toList (List.toArray _)) ++ [10] = _
  rw [List.toList_toArray]
  congr 2
  induction r with
  | nil => simp [Lib.joinTail]
  | cons y r ih =>
   rw [List.map_cons, join_tail_cons, List.flatMap_cons, ih (by simp)]
   simp
theorem bytes_eq {a b : ByteArray} (h : a.data.toList = b.data.toList) : a = b := ByteArray.ext (Array.toList_inj.1 h)
set_option maxRecDepth 100000 in
theorem reg7_any (n : Int) (w : World) (hP : PowW w) (hn : R64 n) : Calls Tryz.prog 61 #[.int .i64 n] w fun e w' => e = .returned (.string (rgT n)) ∧ Below w.heap.size w w' := by
 have I := Lib.hid (itoaP_any n w hP hn.1 hn.2)
 have hz := itS_size n hn
 have E : Hid (rgT n = ⟨#[114]⟩ ++ itS n) := rfl
 generalize rgT n = r at *
 generalize itS n = q at *
 have hadd : ∀ w, (Op.stringOp .add ⟨#[114]⟩ q).run Tryz.prog w = .ok (.string (⟨#[114]⟩ ++ q)) w := fun w => run_string_add_sum w _ q (by show 1 + q.size ≤ _; omega)
 clear hP hn
 go_enter Tryz.func61, Tryz.ntmps61
 go_wp2_with fail
 refine I.out.mono ?_
 rintro e w1 ⟨rfl, hb⟩
 have HB := Lib.hid hb
 clear hb I
 go_wp2
 go_ret
 exact ⟨by rw [E.out]; rfl, HB.out⟩
set_option maxRecDepth 100000 in
theorem slot7_any (n : Int) (w : World) (hP : PowW w) (hn : R64 n) : Calls Tryz.prog 62 #[.int .i64 n] w fun e w' => e = .returned (.string (slT n)) ∧ Below w.heap.size w w' := by
 have I := Lib.hid (itoaP_any n w hP hn.1 hn.2)
 have hz := itS_size n hn
 have E : Hid (slT n = ⟨#[115]⟩ ++ itS n) := rfl
 generalize slT n = r at *
 generalize itS n = q at *
 have hadd : ∀ w, (Op.stringOp .add ⟨#[115]⟩ q).run Tryz.prog w = .ok (.string (⟨#[115]⟩ ++ q)) w := fun w => run_string_add_sum w _ q (by show 1 + q.size ≤ _; omega)
 clear hP hn
 go_enter Tryz.func62, Tryz.ntmps62
 go_wp2_with fail
 refine I.out.mono ?_
 rintro e w1 ⟨rfl, hb⟩
 have HB := Lib.hid hb
 clear hb I
 go_wp2
 go_ret
 exact ⟨by rw [E.out]; rfl, HB.out⟩
def namesC : Array Value := #[.string ⟨#[97, 100, 100]⟩, .string ⟨#[115, 117, 98]⟩, .string ⟨#[109, 117, 108]⟩, .string ⟨#[100, 105, 118]⟩, .string ⟨#[97, 110, 100]⟩, .string ⟨#[111, 114]⟩, .string ⟨#[120, 111, 114]⟩, .string ⟨#[108, 101, 115, 115]⟩, .string ⟨#[115, 97, 109, 101]⟩]
set_option maxHeartbeats 4000000 in
set_option maxRecDepth 100000 in
theorem name7_any (o : Int) (w : World) (ho : 2 ≤ o ∧ o ≤ 10) : Calls Tryz.prog 63 #[.int .i64 o] w fun e w' => e = .returned (.string (opNm o)) ∧ Below w.heap.size w w' := by
 have hc : o = 2 ∨ o = 3 ∨ o = 4 ∨ o = 5 ∨ o = 6 ∨ o = 7 ∨ o = 8 ∨ o = 9 ∨ o = 10 := by omega
 have HB : Hid (Below w.heap.size w (w.alloc (.cells namesC 9))) := (Below.refl _ w).alloc (Nat.le_refl _) _
 unfold namesC at HB
 rcases hc with rfl | rfl | rfl | rfl | rfl | rfl | rfl | rfl | rfl
 all_goals (
  clear ho
  go_enter Tryz.func63, Tryz.ntmps63
  go_wp2
  go_ret
  exact ⟨rfl, HB.out⟩)
end Go.Proofs.YtbjmbahpcoanoaaGreatDoor
namespace Go.Proofs.YtbjmbahpcoanoaaGreatDoor
open Go.RowKit

/-- The row of words that are left. -/
def RowR (w : World) (a : Option Addr) (ws : List Wd) : Prop := ∀ k x, ws[k]? = some x → ∃ gg o cs, a = some ⟨gg, o, none⟩ ∧ Blk w gg 121 cs ∧
 cs[o + k * 5]? = some (.int .i64 x.k) ∧ cs[o + k * 5 + 1]? = some (.string x.t) ∧ cs[o + k * 5 + 2]? = some (.int .i64 x.n) ∧ cs[o + k * 5 + 3]? = some (.int .i64 x.l) ∧ cs[o + k * 5 + 4]? = some (.int .i64 x.c)
def cellsRC (a : Option Addr) (n cap : Nat) (c : Cu) : Array Value := #[.slice a n cap, .int .i64 c.fault, .int .i64 c.line, .int .i64 c.col]
def CurR (w : World) (g : Nat) (c : Cu) : Prop := ∃ a cap L, Blk w g 119 (cellsRC a (List.length L) cap c) ∧ (c.fault = 0 → L = c.left) ∧ L.length ≤ cap ∧ cap ≤ 9223372036854775807 ∧ RowR w a L
theorem RowR.keep {w w' : World} {a : Option Addr} {ws : List Wd} {g' : Nat} {t' : TypeId} {cs' : Array Value} (h : RowR w a ws) (hk : Keep w.heap.size g' w w') (hg : Blk w g' t' cs') (ht : 121 ≠ t') : RowR w' a ws := fun k x hx => by
 obtain ⟨gg, o, cs, ha, hb, r⟩ := h k x hx
 exact ⟨gg, o, cs, ha, hb.keep hk (blk_ne hb hg ht), r⟩
theorem RowR.below {w w' : World} {a : Option Addr} {ws : List Wd} (h : RowR w a ws) (hk : Below w.heap.size w w') : RowR w' a ws := fun k x hx => by
 obtain ⟨gg, o, cs, ha, hb, r⟩ := h k x hx
 exact ⟨gg, o, cs, ha, hb.below hk hb.lt, r⟩
theorem RowR.nil (w : World) (a : Option Addr) : RowR w a [] := fun k x hx => by simp at hx
theorem CurR.below {w w' : World} {g : Nat} {c : Cu} (h : CurR w g c) (hk : Below w.heap.size w w') : CurR w' g c := by
 obtain ⟨a, cap, L, hb, hf, hl, hm, hr⟩ := h
 exact ⟨a, cap, L, hb.below hk hb.lt, hf, hl, hm, hr.below hk⟩
theorem CurR.keep {w w' : World} {g g' : Nat} {c : Cu} {t' : TypeId} {cs' : Array Value} (h : CurR w g c) (hk : Keep w.heap.size g' w w') (hg : Blk w g' t' cs') (h1 : 121 ≠ t') (h2 : 119 ≠ t') : CurR w' g c := by
 obtain ⟨a, cap, L, hb, hf, hl, hm, hr⟩ := h
 exact ⟨a, cap, L, hb.keep hk (blk_ne hb hg h2), hf, hl, hm, hr.keep hk hg h1⟩
theorem CurR.blk {w : World} {g : Nat} {c : Cu} (h : CurR w g c) : ∃ cs, Blk w g 119 cs := by obtain ⟨_, _, _, hb, _⟩ := h; exact ⟨_, hb⟩
theorem RowR.tail {w : World} {gg o : Nat} {x : Wd} {ws : List Wd} (h : RowR w (some ⟨gg, o, none⟩) (x :: ws)) : RowR w (some ⟨gg, o + 5, none⟩) ws := fun k y hy => by
 obtain ⟨gg', o', cs, ha, hb, h0, h1, h2, h3, h4⟩ := h (k + 1) y (by simpa using hy)
 simp only [Option.some.injEq, Addr.mk.injEq] at ha
 obtain ⟨rfl, rfl, _⟩ := ha
 have e : o + (k + 1) * 5 = o + 5 + k * 5 := by omega
 rw [e] at h0 h1 h2 h3 h4
 exact ⟨gg, o + 5, cs, rfl, hb, h0, h1, h2, h3, h4⟩
theorem RowR.head {w : World} {a : Option Addr} {x : Wd} {r : List Wd} (h : RowR w a (x :: r)) : ∃ gg o, a = some ⟨gg, o, none⟩ ∧ gg < w.heap.size ∧ w.cell? ⟨gg, o, none⟩ = some (.int .i64 x.k) ∧ w.cell? ⟨gg, o + 1, none⟩ = some (.string x.t) ∧ w.cell? ⟨gg, o + 2, none⟩ = some (.int .i64 x.n) ∧
    w.cell? ⟨gg, o + 3, none⟩ = some (.int .i64 x.l) ∧ w.cell? ⟨gg, o + 4, none⟩ = some (.int .i64 x.c) := by
 obtain ⟨gg, o, cs, ha, hb, h0, h1, h2, h3, h4⟩ := h 0 x rfl
 simp only [Nat.zero_mul, Nat.add_zero] at h0 h1 h2 h3 h4
 exact ⟨gg, o, ha, hb.lt, (hb.cell _).trans h0, (hb.cell _).trans h1, (hb.cell _).trans h2, (hb.cell _).trans h3, (hb.cell _).trans h4⟩
/-- One that has a next word. -/
theorem CurR.some_ {w : World} {g : Nat} {c : Cu} {x : Wd} {r : List Wd} (h : CurR w g c) (hok : c.Ok) (hle : c.left = x :: r) : c.fault = 0 ∧ ∃ gg o cap, Blk w g 119 #[.slice (some ⟨gg, o, none⟩) (r.length + 1) cap, .int .i64 0, .int .i64 c.line, .int .i64 c.col] ∧ r.length + 1 ≤ cap ∧ cap ≤ 9223372036854775807 ∧ RowR w (some ⟨gg, o, none⟩) (x :: r) ∧
    gg < w.heap.size ∧ w.cell? ⟨gg, o, none⟩ = some (.int .i64 x.k) ∧ w.cell? ⟨gg, o + 1, none⟩ = some (.string x.t) ∧ w.cell? ⟨gg, o + 2, none⟩ = some (.int .i64 x.n) ∧ w.cell? ⟨gg, o + 3, none⟩ = some (.int .i64 x.l) ∧ w.cell? ⟨gg, o + 4, none⟩ = some (.int .i64 x.c) := by
 have hf : c.fault = 0 := by
  by_cases hf : c.fault = 0
  · exact hf
  · have := hok.gone hf; rw [hle] at this; cases this
 refine ⟨hf, ?_⟩
 obtain ⟨a, cap, L, hb, hL, hl, hm, hr⟩ := h
 rw [hL hf, hle] at hb hr hl
 obtain ⟨gg, o, rfl, hgg, n0, n1, n2, n3, n4⟩ := hr.head
 unfold cellsRC at hb
 rw [hf] at hb
 exact ⟨gg, o, cap, hb, hl, hm, hr, hgg, n0, n1, n2, n3, n4⟩
/-- One that has none. -/
theorem CurR.none_ {w : World} {g : Nat} {c : Cu} (h : CurR w g c) (hle : c.left = []) : (c.fault = 0 ∧ ∃ a cap, w.cell? ⟨g, 0, none⟩ = some (.slice a 0 cap) ∧ w.cell? ⟨g, 1, none⟩ = some (.int .i64 0)) ∨ (c.fault ≠ 0 ∧ w.cell? ⟨g, 1, none⟩ = some (.int .i64 c.fault)) := by
 obtain ⟨a, cap, L, hb, hL, hl, hm, hr⟩ := h
 by_cases hf : c.fault = 0
 · rw [hL hf, hle] at hb
   unfold cellsRC at hb
   rw [hf] at hb
   exact .inl ⟨hf, a, cap, hb.cell 0, hb.cell 1⟩
 · exact .inr ⟨hf, hb.cell 1⟩
set_option maxRecDepth 100000 in
theorem moreR_any (g : Nat) (c : Cu) (w : World) (h : CurR w g c) (hok : c.Ok) : Calls Tryz.prog 37 #[.pointer (some ⟨g, 0, none⟩)] w fun e w' => e = .returned (.bool c.more) ∧ w = w' := by
 cases hle : c.left with
 | nil =>
  have hm : c.more = false := by simp [Cu.more, hle]
  rw [hm]
  rcases h.none_ hle with ⟨hf, a, cap, m0, m1⟩ | ⟨hf, m1⟩
  · clear h hok hle hm hf
    go_enter Tryz.func37, Tryz.ntmps37
    go_wp2
    go_ret
    exact ⟨rfl, rfl⟩
  · have q : (c.fault == 0) = false := by simp [hf]
    clear h hok hle hm hf
    go_enter Tryz.func37, Tryz.ntmps37
    go_wp2
    go_ret
    exact ⟨rfl, rfl⟩
 | cons x r =>
  have hm : c.more = true := by simp [Cu.more, hle]
  rw [hm]
  obtain ⟨hf, gg, o, cap, hb, hl, hmx, hr, hgg, n0, n1, n2, n3, n4⟩ := h.some_ hok hle
  have m0 : w.cell? ⟨g, 0, none⟩ = some (.slice (some ⟨gg, o, none⟩) (r.length + 1) cap) := hb.cell 0
  have m1 : w.cell? ⟨g, 1, none⟩ = some (.int .i64 0) := hb.cell 1
  have hp : (0 : Int) < r.length + 1 := by omega
  clear h hok hle hm hf hb hr
  go_enter Tryz.func37, Tryz.ntmps37
  go_wp2
  go_ret
  exact ⟨rfl, rfl⟩
theorem end_kind {x : Wd} (h : x.k = 1 ∨ x.k = 2 ∨ x.k = 3 ∨ x.k = 4) : endK x = (x.k == 4) := by
 rcases h with h | h | h | h <;> simp [endK, h]
set_option maxRecDepth 100000 in
theorem endsR_any (g : Nat) (c : Cu) (w : World) (h : CurR w g c) (hok : c.Ok) : Calls Tryz.prog 125 #[.pointer (some ⟨g, 0, none⟩)] w fun e w' => e = .returned (.bool c.ends) ∧ w = w' := by
 have M := Lib.hid (moreR_any g c w h hok)
 cases hle : c.left with
 | nil =>
  have hm : c.more = false := by simp [Cu.more, hle]
  have he : c.ends = true := by simp [Cu.ends, hm]
  rw [hm] at M
  rw [he]
  clear h hok hle hm he
  go_enter Tryz.func125, Tryz.ntmps125
  go_wp2_with fail
  refine M.out.mono ?_
  rintro e w1 ⟨rfl, rfl⟩
  go_wp2
  go_ret
  exact ⟨rfl, rfl⟩
 | cons x r =>
  have hm : c.more = true := by simp [Cu.more, hle]
  have he : c.ends = (x.k == 4) := by
   unfold Cu.ends
   rw [hm, hle]
   simp only [Bool.not_true, Bool.false_or, List.head?_cons, endP]
   exact end_kind (hok.kinds x (by rw [hle]; simp))
  rw [hm] at M
  rw [he]
  obtain ⟨hf, gg, o, cap, hb, hl, hmx, hr, hgg, n0, n1, n2, n3, n4⟩ := h.some_ hok hle
  have m0 : w.cell? ⟨g, 0, none⟩ = some (.slice (some ⟨gg, o, none⟩) (r.length + 1) cap) := hb.cell 0
  have hp : (0 : Int) < r.length + 1 := by omega
  clear h hok hle hm hf hb hr he n1 n2 n3 n4
  go_enter Tryz.func125, Tryz.ntmps125
  go_wp2_with fail
  refine M.out.mono ?_
  rintro e w1 ⟨rfl, rfl⟩
  go_wp2
  go_ret
  exact ⟨by simp, rfl⟩
end Go.Proofs.YtbjmbahpcoanoaaGreatDoor
namespace Go.Proofs.YtbjmbahpcoanoaaGreatDoor
open Go.RowKit

set_option maxRecDepth 100000 in
theorem peekR_any (g : Nat) (c : Cu) (w : World) (h : CurR w g c) (hok : c.Ok) : Calls Tryz.prog 168 #[.pointer (some ⟨g, 0, none⟩)] w fun e w' => e = .returned (.string c.nameT) ∧ w = w' := by
 have M := Lib.hid (moreR_any g c w h hok)
 cases hle : c.left with
 | nil =>
  have hm : c.more = false := by simp [Cu.more, hle]
  have he : c.nameT = ⟨#[]⟩ := by simp [Cu.nameT, nameP, hle]
  rw [hm] at M
  rw [he]
  clear h hok hle hm he
  go_enter Tryz.func168, Tryz.ntmps168
  go_wp2_with fail
  refine M.out.mono ?_
  rintro e w1 ⟨rfl, rfl⟩
  go_wp2
  go_ret
  exact ⟨rfl, rfl⟩
 | cons x r =>
  have hm : c.more = true := by simp [Cu.more, hle]
  rw [hm] at M
  obtain ⟨hf, gg, o, cap, hb, hl, hmx, hr, hgg, n0, n1, n2, n3, n4⟩ := h.some_ hok hle
  have m0 : w.cell? ⟨g, 0, none⟩ = some (.slice (some ⟨gg, o, none⟩) (r.length + 1) cap) := hb.cell 0
  have hp : (0 : Int) < r.length + 1 := by omega
  by_cases hk : x.k = 1
  · have he : c.nameT = x.t := by simp [Cu.nameT, nameP, hle, hk]
    rw [he]
    have q : (x.k == 1) = true := by simp [hk]
    clear h hok hle hm hf hb hr he n2 n3 n4 hk
    go_enter Tryz.func168, Tryz.ntmps168
    go_wp2_with fail
    refine M.out.mono ?_
    rintro e w1 ⟨rfl, rfl⟩
    go_wp2
    go_ret
    exact ⟨rfl, rfl⟩
  · have he : c.nameT = ⟨#[]⟩ := by simp [Cu.nameT, nameP, hle, hk]
    rw [he]
    have q : (x.k == 1) = false := by simp [hk]
    clear h hok hle hm hf hb hr he n2 n3 n4 hk
    go_enter Tryz.func168, Tryz.ntmps168
    go_wp2_with fail
    refine M.out.mono ?_
    rintro e w1 ⟨rfl, rfl⟩
    go_wp2
    go_ret
    exact ⟨rfl, rfl⟩
def nextB (o : Option Wd) (k : Int) (s : ByteArray) : Bool := match o with | some x => decide (x.k = k) && decide (x.t = s) | none => false
set_option maxRecDepth 100000 in
theorem nextR_any (g : Nat) (c : Cu) (k : Int) (s : ByteArray) (w : World) (h : CurR w g c) (hok : c.Ok) : Calls Tryz.prog 78 #[.pointer (some ⟨g, 0, none⟩), .int .i64 k, .string s] w fun e w' => e = .returned (.bool (nextB c.left.head? k s)) ∧ w = w' := by
 have M := Lib.hid (moreR_any g c w h hok)
 cases hle : c.left with
 | nil =>
  have hm : c.more = false := by simp [Cu.more, hle]
  rw [hm] at M
  show Calls _ _ _ _ fun e w' => e = .returned (.bool false) ∧ w = w'
  clear h hok hle hm
  go_enter Tryz.func78, Tryz.ntmps78
  go_wp2_with fail
  refine M.out.mono ?_
  rintro e w1 ⟨rfl, rfl⟩
  go_wp2
  go_ret
  exact ⟨rfl, rfl⟩
 | cons x r =>
  have hm : c.more = true := by simp [Cu.more, hle]
  rw [hm] at M
  show Calls _ _ _ _ fun e w' => e = .returned (.bool (decide (x.k = k) && decide (x.t = s))) ∧ w = w'
  obtain ⟨hf, gg, o, cap, hb, hl, hmx, hr, hgg, n0, n1, n2, n3, n4⟩ := h.some_ hok hle
  have m0 : w.cell? ⟨g, 0, none⟩ = some (.slice (some ⟨gg, o, none⟩) (r.length + 1) cap) := hb.cell 0
  have hp : (0 : Int) < r.length + 1 := by omega
  by_cases hk : x.k = k
  · have he : (decide (x.k = k) && decide (x.t = s)) = (x.t.toList == s.toList) := by rw [text_eq]; simp [hk]
    rw [he]
    have q : (x.k == k) = true := by simp [hk]
    clear h hok hle hm hf hb hr he n2 n3 n4 hk
    go_enter Tryz.func78, Tryz.ntmps78
    go_wp2_with fail
    refine M.out.mono ?_
    rintro e w1 ⟨rfl, rfl⟩
    go_wp2
    go_ret
    exact ⟨rfl, rfl⟩
  · have he : (decide (x.k = k) && decide (x.t = s)) = false := by simp [hk]
    rw [he]
    have q : (x.k == k) = false := by simp [hk]
    clear h hok hle hm hf hb hr he n2 n3 n4 hk
    go_enter Tryz.func78, Tryz.ntmps78
    go_wp2_with fail
    refine M.out.mono ?_
    rintro e w1 ⟨rfl, rfl⟩
    go_wp2
    go_ret
    exact ⟨rfl, rfl⟩
/-- One whose next word is gone over. -/
theorem CurR.pass_ {w : World} {g gg o cap : Nat} {c : Cu} {x : Wd} {r : List Wd} (hb : Blk w g 119 #[.slice (some ⟨gg, o, none⟩) (r.length + 1) cap, .int .i64 0, .int .i64 c.line, .int .i64 c.col]) (hf : c.fault = 0) (hle : c.left = x :: r) (hl : r.length + 1 ≤ cap) (hmx : cap ≤ 9223372036854775807)
    (hr : RowR w (some ⟨gg, o, none⟩) (x :: r)) : (cap = 1 → r = [] ∧ ∀ a, CurR (w.setCell ⟨g, 0, none⟩ (.slice a 0 0)) g c.pass ∧ Keep w.heap.size g w (w.setCell ⟨g, 0, none⟩ (.slice a 0 0))) ∧
    (cap ≠ 1 → CurR (w.setCell ⟨g, 0, none⟩ (.slice (some ⟨gg, o + 5, none⟩) r.length (cap - 1))) g c.pass ∧ Keep w.heap.size g w (w.setCell ⟨g, 0, none⟩ (.slice (some ⟨gg, o + 5, none⟩) r.length (cap - 1)))) := by
 have hp : c.pass.left = r := by unfold Cu.pass; rw [hle]; rfl
 constructor
 · intro hc
   have hr0 : r = [] := List.length_eq_zero_iff.1 (by omega)
   refine ⟨hr0, fun a => ⟨⟨a, 0, [], ?_, fun _ => by rw [hp, hr0], Nat.le_refl 0, by omega, RowR.nil _ _⟩, Keep.put _ _ _ _ _⟩⟩
   have := hb.put 0 (.slice a 0 0)
   unfold cellsRC
   rw [show c.pass.fault = 0 from hf]
   exact this
 · intro hc
   refine ⟨⟨some ⟨gg, o + 5, none⟩, cap - 1, r, ?_, fun _ => hp.symm, by omega, by omega, hr.tail.keep (Keep.put _ _ _ _ _) hb (by decide)⟩, Keep.put _ _ _ _ _⟩
   have := hb.put 0 (.slice (some ⟨gg, o + 5, none⟩) r.length (cap - 1))
   unfold cellsRC
   rw [show c.pass.fault = 0 from hf]
   exact this
set_option maxRecDepth 100000 in
theorem overR_any (g : Nat) (c : Cu) (b : Bool) (w : World) (h : CurR w g c) (hok : c.Ok) (h0 : b = true → c.left ≠ []) : Calls Tryz.prog 77 #[.pointer (some ⟨g, 0, none⟩), .bool b] w fun e w' => e = .returned (.bool b) ∧ CurR w' g (c.over b) ∧ Keep w.heap.size g w w' := by
 cases b
 · have H := Lib.hid h
   clear h h0
   go_enter Tryz.func77, Tryz.ntmps77
   go_wp2
   go_ret
   exact ⟨rfl, H.out, Keep.refl _ _ _⟩
 · cases hle : c.left with
   | nil => exact absurd hle (h0 rfl)
   | cons x r =>
    obtain ⟨hf, gg, o, cap, hb, hl, hmx, hr, hgg, n0, n1, n2, n3, n4⟩ := h.some_ hok hle
    have m0 : w.cell? ⟨g, 0, none⟩ = some (.slice (some ⟨gg, o, none⟩) (r.length + 1) cap) := hb.cell 0
    have f0 := hb.free 0
    have P := CurR.pass_ hb hf hle hl hmx hr
    by_cases hc : cap = 1
    · obtain ⟨hr0, P1⟩ := P.1 hc
      have HP := Lib.hid P1
      subst hc hr0
      clear h hok hle hf hb hr n0 n1 n2 n3 n4 h0 P P1 hl
      go_enter Tryz.func77, Tryz.ntmps77
      go_wp2
      go_ret
      exact ⟨rfl, (HP.out _).1, (HP.out _).2⟩
    · have HP := Lib.hid (P.2 hc)
      have hc1 : (1 : Int) ≤ cap := by omega
      clear h hok hle hf hb hr n0 n1 n2 n3 n4 h0 P
      go_enter Tryz.func77, Tryz.ntmps77
      go_wp2
      go_ret
      exact ⟨rfl, HP.out.1, HP.out.2⟩
theorem keyR_any (g : Nat) (c : Cu) (s : ByteArray) (w : World) (h : CurR w g c) (hok : c.Ok) : Calls Tryz.prog 33 #[.pointer (some ⟨g, 0, none⟩), .string s] w fun e w' => e = .returned (.bool (c.keyB s)) ∧ CurR w' g (c.key s) ∧ Keep w.heap.size g w w' := by
 have e : c.keyB s = nextB c.left.head? 1 s := by (unfold Cu.keyB; generalize c.left.head? = o; cases o with | none => rfl | some x => (by_cases hk : x.k = 1 <;> simp [nameP, nextB, hk]))
 have N := Lib.hid (nextR_any g c 1 s w h hok)
 have O := Lib.hid (overR_any g c (c.keyB s) w h hok (fun hb => name_head (by unfold Cu.keyB at hb; simp at hb; exact hb.1)))
 rw [← e] at N
 show Calls _ _ _ _ fun e w' => e = .returned (.bool (c.keyB s)) ∧ CurR w' g (c.over (c.keyB s)) ∧ Keep w.heap.size g w w'
 clear e h hok
 generalize c.keyB s = b at *
 go_enter Tryz.func33, Tryz.ntmps33
 go_wp2_with fail
 refine N.out.mono ?_
 rintro e w1 ⟨rfl, rfl⟩
 go_wp2_with fail
 refine O.out.mono ?_
 rintro e w1 ⟨rfl, h1, k1⟩
 have H1 := Lib.hid h1
 have K1 := Lib.hid k1
 clear h1 k1 N O
 go_wp2
 go_ret
 exact ⟨rfl, H1.out, K1.out⟩
theorem isR_any (g : Nat) (c : Cu) (s : ByteArray) (w : World) (h : CurR w g c) (hok : c.Ok) : Calls Tryz.prog 127 #[.pointer (some ⟨g, 0, none⟩), .string s] w fun e w' => e = .returned (.bool (c.isB s)) ∧ CurR w' g (c.is s) ∧ Keep w.heap.size g w w' := by
 have e : c.isB s = nextB c.left.head? 3 s := by rfl
 have N := Lib.hid (nextR_any g c 3 s w h hok)
 have O := Lib.hid (overR_any g c (c.isB s) w h hok (fun hb => sign_head hb))
 rw [← e] at N
 show Calls _ _ _ _ fun e w' => e = .returned (.bool (c.isB s)) ∧ CurR w' g (c.over (c.isB s)) ∧ Keep w.heap.size g w w'
 clear e h hok
 generalize c.isB s = b at *
 go_enter Tryz.func127, Tryz.ntmps127
 go_wp2_with fail
 refine N.out.mono ?_
 rintro e w1 ⟨rfl, rfl⟩
 go_wp2_with fail
 refine O.out.mono ?_
 rintro e w1 ⟨rfl, h1, k1⟩
 have H1 := Lib.hid h1
 have K1 := Lib.hid k1
 clear h1 k1 N O
 go_wp2
 go_ret
 exact ⟨rfl, H1.out, K1.out⟩
set_option maxRecDepth 100000 in
theorem failR_any (g : Nat) (c : Cu) (ee : Int) (w : World) (h : CurR w g c) (hok : c.Ok) : Calls Tryz.prog 34 #[.pointer (some ⟨g, 0, none⟩), .int .i64 ee] w fun e w' => e = .returned (.tuple #[]) ∧ CurR w' g (c.fail ee) ∧ Keep w.heap.size g w w' := by
 have H := Lib.hid h
 have m1 : w.cell? ⟨g, 1, none⟩ = some (.int .i64 c.fault) := by obtain ⟨a, cap, L, hb, _⟩ := h; exact hb.cell 1
 by_cases hf : c.fault = 0
 · by_cases he : ee = 0
   · have E : Hid (c.fail ee = c) := fail_same (.inl he)
     have q1 : (c.fault != 0) = false := by simp [hf]
     have q2 : (ee == 0) = true := by simp [he]
     clear h hok hf he
     go_enter Tryz.func34, Tryz.ntmps34
     go_wp2
     refine bodyPost_ret (results_none rfl _ _ _) rfl ⟨rfl, ?_, Keep.refl _ _ _⟩
     rw [E.out]
     exact H.out
   · have E : Hid (c.fail ee = ⟨[], lineO c.left.head?, colO c.left.head?, ee⟩) := fail_form he hf
     have q1 : (c.fault != 0) = false := by simp [hf]
     have q2 : (ee == 0) = false := by simp [he]
     have HE := Lib.hid he
     cases hle : c.left with
     | nil =>
      obtain ⟨a, cap, L, hb, hL, hl, hm, hr⟩ := h
      rw [hL hf, hle] at hb
      obtain ⟨hz1, hz2⟩ := hok.zero hf
      unfold cellsRC at hb
      rw [hz1, hz2] at hb
      rw [hle] at E
      have m0 : w.cell? ⟨g, 0, none⟩ = some (.slice a 0 cap) := hb.cell 0
      have f1 := hb.free 1
      have HR : Hid (CurR (w.setCell ⟨g, 1, none⟩ (.int .i64 ee)) g (c.fail ee)) := by
       show CurR _ _ _
       rw [E.out]
       exact ⟨a, cap, [], hb.put 1 (.int .i64 ee), fun _ => rfl, Nat.zero_le _, hm, RowR.nil _ _⟩
      clear hb hr hok hf he hle hL hl hz1 hz2 E H
      go_enter Tryz.func34, Tryz.ntmps34
      go_wp2
      go_end0
      exact ⟨rfl, HR.out, Keep.put _ _ _ _ _⟩
     | cons x r =>
      obtain ⟨hf', gg, o, cap, hb, hl, hmx, hr, hgg, n0, n1, n2, n3, n4⟩ := h.some_ hok hle
      have m0 : w.cell? ⟨g, 0, none⟩ = some (.slice (some ⟨gg, o, none⟩) (r.length + 1) cap) := hb.cell 0
      have m2 : w.cell? ⟨g, 2, none⟩ = some (.int .i64 c.line) := hb.cell 2
      have m3 : w.cell? ⟨g, 3, none⟩ = some (.int .i64 c.col) := hb.cell 3
      have f1 := hb.free 1
      have f2 := hb.free 2
      have f3 := hb.free 3
      have hp : (0 : Int) < r.length + 1 := by omega
      rw [hle] at E
      have hgx : gg ≠ g := by obtain ⟨gg', o', cs, ha, hbb, _⟩ := hr 0 x rfl; simp only [Option.some.injEq, Addr.mk.injEq] at ha; rw [ha.1]; exact blk_ne hbb hb (by decide)
      have HR : Hid (CurR (((w.setCell ⟨g, 1, none⟩ (.int .i64 ee)).setCell ⟨g, 2, none⟩ (.int .i64 x.l)).setCell ⟨g, 3, none⟩ (.int .i64 x.c)) g (c.fail ee)) := by
       show CurR _ _ _
       rw [E.out]
       exact ⟨some ⟨gg, o, none⟩, cap, x :: r, ((hb.put 1 (.int .i64 ee)).put 2 (.int .i64 x.l)).put 3 (.int .i64 x.c), fun h0 => absurd h0 he, hl, hmx, hr.keep (((Keep.put _ _ _ _ _).trans (Keep.put _ _ _ _ _)).trans (Keep.put _ _ _ _ _)) hb (by decide)⟩
      clear h hb hr hok hf hf' he hle E H hl n0 n1 n2
      go_enter Tryz.func34, Tryz.ntmps34
      go_wp2
      go_end0
      exact ⟨rfl, HR.out, ((Keep.put _ _ _ _ _).trans (Keep.put _ _ _ _ _)).trans (Keep.put _ _ _ _ _)⟩
 · have E : Hid (c.fail ee = c) := fail_same (.inr hf)
   have q1 : (c.fault != 0) = true := by simp [hf]
   clear h hok hf
   go_enter Tryz.func34, Tryz.ntmps34
   go_wp2
   refine bodyPost_ret (results_none rfl _ _ _) rfl ⟨rfl, ?_, Keep.refl _ _ _⟩
   rw [E.out]
   exact H.out
end Go.Proofs.YtbjmbahpcoanoaaGreatDoor
namespace Go.Proofs.YtbjmbahpcoanoaaGreatDoor
open Go.RowKit

/-- A register's number, a slot's; -1: none. -/
def numI (o : Option Nat) : Int := match o with | some n => n | none => -1
theorem numT_hit {p : ByteArray} {k n : Nat} {s : ByteArray} (hn : n < k) (h : ∀ m, m < n → ¬ s = p ++ itS (m : Int)) (h2 : s = p ++ itS (n : Int)) : numT p k s = some n := by
 unfold numT
 rw [List.find?_range_eq_some]
 exact ⟨by simpa using h2, by simpa using hn, fun m hm => by simpa using h m hm⟩
theorem numT_none {p : ByteArray} {k : Nat} {s : ByteArray} (h : ∀ m, m < k → ¬ s = p ++ itS (m : Int)) : numT p k s = none := by
 unfold numT
 rw [List.find?_eq_none]
 intro m hm
 simpa using h m (List.mem_range.1 hm)
set_option maxRecDepth 100000 in
theorem isReg7_any (g : Nat) (c : Cu) (w : World) (h : CurR w g c) (hok : c.Ok) (hP : PowW w) : Calls Tryz.prog 167 #[.pointer (some ⟨g, 0, none⟩)] w fun e w' => e = .returned (.int .i64 (numI (regT c.nameT))) ∧ Below w.heap.size w w' := by
 have PK : Hid (∀ W, Below w.heap.size w W → Calls Tryz.prog 168 #[.pointer (some ⟨g, 0, none⟩)] W fun e w' => e = .returned (.string c.nameT) ∧ W = w') := fun W hb => peekR_any g c W (h.below hb) hok
 have RG : Hid (∀ (n : Int) W, R64 n → Below w.heap.size w W → Calls Tryz.prog 61 #[.int .i64 n] W fun e w' => e = .returned (.string (rgT n)) ∧ Below W.heap.size W w') := fun n W hn hb => reg7_any n W (hP.below hb) hn
 have HB0 := Lib.hid (Below.refl w.heap.size w)
 clear h hok hP
 generalize c.nameT = s at *
 go_enter Tryz.func167, Tryz.ntmps167
 go_wp2
 go_loopw [3] (fun v wr => ∃ n : Nat, v = .int .i64 n ∧ n ≤ 64 ∧ Hid (∀ m, m < n → ¬ s = ⟨#[114]⟩ ++ itS (m : Int)) ∧ Below w.heap.size w wr) (fun v _ => 64 - (intOf v).toNat)
 case atStart => exact ⟨0, rfl, by omega, Lib.hid (fun m hm => absurd hm (by omega)), HB0.out⟩
 case round =>
  obtain ⟨n, rfl, hn, HM, hb⟩ := hrel
  have HB := Lib.hid hb
  clear hb HB0
  by_cases hlt : n < 64
  · have hlt' : (n : Int) < 64 := by omega
    go_wp2_with fail
    refine (PK.out _ HB.out).mono ?_
    rintro e w2 ⟨rfl, rfl⟩
    go_wp2_with fail
    refine (RG.out (n : Int) wr (by unfold R64; omega) HB.out).mono ?_
    rintro e w3 ⟨rfl, hb3⟩
    have HB3 : Hid (Below w.heap.size w w3) := HB.out.trans (hb3.mono HB.out.size)
    clear hb3
    have HE : Hid (rgT (n : Int) = ⟨#[114]⟩ ++ itS (n : Int)) := rfl
    generalize rgT (n : Int) = r at *
    by_cases hs : s = r
    · have hr : Hid (numI (regT s) = n) := by
        have h2 : regT s = some n := numT_hit hlt HM.out (hs.trans HE.out)
        show _ = _
        rw [h2]
        rfl
      clear HM HE
      subst hs
      go_wp2
      go_ret
      exact ⟨by rw [hr.out]; rfl, HB3.out⟩
    · have hs' : (s.toList == r.toList) = false := by rw [text_eq]; exact decide_eq_false hs
      have HM2 : Hid (∀ m, m < n + 1 → ¬ s = ⟨#[114]⟩ ++ itS (m : Int)) := fun m hm => by
       by_cases e : m = n
       · subst e
         rw [← HE.out]
         exact hs
       · exact HM.out m (by omega)
      clear HM HE
      go_wp2
      go_roundw
      case rel => exact ⟨n + 1, by go_num, by omega, HM2, HB3.out⟩
      case measure => simp [intOf]; omega
  · have e : n = 64 := by omega
    subst e
    have hr : Hid (numI (regT s) = -1) := by
     have h2 : regT s = none := numT_none HM.out
     show _ = _
     rw [h2]
     rfl
    go_wp2
    go_ret
    exact ⟨by rw [hr.out]; rfl, HB.out⟩
set_option maxRecDepth 100000 in
theorem isSlot7_any (g : Nat) (c : Cu) (w : World) (h : CurR w g c) (hok : c.Ok) (hP : PowW w) : Calls Tryz.prog 129 #[.pointer (some ⟨g, 0, none⟩)] w fun e w' => e = .returned (.int .i64 (numI (slotT c.nameT))) ∧ Below w.heap.size w w' := by
 have PK : Hid (∀ W, Below w.heap.size w W → Calls Tryz.prog 168 #[.pointer (some ⟨g, 0, none⟩)] W fun e w' => e = .returned (.string c.nameT) ∧ W = w') := fun W hb => peekR_any g c W (h.below hb) hok
 have RG : Hid (∀ (n : Int) W, R64 n → Below w.heap.size w W → Calls Tryz.prog 62 #[.int .i64 n] W fun e w' => e = .returned (.string (slT n)) ∧ Below W.heap.size W w') := fun n W hn hb => slot7_any n W (hP.below hb) hn
 have HB0 := Lib.hid (Below.refl w.heap.size w)
 clear h hok hP
 generalize c.nameT = s at *
 go_enter Tryz.func129, Tryz.ntmps129
 go_wp2
 go_loopw [3] (fun v wr => ∃ n : Nat, v = .int .i64 n ∧ n ≤ 400 ∧ Hid (∀ m, m < n → ¬ s = ⟨#[115]⟩ ++ itS (m : Int)) ∧ Below w.heap.size w wr) (fun v _ => 400 - (intOf v).toNat)
 case atStart => exact ⟨0, rfl, by omega, Lib.hid (fun m hm => absurd hm (by omega)), HB0.out⟩
 case round =>
  obtain ⟨n, rfl, hn, HM, hb⟩ := hrel
  have HB := Lib.hid hb
  clear hb HB0
  by_cases hlt : n < 400
  · have hlt' : (n : Int) < 400 := by omega
    go_wp2_with fail
    refine (PK.out _ HB.out).mono ?_
    rintro e w2 ⟨rfl, rfl⟩
    go_wp2_with fail
    refine (RG.out (n : Int) wr (by unfold R64; omega) HB.out).mono ?_
    rintro e w3 ⟨rfl, hb3⟩
    have HB3 : Hid (Below w.heap.size w w3) := HB.out.trans (hb3.mono HB.out.size)
    clear hb3
    have HE : Hid (slT (n : Int) = ⟨#[115]⟩ ++ itS (n : Int)) := rfl
    generalize slT (n : Int) = r at *
    by_cases hs : s = r
    · have hr : Hid (numI (slotT s) = n) := by
        have h2 : slotT s = some n := numT_hit hlt HM.out (hs.trans HE.out)
        show _ = _
        rw [h2]
        rfl
      clear HM HE
      subst hs
      go_wp2
      go_ret
      exact ⟨by rw [hr.out]; rfl, HB3.out⟩
    · have hs' : (s.toList == r.toList) = false := by rw [text_eq]; exact decide_eq_false hs
      have HM2 : Hid (∀ m, m < n + 1 → ¬ s = ⟨#[115]⟩ ++ itS (m : Int)) := fun m hm => by
       by_cases e : m = n
       · subst e
         rw [← HE.out]
         exact hs
       · exact HM.out m (by omega)
      clear HM HE
      go_wp2
      go_roundw
      case rel => exact ⟨n + 1, by go_num, by omega, HM2, HB3.out⟩
      case measure => simp [intOf]; omega
  · have e : n = 400 := by omega
    subst e
    have hr : Hid (numI (slotT s) = -1) := by
     have h2 : slotT s = none := numT_none HM.out
     show _ = _
     rw [h2]
     rfl
    go_wp2
    go_ret
    exact ⟨by rw [hr.out]; rfl, HB.out⟩
end Go.Proofs.YtbjmbahpcoanoaaGreatDoor
