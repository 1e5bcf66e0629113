/-
  The document's small words of a target (package intarsiaref07: reg, slot, name). Conditions: the library's table of powers holds what the text lays.
  The document's cursor in memory: a block of four cells, and a row of words behind it. What its calls answer is what the plain state says. No condition beyond those that each theorem states.
-/
import Derived.Test.YtbjmbahpcoanoaaGreatDoorPk39
import Derived.Deep.RegionHeld3
import Derived.Deep.CutRange
import Derived.Test.YtbjmbahpcoanoaaGreatDoorPk26
namespace Go.Proofs.YtbjmbahpcoanoaaGreatDoor
open Go.RowKit

theorem itS_size (n : Int) (h : R64 n) : (itS n).size ≤ 21 := itS_len n h.1 h.2
theorem rgT_size (n : Int) (h : R64 n) : (rgT n).size ≤ 30 := by have := itS_len n h.1 h.2; unfold rgT; rw [ByteArray.size_append]; show 1 + _ ≤ _; omega
theorem slT_size (n : Int) (h : R64 n) : (slT n).size ≤ 30 := by have := itS_len n h.1 h.2; unfold slT; rw [ByteArray.size_append]; show 1 + _ ≤ _; omega
theorem lit_row (l : List Wo) (h : l ≠ []) : (rowB l).data.toList = (match l with | [] => [] | x :: r => x.b.data.toList ++ r.flatMap fun y => 32 :: y.b.data.toList) ++ [10] := by
  cases l with
  | nil => exact absurd rfl h
  | cons x r =>
    unfold rowB joinB
    rw [ByteArray.data_append, Array.toList_append, List.map_map, List.map_cons, Lib.join_cons]
    show (Array.toList (List.toArray _)) ++ [10] = _
    rw [List.toList_toArray]
    congr 2
    induction r with
    | nil => simp [Lib.joinTail]
    | cons y r ih =>
      rw [List.map_cons, join_tail_cons, List.flatMap_cons, ih (by simp)]
      simp
theorem bytes_eq {a b : ByteArray} (h : a.data.toList = b.data.toList) : a = b := ByteArray.ext (Array.toList_inj.1 h)
set_option maxRecDepth 100000 in
theorem reg7_any (n : Int) (w : World) (hP : PowW w) (hn : R64 n) : Calls Tryz.prog 61 #[.int .i64 n] w fun e w' => e = .returned (.string (rgT n)) ∧ Below w.heap.size w w' := by
  have I := Lib.hid (itoaP_any n w hP hn.1 hn.2)
  have hz := itS_size n hn
  have E : Hid (rgT n = ⟨#[114]⟩ ++ itS n) := rfl
  generalize rgT n = r at *
  generalize itS n = q at *
  have hadd : ∀ w, (Op.stringOp .add ⟨#[114]⟩ q).run Tryz.prog w = .ok (.string (⟨#[114]⟩ ++ q)) w := fun w => run_string_add_sum w _ q (by show 1 + q.size ≤ _; omega)
  clear hP hn
  go_enter Tryz.func61, Tryz.ntmps61
  go_wp2_with fail
  refine I.out.mono ?_
  rintro e w1 ⟨rfl, hb⟩
  have HB := Lib.hid hb
  clear hb I
  go_wp2
  go_ret
  exact ⟨by rw [E.out]; rfl, HB.out⟩
set_option maxRecDepth 100000 in
theorem slot7_any (n : Int) (w : World) (hP : PowW w) (hn : R64 n) : Calls Tryz.prog 62 #[.int .i64 n] w fun e w' => e = .returned (.string (slT n)) ∧ Below w.heap.size w w' := by
  have I := Lib.hid (itoaP_any n w hP hn.1 hn.2)
  have hz := itS_size n hn
  have E : Hid (slT n = ⟨#[115]⟩ ++ itS n) := rfl
  generalize slT n = r at *
  generalize itS n = q at *
  have hadd : ∀ w, (Op.stringOp .add ⟨#[115]⟩ q).run Tryz.prog w = .ok (.string (⟨#[115]⟩ ++ q)) w := fun w => run_string_add_sum w _ q (by show 1 + q.size ≤ _; omega)
  clear hP hn
  go_enter Tryz.func62, Tryz.ntmps62
  go_wp2_with fail
  refine I.out.mono ?_
  rintro e w1 ⟨rfl, hb⟩
  have HB := Lib.hid hb
  clear hb I
  go_wp2
  go_ret
  exact ⟨by rw [E.out]; rfl, HB.out⟩
def namesC : Array Value := #[.string ⟨#[97, 100, 100]⟩, .string ⟨#[115, 117, 98]⟩, .string ⟨#[109, 117, 108]⟩, .string ⟨#[100, 105, 118]⟩, .string ⟨#[97, 110, 100]⟩, .string ⟨#[111, 114]⟩, .string ⟨#[120, 111, 114]⟩, .string ⟨#[108, 101, 115, 115]⟩, .string ⟨#[115, 97, 109, 101]⟩]
set_option maxHeartbeats 4000000 in
set_option maxRecDepth 100000 in
theorem name7_any (o : Int) (w : World) (ho : 2 ≤ o ∧ o ≤ 10) : Calls Tryz.prog 63 #[.int .i64 o] w fun e w' => e = .returned (.string (opNm o)) ∧ Below w.heap.size w w' := by
  have hc : o = 2 ∨ o = 3 ∨ o = 4 ∨ o = 5 ∨ o = 6 ∨ o = 7 ∨ o = 8 ∨ o = 9 ∨ o = 10 := by omega
  have HB : Hid (Below w.heap.size w (w.alloc (.cells namesC 9))) := (Below.refl _ w).alloc (Nat.le_refl _) _
  unfold namesC at HB
  rcases hc with rfl | rfl | rfl | rfl | rfl | rfl | rfl | rfl | rfl
  all_goals (
    clear ho
    go_enter Tryz.func63, Tryz.ntmps63
    go_wp2
    go_ret
    exact ⟨rfl, HB.out⟩)
end Go.Proofs.YtbjmbahpcoanoaaGreatDoor
namespace Go.Proofs.YtbjmbahpcoanoaaGreatDoor
open Go.RowKit

/-- The row of words that are left. -/
def RowR (w : World) (a : Option Addr) (ws : List Wd) : Prop := ∀ k x, ws[k]? = some x → ∃ gg o cs, a = some ⟨gg, o, none⟩ ∧ Blk w gg 121 cs ∧
  cs[o + k * 5]? = some (.int .i64 x.k) ∧ cs[o + k * 5 + 1]? = some (.string x.t) ∧ cs[o + k * 5 + 2]? = some (.int .i64 x.n) ∧ cs[o + k * 5 + 3]? = some (.int .i64 x.l) ∧ cs[o + k * 5 + 4]? = some (.int .i64 x.c)
def cellsRC (a : Option Addr) (n cap : Nat) (c : Cu) : Array Value := #[.slice a n cap, .int .i64 c.fault, .int .i64 c.line, .int .i64 c.col]
def CurR (w : World) (g : Nat) (c : Cu) : Prop := ∃ a cap L, Blk w g 119 (cellsRC a (List.length L) cap c) ∧ (c.fault = 0 → L = c.left) ∧ L.length ≤ cap ∧ cap ≤ 9223372036854775807 ∧ RowR w a L
theorem RowR.keep {w w' : World} {a : Option Addr} {ws : List Wd} {g' : Nat} {t' : TypeId} {cs' : Array Value} (h : RowR w a ws) (hk : Keep w.heap.size g' w w') (hg : Blk w g' t' cs') (ht : 121 ≠ t') : RowR w' a ws := fun k x hx => by
  obtain ⟨gg, o, cs, ha, hb, r⟩ := h k x hx
  exact ⟨gg, o, cs, ha, hb.keep hk (blk_ne hb hg ht), r⟩
theorem RowR.below {w w' : World} {a : Option Addr} {ws : List Wd} (h : RowR w a ws) (hk : Below w.heap.size w w') : RowR w' a ws := fun k x hx => by
  obtain ⟨gg, o, cs, ha, hb, r⟩ := h k x hx
  exact ⟨gg, o, cs, ha, hb.below hk hb.lt, r⟩
theorem RowR.nil (w : World) (a : Option Addr) : RowR w a [] := fun k x hx => by simp at hx
theorem CurR.below {w w' : World} {g : Nat} {c : Cu} (h : CurR w g c) (hk : Below w.heap.size w w') : CurR w' g c := by
  obtain ⟨a, cap, L, hb, hf, hl, hm, hr⟩ := h
  exact ⟨a, cap, L, hb.below hk hb.lt, hf, hl, hm, hr.below hk⟩
theorem CurR.keep {w w' : World} {g g' : Nat} {c : Cu} {t' : TypeId} {cs' : Array Value} (h : CurR w g c) (hk : Keep w.heap.size g' w w') (hg : Blk w g' t' cs') (h1 : 121 ≠ t') (h2 : 119 ≠ t') : CurR w' g c := by
  obtain ⟨a, cap, L, hb, hf, hl, hm, hr⟩ := h
  exact ⟨a, cap, L, hb.keep hk (blk_ne hb hg h2), hf, hl, hm, hr.keep hk hg h1⟩
theorem CurR.blk {w : World} {g : Nat} {c : Cu} (h : CurR w g c) : ∃ cs, Blk w g 119 cs := by obtain ⟨_, _, _, hb, _⟩ := h; exact ⟨_, hb⟩
theorem RowR.tail {w : World} {gg o : Nat} {x : Wd} {ws : List Wd} (h : RowR w (some ⟨gg, o, none⟩) (x :: ws)) : RowR w (some ⟨gg, o + 5, none⟩) ws := fun k y hy => by
  obtain ⟨gg', o', cs, ha, hb, h0, h1, h2, h3, h4⟩ := h (k + 1) y (by simpa using hy)
  simp only [Option.some.injEq, Addr.mk.injEq] at ha
  obtain ⟨rfl, rfl, _⟩ := ha
  have e : o + (k + 1) * 5 = o + 5 + k * 5 := by omega
  rw [e] at h0 h1 h2 h3 h4
  exact ⟨gg, o + 5, cs, rfl, hb, h0, h1, h2, h3, h4⟩
theorem RowR.head {w : World} {a : Option Addr} {x : Wd} {r : List Wd} (h : RowR w a (x :: r)) : ∃ gg o, a = some ⟨gg, o, none⟩ ∧ gg < w.heap.size ∧ w.cell? ⟨gg, o, none⟩ = some (.int .i64 x.k) ∧ w.cell? ⟨gg, o + 1, none⟩ = some (.string x.t) ∧ w.cell? ⟨gg, o + 2, none⟩ = some (.int .i64 x.n) ∧
    w.cell? ⟨gg, o + 3, none⟩ = some (.int .i64 x.l) ∧ w.cell? ⟨gg, o + 4, none⟩ = some (.int .i64 x.c) := by
  obtain ⟨gg, o, cs, ha, hb, h0, h1, h2, h3, h4⟩ := h 0 x rfl
  simp only [Nat.zero_mul, Nat.add_zero] at h0 h1 h2 h3 h4
  exact ⟨gg, o, ha, hb.lt, (hb.cell _).trans h0, (hb.cell _).trans h1, (hb.cell _).trans h2, (hb.cell _).trans h3, (hb.cell _).trans h4⟩
/-- One that has a next word. -/
theorem CurR.some_ {w : World} {g : Nat} {c : Cu} {x : Wd} {r : List Wd} (h : CurR w g c) (hok : c.Ok) (hle : c.left = x :: r) : c.fault = 0 ∧ ∃ gg o cap, Blk w g 119 #[.slice (some ⟨gg, o, none⟩) (r.length + 1) cap, .int .i64 0, .int .i64 c.line, .int .i64 c.col] ∧ r.length + 1 ≤ cap ∧ cap ≤ 9223372036854775807 ∧ RowR w (some ⟨gg, o, none⟩) (x :: r) ∧
    gg < w.heap.size ∧ w.cell? ⟨gg, o, none⟩ = some (.int .i64 x.k) ∧ w.cell? ⟨gg, o + 1, none⟩ = some (.string x.t) ∧ w.cell? ⟨gg, o + 2, none⟩ = some (.int .i64 x.n) ∧ w.cell? ⟨gg, o + 3, none⟩ = some (.int .i64 x.l) ∧ w.cell? ⟨gg, o + 4, none⟩ = some (.int .i64 x.c) := by
  have hf : c.fault = 0 := by
    by_cases hf : c.fault = 0
    · exact hf
    · have := hok.gone hf; rw [hle] at this; cases this
  refine ⟨hf, ?_⟩
  obtain ⟨a, cap, L, hb, hL, hl, hm, hr⟩ := h
  rw [hL hf, hle] at hb hr hl
  obtain ⟨gg, o, rfl, hgg, n0, n1, n2, n3, n4⟩ := hr.head
  unfold cellsRC at hb
  rw [hf] at hb
  exact ⟨gg, o, cap, hb, hl, hm, hr, hgg, n0, n1, n2, n3, n4⟩
/-- One that has none. -/
theorem CurR.none_ {w : World} {g : Nat} {c : Cu} (h : CurR w g c) (hle : c.left = []) : (c.fault = 0 ∧ ∃ a cap, w.cell? ⟨g, 0, none⟩ = some (.slice a 0 cap) ∧ w.cell? ⟨g, 1, none⟩ = some (.int .i64 0)) ∨ (c.fault ≠ 0 ∧ w.cell? ⟨g, 1, none⟩ = some (.int .i64 c.fault)) := by
  obtain ⟨a, cap, L, hb, hL, hl, hm, hr⟩ := h
  by_cases hf : c.fault = 0
  · rw [hL hf, hle] at hb
    unfold cellsRC at hb
    rw [hf] at hb
    exact .inl ⟨hf, a, cap, hb.cell 0, hb.cell 1⟩
  · exact .inr ⟨hf, hb.cell 1⟩
set_option maxRecDepth 100000 in
theorem moreR_any (g : Nat) (c : Cu) (w : World) (h : CurR w g c) (hok : c.Ok) : Calls Tryz.prog 37 #[.pointer (some ⟨g, 0, none⟩)] w fun e w' => e = .returned (.bool c.more) ∧ w = w' := by
  cases hle : c.left with
  | nil =>
    have hm : c.more = false := by simp [Cu.more, hle]
    rw [hm]
    rcases h.none_ hle with ⟨hf, a, cap, m0, m1⟩ | ⟨hf, m1⟩
    · clear h hok hle hm hf
      go_enter Tryz.func37, Tryz.ntmps37
      go_wp2
      go_ret
      exact ⟨rfl, rfl⟩
    · have q : (c.fault == 0) = false := by simp [hf]
      clear h hok hle hm hf
      go_enter Tryz.func37, Tryz.ntmps37
      go_wp2
      go_ret
      exact ⟨rfl, rfl⟩
  | cons x r =>
    have hm : c.more = true := by simp [Cu.more, hle]
    rw [hm]
    obtain ⟨hf, gg, o, cap, hb, hl, hmx, hr, hgg, n0, n1, n2, n3, n4⟩ := h.some_ hok hle
    have m0 : w.cell? ⟨g, 0, none⟩ = some (.slice (some ⟨gg, o, none⟩) (r.length + 1) cap) := hb.cell 0
    have m1 : w.cell? ⟨g, 1, none⟩ = some (.int .i64 0) := hb.cell 1
    have hp : (0 : Int) < r.length + 1 := by omega
    clear h hok hle hm hf hb hr
    go_enter Tryz.func37, Tryz.ntmps37
    go_wp2
    go_ret
    exact ⟨rfl, rfl⟩
theorem end_kind {x : Wd} (h : x.k = 1 ∨ x.k = 2 ∨ x.k = 3 ∨ x.k = 4) : endK x = (x.k == 4) := by
  rcases h with h | h | h | h <;> simp [endK, h]
set_option maxRecDepth 100000 in
theorem endsR_any (g : Nat) (c : Cu) (w : World) (h : CurR w g c) (hok : c.Ok) : Calls Tryz.prog 125 #[.pointer (some ⟨g, 0, none⟩)] w fun e w' => e = .returned (.bool c.ends) ∧ w = w' := by
  have M := Lib.hid (moreR_any g c w h hok)
  cases hle : c.left with
  | nil =>
    have hm : c.more = false := by simp [Cu.more, hle]
    have he : c.ends = true := by simp [Cu.ends, hm]
    rw [hm] at M
    rw [he]
    clear h hok hle hm he
    go_enter Tryz.func125, Tryz.ntmps125
    go_wp2_with fail
    refine M.out.mono ?_
    rintro e w1 ⟨rfl, rfl⟩
    go_wp2
    go_ret
    exact ⟨rfl, rfl⟩
  | cons x r =>
    have hm : c.more = true := by simp [Cu.more, hle]
    have he : c.ends = (x.k == 4) := by
      unfold Cu.ends
      rw [hm, hle]
      simp only [Bool.not_true, Bool.false_or, List.head?_cons, endP]
      exact end_kind (hok.kinds x (by rw [hle]; simp))
    rw [hm] at M
    rw [he]
    obtain ⟨hf, gg, o, cap, hb, hl, hmx, hr, hgg, n0, n1, n2, n3, n4⟩ := h.some_ hok hle
    have m0 : w.cell? ⟨g, 0, none⟩ = some (.slice (some ⟨gg, o, none⟩) (r.length + 1) cap) := hb.cell 0
    have hp : (0 : Int) < r.length + 1 := by omega
    clear h hok hle hm hf hb hr he n1 n2 n3 n4
    go_enter Tryz.func125, Tryz.ntmps125
    go_wp2_with fail
    refine M.out.mono ?_
    rintro e w1 ⟨rfl, rfl⟩
    go_wp2
    go_ret
    exact ⟨by simp, rfl⟩
end Go.Proofs.YtbjmbahpcoanoaaGreatDoor
