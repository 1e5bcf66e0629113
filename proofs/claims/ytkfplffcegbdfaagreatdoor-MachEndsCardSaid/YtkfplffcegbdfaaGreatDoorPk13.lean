/-
  A text of blanks tells no machine; a text that is too long is told so. No condition beyond those that each theorem states.
  The document's cursor in memory: a block of four cells, and a row of words behind it. What its calls answer is what the plain state says. No condition beyond those that each theorem states.
-/
import Derived.Test.YtkfplffcegbdfaaGreatDoorMaO
import Derived.Test.YtkfplffcegbdfaaGreatDoorBlankM
import Derived.Test.YtkfplffcegbdfaaGreatDoorPk10
namespace Go.Proofs.YtkfplffcegbdfaaGreatDoor
open Go.RowKit

theorem refL_blanks : ∀ (n f : Nat) (line col : Int), n ≤ f → refL f (List.replicate n 32) [] line col false = ([], 0, 0, 0)
  | 0, 0, _, _, _ => rfl
  | 0, f + 1, line, col, _ => by rw [refL, if_neg (by simp)]
  | n + 1, f + 1, line, col, h => by
    have e1 : ((32 : UInt8).toNat : Nat) = 32 := by decide
    rw [List.replicate_succ, refL, if_pos (by simp), atL_ascii 32 _ (by decide)]
    simp only [e1]
    rw [if_neg (by omega), if_neg (by omega), if_pos (by simp)]
    have ih := refL_blanks n f line (col + 1) (by omega)
    simpa using ih
theorem start_blank (s : ByteArray) (n : Nat) (hs : s.data.toList = List.replicate n 32) : startC s = ⟨[], 0, 0, 0⟩ := by
  have hz : s.size = n := by
    have := congrArg List.length hs
    simpa using this
  have h := read_list s
  rw [hs, refL_blanks n s.size 1 1 (by omega)] at h
  simp only [Prod.mk.injEq] at h
  obtain ⟨h1, h2, h3, h4⟩ := h
  unfold startC
  rw [← h1, ← h2, ← h3, ← h4]
  rfl
theorem told_blank (s : ByteArray) (n : Nat) (hs : s.data.toList = List.replicate n 32) : toldE (startC s) = 7 ∧ toldM (startC s) = noM := by
  have h : toldE ⟨[], 0, 0, 0⟩ = 7 := by decide +kernel
  rw [start_blank s n hs]
  exact ⟨h, by unfold toldM; rw [h]; rfl⟩
set_option maxHeartbeats 4000000 in
set_option maxRecDepth 100000 in
theorem parse_long (s : ByteArray) (w : World) (hz : 262144 < s.size) (hz2 : s.size ≤ 140737488355328) : Calls Tryz.prog 24 #[.string s] w fun e w' => e = .returned (.tuple #[machV noM none 0 none 0, .int .i64 3]) ∧ Below w.heap.size w w' := by
  have hlt : (262144 : Int) < s.size := by omega
  have hb0 : Hid (Below w.heap.size w (w.alloc (.cells (maxC noM none 0 none 0) 24))) := (Below.refl _ w).alloc (Nat.le_refl _) _
  rw [show maxC noM none 0 none 0 = #[.int .i64 0, .slice none 0 0, .int .i64 0, .slice none 0 0] from rfl] at hb0
  go_enter Tryz.func24, Tryz.ntmps24
  have R5 : Hid (Blk (w.alloc (.cells #[.int .i64 0, .slice none 0 0, .int .i64 0, .slice none 0 0] 24)) w.heap.size 24 #[.int .i64 0, .slice none 0 0, .int .i64 0, .slice none 0 0]) := Blk.new w _ _
  go_wp2
  (try simp only [Exit.inBlock, Exit.then])
  have hb := R5.out
  have hld := run_loadVar_row (P := Tryz.prog) _ w.heap.size 24 24 _ (0, 0) _ hb Tryz.underlying24 rfl machine_size
  refine bodyPost_ret (v := .tuple #[.agg #[.int .i64 0, .slice none 0 0, .int .i64 0, .slice none 0 0], .int .i64 3]) ?_ rfl ?_
  · rw [results_cell_tmp rfl]
    simp [asAddr, Result.andThen, hld]
  · exact ⟨rfl, hb0.out⟩
/-- The error of a text of blanks. -/
theorem parse_blank (s : ByteArray) (n : Nat) (hs : s.data.toList = List.replicate n 32) (hn : n ≤ 262144) (w : World) : Calls Tryz.prog 24 #[.string s] w fun e w' => (∃ aa ac sa sc, e = .returned (.tuple #[machV noM aa ac sa sc, .int .i64 7])) ∧ Below w.heap.size w w' := by
  have hz : s.size = n := by
    have := congrArg List.length hs
    simpa using this
  refine (parseM_any s w (by omega)).mono fun e w' ⟨aa, ac, sa, sc, he, _, hb⟩ => ?_
  obtain ⟨h1, h2⟩ := told_blank s n hs
  rw [h2, h1] at he
  exact ⟨⟨aa, ac, sa, sc, he⟩, hb⟩
end Go.Proofs.YtkfplffcegbdfaaGreatDoor
namespace Go.Proofs.YtkfplffcegbdfaaGreatDoor
open Go.RowKit

/-- The row of words that are left. -/
def RowR (w : World) (a : Option Addr) (ws : List Wd) : Prop := ∀ k x, ws[k]? = some x → ∃ gg o cs, a = some ⟨gg, o, none⟩ ∧ Blk w gg 197 cs ∧
  cs[o + k * 5]? = some (.int .i64 x.k) ∧ cs[o + k * 5 + 1]? = some (.string x.t) ∧ cs[o + k * 5 + 2]? = some (.int .i64 x.n) ∧ cs[o + k * 5 + 3]? = some (.int .i64 x.l) ∧ cs[o + k * 5 + 4]? = some (.int .i64 x.c)
def cellsRC (a : Option Addr) (n cap : Nat) (c : Cu) : Array Value := #[.slice a n cap, .int .i64 c.fault, .int .i64 c.line, .int .i64 c.col]
def CurR (w : World) (g : Nat) (c : Cu) : Prop := ∃ a cap L, Blk w g 195 (cellsRC a (List.length L) cap c) ∧ (c.fault = 0 → L = c.left) ∧ L.length ≤ cap ∧ cap ≤ 9223372036854775807 ∧ RowR w a L
theorem RowR.keep {w w' : World} {a : Option Addr} {ws : List Wd} {g' : Nat} {t' : TypeId} {cs' : Array Value} (h : RowR w a ws) (hk : Keep w.heap.size g' w w') (hg : Blk w g' t' cs') (ht : 197 ≠ t') : RowR w' a ws := fun k x hx => by
  obtain ⟨gg, o, cs, ha, hb, r⟩ := h k x hx
  exact ⟨gg, o, cs, ha, hb.keep hk (blk_ne hb hg ht), r⟩
theorem RowR.below {w w' : World} {a : Option Addr} {ws : List Wd} (h : RowR w a ws) (hk : Below w.heap.size w w') : RowR w' a ws := fun k x hx => by
  obtain ⟨gg, o, cs, ha, hb, r⟩ := h k x hx
  exact ⟨gg, o, cs, ha, hb.below hk hb.lt, r⟩
theorem RowR.nil (w : World) (a : Option Addr) : RowR w a [] := fun k x hx => by simp at hx
theorem CurR.below {w w' : World} {g : Nat} {c : Cu} (h : CurR w g c) (hk : Below w.heap.size w w') : CurR w' g c := by
  obtain ⟨a, cap, L, hb, hf, hl, hm, hr⟩ := h
  exact ⟨a, cap, L, hb.below hk hb.lt, hf, hl, hm, hr.below hk⟩
theorem CurR.keep {w w' : World} {g g' : Nat} {c : Cu} {t' : TypeId} {cs' : Array Value} (h : CurR w g c) (hk : Keep w.heap.size g' w w') (hg : Blk w g' t' cs') (h1 : 197 ≠ t') (h2 : 195 ≠ t') : CurR w' g c := by
  obtain ⟨a, cap, L, hb, hf, hl, hm, hr⟩ := h
  exact ⟨a, cap, L, hb.keep hk (blk_ne hb hg h2), hf, hl, hm, hr.keep hk hg h1⟩
theorem CurR.blk {w : World} {g : Nat} {c : Cu} (h : CurR w g c) : ∃ cs, Blk w g 195 cs := by obtain ⟨_, _, _, hb, _⟩ := h; exact ⟨_, hb⟩
theorem RowR.tail {w : World} {gg o : Nat} {x : Wd} {ws : List Wd} (h : RowR w (some ⟨gg, o, none⟩) (x :: ws)) : RowR w (some ⟨gg, o + 5, none⟩) ws := fun k y hy => by
  obtain ⟨gg', o', cs, ha, hb, h0, h1, h2, h3, h4⟩ := h (k + 1) y (by simpa using hy)
  simp only [Option.some.injEq, Addr.mk.injEq] at ha
  obtain ⟨rfl, rfl, _⟩ := ha
  have e : o + (k + 1) * 5 = o + 5 + k * 5 := by omega
  rw [e] at h0 h1 h2 h3 h4
  exact ⟨gg, o + 5, cs, rfl, hb, h0, h1, h2, h3, h4⟩
theorem RowR.head {w : World} {a : Option Addr} {x : Wd} {r : List Wd} (h : RowR w a (x :: r)) : ∃ gg o, a = some ⟨gg, o, none⟩ ∧ gg < w.heap.size ∧ w.cell? ⟨gg, o, none⟩ = some (.int .i64 x.k) ∧ w.cell? ⟨gg, o + 1, none⟩ = some (.string x.t) ∧ w.cell? ⟨gg, o + 2, none⟩ = some (.int .i64 x.n) ∧
    w.cell? ⟨gg, o + 3, none⟩ = some (.int .i64 x.l) ∧ w.cell? ⟨gg, o + 4, none⟩ = some (.int .i64 x.c) := by
  obtain ⟨gg, o, cs, ha, hb, h0, h1, h2, h3, h4⟩ := h 0 x rfl
  simp only [Nat.zero_mul, Nat.add_zero] at h0 h1 h2 h3 h4
  exact ⟨gg, o, ha, hb.lt, (hb.cell _).trans h0, (hb.cell _).trans h1, (hb.cell _).trans h2, (hb.cell _).trans h3, (hb.cell _).trans h4⟩
/-- One that has a next word. -/
theorem CurR.some_ {w : World} {g : Nat} {c : Cu} {x : Wd} {r : List Wd} (h : CurR w g c) (hok : c.Ok) (hle : c.left = x :: r) : c.fault = 0 ∧ ∃ gg o cap, Blk w g 195 #[.slice (some ⟨gg, o, none⟩) (r.length + 1) cap, .int .i64 0, .int .i64 c.line, .int .i64 c.col] ∧ r.length + 1 ≤ cap ∧ cap ≤ 9223372036854775807 ∧ RowR w (some ⟨gg, o, none⟩) (x :: r) ∧
    gg < w.heap.size ∧ w.cell? ⟨gg, o, none⟩ = some (.int .i64 x.k) ∧ w.cell? ⟨gg, o + 1, none⟩ = some (.string x.t) ∧ w.cell? ⟨gg, o + 2, none⟩ = some (.int .i64 x.n) ∧ w.cell? ⟨gg, o + 3, none⟩ = some (.int .i64 x.l) ∧ w.cell? ⟨gg, o + 4, none⟩ = some (.int .i64 x.c) := by
  have hf : c.fault = 0 := by
    by_cases hf : c.fault = 0
    · exact hf
    · have := hok.gone hf; rw [hle] at this; cases this
  refine ⟨hf, ?_⟩
  obtain ⟨a, cap, L, hb, hL, hl, hm, hr⟩ := h
  rw [hL hf, hle] at hb hr hl
  obtain ⟨gg, o, rfl, hgg, n0, n1, n2, n3, n4⟩ := hr.head
  unfold cellsRC at hb
  rw [hf] at hb
  exact ⟨gg, o, cap, hb, hl, hm, hr, hgg, n0, n1, n2, n3, n4⟩
/-- One that has none. -/
theorem CurR.none_ {w : World} {g : Nat} {c : Cu} (h : CurR w g c) (hle : c.left = []) : (c.fault = 0 ∧ ∃ a cap, w.cell? ⟨g, 0, none⟩ = some (.slice a 0 cap) ∧ w.cell? ⟨g, 1, none⟩ = some (.int .i64 0)) ∨ (c.fault ≠ 0 ∧ w.cell? ⟨g, 1, none⟩ = some (.int .i64 c.fault)) := by
  obtain ⟨a, cap, L, hb, hL, hl, hm, hr⟩ := h
  by_cases hf : c.fault = 0
  · rw [hL hf, hle] at hb
    unfold cellsRC at hb
    rw [hf] at hb
    exact .inl ⟨hf, a, cap, hb.cell 0, hb.cell 1⟩
  · exact .inr ⟨hf, hb.cell 1⟩
set_option maxRecDepth 100000 in
theorem moreR_any (g : Nat) (c : Cu) (w : World) (h : CurR w g c) (hok : c.Ok) : Calls Tryz.prog 105 #[.pointer (some ⟨g, 0, none⟩)] w fun e w' => e = .returned (.bool c.more) ∧ w = w' := by
  cases hle : c.left with
  | nil =>
    have hm : c.more = false := by simp [Cu.more, hle]
    rw [hm]
    rcases h.none_ hle with ⟨hf, a, cap, m0, m1⟩ | ⟨hf, m1⟩
    · clear h hok hle hm hf
      go_enter Tryz.func105, Tryz.ntmps105
      go_wp2
      go_ret
      exact ⟨rfl, rfl⟩
    · have q : (c.fault == 0) = false := by simp [hf]
      clear h hok hle hm hf
      go_enter Tryz.func105, Tryz.ntmps105
      go_wp2
      go_ret
      exact ⟨rfl, rfl⟩
  | cons x r =>
    have hm : c.more = true := by simp [Cu.more, hle]
    rw [hm]
    obtain ⟨hf, gg, o, cap, hb, hl, hmx, hr, hgg, n0, n1, n2, n3, n4⟩ := h.some_ hok hle
    have m0 : w.cell? ⟨g, 0, none⟩ = some (.slice (some ⟨gg, o, none⟩) (r.length + 1) cap) := hb.cell 0
    have m1 : w.cell? ⟨g, 1, none⟩ = some (.int .i64 0) := hb.cell 1
    have hp : (0 : Int) < r.length + 1 := by omega
    clear h hok hle hm hf hb hr
    go_enter Tryz.func105, Tryz.ntmps105
    go_wp2
    go_ret
    exact ⟨rfl, rfl⟩
theorem end_kind {x : Wd} (h : x.k = 1 ∨ x.k = 2 ∨ x.k = 3 ∨ x.k = 4) : endK x = (x.k == 4) := by
  rcases h with h | h | h | h <;> simp [endK, h]
end Go.Proofs.YtkfplffcegbdfaaGreatDoor
