/-
  Package line's cursor in memory: a block of five cells, and a row of words behind it. What its own small calls answer. No condition beyond those that each theorem states.
-/
import Derived.Test.YtkfplffcegbdfaaGreatDoorItem
import Derived.Lib.Builder
import Derived.Lib.Walk
import Derived.LaidEqlPtr
import Derived.Laws.Pointers
namespace Go.Proofs.YtkfplffcegbdfaaGreatDoor
open Go.RowKit

/-- The row of words that are left. -/
def RowI (w : World) (a : Option Addr) (ws : List Wd) : Prop := ∀ k x, ws[k]? = some x → ∃ gg o cs, a = some ⟨gg, o, none⟩ ∧ Blk w gg 127 cs ∧ cs[o + k * 3]? = some (hasV x) ∧ cs[o + k * 3 + 1]? = some (.int .i64 x.l) ∧ cs[o + k * 3 + 2]? = some (.int .i64 x.c)
def cellsC (g : Nat) (a : Option Addr) (cap : Nat) (c : Cu) : Array Value := #[.slice a c.left.length cap, .pointer (some ⟨g, 0, none⟩), .int .i64 c.line, .int .i64 c.col, .int .i64 c.fault]
def CurC (w : World) (g : Nat) (c : Cu) : Prop := ∃ a cap, Blk w g 121 (cellsC g a cap c) ∧ c.left.length ≤ cap ∧ cap ≤ 9223372036854775807 ∧ RowI w a c.left
theorem blk_ne {w : World} {g g' : Nat} {t t' : TypeId} {cs cs' : Array Value} (h : Blk w g t cs) (h' : Blk w g' t' cs') (ht : t ≠ t') : g ≠ g' := by
  rintro rfl
  unfold Blk at h h'
  rw [h] at h'
  injection h' with h'
  injection h' with _ h'
  exact ht h'
theorem Blk.keep {w w' : World} {g g' : Nat} {t : TypeId} {cs : Array Value} (h : Blk w g t cs) (hk : Keep w.heap.size g' w w') (hne : g ≠ g') : Blk w' g t cs := (hk.block g h.lt hne).trans h
theorem RowI.keep {w w' : World} {a : Option Addr} {ws : List Wd} {g' : Nat} {t' : TypeId} {cs' : Array Value} (h : RowI w a ws) (hk : Keep w.heap.size g' w w') (hg : Blk w g' t' cs') (ht : 127 ≠ t') : RowI w' a ws := fun k x hx => by
  obtain ⟨gg, o, cs, ha, hb, r⟩ := h k x hx
  exact ⟨gg, o, cs, ha, hb.keep hk (blk_ne hb hg ht), r⟩
theorem RowI.below {w w' : World} {a : Option Addr} {ws : List Wd} (h : RowI w a ws) (hk : Below w.heap.size w w') : RowI w' a ws := fun k x hx => by
  obtain ⟨gg, o, cs, ha, hb, r⟩ := h k x hx
  exact ⟨gg, o, cs, ha, hb.below hk hb.lt, r⟩
theorem CurC.lt {w : World} {g : Nat} {c : Cu} (h : CurC w g c) : g < w.heap.size := by obtain ⟨_, _, hb, _⟩ := h; exact hb.lt
theorem CurC.below {w w' : World} {g : Nat} {c : Cu} (h : CurC w g c) (hk : Below w.heap.size w w') : CurC w' g c := by
  obtain ⟨a, cap, hb, hl, hm, hr⟩ := h
  exact ⟨a, cap, hb.below hk hb.lt, hl, hm, hr.below hk⟩
theorem CurC.keep {w w' : World} {g g' : Nat} {c : Cu} {t' : TypeId} {cs' : Array Value} (h : CurC w g c) (hk : Keep w.heap.size g' w w') (hg : Blk w g' t' cs') (h1 : 127 ≠ t') (h2 : 121 ≠ t') : CurC w' g c := by
  obtain ⟨a, cap, hb, hl, hm, hr⟩ := h
  exact ⟨a, cap, hb.keep hk (blk_ne hb hg h2), hl, hm, hr.keep hk hg h1⟩
/-- One that is written anew, its row as it was. -/
theorem CurC.put {w w' : World} {g : Nat} {c c' : Cu} {a a' : Option Addr} {cap cap' : Nat} (hb : Blk w g 121 (cellsC g a cap c)) (hb' : Blk w' g 121 (cellsC g a' cap' c')) (hk : Keep w.heap.size g w w') (hl : c'.left.length ≤ cap') (hm : cap' ≤ 9223372036854775807) (hr : RowI w a' c'.left) : CurC w' g c' :=
  ⟨a', cap', hb', hl, hm, hr.keep hk hb (by decide)⟩
theorem RowI.tail {w : World} {gg o : Nat} {x : Wd} {ws : List Wd} (h : RowI w (some ⟨gg, o, none⟩) (x :: ws)) : RowI w (some ⟨gg, o + 3, none⟩) ws := fun k y hy => by
  obtain ⟨gg', o', cs, ha, hb, h0, h1, h2⟩ := h (k + 1) y (by simpa using hy)
  simp only [Option.some.injEq, Addr.mk.injEq] at ha
  obtain ⟨rfl, rfl, _⟩ := ha
  have e : o + (k + 1) * 3 = o + 3 + k * 3 := by omega
  rw [e] at h0 h1 h2
  exact ⟨gg, o + 3, cs, rfl, hb, h0, h1, h2⟩
theorem RowI.nil (w : World) (a : Option Addr) : RowI w a [] := fun k x hx => by simp at hx

theorem cursor_size : (Tryz.prog.info? 121).map (·.size) = some 5 := by kernel_rfl
set_option maxRecDepth 100000 in
theorem told_any (g : Nat) (c : Cu) (w : World) (h : CurC w g c) : Calls Tryz.prog 76 #[.pointer (some ⟨g, 0, none⟩)] w fun e w' => e = .returned (.bool true) ∧ w = w' := by
  obtain ⟨j, hj, hjs⟩ := Option.map_eq_some_iff.1 cursor_size
  obtain ⟨a, cap, hb, _, _, _⟩ := h
  have m1 : w.cell? ⟨g, 1, none⟩ = some (.pointer (some ⟨g, 0, none⟩)) := hb.cell 1
  have hpe := fun W : World => run_eql_ptr_same W ⟨g, 0, none⟩ Tryz.underlying80 hj
  go_enter Tryz.func76, Tryz.ntmps76
  go_wp2
  go_ret
  exact ⟨rfl, rfl⟩
theorem has_iface (x : Wd) : ∃ T v, hasV x = .iface T v := by
  unfold hasV
  split
  · exact ⟨_, _, rfl⟩
  split
  · exact ⟨_, _, rfl⟩
  split
  · exact ⟨_, _, rfl⟩
  · exact ⟨_, _, rfl⟩
/-- The next word's cells. -/
theorem RowI.head {w : World} {a : Option Addr} {x : Wd} {r : List Wd} (h : RowI w a (x :: r)) : ∃ gg o, a = some ⟨gg, o, none⟩ ∧ gg < w.heap.size ∧ w.cell? ⟨gg, o, none⟩ = some (hasV x) ∧ w.cell? ⟨gg, o + 1, none⟩ = some (.int .i64 x.l) ∧ w.cell? ⟨gg, o + 2, none⟩ = some (.int .i64 x.c) := by
  obtain ⟨gg, o, cs, ha, hb, h0, h1, h2⟩ := h 0 x rfl
  simp only [Nat.zero_mul, Nat.add_zero] at h0 h1 h2
  exact ⟨gg, o, ha, hb.lt, (hb.cell _).trans h0, (hb.cell _).trans h1, (hb.cell _).trans h2⟩
set_option maxRecDepth 100000 in
theorem next_any (g : Nat) (c : Cu) (w : World) (h : CurC w g c) : Calls Tryz.prog 78 #[.pointer (some ⟨g, 0, none⟩)] w fun e w' => e = .returned (itemV c.left.head?) ∧ Below w.heap.size w w' := by
  obtain ⟨a, cap, hb, hl, hm, hr⟩ := h
  have hlt := hb.lt
  have m0 : w.cell? ⟨g, 0, none⟩ = some (.slice a c.left.length cap) := hb.cell 0
  have hb0 := (Below.refl _ w).alloc (Nat.le_refl _) (.cells #[.nilIface, .int .i64 0, .int .i64 0] 127)
  have HB := Lib.hid hb0
  clear hb0 hb
  cases hle : c.left with
  | nil =>
    rw [hle] at m0
    clear hr hl hle
    go_enter Tryz.func78, Tryz.ntmps78
    go_wp2
    refine bodyPost_ret (v := itemV none) (by simp [results, Tryz.results78, go_sem, itemV, hasO, lineO, colO]) rfl ⟨rfl, ?_⟩
    exact HB.out
  | cons x r =>
    rw [hle] at m0 hr
    obtain ⟨gg, o, rfl, hgg, n0, n1, n2⟩ := hr.head
    have hlen : (0 : Int) < r.length + 1 := by omega
    have hlen2 : (((r.length + 1 : Nat) : Int) == 0) = false := by simp; omega
    have E : itemV (some x) = .agg #[hasV x, .int .i64 x.l, .int .i64 x.c] := rfl
    obtain ⟨T, v, hv⟩ := has_iface x
    rw [hv] at n0 E
    have HE := Lib.hid E
    clear hr hl hle E hv
    go_enter Tryz.func78, Tryz.ntmps78
    go_wp2
    refine bodyPost_ret (v := .agg #[.iface T v, .int .i64 x.l, .int .i64 x.c]) (by simp [results, Tryz.results78, go_sem]) rfl ⟨by rw [← HE.out]; rfl, ?_⟩
    exact (Below.refl _ w).alloc (Nat.le_refl _) _
end Go.Proofs.YtkfplffcegbdfaaGreatDoor
