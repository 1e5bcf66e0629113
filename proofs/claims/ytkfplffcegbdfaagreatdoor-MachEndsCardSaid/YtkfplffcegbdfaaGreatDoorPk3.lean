/-
  Package line's cursor in memory: a block of five cells, and a row of words behind it. What its own small calls answer. No condition beyond those that each theorem states.
  Package line's cursor: the next word is got, and gone over. No condition beyond those that each theorem states.
-/
import Derived.Test.YtkfplffcegbdfaaGreatDoorItem
import Derived.Lib.Builder
import Derived.Lib.Walk
import Derived.LaidEqlPtr
import Derived.Laws.Pointers
namespace Go.Proofs.YtkfplffcegbdfaaGreatDoor
open Go.RowKit

/-- The row of words that are left. -/
def RowI (w : World) (a : Option Addr) (ws : List Wd) : Prop := ∀ k x, ws[k]? = some x → ∃ gg o cs, a = some ⟨gg, o, none⟩ ∧ Blk w gg 127 cs ∧ cs[o + k * 3]? = some (hasV x) ∧ cs[o + k * 3 + 1]? = some (.int .i64 x.l) ∧ cs[o + k * 3 + 2]? = some (.int .i64 x.c)
def cellsC (g : Nat) (a : Option Addr) (cap : Nat) (c : Cu) : Array Value := #[.slice a c.left.length cap, .pointer (some ⟨g, 0, none⟩), .int .i64 c.line, .int .i64 c.col, .int .i64 c.fault]
def CurC (w : World) (g : Nat) (c : Cu) : Prop := ∃ a cap, Blk w g 121 (cellsC g a cap c) ∧ c.left.length ≤ cap ∧ cap ≤ 9223372036854775807 ∧ RowI w a c.left
theorem blk_ne {w : World} {g g' : Nat} {t t' : TypeId} {cs cs' : Array Value} (h : Blk w g t cs) (h' : Blk w g' t' cs') (ht : t ≠ t') : g ≠ g' := by
  rintro rfl
  unfold Blk at h h'
  rw [h] at h'
  injection h' with h'
  injection h' with _ h'
  exact ht h'
theorem Blk.keep {w w' : World} {g g' : Nat} {t : TypeId} {cs : Array Value} (h : Blk w g t cs) (hk : Keep w.heap.size g' w w') (hne : g ≠ g') : Blk w' g t cs := (hk.block g h.lt hne).trans h
theorem RowI.keep {w w' : World} {a : Option Addr} {ws : List Wd} {g' : Nat} {t' : TypeId} {cs' : Array Value} (h : RowI w a ws) (hk : Keep w.heap.size g' w w') (hg : Blk w g' t' cs') (ht : 127 ≠ t') : RowI w' a ws := fun k x hx => by
  obtain ⟨gg, o, cs, ha, hb, r⟩ := h k x hx
  exact ⟨gg, o, cs, ha, hb.keep hk (blk_ne hb hg ht), r⟩
theorem RowI.below {w w' : World} {a : Option Addr} {ws : List Wd} (h : RowI w a ws) (hk : Below w.heap.size w w') : RowI w' a ws := fun k x hx => by
  obtain ⟨gg, o, cs, ha, hb, r⟩ := h k x hx
  exact ⟨gg, o, cs, ha, hb.below hk hb.lt, r⟩
theorem CurC.lt {w : World} {g : Nat} {c : Cu} (h : CurC w g c) : g < w.heap.size := by obtain ⟨_, _, hb, _⟩ := h; exact hb.lt
theorem CurC.below {w w' : World} {g : Nat} {c : Cu} (h : CurC w g c) (hk : Below w.heap.size w w') : CurC w' g c := by
  obtain ⟨a, cap, hb, hl, hm, hr⟩ := h
  exact ⟨a, cap, hb.below hk hb.lt, hl, hm, hr.below hk⟩
theorem CurC.keep {w w' : World} {g g' : Nat} {c : Cu} {t' : TypeId} {cs' : Array Value} (h : CurC w g c) (hk : Keep w.heap.size g' w w') (hg : Blk w g' t' cs') (h1 : 127 ≠ t') (h2 : 121 ≠ t') : CurC w' g c := by
  obtain ⟨a, cap, hb, hl, hm, hr⟩ := h
  exact ⟨a, cap, hb.keep hk (blk_ne hb hg h2), hl, hm, hr.keep hk hg h1⟩
/-- One that is written anew, its row as it was. -/
theorem CurC.put {w w' : World} {g : Nat} {c c' : Cu} {a a' : Option Addr} {cap cap' : Nat} (hb : Blk w g 121 (cellsC g a cap c)) (hb' : Blk w' g 121 (cellsC g a' cap' c')) (hk : Keep w.heap.size g w w') (hl : c'.left.length ≤ cap') (hm : cap' ≤ 9223372036854775807) (hr : RowI w a' c'.left) : CurC w' g c' :=
  ⟨a', cap', hb', hl, hm, hr.keep hk hb (by decide)⟩
theorem RowI.tail {w : World} {gg o : Nat} {x : Wd} {ws : List Wd} (h : RowI w (some ⟨gg, o, none⟩) (x :: ws)) : RowI w (some ⟨gg, o + 3, none⟩) ws := fun k y hy => by
  obtain ⟨gg', o', cs, ha, hb, h0, h1, h2⟩ := h (k + 1) y (by simpa using hy)
  simp only [Option.some.injEq, Addr.mk.injEq] at ha
  obtain ⟨rfl, rfl, _⟩ := ha
  have e : o + (k + 1) * 3 = o + 3 + k * 3 := by omega
  rw [e] at h0 h1 h2
  exact ⟨gg, o + 3, cs, rfl, hb, h0, h1, h2⟩
theorem RowI.nil (w : World) (a : Option Addr) : RowI w a [] := fun k x hx => by simp at hx

theorem cursor_size : (Tryz.prog.info? 121).map (·.size) = some 5 := by kernel_rfl
set_option maxRecDepth 100000 in
theorem told_any (g : Nat) (c : Cu) (w : World) (h : CurC w g c) : Calls Tryz.prog 76 #[.pointer (some ⟨g, 0, none⟩)] w fun e w' => e = .returned (.bool true) ∧ w = w' := by
  obtain ⟨j, hj, hjs⟩ := Option.map_eq_some_iff.1 cursor_size
  obtain ⟨a, cap, hb, _, _, _⟩ := h
  have m1 : w.cell? ⟨g, 1, none⟩ = some (.pointer (some ⟨g, 0, none⟩)) := hb.cell 1
  have hpe := fun W : World => run_eql_ptr_same W ⟨g, 0, none⟩ Tryz.underlying80 hj
  go_enter Tryz.func76, Tryz.ntmps76
  go_wp2
  go_ret
  exact ⟨rfl, rfl⟩
theorem has_iface (x : Wd) : ∃ T v, hasV x = .iface T v := by
  unfold hasV
  split
  · exact ⟨_, _, rfl⟩
  split
  · exact ⟨_, _, rfl⟩
  split
  · exact ⟨_, _, rfl⟩
  · exact ⟨_, _, rfl⟩
/-- The next word's cells. -/
theorem RowI.head {w : World} {a : Option Addr} {x : Wd} {r : List Wd} (h : RowI w a (x :: r)) : ∃ gg o, a = some ⟨gg, o, none⟩ ∧ gg < w.heap.size ∧ w.cell? ⟨gg, o, none⟩ = some (hasV x) ∧ w.cell? ⟨gg, o + 1, none⟩ = some (.int .i64 x.l) ∧ w.cell? ⟨gg, o + 2, none⟩ = some (.int .i64 x.c) := by
  obtain ⟨gg, o, cs, ha, hb, h0, h1, h2⟩ := h 0 x rfl
  simp only [Nat.zero_mul, Nat.add_zero] at h0 h1 h2
  exact ⟨gg, o, ha, hb.lt, (hb.cell _).trans h0, (hb.cell _).trans h1, (hb.cell _).trans h2⟩
set_option maxRecDepth 100000 in
theorem next_any (g : Nat) (c : Cu) (w : World) (h : CurC w g c) : Calls Tryz.prog 78 #[.pointer (some ⟨g, 0, none⟩)] w fun e w' => e = .returned (itemV c.left.head?) ∧ Below w.heap.size w w' := by
  obtain ⟨a, cap, hb, hl, hm, hr⟩ := h
  have hlt := hb.lt
  have m0 : w.cell? ⟨g, 0, none⟩ = some (.slice a c.left.length cap) := hb.cell 0
  have hb0 := (Below.refl _ w).alloc (Nat.le_refl _) (.cells #[.nilIface, .int .i64 0, .int .i64 0] 127)
  have HB := Lib.hid hb0
  clear hb0 hb
  cases hle : c.left with
  | nil =>
    rw [hle] at m0
    clear hr hl hle
    go_enter Tryz.func78, Tryz.ntmps78
    go_wp2
    refine bodyPost_ret (v := itemV none) (by simp [results, Tryz.results78, go_sem, itemV, hasO, lineO, colO]) rfl ⟨rfl, ?_⟩
    exact HB.out
  | cons x r =>
    rw [hle] at m0 hr
    obtain ⟨gg, o, rfl, hgg, n0, n1, n2⟩ := hr.head
    have hlen : (0 : Int) < r.length + 1 := by omega
    have hlen2 : (((r.length + 1 : Nat) : Int) == 0) = false := by simp; omega
    have E : itemV (some x) = .agg #[hasV x, .int .i64 x.l, .int .i64 x.c] := rfl
    obtain ⟨T, v, hv⟩ := has_iface x
    rw [hv] at n0 E
    have HE := Lib.hid E
    clear hr hl hle E hv
    go_enter Tryz.func78, Tryz.ntmps78
    go_wp2
    refine bodyPost_ret (v := .agg #[.iface T v, .int .i64 x.l, .int .i64 x.c]) (by simp [results, Tryz.results78, go_sem]) rfl ⟨by rw [← HE.out]; rfl, ?_⟩
    exact (Below.refl _ w).alloc (Nat.le_refl _) _
end Go.Proofs.YtkfplffcegbdfaaGreatDoor
namespace Go.Proofs.YtkfplffcegbdfaaGreatDoor
open Go.RowKit

theorem item_form (o : Option Wd) : itemV o = .agg #[.nilIface, .int .i64 (lineO o), .int .i64 (colO o)] ∨ ∃ T v, itemV o = .agg #[.iface T v, .int .i64 (lineO o), .int .i64 (colO o)] := by
  cases o with
  | none => exact .inl rfl
  | some x =>
    obtain ⟨T, v, h⟩ := has_iface x
    exact .inr ⟨T, v, by rw [← h]; rfl⟩
set_option maxRecDepth 100000 in
theorem now_any (g : Nat) (c : Cu) (w : World) (h : CurC w g c) : Calls Tryz.prog 118 #[.pointer (some ⟨g, 0, none⟩)] w fun e w' => e = .returned (itemV c.left.head?) ∧ Below w.heap.size w w' := by
  have hb0 : Below w.heap.size w (w.alloc (.cells #[.nilIface, .int .i64 0, .int .i64 0] 127)) := (Below.refl _ w).alloc (Nat.le_refl _) _
  have h1 := h.below hb0
  have T := Lib.hid (told_any g c _ h1)
  have N := Lib.hid (next_any g c _ h1)
  clear h1 h hb0
  obtain ⟨o, ho⟩ : ∃ o, c.left.head? = o := ⟨_, rfl⟩
  rw [ho] at N ⊢
  clear ho
  rcases item_form o with hf | ⟨Y, v, hf⟩
  · rw [hf] at N ⊢
    clear hf
    go_enter Tryz.func118, Tryz.ntmps118
    go_wp2_with fail
    refine T.out.mono ?_
    rintro e w1 ⟨rfl, rfl⟩
    go_wp2_with fail
    refine N.out.mono ?_
    rintro e w1 ⟨rfl, hb⟩
    have HB : Hid (w1.heap[w.heap.size]? = some (.cells #[.nilIface, .int .i64 0, .int .i64 0] 127 (0, 0))) := (hb.block _ (by simp)).trans (heap_alloc_new w _)
    have c0 : w1.cell? ⟨w.heap.size, 0, none⟩ = some .nilIface := (Blk.cell (t := 127) HB.out 0).trans rfl
    have c1 : w1.cell? ⟨w.heap.size, 1, none⟩ = some (.int .i64 0) := (Blk.cell (t := 127) HB.out 1).trans rfl
    have c2 : w1.cell? ⟨w.heap.size, 2, none⟩ = some (.int .i64 0) := (Blk.cell (t := 127) HB.out 2).trans rfl
    have f0 := Blk.free (t := 127) HB.out 0
    have f1 := Blk.free (t := 127) HB.out 1
    have f2 := Blk.free (t := 127) HB.out 2
    have HK : Hid (Below w.heap.size w w1) := ((Below.refl _ w).alloc (Nat.le_refl _) _).trans (hb.mono (by simp))
    clear hb N T
    go_wp2
    have HB3 := ((Blk.put HB.out 0 (Value.nilIface)).put 1 (.int .i64 (lineO o))).put 2 (.int .i64 (colO o))
    have HK3 := Lib.hid (((HK.out.setCell (p := ⟨w.heap.size, 0, none⟩) (Nat.le_refl _) (Value.nilIface)).setCell (p := ⟨w.heap.size, 1, none⟩) (Nat.le_refl _) (.int .i64 (lineO o))).setCell (p := ⟨w.heap.size, 2, none⟩) (Nat.le_refl _) (.int .i64 (colO o)))
    clear c0 c1 c2 f0 f1 f2 HB HK
    generalize ((w1.setCell ⟨w.heap.size, 0, none⟩ (Value.nilIface)).setCell ⟨w.heap.size, 1, none⟩ (.int .i64 (lineO o))).setCell ⟨w.heap.size, 2, none⟩ (.int .i64 (colO o)) = w4 at *
    have k0 : w4.cell? ⟨w.heap.size, 0, none⟩ = some (Value.nilIface) := (HB3.cell 0).trans rfl
    have k1 : w4.cell? ⟨w.heap.size, 1, none⟩ = some (.int .i64 (lineO o)) := (HB3.cell 1).trans rfl
    have k2 : w4.cell? ⟨w.heap.size, 2, none⟩ = some (.int .i64 (colO o)) := (HB3.cell 2).trans rfl
    exact bodyPost_ret (v := .agg #[Value.nilIface, .int .i64 (lineO o), .int .i64 (colO o)]) (by simp [results, Tryz.results118, go_sem, k0, k1, k2]) rfl ⟨rfl, HK3.out⟩
  · rw [hf] at N ⊢
    clear hf
    go_enter Tryz.func118, Tryz.ntmps118
    go_wp2_with fail
    refine T.out.mono ?_
    rintro e w1 ⟨rfl, rfl⟩
    go_wp2_with fail
    refine N.out.mono ?_
    rintro e w1 ⟨rfl, hb⟩
    have HB : Hid (w1.heap[w.heap.size]? = some (.cells #[.nilIface, .int .i64 0, .int .i64 0] 127 (0, 0))) := (hb.block _ (by simp)).trans (heap_alloc_new w _)
    have c0 : w1.cell? ⟨w.heap.size, 0, none⟩ = some .nilIface := (Blk.cell (t := 127) HB.out 0).trans rfl
    have c1 : w1.cell? ⟨w.heap.size, 1, none⟩ = some (.int .i64 0) := (Blk.cell (t := 127) HB.out 1).trans rfl
    have c2 : w1.cell? ⟨w.heap.size, 2, none⟩ = some (.int .i64 0) := (Blk.cell (t := 127) HB.out 2).trans rfl
    have f0 := Blk.free (t := 127) HB.out 0
    have f1 := Blk.free (t := 127) HB.out 1
    have f2 := Blk.free (t := 127) HB.out 2
    have HK : Hid (Below w.heap.size w w1) := ((Below.refl _ w).alloc (Nat.le_refl _) _).trans (hb.mono (by simp))
    clear hb N T
    go_wp2
    have HB3 := ((Blk.put HB.out 0 (Value.iface Y v)).put 1 (.int .i64 (lineO o))).put 2 (.int .i64 (colO o))
    have HK3 := Lib.hid (((HK.out.setCell (p := ⟨w.heap.size, 0, none⟩) (Nat.le_refl _) (Value.iface Y v)).setCell (p := ⟨w.heap.size, 1, none⟩) (Nat.le_refl _) (.int .i64 (lineO o))).setCell (p := ⟨w.heap.size, 2, none⟩) (Nat.le_refl _) (.int .i64 (colO o)))
    clear c0 c1 c2 f0 f1 f2 HB HK
    generalize ((w1.setCell ⟨w.heap.size, 0, none⟩ (Value.iface Y v)).setCell ⟨w.heap.size, 1, none⟩ (.int .i64 (lineO o))).setCell ⟨w.heap.size, 2, none⟩ (.int .i64 (colO o)) = w4 at *
    have k0 : w4.cell? ⟨w.heap.size, 0, none⟩ = some (Value.iface Y v) := (HB3.cell 0).trans rfl
    have k1 : w4.cell? ⟨w.heap.size, 1, none⟩ = some (.int .i64 (lineO o)) := (HB3.cell 1).trans rfl
    have k2 : w4.cell? ⟨w.heap.size, 2, none⟩ = some (.int .i64 (colO o)) := (HB3.cell 2).trans rfl
    exact bodyPost_ret (v := .agg #[Value.iface Y v, .int .i64 (lineO o), .int .i64 (colO o)]) (by simp [results, Tryz.results118, go_sem, k0, k1, k2]) rfl ⟨rfl, HK3.out⟩
set_option maxRecDepth 100000 in
theorem pass_any2 (g : Nat) (c : Cu) (w : World) (h : CurC w g c) (h0 : c.left ≠ []) : Calls Tryz.prog 140 #[.pointer (some ⟨g, 0, none⟩)] w fun e w' => e = .returned (.tuple #[]) ∧ CurC w' g c.pass ∧ Keep w.heap.size g w w' := by
  obtain ⟨a, cap, hb, hl, hm, hr⟩ := id h
  have m0 : w.cell? ⟨g, 0, none⟩ = some (.slice a c.left.length cap) := hb.cell 0
  have f0 := hb.free 0
  have HB := Lib.hid hb
  have hlt := hb.lt
  clear hb h
  cases hle : c.left with
  | nil => exact absurd hle h0
  | cons x r =>
    rw [hle] at m0 hr hl
    obtain ⟨gg, o, rfl, _⟩ := hr.head
    have HR := Lib.hid hr
    simp only [List.length_cons] at hl m0
    by_cases hc : cap = 1
    · subst hc
      have hr0 : r = [] := List.length_eq_zero_iff.1 (by omega)
      have HE : Hid (c.pass = { c with left := [] }) := by show _ = _; simp [Cu.pass, hle, hr0]
      subst hr0
      have HK : Hid (∀ a', Blk (w.setCell ⟨g, 0, none⟩ (.slice a' 0 0)) g 121 (cellsC g a' 0 { c with left := [] })) := fun a' => HB.out.put 0 _
      clear hr hle h0 hl
      go_enter Tryz.func140, Tryz.ntmps140
      go_wp2
      go_end0
      refine ⟨rfl, ?_, Keep.put _ _ _ _ _⟩
      rw [HE.out]
      exact CurC.put HB.out (HK.out _) (Keep.put _ _ _ _ _) (Nat.le_refl 0) (by omega) (RowI.nil _ _)
    · have hc1 : (1 : Int) ≤ cap := by omega
      have HE : Hid (c.pass = { c with left := r }) := by show _ = _; simp [Cu.pass, hle]
      clear hr hle h0
      go_enter Tryz.func140, Tryz.ntmps140
      go_wp2
      go_end0
      refine ⟨rfl, ?_, Keep.put _ _ _ _ _⟩
      rw [HE.out]
      exact CurC.put (c' := { c with left := r }) HB.out (HB.out.put 0 _) (Keep.put _ _ _ _ _) (by simp only; omega) (by omega) HR.out.tail
theorem over_any (g : Nat) (c : Cu) (b : Bool) (w : World) (h : CurC w g c) (h0 : b = true → c.left ≠ []) : Calls Tryz.prog 117 #[.pointer (some ⟨g, 0, none⟩), .bool b] w fun e w' => e = .returned (.bool b) ∧ CurC w' g (c.over b) ∧ Keep w.heap.size g w w' := by
  cases b
  · have H := Lib.hid h
    clear h h0
    go_enter Tryz.func117, Tryz.ntmps117
    go_wp2
    go_ret
    exact ⟨rfl, H.out, Keep.refl _ _ _⟩
  · have P := Lib.hid (pass_any2 g c w h (h0 rfl))
    clear h h0
    go_enter Tryz.func117, Tryz.ntmps117
    go_wp2_with fail
    refine P.out.mono ?_
    rintro e w1 ⟨rfl, h1, k1⟩
    have H1 := Lib.hid h1
    have K1 := Lib.hid k1
    clear h1 k1
    go_wp2
    go_ret
    exact ⟨rfl, H1.out, K1.out⟩
theorem neq_nil_nil (W : World) : (binOp .neq 20 .nilIface .nilIface).run Tryz.prog W = .ok (.bool false) W := by kernel_rfl
theorem neq_has_nil (T : TypeId) (v : Value) (W : World) : (binOp .neq 20 (.iface T v) .nilIface).run Tryz.prog W = .ok (.bool true) W := by kernel_rfl
theorem eql_nil_nil (W : World) : (binOp .eql 20 .nilIface .nilIface).run Tryz.prog W = .ok (.bool true) W := by kernel_rfl
theorem eql_has_nil (T : TypeId) (v : Value) (W : World) : (binOp .eql 20 (.iface T v) .nilIface).run Tryz.prog W = .ok (.bool false) W := by kernel_rfl
theorem item_has (V : Value) (L C : Int) (W : World) : (Instr.field 127 (.agg #[V, .int .i64 L, .int .i64 C]) 0).run Tryz.prog W = .ok V W := by kernel_rfl
theorem item_place (V : Value) (L C : Int) (W : World) : (Instr.field 127 (.agg #[V, .int .i64 L, .int .i64 C]) 1).run Tryz.prog W = .ok (.agg #[.int .i64 L, .int .i64 C]) W := by kernel_rfl
theorem more_form (c : Cu) : c.more = (match c.left.head? with | some _ => true | none => false) := by
  unfold Cu.more
  cases c.left <;> rfl
set_option maxRecDepth 100000 in
theorem more_any (g : Nat) (c : Cu) (w : World) (h : CurC w g c) : Calls Tryz.prog 77 #[.pointer (some ⟨g, 0, none⟩)] w fun e w' => e = .returned (.bool c.more) ∧ Below w.heap.size w w' := by
  have N := Lib.hid (now_any g c w h)
  rw [more_form]
  clear h
  cases ho : c.left.head? with
  | none =>
    rw [ho] at N
    simp only [itemV, hasO] at N ⊢
    clear ho
    have hn := neq_nil_nil
    have hf := item_has
    go_enter Tryz.func77, Tryz.ntmps77
    go_wp2_with fail
    refine N.out.mono ?_
    rintro e w1 ⟨rfl, hb⟩
    have HB := Lib.hid hb
    clear hb N
    go_wp2
    go_ret
    exact ⟨rfl, HB.out⟩
  | some x =>
    obtain ⟨T, v, hv⟩ := has_iface x
    rw [ho] at N
    simp only [itemV, hasO, hv] at N ⊢
    clear ho hv
    have hn := neq_has_nil
    have hf := item_has
    go_enter Tryz.func77, Tryz.ntmps77
    go_wp2_with fail
    refine N.out.mono ?_
    rintro e w1 ⟨rfl, hb⟩
    have HB := Lib.hid hb
    clear hb N
    go_wp2
    go_ret
    exact ⟨rfl, HB.out⟩
end Go.Proofs.YtkfplffcegbdfaaGreatDoor
