/-
  Package line's cursor: the next word is got, and gone over. No condition beyond those that each theorem states.
-/
import Derived.Test.YtkfplffcegbdfaaGreatDoorCur
namespace Go.Proofs.YtkfplffcegbdfaaGreatDoor
open Go.RowKit

theorem item_form (o : Option Wd) : itemV o = .agg #[.nilIface, .int .i64 (lineO o), .int .i64 (colO o)] ∨ ∃ T v, itemV o = .agg #[.iface T v, .int .i64 (lineO o), .int .i64 (colO o)] := by
  cases o with
  | none => exact .inl rfl
  | some x =>
    obtain ⟨T, v, h⟩ := has_iface x
    exact .inr ⟨T, v, by rw [← h]; rfl⟩
set_option maxRecDepth 100000 in
theorem now_any (g : Nat) (c : Cu) (w : World) (h : CurC w g c) : Calls Tryz.prog 118 #[.pointer (some ⟨g, 0, none⟩)] w fun e w' => e = .returned (itemV c.left.head?) ∧ Below w.heap.size w w' := by
  have hb0 : Below w.heap.size w (w.alloc (.cells #[.nilIface, .int .i64 0, .int .i64 0] 127)) := (Below.refl _ w).alloc (Nat.le_refl _) _
  have h1 := h.below hb0
  have T := Lib.hid (told_any g c _ h1)
  have N := Lib.hid (next_any g c _ h1)
  clear h1 h hb0
  obtain ⟨o, ho⟩ : ∃ o, c.left.head? = o := ⟨_, rfl⟩
  rw [ho] at N ⊢
  clear ho
  rcases item_form o with hf | ⟨Y, v, hf⟩
  · rw [hf] at N ⊢
    clear hf
    go_enter Tryz.func118, Tryz.ntmps118
    go_wp2_with fail
    refine T.out.mono ?_
    rintro e w1 ⟨rfl, rfl⟩
    go_wp2_with fail
    refine N.out.mono ?_
    rintro e w1 ⟨rfl, hb⟩
    have HB : Hid (w1.heap[w.heap.size]? = some (.cells #[.nilIface, .int .i64 0, .int .i64 0] 127 (0, 0))) := (hb.block _ (by simp)).trans (heap_alloc_new w _)
    have c0 : w1.cell? ⟨w.heap.size, 0, none⟩ = some .nilIface := (Blk.cell (t := 127) HB.out 0).trans rfl
    have c1 : w1.cell? ⟨w.heap.size, 1, none⟩ = some (.int .i64 0) := (Blk.cell (t := 127) HB.out 1).trans rfl
    have c2 : w1.cell? ⟨w.heap.size, 2, none⟩ = some (.int .i64 0) := (Blk.cell (t := 127) HB.out 2).trans rfl
    have f0 := Blk.free (t := 127) HB.out 0
    have f1 := Blk.free (t := 127) HB.out 1
    have f2 := Blk.free (t := 127) HB.out 2
    have HK : Hid (Below w.heap.size w w1) := ((Below.refl _ w).alloc (Nat.le_refl _) _).trans (hb.mono (by simp))
    clear hb N T
    go_wp2
    have HB3 := ((Blk.put HB.out 0 (Value.nilIface)).put 1 (.int .i64 (lineO o))).put 2 (.int .i64 (colO o))
    have HK3 := Lib.hid (((HK.out.setCell (p := ⟨w.heap.size, 0, none⟩) (Nat.le_refl _) (Value.nilIface)).setCell (p := ⟨w.heap.size, 1, none⟩) (Nat.le_refl _) (.int .i64 (lineO o))).setCell (p := ⟨w.heap.size, 2, none⟩) (Nat.le_refl _) (.int .i64 (colO o)))
    clear c0 c1 c2 f0 f1 f2 HB HK
    generalize ((w1.setCell ⟨w.heap.size, 0, none⟩ (Value.nilIface)).setCell ⟨w.heap.size, 1, none⟩ (.int .i64 (lineO o))).setCell ⟨w.heap.size, 2, none⟩ (.int .i64 (colO o)) = w4 at *
    have k0 : w4.cell? ⟨w.heap.size, 0, none⟩ = some (Value.nilIface) := (HB3.cell 0).trans rfl
    have k1 : w4.cell? ⟨w.heap.size, 1, none⟩ = some (.int .i64 (lineO o)) := (HB3.cell 1).trans rfl
    have k2 : w4.cell? ⟨w.heap.size, 2, none⟩ = some (.int .i64 (colO o)) := (HB3.cell 2).trans rfl
    exact bodyPost_ret (v := .agg #[Value.nilIface, .int .i64 (lineO o), .int .i64 (colO o)]) (by simp [results, Tryz.results118, go_sem, k0, k1, k2]) rfl ⟨rfl, HK3.out⟩
  · rw [hf] at N ⊢
    clear hf
    go_enter Tryz.func118, Tryz.ntmps118
    go_wp2_with fail
    refine T.out.mono ?_
    rintro e w1 ⟨rfl, rfl⟩
    go_wp2_with fail
    refine N.out.mono ?_
    rintro e w1 ⟨rfl, hb⟩
    have HB : Hid (w1.heap[w.heap.size]? = some (.cells #[.nilIface, .int .i64 0, .int .i64 0] 127 (0, 0))) := (hb.block _ (by simp)).trans (heap_alloc_new w _)
    have c0 : w1.cell? ⟨w.heap.size, 0, none⟩ = some .nilIface := (Blk.cell (t := 127) HB.out 0).trans rfl
    have c1 : w1.cell? ⟨w.heap.size, 1, none⟩ = some (.int .i64 0) := (Blk.cell (t := 127) HB.out 1).trans rfl
    have c2 : w1.cell? ⟨w.heap.size, 2, none⟩ = some (.int .i64 0) := (Blk.cell (t := 127) HB.out 2).trans rfl
    have f0 := Blk.free (t := 127) HB.out 0
    have f1 := Blk.free (t := 127) HB.out 1
    have f2 := Blk.free (t := 127) HB.out 2
    have HK : Hid (Below w.heap.size w w1) := ((Below.refl _ w).alloc (Nat.le_refl _) _).trans (hb.mono (by simp))
    clear hb N T
    go_wp2
    have HB3 := ((Blk.put HB.out 0 (Value.iface Y v)).put 1 (.int .i64 (lineO o))).put 2 (.int .i64 (colO o))
    have HK3 := Lib.hid (((HK.out.setCell (p := ⟨w.heap.size, 0, none⟩) (Nat.le_refl _) (Value.iface Y v)).setCell (p := ⟨w.heap.size, 1, none⟩) (Nat.le_refl _) (.int .i64 (lineO o))).setCell (p := ⟨w.heap.size, 2, none⟩) (Nat.le_refl _) (.int .i64 (colO o)))
    clear c0 c1 c2 f0 f1 f2 HB HK
    generalize ((w1.setCell ⟨w.heap.size, 0, none⟩ (Value.iface Y v)).setCell ⟨w.heap.size, 1, none⟩ (.int .i64 (lineO o))).setCell ⟨w.heap.size, 2, none⟩ (.int .i64 (colO o)) = w4 at *
    have k0 : w4.cell? ⟨w.heap.size, 0, none⟩ = some (Value.iface Y v) := (HB3.cell 0).trans rfl
    have k1 : w4.cell? ⟨w.heap.size, 1, none⟩ = some (.int .i64 (lineO o)) := (HB3.cell 1).trans rfl
    have k2 : w4.cell? ⟨w.heap.size, 2, none⟩ = some (.int .i64 (colO o)) := (HB3.cell 2).trans rfl
    exact bodyPost_ret (v := .agg #[Value.iface Y v, .int .i64 (lineO o), .int .i64 (colO o)]) (by simp [results, Tryz.results118, go_sem, k0, k1, k2]) rfl ⟨rfl, HK3.out⟩
set_option maxRecDepth 100000 in
theorem pass_any2 (g : Nat) (c : Cu) (w : World) (h : CurC w g c) (h0 : c.left ≠ []) : Calls Tryz.prog 140 #[.pointer (some ⟨g, 0, none⟩)] w fun e w' => e = .returned (.tuple #[]) ∧ CurC w' g c.pass ∧ Keep w.heap.size g w w' := by
  obtain ⟨a, cap, hb, hl, hm, hr⟩ := id h
  have m0 : w.cell? ⟨g, 0, none⟩ = some (.slice a c.left.length cap) := hb.cell 0
  have f0 := hb.free 0
  have HB := Lib.hid hb
  have hlt := hb.lt
  clear hb h
  cases hle : c.left with
  | nil => exact absurd hle h0
  | cons x r =>
    rw [hle] at m0 hr hl
    obtain ⟨gg, o, rfl, _⟩ := hr.head
    have HR := Lib.hid hr
    simp only [List.length_cons] at hl m0
    by_cases hc : cap = 1
    · subst hc
      have hr0 : r = [] := List.length_eq_zero_iff.1 (by omega)
      have HE : Hid (c.pass = { c with left := [] }) := by show _ = _; simp [Cu.pass, hle, hr0]
      subst hr0
      have HK : Hid (∀ a', Blk (w.setCell ⟨g, 0, none⟩ (.slice a' 0 0)) g 121 (cellsC g a' 0 { c with left := [] })) := fun a' => HB.out.put 0 _
      clear hr hle h0 hl
      go_enter Tryz.func140, Tryz.ntmps140
      go_wp2
      go_end0
      refine ⟨rfl, ?_, Keep.put _ _ _ _ _⟩
      rw [HE.out]
      exact CurC.put HB.out (HK.out _) (Keep.put _ _ _ _ _) (Nat.le_refl 0) (by omega) (RowI.nil _ _)
    · have hc1 : (1 : Int) ≤ cap := by omega
      have HE : Hid (c.pass = { c with left := r }) := by show _ = _; simp [Cu.pass, hle]
      clear hr hle h0
      go_enter Tryz.func140, Tryz.ntmps140
      go_wp2
      go_end0
      refine ⟨rfl, ?_, Keep.put _ _ _ _ _⟩
      rw [HE.out]
      exact CurC.put (c' := { c with left := r }) HB.out (HB.out.put 0 _) (Keep.put _ _ _ _ _) (by simp only; omega) (by omega) HR.out.tail
theorem over_any (g : Nat) (c : Cu) (b : Bool) (w : World) (h : CurC w g c) (h0 : b = true → c.left ≠ []) : Calls Tryz.prog 117 #[.pointer (some ⟨g, 0, none⟩), .bool b] w fun e w' => e = .returned (.bool b) ∧ CurC w' g (c.over b) ∧ Keep w.heap.size g w w' := by
  cases b
  · have H := Lib.hid h
    clear h h0
    go_enter Tryz.func117, Tryz.ntmps117
    go_wp2
    go_ret
    exact ⟨rfl, H.out, Keep.refl _ _ _⟩
  · have P := Lib.hid (pass_any2 g c w h (h0 rfl))
    clear h h0
    go_enter Tryz.func117, Tryz.ntmps117
    go_wp2_with fail
    refine P.out.mono ?_
    rintro e w1 ⟨rfl, h1, k1⟩
    have H1 := Lib.hid h1
    have K1 := Lib.hid k1
    clear h1 k1
    go_wp2
    go_ret
    exact ⟨rfl, H1.out, K1.out⟩
theorem neq_nil_nil (W : World) : (binOp .neq 20 .nilIface .nilIface).run Tryz.prog W = .ok (.bool false) W := by kernel_rfl
theorem neq_has_nil (T : TypeId) (v : Value) (W : World) : (binOp .neq 20 (.iface T v) .nilIface).run Tryz.prog W = .ok (.bool true) W := by kernel_rfl
theorem eql_nil_nil (W : World) : (binOp .eql 20 .nilIface .nilIface).run Tryz.prog W = .ok (.bool true) W := by kernel_rfl
theorem eql_has_nil (T : TypeId) (v : Value) (W : World) : (binOp .eql 20 (.iface T v) .nilIface).run Tryz.prog W = .ok (.bool false) W := by kernel_rfl
theorem item_has (V : Value) (L C : Int) (W : World) : (Instr.field 127 (.agg #[V, .int .i64 L, .int .i64 C]) 0).run Tryz.prog W = .ok V W := by kernel_rfl
theorem item_place (V : Value) (L C : Int) (W : World) : (Instr.field 127 (.agg #[V, .int .i64 L, .int .i64 C]) 1).run Tryz.prog W = .ok (.agg #[.int .i64 L, .int .i64 C]) W := by kernel_rfl
theorem more_form (c : Cu) : c.more = (match c.left.head? with | some _ => true | none => false) := by
  unfold Cu.more
  cases c.left <;> rfl
set_option maxRecDepth 100000 in
theorem more_any (g : Nat) (c : Cu) (w : World) (h : CurC w g c) : Calls Tryz.prog 77 #[.pointer (some ⟨g, 0, none⟩)] w fun e w' => e = .returned (.bool c.more) ∧ Below w.heap.size w w' := by
  have N := Lib.hid (now_any g c w h)
  rw [more_form]
  clear h
  cases ho : c.left.head? with
  | none =>
    rw [ho] at N
    simp only [itemV, hasO] at N ⊢
    clear ho
    have hn := neq_nil_nil
    have hf := item_has
    go_enter Tryz.func77, Tryz.ntmps77
    go_wp2_with fail
    refine N.out.mono ?_
    rintro e w1 ⟨rfl, hb⟩
    have HB := Lib.hid hb
    clear hb N
    go_wp2
    go_ret
    exact ⟨rfl, HB.out⟩
  | some x =>
    obtain ⟨T, v, hv⟩ := has_iface x
    rw [ho] at N
    simp only [itemV, hasO, hv] at N ⊢
    clear ho hv
    have hn := neq_has_nil
    have hf := item_has
    go_enter Tryz.func77, Tryz.ntmps77
    go_wp2_with fail
    refine N.out.mono ?_
    rintro e w1 ⟨rfl, hb⟩
    have HB := Lib.hid hb
    clear hb N
    go_wp2
    go_ret
    exact ⟨rfl, HB.out⟩
end Go.Proofs.YtkfplffcegbdfaaGreatDoor
