/-
  Of no cursor, a nil one or a new one, each call tells what the chapter says, and turns nothing that was there. No condition beyond those that each theorem states.
-/
import Derived.Test.YtfnmkgfaoacnpaaAwakeL
namespace Go.Proofs.Ytfnmkgfaoacnpaa
open Go.RowKit

/-- No cursor: none, or one that Over did not tell. -/
def NoC (w : World) (p : Value) : Prop := p = .pointer none ∨ ∃ g, p = .pointer (some ⟨g, 0, none⟩) ∧ Blk w g 84 #[.slice none 0 0, .pointer none, .int .i64 0, .int .i64 0, .int .i64 0]
theorem NoC.below {w w' : World} {p : Value} (h : NoC w p) (hb : Below w.heap.size w w') : NoC w' p := by
  rcases h with h | ⟨g, h, hk⟩
  · exact .inl h
  · exact .inr ⟨g, h, hk.below hb hk.lt⟩
theorem eql_nil_some (a : Addr) (W : World) : (binOp .eql 39 (.pointer none) (.pointer (some a))).run Try.prog W = .ok (.bool false) W := by kernel_rfl
set_option maxRecDepth 100000 in
theorem told_no (p : Value) (w : World) (h : NoC w p) : Calls Try.prog 62 #[p] w fun e w' => e = .returned (.bool false) ∧ w = w' := by
  rcases h with rfl | ⟨g, rfl, hb⟩
  · go_enter Try.func62, Try.ntmps62
    go_wp2
    go_ret
    exact ⟨rfl, rfl⟩
  · have m1 : w.cell? ⟨g, 1, none⟩ = some (.pointer none) := hb.cell 1
    have hpe := fun W : World => eql_nil_some ⟨g, 0, none⟩ W
    clear hb
    go_enter Try.func62, Try.ntmps62
    go_wp2
    go_ret
    exact ⟨rfl, rfl⟩
set_option maxRecDepth 100000 in
theorem now_no (p : Value) (w : World) (h : NoC w p) : Calls Try.prog 64 #[p] w fun e w' => e = .returned (itemV none) ∧ Below w.heap.size w w' := by
  have hb0 : Below w.heap.size w (w.alloc (.cells #[.nilIface, .int .i64 0, .int .i64 0] 90)) := (Below.refl _ w).alloc (Nat.le_refl _) _
  have T := Lib.hid (told_no p _ (h.below hb0))
  have HB := Lib.hid hb0
  clear h hb0
  go_enter Try.func64, Try.ntmps64
  go_wp2_with fail
  refine T.out.mono ?_
  rintro e w1 ⟨rfl, rfl⟩
  go_wp2
  refine bodyPost_ret (v := itemV none) (by simp [results, Try.results64, go_sem, itemV, hasO, lineO, colO]) rfl ⟨rfl, ?_⟩
  exact HB.out
theorem over_no (p : Value) (w : World) : Calls Try.prog 65 #[p, .bool false] w fun e w' => e = .returned (.bool false) ∧ w = w' := by
  go_enter Try.func65, Try.ntmps65
  go_wp2
  go_ret
  exact ⟨rfl, rfl⟩
theorem fail_no (p : Value) (ee : Int) (w : World) (h : NoC w p) : Calls Try.prog 30 #[p, .int .i64 ee] w fun e w' => e = .returned (.tuple #[]) ∧ w = w' := by
  have T := Lib.hid (told_no p w h)
  clear h
  go_enter Try.func30, Try.ntmps30
  go_wp2_with fail
  refine T.out.mono ?_
  rintro e w1 ⟨rfl, rfl⟩
  go_wp2
  exact bodyPost_ret (results_none rfl _ _ _) rfl ⟨rfl, rfl⟩
theorem err_no (p : Value) (w : World) (h : NoC w p) : Calls Try.prog 23 #[p] w fun e w' => e = .returned (.tuple #[.int .i64 0, .int .i64 0, .int .i64 1]) ∧ w = w' := by
  have T := Lib.hid (told_no p w h)
  clear h
  go_enter Try.func23, Try.ntmps23
  go_wp2_with fail
  refine T.out.mono ?_
  rintro e w1 ⟨rfl, rfl⟩
  go_wp2
  go_ret3
  exact ⟨rfl, rfl⟩
theorem key_no (p : Value) (s : ByteArray) (w : World) (h : NoC w p) : Calls Try.prog 54 #[p, .string s] w fun e w' => e = .returned (.bool false) ∧ Below w.heap.size w w' := by
  have N := Lib.hid (now_no p w h)
  clear h
  go_enter Try.func54, Try.ntmps54
  go_wp2_with fail
  refine N.out.mono ?_
  rintro e w1 ⟨rfl, hb1⟩
  have HB1 := Lib.hid hb1
  clear hb1 N
  go_wp2_with fail
  refine (asName_any none w1).mono ?_
  rintro e w2 ⟨rfl, hb2⟩
  have HB2 := Lib.hid (HB1.out.trans (hb2.mono HB1.out.size))
  clear hb2
  simp only [nameP]
  go_wp2_with fail
  refine (over_no p w2).mono ?_
  rintro e w3 ⟨rfl, rfl⟩
  go_wp2
  go_ret
  exact ⟨rfl, HB2.out⟩
theorem is_no (p : Value) (s : ByteArray) (w : World) (h : NoC w p) : Calls Try.prog 28 #[p, .string s] w fun e w' => e = .returned (.bool false) ∧ Below w.heap.size w w' := by
  have N := Lib.hid (now_no p w h)
  clear h
  go_enter Try.func28, Try.ntmps28
  go_wp2_with fail
  refine N.out.mono ?_
  rintro e w1 ⟨rfl, hb1⟩
  have HB1 := Lib.hid hb1
  clear hb1 N
  go_wp2_with fail
  refine (isSignI_any none s w1).mono ?_
  rintro e w2 ⟨rfl, hb2⟩
  have HB2 := Lib.hid (HB1.out.trans (hb2.mono HB1.out.size))
  clear hb2
  simp only [signP]
  go_wp2_with fail
  refine (over_no p w2).mono ?_
  rintro e w3 ⟨rfl, rfl⟩
  go_wp2
  go_ret
  exact ⟨rfl, HB2.out⟩
theorem more_no (p : Value) (w : World) (h : NoC w p) : Calls Try.prog 24 #[p] w fun e w' => e = .returned (.bool false) ∧ Below w.heap.size w w' := by
  have N := Lib.hid (now_no p w h)
  simp only [itemV, hasO] at N
  have hn := neq_nil_nil
  have hf := item_has
  clear h
  go_enter Try.func24, Try.ntmps24
  go_wp2_with fail
  refine N.out.mono ?_
  rintro e w1 ⟨rfl, hb1⟩
  have HB1 := Lib.hid hb1
  clear hb1 N
  go_wp2
  go_ret
  exact ⟨rfl, HB1.out⟩
theorem ends_no (p : Value) (w : World) (h : NoC w p) : Calls Try.prog 49 #[p] w fun e w' => e = .returned (.bool true) ∧ Below w.heap.size w w' := by
  have N := Lib.hid (more_no p w h)
  clear h
  go_enter Try.func49, Try.ntmps49
  go_wp2_with fail
  refine N.out.mono ?_
  rintro e w1 ⟨rfl, hb1⟩
  have HB1 := Lib.hid hb1
  clear hb1 N
  go_wp2
  go_ret
  exact ⟨rfl, HB1.out⟩
theorem peek_no (p : Value) (w : World) (h : NoC w p) : Calls Try.prog 51 #[p] w fun e w' => e = .returned (.string ⟨#[]⟩) ∧ Below w.heap.size w w' := by
  have N := Lib.hid (now_no p w h)
  clear h
  go_enter Try.func51, Try.ntmps51
  go_wp2_with fail
  refine N.out.mono ?_
  rintro e w1 ⟨rfl, hb1⟩
  have HB1 := Lib.hid hb1
  clear hb1 N
  go_wp2_with fail
  refine (asName_any none w1).mono ?_
  rintro e w2 ⟨rfl, hb2⟩
  have HB2 := Lib.hid (HB1.out.trans (hb2.mono HB1.out.size))
  clear hb2
  simp only [nameP]
  go_wp2
  go_ret
  exact ⟨rfl, HB2.out⟩
theorem name_no (p : Value) (w : World) (h : NoC w p) : Calls Try.prog 26 #[p] w fun e w' => e = .returned (.string ⟨#[]⟩) ∧ Below w.heap.size w w' := by
  have N := Lib.hid (now_no p w h)
  have H := Lib.hid h
  clear h
  go_enter Try.func26, Try.ntmps26
  go_wp2_with fail
  refine N.out.mono ?_
  rintro e w1 ⟨rfl, hb1⟩
  have HB1 := Lib.hid hb1
  have H1 := Lib.hid (H.out.below hb1)
  clear hb1 N
  go_wp2_with fail
  refine (asName_any none w1).mono ?_
  rintro e w2 ⟨rfl, hb2⟩
  have HB2 := Lib.hid (HB1.out.trans (hb2.mono HB1.out.size))
  have H2 := Lib.hid (H1.out.below hb2)
  clear hb2
  simp only [nameP]
  go_wp2_with fail
  refine (over_no p w2).mono ?_
  rintro e w3 ⟨rfl, rfl⟩
  go_wp2_with fail
  refine (fail_no p 7 w2 H2.out).mono ?_
  rintro e w3 ⟨rfl, rfl⟩
  go_wp2
  go_ret
  exact ⟨rfl, HB2.out⟩
theorem num_no (p : Value) (a b : Int) (w : World) (h : NoC w p) : Calls Try.prog 27 #[p, .int .i64 a, .int .i64 b] w fun e w' => e = .returned (.int .i64 0) ∧ Below w.heap.size w w' := by
  have N := Lib.hid (now_no p w h)
  have H := Lib.hid h
  clear h
  go_enter Try.func27, Try.ntmps27
  go_wp2_with fail
  refine N.out.mono ?_
  rintro e w1 ⟨rfl, hb1⟩
  have HB1 := Lib.hid hb1
  have H1 := Lib.hid (H.out.below hb1)
  clear hb1 N
  go_wp2_with fail
  refine (asNumber_any none w1).mono ?_
  rintro e w2 ⟨rfl, hb2⟩
  have HB2 := Lib.hid (HB1.out.trans (hb2.mono HB1.out.size))
  have H2 := Lib.hid (H1.out.below hb2)
  clear hb2
  simp only [numP]
  go_wp2_with fail
  refine (fail_no p 7 w2 H2.out).mono ?_
  rintro e w3 ⟨rfl, rfl⟩
  go_wp2
  go_ret
  exact ⟨rfl, HB2.out⟩
theorem end_no (p : Value) (w : World) (h : NoC w p) : Calls Try.prog 25 #[p] w fun e w' => e = .returned (.tuple #[]) ∧ Below w.heap.size w w' := by
  have N := Lib.hid (now_no p w h)
  have H := Lib.hid h
  clear h
  go_enter Try.func25, Try.ntmps25
  go_wp2_with fail
  refine N.out.mono ?_
  rintro e w1 ⟨rfl, hb1⟩
  have HB1 := Lib.hid hb1
  have H1 := Lib.hid (H.out.below hb1)
  clear hb1 N
  go_wp2_with fail
  refine (isEnd_any none w1).mono ?_
  rintro e w2 ⟨rfl, hb2⟩
  have HB2 := Lib.hid (HB1.out.trans (hb2.mono HB1.out.size))
  have H2 := Lib.hid (H1.out.below hb2)
  clear hb2
  simp only [endP]
  go_wp2_with fail
  refine (over_no p w2).mono ?_
  rintro e w3 ⟨rfl, rfl⟩
  go_wp2_with fail
  refine (more_no p w2 H2.out).mono ?_
  rintro e w3 ⟨rfl, hb3⟩
  have HB3 := Lib.hid (HB2.out.trans (hb3.mono HB2.out.size))
  clear hb3
  go_wp2
  go_end0
  exact ⟨rfl, HB3.out⟩
set_option maxRecDepth 100000 in
theorem mark_no (p : Value) (s : ByteArray) (w : World) (h : NoC w p) : Calls Try.prog 45 #[p, .slice (some ⟨w.heap.size, 0, none⟩) 1 1] (w.alloc (.cells #[.string s] 9)) fun e w' => e = .returned (.tuple #[]) ∧ Below w.heap.size w w' := by
  have hb0 : Below w.heap.size w (w.alloc (.cells #[.string s] 9)) := (Below.refl _ w).alloc (Nat.le_refl _) _
  have H := Lib.hid (h.below hb0)
  have B0 := Lib.hid hb0
  clear h hb0
  go_enter Try.func45, Try.ntmps45
  go_wp2
  go_loopw [8] (fun i wr => i = .int .i64 0 ∧ wr = w.alloc (.cells #[.string s] 9)) (fun i _ => 0)
  case atStart => exact ⟨rfl, rfl⟩
  case round =>
    obtain ⟨rfl, rfl⟩ := hrel
    have n0 : (w.alloc (.cells #[.string s] 9)).cell? ⟨w.heap.size, 0, none⟩ = some (.string s) := by simp
    have I := Lib.hid (is_no p s _ H.out)
    go_wp2_with fail
    refine I.out.mono ?_
    rintro e w1 ⟨rfl, hb1⟩
    have H1 := Lib.hid (H.out.below hb1)
    have B1 := Lib.hid (B0.out.trans (hb1.mono B0.out.size))
    clear hb1
    go_wp2_with fail
    refine (fail_no p 7 w1 H1.out).mono ?_
    rintro e w2 ⟨rfl, rfl⟩
    go_wp2
    exact bodyPost_ret (results_none rfl _ _ _) rfl ⟨rfl, B1.out⟩
end Go.Proofs.Ytfnmkgfaoacnpaa
