/-
  The document's test for a sign answers what the plain function says. No condition beyond those that each theorem states.
  The document's test for a blank answers what the plain function says. No condition.
  A row of the document's words that a call made. No condition beyond those that each theorem states.
-/
import Derived.Test.YtkfplffcegbdfaaRef1
import Derived.Test.YtkfplffcegbdfaaRead1
namespace Go.Proofs.Ytkfplffcegbdfaa
open Go.RowKit

theorem rsign_any (r : Int) (w : World) : Calls Try.prog 66 #[.int .i32 r] w fun e w' => e = .returned (.bool (signB r)) ∧ w = w' := by
  by_cases h0 : r = 61
  · go_enter Try.func66, Try.ntmps66
    go_wp2
    go_ret
    refine ⟨ret_bool ?_, rfl⟩
    simp [signB, h0]
  by_cases h1 : r = 44
  · go_enter Try.func66, Try.ntmps66
    go_wp2
    go_ret
    refine ⟨ret_bool ?_, rfl⟩
    simp [signB, h1]
  by_cases h2 : r = 58
  · go_enter Try.func66, Try.ntmps66
    go_wp2
    go_ret
    refine ⟨ret_bool ?_, rfl⟩
    simp [signB, h2]
  by_cases h3 : r = 40
  · go_enter Try.func66, Try.ntmps66
    go_wp2
    go_ret
    refine ⟨ret_bool ?_, rfl⟩
    simp [signB, h3]
  by_cases h4 : r = 41
  · go_enter Try.func66, Try.ntmps66
    go_wp2
    go_ret
    refine ⟨ret_bool ?_, rfl⟩
    simp [signB, h4]
  by_cases h5 : r = 91
  · go_enter Try.func66, Try.ntmps66
    go_wp2
    go_ret
    refine ⟨ret_bool ?_, rfl⟩
    simp [signB, h5]
  by_cases h6 : r = 93
  · go_enter Try.func66, Try.ntmps66
    go_wp2
    go_ret
    refine ⟨ret_bool ?_, rfl⟩
    simp [signB, h6]
  by_cases h7 : r = 43
  · go_enter Try.func66, Try.ntmps66
    go_wp2
    go_ret
    refine ⟨ret_bool ?_, rfl⟩
    simp [signB, h7]
  by_cases h8 : r = 8594
  · go_enter Try.func66, Try.ntmps66
    go_wp2
    go_ret
    refine ⟨ret_bool ?_, rfl⟩
    simp [signB, h8]
  by_cases h9 : r = 8592
  · go_enter Try.func66, Try.ntmps66
    go_wp2
    go_ret
    refine ⟨ret_bool ?_, rfl⟩
    simp [signB, h9]
  go_enter Try.func66, Try.ntmps66
  go_wp2
  go_ret
  refine ⟨ret_bool ?_, rfl⟩
  simp [signB, h0, h1, h2, h3, h4, h5, h6, h7, h8, h9]
end Go.Proofs.Ytkfplffcegbdfaa
namespace Go.Proofs.Ytkfplffcegbdfaa
open Go.RowKit

theorem blank_any (r : Int) (w : World) : Calls Try.prog 61 #[.int .i32 r] w fun e w' => e = .returned (.bool (decide (r = 32 ∨ r = 9))) ∧ w = w' := by
  by_cases h : r = 32
  all_goals
    go_enter Try.func61, Try.ntmps61
    go_wp2
    go_ret
    refine ⟨ret_bool ?_, rfl⟩
    simp [h]
end Go.Proofs.Ytkfplffcegbdfaa
namespace Go.Proofs.Ytkfplffcegbdfaa
open Go.RowKit

theorem rword_info : (Try.prog.info? 84).map (fun i => (i.zero, i.size, i.bytes)) = some (some (.agg #[.int .i64 0, .string noText, .int .i64 0, .int .i64 0, .int .i64 0]), 5, 48) := by kernel_rfl
/-- The words so far. -/
def Outs (w : World) (B : Nat) (v : Value) (ws : List Wd) : Prop := w.ownsRow B 84 5 v ws.length (ws.flatMap flatW)
theorem Outs.more {w2 : World} {B gg cap : Nat} {ws : List Wd} {x : Wd} (h : w2.ownsRow B 84 5 (.slice (some ⟨gg, 0, none⟩) (ws.length + 1) cap) (ws.length + 1) (ws.flatMap flatW ++ flatW x)) :
    Outs w2 B (.slice (some ⟨gg, 0, none⟩) (ws.length + 1) cap) (ws ++ [x]) := by
  unfold Outs
  rw [List.length_append, List.flatMap_append]
  simpa using h
end Go.Proofs.Ytkfplffcegbdfaa
