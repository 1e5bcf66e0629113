/-
  A cut within a region: its first operations, then what is left, once. No condition beyond those that each theorem states.
-/
import Derived.Test.YtbckkmicdpjnaaaDoorKit
namespace Go.Proofs.YtbckkmicdpjnaaaDoor
open Go.RowKit

section
variable {P : Program} {ops : Array Oper} {Q : Exit → Act → World → Prop}
/-- Behind the first operations: what is known there; every other way out is the whole's. -/
def CutQ (R : Act → World → Prop) (Q : Exit → Act → World → Prop) (e : Exit) (a : Act) (w : World) : Prop := match e with
  | .normal => R a w
  | e => Q e a w
theorem wp_cut {R : Act → World → Prop} {o : Oper} {a : Act} {w : World} {K K' : Act → World → Prop} (h : ∀ a w, K a w → K' a w) (hout : LetsOut (CutQ R Q) → LetsOut Q) (hh : o.wp P a w K (CutQ R Q)) : o.wp P a w K' Q := by
  unfold Oper.wp at *
  generalize (execOp a.eval o).run P w = r at *
  cases r with
  | ok n w' =>
    cases n <;> simp only [Oper.upon] at hh ⊢ <;>
      first
        | exact h _ _ hh
        | exact Calls.mono hh (fun e w'' he => by cases e <;> first | exact h _ _ he | exact hout he | exact he)
        | exact Rows.mono hh (fun _ _ he => h _ _ he)
  | halt x w' => cases x <;> simp only [Oper.upon] at hh ⊢ <;> exact hh
theorem wpList_cuts (R : Act → World → Prop) {l2 : List Oper} (h2 : ∀ a w, R a w → wpList P ops Q l2 a w) : ∀ (l1 : List Oper) (a : Act) (w : World), wpList P ops (CutQ R Q) l1 a w → wpList P ops Q (l1 ++ l2) a w
  | [], a, w, h => h2 a w h
  | o :: l1, a, w, h => by
    unfold wpList at h
    show wpList P ops Q (o :: (l1 ++ l2)) a w
    unfold wpList
    have hout : LetsOut (CutQ R Q) → LetsOut Q := fun ⟨a, w, h⟩ => ⟨a, w, h⟩
    split
    · rename_i hw
      rw [if_pos hw] at h
      exact h.imp (wp_cut (fun a w => wpList_cuts R h2 l1 a w) hout) (fun ⟨h3, h4⟩ => ⟨h3, hout h4⟩)
    · rename_i hw
      rw [if_neg hw] at h
      exact wpList_cuts R h2 l1 _ _ h
theorem wpList_cut (n : Nat) (R : Act → World → Prop) {l : List Oper} {a : Act} {w : World} (h1 : wpList P ops (CutQ R Q) (l.take n) a w) (h2 : ∀ a w, R a w → wpList P ops Q (l.drop n) a w) : wpList P ops Q l a w := by
  have := wpList_cuts R h2 (l.take n) a w h1
  rwa [List.take_append_drop] at this
end
end Go.Proofs.YtbckkmicdpjnaaaDoor
