/-
  Two cursors that have the same words left, but for their places: each call tells the same of both, and leaves them so. No condition beyond those that each theorem states.
-/
import Derived.Test.YtfnmkgfaoacnpaaBlankS
import Derived.Test.YtfnmkgfaoacnpaaGet
namespace Go.Proofs.Ytfnmkgfaoacnpaa
open Go.RowKit

structure Like (c d : Cu) : Prop where
  fault : c.fault = d.fault
  left : c.left.map keyW = d.left.map keyW
theorem Like.heads {c d : Cu} (h : Like c d) : c.left.head?.map keyW = d.left.head?.map keyW := by
  have := congrArg List.head? h.left
  simpa using this
theorem Like.head {c d : Cu} (h : Like c d) : nameP c.left.head? = nameP d.left.head? ∧ numP c.left.head? = numP d.left.head? ∧ (∀ s, signP c.left.head? s = signP d.left.head? s) ∧ endP c.left.head? = endP d.left.head? := by
  have hh := h.heads
  cases hc : c.left.head? with
  | none =>
    rw [hc] at hh
    cases hd : d.left.head? with
    | none => exact ⟨rfl, rfl, fun _ => rfl, rfl⟩
    | some y => rw [hd] at hh; simp at hh
  | some x =>
    rw [hc] at hh
    cases hd : d.left.head? with
    | none => rw [hd] at hh; simp at hh
    | some y =>
      rw [hd] at hh
      simp only [Option.map_some, Option.some.injEq, keyW, Prod.mk.injEq] at hh
      obtain ⟨h1, h2, h3⟩ := hh
      refine ⟨?_, ?_, fun s => ?_, ?_⟩
      · simp only [nameP, h1, h2]
      · simp only [numP, h1, h3]
      · simp only [signP, h1, h2]
      · simp only [endP, endK, h1]
theorem Like.empty {c d : Cu} (h : Like c d) : c.left = [] ↔ d.left = [] := by
  have := congrArg List.length h.left
  simp only [List.length_map] at this
  rw [← List.length_eq_zero_iff, ← List.length_eq_zero_iff, this]
theorem Like.more {c d : Cu} (h : Like c d) : c.more = d.more := by
  have he := h.empty
  unfold Cu.more
  cases hc : c.left <;> cases hd : d.left <;> simp_all
theorem Like.eErr {c d : Cu} (h : Like c d) : c.eErr = d.eErr := by
  have he := h.empty
  unfold Cu.eErr
  rw [h.fault]
  split
  · rfl
  · cases hc : c.left <;> cases hd : d.left <;> simp_all
theorem Like.pass {c d : Cu} (h : Like c d) : Like c.pass d.pass := ⟨h.fault, by
  show c.left.tail.map keyW = d.left.tail.map keyW
  rw [List.map_tail, List.map_tail, h.left]⟩
theorem Like.fail {c d : Cu} (h : Like c d) (e : Int) : Like (c.fail e) (d.fail e) := by
  unfold Cu.fail
  rw [h.fault]
  split
  · exact h
  · exact ⟨rfl, rfl⟩
theorem Like.over {c d : Cu} (h : Like c d) (b : Bool) : Like (c.over b) (d.over b) := by
  cases b
  · exact h
  · exact h.pass
theorem Like.keyB {c d : Cu} (h : Like c d) (s : ByteArray) : c.keyB s = d.keyB s := by unfold Cu.keyB; rw [h.head.1]
theorem Like.key {c d : Cu} (h : Like c d) (s : ByteArray) : Like (c.key s) (d.key s) := by unfold Cu.key; rw [h.keyB s]; exact h.over _
theorem Like.isB {c d : Cu} (h : Like c d) (s : ByteArray) : c.isB s = d.isB s := h.head.2.2.1 s
theorem Like.is {c d : Cu} (h : Like c d) (s : ByteArray) : Like (c.is s) (d.is s) := by unfold Cu.is; rw [h.isB s]; exact h.over _
theorem Like.nameT {c d : Cu} (h : Like c d) : c.nameT = d.nameT := by unfold Cu.nameT; rw [h.head.1]
theorem Like.name {c d : Cu} (h : Like c d) : Like c.name d.name := by
  unfold Cu.name
  rw [h.head.1]
  split
  · exact h.pass
  · exact h.fail _
theorem Like.numN {c d : Cu} (h : Like c d) (a b : Int) : c.numN a b = d.numN a b := by unfold Cu.numN Cu.numFits; rw [h.head.2.1]
theorem Like.num {c d : Cu} (h : Like c d) (a b : Int) : Like (c.num a b) (d.num a b) := by
  unfold Cu.num Cu.numFits
  rw [h.head.2.1]
  split
  · split
    · exact h.pass
    · exact h.fail _
  · exact h.fail _
theorem Like.mark {c d : Cu} (h : Like c d) : ∀ l, Like (c.mark l) (d.mark l) := fun l => by
  induction l generalizing c d with
  | nil => exact h
  | cons s r ih =>
    unfold Cu.mark
    rw [h.isB s]
    split
    · exact ih (h.is s)
    · exact h.fail _
theorem Like.end_ {c d : Cu} (h : Like c d) : Like c.end_ d.end_ := by
  unfold Cu.end_
  rw [h.head.2.2.2, h.more]
  split
  · exact h.pass
  · split
    · exact h.fail _
    · exact h
/-- What one call of the statement leaves. -/
def Cu.gotA (c : Cu) (x : Gt) : Cu := if pk x.what = 6 then c else c.got x
theorem Like.gotA {c d : Cu} (h : Like c d) (x : Gt) : Like (c.gotA x) (d.gotA x) := by
  unfold Cu.gotA Cu.got
  split
  · exact h
  repeat' split
  · exact h.key _
  · exact h.is _
  · exact h.name
  · exact h.num _ _
  · exact h.mark _
  · exact h.end_
  · exact h
theorem Cu.Ok.gotA {c : Cu} (h : c.Ok) (x : Gt) : (c.gotA x).Ok := by
  unfold Cu.gotA
  split
  · exact h
  · exact h.got x
theorem start_left (s : ByteArray) : (startC s).left = pruned (readWords s) := rfl
theorem start_fault (s : ByteArray) : (startC s).fault = readErr s := rfl
theorem like_start (s : ByteArray) : Like (startC s) (startC (wideB s.data.toList)) := by
  have hb := blank_same s
  have k1 := start_ok s
  have k2 := start_ok (wideB s.data.toList)
  have l1 := start_left s
  have l2 := start_left (wideB s.data.toList)
  have f1 := start_fault s
  have f2 := start_fault (wideB s.data.toList)
  generalize startC s = c at *
  generalize startC (wideB s.data.toList) = d at *
  generalize readWords (wideB s.data.toList) = ww at *
  generalize readErr (wideB s.data.toList) = we at *
  generalize readWords s = sw at *
  generalize readErr s = se at *
  obtain ⟨h1, h2⟩ := hb
  refine ⟨by rw [f1, f2, h1], ?_⟩
  by_cases h : se = 0
  · rw [l1, l2]; exact h2 h
  · rw [k1.gone (by rw [f1]; exact h), k2.gone (by rw [f2, h1]; exact h)]
/-- What is broken tells nothing more. -/
theorem broken_tells {c : Cu} (h : c.Ok) (hf : c.fault ≠ 0) : c.fail 2 = c ∧ c.more = false ∧ c.nameT = ⟨#[]⟩ ∧ c.name = c ∧ c.numN 0 9 = 0 ∧ c.num 0 9 = c ∧ (∀ s, c.isB s = false) ∧ c.eErr ≠ 0 := by
  have hl := h.gone hf
  refine ⟨fail_same (.inr hf), by simp [Cu.more, hl], by simp [Cu.nameT, hl, nameP], ?_, by simp [Cu.numN, hl, numP], ?_, fun s => by simp [Cu.isB, hl, signP], ?_⟩
  · unfold Cu.name; rw [hl]; exact fail_same (.inr hf)
  · unfold Cu.num; rw [hl]; exact fail_same (.inr hf)
  · unfold Cu.eErr; rw [if_pos hf]; exact hf
theorem fail_fault {c : Cu} {e : Int} (he : e ≠ 0) : (c.fail e).fault ≠ 0 := by
  unfold Cu.fail
  split
  · rename_i h
    rcases h with h | h
    · exact absurd h he
    · exact h
  · exact he
/-- One cursor stays while another one goes on. -/
theorem CurC.other {w w' : World} {g q : Nat} {c d : Cu} (h : CurC w g c) (hq : CurC w q d) (hne : g ≠ q) (hk : Keep w.heap.size q w w') : CurC w' g c := by
  obtain ⟨cs, hcs⟩ := hq.blk
  obtain ⟨a, cap, hb, hl, hm, hr⟩ := h
  exact ⟨a, cap, hb.keep hk hne, hl, hm, hr.keep hk hcs (by decide)⟩
end Go.Proofs.Ytfnmkgfaoacnpaa
