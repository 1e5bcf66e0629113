/-
  The walk of the statement LineEnds: it answers true and turns nothing that was there. No condition.
-/
import Derived.Test.YtfnmkgfaoacnpaaLEnds
namespace Go.Proofs.Ytfnmkgfaoacnpaa
open Go.RowKit

theorem ends_texts (w : World) : ∀ k : Nat, k < 15 → ∃ s : ByteArray, (w.alloc (.cells #[.string ⟨#[]⟩, .string ⟨#[10]⟩, .string ⟨#[10, 10]⟩, .string ⟨#[97]⟩, .string ⟨#[97, 10]⟩, .string ⟨#[10, 10, 97, 10, 10, 59, 120, 10, 98, 10]⟩, .string ⟨#[53]⟩, .string ⟨#[45, 53]⟩, .string ⟨#[226, 134, 146]⟩, .string ⟨#[61, 32, 61]⟩, .string ⟨#[97, 61, 53]⟩, .string ⟨#[65]⟩, .string ⟨#[49, 32, 50, 10, 51]⟩, .string ⟨#[59, 32, 120]⟩, .string ⟨#[97, 32, 49, 48, 57, 57, 53, 49, 49, 54, 50, 55, 55, 55, 55]⟩] 9)).cell? ⟨w.heap.size, k, none⟩ = some (.string s) ∧ s.size ≤ 100 := by
  intro k hk
  have hb : Blk (w.alloc (.cells #[.string ⟨#[]⟩, .string ⟨#[10]⟩, .string ⟨#[10, 10]⟩, .string ⟨#[97]⟩, .string ⟨#[97, 10]⟩, .string ⟨#[10, 10, 97, 10, 10, 59, 120, 10, 98, 10]⟩, .string ⟨#[53]⟩, .string ⟨#[45, 53]⟩, .string ⟨#[226, 134, 146]⟩, .string ⟨#[61, 32, 61]⟩, .string ⟨#[97, 61, 53]⟩, .string ⟨#[65]⟩, .string ⟨#[49, 32, 50, 10, 51]⟩, .string ⟨#[59, 32, 120]⟩, .string ⟨#[97, 32, 49, 48, 57, 57, 53, 49, 49, 54, 50, 55, 55, 55, 55]⟩] 9)) w.heap.size 9 #[.string ⟨#[]⟩, .string ⟨#[10]⟩, .string ⟨#[10, 10]⟩, .string ⟨#[97]⟩, .string ⟨#[97, 10]⟩, .string ⟨#[10, 10, 97, 10, 10, 59, 120, 10, 98, 10]⟩, .string ⟨#[53]⟩, .string ⟨#[45, 53]⟩, .string ⟨#[226, 134, 146]⟩, .string ⟨#[61, 32, 61]⟩, .string ⟨#[97, 61, 53]⟩, .string ⟨#[65]⟩, .string ⟨#[49, 32, 50, 10, 51]⟩, .string ⟨#[59, 32, 120]⟩, .string ⟨#[97, 32, 49, 48, 57, 57, 53, 49, 49, 54, 50, 55, 55, 55, 55]⟩] := Blk.new _ _ _
  rw [hb.cell k]
  match k, hk with
      | 0, _ => exact ⟨_, rfl, by decide⟩
      | 1, _ => exact ⟨_, rfl, by decide⟩
      | 2, _ => exact ⟨_, rfl, by decide⟩
      | 3, _ => exact ⟨_, rfl, by decide⟩
      | 4, _ => exact ⟨_, rfl, by decide⟩
      | 5, _ => exact ⟨_, rfl, by decide⟩
      | 6, _ => exact ⟨_, rfl, by decide⟩
      | 7, _ => exact ⟨_, rfl, by decide⟩
      | 8, _ => exact ⟨_, rfl, by decide⟩
      | 9, _ => exact ⟨_, rfl, by decide⟩
      | 10, _ => exact ⟨_, rfl, by decide⟩
      | 11, _ => exact ⟨_, rfl, by decide⟩
      | 12, _ => exact ⟨_, rfl, by decide⟩
      | 13, _ => exact ⟨_, rfl, by decide⟩
      | 14, _ => exact ⟨_, rfl, by decide⟩
def flatG (x : Gt) : List Value := [.int .i64 x.what, .int .i64 x.least, .int .i64 x.most, .string x.s, .string x.t]
theorem flatG_at (xs : List Gt) (k j : Nat) (hj : j < 5) : (xs.flatMap flatG)[k * 5 + j]? = (xs[k]?).bind (fun x => (flatG x)[j]?) := by
  induction xs generalizing k with
  | nil => simp
  | cons x xs ih =>
    cases k with
    | zero =>
      simp only [List.flatMap_cons, Nat.zero_mul, Nat.zero_add, List.getElem?_cons_zero, Option.bind_some]
      rw [List.getElem?_append_left (by simp [flatG]; omega)]
    | succ k =>
      have e : (k + 1) * 5 + j = (flatG x).length + (k * 5 + j) := by simp [flatG]; omega
      rw [List.flatMap_cons, e, List.getElem?_append_right (by omega), Nat.add_sub_cancel_left, ih k]
      simp
theorem gets_blk {w : World} {g : Nat} {cs : Array Value} (pre : List Gt) {l : List Gt} (hb : Blk w g 46 cs) (hc : cs.toList = (pre ++ l).flatMap flatG) : GetsAt w (some ⟨g, pre.length * 5, none⟩) l := fun k x hx => by
  have f : ∀ j, j < 5 → w.cell? ⟨g, pre.length * 5 + k * 5 + j, none⟩ = (flatG x)[j]? := fun j hj => by
    rw [hb.cell, ← Array.getElem?_toList, hc, show pre.length * 5 + k * 5 + j = (pre.length + k) * 5 + j by omega, flatG_at _ _ j hj, List.getElem?_append_right (by omega), Nat.add_sub_cancel_left, hx]
    rfl
  exact ⟨g, pre.length * 5, rfl, hb.lt, f 0 (by omega), f 1 (by omega), f 2 (by omega), f 3 (by omega), f 4 (by omega)⟩
theorem first_gets (s : ByteArray) (hs : s.size ≤ 100) (k : Nat) (wr : World) : Calls Try.prog 5 #[.string s, .slice (some ⟨wr.heap.size, 0, none⟩) 5 5] (wr.alloc (.cells #[.int .i64 ((k : Int) % 8), .int .i64 ((k : Int) % 7), .int .i64 5, .string ⟨#[97]⟩, .string ⟨#[61]⟩, .int .i64 ((k : Int) / 8), .int .i64 (-5), .int .i64 (4 + (k : Int) % 3), .string ⟨#[61]⟩, .string ⟨#[226, 134, 146]⟩, .int .i64 5, .int .i64 0, .int .i64 0, .string ⟨#[]⟩, .string ⟨#[]⟩, .int .i64 2, .int .i64 0, .int .i64 0, .string ⟨#[]⟩, .string ⟨#[]⟩, .int .i64 ((k : Int) % 5), .int .i64 0, .int .i64 0, .string ⟨#[97]⟩, .string ⟨#[]⟩] 46)).drew fun e w' => e = .returned (.bool true) ∧ Below (wr.alloc (.cells #[.int .i64 ((k : Int) % 8), .int .i64 ((k : Int) % 7), .int .i64 5, .string ⟨#[97]⟩, .string ⟨#[61]⟩, .int .i64 ((k : Int) / 8), .int .i64 (-5), .int .i64 (4 + (k : Int) % 3), .string ⟨#[61]⟩, .string ⟨#[226, 134, 146]⟩, .int .i64 5, .int .i64 0, .int .i64 0, .string ⟨#[]⟩, .string ⟨#[]⟩, .int .i64 2, .int .i64 0, .int .i64 0, .string ⟨#[]⟩, .string ⟨#[]⟩, .int .i64 ((k : Int) % 5), .int .i64 0, .int .i64 0, .string ⟨#[97]⟩, .string ⟨#[]⟩] 46)).heap.size (wr.alloc (.cells #[.int .i64 ((k : Int) % 8), .int .i64 ((k : Int) % 7), .int .i64 5, .string ⟨#[97]⟩, .string ⟨#[61]⟩, .int .i64 ((k : Int) / 8), .int .i64 (-5), .int .i64 (4 + (k : Int) % 3), .string ⟨#[61]⟩, .string ⟨#[226, 134, 146]⟩, .int .i64 5, .int .i64 0, .int .i64 0, .string ⟨#[]⟩, .string ⟨#[]⟩, .int .i64 2, .int .i64 0, .int .i64 0, .string ⟨#[]⟩, .string ⟨#[]⟩, .int .i64 ((k : Int) % 5), .int .i64 0, .int .i64 0, .string ⟨#[97]⟩, .string ⟨#[]⟩] 46)) w' := by
  have hb : Blk (wr.alloc (.cells #[.int .i64 ((k : Int) % 8), .int .i64 ((k : Int) % 7), .int .i64 5, .string ⟨#[97]⟩, .string ⟨#[61]⟩, .int .i64 ((k : Int) / 8), .int .i64 (-5), .int .i64 (4 + (k : Int) % 3), .string ⟨#[61]⟩, .string ⟨#[226, 134, 146]⟩, .int .i64 5, .int .i64 0, .int .i64 0, .string ⟨#[]⟩, .string ⟨#[]⟩, .int .i64 2, .int .i64 0, .int .i64 0, .string ⟨#[]⟩, .string ⟨#[]⟩, .int .i64 ((k : Int) % 5), .int .i64 0, .int .i64 0, .string ⟨#[97]⟩, .string ⟨#[]⟩] 46)).drew wr.heap.size 46 #[.int .i64 ((k : Int) % 8), .int .i64 ((k : Int) % 7), .int .i64 5, .string ⟨#[97]⟩, .string ⟨#[61]⟩, .int .i64 ((k : Int) / 8), .int .i64 (-5), .int .i64 (4 + (k : Int) % 3), .string ⟨#[61]⟩, .string ⟨#[226, 134, 146]⟩, .int .i64 5, .int .i64 0, .int .i64 0, .string ⟨#[]⟩, .string ⟨#[]⟩, .int .i64 2, .int .i64 0, .int .i64 0, .string ⟨#[]⟩, .string ⟨#[]⟩, .int .i64 ((k : Int) % 5), .int .i64 0, .int .i64 0, .string ⟨#[97]⟩, .string ⟨#[]⟩] := Blk.new _ _ _
  have h := gets_any s [⟨(k : Int) % 8, (k : Int) % 7, 5, ⟨#[97]⟩, ⟨#[61]⟩⟩, ⟨(k : Int) / 8, -5, 4 + (k : Int) % 3, ⟨#[61]⟩, ⟨#[226, 134, 146]⟩⟩, ⟨5, 0, 0, ⟨#[]⟩, ⟨#[]⟩⟩, ⟨2, 0, 0, ⟨#[]⟩, ⟨#[]⟩⟩, ⟨(k : Int) % 5, 0, 0, ⟨#[97]⟩, ⟨#[]⟩⟩] _ 5 (wr.alloc (.cells #[.int .i64 ((k : Int) % 8), .int .i64 ((k : Int) % 7), .int .i64 5, .string ⟨#[97]⟩, .string ⟨#[61]⟩, .int .i64 ((k : Int) / 8), .int .i64 (-5), .int .i64 (4 + (k : Int) % 3), .string ⟨#[61]⟩, .string ⟨#[226, 134, 146]⟩, .int .i64 5, .int .i64 0, .int .i64 0, .string ⟨#[]⟩, .string ⟨#[]⟩, .int .i64 2, .int .i64 0, .int .i64 0, .string ⟨#[]⟩, .string ⟨#[]⟩, .int .i64 ((k : Int) % 5), .int .i64 0, .int .i64 0, .string ⟨#[97]⟩, .string ⟨#[]⟩] 46)).drew (by omega) (gets_blk [] hb rfl) (by simp) (fun x hx => by
    simp only [List.mem_cons, List.not_mem_nil, or_false] at hx
    rcases hx with rfl | rfl | rfl | rfl | rfl <;> exact ⟨by simp only; decide, by simp only; decide⟩)
  refine h.mono fun e w' hh => ⟨hh.1, ?_⟩
  have : Below (wr.alloc (.cells #[.int .i64 ((k : Int) % 8), .int .i64 ((k : Int) % 7), .int .i64 5, .string ⟨#[97]⟩, .string ⟨#[61]⟩, .int .i64 ((k : Int) / 8), .int .i64 (-5), .int .i64 (4 + (k : Int) % 3), .string ⟨#[61]⟩, .string ⟨#[226, 134, 146]⟩, .int .i64 5, .int .i64 0, .int .i64 0, .string ⟨#[]⟩, .string ⟨#[]⟩, .int .i64 2, .int .i64 0, .int .i64 0, .string ⟨#[]⟩, .string ⟨#[]⟩, .int .i64 ((k : Int) % 5), .int .i64 0, .int .i64 0, .string ⟨#[97]⟩, .string ⟨#[]⟩] 46)).heap.size (wr.alloc (.cells #[.int .i64 ((k : Int) % 8), .int .i64 ((k : Int) % 7), .int .i64 5, .string ⟨#[97]⟩, .string ⟨#[61]⟩, .int .i64 ((k : Int) / 8), .int .i64 (-5), .int .i64 (4 + (k : Int) % 3), .string ⟨#[61]⟩, .string ⟨#[226, 134, 146]⟩, .int .i64 5, .int .i64 0, .int .i64 0, .string ⟨#[]⟩, .string ⟨#[]⟩, .int .i64 2, .int .i64 0, .int .i64 0, .string ⟨#[]⟩, .string ⟨#[]⟩, .int .i64 ((k : Int) % 5), .int .i64 0, .int .i64 0, .string ⟨#[97]⟩, .string ⟨#[]⟩] 46)) (wr.alloc (.cells #[.int .i64 ((k : Int) % 8), .int .i64 ((k : Int) % 7), .int .i64 5, .string ⟨#[97]⟩, .string ⟨#[61]⟩, .int .i64 ((k : Int) / 8), .int .i64 (-5), .int .i64 (4 + (k : Int) % 3), .string ⟨#[61]⟩, .string ⟨#[226, 134, 146]⟩, .int .i64 5, .int .i64 0, .int .i64 0, .string ⟨#[]⟩, .string ⟨#[]⟩, .int .i64 2, .int .i64 0, .int .i64 0, .string ⟨#[]⟩, .string ⟨#[]⟩, .int .i64 ((k : Int) % 5), .int .i64 0, .int .i64 0, .string ⟨#[97]⟩, .string ⟨#[]⟩] 46)).drew := (Below.refl _ _).drew
  exact this.trans hh.2
theorem second_gets (s : ByteArray) (hs : s.size ≤ 100) (k : Nat) (wr w1 : World) (h1 : Below (wr.alloc (.cells #[.int .i64 ((k : Int) % 8), .int .i64 ((k : Int) % 7), .int .i64 5, .string ⟨#[97]⟩, .string ⟨#[61]⟩, .int .i64 ((k : Int) / 8), .int .i64 (-5), .int .i64 (4 + (k : Int) % 3), .string ⟨#[61]⟩, .string ⟨#[226, 134, 146]⟩, .int .i64 5, .int .i64 0, .int .i64 0, .string ⟨#[]⟩, .string ⟨#[]⟩, .int .i64 2, .int .i64 0, .int .i64 0, .string ⟨#[]⟩, .string ⟨#[]⟩, .int .i64 ((k : Int) % 5), .int .i64 0, .int .i64 0, .string ⟨#[97]⟩, .string ⟨#[]⟩] 46)).heap.size (wr.alloc (.cells #[.int .i64 ((k : Int) % 8), .int .i64 ((k : Int) % 7), .int .i64 5, .string ⟨#[97]⟩, .string ⟨#[61]⟩, .int .i64 ((k : Int) / 8), .int .i64 (-5), .int .i64 (4 + (k : Int) % 3), .string ⟨#[61]⟩, .string ⟨#[226, 134, 146]⟩, .int .i64 5, .int .i64 0, .int .i64 0, .string ⟨#[]⟩, .string ⟨#[]⟩, .int .i64 2, .int .i64 0, .int .i64 0, .string ⟨#[]⟩, .string ⟨#[]⟩, .int .i64 ((k : Int) % 5), .int .i64 0, .int .i64 0, .string ⟨#[97]⟩, .string ⟨#[]⟩] 46)) w1) : Calls Try.prog 5 #[.string s, .slice (some ⟨wr.heap.size, 10, none⟩) 3 3] w1 fun e w' => e = .returned (.bool true) ∧ Below (wr.alloc (.cells #[.int .i64 ((k : Int) % 8), .int .i64 ((k : Int) % 7), .int .i64 5, .string ⟨#[97]⟩, .string ⟨#[61]⟩, .int .i64 ((k : Int) / 8), .int .i64 (-5), .int .i64 (4 + (k : Int) % 3), .string ⟨#[61]⟩, .string ⟨#[226, 134, 146]⟩, .int .i64 5, .int .i64 0, .int .i64 0, .string ⟨#[]⟩, .string ⟨#[]⟩, .int .i64 2, .int .i64 0, .int .i64 0, .string ⟨#[]⟩, .string ⟨#[]⟩, .int .i64 ((k : Int) % 5), .int .i64 0, .int .i64 0, .string ⟨#[97]⟩, .string ⟨#[]⟩] 46)).heap.size (wr.alloc (.cells #[.int .i64 ((k : Int) % 8), .int .i64 ((k : Int) % 7), .int .i64 5, .string ⟨#[97]⟩, .string ⟨#[61]⟩, .int .i64 ((k : Int) / 8), .int .i64 (-5), .int .i64 (4 + (k : Int) % 3), .string ⟨#[61]⟩, .string ⟨#[226, 134, 146]⟩, .int .i64 5, .int .i64 0, .int .i64 0, .string ⟨#[]⟩, .string ⟨#[]⟩, .int .i64 2, .int .i64 0, .int .i64 0, .string ⟨#[]⟩, .string ⟨#[]⟩, .int .i64 ((k : Int) % 5), .int .i64 0, .int .i64 0, .string ⟨#[97]⟩, .string ⟨#[]⟩] 46)) w' := by
  have hb : Blk (wr.alloc (.cells #[.int .i64 ((k : Int) % 8), .int .i64 ((k : Int) % 7), .int .i64 5, .string ⟨#[97]⟩, .string ⟨#[61]⟩, .int .i64 ((k : Int) / 8), .int .i64 (-5), .int .i64 (4 + (k : Int) % 3), .string ⟨#[61]⟩, .string ⟨#[226, 134, 146]⟩, .int .i64 5, .int .i64 0, .int .i64 0, .string ⟨#[]⟩, .string ⟨#[]⟩, .int .i64 2, .int .i64 0, .int .i64 0, .string ⟨#[]⟩, .string ⟨#[]⟩, .int .i64 ((k : Int) % 5), .int .i64 0, .int .i64 0, .string ⟨#[97]⟩, .string ⟨#[]⟩] 46)) wr.heap.size 46 #[.int .i64 ((k : Int) % 8), .int .i64 ((k : Int) % 7), .int .i64 5, .string ⟨#[97]⟩, .string ⟨#[61]⟩, .int .i64 ((k : Int) / 8), .int .i64 (-5), .int .i64 (4 + (k : Int) % 3), .string ⟨#[61]⟩, .string ⟨#[226, 134, 146]⟩, .int .i64 5, .int .i64 0, .int .i64 0, .string ⟨#[]⟩, .string ⟨#[]⟩, .int .i64 2, .int .i64 0, .int .i64 0, .string ⟨#[]⟩, .string ⟨#[]⟩, .int .i64 ((k : Int) % 5), .int .i64 0, .int .i64 0, .string ⟨#[97]⟩, .string ⟨#[]⟩] := Blk.new _ _ _
  have h := gets_any s [⟨5, 0, 0, ⟨#[]⟩, ⟨#[]⟩⟩, ⟨2, 0, 0, ⟨#[]⟩, ⟨#[]⟩⟩, ⟨(k : Int) % 5, 0, 0, ⟨#[97]⟩, ⟨#[]⟩⟩] _ 3 w1 (by omega) (gets_blk [⟨(k : Int) % 8, (k : Int) % 7, 5, ⟨#[97]⟩, ⟨#[61]⟩⟩, ⟨(k : Int) / 8, -5, 4 + (k : Int) % 3, ⟨#[61]⟩, ⟨#[226, 134, 146]⟩⟩] (hb.below h1 hb.lt) rfl) (by simp) (fun x hx => by
    simp only [List.mem_cons, List.not_mem_nil, or_false] at hx
    rcases hx with rfl | rfl | rfl <;> exact ⟨by simp only; decide, by simp only; decide⟩)
  exact h.mono fun e w' hh => ⟨hh.1, h1.trans (hh.2.mono h1.size)⟩
set_option maxHeartbeats 4000000 in
set_option maxRecDepth 100000 in
theorem lends_any (w : World) : Calls Try.prog 6 #[] w fun e w' => e = .returned (.bool true) ∧ Below w.heap.size w w' := by
  have TX := Lib.hid (ends_texts w)
  have B0 : Hid (Below w.heap.size w (w.alloc (.cells #[.string ⟨#[]⟩, .string ⟨#[10]⟩, .string ⟨#[10, 10]⟩, .string ⟨#[97]⟩, .string ⟨#[97, 10]⟩, .string ⟨#[10, 10, 97, 10, 10, 59, 120, 10, 98, 10]⟩, .string ⟨#[53]⟩, .string ⟨#[45, 53]⟩, .string ⟨#[226, 134, 146]⟩, .string ⟨#[61, 32, 61]⟩, .string ⟨#[97, 61, 53]⟩, .string ⟨#[65]⟩, .string ⟨#[49, 32, 50, 10, 51]⟩, .string ⟨#[59, 32, 120]⟩, .string ⟨#[97, 32, 49, 48, 57, 57, 53, 49, 49, 54, 50, 55, 55, 55, 55]⟩] 9))) := (Below.refl _ w).alloc (Nat.le_refl _) _
  have hz : w.heap.size < (w.alloc (.cells #[.string ⟨#[]⟩, .string ⟨#[10]⟩, .string ⟨#[10, 10]⟩, .string ⟨#[97]⟩, .string ⟨#[97, 10]⟩, .string ⟨#[10, 10, 97, 10, 10, 59, 120, 10, 98, 10]⟩, .string ⟨#[53]⟩, .string ⟨#[45, 53]⟩, .string ⟨#[226, 134, 146]⟩, .string ⟨#[61, 32, 61]⟩, .string ⟨#[97, 61, 53]⟩, .string ⟨#[65]⟩, .string ⟨#[49, 32, 50, 10, 51]⟩, .string ⟨#[59, 32, 120]⟩, .string ⟨#[97, 32, 49, 48, 57, 57, 53, 49, 49, 54, 50, 55, 55, 55, 55]⟩] 9)).heap.size := by simp
  go_enter Try.func6, Try.ntmps6
  go_wp2_with fail
  generalize (w.alloc (.cells #[.string ⟨#[]⟩, .string ⟨#[10]⟩, .string ⟨#[10, 10]⟩, .string ⟨#[97]⟩, .string ⟨#[97, 10]⟩, .string ⟨#[10, 10, 97, 10, 10, 59, 120, 10, 98, 10]⟩, .string ⟨#[53]⟩, .string ⟨#[45, 53]⟩, .string ⟨#[226, 134, 146]⟩, .string ⟨#[61, 32, 61]⟩, .string ⟨#[97, 61, 53]⟩, .string ⟨#[65]⟩, .string ⟨#[49, 32, 50, 10, 51]⟩, .string ⟨#[59, 32, 120]⟩, .string ⟨#[97, 32, 49, 48, 57, 57, 53, 49, 49, 54, 50, 55, 55, 55, 55]⟩] 9)) = w0 at *
  go_loopw [2] (fun i wr => ∃ j : Nat, i = .int .i64 j ∧ j ≤ 15 ∧ Below w0.heap.size w0 wr) (fun i _ => 15 - (intOf i).toNat)
  case atStart => exact ⟨0, rfl, by omega, Below.refl _ _⟩
  case round =>
    obtain ⟨j, rfl, hj, hb⟩ := hrel
    have HB := Lib.hid hb
    clear hb
    by_cases hlt : j < 15
    · have hlt' : (j : Int) < 15 := by omega
      obtain ⟨s, hs, hsz⟩ := TX.out j hlt
      have HS := Lib.hid hs
      clear hs
      go_wp2
      go_loopw [3] (fun i wr => ∃ k : Nat, i = .int .i64 k ∧ k ≤ 64 ∧ Below w0.heap.size w0 wr) (fun i _ => 64 - (intOf i).toNat)
      case atStart => exact ⟨0, rfl, by omega, HB.out⟩
      case round =>
        obtain ⟨k, rfl, hk, hb2⟩ := hrel
        have HB2 := Lib.hid hb2
        have n0 := (hb2.cell (p := ⟨w.heap.size, j, none⟩) hz).trans HS.out
        clear hb2
        by_cases hkl : k < 64
        · have hkl' : (k : Int) < 64 := by omega
          have hk0 : (0 : Int) ≤ k := by omega
          have K1 := Lib.hid (first_gets s hsz k wr)
          have K2 := Lib.hid (fun w1 h1 => second_gets s hsz k wr w1 h1)
          have hzz : w0.heap.size ≤ wr.heap.size := HB2.out.size
          have BW : Hid (Below w0.heap.size w0 (wr.alloc (.cells #[.int .i64 ((k : Int) % 8), .int .i64 ((k : Int) % 7), .int .i64 5, .string ⟨#[97]⟩, .string ⟨#[61]⟩, .int .i64 ((k : Int) / 8), .int .i64 (-5), .int .i64 (4 + (k : Int) % 3), .string ⟨#[61]⟩, .string ⟨#[226, 134, 146]⟩, .int .i64 5, .int .i64 0, .int .i64 0, .string ⟨#[]⟩, .string ⟨#[]⟩, .int .i64 2, .int .i64 0, .int .i64 0, .string ⟨#[]⟩, .string ⟨#[]⟩, .int .i64 ((k : Int) % 5), .int .i64 0, .int .i64 0, .string ⟨#[97]⟩, .string ⟨#[]⟩] 46))) := HB2.out.alloc HB2.out.size _
          have CX : Hid (∀ w1, Below (wr.alloc (.cells #[.int .i64 ((k : Int) % 8), .int .i64 ((k : Int) % 7), .int .i64 5, .string ⟨#[97]⟩, .string ⟨#[61]⟩, .int .i64 ((k : Int) / 8), .int .i64 (-5), .int .i64 (4 + (k : Int) % 3), .string ⟨#[61]⟩, .string ⟨#[226, 134, 146]⟩, .int .i64 5, .int .i64 0, .int .i64 0, .string ⟨#[]⟩, .string ⟨#[]⟩, .int .i64 2, .int .i64 0, .int .i64 0, .string ⟨#[]⟩, .string ⟨#[]⟩, .int .i64 ((k : Int) % 5), .int .i64 0, .int .i64 0, .string ⟨#[97]⟩, .string ⟨#[]⟩] 46)).heap.size (wr.alloc (.cells #[.int .i64 ((k : Int) % 8), .int .i64 ((k : Int) % 7), .int .i64 5, .string ⟨#[97]⟩, .string ⟨#[61]⟩, .int .i64 ((k : Int) / 8), .int .i64 (-5), .int .i64 (4 + (k : Int) % 3), .string ⟨#[61]⟩, .string ⟨#[226, 134, 146]⟩, .int .i64 5, .int .i64 0, .int .i64 0, .string ⟨#[]⟩, .string ⟨#[]⟩, .int .i64 2, .int .i64 0, .int .i64 0, .string ⟨#[]⟩, .string ⟨#[]⟩, .int .i64 ((k : Int) % 5), .int .i64 0, .int .i64 0, .string ⟨#[97]⟩, .string ⟨#[]⟩] 46)) w1 → w1.cell? ⟨w.heap.size, j, none⟩ = some (.string s)) := fun w1 h1 => by
            have h2 : Below w0.heap.size w0 w1 := BW.out.trans (h1.mono BW.out.size)
            exact (h2.cell (p := ⟨w.heap.size, j, none⟩) hz).trans HS.out
          have hlw : w.heap.size < wr.heap.size := by omega
          go_wp2_with fail
          generalize (wr.alloc (.cells #[.int .i64 ((k : Int) % 8), .int .i64 ((k : Int) % 7), .int .i64 5, .string ⟨#[97]⟩, .string ⟨#[61]⟩, .int .i64 ((k : Int) / 8), .int .i64 (-5), .int .i64 (4 + (k : Int) % 3), .string ⟨#[61]⟩, .string ⟨#[226, 134, 146]⟩, .int .i64 5, .int .i64 0, .int .i64 0, .string ⟨#[]⟩, .string ⟨#[]⟩, .int .i64 2, .int .i64 0, .int .i64 0, .string ⟨#[]⟩, .string ⟨#[]⟩, .int .i64 ((k : Int) % 5), .int .i64 0, .int .i64 0, .string ⟨#[97]⟩, .string ⟨#[]⟩] 46)) = wl at *
          clear n0 HB2
          have nl : wl.cell? ⟨w.heap.size, j, none⟩ = some (.string s) := CX.out wl (Below.refl _ _)
          go_region_with (first
            | (go_at_call 5; refine (K2.out _ H1.out).mono ?_; rintro e w2 ⟨rfl, h2⟩; have H2 := Lib.hid h2; clear h2)
            | (go_at_call 5; refine K1.out.mono ?_; rintro e w1 ⟨rfl, h1⟩; have H1 := Lib.hid h1; have n1 := CX.out w1 h1; clear h1))
          all_goals
            have H3 : Hid (Below w0.heap.size w0 w2) := BW.out.trans (H2.out.mono BW.out.size)
            go_wp2
            go_roundw
            case rel => exact ⟨k + 1, by go_num, by omega, H3.out⟩
            case measure => simp [intOf]; omega
        · have hkl' : ¬ (k : Int) < 64 := by omega
          have hkl2 : (64 : Int) ≤ k := by omega
          go_wp2
          go_roundw
          case rel => exact ⟨j + 1, by go_num, by omega, HB2.out⟩
          case measure => simp [intOf]; omega
    · have hlt' : ¬ (j : Int) < 15 := by omega
      have hlt2 : (15 : Int) ≤ j := by omega
      go_wp2_with fail
      refine (none_any _).mono ?_
      rintro e w3 ⟨rfl, hb3⟩
      have H3 : Hid (Below w.heap.size w w3) := B0.out.trans ((HB.out.trans (hb3.mono HB.out.size)).mono B0.out.size)
      clear hb3
      go_wp2_with fail
      refine (awakeL_any _).mono ?_
      rintro e w4 ⟨rfl, hb4⟩
      have H4 := Lib.hid (H3.out.trans (hb4.mono H3.out.size))
      clear hb4
      go_wp2
      go_ret
      exact ⟨rfl, H4.out⟩
end Go.Proofs.Ytfnmkgfaoacnpaa
