/-
  The statements of package line: how many letters calls have. No condition beyond those that each theorem states.
-/
import Derived.Test.YtfnmkgfaoacnpaaGet
namespace Go.Proofs.Ytfnmkgfaoacnpaa
open Go.RowKit

/-- Thing number k that is got lies in five cells. -/
def GetsAt (w : World) (a : Option Addr) (l : List Gt) : Prop := ∀ k x, l[k]? = some x → ∃ g o, a = some ⟨g, o, none⟩ ∧ g < w.heap.size ∧
  w.cell? ⟨g, o + k * 5, none⟩ = some (.int .i64 x.what) ∧ w.cell? ⟨g, o + k * 5 + 1, none⟩ = some (.int .i64 x.least) ∧ w.cell? ⟨g, o + k * 5 + 2, none⟩ = some (.int .i64 x.most) ∧
  w.cell? ⟨g, o + k * 5 + 3, none⟩ = some (.string x.s) ∧ w.cell? ⟨g, o + k * 5 + 4, none⟩ = some (.string x.t)
theorem GetsAt.below {w w' : World} {a : Option Addr} {l : List Gt} (h : GetsAt w a l) (hb : Below w.heap.size w w') : GetsAt w' a l := fun k x hx => by
  obtain ⟨g, o, ha, hg, h0, h1, h2, h3, h4⟩ := h k x hx
  exact ⟨g, o, ha, Nat.lt_of_lt_of_le hg hb.size, (hb.cell hg).trans h0, (hb.cell hg).trans h1, (hb.cell hg).trans h2, (hb.cell hg).trans h3, (hb.cell hg).trans h4⟩
/-- Calls and letters, about: what the statement counts. -/
def totG (l : List Gt) (k : Nat) : Nat := l.length + ((l.take k).map (fun x => x.s.size + x.t.size)).sum
theorem totG_next {l : List Gt} {k : Nat} {x : Gt} (h : l[k]? = some x) : totG l (k + 1) = totG l k + x.s.size + x.t.size := by
  unfold totG
  rw [List.take_add_one, h]
  simp
  omega
/-- Where counting ends. -/
def Counted (l : List Gt) (j : Nat) : Prop := j ≤ l.length ∧ (j = l.length ∨ 3000 < totG l j) ∧ totG l j ≤ 1000000000000000
set_option maxHeartbeats 1000000 in
set_option maxRecDepth 100000 in
theorem size_any (l : List Gt) (a : Option Addr) (c : Nat) (w : World) (hC : GetsAt w a l) (hl : l.length ≤ 140737488355328) (hs : ∀ x ∈ l, x.s.size ≤ 140737488355328 ∧ x.t.size ≤ 140737488355328) :
    Calls Try.prog 16 #[.slice a l.length c] w fun e w' => ∃ j d : Nat, e = .returned (.int .i64 (totG l j)) ∧ Counted l j ∧ w' = w.drewN d := by
  have HC := Lib.hid hC
  have HS := Lib.hid hs
  clear hC hs
  go_enter Try.func16, Try.ntmps16
  go_wp2
  go_loopw [3, 4] (fun n k wr => ∃ j d : Nat, n = .int .i64 (totG l j) ∧ k = .int .i64 j ∧ j ≤ l.length ∧ totG l j ≤ 1000000000000000 ∧ wr = w.drewN d) (fun _ k _ => l.length - (intOf k).toNat)
  case atStart => exact ⟨0, 0, by simp [totG], rfl, Nat.zero_le _, by simp [totG]; omega, rfl⟩
  case round =>
    obtain ⟨j, d, rfl, rfl, hj, hb, rfl⟩ := hrel
    by_cases hlt : j < l.length
    · by_cases hn : totG l j ≤ 3000
      · have hlt' : (j : Int) < l.length := by omega
        have hn' : (totG l j : Int) ≤ 3000 := by omega
        obtain ⟨x, hx⟩ : ∃ x, l[j]? = some x := ⟨_, List.getElem?_eq_getElem hlt⟩
        obtain ⟨g, o, rfl, hg, n0, n1, n2, n3, n4⟩ := HC.out j x hx
        have hxs := HS.out x (List.mem_of_getElem? hx)
        have HX := Lib.hid (totG_next hx)
        have hj0 : (0 : Int) ≤ j := by omega
        clear hx n0 n1 n2
        obtain ⟨x1, x2⟩ := hxs
        generalize totG l j = T at *
        go_wp2_with fail
        go_quiet (fail)
        go_wp2
        go_roundw
        case rel => exact ⟨j + 1, _, by have := HX.out; simp; omega, by go_num, by omega, by have := HX.out; omega, rfl⟩
        case measure => simp [intOf]; omega
      · have hn' : ¬ (totG l j : Int) ≤ 3000 := by omega
        have hn2 : (3000 : Int) < totG l j := by omega
        have hlt' : (j : Int) < l.length := by omega
        go_wp2
        go_ret
        exact ⟨j, rfl, ⟨hj, .inr (by omega), hb⟩, d, rfl⟩
    · have e : j = l.length := by omega
      subst e
      go_wp2
      go_ret
      exact ⟨l.length, d, rfl, ⟨Nat.le_refl _, .inl rfl, hb⟩, rfl⟩
theorem totG_sizes {l : List Gt} {x : Gt} (h : x ∈ l) : l.length + x.s.size + x.t.size ≤ totG l l.length := by
  obtain ⟨k, hk, hx⟩ := List.getElem_of_mem h
  have h1 := totG_next (l := l) (k := k) (x := x) (by rw [List.getElem?_eq_getElem hk, hx])
  have h2 : totG l (k + 1) ≤ totG l l.length := by
    unfold totG
    have : (l.map (fun x => x.s.size + x.t.size)).sum = ((l.take (k + 1)).map (fun x => x.s.size + x.t.size)).sum + ((l.drop (k + 1)).map (fun x => x.s.size + x.t.size)).sum := by
      rw [← List.sum_append, ← List.map_append, List.take_append_drop]
    rw [List.take_length]
    omega
  have h3 : l.length ≤ totG l k := by unfold totG; omega
  omega
end Go.Proofs.Ytfnmkgfaoacnpaa
