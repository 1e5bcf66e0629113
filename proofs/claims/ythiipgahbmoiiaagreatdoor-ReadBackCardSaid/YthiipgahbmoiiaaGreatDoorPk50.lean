/-
  What has a value at the begin of each block, gone through until nothing changes. No condition beyond those that each theorem states.
-/
import Derived.Test.YthiipgahbmoiiaaGreatDoorPk47
import Derived.Test.YthiipgahbmoiiaaGreatDoorPk49
namespace Go.Proofs.YthiipgahbmoiiaaGreatDoor
open Go.RowKit

/-- Without the last one. -/
theorem OwnI.pop {w : World} {B : Nat} {v : Value} {l : List Int} {x : Int} (h : OwnI w B v (l ++ [x])) : ∃ g cap, v = .slice (some ⟨g, 0, none⟩) (l.length + 1) cap ∧ B ≤ g ∧ g < w.heap.size ∧ l.length + 1 ≤ cap ∧ cap ≤ maxLen ∧ w.cell? ⟨g, l.length, none⟩ = some (.int .i64 x) ∧ OwnI w B (.slice (some ⟨g, 0, none⟩) l.length cap) l := by
  have h0 := h
  unfold OwnI at h
  obtain ⟨h1, h2 | ⟨g, cap, cur, rfl, hg, hh, hc, hm, hs, ht⟩⟩ := h
  · have := h2.2
    simp at this
  · have hlen : (l ++ [x]).length = l.length + 1 := by simp
    rw [hlen] at hc ht ⊢
    refine ⟨g, cap, rfl, hg, Blk.lt hh, hc, hm, ?_, by simp, .inr ⟨g, cap, cur, rfl, hg, hh, by omega, hm, hs, ?_⟩⟩
    · have hB : Blk w g 3 cur := hh
      rw [hB.cell]
      have e : (cur.toList.take ((l.length + 1) * 1))[l.length]? = ((l ++ [x]).map (Value.int .i64))[l.length]? := by rw [ht]
      rw [List.getElem?_take, if_pos (by omega)] at e
      simpa using e
    · have e : (cur.toList.take ((l.length + 1) * 1)).take (l.length * 1) = ((l ++ [x]).map (Value.int .i64)).take (l.length * 1) := by rw [ht]
      rw [List.take_take, Nat.min_eq_left (by omega)] at e
      rw [e]
      simp
/-- One state alone lies there. -/
theorem Held.same {w : World} {A0 R0 C0 GA GR B n : Nat} {cv cv' : Value} {s s' : St} (h : Held w A0 R0 C0 GA GR B n cv s) (h' : Held w A0 R0 C0 GA GR B n cv' s') (h1 : s.at_.length = n) (h1' : s'.at_.length = n) (hl : ∀ b, s.atN b < 2 ^ 256) (hl' : ∀ b, s'.atN b < 2 ^ 256) : s = s' := by
  have e1 : setsC s.at_ = setsC s'.at_ := by
    have a := h.hGA
    have b := h'.hGA
    unfold Blk at a b
    rw [a] at b
    injection b with b
    injection b with b
  have e2 : truC s.rd = truC s'.rd := by
    have a := h.hGR
    have b := h'.hGR
    unfold Blk at a b
    rw [a] at b
    injection b with b
    injection b with b
  have e3 : cv = cv' := by
    have a := h.hC
    have b := h'.hC
    unfold Blk at a b
    rw [a] at b
    injection b with b
    injection b with b
    simpa using b
  subst e3
  obtain ⟨at1, rd1, ch1⟩ := s
  obtain ⟨at2, rd2, ch2⟩ := s'
  simp only at h1 h1' e1 e2
  have f1 : at1 = at2 := by
    apply List.ext_getElem?
    intro b
    by_cases hb : b < n
    · have key : ∀ j, j < 4 → wordM (at1.getD b 0) j = wordM (at2.getD b 0) j := fun j hj => by
        have a := setsC_get (l := at1) (b := b) (by omega) hj
        rw [e1, setsC_get (by omega) hj] at a
        simp only [Option.some.injEq, Value.int.injEq, true_and] at a
        omega
      have := words_same (hl b) (hl' b) (key 0 (by omega)) (key 1 (by omega)) (key 2 (by omega)) (key 3 (by omega))
      unfold St.atN at this
      simp only [List.getD_eq_getElem?_getD] at this
      rw [List.getElem?_eq_getElem (by omega), List.getElem?_eq_getElem (by omega)] at this ⊢
      simpa using this
    · rw [List.getElem?_eq_none (by omega), List.getElem?_eq_none (by omega)]
  have f2 : rd1 = rd2 := by
    unfold truC at e2
    have := congrArg Array.toList e2
    simp only at this
    exact List.map_inj_right (fun a b h => by injection h) |>.1 this
  have f3 : ch1 = ch2 := by
    have a := h.own
    have b := h'.own
    unfold OwnI at a b
    simp only [List.length_map] at a b
    obtain ⟨a1, a2⟩ := a
    obtain ⟨b1, b2⟩ := b
    have key : (ch1.map (fun c : Nat => (c : Int))).map (Value.int .i64) = (ch2.map (fun c : Nat => (c : Int))).map (Value.int .i64) := by
      rcases a2 with ⟨ha, ha0⟩ | ⟨g, cap, cur, ha, _, hh, _, _, _, ht⟩
      · rcases b2 with ⟨hb, hb0⟩ | ⟨g', cap', cur', hb, _⟩
        · have p1 : ch1 = [] := List.length_eq_zero_iff.1 ha0
          have p2 : ch2 = [] := List.length_eq_zero_iff.1 hb0
          rw [p1, p2]
        · rw [ha] at hb
          cases hb
      · rcases b2 with ⟨hb, hb0⟩ | ⟨g', cap', cur', hb, _, hh', _, _, _, ht'⟩
        · rw [ha] at hb
          cases hb
        · rw [ha] at hb
          simp only [Value.slice.injEq, Option.some.injEq, Addr.mk.injEq] at hb
          obtain ⟨⟨rfl, _⟩, hn, _⟩ := hb
          rw [hh] at hh'
          injection hh' with hh'
          injection hh' with hh'
          rw [← ht, ← ht', hh', hn]
    rw [List.map_map, List.map_map] at key
    refine (List.map_inj_right (fun a b hab => ?_)).1 key
    simp at hab
    omega
  rw [f1, f2, f3]
end Go.Proofs.YthiipgahbmoiiaaGreatDoor
