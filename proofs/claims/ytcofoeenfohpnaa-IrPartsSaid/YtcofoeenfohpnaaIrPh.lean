/-
  Rows of numbers that lie apart: what an append, a store, a new block leave of them. No condition beyond those that each theorem states.
-/
import Derived.Test.YtcofoeenfohpnaaIrPg
namespace Go.Proofs.Ytcofoeenfohpnaa
open Go.RowKit

/-- Two rows share no block. -/
def Off (u v : Value) : Prop := ∀ b, u.ownBlock = some b → v.ownBlock ≠ some b
/-- A row and one that has grown out of it: they share their block, room and all, or none. -/
def Grew (u v : Value) : Prop := (∃ g n m cap, u = .slice (some ⟨g, 0, none⟩) n cap ∧ v = .slice (some ⟨g, 0, none⟩) m cap) ∨ Off u v
theorem Off.symm {u v : Value} (h : Off u v) : Off v u := fun b h1 h2 => h b h2 h1
theorem own_grown {w w' : World} {B : Nat} {v : Value} {l : List Int} {row : Option Nat} (h : OwnI w B v l) (hg : w.grownBy w' row) (hr : ∀ b, v.ownBlock = some b → some b ≠ row) : OwnI w' B v l := by
  obtain ⟨h1, h2⟩ := h
  refine ⟨h1, ?_⟩
  rcases h2 with h2 | ⟨g, cap, cur, rfl, hB, hh, r⟩
  · exact .inl h2
  · exact .inr ⟨g, cap, cur, rfl, hB, (hg.block g (Array.getElem?_eq_some_iff.1 hh).1 (hr g rfl)).trans hh, r⟩
/-- A row that an append does not touch. -/
theorem own_step {w w' : World} {B : Nat} {u v v' : Value} {l : List Int} (h : OwnI w B u l) (hs : StepI w w' v v') (ho : Off u v) : OwnI w' B u l ∧ Off u v' := by
  rcases hs with ⟨g, n, n', cap, rfl, rfl, hg⟩ | ⟨hg, hv⟩
  · refine ⟨own_grown h hg (fun b hb e => ho b hb e.symm), fun b hb => ho b hb⟩
  · refine ⟨own_grown h hg (fun b _ => by simp), ?_⟩
    rcases hv with rfl | hv
    · exact ho
    · intro b hb e
      rw [hv] at e
      injection e with e
      have := (World.ownsRow.lt h b hb).2
      omega
/-- The row out of which one grows. -/
theorem own_step_self {w w' : World} {B : Nat} {u v v' : Value} {l x : List Int} (h : OwnI w B u l) (hs : StepI w w' v v') (hr : Grew u v) (hv' : OwnI w' B v' (l ++ x)) : OwnI w' B u l ∧ Grew u v' := by
  rcases hr with ⟨g, n, m, cap, rfl, rfl⟩ | ho
  · rcases hs with ⟨g1, n1, n', cap1, he, rfl, hg⟩ | ⟨hg, hv⟩
    · injection he with he1 he2 he3
      injection he1 with he1
      injection he1 with he1
      subst he1
      subst he3
      refine ⟨?_, .inl ⟨g, n, n', cap, rfl, rfl⟩⟩
      obtain ⟨h1, h2⟩ := h
      obtain ⟨h3, h4⟩ := hv'
      refine ⟨h1, ?_⟩
      rcases h2 with ⟨h2, _⟩ | ⟨g2, cap2, cur2, e2, hB2, hh2, hle2, hmax2, _⟩
      · cases h2
      rcases h4 with ⟨h4, _⟩ | ⟨g4, cap4, cur4, e4, hB4, hh4, hle4, hmax4, hsz4, htk4⟩
      · cases h4
      injection e2 with e21 e22 e23
      injection e21 with e21
      injection e21 with e21
      injection e4 with e41 e42 e43
      injection e41 with e41
      injection e41 with e41
      subst e21
      subst e23
      subst e41
      subst e43
      subst e22
      refine .inr ⟨g, cap, cur4, rfl, hB4, hh4, hle2, hmax2, hsz4, ?_⟩
      have := congrArg (List.take (l.length * 1)) htk4
      rw [List.take_take, List.map_append, List.take_left' (by simp)] at this
      rw [← this]
      congr 1
      simp
    · refine ⟨own_grown h hg (fun b _ => by simp), ?_⟩
      rcases hv with rfl | hv
      · exact .inl ⟨g, n, m, cap, rfl, rfl⟩
      · refine .inr fun b hb e => ?_
        rw [hv] at e
        injection e with e
        have := (World.ownsRow.lt h b hb).2
        omega
  · obtain ⟨h1, h2⟩ := own_step h hs ho
    exact ⟨h1, .inr h2⟩
/-- One number of a row is stored. -/
theorem own_store {w : World} {B g cap n : Nat} {l : List Int} (h : OwnI w B (.slice (some ⟨g, 0, none⟩) n cap) l) (i : Nat) (x : Int) (_hi : i < l.length) : OwnI (w.setCell ⟨g, i, none⟩ (.int .i64 x)) B (.slice (some ⟨g, 0, none⟩) n cap) (l.set i x) := by
  obtain ⟨h1, h2⟩ := h
  rcases h2 with ⟨h2, _⟩ | ⟨g2, cap2, cur2, e2, hB2, hh2, hle2, hmax2, hsz2, htk2⟩
  · cases h2
  injection e2 with e21 e22 e23
  injection e21 with e21
  injection e21 with e21
  subst e21
  subst e23
  subst e22
  refine ⟨by simp, .inr ⟨g, cap, cur2.setIfInBounds i (.int .i64 x), by simp, hB2, Blk.put hh2 i _, by simpa using hle2, hmax2, by simpa using hsz2, ?_⟩⟩
  rw [Array.toList_setIfInBounds, List.length_set, List.map_set, ← htk2, List.take_set]
/-- A store elsewhere. -/
theorem own_far_store {w : World} {B : Nat} {v : Value} {l : List Int} (h : OwnI w B v l) (g i : Nat) (u : Value) (hg : v.ownBlock ≠ some g) : OwnI (w.setCell ⟨g, i, none⟩ u) B v l := own_put h (fun e => hg e.symm) u
end Go.Proofs.Ytcofoeenfohpnaa
