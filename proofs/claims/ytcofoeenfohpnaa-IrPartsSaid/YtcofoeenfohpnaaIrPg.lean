/-
  Appending to a row of the call's own, exactly: where there is room, the same block grows; where there is none, a new block is laid and all else stays. Rows that lie apart. No condition beyond those that each theorem states.
-/
import Derived.Test.YtcofoeenfohpnaaIrPf
import Derived.ArgAppend
namespace Go.Proofs.Ytcofoeenfohpnaa
open Go.RowKit

/-- What an append does to a value and to the world. -/
def StepI (w w' : World) (v v' : Value) : Prop :=
  (∃ g n n' cap, v = .slice (some ⟨g, 0, none⟩) n cap ∧ v' = .slice (some ⟨g, 0, none⟩) n' cap ∧ w.grownBy w' (some g)) ∨ (w.grownBy w' none ∧ (v' = v ∨ v'.ownBlock = some w.heap.size))
theorem wpList_append_step {ops : Array Oper} {rest : List Oper} {o : Oper} {a : Act} {w : World} {Q : Exit → Act → World → Prop} (hgd : o.guard = none) (s x : Operand)
    (ho : o.op = .call { callee := .builtin .append, args := #[s, x], argTypes := #[23, 23] }) (base : Nat) (v : Value) (l0 : List Int) (hs : a.eval s = v) (hown : OwnI w base v l0)
    (sa : Option Addr) (c : Nat) (l : List Int) (hx : a.eval x = .slice sa l.length c) (hn : sa = none → c = 0) (hI : IntsW w sa l) (hb : l0.length + l.length ≤ 2000000) (hbase : base ≤ w.heap.size)
    (h : ∀ v' w', OwnI w' base v' (l0 ++ l) → StepI w w' v v' → wpList Try.prog ops Q rest (a.put o.dst v') w') : wpList Try.prog ops Q (o :: rest) a w := by
  obtain ⟨i0, hi0, hz0, hz1, hz2⟩ := info_parts int_info
  cases sa with
  | none =>
    have hl : l = [] := by
      cases l with
      | nil => rfl
      | cons y l =>
        obtain ⟨g, p, h1, _⟩ := hI 0 y rfl
        cases h1
    subst hl
    rw [hn rfl] at hx
    refine wpList_append_own_none hgd s x _ ho base _ i0 1 Try.underlying23 hi0 v l0.length _ hs hown hx (h v w (by simpa using hown) (.inr ⟨grownBy_same _ _, .inl rfl⟩))
  | some ad =>
    refine wpList_plain hgd fun K hK => ?_
    have hnews : ∀ (j : Nat) (u : Value), (l.map (Value.int .i64))[j]? = some u → w.cell? (ad.add j) = some u := fun j u hu => by
      rw [List.getElem?_map, Option.map_eq_some_iff] at hu
      obtain ⟨y, hy, rfl⟩ := hu
      obtain ⟨g, p, h1, _, h4⟩ := hI j y hy
      simp only [Option.some.injEq] at h1
      subst h1
      have e : (⟨g, p, none⟩ : Addr).add j = ⟨g, p + j, none⟩ := by
        unfold Addr.add
        split <;> simp_all
      rw [e]
      exact h4
    have hone : ∀ u ∈ l.map (Value.int .i64), u.oneCell' = true := fun u hu => by
      obtain ⟨y, _, rfl⟩ := List.mem_map.1 hu
      rfl
    have hml : l0.length + l.length ≤ maxLen := by simp only [maxLen]; omega
    obtain ⟨v', w', hr, h2, h3, _, h5⟩ := run_append_own_at (P := Try.prog) w base 23 o.type 3 i0 _ 1 8 Try.underlying23 hi0 hz0 hz1 hz2 rfl (by omega) v l0.length _ hown ad l.length c (l.map (Value.int .i64)) (by simp) hnews hone hml (by omega) hbase
    have hS : StepI w w' v v' := by
      rcases hown.2 with ⟨rfl, h0⟩ | ⟨g, cap, cur, rfl, hg, hblk, hle, hmax, hsz, htk⟩
      · refine .inr ⟨h3, ?_⟩
        rcases h5 with h5 | h5
        · rcases h2.2 with ⟨h6, _⟩ | ⟨g', cap', cur', h6, _⟩
          · exact .inl h6
          · rw [h6] at h5
            cases h5
        · exact .inr h5
      · have hgs : g < w.heap.size := (Array.getElem?_eq_some_iff.1 hblk).1
        by_cases hroom : l0.length + l.length ≤ cap
        · have hrun := run_append_room_cells (P := Try.prog) w 23 o.type 3 i0 Try.underlying23 hi0 g 0 l0.length cap ad l.length c (l.map (Value.int .i64)) (by simp [hz1]) hnews hone hroom (fun j hj => by
            rw [cell_of_row w g _ cur _ (0, 0) hblk, hz1]
            have : l0.length + j < cur.size := by rw [hsz]; simp at hj; omega
            simp [this]) (fun j hj => Blk.free hblk _)
          rw [hrun] at hr
          injection hr with e1 e2
          subst e1
          exact .inl ⟨g, _, _, cap, rfl, rfl, h3⟩
        · obtain ⟨v2, w2, hr2, ho2, hg2⟩ := run_append_arg_grows (P := Try.prog) w 23 o.type 3 i0 _ 1 8 Try.underlying23 hi0 hz0 hz1 hz2 rfl (by omega) ⟨g, 0, none⟩ l0.length cap (l0.map (Value.int .i64)) (by simp) (fun j u hu => by
            have hj : j < l0.length := by have := (List.getElem?_eq_some_iff.1 hu).1; simpa using this
            have e : (⟨g, 0, none⟩ : Addr).add j = ⟨g, 0 + j, none⟩ := by
              unfold Addr.add
              split <;> simp_all
            rw [e, cell_of_row w g _ cur _ (0, 0) hblk, ← hu, ← htk, Nat.zero_add, List.getElem?_take_of_lt (by omega)]
            simp) ad l.length c (l.map (Value.int .i64)) (by simp) hnews (by omega) hml (by omega)
          rw [hr2] at hr
          injection hr with e1 e2
          subst e1
          subst e2
          refine .inr ⟨hg2, .inr ?_⟩
          rcases h5 with h5 | h5
          · have h6 := (World.ownsRow.lt ho2 g h5).1
            omega
          · exact h5
    unfold Oper.wp execOp
    simp only [ho, resolve, invoke, builtin, Sem.run_bind, Sem.run_pure, Result.andThen_ok, List.map_toArray, List.map_cons, List.map_nil, hs, hx, hr]
    refine hK _ _ (h v' w' ?_ hS)
    unfold OwnI
    rw [List.length_append, List.map_append]
    exact h2
end Go.Proofs.Ytcofoeenfohpnaa
