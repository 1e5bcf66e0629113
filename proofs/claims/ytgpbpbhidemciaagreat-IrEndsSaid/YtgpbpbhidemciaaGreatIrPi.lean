/-
  Rows of numbers lie apart: the marks. No condition beyond those that each theorem states.
-/
import Derived.Test.YtgpbpbhidemciaaGreatIrPf
import Derived.ArgAppend
import Derived.Deep.QuietTactic
import Derived.BigQuiet
import Derived.Laws.OwnMore
namespace Go.Proofs.YtgpbpbhidemciaaGreat
open Go.RowKit

/-- What an append does to a value and to the world. -/
def StepI (w w' : World) (v v' : Value) : Prop :=
  (∃ g n n' cap, v = .slice (some ⟨g, 0, none⟩) n cap ∧ v' = .slice (some ⟨g, 0, none⟩) n' cap ∧ w.grownBy w' (some g)) ∨ (w.grownBy w' none ∧ (v' = v ∨ v'.ownBlock = some w.heap.size))
theorem wpList_append_step {ops : Array Oper} {rest : List Oper} {o : Oper} {a : Act} {w : World} {Q : Exit → Act → World → Prop} (hgd : o.guard = none) (s x : Operand)
    (ho : o.op = .call { callee := .builtin .append, args := #[s, x], argTypes := #[22, 22] }) (base : Nat) (v : Value) (l0 : List Int) (hs : a.eval s = v) (hown : OwnI w base v l0)
    (sa : Option Addr) (c : Nat) (l : List Int) (hx : a.eval x = .slice sa l.length c) (hn : sa = none → c = 0) (hI : IntsW w sa l) (hb : l0.length + l.length ≤ 2000000) (hbase : base ≤ w.heap.size)
    (h : ∀ v' w', OwnI w' base v' (l0 ++ l) → StepI w w' v v' → wpList Tryz.prog ops Q rest (a.put o.dst v') w') : wpList Tryz.prog ops Q (o :: rest) a w := by
  obtain ⟨i0, hi0, hz0, hz1, hz2⟩ := info_parts int_info
  cases sa with
  | none =>
    have hl : l = [] := by
      cases l with
      | nil => rfl
      | cons y l =>
        obtain ⟨g, p, h1, _⟩ := hI 0 y rfl
        cases h1
    subst hl
    rw [hn rfl] at hx
    refine wpList_append_own_none hgd s x _ ho base _ i0 1 Tryz.underlying22 hi0 v l0.length _ hs hown hx (h v w (by simpa using hown) (.inr ⟨grownBy_same _ _, .inl rfl⟩))
  | some ad =>
    refine wpList_plain hgd fun K hK => ?_
    have hnews : ∀ (j : Nat) (u : Value), (l.map (Value.int .i64))[j]? = some u → w.cell? (ad.add j) = some u := fun j u hu => by
      rw [List.getElem?_map, Option.map_eq_some_iff] at hu
      obtain ⟨y, hy, rfl⟩ := hu
      obtain ⟨g, p, h1, _, h4⟩ := hI j y hy
      simp only [Option.some.injEq] at h1
      subst h1
      have e : (⟨g, p, none⟩ : Addr).add j = ⟨g, p + j, none⟩ := by
        unfold Addr.add
        split <;> simp_all
      rw [e]
      exact h4
    have hone : ∀ u ∈ l.map (Value.int .i64), u.oneCell' = true := fun u hu => by
      obtain ⟨y, _, rfl⟩ := List.mem_map.1 hu
      rfl
    have hml : l0.length + l.length ≤ maxLen := by simp only [maxLen]; omega
    obtain ⟨v', w', hr, h2, h3, _, h5⟩ := run_append_own_at (P := Tryz.prog) w base 22 o.type 3 i0 _ 1 8 Tryz.underlying22 hi0 hz0 hz1 hz2 rfl (by omega) v l0.length _ hown ad l.length c (l.map (Value.int .i64)) (by simp) hnews hone hml (by omega) hbase
    have hS : StepI w w' v v' := by
      rcases hown.2 with ⟨rfl, h0⟩ | ⟨g, cap, cur, rfl, hg, hblk, hle, hmax, hsz, htk⟩
      · refine .inr ⟨h3, ?_⟩
        rcases h5 with h5 | h5
        · rcases h2.2 with ⟨h6, _⟩ | ⟨g', cap', cur', h6, _⟩
          · exact .inl h6
          · rw [h6] at h5
            cases h5
        · exact .inr h5
      · have hgs : g < w.heap.size := (Array.getElem?_eq_some_iff.1 hblk).1
        by_cases hroom : l0.length + l.length ≤ cap
        · have hrun := run_append_room_cells (P := Tryz.prog) w 22 o.type 3 i0 Tryz.underlying22 hi0 g 0 l0.length cap ad l.length c (l.map (Value.int .i64)) (by simp [hz1]) hnews hone hroom (fun j hj => by
            rw [cell_of_row w g _ cur _ (0, 0) hblk, hz1]
            have : l0.length + j < cur.size := by rw [hsz]; simp at hj; omega
            simp [this]) (fun j hj => Blk.free hblk _)
          rw [hrun] at hr
          injection hr with e1 e2
          subst e1
          exact .inl ⟨g, _, _, cap, rfl, rfl, h3⟩
        · obtain ⟨v2, w2, hr2, ho2, hg2⟩ := run_append_arg_grows (P := Tryz.prog) w 22 o.type 3 i0 _ 1 8 Tryz.underlying22 hi0 hz0 hz1 hz2 rfl (by omega) ⟨g, 0, none⟩ l0.length cap (l0.map (Value.int .i64)) (by simp) (fun j u hu => by
            have hj : j < l0.length := by have := (List.getElem?_eq_some_iff.1 hu).1; simpa using this
            have e : (⟨g, 0, none⟩ : Addr).add j = ⟨g, 0 + j, none⟩ := by
              unfold Addr.add
              split <;> simp_all
            rw [e, cell_of_row w g _ cur _ (0, 0) hblk, ← hu, ← htk, Nat.zero_add, List.getElem?_take_of_lt (by omega)]
            simp) ad l.length c (l.map (Value.int .i64)) (by simp) hnews (by omega) hml (by omega)
          rw [hr2] at hr
          injection hr with e1 e2
          subst e1
          subst e2
          refine .inr ⟨hg2, .inr ?_⟩
          rcases h5 with h5 | h5
          · have h6 := (World.ownsRow.lt ho2 g h5).1
            omega
          · exact h5
    unfold Oper.wp execOp
    simp only [ho, resolve, invoke, builtin, Sem.run_bind, Sem.run_pure, Result.andThen_ok, List.map_toArray, List.map_cons, List.map_nil, hs, hx, hr]
    refine hK _ _ (h v' w' ?_ hS)
    unfold OwnI
    rw [List.length_append, List.map_append]
    exact h2
end Go.Proofs.YtgpbpbhidemciaaGreat
namespace Go.Proofs.YtgpbpbhidemciaaGreat
open Go.RowKit

/-- Two rows share no block. -/
def Off (u v : Value) : Prop := ∀ b, u.ownBlock = some b → v.ownBlock ≠ some b
/-- A row and one that has grown out of it: they share their block, room and all, or none. -/
def Grew (u v : Value) : Prop := (∃ g n m cap, u = .slice (some ⟨g, 0, none⟩) n cap ∧ v = .slice (some ⟨g, 0, none⟩) m cap) ∨ Off u v
theorem Off.symm {u v : Value} (h : Off u v) : Off v u := fun b h1 h2 => h b h2 h1
theorem own_grown {w w' : World} {B : Nat} {v : Value} {l : List Int} {row : Option Nat} (h : OwnI w B v l) (hg : w.grownBy w' row) (hr : ∀ b, v.ownBlock = some b → some b ≠ row) : OwnI w' B v l := by
  obtain ⟨h1, h2⟩ := h
  refine ⟨h1, ?_⟩
  rcases h2 with h2 | ⟨g, cap, cur, rfl, hB, hh, r⟩
  · exact .inl h2
  · exact .inr ⟨g, cap, cur, rfl, hB, (hg.block g (Array.getElem?_eq_some_iff.1 hh).1 (hr g rfl)).trans hh, r⟩
/-- A row that an append does not touch. -/
theorem own_step {w w' : World} {B : Nat} {u v v' : Value} {l : List Int} (h : OwnI w B u l) (hs : StepI w w' v v') (ho : Off u v) : OwnI w' B u l ∧ Off u v' := by
  rcases hs with ⟨g, n, n', cap, rfl, rfl, hg⟩ | ⟨hg, hv⟩
  · refine ⟨own_grown h hg (fun b hb e => ho b hb e.symm), fun b hb => ho b hb⟩
  · refine ⟨own_grown h hg (fun b _ => by simp), ?_⟩
    rcases hv with rfl | hv
    · exact ho
    · intro b hb e
      rw [hv] at e
      injection e with e
      have := (World.ownsRow.lt h b hb).2
      omega
/-- The row out of which one grows. -/
theorem own_step_self {w w' : World} {B : Nat} {u v v' : Value} {l x : List Int} (h : OwnI w B u l) (hs : StepI w w' v v') (hr : Grew u v) (hv' : OwnI w' B v' (l ++ x)) : OwnI w' B u l ∧ Grew u v' := by
  rcases hr with ⟨g, n, m, cap, rfl, rfl⟩ | ho
  · rcases hs with ⟨g1, n1, n', cap1, he, rfl, hg⟩ | ⟨hg, hv⟩
    · injection he with he1 he2 he3
      injection he1 with he1
      injection he1 with he1
      subst he1
      subst he3
      refine ⟨?_, .inl ⟨g, n, n', cap, rfl, rfl⟩⟩
      obtain ⟨h1, h2⟩ := h
      obtain ⟨h3, h4⟩ := hv'
      refine ⟨h1, ?_⟩
      rcases h2 with ⟨h2, _⟩ | ⟨g2, cap2, cur2, e2, hB2, hh2, hle2, hmax2, _⟩
      · cases h2
      rcases h4 with ⟨h4, _⟩ | ⟨g4, cap4, cur4, e4, hB4, hh4, hle4, hmax4, hsz4, htk4⟩
      · cases h4
      injection e2 with e21 e22 e23
      injection e21 with e21
      injection e21 with e21
      injection e4 with e41 e42 e43
      injection e41 with e41
      injection e41 with e41
      subst e21
      subst e23
      subst e41
      subst e43
      subst e22
      refine .inr ⟨g, cap, cur4, rfl, hB4, hh4, hle2, hmax2, hsz4, ?_⟩
      have := congrArg (List.take (l.length * 1)) htk4
      rw [List.take_take, List.map_append, List.take_left' (by simp)] at this
      rw [← this]
      congr 1
      simp
    · refine ⟨own_grown h hg (fun b _ => by simp), ?_⟩
      rcases hv with rfl | hv
      · exact .inl ⟨g, n, m, cap, rfl, rfl⟩
      · refine .inr fun b hb e => ?_
        rw [hv] at e
        injection e with e
        have := (World.ownsRow.lt h b hb).2
        omega
  · obtain ⟨h1, h2⟩ := own_step h hs ho
    exact ⟨h1, .inr h2⟩
/-- One number of a row is stored. -/
theorem own_store {w : World} {B g cap n : Nat} {l : List Int} (h : OwnI w B (.slice (some ⟨g, 0, none⟩) n cap) l) (i : Nat) (x : Int) (_hi : i < l.length) : OwnI (w.setCell ⟨g, i, none⟩ (.int .i64 x)) B (.slice (some ⟨g, 0, none⟩) n cap) (l.set i x) := by
  obtain ⟨h1, h2⟩ := h
  rcases h2 with ⟨h2, _⟩ | ⟨g2, cap2, cur2, e2, hB2, hh2, hle2, hmax2, hsz2, htk2⟩
  · cases h2
  injection e2 with e21 e22 e23
  injection e21 with e21
  injection e21 with e21
  subst e21
  subst e23
  subst e22
  refine ⟨by simp, .inr ⟨g, cap, cur2.setIfInBounds i (.int .i64 x), by simp, hB2, Blk.put hh2 i _, by simpa using hle2, hmax2, by simpa using hsz2, ?_⟩⟩
  rw [Array.toList_setIfInBounds, List.length_set, List.map_set, ← htk2, List.take_set]
/-- A store elsewhere. -/
theorem own_far_store {w : World} {B : Nat} {v : Value} {l : List Int} (h : OwnI w B v l) (g i : Nat) (u : Value) (hg : v.ownBlock ≠ some g) : OwnI (w.setCell ⟨g, i, none⟩ u) B v l := own_put h (fun e => hg e.symm) u
end Go.Proofs.YtgpbpbhidemciaaGreat
namespace Go.Proofs.YtgpbpbhidemciaaGreat
open Go.RowKit

structure Rows (w : World) (B n : Nat) (V : Nat → Value) (C : Nat → List Int) : Prop where
  own : ∀ k, k < n → OwnI w B (V k) (C k)
  off : ∀ i k, i < n → k < n → i ≠ k → Off (V i) (V k)
/-- A row whose first numbers are marks. -/
def mixL (k : Int) (l : List Int) (i : Nat) : List Int := markL k i ++ l.drop i
theorem mix_len (k : Int) (l : List Int) {i : Nat} (hi : i ≤ l.length) : (mixL k l i).length = l.length := by
  unfold mixL
  rw [List.length_append, mark_len, List.length_drop]
  omega
theorem mix_zero (k : Int) (l : List Int) : mixL k l 0 = l := by simp [mixL, markL]
theorem mix_all (k : Int) (l : List Int) : mixL k l l.length = markL k l.length := by simp [mixL]
theorem mix_set (k : Int) (l : List Int) {i : Nat} (hi : i < l.length) : (mixL k l i).set i (1000003 * (k + 7) + (i : Int)) = mixL k l (i + 1) := by
  unfold mixL
  rw [List.set_append_right _ _ (by rw [mark_len]; omega), mark_len, Nat.sub_self, List.drop_eq_getElem_cons hi, mark_more, List.append_assoc]
  rfl
/-- How far the marks have come. -/
def doneL (C : Nat → List Int) (k i : Nat) (j : Nat) : List Int := if j < k then markL j (C j).length else if j = k then mixL k (C k) i else C j
theorem done_next (C : Nat → List Int) (k : Nat) : doneL C k (C k).length = doneL C (k + 1) 0 := by
  funext j
  unfold doneL
  by_cases h1 : j < k
  · rw [if_pos h1, if_pos (by omega)]
  · by_cases h2 : j = k
    · subst h2
      rw [if_neg h1, if_pos rfl, if_pos (by omega), mix_all]
    · rw [if_neg h1, if_neg h2, if_neg (by omega)]
      split
      · rename_i h3; subst h3; rw [mix_zero]
      · rfl
theorem done_start (C : Nat → List Int) : doneL C 0 0 = C := by
  funext j
  unfold doneL
  rw [if_neg (by omega)]
  split
  · rename_i h; subst h; rw [mix_zero]
  · rfl
theorem done_len (C : Nat → List Int) {k i : Nat} (hi : i ≤ (C k).length) (j : Nat) : (doneL C k i j).length = (C j).length := by
  unfold doneL
  split
  · rw [mark_len]
  · split
    · rename_i h; subst h; rw [mix_len _ _ hi]
    · rfl
theorem Rows.store {w : World} {B n : Nat} {V : Nat → Value} {C : Nat → List Int} {k i : Nat} (h : Rows w B n V (doneL C k i)) (hk : k < n) (hi : i < (C k).length) {g cap : Nat} (hV : V k = .slice (some ⟨g, 0, none⟩) (C k).length cap) :
    Rows (w.setCell ⟨g, i, none⟩ (.int .i64 (1000003 * ((k : Int) + 7) + (i : Int)))) B n V (doneL C k (i + 1)) := by
  refine ⟨fun j hj => ?_, h.off⟩
  by_cases hjk : j = k
  · subst hjk
    have h1 := h.own j hj
    rw [hV] at h1 ⊢
    have e : ∀ i, doneL C j i j = mixL j (C j) i := fun i => by unfold doneL; rw [if_neg (by omega), if_pos rfl]
    rw [e] at h1 ⊢
    rw [← mix_set _ _ hi]
    exact own_store h1 i _ (by rw [mix_len _ _ (by omega)]; exact hi)
  · have e : doneL C k (i + 1) j = doneL C k i j := by unfold doneL; rw [if_neg hjk, if_neg hjk]
    rw [e]
    exact own_far_store (h.own j hj) g i _ (fun hb => h.off k j hk hj (fun e => hjk e.symm) g (by rw [hV]; rfl) hb)
theorem Rows.drew {w : World} {B n : Nat} {V : Nat → Value} {C : Nat → List Int} (h : Rows w B n V C) : Rows w.drew B n V C := ⟨h.own, h.off⟩
theorem row_info : (Tryz.prog.info? 22).map (fun i => (i.zero, i.size, i.bytes)) = some (some (.slice none 0 0), 1, 24) := by kernel_rfl
/-- Rows that lie apart, and what has grown out of the first m of them. -/
structure Grown2 (w : World) (B n m : Nat) (V U : Nat → Value) (C M : Nat → List Int) : Prop where
  rows : Rows w B n V C
  own : ∀ k, k < m → OwnI w B (U k) (M k)
  grew : ∀ k, k < m → Grew (V k) (U k)
  far : ∀ i k, i < n → k < m → i ≠ k → Off (V i) (U k)
  off : ∀ i k, i < m → k < m → i ≠ k → Off (U i) (U k)
/-- What is about to grow out of the next one. -/
structure Next2 (w : World) (B n m : Nat) (V U : Nat → Value) (v : Value) (l : List Int) : Prop where
  own : OwnI w B v l
  grew : Grew (V m) v
  far : ∀ i, i < n → i ≠ m → Off (V i) v
  off : ∀ i, i < m → Off (U i) v
theorem Grew.same {v : Value} {w : World} {B : Nat} {l : List Int} (h : OwnI w B v l) : Grew v v := by
  rcases h.2 with ⟨rfl, _⟩ | ⟨g, cap, cur, rfl, _⟩
  · exact .inr fun b hb => by cases hb
  · exact .inl ⟨g, _, _, cap, rfl, rfl⟩
theorem Next2.start {w : World} {B n m : Nat} {V U : Nat → Value} {C M : Nat → List Int} (h : Grown2 w B n m V U C M) (hm : m < n) : Next2 w B n m V U (V m) (C m) :=
  ⟨h.rows.own m hm, Grew.same (h.rows.own m hm), fun i hi hne => h.rows.off i m hi hm hne, fun i hi => (h.far m i hm hi (by omega)).symm⟩
theorem Grown2.alloc {w : World} {B n m : Nat} {V U : Nat → Value} {C M : Nat → List Int} (h : Grown2 w B n m V U C M) (o : Obj) : Grown2 (w.alloc o) B n m V U C M :=
  ⟨⟨fun k hk => World.ownsRow.alloc (h.rows.own k hk) o, h.rows.off⟩, fun k hk => World.ownsRow.alloc (h.own k hk) o, h.grew, h.far, h.off⟩
theorem Next2.alloc {w : World} {B n m : Nat} {V U : Nat → Value} {v : Value} {l : List Int} (h : Next2 w B n m V U v l) (o : Obj) : Next2 (w.alloc o) B n m V U v l :=
  ⟨World.ownsRow.alloc h.own o, h.grew, h.far, h.off⟩
theorem Grown2.step {w w' : World} {B n m : Nat} {V U : Nat → Value} {C M : Nat → List Int} {v v' : Value} {l x : List Int} (h : Grown2 w B n m V U C M) (hm : m < n) (hv : Next2 w B n m V U v l) (hl : C m ++ x = l) (hs : StepI w w' v v') {y : List Int} (ho : OwnI w' B v' (l ++ y)) :
    Grown2 w' B n m V U C M ∧ Next2 w' B n m V U v' (l ++ y) := by
  subst hl
  have hself := own_step_self (h.rows.own m hm) hs hv.grew (by rw [List.append_assoc] at ho; exact ho)
  refine ⟨⟨⟨fun k hk => ?_, h.rows.off⟩, fun k hk => (own_step (h.own k hk) hs (hv.off k hk)).1, h.grew, h.far, h.off⟩, ⟨ho, hself.2, fun i hi hne => (own_step (h.rows.own i hi) hs (hv.far i hi hne)).2, fun i hi => (own_step (h.own i hi) hs (hv.off i hi)).2⟩⟩
  by_cases hkm : k = m
  · subst hkm
    exact hself.1
  · exact (own_step (h.rows.own k hk) hs (hv.far k hk hkm)).1
/-- One more has grown. -/
theorem Grown2.more {w : World} {B n m : Nat} {V U : Nat → Value} {C M : Nat → List Int} {v : Value} (h : Grown2 w B n m V U C M) (hv : Next2 w B n m V U v (M m)) : Grown2 w B n (m + 1) V (fun k => if k = m then v else U k) C M := by
  have e1 : ∀ k, k < m → (if k = m then v else U k) = U k := fun k hk => if_neg (by omega)
  have e2 : (if m = m then v else U m) = v := if_pos rfl
  refine ⟨h.rows, fun k hk => ?_, fun k hk => ?_, fun i k hi hk hne => ?_, fun i k hi hk hne => ?_⟩
  · rcases Nat.lt_succ_iff_lt_or_eq.1 hk with hk | rfl
    · rw [e1 k hk]; exact h.own k hk
    · rw [if_pos rfl]; exact hv.own
  · rcases Nat.lt_succ_iff_lt_or_eq.1 hk with hk | rfl
    · rw [e1 k hk]; exact h.grew k hk
    · rw [if_pos rfl]; exact hv.grew
  · rcases Nat.lt_succ_iff_lt_or_eq.1 hk with hk | rfl
    · rw [e1 k hk]; exact h.far i k hi hk hne
    · rw [if_pos rfl]; exact hv.far i hi hne
  · rcases Nat.lt_succ_iff_lt_or_eq.1 hi with hi | rfl
    · rw [e1 i hi]
      rcases Nat.lt_succ_iff_lt_or_eq.1 hk with hk | rfl
      · rw [e1 k hk]; exact h.off i k hi hk hne
      · rw [if_pos rfl]; exact hv.off i hi
    · rw [if_pos rfl]
      rcases Nat.lt_succ_iff_lt_or_eq.1 hk with hk | rfl
      · rw [e1 k hk]; exact (hv.off k hk).symm
      · exact absurd rfl hne
theorem mark_split (k : Int) (a : Nat) : ∀ b : Nat, ∃ x, markL k a ++ x = markL k (a + b)
  | 0 => ⟨[], by simp⟩
  | b + 1 => by
    obtain ⟨x, hx⟩ := mark_split k a b
    exact ⟨x ++ [1000003 * (k + 7) + ((a + b : Nat) : Int)], by rw [← List.append_assoc, hx, ← mark_more]; rfl⟩
theorem blk_step {w w' : World} {g B : Nat} {t : TypeId} {cs : Array Value} {v v' : Value} {l : List Int} (h : Blk w g t cs) (hs : StepI w w' v v') (hv : OwnI w B v l) (ht : 3 ≠ t) : Blk w' g t cs := by
  have hf := own_far hv h ht
  rcases hs with ⟨g1, n, n', cap, rfl, rfl, hg⟩ | ⟨hg, _⟩
  · exact h.grown hg (fun e => hf e)
  · exact h.grown hg (by simp)
theorem below_step {a w w' : World} {B : Nat} {v v' : Value} {l : List Int} (h : Below B a w) (hs : StepI w w' v v') (hv : OwnI w B v l) (hB : B ≤ w.heap.size) : Below B a w' := by
  rcases hs with ⟨g1, n, n', cap, rfl, rfl, hg⟩ | ⟨hg, _⟩
  · exact h.grown hg hB (fun k hk => by
      injection hk with hk
      subst hk
      exact (World.ownsRow.lt hv g1 rfl).1)
  · exact h.grown hg hB (fun k hk => by cases hk)
theorem Grown2.put {w : World} {B n m : Nat} {V U : Nat → Value} {C M : Nat → List Int} (h : Grown2 w B n m V U C M) {G : Nat} {t : TypeId} {gcs : Array Value} (hG : Blk w G t gcs) (ht : 3 ≠ t) (i : Nat) (u : Value) : Grown2 (w.setCell ⟨G, i, none⟩ u) B n m V U C M :=
  ⟨⟨fun k hk => own_put (h.rows.own k hk) (own_far (h.rows.own k hk) hG ht) u, h.rows.off⟩, fun k hk => own_put (h.own k hk) (own_far (h.own k hk) hG ht) u, h.grew, h.far, h.off⟩
theorem Next2.put {w : World} {B n m : Nat} {V U : Nat → Value} {v : Value} {l : List Int} (h : Next2 w B n m V U v l) {G : Nat} {t : TypeId} {gcs : Array Value} (hG : Blk w G t gcs) (ht : 3 ≠ t) (i : Nat) (u : Value) : Next2 (w.setCell ⟨G, i, none⟩ u) B n m V U v l :=
  ⟨own_put h.own (own_far h.own hG ht) u, h.grew, h.far, h.off⟩
theorem Grown2.drewN {w : World} {B n m : Nat} {V U : Nat → Value} {C M : Nat → List Int} (h : Grown2 w B n m V U C M) (d : Nat) : Grown2 (w.drewN d) B n m V U C M :=
  ⟨⟨h.rows.own, h.rows.off⟩, h.own, h.grew, h.far, h.off⟩
theorem mark_at (k : Int) {m i : Nat} (hi : i < m) : (markL k m)[i]? = some (1000003 * (k + 7) + (i : Int)) := by
  unfold markL
  rw [List.getElem?_map, List.getElem?_range hi]
  rfl
theorem Grown2.again {w : World} {B n m : Nat} {V U : Nat → Value} {C M : Nat → List Int} (h : Grown2 w B n m V U C M) (U' : Nat → Value) (M' : Nat → List Int) : Grown2 w B n 0 V U' C M' :=
  ⟨h.rows, fun k hk => by omega, fun k hk => by omega, fun i k _ hk => by omega, fun i k hi => by omega⟩
theorem Grown2.grown {w w' : World} {B n m : Nat} {V U : Nat → Value} {C M : Nat → List Int} (h : Grown2 w B n m V U C M) (hg : w.grownBy w' none) : Grown2 w' B n m V U C M :=
  ⟨⟨fun k hk => own_grown (h.rows.own k hk) hg (fun b _ => by simp), h.rows.off⟩, fun k hk => own_grown (h.own k hk) hg (fun b _ => by simp), h.grew, h.far, h.off⟩
theorem Grown2.store {w : World} {B n m : Nat} {V U : Nat → Value} {C M : Nat → List Int} (h : Grown2 w B n m V U C M) (b i : Nat) (u : Value) (hV : ∀ k, k < n → (V k).ownBlock ≠ some b) (hU : ∀ k, k < m → (U k).ownBlock ≠ some b) : Grown2 (w.setCell ⟨b, i, none⟩ u) B n m V U C M :=
  ⟨⟨fun k hk => own_far_store (h.rows.own k hk) b i u (hV k hk), h.rows.off⟩, fun k hk => own_far_store (h.own k hk) b i u (hU k hk), h.grew, h.far, h.off⟩
theorem Grown2.drew {w : World} {B n m : Nat} {V U : Nat → Value} {C M : Nat → List Int} (h : Grown2 w B n m V U C M) : Grown2 w.drew B n m V U C M :=
  ⟨⟨h.rows.own, h.rows.off⟩, h.own, h.grew, h.far, h.off⟩
theorem OwnI.drew {w : World} {B : Nat} {v : Value} {l : List Int} (h : OwnI w B v l) : OwnI w.drew B v l := h
theorem Grown2.newV {w : World} {B n m : Nat} {V U : Nat → Value} {C M : Nat → List Int} (h : Grown2 w B n m V U C M) : (∀ k, k < n → (V k).ownBlock ≠ some w.heap.size) ∧ (∀ k, k < m → (U k).ownBlock ≠ some w.heap.size) :=
  ⟨fun k hk e => by have := (World.ownsRow.lt (h.rows.own k hk) _ e).2; omega, fun k hk e => by have := (World.ownsRow.lt (h.own k hk) _ e).2; omega⟩
theorem own_zeros {w : World} {B : Nat} {v : Value} {xs : List Value} {n : Nat} (h : w.ownsRow B 3 1 v n xs) (hx : xs = (List.replicate n (0 : Int)).map (Value.int .i64)) : OwnI w B v (List.replicate n (0 : Int)) := by
  unfold OwnI
  rw [List.length_replicate, ← hx]
  exact h
theorem own_cell {w : World} {B g cap n : Nat} {l : List Int} (h : OwnI w B (.slice (some ⟨g, 0, none⟩) n cap) l) : (∀ (i : Nat) (x : Int), l[i]? = some x → w.cell? ⟨g, i, none⟩ = some (.int .i64 x)) ∧ (∀ i, w.frozen? ⟨g, i, none⟩ = false) ∧ g < w.heap.size ∧ B ≤ g := by
  obtain ⟨h1, h2⟩ := h
  rcases h2 with ⟨h2, _⟩ | ⟨g2, cap2, cur2, e2, hB2, hh2, hle2, hmax2, hsz2, htk2⟩
  · cases h2
  injection e2 with e21 e22 e23
  injection e21 with e21
  injection e21 with e21
  subst e21
  refine ⟨fun i x hx => ?_, fun i => Blk.free hh2 i, (Array.getElem?_eq_some_iff.1 hh2).1, hB2⟩
  have hlt := (List.getElem?_eq_some_iff.1 hx).1
  rw [Blk.cell hh2 i, ← Array.getElem?_toList, ← List.getElem?_take_of_lt (show i < l.length * 1 by omega), htk2, List.getElem?_map, hx]
  rfl
/-- The rows' own block, and another one of another kind that is left alone. -/
structure Two (w : World) (g0 : Nat) (cs : Array Value) (b0 : Nat) (t0 : TypeId) (cs0 : Array Value) : Prop where
  one : Blk w g0 22 cs
  two : Blk w b0 t0 cs0
section
variable {w w' : World} {g0 : Nat} {cs : Array Value} {b0 : Nat} {t0 : TypeId} {cs0 : Array Value}
theorem Two.cell (h : Two w g0 cs b0 t0 cs0) (i : Nat) : w.cell? ⟨g0, i, none⟩ = cs[i]? := h.one.cell i
theorem Two.lt (h : Two w g0 cs b0 t0 cs0) : g0 < w.heap.size := h.one.lt
theorem Two.far (h : Two w g0 cs b0 t0 cs0) {p : Addr} (h1 : g0 ≠ p.block) (h2 : b0 ≠ p.block) (u : Value) : Two (w.setCell p u) g0 cs b0 t0 cs0 := ⟨h.one.far h1 u, h.two.far h2 u⟩
theorem Two.drewN (h : Two w g0 cs b0 t0 cs0) (n : Nat) : Two (w.drewN n) g0 cs b0 t0 cs0 := ⟨h.one.drewN n, h.two.drewN n⟩
theorem Two.drew (h : Two w g0 cs b0 t0 cs0) : Two w.drew g0 cs b0 t0 cs0 := ⟨h.one.drew, h.two.drew⟩
theorem Two.alloc (h : Two w g0 cs b0 t0 cs0) (o : Obj) : Two (w.alloc o) g0 cs b0 t0 cs0 := ⟨h.one.alloc o, h.two.alloc o⟩
theorem Two.grown (h : Two w g0 cs b0 t0 cs0) (hg : w.grownBy w' none) : Two w' g0 cs b0 t0 cs0 := ⟨h.one.grown hg (by simp), h.two.grown hg (by simp)⟩
theorem Two.step {B : Nat} {v v' : Value} {l : List Int} (h : Two w g0 cs b0 t0 cs0) (hs : StepI w w' v v') (hv : OwnI w B v l) (ht : 3 ≠ t0) : Two w' g0 cs b0 t0 cs0 := ⟨blk_step h.one hs hv (by decide), blk_step h.two hs hv ht⟩
end
set_option maxHeartbeats 4000000 in
set_option maxRecDepth 100000 in
theorem flatInts_any (n : Nat) (V : Nat → Value) (C : Nat → List Int) (g0 gc : Nat) (cs : Array Value) (b0 : Nat) (t0 : TypeId) (cs0 : Array Value) (ht1 : 3 ≠ t0) (w : World) (B : Nat) (hn : n ≤ 1000) (hB : B ≤ w.heap.size) (hC : ∀ k, k < n → (C k).length ≤ 100000) (hR : Rows w B n V C) (hV : Blk w g0 22 cs) (hV2 : Blk w b0 t0 cs0) (hcs : ∀ k, k < n → cs[k]? = some (V k)) :
    Calls Tryz.prog 69 #[.slice (some ⟨g0, 0, none⟩) n gc] w fun e w' => e = .returned (.bool true) ∧ Below B w w' ∧ Blk w' b0 t0 cs0 := by
  have HR0 := Lib.hid hR
  have HV0 : Hid (Two w g0 cs b0 t0 cs0) := Lib.hid ⟨hV, hV2⟩
  have HT1 := Lib.hid ht1
  have HCS := Lib.hid hcs
  have HCL := Lib.hid hC
  have HBS := Lib.hid hB
  clear hR hV hV2 hcs hC hB ht1
  go_enter Tryz.func69, Tryz.ntmps69
  go_wp2
  go_loopw [3] (fun v wr => ∃ k : Nat, v = .int .i64 k ∧ k ≤ n ∧ Rows wr B n V (doneL C k 0) ∧ Two wr g0 cs b0 t0 cs0 ∧ Below B w wr) (fun v _ => n - (intOf v).toNat)
  case atStart => exact ⟨0, rfl, Nat.zero_le _, by rw [done_start]; exact HR0.out, HV0.out, Below.refl _ _⟩
  case round =>
    obtain ⟨k, rfl, hk, hR, hV, hW⟩ := hrel
    have HR := Lib.hid hR
    have HV := Lib.hid hV
    have HW := Lib.hid hW
    clear hR hV hW
    by_cases hlt : k < n
    · have hlt' : (k : Int) < n := by omega
      have hk0 : (0 : Int) ≤ k := by omega
      obtain ⟨a, c, hVk, _, _⟩ := (HR.out.own k hlt).shape
      rw [done_len C (Nat.zero_le _)] at hVk
      have HVK := Lib.hid hVk
      have HL : Hid ((C k).length ≤ 100000) := HCL.out k hlt
      generalize hLn : (C k).length = L at hVk
      have HLN := Lib.hid hLn
      have hL : L ≤ 100000 := by rw [← hLn]; exact HL.out
      have c0 : wr.cell? ⟨g0, k, none⟩ = some (.slice a L c) := by rw [HV.out.cell, HCS.out k hlt, hVk]
      clear hVk hLn
      go_wp2
      go_loopw [4] (fun v wi => ∃ i : Nat, v = .int .i64 i ∧ i ≤ L ∧ Rows wi B n V (doneL C k i) ∧ Two wi g0 cs b0 t0 cs0 ∧ Below B w wi) (fun v _ => L - (intOf v).toNat)
      case atStart => exact ⟨0, rfl, Nat.zero_le _, HR.out, HV.out, HW.out⟩
      case round =>
        obtain ⟨i, rfl, hi, hR, hV, hW⟩ := hrel
        clear HR HV HW c0
        have HR := Lib.hid hR
        have HV := Lib.hid hV
        have HW := Lib.hid hW
        clear hR hV hW
        have c0 : wr.cell? ⟨g0, k, none⟩ = some (.slice a L c) := by rw [HV.out.cell, HCS.out k hlt, HVK.out, HLN.out]
        by_cases hlt2 : i < L
        · have hlt2' : (i : Int) < L := by omega
          have hi0 : (0 : Int) ≤ i := by omega
          have hown := HR.out.own k hlt
          obtain ⟨g, cap, hg, _, _⟩ := OwnI.seat hown (by rw [done_len C (by have := HLN.out; omega), HLN.out]; omega)
          rw [done_len C (by have := HLN.out; omega)] at hg
          have hg2 := hg.symm.trans HVK.out
          rw [HLN.out] at hg2
          injection hg2 with e1 e2 e3
          subst e1
          subst e3
          rw [hg] at hown
          obtain ⟨hcell, hfroz, hgs, hgB⟩ := own_cell hown
          obtain ⟨x, hx⟩ : ∃ x, (doneL C k i k)[i]? = some x := ⟨_, List.getElem?_eq_getElem (by rw [done_len C (by have := HLN.out; omega), HLN.out]; exact hlt2)⟩
          have d0 := hcell i x hx
          have f0 := hfroz i
          have HNE : Hid (g0 ≠ g) := by
            intro e
            have h1 := own_far hown HV.out.one (by decide)
            exact h1 (by rw [e]; rfl)
          have HNE2 : Hid (b0 ≠ g) := by
            intro e
            have h1 := own_far hown HV.out.two HT1.out
            exact h1 (by rw [e]; rfl)
          have HR2 : Hid (Rows (wr.setCell ⟨g, i, none⟩ (.int .i64 (1000003 * ((k : Int) + 7) + (i : Int)))) B n V (doneL C k (i + 1))) := HR.out.store hlt (by rw [HLN.out]; exact hlt2) hg
          have HV2 : Hid (Two (wr.setCell ⟨g, i, none⟩ (.int .i64 (1000003 * ((k : Int) + 7) + (i : Int)))) g0 cs b0 t0 cs0) := HV.out.far HNE.out HNE2.out _
          have HW2 : Hid (Below B w (wr.setCell ⟨g, i, none⟩ (.int .i64 (1000003 * ((k : Int) + 7) + (i : Int))))) := HW.out.setCell hgB _
          have HM := Lib.hid (fun W => mark_any k i W (by omega) (by omega) (by omega) (by omega))
          have HGS := Lib.hid hgs
          clear hg hown hcell hfroz hgs hx hgB
          go_wp2_with fail
          go_region_with (go_at_call 36; refine (HM.out _).mono ?_; rintro e w6 ⟨rfl, rfl⟩)
          all_goals
            go_wp2
            go_roundw
            case rel => exact ⟨i + 1, by go_num, by omega, HR2.out.drew, HV2.out.drew, HW2.out.drew⟩
            case measure => simp [intOf]; omega
        · have e : i = L := by omega
          subst e
          have hlt2' : ¬ (i : Int) < i := by omega
          have HR2 : Hid (Rows wr B n V (doneL C (k + 1) 0)) := by
            have h1 := HR.out
            have h2 := done_next C k
            rw [HLN.out] at h2
            rw [h2] at h1
            exact h1
          go_wp2
          go_roundw
          case rel => exact ⟨k + 1, by go_num, by omega, HR2.out, HV.out, HW.out⟩
          case measure => simp [intOf]; omega
    · have e : n = k := by omega
      subst e
      have hlt' : ¬ (n : Int) < n := by omega
      have HRM : Hid (Rows wr B n V (fun j => markL j (C j).length)) := by
        refine ⟨fun j hj => ?_, HR.out.off⟩
        have h1 := HR.out.own j hj
        unfold doneL at h1
        rw [if_pos hj] at h1
        exact h1
      obtain ⟨i1, hi1, hy0, hy1, hy2⟩ := info_parts row_info
      go_wp2_with (at_make; go_must (refine wpList_make_full _ rfl _ _ _ rfl wr.heap.size 22 i1 _ 1 Tryz.underlying48 hi1 hy0 hy1 .i64 .i64 (n : Int) (n : Int) n rfl rfl rfl rfl (by rw [hy2]; omega) (by simp only [maxLen]; omega) (Nat.le_refl _) ?_; intro w1 hown1 hgrow1))
      have HBW : Hid (B ≤ wr.heap.size) := Nat.le_trans HBS.out HW.out.size
      have HR1 : Hid (Rows w1 B n V (fun j => markL j (C j).length)) := ⟨fun j hj => own_grown (HRM.out.own j hj) hgrow1 (fun b _ => by simp), HRM.out.off⟩
      have HV1 : Hid (Two w1 g0 cs b0 t0 cs0) := HV.out.grown hgrow1
      have HW1 : Hid (Below B w w1) := HW.out.grown hgrow1 HBW.out (fun k hk => by cases hk)
      have HG1 : Hid (∃ gcs : Array Value, Blk w1 wr.heap.size 22 gcs ∧ gcs.size = n) := by
        rcases hown1.2 with ⟨h1, _⟩ | ⟨g, cap, cur, h1, _, h2, _, _, h3, _⟩
        · cases h1
        · injection h1 with h4 h5 h6
          injection h4 with h4
          injection h4 with h4
          subst h4
          subst h6
          exact ⟨cur, h2, by simpa using h3⟩
      have HNE : Hid (wr.heap.size ≠ g0) := by
        show _ ≠ _
        have := HV.out.lt
        omega
      have HNE3 : Hid (wr.heap.size ≠ b0) := by
        show _ ≠ _
        have := HV.out.two.lt
        omega
      have HGB : Hid (B ≤ wr.heap.size) := HBW.out
      generalize wr.heap.size = G at HG1 HNE HNE3 HGB ⊢
      clear hown1 hgrow1 HR HV HW HRM HBW
      obtain ⟨gcs0, hG1, hgs0⟩ := HG1.out
      go_loopw [6] (fun v wr => ∃ (k : Nat) (U : Nat → Value) (gcs : Array Value), v = .int .i64 k ∧ k ≤ n ∧ Grown2 wr B n k V U (fun j => markL j (C j).length) (fun j => markL j ((C j).length + 64)) ∧ Two wr g0 cs b0 t0 cs0 ∧ Blk wr G 22 gcs ∧ gcs.size = n ∧ (∀ j, j < k → gcs[j]? = some (U j)) ∧ Below B w wr) (fun v _ => n - (intOf v).toNat)
      case atStart =>
        refine ⟨0, fun _ => .slice none 0 0, gcs0, rfl, Nat.zero_le _, ⟨HR1.out, fun k hk => by omega, fun k hk => by omega, fun i k _ hk => by omega, fun i k hi => by omega⟩, HV1.out, hG1, hgs0, fun j hj => by omega, HW1.out⟩
      case round =>
        obtain ⟨k, U, gcs, rfl, hk, hP, hV, hG, hgs, hU, hW⟩ := hrel
        have HP := Lib.hid hP
        have HV := Lib.hid hV
        have HG := Lib.hid hG
        have HU := Lib.hid hU
        have HW := Lib.hid hW
        clear hP hV hG hU hW HR1 HV1 HW1 hG1 hgs0
        by_cases hlt : k < n
        · have hlt2 : (k : Int) < n := by omega
          have hk0 : (0 : Int) ≤ k := by omega
          obtain ⟨a, c, hVk, _, _⟩ := (HP.out.rows.own k hlt).shape
          rw [mark_len] at hVk
          have HVK := Lib.hid hVk
          have hL : (C k).length ≤ 100000 := HCL.out k hlt
          generalize hLn : (C k).length = L at hVk hL
          have HLN := Lib.hid hLn
          have c0 : wr.cell? ⟨g0, k, none⟩ = some (.slice a L c) := by rw [HV.out.cell, HCS.out k hlt, hVk]
          clear hVk hLn
          have HN0 : Hid (Next2 wr B n k V U (.slice a L c) (markL k L)) := by
            have h1 := Next2.start HP.out hlt
            rw [HVK.out, HLN.out] at h1
            exact h1
          go_wp2
          go_loopw [7, 8] (fun v x wr => ∃ i : Nat, x = .int .i64 i ∧ i ≤ 64 ∧ Grown2 wr B n k V U (fun j => markL j (C j).length) (fun j => markL j ((C j).length + 64)) ∧ Next2 wr B n k V U v (markL k (L + i)) ∧ Two wr g0 cs b0 t0 cs0 ∧ Blk wr G 22 gcs ∧ Below B w wr) (fun _ x _ => 64 - (intOf x).toNat)
          case atStart => exact ⟨0, rfl, Nat.zero_le _, HP.out, HN0.out, HV.out, HG.out, HW.out⟩
          case round =>
            obtain ⟨i, rfl, hi, hP, hN, hV, hG, hW⟩ := hrel
            clear HP HN0 HV HG HW c0
            have HP := Lib.hid hP
            have HN := Lib.hid hN
            have HV := Lib.hid hV
            have HG := Lib.hid hG
            have HW := Lib.hid hW
            clear hP hN hV hG hW
            by_cases hi2 : i < 64
            · have hi3 : (i : Int) < 64 := by omega
              have hi0 : (0 : Int) ≤ i := by omega
              have c0 : wr.cell? ⟨g0, k, none⟩ = some (.slice a L c) := by rw [HV.out.cell, HCS.out k hlt, HVK.out, HLN.out]
              go_wp2_with fail
              refine (mark_any k ((L : Int) + i) wr (by omega) (by omega) (by omega) (by omega)).mono ?_
              rintro e w3 ⟨rfl, rfl⟩
              generalize hy : 1000003 * ((k : Int) + 7) + ((L : Int) + i) = y
              have HY := Lib.hid hy
              have HBS2 : Hid (B ≤ wr.heap.size) := Nat.le_trans HBS.out HW.out.size
              have HI3 : Hid (IntsW (wr.alloc (.cells #[.int .i64 y] 3)) (some ⟨wr.heap.size, 0, none⟩) [y]) := IntsW.row (l := [y]) (Blk.new wr 3 #[.int .i64 y]) (fun k x hx => by
                cases k with
                | zero => simpa using hx
                | succ k => simp at hx)
              have HL3 : Hid (B ≤ (wr.alloc (.cells #[.int .i64 y] 3)).heap.size) := by
                show _ ≤ _
                have := HBS2.out
                simp
                omega
              clear hy
              go_wp2_with (at_builtin; go_must (refine wpList_append_step rfl _ _ rfl B _ (markL k (L + i)) rfl (World.ownsRow.alloc HN.out.own _) (some ⟨wr.heap.size, 0, none⟩) 1 [y] rfl (by simp) HI3.out (by simp [mark_len]; omega) HL3.out ?_; intro v4 w4 hown4 hstep4))
              obtain ⟨xs, hxs⟩ := mark_split k L i
              have h4 := Grown2.step (HP.out.alloc (.cells #[.int .i64 y] 3)) hlt (HN.out.alloc _) (by rw [HLN.out]; exact hxs) hstep4 hown4
              rw [← HY.out, show ((L : Int) + i) = ((L + i : Nat) : Int) by omega, ← mark_more] at h4
              have HP4 := Lib.hid h4.1
              have HN4 := Lib.hid h4.2
              have HV4 := Lib.hid (Two.step (HV.out.alloc (.cells #[.int .i64 y] 3)) hstep4 (World.ownsRow.alloc HN.out.own _) HT1.out)
              have HG4 := Lib.hid (blk_step (HG.out.alloc (.cells #[.int .i64 y] 3)) hstep4 (World.ownsRow.alloc HN.out.own _) (by decide))
              have HW4 := Lib.hid (below_step (HW.out.alloc HBS2.out _) hstep4 (World.ownsRow.alloc HN.out.own (.cells #[.int .i64 y] 3)) HL3.out)
              clear h4 hown4 hstep4 hxs
              go_roundw
              case rel => exact ⟨i + 1, by go_num, by omega, HP4.out, HN4.out, HV4.out, HG4.out, HW4.out⟩
              case measure => simp [intOf]; omega
            · have e : i = 64 := by omega
              subst e
              obtain ⟨y, hy⟩ : ∃ y, gcs[k]? = some y := ⟨_, Array.getElem?_eq_getElem (by omega)⟩
              have c1 : wr.cell? ⟨G, k, none⟩ = some y := by rw [HG.out.cell, hy]
              have f1 : wr.frozen? ⟨G, k, none⟩ = false := HG.out.free k
              obtain ⟨va, vc, hv, _, _⟩ := HN.out.own.shape
              rw [mark_len] at hv
              subst hv
              have HP5 := Lib.hid (HP.out.put HG.out (by decide) k (.slice va (L + 64) vc))
              have HN5 := Lib.hid (HN.out.put HG.out (by decide) k (.slice va (L + 64) vc))
              have HP6 : Hid (Grown2 (wr.setCell ⟨G, k, none⟩ (.slice va (L + 64) vc)) B n (k + 1) V (fun j => if j = k then .slice va (L + 64) vc else U j) (fun j => markL j (C j).length) (fun j => markL j ((C j).length + 64))) :=
                Grown2.more HP5.out (by have h1 := HN5.out; rw [← HLN.out] at h1 ⊢; exact h1)
              have HV6 : Hid (Two (wr.setCell ⟨G, k, none⟩ (.slice va (L + 64) vc)) g0 cs b0 t0 cs0) := HV.out.far (fun e => HNE.out e.symm) (fun e => HNE3.out e.symm) _
              have HG6 : Hid (Blk (wr.setCell ⟨G, k, none⟩ (.slice va (L + 64) vc)) G 22 (gcs.setIfInBounds k (.slice va (L + 64) vc))) := HG.out.put k _
              have HW6 : Hid (Below B w (wr.setCell ⟨G, k, none⟩ (.slice va (L + 64) vc))) := HW.out.setCell HGB.out _
              have HU6 : Hid (∀ j, j < k + 1 → (gcs.setIfInBounds k (.slice va (L + 64) vc))[j]? = some (if j = k then .slice va (L + 64) vc else U j)) := by
                intro j hj
                by_cases hjk : j = k
                · subst hjk
                  rw [if_pos rfl, Array.getElem?_setIfInBounds_self_of_lt (by omega)]
                · rw [if_neg hjk, Array.getElem?_setIfInBounds_ne (fun e => hjk e.symm)]
                  exact HU.out j (by omega)
              clear hy
              go_wp2
              go_roundw
              case rel => exact ⟨k + 1, _, _, by go_num, by omega, HP6.out, HV6.out, HG6.out, by simpa using hgs, HU6.out, HW6.out⟩
              case measure => simp [intOf]; omega
        · have e : n = k := by omega
          subst e
          have hlt2 : ¬ (n : Int) < n := by omega
          go_wp2
          go_loopw [9] (fun v wr => ∃ k : Nat, v = .int .i64 k ∧ k ≤ n ∧ Grown2 wr B n n V U (fun j => markL j (C j).length) (fun j => markL j ((C j).length + 64)) ∧ Two wr g0 cs b0 t0 cs0 ∧ Blk wr G 22 gcs ∧ Below B w wr) (fun v _ => n - (intOf v).toNat)
          case atStart => exact ⟨0, rfl, Nat.zero_le _, HP.out, HV.out, HG.out, HW.out⟩
          case round =>
            obtain ⟨k, rfl, hk, hP, hV, hG, hW⟩ := hrel
            clear HP HV HG HW
            have HP := Lib.hid hP
            have HV := Lib.hid hV
            have HG := Lib.hid hG
            have HW := Lib.hid hW
            clear hP hV hG hW
            by_cases hlt : k < n
            · have hlt2 : (k : Int) < n := by omega
              have hk0 : (0 : Int) ≤ k := by omega
              obtain ⟨a, c, hVk, _, _⟩ := (HP.out.rows.own k hlt).shape
              rw [mark_len] at hVk
              have HVK := Lib.hid hVk
              obtain ⟨gu, uc, hUk, _, _⟩ := OwnI.seat (HP.out.own k hlt) (by rw [mark_len]; omega)
              rw [mark_len] at hUk
              have HUK := Lib.hid hUk
              have hL : (C k).length ≤ 100000 := HCL.out k hlt
              generalize hLn : (C k).length = L at hVk hUk hL
              have HLN := Lib.hid hLn
              have c0 : wr.cell? ⟨g0, k, none⟩ = some (.slice a L c) := by rw [HV.out.cell, HCS.out k hlt, hVk]
              have c1 : wr.cell? ⟨G, k, none⟩ = some (.slice (some ⟨gu, 0, none⟩) (L + 64) uc) := by rw [HG.out.cell, HU.out k hlt, hUk]
              clear hVk hUk hLn
              go_wp2
              go_loopw [10] (fun v wr => ∃ i : Nat, v = .int .i64 i ∧ i ≤ L + 64 ∧ Grown2 wr B n n V U (fun j => markL j (C j).length) (fun j => markL j ((C j).length + 64)) ∧ Two wr g0 cs b0 t0 cs0 ∧ Blk wr G 22 gcs ∧ Below B w wr) (fun v _ => L + 64 - (intOf v).toNat)
              case atStart => exact ⟨0, rfl, Nat.zero_le _, HP.out, HV.out, HG.out, HW.out⟩
              case round =>
                obtain ⟨i, rfl, hi, hP, hV, hG, hW⟩ := hrel
                clear HP HV HG HW c0 c1
                have HP := Lib.hid hP
                have HV := Lib.hid hV
                have HG := Lib.hid hG
                have HW := Lib.hid hW
                clear hP hV hG hW
                have c0 : wr.cell? ⟨g0, k, none⟩ = some (.slice a L c) := by rw [HV.out.cell, HCS.out k hlt, HVK.out, HLN.out]
                have c1 : wr.cell? ⟨G, k, none⟩ = some (.slice (some ⟨gu, 0, none⟩) (L + 64) uc) := by rw [HG.out.cell, HU.out k hlt, HUK.out, HLN.out]
                by_cases hi2 : i < L + 64
                · have hi3 : (i : Int) < (L : Int) + 64 := by omega
                  have hi4 : (i : Int) < ((L + 64 : Nat) : Int) := by omega
                  have hi0 : (0 : Int) ≤ i := by omega
                  have HM := Lib.hid (fun W => mark_any k i W (by omega) (by omega) (by omega) (by omega))
                  have d1 : wr.cell? ⟨gu, i, none⟩ = some (.int .i64 (1000003 * ((k : Int) + 7) + (i : Int))) := by
                    have h1 := HP.out.own k hlt
                    rw [HUK.out] at h1
                    exact (own_cell h1).1 i _ (mark_at _ (by rw [HLN.out]; exact hi2))
                  by_cases hi5 : i < L
                  · have hi6 : (i : Int) < L := by omega
                    obtain ⟨ga, ac, hg, _, _⟩ := OwnI.seat (HP.out.rows.own k hlt) (by rw [mark_len, HLN.out]; omega)
                    rw [mark_len] at hg
                    have hg2 := hg.symm.trans HVK.out
                    injection hg2 with e1 e2 e3
                    subst e1
                    subst e3
                    have d0 : wr.cell? ⟨ga, i, none⟩ = some (.int .i64 (1000003 * ((k : Int) + 7) + (i : Int))) := by
                      have h1 := HP.out.rows.own k hlt
                      rw [HVK.out] at h1
                      exact (own_cell h1).1 i _ (mark_at _ (by rw [HLN.out]; exact hi5))
                    clear hg
                    generalize 1000003 * ((k : Int) + 7) + (i : Int) = y at d0 d1 HM
                    have q : (y == y) = true := by simp
                    go_wp2_with fail
                    go_quiet ((go_at_call 36; refine Calls.quiet_of_same ((HM.out _).mono fun _ _ h => ⟨h.1, h.2.symm⟩)))
                    go_wp2
                    go_roundw
                    case rel => exact ⟨i + 1, by go_num, by omega, HP.out.drewN _, HV.out.drewN _, HG.out.drewN _, below_drewN HW.out _⟩
                    case measure => simp [intOf]; omega
                  · have hi6 : decide ((i : Int) < L) = false := by simp; omega
                    have hi7 : decide (i < L) = false := by simp; omega
                    generalize 1000003 * ((k : Int) + 7) + (i : Int) = y at d1 HM
                    have q : (y == y) = true := by simp
                    go_wp2_with fail
                    go_quiet ((go_at_call 36; refine Calls.quiet_of_same ((HM.out _).mono fun _ _ h => ⟨h.1, h.2.symm⟩)))
                    go_wp2
                    go_roundw
                    case rel => exact ⟨i + 1, by go_num, by omega, HP.out.drewN _, HV.out.drewN _, HG.out.drewN _, below_drewN HW.out _⟩
                    case measure => simp [intOf]; omega
                · have e : i = L + 64 := by omega
                  subst e
                  have hi3 : ¬ ((L + 64 : Nat) : Int) < (L : Int) + 64 := by omega
                  have hi4 : ¬ ((L + 64 : Nat) : Int) < ((L + 64 : Nat) : Int) := by omega
                  go_wp2
                  go_roundw
                  case rel => exact ⟨k + 1, by go_num, by omega, HP.out, HV.out, HG.out, HW.out⟩
                  case measure => simp [intOf]; omega
            · have e : n = k := by omega
              subst e
              have hlt2 : ¬ (n : Int) < n := by omega
              go_wp2
              go_loopw [11] (fun v wr => ∃ (k : Nat) (U : Nat → Value) (gcs : Array Value), v = .int .i64 k ∧ k ≤ n ∧ Grown2 wr B n k V U (fun j => markL j (C j).length) (fun j => markL j (C j).length ++ markL ((j : Int) + n) 64) ∧ Two wr g0 cs b0 t0 cs0 ∧ Blk wr G 22 gcs ∧ gcs.size = n ∧ (∀ j, j < k → gcs[j]? = some (U j)) ∧ Below B w wr) (fun v _ => n - (intOf v).toNat)
              case atStart => exact ⟨0, U, gcs, rfl, Nat.zero_le _, HP.out.again _ _, HV.out, HG.out, hgs, fun j hj => by omega, HW.out⟩
              case round =>
                clear HU hgs
                obtain ⟨k, U, gcs, rfl, hk, hP, hV, hG, hgs, hU, hW⟩ := hrel
                clear HP HV HG HW
                have HP := Lib.hid hP
                have HV := Lib.hid hV
                have HG := Lib.hid hG
                have HU := Lib.hid hU
                have HW := Lib.hid hW
                clear hP hV hG hU hW
                by_cases hlt : k < n
                · have hlt2 : (k : Int) < n := by omega
                  have hk0 : (0 : Int) ≤ k := by omega
                  obtain ⟨i0, hi0, hz0, hz1, hz2⟩ := info_parts int_info
                  go_wp2_with (at_make; go_must (refine wpList_make_full _ rfl _ _ _ rfl wr.heap.size 3 i0 _ 1 Tryz.underlying22 hi0 hz0 hz1 .i64 .i64 64 64 64 rfl rfl rfl rfl (by rw [hz2]; omega) (by simp only [maxLen]; omega) (Nat.le_refl _) ?_; intro w1 hown1 hgrow1))
                  have HZ1 : Hid (OwnI w1 wr.heap.size (.slice (some ⟨wr.heap.size, 0, none⟩) 64 64) (List.replicate 64 (0 : Int))) := own_zeros hown1 ((toList_madeCells_one (.int .i64 0) 64).trans (by simp))
                  have HP1 := Lib.hid (HP.out.grown hgrow1)
                  have HV1 := Lib.hid (HV.out.grown hgrow1)
                  have HG1 := Lib.hid (HG.out.grown hgrow1 (by simp))
                  have HW1 := Lib.hid (HW.out.grown hgrow1 (Nat.le_trans HBS.out HW.out.size) (fun k hk => by cases hk))
                  have HF := Lib.hid HP.out.newV
                  have HN1 : Hid (g0 ≠ wr.heap.size) := by
                    show _ ≠ _
                    have := HV.out.lt
                    omega
                  have HN3 : Hid (b0 ≠ wr.heap.size) := by
                    show _ ≠ _
                    have := HV.out.two.lt
                    omega
                  have HN2 : Hid (G ≠ wr.heap.size) := by
                    show _ ≠ _
                    have := HG.out.lt
                    omega
                  have HBM : Hid (B ≤ wr.heap.size) := Nat.le_trans HBS.out HW.out.size
                  generalize wr.heap.size = N at HZ1 HF HN1 HN2 HN3 HBM ⊢
                  clear hown1 hgrow1 HP HV HG HW
                  go_loopw [13] (fun v wr => ∃ i : Nat, v = .int .i64 i ∧ i ≤ 64 ∧ OwnI wr N (.slice (some ⟨N, 0, none⟩) 64 64) (mixL ((k : Int) + n) (List.replicate 64 (0 : Int)) i) ∧ Grown2 wr B n k V U (fun j => markL j (C j).length) (fun j => markL j (C j).length ++ markL ((j : Int) + n) 64) ∧ Two wr g0 cs b0 t0 cs0 ∧ Blk wr G 22 gcs ∧ Below B w wr) (fun v _ => 64 - (intOf v).toNat)
                  case atStart => exact ⟨0, rfl, Nat.zero_le _, by rw [mix_zero]; exact HZ1.out, HP1.out, HV1.out, HG1.out, HW1.out⟩
                  case round =>
                    obtain ⟨i, rfl, hi, hZ, hP, hV, hG, hW⟩ := hrel
                    clear HZ1 HP1 HV1 HG1 HW1
                    have HZ := Lib.hid hZ
                    have HP := Lib.hid hP
                    have HV := Lib.hid hV
                    have HG := Lib.hid hG
                    have HW := Lib.hid hW
                    clear hZ hP hV hG hW
                    by_cases hi2 : i < 64
                    · have hi3 : (i : Int) < 64 := by omega
                      have hi0 : (0 : Int) ≤ i := by omega
                      have HM := Lib.hid (fun W => mark_any ((k : Int) + n) i W (by omega) (by omega) (by omega) (by omega))
                      obtain ⟨hcell, hfroz, hgs2, hgB⟩ := own_cell HZ.out
                      obtain ⟨x, hx⟩ : ∃ x, (mixL ((k : Int) + n) (List.replicate 64 (0 : Int)) i)[i]? = some x := ⟨_, List.getElem?_eq_getElem (by rw [mix_len _ _ (by simp; omega)]; simpa using hi2)⟩
                      have d0 := hcell i x hx
                      have f0 := hfroz i
                      have HZ2 : Hid (OwnI (wr.setCell ⟨N, i, none⟩ (.int .i64 (1000003 * (((k : Int) + n) + 7) + (i : Int)))) N (.slice (some ⟨N, 0, none⟩) 64 64) (mixL ((k : Int) + n) (List.replicate 64 (0 : Int)) (i + 1))) := by
                        show OwnI _ _ _ _
                        rw [← mix_set _ _ (by simpa using hi2)]
                        exact own_store HZ.out i _ (by rw [mix_len _ _ (by simp; omega)]; simpa using hi2)
                      have HP2 := Lib.hid (HP.out.store N i (.int .i64 (1000003 * (((k : Int) + n) + 7) + (i : Int))) HF.out.1 HF.out.2)
                      have HV2 := Lib.hid (HV.out.far (p := ⟨N, i, none⟩) HN1.out HN3.out (.int .i64 (1000003 * (((k : Int) + n) + 7) + (i : Int))))
                      have HG2 := Lib.hid (HG.out.far (p := ⟨N, i, none⟩) HN2.out (.int .i64 (1000003 * (((k : Int) + n) + 7) + (i : Int))))
                      have HW2 := Lib.hid (HW.out.setCell (p := ⟨N, i, none⟩) HBM.out (.int .i64 (1000003 * (((k : Int) + n) + 7) + (i : Int))))
                      have HGS := Lib.hid hgs2
                      clear hcell hfroz hgs2 hgB hx
                      go_wp2_with fail
                      refine (HM.out _).mono ?_
                      rintro e w6 ⟨rfl, rfl⟩
                      go_wp2
                      go_roundw
                      case rel => exact ⟨i + 1, by go_num, by omega, HZ2.out, HP2.out, HV2.out, HG2.out, HW2.out⟩
                      case measure => simp [intOf]; omega
                    · have e : i = 64 := by omega
                      subst e
                      have HZ3 : Hid (IntsW wr (some ⟨N, 0, none⟩) (markL ((k : Int) + n) 64)) := by
                        have h1 := HZ.out
                        have h2 := mix_all ((k : Int) + n) (List.replicate 64 (0 : Int))
                        rw [List.length_replicate] at h2
                        rw [h2] at h1
                        exact IntsW.own h1
                      have hl64 : (markL ((k : Int) + n) 64).length = 64 := mark_len _ _
                      generalize hml : markL ((k : Int) + n) 64 = ml at hl64 HZ3
                      have HML := Lib.hid hml
                      obtain ⟨a, c, hVk, _, _⟩ := (HP.out.rows.own k hlt).shape
                      rw [mark_len] at hVk
                      have HVK := Lib.hid hVk
                      have hL : (C k).length ≤ 100000 := HCL.out k hlt
                      generalize hLn : (C k).length = L at hVk hL
                      have HLN := Lib.hid hLn
                      have c0 : wr.cell? ⟨g0, k, none⟩ = some (.slice a L c) := by rw [HV.out.cell, HCS.out k hlt, hVk]
                      have HN0 : Hid (Next2 wr B n k V U (.slice a L c) (markL k L)) := by
                        have h1 := Next2.start HP.out hlt
                        rw [HVK.out, HLN.out] at h1
                        exact h1
                      have HBS2 : Hid (B ≤ wr.heap.size) := Nat.le_trans HBS.out HW.out.size
                      obtain ⟨y, hy⟩ : ∃ y, gcs[k]? = some y := ⟨_, Array.getElem?_eq_getElem (by omega)⟩
                      clear hVk hLn hml
                      go_wp2_with (at_builtin; go_must (refine wpList_append_step rfl _ _ rfl B (.slice a L c) (markL k L) rfl HN0.out.own (some ⟨N, 0, none⟩) 64 ml (by rw [hl64]; rfl) (by simp) HZ3.out (by rw [mark_len, hl64]; omega) HBS2.out ?_; intro v4 w4 hown4 hstep4; obtain ⟨va, vc, hv4, _, _⟩ := OwnI.shape hown4; rw [List.length_append, mark_len, hl64] at hv4; subst hv4; have HS4 := Lib.hid hstep4; have HO4 := Lib.hid hown4; have HG4 : Hid (Blk w4 G 22 gcs) := (by exact blk_step HG.out hstep4 HN0.out.own (by decide)); have c1 : w4.cell? ⟨G, k, none⟩ = some y := (by rw [HG4.out.cell, hy]); have f1 : w4.frozen? ⟨G, k, none⟩ = false := (by exact HG4.out.free k); clear hown4 hstep4))
                      have h4 := Grown2.step (x := []) HP.out hlt HN0.out (by rw [HLN.out, List.append_nil]) HS4.out HO4.out
                      have HV4 : Hid (Two w4 g0 cs b0 t0 cs0) := Two.step HV.out HS4.out HN0.out.own HT1.out
                      have HW4 : Hid (Below B w w4) := below_step HW.out HS4.out HN0.out.own HBS2.out
                      have HP6 : Hid (Grown2 (w4.setCell ⟨G, k, none⟩ (.slice va (L + 64) vc)) B n (k + 1) V (fun j => if j = k then .slice va (L + 64) vc else U j) (fun j => markL j (C j).length) (fun j => markL j (C j).length ++ markL ((j : Int) + n) 64)) :=
                        Grown2.more (h4.1.put HG4.out (by decide) k _) (by have h1 := h4.2.put HG4.out (by decide) k (.slice va (L + 64) vc); rw [← HML.out] at h1; rw [← HLN.out] at h1 ⊢; exact h1)
                      have HV6 : Hid (Two (w4.setCell ⟨G, k, none⟩ (.slice va (L + 64) vc)) g0 cs b0 t0 cs0) := HV4.out.far (fun e => HNE.out e.symm) (fun e => HNE3.out e.symm) _
                      have HG6 : Hid (Blk (w4.setCell ⟨G, k, none⟩ (.slice va (L + 64) vc)) G 22 (gcs.setIfInBounds k (.slice va (L + 64) vc))) := HG4.out.put k _
                      have HW6 : Hid (Below B w (w4.setCell ⟨G, k, none⟩ (.slice va (L + 64) vc))) := HW4.out.setCell HGB.out _
                      have HU6 : Hid (∀ j, j < k + 1 → (gcs.setIfInBounds k (.slice va (L + 64) vc))[j]? = some (if j = k then .slice va (L + 64) vc else U j)) := by
                        intro j hj
                        by_cases hjk : j = k
                        · subst hjk
                          rw [if_pos rfl, Array.getElem?_setIfInBounds_self_of_lt (by omega)]
                        · rw [if_neg hjk, Array.getElem?_setIfInBounds_ne (fun e => hjk e.symm)]
                          exact HU.out j (by omega)
                      clear hy h4
                      go_roundw
                      case rel => exact ⟨k + 1, _, _, by go_num, by omega, HP6.out, HV6.out, HG6.out, by simpa using hgs, HU6.out, HW6.out⟩
                      case measure => simp [intOf]; omega
                · have e : n = k := by omega
                  subst e
                  have hlt2 : ¬ (n : Int) < n := by omega
                  go_wp2
                  go_loopw [14] (fun v wr => ∃ k : Nat, v = .int .i64 k ∧ k ≤ n ∧ Grown2 wr B n n V U (fun j => markL j (C j).length) (fun j => markL j (C j).length ++ markL ((j : Int) + n) 64) ∧ Two wr g0 cs b0 t0 cs0 ∧ Blk wr G 22 gcs ∧ Below B w wr) (fun v _ => n - (intOf v).toNat)
                  case atStart => exact ⟨0, rfl, Nat.zero_le _, HP.out, HV.out, HG.out, HW.out⟩
                  case round =>
                    obtain ⟨k, rfl, hk, hP, hV, hG, hW⟩ := hrel
                    clear HP HV HG HW
                    have HP := Lib.hid hP
                    have HV := Lib.hid hV
                    have HG := Lib.hid hG
                    have HW := Lib.hid hW
                    clear hP hV hG hW
                    by_cases hlt : k < n
                    · have hlt2 : (k : Int) < n := by omega
                      have hk0 : (0 : Int) ≤ k := by omega
                      obtain ⟨a, c, hVk, _, _⟩ := (HP.out.rows.own k hlt).shape
                      rw [mark_len] at hVk
                      have HVK := Lib.hid hVk
                      obtain ⟨gu, uc, hUk, _, _⟩ := OwnI.seat (HP.out.own k hlt) (by rw [List.length_append, mark_len, mark_len]; omega)
                      rw [List.length_append, mark_len, mark_len] at hUk
                      have HUK := Lib.hid hUk
                      have hL : (C k).length ≤ 100000 := HCL.out k hlt
                      generalize hLn : (C k).length = L at hVk hUk hL
                      have HLN := Lib.hid hLn
                      have c0 : wr.cell? ⟨g0, k, none⟩ = some (.slice a L c) := by rw [HV.out.cell, HCS.out k hlt, hVk]
                      clear hVk hUk hLn
                      go_wp2
                      go_loopw [15] (fun v wr => ∃ i : Nat, v = .int .i64 i ∧ i ≤ L ∧ Grown2 wr B n n V U (fun j => markL j (C j).length) (fun j => markL j (C j).length ++ markL ((j : Int) + n) 64) ∧ Two wr g0 cs b0 t0 cs0 ∧ Blk wr G 22 gcs ∧ Below B w wr) (fun v _ => L - (intOf v).toNat)
                      case atStart => exact ⟨0, rfl, Nat.zero_le _, HP.out, HV.out, HG.out, HW.out⟩
                      case round =>
                        obtain ⟨i, rfl, hi, hP, hV, hG, hW⟩ := hrel
                        clear HP HV HG HW c0
                        have HP := Lib.hid hP
                        have HV := Lib.hid hV
                        have HG := Lib.hid hG
                        have HW := Lib.hid hW
                        clear hP hV hG hW
                        have c0 : wr.cell? ⟨g0, k, none⟩ = some (.slice a L c) := by rw [HV.out.cell, HCS.out k hlt, HVK.out, HLN.out]
                        have c1 : wr.cell? ⟨G, k, none⟩ = some (.slice (some ⟨gu, 0, none⟩) (L + 64) uc) := by rw [HG.out.cell, HU.out k hlt, HUK.out, HLN.out]
                        by_cases hi2 : i < L
                        · have hi3 : (i : Int) < L := by omega
                          have hi4 : (i : Int) < (L : Int) + 64 := by omega
                          have hi5 : (i : Int) < ((L + 64 : Nat) : Int) := by omega
                          have hi0 : (0 : Int) ≤ i := by omega
                          have HM := Lib.hid (fun W => mark_any k i W (by omega) (by omega) (by omega) (by omega))
                          have d1 : wr.cell? ⟨gu, i, none⟩ = some (.int .i64 (1000003 * ((k : Int) + 7) + (i : Int))) := by
                            have h1 := HP.out.own k hlt
                            rw [HUK.out] at h1
                            exact (own_cell h1).1 i _ (by rw [List.getElem?_append_left (by rw [mark_len, HLN.out]; exact hi2)]; exact mark_at _ (by rw [HLN.out]; exact hi2))
                          obtain ⟨ga, ac, hg, _, _⟩ := OwnI.seat (HP.out.rows.own k hlt) (by rw [mark_len, HLN.out]; omega)
                          rw [mark_len] at hg
                          have hg2 := hg.symm.trans HVK.out
                          injection hg2 with e1 e2 e3
                          subst e1
                          subst e3
                          have d0 : wr.cell? ⟨ga, i, none⟩ = some (.int .i64 (1000003 * ((k : Int) + 7) + (i : Int))) := by
                            have h1 := HP.out.rows.own k hlt
                            rw [HVK.out] at h1
                            exact (own_cell h1).1 i _ (mark_at _ (by rw [HLN.out]; exact hi2))
                          clear hg
                          generalize 1000003 * ((k : Int) + 7) + (i : Int) = y at d0 d1 HM
                          have q : (y == y) = true := by simp
                          go_wp2_with fail
                          go_quiet ((go_at_call 36; refine Calls.quiet_of_same ((HM.out _).mono fun _ _ h => ⟨h.1, h.2.symm⟩)))
                          go_wp2
                          go_roundw
                          case rel => exact ⟨i + 1, by go_num, by omega, HP.out.drewN _, HV.out.drewN _, HG.out.drewN _, below_drewN HW.out _⟩
                          case measure => simp [intOf]; omega
                        · have e : i = L := by omega
                          subst e
                          have hi3 : ¬ (i : Int) < i := by omega
                          go_wp2
                          go_roundw
                          case rel => exact ⟨k + 1, by go_num, by omega, HP.out, HV.out, HG.out, HW.out⟩
                          case measure => simp [intOf]; omega
                    · have e : n = k := by omega
                      subst e
                      have hlt2 : ¬ (n : Int) < n := by omega
                      go_wp2
                      go_ret
                      exact ⟨rfl, HW.out, HV.out.two⟩
end Go.Proofs.YtgpbpbhidemciaaGreat
