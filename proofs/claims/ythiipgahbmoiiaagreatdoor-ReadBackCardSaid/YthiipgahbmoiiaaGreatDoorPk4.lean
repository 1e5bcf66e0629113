/-
  Arrays of numbers are one just if all their numbers are. No condition beyond those that each theorem states.
  Package ir tells whether an end is right, and what is given of numbers, as the plain functions say. No condition beyond those that each theorem states.
  Rows of numbers that a call made, and appending numbers that lie somewhere to them. No condition beyond those that each theorem states.
  What is given of numbers is told as the plain function says. No condition beyond those that each theorem states.
  What an end needs, where it goes. No condition beyond those that each theorem states.
-/
import Derived.Test.YthiipgahbmoiiaaGreatDoorPk1
import Derived.Laws.StructEq
import Derived.Test.YthiipgahbmoiiaaGreatDoorPk2
import Derived.OwnWalk
import Derived.Deep.DeepMust
import Derived.Deep.RegionLaw
import Derived.Laws.AppendOwnNone
import Derived.Maps.AppendAt
import Derived.Test.YthiipgahbmoiiaaGreatDoorPk3
namespace Go.Proofs.YthiipgahbmoiiaaGreatDoor
open Go.RowKit

theorem int_size : (Tryz.prog.info? 3).map (·.size) = some 1 := by kernel_rfl
theorem u64_size : (Tryz.prog.info? 80).map (·.size) = some 1 := by kernel_rfl
theorem run_part_int {t : TypeId} {k : IntKind} (h : Tryz.prog.underlying t = some (.int k)) {cs : Array Value} {o : Nat} {v : Value} (hv : cs[o]? = some v) (w : World) : (part t cs o).run Tryz.prog w = .ok v w := by
  simp [part, isAgg, run_underlying h, hv]
theorem eql_arr2_at (d0 : Nat) (h3 : ∀ (x y : Int) (W : World), (Op.equalIn d0 3 (.int .i64 x) (.int .i64 y)).run Tryz.prog W = .ok (x == y) W) (a b c d : Int) (W : World) :
    (Op.equalIn (d0 + 1) 48 (.agg #[.int .i64 a, .int .i64 b]) (.agg #[.int .i64 c, .int .i64 d])).run Tryz.prog W = .ok (a == c && b == d) W := by
  obtain ⟨j, hj, hjs⟩ := Option.map_eq_some_iff.1 int_size
  simp only [Op.equalIn, Sem.run_bind, run_underlying Tryz.underlying48, Result.andThen_ok, Std.Legacy.Range.forIn_eq_forIn_range', Std.Legacy.Range.size]
  simp [sizeOf, typeInfo, hj, hjs, List.range']
  rw [run_part_int (v := .int .i64 a) Tryz.underlying3 (by rfl)]
  simp only [Result.andThen_ok]
  rw [run_part_int (v := .int .i64 c) Tryz.underlying3 (by rfl)]
  simp only [Result.andThen_ok]
  rw [h3]
  simp only [Result.andThen_ok]
  cases h : a == c
  · simp
  · simp only [Bool.true_eq_false, if_false, Bool.true_and]
    rw [run_part_int (v := .int .i64 b) Tryz.underlying3 (by rfl)]
    simp only [Result.andThen_ok]
    rw [run_part_int (v := .int .i64 d) Tryz.underlying3 (by rfl)]
    simp only [Result.andThen_ok]
    rw [h3]
    simp only [Result.andThen_ok]
    cases h : b == d <;> simp
theorem eql_arr2 (a b c d : Int) (W : World) : (Op.equalIn 10000 48 (.agg #[.int .i64 a, .int .i64 b]) (.agg #[.int .i64 c, .int .i64 d])).run Tryz.prog W = .ok (a == c && b == d) W :=
  eql_arr2_at 9999 (fun x y W => run_equalIn_int W 9998 _ .i64 .i64 x y Tryz.underlying3) a b c d W
theorem eql_arr4_at (d0 : Nat) (h3 : ∀ (x y : Int) (W : World), (Op.equalIn d0 80 (.int .u64 x) (.int .u64 y)).run Tryz.prog W = .ok (x == y) W) (a b c d a' b' c' d' : Int) (W : World) :
    (Op.equalIn (d0 + 1) 82 (.agg #[.int .u64 a, .int .u64 b, .int .u64 c, .int .u64 d]) (.agg #[.int .u64 a', .int .u64 b', .int .u64 c', .int .u64 d'])).run Tryz.prog W = .ok (a == a' && b == b' && c == c' && d == d') W := by
  obtain ⟨j, hj, hjs⟩ := Option.map_eq_some_iff.1 u64_size
  simp only [Op.equalIn, Sem.run_bind, run_underlying Tryz.underlying82, Result.andThen_ok, Std.Legacy.Range.forIn_eq_forIn_range', Std.Legacy.Range.size]
  simp [sizeOf, typeInfo, hj, hjs, List.range']
  rw [run_part_int (v := .int .u64 a) Tryz.underlying80 (by rfl)]
  simp only [Result.andThen_ok]
  rw [run_part_int (v := .int .u64 a') Tryz.underlying80 (by rfl)]
  simp only [Result.andThen_ok]
  rw [h3]
  simp only [Result.andThen_ok]
  cases h : a == a'
  · simp
  simp only [Bool.true_eq_false, if_false, Bool.true_and]
  rw [run_part_int (v := .int .u64 b) Tryz.underlying80 (by rfl)]
  simp only [Result.andThen_ok]
  rw [run_part_int (v := .int .u64 b') Tryz.underlying80 (by rfl)]
  simp only [Result.andThen_ok]
  rw [h3]
  simp only [Result.andThen_ok]
  cases h : b == b'
  · simp
  simp only [Bool.true_eq_false, if_false, Bool.true_and]
  rw [run_part_int (v := .int .u64 c) Tryz.underlying80 (by rfl)]
  simp only [Result.andThen_ok]
  rw [run_part_int (v := .int .u64 c') Tryz.underlying80 (by rfl)]
  simp only [Result.andThen_ok]
  rw [h3]
  simp only [Result.andThen_ok]
  cases h : c == c'
  · simp
  simp only [Bool.true_eq_false, if_false, Bool.true_and]
  rw [run_part_int (v := .int .u64 d) Tryz.underlying80 (by rfl)]
  simp only [Result.andThen_ok]
  rw [run_part_int (v := .int .u64 d') Tryz.underlying80 (by rfl)]
  simp only [Result.andThen_ok]
  rw [h3]
  simp only [Result.andThen_ok]
  cases h : d == d' <;> simp
theorem eql_set (a b c d a' b' c' d' : Int) (W : World) :
    (Op.equalIn 10000 82 (.agg #[.int .u64 a, .int .u64 b, .int .u64 c, .int .u64 d]) (.agg #[.int .u64 a', .int .u64 b', .int .u64 c', .int .u64 d'])).run Tryz.prog W = .ok (a == a' && b == b' && c == c' && d == d') W :=
  eql_arr4_at 9999 (fun x y W => run_equalIn_int W 9998 _ .u64 .u64 x y Tryz.underlying80) a b c d a' b' c' d' W
end Go.Proofs.YthiipgahbmoiiaaGreatDoor
namespace Go.Proofs.YthiipgahbmoiiaaGreatDoor
open Go.RowKit

theorem box4i {W : World} {g : Nat} {t : TypeId} {a b c d : Value} (h : Blk W g t #[a, b, c, d]) :
    W.cell? ⟨g, 0, none⟩ = some a ∧ W.cell? ⟨g, 1, none⟩ = some b ∧ W.cell? ⟨g, 2, none⟩ = some c ∧ W.cell? ⟨g, 3, none⟩ = some d := ⟨h.cell 0, h.cell 1, h.cell 2, h.cell 3⟩
def termC (t : Tt) : Array Value := #[.int .i64 t.kind, .int .i64 t.a, .int .i64 t.t0, .int .i64 t.t1]
set_option maxHeartbeats 4000000 in
set_option maxRecDepth 100000 in
theorem isTerm_any (t : Tt) (w : World) : Calls Tryz.prog 104 #[termV t] w fun e w' => e = .returned (.bool (isTermB t)) ∧ Below w.heap.size w w' := by
  have HE := Lib.hid (isTermB.eq_1 t)
  unfold termV
  have HX : Hid (Blk (w.alloc (.cells (termC t) 50)) w.heap.size 50 (termC t)) := Blk.new w _ _
  have HW : Hid (Below w.heap.size w (w.alloc (.cells (termC t) 50))) := (Below.refl _ w).alloc (Nat.le_refl _) _
  by_cases h1 : t.kind = 1
  · have q1 : (t.kind == 1) = true := by simp [h1]
    rw [if_pos h1] at HE
    clear h1
    go_enter Tryz.func104, Tryz.ntmps104
    cases h2 : t.a == 0
    · rw [h2] at HE
      go_wp2
      go_ret
      exact ⟨by rw [HE.out]; rfl, HW.out⟩
    · rw [h2] at HE
      go_wp2
      go_ret
      exact ⟨by rw [HE.out]; rfl, HW.out⟩
  rw [if_neg h1] at HE
  have q1 : (t.kind == 1) = false := by simp [h1]
  by_cases h2 : t.kind = 2
  · have q2 : (t.kind == 2) = true := by simp [h2]
    rw [if_pos h2] at HE
    clear h1 h2
    have HI : Hid (IntsW ((w.alloc (.cells (termC t) 50)).alloc (.cells #[.int .i64 t.a] 3)) (some ⟨w.heap.size + 1, 0, none⟩) [t.a]) := by
      have := IntsW.row (l := [t.a]) (Blk.new (w.alloc (.cells (termC t) 50)) 3 #[.int .i64 t.a]) (fun k x hx => by
        cases k with
        | zero => simpa using hx
        | succ k => simp at hx)
      simpa [Hid] using this
    go_enter Tryz.func104, Tryz.ntmps104
    go_wp2_with fail
    refine (areVars_any [t.a] _ 1 _ (by simp) HI.out).mono ?_
    rintro e w1 ⟨rfl, rfl⟩
    go_wp2
    go_ret
    exact ⟨by rw [HE.out]; simp, HW.out.alloc (by have := HW.out.size; omega) _⟩
  rw [if_neg h2] at HE
  have q2 : (t.kind == 2) = false := by simp [h2]
  by_cases h3 : t.kind = 3
  · have q3 : (t.kind == 3) = true := by simp [h3]
    rw [if_pos h3] at HE
    clear h1 h2 h3
    go_enter Tryz.func104, Tryz.ntmps104
    go_wp2_with fail
    refine (fits_any (t.a != 0) t.a _).mono ?_
    rintro e w1 ⟨rfl, hb⟩
    have HX1 : Hid (Blk w1 w.heap.size 50 (termC t)) := HX.out.below hb HX.out.lt
    have HW1 : Hid (Below w.heap.size w w1) := HW.out.trans (hb.mono HW.out.size)
    clear hb HX HW
    obtain ⟨c0, c1, c2, c3⟩ := box4i HX1.out
    have hq := fun W => eql_arr2 t.t0 t.t1 0 0 W
    cases hf : fitsB (t.a != 0) t.a
    · rw [hf] at HE
      go_wp2
      go_ret
      exact ⟨by rw [HE.out]; rfl, HW1.out⟩
    rw [hf] at HE
    go_wp2
    go_ret
    exact ⟨by rw [HE.out]; rfl, HW1.out⟩
  rw [if_neg h3] at HE
  have q3 : (t.kind == 3) = false := by simp [h3]
  by_cases h4 : t.kind = 4
  · have q4 : (t.kind == 4) = true := by simp [h4]
    rw [if_pos h4] at HE
    clear h1 h2 h3 h4
    go_enter Tryz.func104, Tryz.ntmps104
    cases h2 : t.a == 0
    · rw [h2] at HE
      go_wp2
      go_ret
      exact ⟨by rw [HE.out]; rfl, HW.out⟩
    rw [h2] at HE
    have hq := fun W => eql_arr2 t.t0 t.t1 0 0 W
    go_wp2
    go_ret
    exact ⟨by rw [HE.out]; rfl, HW.out⟩
  rw [if_neg h4] at HE
  have q4 : (t.kind == 4) = false := by simp [h4]
  clear h1 h2 h3 h4
  go_enter Tryz.func104, Tryz.ntmps104
  go_wp2
  go_ret
  exact ⟨by rw [HE.out]; rfl, HW.out⟩

end Go.Proofs.YthiipgahbmoiiaaGreatDoor
namespace Go.Proofs.YthiipgahbmoiiaaGreatDoor
open Go.RowKit

theorem int_info : (Tryz.prog.info? 3).map (fun i => (i.zero, i.size, i.bytes)) = some (some (.int .i64 0), 1, 8) := by kernel_rfl
/-- Numbers that a call made. -/
def OwnI (w : World) (B : Nat) (v : Value) (l : List Int) : Prop := w.ownsRow B 3 1 v l.length (l.map (Value.int .i64))
theorem OwnI.more {w2 : World} {B gg cap : Nat} {l : List Int} {x : Int} (h : w2.ownsRow B 3 1 (.slice (some ⟨gg, 0, none⟩) (l.length + 1) cap) (l.length + 1) (l.map (Value.int .i64) ++ [.int .i64 x])) :
    OwnI w2 B (.slice (some ⟨gg, 0, none⟩) (l.length + 1) cap) (l ++ [x]) := by
  unfold OwnI
  rw [List.length_append, List.map_append]
  simpa using h
theorem grownBy_same (w : World) (row : Option Nat) : w.grownBy w row := ⟨rfl, rfl, rfl, Nat.le_refl _, fun _ _ _ => rfl⟩
theorem OwnI.shape {w : World} {B : Nat} {v : Value} {l : List Int} (h : OwnI w B v l) : ∃ a c, v = .slice a l.length c ∧ (a = none → c = 0) ∧ IntsW w a l := by
  have h0 := h
  rcases h.2 with ⟨rfl, h1⟩ | ⟨g, cap, cur, rfl, _⟩
  · have : l = [] := List.length_eq_zero_iff.1 h1
    subst this
    exact ⟨none, 0, rfl, fun _ => rfl, IntsW.nil _ _⟩
  · exact ⟨some ⟨g, 0, none⟩, cap, rfl, (fun h => by cases h), IntsW.own h0⟩
/-- A new block of numbers is a row of the call's own. -/
theorem OwnI.new {w : World} {B g : Nat} {l : List Int} (h : Blk w g 3 (l.map (Value.int .i64)).toArray) (hB : B ≤ g) (hl : l.length ≤ 1000000) : OwnI w B (.slice (some ⟨g, 0, none⟩) l.length l.length) l :=
  ⟨by simp, .inr ⟨g, l.length, _, rfl, hB, h, Nat.le_refl _, by simp only [maxLen]; omega, by simp, by simp [List.take_of_length_le]⟩⟩
theorem wpList_append_ints {ops : Array Oper} {rest : List Oper} {o : Oper} {a : Act} {w : World} {Q : Exit → Act → World → Prop} (hgd : o.guard = none) (s x : Operand)
    (ho : o.op = .call { callee := .builtin .append, args := #[s, x], argTypes := #[22, 22] }) (base : Nat) (v : Value) (l0 : List Int) (hs : a.eval s = v) (hown : OwnI w base v l0)
    (sa : Option Addr) (c : Nat) (l : List Int) (hx : a.eval x = .slice sa l.length c) (hn : sa = none → c = 0) (hI : IntsW w sa l) (hb : l0.length + l.length ≤ 2000000) (hbase : base ≤ w.heap.size)
    (h : ∀ v' w', OwnI w' base v' (l0 ++ l) → w.grownBy w' v.ownBlock → (v'.ownBlock = v.ownBlock ∨ v'.ownBlock = some w.heap.size) → wpList Tryz.prog ops Q rest (a.put o.dst v') w') : wpList Tryz.prog ops Q (o :: rest) a w := by
  obtain ⟨i0, hi0, hz0, hz1, hz2⟩ := info_parts int_info
  cases sa with
  | none =>
    have hl : l = [] := by
      cases l with
      | nil => rfl
      | cons y l =>
        obtain ⟨g, p, h1, _⟩ := hI 0 y rfl
        cases h1
    subst hl
    rw [hn rfl] at hx
    refine wpList_append_own_none hgd s x _ ho base _ i0 1 Tryz.underlying22 hi0 v l0.length _ hs hown hx (h v w (by simpa using hown) (grownBy_same _ _) (.inl rfl))
  | some ad =>
    refine wpList_plain hgd fun K hK => ?_
    obtain ⟨v', w', hr, h2, h3, _, h5⟩ := run_append_own_at (P := Tryz.prog) w base 22 o.type 3 i0 _ 1 8 Tryz.underlying22 hi0 hz0 hz1 hz2 rfl (by omega) v l0.length _ hown ad l.length c (l.map (Value.int .i64)) (by simp) (fun j u hu => by
      rw [List.getElem?_map, Option.map_eq_some_iff] at hu
      obtain ⟨y, hy, rfl⟩ := hu
      obtain ⟨g, p, h1, _, h4⟩ := hI j y hy
      simp only [Option.some.injEq] at h1
      subst h1
      have e : (⟨g, p, none⟩ : Addr).add j = ⟨g, p + j, none⟩ := by
        unfold Addr.add
        split <;> simp_all
      rw [e]
      exact h4) (fun u hu => by
      obtain ⟨y, _, rfl⟩ := List.mem_map.1 hu
      rfl) (by simp only [maxLen]; omega) (by omega) hbase
    unfold Oper.wp execOp
    simp only [ho, resolve, invoke, builtin, Sem.run_bind, Sem.run_pure, Result.andThen_ok, List.map_toArray, List.map_cons, List.map_nil, hs, hx, hr]
    refine hK _ _ (h v' w' ?_ h3 h5)
    unfold OwnI
    rw [List.length_append, List.map_append]
    exact h2
end Go.Proofs.YthiipgahbmoiiaaGreatDoor
namespace Go.Proofs.YthiipgahbmoiiaaGreatDoor
open Go.RowKit

set_option maxHeartbeats 1000000 in
set_option maxRecDepth 100000 in
theorem given_any (l : List Int) (a : Option Addr) (c : Nat) (w : World) (hl : l.length ≤ 1000000) (hI : IntsW w a l) :
    Calls Tryz.prog 148 #[.slice a l.length c] w fun e w' => ∃ v, e = .returned v ∧ OwnI w' w.heap.size v (givenL l) ∧ Below w.heap.size w w' := by
  obtain ⟨i0, hi0, hz0, hz1, hz2⟩ := info_parts int_info
  have HI := Lib.hid hI
  clear hI
  go_enter Tryz.func148, Tryz.ntmps148
  go_wp2
  go_loopw [2, 7] (fun v k wr => ∃ (j : Nat) (o : List Int) (oa : Option Addr) (oc : Nat), v = .slice oa o.length oc ∧ k = .int .i64 j ∧ j ≤ l.length ∧ o.length ≤ j ∧ Hid (givenL l = o ++ givenL (l.drop j)) ∧ OwnI wr w.heap.size v o ∧ Below w.heap.size w wr) (fun _ k _ => l.length - (intOf k).toNat)
  case atStart => exact ⟨0, [], none, 0, rfl, rfl, Nat.zero_le _, Nat.le_refl _, rfl, World.ownsRow_nil _ _ _ _, Below.refl _ _⟩
  case round =>
    obtain ⟨j, o, oa, oc, rfl, rfl, hj, ho, HA, hO, hB⟩ := hrel
    have HO := Lib.hid hO
    have HB := Lib.hid hB
    clear hO hB
    by_cases hlt : j < l.length
    · have hlt' : (j : Int) < l.length := by omega
      have hj0 : (0 : Int) ≤ j := by omega
      obtain ⟨x, hx⟩ : ∃ x, l[j]? = some x := ⟨_, List.getElem?_eq_getElem hlt⟩
      obtain ⟨g, p, rfl, hg, h0⟩ := (HI.out.below HB.out) j x hx
      have HD : Hid (givenL l = o ++ ((if x != 0 then [x] else []) ++ givenL (l.drop (j + 1)))) := by
        show _ = _
        rw [HA.out, List.drop_eq_getElem_cons hlt, (List.getElem?_eq_some_iff.1 hx).2]
        unfold givenL
        rw [List.filter_cons]
        split <;> simp
      clear hx HA
      cases hn : x != 0
      · rw [hn] at HD
        go_wp2
        go_roundw
        case rel => exact ⟨j + 1, o, oa, oc, rfl, by go_num, by omega, by omega, by have := HD.out; simpa [Hid] using this, HO.out, HB.out⟩
        case measure => simp [intOf]; omega
      · rw [hn] at HD
        go_wp2_with (at_builtin; go_must (refine wpList_append_lies _ rfl _ _ _ rfl w.heap.size 3 i0 _ 1 8 Tryz.underlying22 hi0 hz0 hz1 hz2 rfl (by omega) (.slice oa o.length oc) o.length (o.map (Value.int .i64)) rfl (World.ownsRow.alloc HO.out _) ⟨wr.heap.size, 0, none⟩ 1 1 [.int .i64 x] rfl rfl (World.news_of_block (heap_alloc_new wr _)) (by simp [Value.oneCell']) (by omega) (by simp only [maxLen]; omega) (by omega) (by have := HB.out.size; simp; omega) (wr.heap.size + 1) (by simp) ?_; intro gg cap w2 hown2 hgrow hat hlt2))
        have HO2 := Lib.hid (OwnI.more hown2)
        have HB2 : Hid (Below w.heap.size w w2) := (HB.out.alloc (by have := HB.out.size; omega) _).grown hgrow (by have := HB.out.size; simp; omega) (fun k hk => (HO.out.lt k hk).1)
        clear hown2 hgrow hat hlt2
        go_wp2
        go_roundw
        case rel => exact ⟨j + 1, o ++ [x], some ⟨gg, 0, none⟩, cap, by simp, by go_num, by omega, by simp; omega, by have := HD.out; simpa [Hid] using this, HO2.out, HB2.out⟩
        case measure => simp [intOf]; omega
    · have e : j = l.length := by omega
      subst e
      go_wp2
      go_ret
      refine ⟨_, rfl, ?_, HB.out⟩
      have := HA.out
      simp [givenL] at this
      unfold givenL
      rw [this]
      exact HO.out
end Go.Proofs.YthiipgahbmoiiaaGreatDoor
namespace Go.Proofs.YthiipgahbmoiiaaGreatDoor
open Go.RowKit

/-- Of a right instruction there are few arguments. -/
theorem ins_few {x : Ii} (h : isInsB x = true) : x.args.length ≤ 8 := by
  unfold isInsB at h
  split at h
  · unfold isCallB at h
    simp only [Bool.and_eq_true, decide_eq_true_eq] at h
    exact h.1.1.1.1.1.2
  · unfold isOpB at h
    simp only [Bool.and_eq_true, List.isEmpty_iff] at h
    rw [h.1.2]
    simp
set_option maxHeartbeats 1000000 in
set_option maxRecDepth 100000 in
theorem needs_any (t : Tt) (w : World) :
    Calls Tryz.prog 108 #[termV t] w fun e w' => ∃ v, e = .returned v ∧ OwnI w' w.heap.size v (needsL t) ∧ Below w.heap.size w w' := by
  have HX : Hid (Blk (w.alloc (.cells (termC t) 50)) w.heap.size 50 (termC t)) := Blk.new w _ _
  have HW : Hid (Below w.heap.size w (w.alloc (.cells (termC t) 50))) := (Below.refl _ w).alloc (Nat.le_refl _) _
  have HC := Lib.hid (isTerm_any t (w.alloc (.cells (termC t) 50)))
  have HE := Lib.hid (needsL.eq_1 t)
  unfold termV at HC ⊢
  go_enter Tryz.func108, Tryz.ntmps108
  go_wp2_with fail
  refine HC.out.mono ?_
  rintro e w1 ⟨rfl, hb⟩
  have HX1 : Hid (Blk w1 w.heap.size 50 (termC t)) := HX.out.below hb HX.out.lt
  have HW1 : Hid (Below w.heap.size w w1) := HW.out.trans (hb.mono HW.out.size)
  clear hb HX HW HC
  obtain ⟨c0, c1, c2, c3⟩ := box4i HX1.out
  cases hi : isTermB t
  · rw [hi] at HE
    go_wp2
    go_ret
    refine ⟨_, rfl, ?_, HW1.out⟩
    rw [HE.out]
    exact World.ownsRow_nil _ _ _ _
  · rw [hi] at HE
    have HN : Hid (Blk (w1.alloc (.cells #[.int .i64 t.a] 3)) w1.heap.size 3 #[.int .i64 t.a]) := Blk.new w1 _ _
    have HW2 : Hid (Below w.heap.size w (w1.alloc (.cells #[.int .i64 t.a] 3))) := HW1.out.alloc (by have := HW1.out.size; omega) _
    have HI2 : Hid (IntsW (w1.alloc (.cells #[.int .i64 t.a] 3)) (some ⟨w1.heap.size, 0, none⟩) [t.a]) := IntsW.row HN.out (fun k x hx => by
      cases k with
      | zero => simpa using hx
      | succ k => simp at hx)
    go_wp2_with fail
    refine (given_any [t.a] _ 1 _ (by simp) HI2.out).mono ?_
    rintro e w3 ⟨v3, rfl, ho3, hb3⟩
    go_wp2
    go_ret
    refine ⟨v3, rfl, ?_, HW2.out.trans (hb3.mono HW2.out.size)⟩
    rw [HE.out]
    exact own_base ho3 HW2.out.size
set_option maxHeartbeats 1000000 in
set_option maxRecDepth 100000 in
theorem to_any (t : Tt) (w : World) :
    Calls Tryz.prog 59 #[termV t] w fun e w' => ∃ v, e = .returned v ∧ OwnI w' w.heap.size v (toL t) ∧ Below w.heap.size w w' := by
  have HX : Hid (Blk (w.alloc (.cells (termC t) 50)) w.heap.size 50 (termC t)) := Blk.new w _ _
  have HW : Hid (Below w.heap.size w (w.alloc (.cells (termC t) 50))) := (Below.refl _ w).alloc (Nat.le_refl _) _
  have HC := Lib.hid (isTerm_any t (w.alloc (.cells (termC t) 50)))
  have HE := Lib.hid (toL.eq_1 t)
  unfold termV at HC ⊢
  go_enter Tryz.func59, Tryz.ntmps59
  go_wp2_with fail
  refine HC.out.mono ?_
  rintro e w1 ⟨rfl, hb⟩
  have HX1 : Hid (Blk w1 w.heap.size 50 (termC t)) := HX.out.below hb HX.out.lt
  have HW1 : Hid (Below w.heap.size w w1) := HW.out.trans (hb.mono HW.out.size)
  clear hb HX HW HC
  obtain ⟨c0, c1, c2, c3⟩ := box4i HX1.out
  cases hi : isTermB t
  · rw [hi] at HE
    go_wp2
    go_ret
    refine ⟨_, rfl, ?_, HW1.out⟩
    rw [HE.out]
    exact World.ownsRow_nil _ _ _ _
  rw [hi] at HE
  by_cases h1 : t.kind = 1
  · have q1 : (t.kind == 1) = true := by simp [h1]
    rw [if_pos h1] at HE
    have HN : Hid (Blk (w1.alloc (.cells #[.int .i64 t.t0] 3)) w1.heap.size 3 ([t.t0].map (Value.int .i64)).toArray) := Blk.new w1 _ _
    go_wp2
    go_ret
    refine ⟨_, rfl, ?_, HW1.out.alloc (by have := HW1.out.size; omega) _⟩
    rw [HE.out]
    exact OwnI.new HN.out HW1.out.size (by simp)
  rw [if_neg h1] at HE
  have q1 : (t.kind == 1) = false := by simp [h1]
  by_cases h2 : t.kind = 2
  · have q2 : (t.kind == 2) = true := by simp [h2]
    rw [if_pos h2] at HE
    have HN : Hid (Blk (w1.alloc (.cells #[.int .i64 t.t0, .int .i64 t.t1] 3)) w1.heap.size 3 ([t.t0, t.t1].map (Value.int .i64)).toArray) := Blk.new w1 _ _
    go_wp2
    go_ret
    refine ⟨_, rfl, ?_, HW1.out.alloc (by have := HW1.out.size; omega) _⟩
    rw [HE.out]
    exact OwnI.new HN.out HW1.out.size (by simp)
  rw [if_neg h2] at HE
  have q2 : (t.kind == 2) = false := by simp [h2]
  go_wp2
  go_ret
  refine ⟨_, rfl, ?_, HW1.out⟩
  rw [HE.out]
  exact World.ownsRow_nil _ _ _ _
end Go.Proofs.YthiipgahbmoiiaaGreatDoor
