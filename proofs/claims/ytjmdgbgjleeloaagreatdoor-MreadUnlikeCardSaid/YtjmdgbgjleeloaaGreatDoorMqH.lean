/-
  Whether two targets are the same (package intarsiakit's SameTarget), told exactly. No condition beyond those that each theorem states.
-/
import Derived.Test.YtjmdgbgjleeloaaGreatDoorPk40
namespace Go.Proofs.YtjmdgbgjleeloaaGreatDoor
open Go.RowKit

theorem eql_term2 (t u : Tt) (W : World) : (Op.equalIn 10000 51 (.agg #[.int .i64 t.kind, .int .i64 t.a, .int .i64 t.t0, .int .i64 t.t1]) (.agg #[.int .i64 u.kind, .int .i64 u.a, .int .i64 u.t0, .int .i64 u.t1])).run Tryz.prog W = .ok (t.kind == u.kind && (t.a == u.a && (t.t0 == u.t0 && t.t1 == u.t1))) W := by
  rw [show (10000 : Nat) = 9999 + 1 from rfl, run_equalIn_struct W 9999 51 _ _ (by kernel_rfl) (by kernel_rfl)]
  simp only [Program.fieldsOf, Tryz.underlying51, Op.eqFields]
  simp only [show ("Kind" : String) ≠ "_" by decide, show ("A" : String) ≠ "_" by decide, show ("To" : String) ≠ "_" by decide, ne_eq, not_false_eq_true, if_true, Sem.run_bind, Sem.run_ite]
  rw [run_part_int (v := .int .i64 t.kind) Tryz.underlying48 (by rfl)]
  simp only [Result.andThen_ok]
  rw [run_part_int (v := .int .i64 u.kind) Tryz.underlying48 (by rfl)]
  simp only [Result.andThen_ok]
  rw [run_equalIn_int W 9998 _ .i64 .i64 _ _ Tryz.underlying48]
  simp only [Result.andThen_ok]
  cases h0 : t.kind == u.kind
  · simp
  simp only [Bool.not_true, Bool.false_eq_true, if_false, Bool.true_and]
  rw [run_part_int (v := .int .i64 t.a) Tryz.underlying3 (by rfl)]
  simp only [Result.andThen_ok]
  rw [run_part_int (v := .int .i64 u.a) Tryz.underlying3 (by rfl)]
  simp only [Result.andThen_ok]
  rw [run_equalIn_int W 9998 _ .i64 .i64 _ _ Tryz.underlying3]
  simp only [Result.andThen_ok]
  cases h1 : t.a == u.a
  · simp
  simp only [Bool.not_true, Bool.false_eq_true, if_false, Bool.true_and]
  rw [run_part_arr2]
  simp only [Result.andThen_ok]
  rw [run_part_arr2]
  simp only [Result.andThen_ok]
  rw [eql_arr2_at 9998 (fun x y W => run_equalIn_int W 9997 _ .i64 .i64 x y Tryz.underlying3)]
  cases h2 : t.t0 == u.t0 && t.t1 == u.t1 <;> simp [Result.andThen_ok]
theorem ff {a b : Int} (h : ¬ a = b) : (a == b) = false := by simpa using h
theorem tt (a : Int) : (a == a) = true := by simp
theorem insDiff {x y : Ii} (h : x ≠ y) : ¬ x.op = y.op ∨ (x.op = y.op ∧ (¬ x.dst = y.dst ∨ (x.dst = y.dst ∧ (¬ x.a = y.a ∨ (x.a = y.a ∧ (¬ x.b = y.b ∨ (x.b = y.b ∧ (¬ x.imm = y.imm ∨ (x.imm = y.imm ∧ (¬ x.callee = y.callee ∨ (x.callee = y.callee ∧ (¬ x.args = y.args ∨ (x.args = y.args ∧ ¬ x.many = y.many))))))))))))) := by
  by_cases h0 : x.op = y.op
  · refine .inr ⟨h0, ?_⟩
    by_cases h1 : x.dst = y.dst
    · refine .inr ⟨h1, ?_⟩
      by_cases h2 : x.a = y.a
      · refine .inr ⟨h2, ?_⟩
        by_cases h3 : x.b = y.b
        · refine .inr ⟨h3, ?_⟩
          by_cases h4 : x.imm = y.imm
          · refine .inr ⟨h4, ?_⟩
            by_cases h5 : x.callee = y.callee
            · refine .inr ⟨h5, ?_⟩
              by_cases h6 : x.args = y.args
              · refine .inr ⟨h6, fun h7 => h ?_⟩
                cases x; cases y; simp_all
              · exact .inl h6
            · exact .inl h5
          · exact .inl h4
        · exact .inl h3
      · exact .inl h2
    · exact .inl h1
  · exact .inl h0
set_option maxHeartbeats 4000000 in
set_option maxRecDepth 100000 in
theorem sameIns_diff (x y : Ii) (a a' : Option Addr) (c c' : Nat) (w : World) (hd : x ≠ y) (hl : x.args.length ≤ 1000000) (hl' : y.args.length ≤ 1000000) (hI : IntsW w a x.args) (hJ : IntsW w a' y.args) :
    Calls Tryz.prog 149 #[insV x a c, insV y a' c'] w fun e w' => e = .returned (.bool false) ∧ Below w.heap.size w w' := by
  have HX : Hid (Blk ((w.alloc (.cells (insC x a c) 46)).alloc (.cells (insC y a' c') 46)) w.heap.size 46 (insC x a c)) := Lib.hid ((Blk.new w _ _).alloc _)
  have HY : Hid (Blk ((w.alloc (.cells (insC x a c) 46)).alloc (.cells (insC y a' c') 46)) (w.heap.size + 1) 46 (insC y a' c')) := Lib.hid (new_two w _ _ _)
  have HW : Hid (Below w.heap.size w ((w.alloc (.cells (insC x a c) 46)).alloc (.cells (insC y a' c') 46))) := Lib.hid (((Below.refl _ w).alloc (Nat.le_refl _) _).alloc (by simp) _)
  have HC := Lib.hid (sameInts_any x.args y.args a a' c c' _ (by omega) (by omega) (hI.below HW.out) (hJ.below HW.out))
  have SX := insC.eq_1 x a c
  have SY := insC.eq_1 y a' c'
  rw [SX, SY] at HX HY HW HC
  clear hI hJ SX SY
  have hdd := insDiff hd
  clear hd
  unfold insV
  rcases hdd with hk | ⟨e0, hdd⟩
  · have q0 : (x.op == y.op) = false := ff hk
    clear hk HC
    go_enter Tryz.func149, Tryz.ntmps149
    go_wp2
    go_ret
    exact ⟨rfl, HW.out⟩
  rcases hdd with hk | ⟨e1, hdd⟩
  · have q0 : (x.op == y.op) = true := by rw [e0]; simp
    have q1 : (x.dst == y.dst) = false := ff hk
    clear hk HC
    clear e0
    go_enter Tryz.func149, Tryz.ntmps149
    go_wp2
    go_ret
    exact ⟨rfl, HW.out⟩
  rcases hdd with hk | ⟨e2, hdd⟩
  · have q0 : (x.op == y.op) = true := by rw [e0]; simp
    have q1 : (x.dst == y.dst) = true := by rw [e1]; simp
    have q2 : (x.a == y.a) = false := ff hk
    clear hk HC
    clear e0 e1
    go_enter Tryz.func149, Tryz.ntmps149
    go_wp2
    go_ret
    exact ⟨rfl, HW.out⟩
  rcases hdd with hk | ⟨e3, hdd⟩
  · have q0 : (x.op == y.op) = true := by rw [e0]; simp
    have q1 : (x.dst == y.dst) = true := by rw [e1]; simp
    have q2 : (x.a == y.a) = true := by rw [e2]; simp
    have q3 : (x.b == y.b) = false := ff hk
    clear hk HC
    clear e0 e1 e2
    go_enter Tryz.func149, Tryz.ntmps149
    go_wp2
    go_ret
    exact ⟨rfl, HW.out⟩
  rcases hdd with hk | ⟨e4, hdd⟩
  · have q0 : (x.op == y.op) = true := by rw [e0]; simp
    have q1 : (x.dst == y.dst) = true := by rw [e1]; simp
    have q2 : (x.a == y.a) = true := by rw [e2]; simp
    have q3 : (x.b == y.b) = true := by rw [e3]; simp
    have q4 : (x.imm == y.imm) = false := ff hk
    clear hk HC
    clear e0 e1 e2 e3
    go_enter Tryz.func149, Tryz.ntmps149
    go_wp2
    go_ret
    exact ⟨rfl, HW.out⟩
  rcases hdd with hk | ⟨e5, hdd⟩
  · have q0 : (x.op == y.op) = true := by rw [e0]; simp
    have q1 : (x.dst == y.dst) = true := by rw [e1]; simp
    have q2 : (x.a == y.a) = true := by rw [e2]; simp
    have q3 : (x.b == y.b) = true := by rw [e3]; simp
    have q4 : (x.imm == y.imm) = true := by rw [e4]; simp
    have q5 : (x.callee == y.callee) = false := ff hk
    clear hk HC
    clear e0 e1 e2 e3 e4
    go_enter Tryz.func149, Tryz.ntmps149
    go_wp2
    go_ret
    exact ⟨rfl, HW.out⟩
  rcases hdd with hk | ⟨e6, hdd⟩
  · have q0 : (x.op == y.op) = true := by rw [e0]; simp
    have q1 : (x.dst == y.dst) = true := by rw [e1]; simp
    have q2 : (x.a == y.a) = true := by rw [e2]; simp
    have q3 : (x.b == y.b) = true := by rw [e3]; simp
    have q4 : (x.imm == y.imm) = true := by rw [e4]; simp
    have q5 : (x.callee == y.callee) = true := by rw [e5]; simp
    rw [decide_eq_false hk] at HC
    clear e0 e1 e2 e3 e4 e5
    go_enter Tryz.func149, Tryz.ntmps149
    go_wp2_with fail
    refine HC.out.mono ?_
    rintro e w1 ⟨rfl, hb⟩
    have HW1 : Hid (Below w.heap.size w w1) := Lib.hid (HW.out.trans (hb.mono HW.out.size))
    clear hb HX HY HW HC
    go_wp2
    go_ret
    exact ⟨rfl, HW1.out⟩
  have q0 : (x.op == y.op) = true := by rw [e0]; simp
  have q1 : (x.dst == y.dst) = true := by rw [e1]; simp
  have q2 : (x.a == y.a) = true := by rw [e2]; simp
  have q3 : (x.b == y.b) = true := by rw [e3]; simp
  have q4 : (x.imm == y.imm) = true := by rw [e4]; simp
  have q5 : (x.callee == y.callee) = true := by rw [e5]; simp
  have hk := hdd
  have q7 : (x.many == y.many) = false := ff hk
  rw [decide_eq_true e6] at HC
  clear e0 e1 e2 e3 e4 e5 e6
  go_enter Tryz.func149, Tryz.ntmps149
  go_wp2_with fail
  refine HC.out.mono ?_
  rintro e w1 ⟨rfl, hb⟩
  have HX1 := Lib.hid (HX.out.below hb HX.out.lt)
  have HY1 := Lib.hid (HY.out.below hb HY.out.lt)
  have HW1 : Hid (Below w.heap.size w w1) := Lib.hid (HW.out.trans (hb.mono HW.out.size))
  clear hb HX HY HW HC
  have c7 : w1.cell? ⟨w.heap.size, 7, none⟩ = some (.int .i64 x.many) := HX1.out.cell 7
  have d7 : w1.cell? ⟨w.heap.size + 1, 7, none⟩ = some (.int .i64 y.many) := HY1.out.cell 7
  go_wp2
  go_ret
  exact ⟨rfl, HW1.out⟩
end Go.Proofs.YtjmdgbgjleeloaaGreatDoor
