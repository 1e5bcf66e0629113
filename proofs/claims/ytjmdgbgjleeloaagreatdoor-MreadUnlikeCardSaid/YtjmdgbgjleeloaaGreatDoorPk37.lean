/-
  How great a target is, counted until 600 is passed: the number itself. No condition beyond those that each theorem states.
  The same blocks, the same functions are told to be the same. No condition beyond those that each theorem states.
-/
import Derived.Test.YtjmdgbgjleeloaaGreatDoorPk7
import Derived.Test.YtjmdgbgjleeloaaGreatDoorPk35
import Derived.Deep.RegionWith
import Derived.Test.YtjmdgbgjleeloaaGreatDoorPk22
import Derived.Test.YtjmdgbgjleeloaaGreatDoorPk4
import Derived.Deep.RegionHeld3
namespace Go.Proofs.YtjmdgbgjleeloaaGreatDoor
open Go.RowKit

def cntI : Nat → List Ii → Nat
  | n, [] => n
  | n, y :: r => if n ≤ 600 then cntI (n + y.args.length) r else n
def cntB : Nat → List Bb → Nat
  | n, [] => n
  | n, x :: r => if n ≤ 600 then cntB (cntI (n + 1 + x.ins.length) x.ins) r else n
/-- Few blocks, few lines. -/
structure FewL (l : List Bb) : Prop where
  b : l.length ≤ 600
  i : ∀ x ∈ l, x.ins.length ≤ 600 ∧ ∀ i ∈ x.ins, i.args.length ≤ 600
  n : linesN l ≤ 1200
theorem cntI_few : ∀ (l : List Ii) (n : Nat), n ≤ cntI n l ∧ (cntI n l ≤ 600 → ∀ y ∈ l, y.args.length ≤ 600) := by
  intro l
  induction l with
  | nil => intro n; exact ⟨Nat.le_refl _, fun _ => by simp⟩
  | cons y r ih =>
    intro n
    unfold cntI
    by_cases h : n ≤ 600
    · rw [if_pos h]
      obtain ⟨h1, h2⟩ := ih (n + y.args.length)
      refine ⟨by omega, fun h3 z hz => ?_⟩
      rcases List.mem_cons.1 hz with rfl | hz
      · omega
      · exact h2 h3 z hz
    · rw [if_neg h]
      exact ⟨Nat.le_refl _, fun h3 => absurd h3 h⟩
theorem cntI_max (M : Nat) : ∀ (l : List Ii) (n : Nat), (∀ y ∈ l, y.args.length ≤ M) → cntI n l ≤ n + 600 + M := by
  intro l
  induction l with
  | nil => intro n _; unfold cntI; omega
  | cons y r ih =>
    intro n h
    unfold cntI
    by_cases h1 : n ≤ 600
    · rw [if_pos h1]
      by_cases h2 : n + y.args.length ≤ 600
      · have := ih (n + y.args.length) (fun z hz => h z (by simp [hz]))
        have h3 := (cntI_few r (n + y.args.length)).1
        have : ∀ (l : List Ii) (n : Nat), n ≤ 600 → (∀ y ∈ l, y.args.length ≤ M) → cntI n l ≤ 600 + M := by
          intro l
          induction l with
          | nil => intro n h _; unfold cntI; omega
          | cons z s ih2 =>
            intro n h hz
            unfold cntI
            rw [if_pos h]
            by_cases h4 : n + z.args.length ≤ 600
            · exact ih2 _ h4 (fun u hu => hz u (by simp [hu]))
            · have h5 := hz z (by simp)
              cases s with
              | nil => unfold cntI; omega
              | cons u s => unfold cntI; rw [if_neg h4]; omega
        have := this r _ h2 (fun z hz => h z (by simp [hz]))
        omega
      · have h5 := h y (by simp)
        cases r with
        | nil => unfold cntI; omega
        | cons u s => unfold cntI; rw [if_neg h2]; omega
    · rw [if_neg h1]; omega
theorem cntB_few : ∀ (l : List Bb) (n : Nat), n ≤ cntB n l ∧ (cntB n l ≤ 600 → n + l.length ≤ cntB n l ∧ 2 * n + linesN l ≤ 2 * cntB n l ∧ ∀ x ∈ l, x.ins.length ≤ 600 ∧ ∀ i ∈ x.ins, i.args.length ≤ 600) := by
  intro l
  induction l with
  | nil => intro n; exact ⟨Nat.le_refl _, fun _ => ⟨Nat.le_refl _, by show 2 * n + 0 ≤ 2 * n; omega, by simp⟩⟩
  | cons x r ih =>
    intro n
    unfold cntB
    by_cases h : n ≤ 600
    · rw [if_pos h]
      obtain ⟨h1, h2⟩ := ih (cntI (n + 1 + x.ins.length) x.ins)
      obtain ⟨h3, h4⟩ := cntI_few x.ins (n + 1 + x.ins.length)
      refine ⟨by omega, fun h5 => ?_⟩
      obtain ⟨g1, g2, g3⟩ := h2 h5
      have e : linesN (x :: r) = (x.ins.length + 2) + linesN r := by simp [linesN]
      rw [e, List.length_cons]
      refine ⟨by omega, by omega, fun y hy => ?_⟩
      rcases List.mem_cons.1 hy with rfl | hy
      · exact ⟨by omega, h4 (by omega)⟩
      · exact g3 y hy
    · rw [if_neg h]
      exact ⟨Nat.le_refl _, fun h3 => absurd h3 h⟩
theorem cnt_few {l : List Bb} (h : cntB 0 l ≤ 600) : FewL l := by
  obtain ⟨g1, g2, g3⟩ := (cntB_few l 0).2 h
  exact ⟨by omega, g3, by omega⟩
theorem cntB_max (M : Nat) : ∀ (l : List Bb) (n : Nat), n ≤ 600 → (∀ x ∈ l, x.ins.length ≤ M ∧ ∀ i ∈ x.ins, i.args.length ≤ M) → cntB n l ≤ 1300 + M + M := by
  intro l
  induction l with
  | nil => intro n h _; unfold cntB; omega
  | cons x r ih =>
    intro n h hx
    unfold cntB
    rw [if_pos h]
    obtain ⟨h1, h2⟩ := hx x (by simp)
    have h3 := cntI_max M x.ins (n + 1 + x.ins.length) h2
    by_cases h4 : cntI (n + 1 + x.ins.length) x.ins ≤ 600
    · exact ih _ h4 (fun y hy => hx y (by simp [hy]))
    · cases r with
      | nil => unfold cntB; omega
      | cons u s => unfold cntB; rw [if_neg h4]; omega
theorem cnt_max {l : List Bb} (h : ∀ x ∈ l, x.ins.length ≤ 140737488355328 ∧ ∀ i ∈ x.ins, i.args.length ≤ 140737488355328) : cntB 0 l ≤ 1000000000000000 := by
  have := cntB_max 140737488355328 l 0 (by omega) h
  omega
theorem drop_at {α : Type} {l : List α} {j : Nat} {x : α} (h : l[j]? = some x) : l.drop j = x :: l.drop (j + 1) := by
  obtain ⟨h1, h2⟩ := List.getElem?_eq_some_iff.1 h
  rw [List.drop_eq_getElem_cons h1, h2]
set_option maxHeartbeats 2000000 in
set_option maxRecDepth 100000 in
theorem blocksOf6_any (l : List Bb) (a : Option Addr) (c : Nat) (w : World) (hl : l.length ≤ 140737488355328) (hs : ∀ x ∈ l, x.ins.length ≤ 140737488355328 ∧ ∀ i ∈ x.ins, i.args.length ≤ 140737488355328) (hI : BlsW w a l) :
    Calls Tryz.prog 20 #[.slice a l.length c, .int .i64 600] w fun e w' => e = .returned (.int .i64 (cntB 0 l : Nat)) ∧ w = w' := by
  have HI := Lib.hid hI
  have HS := Lib.hid hs
  generalize hN : cntB 0 l = N at *
  have HN : Hid (cntB 0 l = N) := hN
  clear hI hs hN
  go_enter Tryz.func20, Tryz.ntmps20
  go_wp2
  go_loopw [5, 6] (fun m k wr => ∃ n j : Nat, m = .int .i64 n ∧ k = .int .i64 j ∧ j ≤ l.length ∧ n ≤ 1000000000000000 ∧ Hid (cntB n (l.drop j) = N) ∧ w = wr) (fun _ k _ => l.length - (intOf k).toNat)
  case atStart => exact ⟨0, 0, rfl, rfl, Nat.zero_le _, by omega, HN.out, rfl⟩
  case round =>
    obtain ⟨n, j, rfl, rfl, hj, hnb, HA, rfl⟩ := hrel
    by_cases hlt : j < l.length
    · have hlt' : (j : Int) < l.length := by omega
      have hj0 : (0 : Int) ≤ j := by omega
      obtain ⟨x, hx⟩ : ∃ x, l[j]? = some x := ⟨_, List.getElem?_eq_getElem hlt⟩
      have HD : Hid (l.drop j = x :: l.drop (j + 1)) := drop_at hx
      by_cases hfew : n ≤ 600
      · have hfew' : (n : Int) ≤ 600 := by omega
        obtain ⟨g, o, ya, yc, rfl, hg, hc⟩ := HI.out j x hx
        obtain ⟨hx1, hx2⟩ := HS.out x (List.mem_of_getElem? hx)
        have HX2 := Lib.hid hx2
        have HIN := Lib.hid hc.ins
        have c0 := hc.c0
        have HA1 : Hid (cntB (cntI (n + 1 + x.ins.length) x.ins) (l.drop (j + 1)) = N) := by
          have := HA.out
          rw [HD.out, cntB, if_pos hfew] at this
          exact this
        generalize hM : cntI (n + 1 + x.ins.length) x.ins = M at *
        have HM : Hid (cntI (n + 1 + x.ins.length) x.ins = M) := hM
        clear hx hx2 hc hM HA HD
        go_wp2
        go_loopw [5, 7] (fun m k wr => ∃ n2 i : Nat, m = .int .i64 n2 ∧ k = .int .i64 i ∧ i ≤ x.ins.length ∧ n2 ≤ 1000000000000000 ∧ Hid (cntI n2 (x.ins.drop i) = M) ∧ w = wr) (fun _ k _ => x.ins.length - (intOf k).toNat)
        case atStart => exact ⟨n + 1 + x.ins.length, 0, by go_num, rfl, Nat.zero_le _, by omega, HM.out, rfl⟩
        case round =>
          obtain ⟨n2, i, rfl, rfl, hi, hn2b, HA2, rfl⟩ := hrel
          by_cases hlt2 : i < x.ins.length
          · have hlt2' : (i : Int) < x.ins.length := by omega
            have hi0 : (0 : Int) ≤ i := by omega
            obtain ⟨y, hy⟩ : ∃ y, x.ins[i]? = some y := ⟨_, List.getElem?_eq_getElem hlt2⟩
            have HD2 : Hid (x.ins.drop i = y :: x.ins.drop (i + 1)) := drop_at hy
            by_cases hfew2 : n2 ≤ 600
            · have hfew2' : (n2 : Int) ≤ 600 := by omega
              obtain ⟨g2, o2, za, zc, rfl, hg2, hc2⟩ := HIN.out i y hy
              have hya := HX2.out y (List.mem_of_getElem? hy)
              have h6 := hc2.c6
              have HA3 : Hid (cntI (n2 + y.args.length) (x.ins.drop (i + 1)) = M) := by
                have := HA2.out
                rw [HD2.out, cntI, if_pos hfew2] at this
                exact this
              clear hy hc2 HD2 HA2
              go_wp2
              go_roundw
              case rel => exact ⟨n2 + y.args.length, i + 1, by go_num, by go_num, by omega, by omega, HA3.out, trivial⟩
              case measure => simp [intOf]; omega
            · have hfew2' : ¬ (n2 : Int) ≤ 600 := by omega
              have hE : n2 = M := by
                have := HA2.out
                rw [HD2.out, cntI, if_neg hfew2] at this
                exact this
              subst hE
              clear HD2 HA2
              go_wp2
              go_roundw
              case rel => exact ⟨n2, j + 1, rfl, by go_num, by omega, by omega, HA1.out, trivial⟩
              case measure => simp [intOf]; omega
          · have hlt2' : ¬ (i : Int) < x.ins.length := by omega
            have hE : n2 = M := by
              have := HA2.out
              rw [List.drop_eq_nil_of_le (by omega), cntI] at this
              exact this
            subst hE
            clear HA2
            go_wp2
            go_roundw
            case rel => exact ⟨n2, j + 1, rfl, by go_num, by omega, by omega, HA1.out, trivial⟩
            case measure => simp [intOf]; omega
      · have hfew' : ¬ (n : Int) ≤ 600 := by omega
        have hE : n = N := by
          have := HA.out
          rw [HD.out, cntB, if_neg hfew] at this
          exact this
        subst hE
        clear HD HA
        go_wp2
        go_ret
        exact ⟨rfl, rfl⟩
    · have hlt' : ¬ (j : Int) < l.length := by omega
      have hE : n = N := by
        have := HA.out
        rw [List.drop_eq_nil_of_le (by omega), cntB] at this
        exact this
      subst hE
      clear HA
      go_wp2
      go_ret
      exact ⟨rfl, rfl⟩
set_option maxRecDepth 100000 in
theorem targetOf6_any (t : Gg) (ba : Option Addr) (bc : Nat) (w : World) (hl : t.blocks.length ≤ 140737488355328) (hs : ∀ x ∈ t.blocks, x.ins.length ≤ 140737488355328 ∧ ∀ i ∈ x.ins, i.args.length ≤ 140737488355328) (hB : BlsW w ba t.blocks) :
    Calls Tryz.prog 8 #[tgV t ba bc, .int .i64 600] w fun e w' => e = .returned (.int .i64 (cntB 0 t.blocks : Nat)) ∧ Below w.heap.size w w' := by
  have HW0 : Hid (Below w.heap.size w (w.alloc (.cells (tgC t ba bc) 24))) := (Below.refl _ w).alloc (Nat.le_refl _) _
  have HC := Lib.hid (blocksOf6_any t.blocks ba bc (w.alloc (.cells (tgC t ba bc) 24)) hl hs (hB.below HW0.out))
  have HE := Lib.hid (tgC.eq_1 t ba bc)
  rw [HE.out] at HC HW0
  clear hB hs
  unfold tgV
  rw [HE.out]
  go_enter Tryz.func8, Tryz.ntmps8
  go_wp2_with fail
  refine HC.out.mono ?_
  rintro e w1 ⟨rfl, rfl⟩
  go_wp2
  go_ret
  exact ⟨rfl, HW0.out⟩
set_option maxRecDepth 100000 in
theorem machineOf6_any (m : Mm) (aa sa : Option Addr) (ac sc : Nat) (w : World) (hl : m.args.length ≤ 140737488355328) (hs : m.saved.length ≤ 140737488355328) :
    Calls Tryz.prog 18 #[machV m aa ac sa sc] w fun e w' => e = .returned (.int .i64 ((m.args.length : Int) + m.saved.length)) ∧ Below w.heap.size w w' := by
  have HW0 : Hid (Below w.heap.size w (w.alloc (.cells (maxC m aa ac sa sc) 39))) := (Below.refl _ w).alloc (Nat.le_refl _) _
  have HE := Lib.hid (maxC.eq_1 m aa ac sa sc)
  have hw : IntKind.i64.wrap ((m.args.length : Int) + (m.saved.length : Int)) = (m.args.length : Int) + m.saved.length := by rw [IntKind.wrap_i64]; omega
  rw [HE.out] at HW0
  unfold machV
  rw [HE.out]
  go_enter Tryz.func18, Tryz.ntmps18
  go_wp2
  go_ret
  exact ⟨rfl, HW0.out⟩
end Go.Proofs.YtjmdgbgjleeloaaGreatDoor
namespace Go.Proofs.YtjmdgbgjleeloaaGreatDoor
open Go.RowKit

theorem arr2_size : (Tryz.prog.info? 49).map (·.size) = some 2 := by kernel_rfl
theorem run_part_arr2 (a b c d : Value) (w : World) : (part 49 #[a, b, c, d] 2).run Tryz.prog w = .ok (.agg #[c, d]) w := by
  obtain ⟨j, hj, hjs⟩ := Option.map_eq_some_iff.1 arr2_size
  simp [part, isAgg, run_underlying Tryz.underlying49, sizeOf, typeInfo, hj, hjs]
theorem eql_term (t : Tt) (W : World) : (Op.equalIn 10000 51 (.agg #[.int .i64 t.kind, .int .i64 t.a, .int .i64 t.t0, .int .i64 t.t1]) (.agg #[.int .i64 t.kind, .int .i64 t.a, .int .i64 t.t0, .int .i64 t.t1])).run Tryz.prog W = .ok true W := by
  rw [show (10000 : Nat) = 9999 + 1 from rfl, run_equalIn_struct W 9999 51 _ _ (by kernel_rfl) (by kernel_rfl)]
  simp only [Program.fieldsOf, Tryz.underlying51, Op.eqFields]
  simp only [show ("Kind" : String) ≠ "_" by decide, show ("A" : String) ≠ "_" by decide, show ("To" : String) ≠ "_" by decide, ne_eq, not_false_eq_true, if_true, Sem.run_bind, Sem.run_ite]
  rw [run_part_int (v := .int .i64 t.kind) Tryz.underlying48 (by rfl)]
  simp only [Result.andThen_ok]
  rw [run_part_int (v := .int .i64 t.kind) Tryz.underlying48 (by rfl)]
  simp only [Result.andThen_ok]
  rw [run_equalIn_int W 9998 _ .i64 .i64 _ _ Tryz.underlying48]
  simp only [Result.andThen_ok, beq_self_eq_true, Bool.not_true, Bool.false_eq_true, if_false]
  rw [run_part_int (v := .int .i64 t.a) Tryz.underlying3 (by rfl)]
  simp only [Result.andThen_ok]
  rw [run_part_int (v := .int .i64 t.a) Tryz.underlying3 (by rfl)]
  simp only [Result.andThen_ok]
  rw [run_equalIn_int W 9998 _ .i64 .i64 _ _ Tryz.underlying3]
  simp only [Result.andThen_ok, beq_self_eq_true, Bool.not_true, Bool.false_eq_true, if_false]
  rw [run_part_arr2]
  simp only [Result.andThen_ok]
  rw [run_part_arr2]
  simp only [Result.andThen_ok]
  rw [eql_arr2_at 9998 (fun x y W => run_equalIn_int W 9997 _ .i64 .i64 x y Tryz.underlying3)]
  simp [Result.andThen_ok]
set_option maxHeartbeats 1000000 in
set_option maxRecDepth 100000 in
theorem sameIns_same (x : Ii) (a a' : Option Addr) (c c' : Nat) (w : World) (hl : x.args.length ≤ 1000000) (hI : IntsW w a x.args) (hJ : IntsW w a' x.args) :
    Calls Tryz.prog 149 #[insV x a c, insV x a' c'] w fun e w' => e = .returned (.bool true) ∧ Below w.heap.size w w' := by
  have HX : Hid (Blk ((w.alloc (.cells (insC x a c) 46)).alloc (.cells (insC x a' c') 46)) w.heap.size 46 (insC x a c)) := Lib.hid ((Blk.new w _ _).alloc _)
  have HY : Hid (Blk ((w.alloc (.cells (insC x a c) 46)).alloc (.cells (insC x a' c') 46)) (w.heap.size + 1) 46 (insC x a' c')) := Lib.hid (new_two w _ _ _)
  have HW : Hid (Below w.heap.size w ((w.alloc (.cells (insC x a c) 46)).alloc (.cells (insC x a' c') 46))) := Lib.hid (((Below.refl _ w).alloc (Nat.le_refl _) _).alloc (by simp) _)
  have HC := Lib.hid (sameInts_any x.args x.args a a' c c' _ (by omega) (by omega) (hI.below HW.out) (hJ.below HW.out))
  rw [decide_eq_true rfl] at HC
  clear hI hJ
  have q0 : (x.op == x.op) = true := by simp
  have q1 : (x.dst == x.dst) = true := by simp
  have q2 : (x.a == x.a) = true := by simp
  have q3 : (x.b == x.b) = true := by simp
  have q4 : (x.imm == x.imm) = true := by simp
  have q5 : (x.callee == x.callee) = true := by simp
  have q7 : (x.many == x.many) = true := by simp
  unfold insV
  go_enter Tryz.func149, Tryz.ntmps149
  go_wp2_with fail
  refine HC.out.mono ?_
  rintro e w1 ⟨rfl, hb⟩
  have HX1 := Lib.hid (HX.out.below hb HX.out.lt)
  have HY1 := Lib.hid (HY.out.below hb HY.out.lt)
  have HW1 : Hid (Below w.heap.size w w1) := Lib.hid (HW.out.trans (hb.mono HW.out.size))
  clear hb HX HY HW HC
  have c7 : w1.cell? ⟨w.heap.size, 7, none⟩ = some (.int .i64 x.many) := HX1.out.cell 7
  have d7 : w1.cell? ⟨w.heap.size + 1, 7, none⟩ = some (.int .i64 x.many) := HY1.out.cell 7
  go_wp2
  go_ret
  exact ⟨rfl, HW1.out⟩
set_option maxHeartbeats 2000000 in
set_option maxRecDepth 100000 in
theorem sameRow_same (l : List Ii) (a a' : Option Addr) (c c' : Nat) (w : World) (hl : l.length ≤ 1000000) (hl2 : ∀ x ∈ l, x.args.length ≤ 1000000) (hI : InsW w a l) (hJ : InsW w a' l) :
    Calls Tryz.prog 106 #[.slice a l.length c, .slice a' l.length c'] w fun e w' => e = .returned (.bool true) ∧ Below w.heap.size w w' := by
  have HI := Lib.hid hI
  have HJ := Lib.hid hJ
  have HL2 := Lib.hid hl2
  clear hI hJ hl2
  have h' : ((l.length : Int) == l.length) = true := by simp
  have h'' : ((l.length : Int) != l.length) = false := by simp
  go_enter Tryz.func106, Tryz.ntmps106
  go_wp2
  go_loopw [5] (fun k wr => ∃ j : Nat, k = .int .i64 j ∧ j ≤ l.length ∧ Below w.heap.size w wr) (fun k _ => l.length - (intOf k).toNat)
  case atStart => exact ⟨0, rfl, Nat.zero_le _, Below.refl _ _⟩
  case round =>
    obtain ⟨j, rfl, hj, hW⟩ := hrel
    have HW := Lib.hid hW
    clear hW
    by_cases hlt : j < l.length
    · have hlt' : (j : Int) < l.length := by omega
      have hj0 : (0 : Int) ≤ j := by omega
      obtain ⟨x, hx⟩ : ∃ x, l[j]? = some x := ⟨_, List.getElem?_eq_getElem hlt⟩
      obtain ⟨g, o, ia, ic, rfl, hg, hc⟩ := (HI.out.below HW.out) j x hx
      obtain ⟨g2, o2, ia2, ic2, rfl, hg2, hc2⟩ := (HJ.out.below HW.out) j x hx
      have HLX := Lib.hid (HL2.out x (List.mem_of_getElem? hx))
      have HC1 := Lib.hid hc
      have HC2 := Lib.hid hc2
      have HG := Lib.hid hg
      have HG2 := Lib.hid hg2
      clear hc hc2 hx hg hg2
      have CS : Hid (∀ W, Below wr.heap.size wr W → Calls Tryz.prog 149 #[insV x ia ic, insV x ia2 ic2] W fun e w' => e = .returned (.bool true) ∧ Below wr.heap.size wr w') := Lib.hid fun W h =>
        (sameIns_same x ia ia2 ic ic2 W HLX.out (HC1.out.args.below h) (HC2.out.args.below h)).mono fun _ _ ⟨he, h2⟩ => ⟨he, h.trans (h2.mono h.size)⟩
      unfold insV at CS
      go_wp2_with fail
      go_region_held3 (fun w' => Below wr.heap.size wr w' ∧ w'.cell? ⟨g, o + j * 8, none⟩ = some (.int .i64 x.op) ∧ w'.cell? ⟨g, o + j * 8 + 1, none⟩ = some (.int .i64 x.dst) ∧ w'.cell? ⟨g, o + j * 8 + 2, none⟩ = some (.int .i64 x.a) ∧ w'.cell? ⟨g, o + j * 8 + 3, none⟩ = some (.int .i64 x.b) ∧ w'.cell? ⟨g, o + j * 8 + 4, none⟩ = some (.int .i64 x.imm) ∧ w'.cell? ⟨g, o + j * 8 + 5, none⟩ = some (.int .i64 x.callee) ∧ w'.cell? ⟨g, o + j * 8 + 6, none⟩ = some (.slice ia x.args.length ic) ∧ w'.cell? ⟨g, o + j * 8 + 7, none⟩ = some (.int .i64 x.many) ∧ w'.cell? ⟨g2, o2 + j * 8, none⟩ = some (.int .i64 x.op) ∧ w'.cell? ⟨g2, o2 + j * 8 + 1, none⟩ = some (.int .i64 x.dst) ∧ w'.cell? ⟨g2, o2 + j * 8 + 2, none⟩ = some (.int .i64 x.a) ∧ w'.cell? ⟨g2, o2 + j * 8 + 3, none⟩ = some (.int .i64 x.b) ∧ w'.cell? ⟨g2, o2 + j * 8 + 4, none⟩ = some (.int .i64 x.imm) ∧ w'.cell? ⟨g2, o2 + j * 8 + 5, none⟩ = some (.int .i64 x.callee) ∧ w'.cell? ⟨g2, o2 + j * 8 + 6, none⟩ = some (.slice ia2 x.args.length ic2) ∧ w'.cell? ⟨g2, o2 + j * 8 + 7, none⟩ = some (.int .i64 x.many))
        (first
          | exact ⟨hb7, (HC1.out.below HG.out hb7).c0, (HC1.out.below HG.out hb7).c1, (HC1.out.below HG.out hb7).c2, (HC1.out.below HG.out hb7).c3, (HC1.out.below HG.out hb7).c4, (HC1.out.below HG.out hb7).c5, (HC1.out.below HG.out hb7).c6, (HC1.out.below HG.out hb7).c7, (HC2.out.below HG2.out hb7).c0, (HC2.out.below HG2.out hb7).c1, (HC2.out.below HG2.out hb7).c2, (HC2.out.below HG2.out hb7).c3, (HC2.out.below HG2.out hb7).c4, (HC2.out.below HG2.out hb7).c5, (HC2.out.below HG2.out hb7).c6, (HC2.out.below HG2.out hb7).c7⟩
          | exact ⟨(Below.refl _ wr).drew, (HC1.out).c0, (HC1.out).c1, (HC1.out).c2, (HC1.out).c3, (HC1.out).c4, (HC1.out).c5, (HC1.out).c6, (HC1.out).c7, (HC2.out).c0, (HC2.out).c1, (HC2.out).c2, (HC2.out).c3, (HC2.out).c4, (HC2.out).c5, (HC2.out).c6, (HC2.out).c7⟩)
        (first
          | (go_at_call 149; refine (CS.out _ (by go_split_ands; assumption)).mono ?_; rintro e w7 ⟨rfl, hb7⟩))
      have HW7 : Hid (Below w.heap.size w w7) := Lib.hid (HW.out.trans (hb7.mono HW.out.size))
      rename_i hHeld
      clear hHeld hb7
      go_wp2
      go_roundw
      case rel => exact ⟨j + 1, by go_num, by omega, HW7.out⟩
      case measure => simp [intOf]; omega
    · have e : j = l.length := by omega
      subst e
      have hlt' : ¬ (l.length : Int) < l.length := by omega
      go_wp2
      go_ret
      exact ⟨rfl, HW.out⟩
end Go.Proofs.YtjmdgbgjleeloaaGreatDoor
namespace Go.Proofs.YtjmdgbgjleeloaaGreatDoor
open Go.RowKit

set_option maxHeartbeats 1000000 in
set_option maxRecDepth 100000 in
theorem sameBlock_same (x : Bb) (a a' : Option Addr) (c c' : Nat) (w : World) (hl : x.ins.length ≤ 1000000) (hl2 : ∀ y ∈ x.ins, y.args.length ≤ 1000000) (hI : InsW w a x.ins) (hJ : InsW w a' x.ins) :
    Calls Tryz.prog 65 #[blV x a c, blV x a' c'] w fun e w' => e = .returned (.bool true) ∧ Below w.heap.size w w' := by
  have HX : Hid (Blk ((w.alloc (.cells (blC x a c) 53)).alloc (.cells (blC x a' c') 53)) w.heap.size 53 (blC x a c)) := Lib.hid ((Blk.new w _ _).alloc _)
  have HY : Hid (Blk ((w.alloc (.cells (blC x a c) 53)).alloc (.cells (blC x a' c') 53)) (w.heap.size + 1) 53 (blC x a' c')) := Lib.hid (new_two w _ _ _)
  have HW : Hid (Below w.heap.size w ((w.alloc (.cells (blC x a c) 53)).alloc (.cells (blC x a' c') 53))) := Lib.hid (((Below.refl _ w).alloc (Nat.le_refl _) _).alloc (by simp) _)
  have HC := Lib.hid (sameRow_same x.ins a a' c c' _ hl hl2 (hI.below HW.out) (hJ.below HW.out))
  clear hI hJ
  have hq := fun W => eql_term x.tm W
  unfold blV blC
  go_enter Tryz.func65, Tryz.ntmps65
  go_wp2_with fail
  refine HC.out.mono ?_
  rintro e w1 ⟨rfl, hb⟩
  have HX1 := Lib.hid (HX.out.below hb HX.out.lt)
  have HY1 := Lib.hid (HY.out.below hb HY.out.lt)
  have HW1 : Hid (Below w.heap.size w w1) := Lib.hid (HW.out.trans (hb.mono HW.out.size))
  clear hb HX HY HW HC
  obtain ⟨c0, c1, c2, c3, c4⟩ := box5 HX1.out
  obtain ⟨d0, d1, d2, d3, d4⟩ := box5 HY1.out
  go_wp2
  go_ret
  exact ⟨rfl, HW1.out⟩
set_option maxHeartbeats 2000000 in
set_option maxRecDepth 100000 in
theorem sameBlocks_same (l : List Bb) (a a' : Option Addr) (c c' : Nat) (w : World) (hl : l.length ≤ 1000000) (hl2 : ∀ x ∈ l, x.ins.length ≤ 1000000 ∧ ∀ y ∈ x.ins, y.args.length ≤ 1000000) (hI : BlsW w a l) (hJ : BlsW w a' l) :
    Calls Tryz.prog 40 #[.slice a l.length c, .slice a' l.length c'] w fun e w' => e = .returned (.bool true) ∧ Below w.heap.size w w' := by
  have HI := Lib.hid hI
  have HJ := Lib.hid hJ
  have HL2 := Lib.hid hl2
  clear hI hJ hl2
  have h' : ((l.length : Int) == l.length) = true := by simp
  have h'' : ((l.length : Int) != l.length) = false := by simp
  go_enter Tryz.func40, Tryz.ntmps40
  go_wp2
  go_loopw [5] (fun k wr => ∃ j : Nat, k = .int .i64 j ∧ j ≤ l.length ∧ Below w.heap.size w wr) (fun k _ => l.length - (intOf k).toNat)
  case atStart => exact ⟨0, rfl, Nat.zero_le _, Below.refl _ _⟩
  case round =>
    obtain ⟨j, rfl, hj, hW⟩ := hrel
    have HW := Lib.hid hW
    clear hW
    by_cases hlt : j < l.length
    · have hlt' : (j : Int) < l.length := by omega
      have hj0 : (0 : Int) ≤ j := by omega
      obtain ⟨x, hx⟩ : ∃ x, l[j]? = some x := ⟨_, List.getElem?_eq_getElem hlt⟩
      obtain ⟨g, o, ia, ic, rfl, hg, hc⟩ := (HI.out.below HW.out) j x hx
      obtain ⟨g2, o2, ia2, ic2, rfl, hg2, hc2⟩ := (HJ.out.below HW.out) j x hx
      have HLX := Lib.hid (HL2.out x (List.mem_of_getElem? hx))
      have HC1 := Lib.hid hc
      have HC2 := Lib.hid hc2
      have HG := Lib.hid hg
      have HG2 := Lib.hid hg2
      clear hc hc2 hx hg hg2
      have CS : Hid (∀ W, Below wr.heap.size wr W → Calls Tryz.prog 65 #[blV x ia ic, blV x ia2 ic2] W fun e w' => e = .returned (.bool true) ∧ Below wr.heap.size wr w') := Lib.hid fun W h =>
        (sameBlock_same x ia ia2 ic ic2 W HLX.out.1 HLX.out.2 (HC1.out.ins.below h) (HC2.out.ins.below h)).mono fun _ _ ⟨he, h2⟩ => ⟨he, h.trans (h2.mono h.size)⟩
      unfold blV blC at CS
      go_wp2_with fail
      go_region_held3 (fun w' => Below wr.heap.size wr w' ∧ w'.cell? ⟨g, o + j * 5, none⟩ = some (.slice ia x.ins.length ic) ∧ w'.cell? ⟨g, o + j * 5 + 1, none⟩ = some (.int .i64 x.tm.kind) ∧ w'.cell? ⟨g, o + j * 5 + 2, none⟩ = some (.int .i64 x.tm.a) ∧ w'.cell? ⟨g, o + j * 5 + 3, none⟩ = some (.int .i64 x.tm.t0) ∧ w'.cell? ⟨g, o + j * 5 + 4, none⟩ = some (.int .i64 x.tm.t1) ∧ w'.cell? ⟨g2, o2 + j * 5, none⟩ = some (.slice ia2 x.ins.length ic2) ∧ w'.cell? ⟨g2, o2 + j * 5 + 1, none⟩ = some (.int .i64 x.tm.kind) ∧ w'.cell? ⟨g2, o2 + j * 5 + 2, none⟩ = some (.int .i64 x.tm.a) ∧ w'.cell? ⟨g2, o2 + j * 5 + 3, none⟩ = some (.int .i64 x.tm.t0) ∧ w'.cell? ⟨g2, o2 + j * 5 + 4, none⟩ = some (.int .i64 x.tm.t1))
        (first
          | exact ⟨hb7, (HC1.out.below HG.out hb7).c0, (HC1.out.below HG.out hb7).c1, (HC1.out.below HG.out hb7).c2, (HC1.out.below HG.out hb7).c3, (HC1.out.below HG.out hb7).c4, (HC2.out.below HG2.out hb7).c0, (HC2.out.below HG2.out hb7).c1, (HC2.out.below HG2.out hb7).c2, (HC2.out.below HG2.out hb7).c3, (HC2.out.below HG2.out hb7).c4⟩
          | exact ⟨(Below.refl _ wr).drew, (HC1.out).c0, (HC1.out).c1, (HC1.out).c2, (HC1.out).c3, (HC1.out).c4, (HC2.out).c0, (HC2.out).c1, (HC2.out).c2, (HC2.out).c3, (HC2.out).c4⟩)
        (first
          | (go_at_call 65; refine (CS.out _ (by go_split_ands; assumption)).mono ?_; rintro e w7 ⟨rfl, hb7⟩))
      have HW7 : Hid (Below w.heap.size w w7) := Lib.hid (HW.out.trans (hb7.mono HW.out.size))
      rename_i hHeld
      clear hHeld hb7
      go_wp2
      go_roundw
      case rel => exact ⟨j + 1, by go_num, by omega, HW7.out⟩
      case measure => simp [intOf]; omega
    · have e : j = l.length := by omega
      subst e
      have hlt' : ¬ (l.length : Int) < l.length := by omega
      go_wp2
      go_ret
      exact ⟨rfl, HW.out⟩
end Go.Proofs.YtjmdgbgjleeloaaGreatDoor
