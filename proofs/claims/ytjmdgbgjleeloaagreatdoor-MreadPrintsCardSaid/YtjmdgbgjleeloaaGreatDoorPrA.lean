/-
  The document's lines of a target (package intarsiaref07; written by gen/pra.py). Conditions: the library's table of powers holds what the text lays.
-/
import Derived.Test.YtjmdgbgjleeloaaGreatDoorQk6
import Derived.Deep.RegionHeld3
import Derived.Deep.CutRange
namespace Go.Proofs.YtjmdgbgjleeloaaGreatDoor
open Go.RowKit

theorem itS_size (n : Int) (h : R64 n) : (itS n).size ≤ 21 := itS_len n h.1 h.2
theorem rgT_size (n : Int) (h : R64 n) : (rgT n).size ≤ 30 := by have := itS_len n h.1 h.2; unfold rgT; rw [ByteArray.size_append]; show 1 + _ ≤ _; omega
theorem slT_size (n : Int) (h : R64 n) : (slT n).size ≤ 30 := by have := itS_len n h.1 h.2; unfold slT; rw [ByteArray.size_append]; show 1 + _ ≤ _; omega
theorem lit_row (l : List Wo) (h : l ≠ []) : (rowB l).data.toList = (match l with | [] => [] | x :: r => x.b.data.toList ++ r.flatMap fun y => 32 :: y.b.data.toList) ++ [10] := by
  cases l with
  | nil => exact absurd rfl h
  | cons x r =>
    unfold rowB joinB
    rw [ByteArray.data_append, Array.toList_append, List.map_map, List.map_cons, Lib.join_cons]
    show (Array.toList (List.toArray _)) ++ [10] = _
    rw [List.toList_toArray]
    congr 2
    induction r with
    | nil => simp [Lib.joinTail]
    | cons y r ih =>
      rw [List.map_cons, join_tail_cons, List.flatMap_cons, ih (by simp)]
      simp
theorem bytes_eq {a b : ByteArray} (h : a.data.toList = b.data.toList) : a = b := ByteArray.ext (Array.toList_inj.1 h)
set_option maxRecDepth 100000 in
theorem reg7_any (n : Int) (w : World) (hP : PowW w) (hn : R64 n) : Calls Tryz.prog 61 #[.int .i64 n] w fun e w' => e = .returned (.string (rgT n)) ∧ Below w.heap.size w w' := by
  have I := Lib.hid (itoaP_any n w hP hn.1 hn.2)
  have hz := itS_size n hn
  have E : Hid (rgT n = ⟨#[114]⟩ ++ itS n) := rfl
  generalize rgT n = r at *
  generalize itS n = q at *
  have hadd : ∀ w, (Op.stringOp .add ⟨#[114]⟩ q).run Tryz.prog w = .ok (.string (⟨#[114]⟩ ++ q)) w := fun w => run_string_add_sum w _ q (by show 1 + q.size ≤ _; omega)
  clear hP hn
  go_enter Tryz.func61, Tryz.ntmps61
  go_wp2_with fail
  refine I.out.mono ?_
  rintro e w1 ⟨rfl, hb⟩
  have HB := Lib.hid hb
  clear hb I
  go_wp2
  go_ret
  exact ⟨by rw [E.out]; rfl, HB.out⟩
set_option maxRecDepth 100000 in
theorem slot7_any (n : Int) (w : World) (hP : PowW w) (hn : R64 n) : Calls Tryz.prog 62 #[.int .i64 n] w fun e w' => e = .returned (.string (slT n)) ∧ Below w.heap.size w w' := by
  have I := Lib.hid (itoaP_any n w hP hn.1 hn.2)
  have hz := itS_size n hn
  have E : Hid (slT n = ⟨#[115]⟩ ++ itS n) := rfl
  generalize slT n = r at *
  generalize itS n = q at *
  have hadd : ∀ w, (Op.stringOp .add ⟨#[115]⟩ q).run Tryz.prog w = .ok (.string (⟨#[115]⟩ ++ q)) w := fun w => run_string_add_sum w _ q (by show 1 + q.size ≤ _; omega)
  clear hP hn
  go_enter Tryz.func62, Tryz.ntmps62
  go_wp2_with fail
  refine I.out.mono ?_
  rintro e w1 ⟨rfl, hb⟩
  have HB := Lib.hid hb
  clear hb I
  go_wp2
  go_ret
  exact ⟨by rw [E.out]; rfl, HB.out⟩
def namesC : Array Value := #[.string ⟨#[97, 100, 100]⟩, .string ⟨#[115, 117, 98]⟩, .string ⟨#[109, 117, 108]⟩, .string ⟨#[100, 105, 118]⟩, .string ⟨#[97, 110, 100]⟩, .string ⟨#[111, 114]⟩, .string ⟨#[120, 111, 114]⟩, .string ⟨#[108, 101, 115, 115]⟩, .string ⟨#[115, 97, 109, 101]⟩]
set_option maxHeartbeats 4000000 in
set_option maxRecDepth 100000 in
theorem name7_any (o : Int) (w : World) (ho : 2 ≤ o ∧ o ≤ 10) : Calls Tryz.prog 63 #[.int .i64 o] w fun e w' => e = .returned (.string (opNm o)) ∧ Below w.heap.size w w' := by
  have hc : o = 2 ∨ o = 3 ∨ o = 4 ∨ o = 5 ∨ o = 6 ∨ o = 7 ∨ o = 8 ∨ o = 9 ∨ o = 10 := by omega
  have HB : Hid (Below w.heap.size w (w.alloc (.cells namesC 9))) := (Below.refl _ w).alloc (Nat.le_refl _) _
  unfold namesC at HB
  rcases hc with rfl | rfl | rfl | rfl | rfl | rfl | rfl | rfl | rfl
  all_goals (
    clear ho
    go_enter Tryz.func63, Tryz.ntmps63
    go_wp2
    go_ret
    exact ⟨rfl, HB.out⟩)
set_option maxHeartbeats 4000000 in
set_option maxRecDepth 100000 in
theorem lineIns_const (x : Ii) (xa : Option Addr) (xc : Nat) (w : World) (ho : x.op = 1) (hR : InsR x) (hP : PowW w) :
    Calls Tryz.prog 26 #[insV x xa xc] w fun e w' => e = .returned (.string (rowB (insWo x))) ∧ Below w.heap.size w w' := by
  have HA : Hid (rowB (insWo x) = (rgT x.dst ++ ⟨#[32, 226, 134, 144, 32]⟩) ++ ⟨#[99, 111, 110, 115, 116, 32]⟩ ++ itS x.imm ++ ⟨#[10]⟩) := by
    show _ = _
    unfold insWo
    rw [if_pos ho]
    refine bytes_eq ?_
    rw [lit_row _ (by simp)]
    simp only [ByteArray.data_append, Array.toList_append, List.flatMap_cons, List.flatMap_nil, Wo.b, rgT, larr]
    try simp only [ho]
    simp [opNm, opNameL]
  have HB0 : Hid (Below w.heap.size w (w.alloc (.cells (insC x xa xc) 46))) := (Below.refl _ w).alloc (Nat.le_refl _) _
  have HS : Hid (∀ W, Below (w.alloc (.cells (insC x xa xc) 46)).heap.size (w.alloc (.cells (insC x xa xc) 46)) W → (W.cell? ⟨w.heap.size, 0, none⟩ = some (.int .i64 x.op) ∧ W.cell? ⟨w.heap.size, 1, none⟩ = some (.int .i64 x.dst) ∧ W.cell? ⟨w.heap.size, 2, none⟩ = some (.int .i64 x.a) ∧ W.cell? ⟨w.heap.size, 3, none⟩ = some (.int .i64 x.b) ∧ W.cell? ⟨w.heap.size, 4, none⟩ = some (.int .i64 x.imm) ∧ W.cell? ⟨w.heap.size, 5, none⟩ = some (.int .i64 x.callee) ∧ W.cell? ⟨w.heap.size, 7, none⟩ = some (.int .i64 x.many))) := fun W hb => by
    obtain ⟨a0, a1, a2, a3, a4, a5, _, a7⟩ := box8 ((Blk.new w 46 (insC x xa xc)).below hb (Blk.new w _ _).lt)
    exact ⟨a0, a1, a2, a3, a4, a5, a7⟩
  have HPW : Hid (∀ W, Below (w.alloc (.cells (insC x xa xc) 46)).heap.size (w.alloc (.cells (insC x xa xc) 46)) W → PowW W) := fun W hb => hP.below (HB0.out.trans (hb.mono HB0.out.size))
  have CI : Hid (∀ W, Below (w.alloc (.cells (insC x xa xc) 46)).heap.size (w.alloc (.cells (insC x xa xc) 46)) W → _) := fun W hb => itoaP_any x.imm W (HPW.out W hb) hR.imm.1 hR.imm.2
  have CD : Hid (∀ W, Below (w.alloc (.cells (insC x xa xc) 46)).heap.size (w.alloc (.cells (insC x xa xc) 46)) W → _) := fun W hb => reg7_any x.dst W (HPW.out W hb) hR.dst
  have z1 := itS_size x.imm hR.imm
  have z2 := rgT_size x.dst hR.dst
  have SX := insC.eq_1 x xa xc
  rw [SX] at HB0 HS HPW CI CD
  unfold insV
  rw [HA.out]
  clear hP hR SX HPW HA
  obtain ⟨rd, hrd⟩ : ∃ rd, rd = rgT x.dst := ⟨_, rfl⟩
  rw [← hrd] at z2 CD ⊢
  clear hrd
  generalize itS x.imm = nimm at *
  have al : ∀ W, (Op.stringOp .add rd ⟨#[32, 226, 134, 144, 32]⟩).run Tryz.prog W = .ok (.string (rd ++ ⟨#[32, 226, 134, 144, 32]⟩)) W := fun W => run_string_add_sum W _ _ (by show rd.size + 5 ≤ _; omega)
  have zl : (rd ++ ⟨#[32, 226, 134, 144, 32]⟩).size ≤ 35 := by rw [ByteArray.size_append]; show rd.size + 5 ≤ 35; omega
  generalize rd ++ ⟨#[32, 226, 134, 144, 32]⟩ = lf at *
  have ad1 : ∀ W, (Op.stringOp .add lf ⟨#[99, 111, 110, 115, 116, 32]⟩).run Tryz.prog W = .ok (.string (lf ++ ⟨#[99, 111, 110, 115, 116, 32]⟩)) W := fun W => run_string_add_sum W _ _ (by show lf.size + 6 ≤ _; omega)
  have ad2 : ∀ W, (Op.stringOp .add (lf ++ ⟨#[99, 111, 110, 115, 116, 32]⟩) nimm).run Tryz.prog W = .ok (.string (lf ++ ⟨#[99, 111, 110, 115, 116, 32]⟩ ++ nimm)) W := fun W => run_string_add_sum W _ _ (by simp only [ByteArray.size_append]; show lf.size + 6 + nimm.size ≤ _; omega)
  have ad3 : ∀ W, (Op.stringOp .add (lf ++ ⟨#[99, 111, 110, 115, 116, 32]⟩ ++ nimm) ⟨#[10]⟩).run Tryz.prog W = .ok (.string (lf ++ ⟨#[99, 111, 110, 115, 116, 32]⟩ ++ nimm ++ ⟨#[10]⟩)) W := fun W => run_string_add_sum W _ _ (by simp only [ByteArray.size_append]; show lf.size + 6 + nimm.size + 1 ≤ _; omega)
  clear z1 z2 zl
  rw [ho] at HB0 HS CI CD ⊢
  clear ho
  obtain ⟨A, hA⟩ : ∃ A, A = w.alloc (.cells #[.int .i64 1, .int .i64 x.dst, .int .i64 x.a, .int .i64 x.b, .int .i64 x.imm, .int .i64 x.callee, .slice xa x.args.length xc, .int .i64 x.many] 46) := ⟨_, rfl⟩
  have CI0 := Lib.hid (CI.out _ (Below.refl _ _))
  go_enter Tryz.func26, Tryz.ntmps26
  go_wp2_with fail
  refine CI0.out.mono ?_
  rintro e w1 ⟨rfl, hb1⟩
  rw [← hA] at hb1 HB0 HS CI CD
  clear CI0 CI
  have D1 := Lib.hid (CD.out _ hb1)
  obtain ⟨a0, a1, a2, a3, a4, a5, a7⟩ := HS.out _ hb1
  go_wp2_with fail
  refine D1.out.mono ?_
  rintro e w2 ⟨rfl, hb2⟩
  have HB2 : Hid (Below A.heap.size A w2) := hb1.trans (hb2.mono hb1.size)
  clear D1 CD a0 a1 a2 a3 a4 a5 a7 hb1 hb2
  obtain ⟨a0, a1, a2, a3, a4, a5, a7⟩ := HS.out _ HB2.out
  go_wp2
  go_ret
  exact ⟨rfl, HB0.out.trans (HB2.out.mono HB0.out.size)⟩
set_option maxHeartbeats 4000000 in
set_option maxRecDepth 100000 in
theorem lineIns_load (x : Ii) (xa : Option Addr) (xc : Nat) (w : World) (ho : x.op = 11) (hR : InsR x) (hP : PowW w) :
    Calls Tryz.prog 26 #[insV x xa xc] w fun e w' => e = .returned (.string (rowB (insWo x))) ∧ Below w.heap.size w w' := by
  have HA : Hid (rowB (insWo x) = (rgT x.dst ++ ⟨#[32, 226, 134, 144, 32]⟩) ++ ⟨#[108, 111, 97, 100, 32]⟩ ++ rgT x.a ++ ⟨#[32]⟩ ++ itS x.imm ++ ⟨#[10]⟩) := by
    show _ = _
    unfold insWo
    rw [if_neg (by omega), if_pos ho]
    refine bytes_eq ?_
    rw [lit_row _ (by simp)]
    simp only [ByteArray.data_append, Array.toList_append, List.flatMap_cons, List.flatMap_nil, Wo.b, rgT, larr]
    try simp only [ho]
    simp [opNm, opNameL]
  have HB0 : Hid (Below w.heap.size w (w.alloc (.cells (insC x xa xc) 46))) := (Below.refl _ w).alloc (Nat.le_refl _) _
  have HS : Hid (∀ W, Below (w.alloc (.cells (insC x xa xc) 46)).heap.size (w.alloc (.cells (insC x xa xc) 46)) W → (W.cell? ⟨w.heap.size, 0, none⟩ = some (.int .i64 x.op) ∧ W.cell? ⟨w.heap.size, 1, none⟩ = some (.int .i64 x.dst) ∧ W.cell? ⟨w.heap.size, 2, none⟩ = some (.int .i64 x.a) ∧ W.cell? ⟨w.heap.size, 3, none⟩ = some (.int .i64 x.b) ∧ W.cell? ⟨w.heap.size, 4, none⟩ = some (.int .i64 x.imm) ∧ W.cell? ⟨w.heap.size, 5, none⟩ = some (.int .i64 x.callee) ∧ W.cell? ⟨w.heap.size, 7, none⟩ = some (.int .i64 x.many))) := fun W hb => by
    obtain ⟨a0, a1, a2, a3, a4, a5, _, a7⟩ := box8 ((Blk.new w 46 (insC x xa xc)).below hb (Blk.new w _ _).lt)
    exact ⟨a0, a1, a2, a3, a4, a5, a7⟩
  have HPW : Hid (∀ W, Below (w.alloc (.cells (insC x xa xc) 46)).heap.size (w.alloc (.cells (insC x xa xc) 46)) W → PowW W) := fun W hb => hP.below (HB0.out.trans (hb.mono HB0.out.size))
  have CI : Hid (∀ W, Below (w.alloc (.cells (insC x xa xc) 46)).heap.size (w.alloc (.cells (insC x xa xc) 46)) W → _) := fun W hb => itoaP_any x.imm W (HPW.out W hb) hR.imm.1 hR.imm.2
  have CD : Hid (∀ W, Below (w.alloc (.cells (insC x xa xc) 46)).heap.size (w.alloc (.cells (insC x xa xc) 46)) W → _) := fun W hb => reg7_any x.dst W (HPW.out W hb) hR.dst
  have z1 := itS_size x.imm hR.imm
  have z2 := rgT_size x.dst hR.dst
  have C0 : Hid (∀ W, Below (w.alloc (.cells (insC x xa xc) 46)).heap.size (w.alloc (.cells (insC x xa xc) 46)) W → Calls Tryz.prog 61 #[.int .i64 x.a] W fun e w' => e = .returned (.string (rgT x.a)) ∧ Below (w.alloc (.cells (insC x xa xc) 46)).heap.size (w.alloc (.cells (insC x xa xc) 46)) w') := fun W hb => (reg7_any x.a W (HPW.out W hb) hR.a).mono fun e w' ⟨h1, h2⟩ => ⟨h1, hb.trans (h2.mono hb.size)⟩
  have y0 := rgT_size x.a hR.a
  have SX := insC.eq_1 x xa xc
  rw [SX] at HB0 HS HPW CI CD C0
  unfold insV
  rw [HA.out]
  clear hP hR SX HPW HA
  obtain ⟨rd, hrd⟩ : ∃ rd, rd = rgT x.dst := ⟨_, rfl⟩
  rw [← hrd] at z2 CD ⊢
  clear hrd
  generalize rgT x.a = ra at *
  generalize itS x.imm = nimm at *
  have al : ∀ W, (Op.stringOp .add rd ⟨#[32, 226, 134, 144, 32]⟩).run Tryz.prog W = .ok (.string (rd ++ ⟨#[32, 226, 134, 144, 32]⟩)) W := fun W => run_string_add_sum W _ _ (by show rd.size + 5 ≤ _; omega)
  have zl : (rd ++ ⟨#[32, 226, 134, 144, 32]⟩).size ≤ 35 := by rw [ByteArray.size_append]; show rd.size + 5 ≤ 35; omega
  generalize rd ++ ⟨#[32, 226, 134, 144, 32]⟩ = lf at *
  have ad1 : ∀ W, (Op.stringOp .add lf ⟨#[108, 111, 97, 100, 32]⟩).run Tryz.prog W = .ok (.string (lf ++ ⟨#[108, 111, 97, 100, 32]⟩)) W := fun W => run_string_add_sum W _ _ (by show lf.size + 5 ≤ _; omega)
  have ad2 : ∀ W, (Op.stringOp .add (lf ++ ⟨#[108, 111, 97, 100, 32]⟩) ra).run Tryz.prog W = .ok (.string (lf ++ ⟨#[108, 111, 97, 100, 32]⟩ ++ ra)) W := fun W => run_string_add_sum W _ _ (by simp only [ByteArray.size_append]; show lf.size + 5 + ra.size ≤ _; omega)
  have ad3 : ∀ W, (Op.stringOp .add (lf ++ ⟨#[108, 111, 97, 100, 32]⟩ ++ ra) ⟨#[32]⟩).run Tryz.prog W = .ok (.string (lf ++ ⟨#[108, 111, 97, 100, 32]⟩ ++ ra ++ ⟨#[32]⟩)) W := fun W => run_string_add_sum W _ _ (by simp only [ByteArray.size_append]; show lf.size + 5 + ra.size + 1 ≤ _; omega)
  have ad4 : ∀ W, (Op.stringOp .add (lf ++ ⟨#[108, 111, 97, 100, 32]⟩ ++ ra ++ ⟨#[32]⟩) nimm).run Tryz.prog W = .ok (.string (lf ++ ⟨#[108, 111, 97, 100, 32]⟩ ++ ra ++ ⟨#[32]⟩ ++ nimm)) W := fun W => run_string_add_sum W _ _ (by simp only [ByteArray.size_append]; show lf.size + 5 + ra.size + 1 + nimm.size ≤ _; omega)
  have ad5 : ∀ W, (Op.stringOp .add (lf ++ ⟨#[108, 111, 97, 100, 32]⟩ ++ ra ++ ⟨#[32]⟩ ++ nimm) ⟨#[10]⟩).run Tryz.prog W = .ok (.string (lf ++ ⟨#[108, 111, 97, 100, 32]⟩ ++ ra ++ ⟨#[32]⟩ ++ nimm ++ ⟨#[10]⟩)) W := fun W => run_string_add_sum W _ _ (by simp only [ByteArray.size_append]; show lf.size + 5 + ra.size + 1 + nimm.size + 1 ≤ _; omega)
  clear z1 z2 zl y0
  rw [ho] at HB0 HS CI CD C0 ⊢
  clear ho
  obtain ⟨A, hA⟩ : ∃ A, A = w.alloc (.cells #[.int .i64 11, .int .i64 x.dst, .int .i64 x.a, .int .i64 x.b, .int .i64 x.imm, .int .i64 x.callee, .slice xa x.args.length xc, .int .i64 x.many] 46) := ⟨_, rfl⟩
  have CI0 := Lib.hid (CI.out _ (Below.refl _ _))
  go_enter Tryz.func26, Tryz.ntmps26
  go_wp2_with fail
  refine CI0.out.mono ?_
  rintro e w1 ⟨rfl, hb1⟩
  rw [← hA] at hb1 HB0 HS CI CD C0
  clear CI0 CI
  have D1 := Lib.hid (CD.out _ hb1)
  obtain ⟨a0, a1, a2, a3, a4, a5, a7⟩ := HS.out _ hb1
  go_wp2_with fail
  refine D1.out.mono ?_
  rintro e w2 ⟨rfl, hb2⟩
  have HB2 : Hid (Below A.heap.size A w2) := hb1.trans (hb2.mono hb1.size)
  clear D1 CD a0 a1 a2 a3 a4 a5 a7 hb1 hb2
  obtain ⟨a0, a1, a2, a3, a4, a5, a7⟩ := HS.out _ HB2.out
  have X0 := Lib.hid (C0.out _ HB2.out)
  go_wp2_with fail
  refine X0.out.mono ?_
  rintro e w3 ⟨rfl, hb3⟩
  have HB3 : Hid (Below A.heap.size A w3) := hb3
  clear X0 C0 hb3 a0 a1 a2 a3 a4 a5 a7
  obtain ⟨a0, a1, a2, a3, a4, a5, a7⟩ := HS.out _ HB3.out
  go_wp2
  go_ret
  exact ⟨rfl, HB0.out.trans (HB3.out.mono HB0.out.size)⟩
set_option maxHeartbeats 4000000 in
set_option maxRecDepth 100000 in
theorem lineIns_store (x : Ii) (xa : Option Addr) (xc : Nat) (w : World) (ho : x.op = 12) (hR : InsR x) (hP : PowW w) :
    Calls Tryz.prog 26 #[insV x xa xc] w fun e w' => e = .returned (.string (rowB (insWo x))) ∧ Below w.heap.size w w' := by
  have HA : Hid (rowB (insWo x) = ⟨#[115, 116, 111, 114, 101, 32]⟩ ++ rgT x.a ++ ⟨#[32]⟩ ++ itS x.imm ++ ⟨#[32]⟩ ++ rgT x.b ++ ⟨#[10]⟩) := by
    show _ = _
    unfold insWo
    rw [if_neg (by omega), if_neg (by omega), if_pos ho]
    refine bytes_eq ?_
    rw [lit_row _ (by simp)]
    simp only [ByteArray.data_append, Array.toList_append, List.flatMap_cons, List.flatMap_nil, Wo.b, rgT]
    try simp only [ho]
    simp
  have HB0 : Hid (Below w.heap.size w (w.alloc (.cells (insC x xa xc) 46))) := (Below.refl _ w).alloc (Nat.le_refl _) _
  have HS : Hid (∀ W, Below (w.alloc (.cells (insC x xa xc) 46)).heap.size (w.alloc (.cells (insC x xa xc) 46)) W → (W.cell? ⟨w.heap.size, 0, none⟩ = some (.int .i64 x.op) ∧ W.cell? ⟨w.heap.size, 1, none⟩ = some (.int .i64 x.dst) ∧ W.cell? ⟨w.heap.size, 2, none⟩ = some (.int .i64 x.a) ∧ W.cell? ⟨w.heap.size, 3, none⟩ = some (.int .i64 x.b) ∧ W.cell? ⟨w.heap.size, 4, none⟩ = some (.int .i64 x.imm) ∧ W.cell? ⟨w.heap.size, 5, none⟩ = some (.int .i64 x.callee) ∧ W.cell? ⟨w.heap.size, 7, none⟩ = some (.int .i64 x.many))) := fun W hb => by
    obtain ⟨a0, a1, a2, a3, a4, a5, _, a7⟩ := box8 ((Blk.new w 46 (insC x xa xc)).below hb (Blk.new w _ _).lt)
    exact ⟨a0, a1, a2, a3, a4, a5, a7⟩
  have HPW : Hid (∀ W, Below (w.alloc (.cells (insC x xa xc) 46)).heap.size (w.alloc (.cells (insC x xa xc) 46)) W → PowW W) := fun W hb => hP.below (HB0.out.trans (hb.mono HB0.out.size))
  have CI : Hid (∀ W, Below (w.alloc (.cells (insC x xa xc) 46)).heap.size (w.alloc (.cells (insC x xa xc) 46)) W → _) := fun W hb => itoaP_any x.imm W (HPW.out W hb) hR.imm.1 hR.imm.2
  have CD : Hid (∀ W, Below (w.alloc (.cells (insC x xa xc) 46)).heap.size (w.alloc (.cells (insC x xa xc) 46)) W → _) := fun W hb => reg7_any x.dst W (HPW.out W hb) hR.dst
  have z1 := itS_size x.imm hR.imm
  have z2 := rgT_size x.dst hR.dst
  have C0 : Hid (∀ W, Below (w.alloc (.cells (insC x xa xc) 46)).heap.size (w.alloc (.cells (insC x xa xc) 46)) W → Calls Tryz.prog 61 #[.int .i64 x.a] W fun e w' => e = .returned (.string (rgT x.a)) ∧ Below (w.alloc (.cells (insC x xa xc) 46)).heap.size (w.alloc (.cells (insC x xa xc) 46)) w') := fun W hb => (reg7_any x.a W (HPW.out W hb) hR.a).mono fun e w' ⟨h1, h2⟩ => ⟨h1, hb.trans (h2.mono hb.size)⟩
  have y0 := rgT_size x.a hR.a
  have C1 : Hid (∀ W, Below (w.alloc (.cells (insC x xa xc) 46)).heap.size (w.alloc (.cells (insC x xa xc) 46)) W → Calls Tryz.prog 61 #[.int .i64 x.b] W fun e w' => e = .returned (.string (rgT x.b)) ∧ Below (w.alloc (.cells (insC x xa xc) 46)).heap.size (w.alloc (.cells (insC x xa xc) 46)) w') := fun W hb => (reg7_any x.b W (HPW.out W hb) hR.b).mono fun e w' ⟨h1, h2⟩ => ⟨h1, hb.trans (h2.mono hb.size)⟩
  have y1 := rgT_size x.b hR.b
  have SX := insC.eq_1 x xa xc
  rw [SX] at HB0 HS HPW CI CD C0 C1
  unfold insV
  rw [HA.out]
  clear hP hR SX HPW HA
  obtain ⟨rd, hrd⟩ : ∃ rd, rd = rgT x.dst := ⟨_, rfl⟩
  rw [← hrd] at z2 CD
  clear hrd
  generalize rgT x.a = ra at *
  generalize rgT x.b = rb at *
  generalize itS x.imm = nimm at *
  have al : ∀ W, (Op.stringOp .add rd ⟨#[32, 226, 134, 144, 32]⟩).run Tryz.prog W = .ok (.string (rd ++ ⟨#[32, 226, 134, 144, 32]⟩)) W := fun W => run_string_add_sum W _ _ (by show rd.size + 5 ≤ _; omega)
  have zl : (rd ++ ⟨#[32, 226, 134, 144, 32]⟩).size ≤ 35 := by rw [ByteArray.size_append]; show rd.size + 5 ≤ 35; omega
  generalize rd ++ ⟨#[32, 226, 134, 144, 32]⟩ = lf at *
  have ad1 : ∀ W, (Op.stringOp .add ⟨#[115, 116, 111, 114, 101, 32]⟩ ra).run Tryz.prog W = .ok (.string (⟨#[115, 116, 111, 114, 101, 32]⟩ ++ ra)) W := fun W => run_string_add_sum W _ _ (by show 6 + ra.size ≤ _; omega)
  have ad2 : ∀ W, (Op.stringOp .add (⟨#[115, 116, 111, 114, 101, 32]⟩ ++ ra) ⟨#[32]⟩).run Tryz.prog W = .ok (.string (⟨#[115, 116, 111, 114, 101, 32]⟩ ++ ra ++ ⟨#[32]⟩)) W := fun W => run_string_add_sum W _ _ (by simp only [ByteArray.size_append]; show 6 + ra.size + 1 ≤ _; omega)
  have ad3 : ∀ W, (Op.stringOp .add (⟨#[115, 116, 111, 114, 101, 32]⟩ ++ ra ++ ⟨#[32]⟩) nimm).run Tryz.prog W = .ok (.string (⟨#[115, 116, 111, 114, 101, 32]⟩ ++ ra ++ ⟨#[32]⟩ ++ nimm)) W := fun W => run_string_add_sum W _ _ (by simp only [ByteArray.size_append]; show 6 + ra.size + 1 + nimm.size ≤ _; omega)
  have ad4 : ∀ W, (Op.stringOp .add (⟨#[115, 116, 111, 114, 101, 32]⟩ ++ ra ++ ⟨#[32]⟩ ++ nimm) ⟨#[32]⟩).run Tryz.prog W = .ok (.string (⟨#[115, 116, 111, 114, 101, 32]⟩ ++ ra ++ ⟨#[32]⟩ ++ nimm ++ ⟨#[32]⟩)) W := fun W => run_string_add_sum W _ _ (by simp only [ByteArray.size_append]; show 6 + ra.size + 1 + nimm.size + 1 ≤ _; omega)
  have ad5 : ∀ W, (Op.stringOp .add (⟨#[115, 116, 111, 114, 101, 32]⟩ ++ ra ++ ⟨#[32]⟩ ++ nimm ++ ⟨#[32]⟩) rb).run Tryz.prog W = .ok (.string (⟨#[115, 116, 111, 114, 101, 32]⟩ ++ ra ++ ⟨#[32]⟩ ++ nimm ++ ⟨#[32]⟩ ++ rb)) W := fun W => run_string_add_sum W _ _ (by simp only [ByteArray.size_append]; show 6 + ra.size + 1 + nimm.size + 1 + rb.size ≤ _; omega)
  have ad6 : ∀ W, (Op.stringOp .add (⟨#[115, 116, 111, 114, 101, 32]⟩ ++ ra ++ ⟨#[32]⟩ ++ nimm ++ ⟨#[32]⟩ ++ rb) ⟨#[10]⟩).run Tryz.prog W = .ok (.string (⟨#[115, 116, 111, 114, 101, 32]⟩ ++ ra ++ ⟨#[32]⟩ ++ nimm ++ ⟨#[32]⟩ ++ rb ++ ⟨#[10]⟩)) W := fun W => run_string_add_sum W _ _ (by simp only [ByteArray.size_append]; show 6 + ra.size + 1 + nimm.size + 1 + rb.size + 1 ≤ _; omega)
  clear z1 z2 zl y0 y1
  rw [ho] at HB0 HS CI CD C0 C1 ⊢
  clear ho
  obtain ⟨A, hA⟩ : ∃ A, A = w.alloc (.cells #[.int .i64 12, .int .i64 x.dst, .int .i64 x.a, .int .i64 x.b, .int .i64 x.imm, .int .i64 x.callee, .slice xa x.args.length xc, .int .i64 x.many] 46) := ⟨_, rfl⟩
  have CI0 := Lib.hid (CI.out _ (Below.refl _ _))
  go_enter Tryz.func26, Tryz.ntmps26
  go_wp2_with fail
  refine CI0.out.mono ?_
  rintro e w1 ⟨rfl, hb1⟩
  rw [← hA] at hb1 HB0 HS CI CD C0 C1
  clear CI0 CI
  have D1 := Lib.hid (CD.out _ hb1)
  obtain ⟨a0, a1, a2, a3, a4, a5, a7⟩ := HS.out _ hb1
  go_wp2_with fail
  refine D1.out.mono ?_
  rintro e w2 ⟨rfl, hb2⟩
  have HB2 : Hid (Below A.heap.size A w2) := hb1.trans (hb2.mono hb1.size)
  clear D1 CD a0 a1 a2 a3 a4 a5 a7 hb1 hb2
  obtain ⟨a0, a1, a2, a3, a4, a5, a7⟩ := HS.out _ HB2.out
  have hbd := HB2.out.drew
  have HSS : Hid (∀ W, Below A.heap.size A W → Below A.heap.size A W ∧ (W.cell? ⟨w.heap.size, 0, none⟩ = some (.int .i64 12) ∧ W.cell? ⟨w.heap.size, 1, none⟩ = some (.int .i64 x.dst) ∧ W.cell? ⟨w.heap.size, 2, none⟩ = some (.int .i64 x.a) ∧ W.cell? ⟨w.heap.size, 3, none⟩ = some (.int .i64 x.b) ∧ W.cell? ⟨w.heap.size, 4, none⟩ = some (.int .i64 x.imm) ∧ W.cell? ⟨w.heap.size, 5, none⟩ = some (.int .i64 x.callee) ∧ W.cell? ⟨w.heap.size, 7, none⟩ = some (.int .i64 x.many))) := fun W hb => ⟨hb, HS.out W hb⟩
  go_upto_region 9 with fail
  clear a0 a1 a2 a3 a4 a5 a7
  go_region_held3 (fun W => Below A.heap.size A W ∧ (W.cell? ⟨w.heap.size, 0, none⟩ = some (.int .i64 12) ∧ W.cell? ⟨w.heap.size, 1, none⟩ = some (.int .i64 x.dst) ∧ W.cell? ⟨w.heap.size, 2, none⟩ = some (.int .i64 x.a) ∧ W.cell? ⟨w.heap.size, 3, none⟩ = some (.int .i64 x.b) ∧ W.cell? ⟨w.heap.size, 4, none⟩ = some (.int .i64 x.imm) ∧ W.cell? ⟨w.heap.size, 5, none⟩ = some (.int .i64 x.callee) ∧ W.cell? ⟨w.heap.size, 7, none⟩ = some (.int .i64 x.many)))
    (first | (refine HSS.out _ ?_; assumption))
    (first
      | (go_at_call 61; have hq := hb3; refine (C1.out _ (by go_split_ands; assumption)).mono ?_; rintro e w4 ⟨rfl, hb4⟩)
      | (go_at_call 61; refine (C0.out _ (by go_split_ands; assumption)).mono ?_; rintro e w3 ⟨rfl, hb3⟩))
  all_goals (
    rename_i hH
    go_wp2
    go_ret
    exact ⟨rfl, HB0.out.trans (hH.1.mono HB0.out.size)⟩)
set_option maxHeartbeats 4000000 in
set_option maxRecDepth 100000 in
theorem lineIns_call (x : Ii) (xa : Option Addr) (xc : Nat) (w : World) (ho : x.op = 13) (hR : InsR x) (hP : PowW w) :
    Calls Tryz.prog 26 #[insV x xa xc] w fun e w' => e = .returned (.string (rowB (insWo x))) ∧ Below w.heap.size w w' := by
  have HA : Hid (rowB (insWo x) = ⟨#[99, 97, 108, 108, 32]⟩ ++ itS x.callee ++ ⟨#[32]⟩ ++ itS x.many ++ ⟨#[10]⟩) := by
    show _ = _
    unfold insWo
    rw [if_neg (by omega), if_neg (by omega), if_neg (by omega), if_pos ho]
    refine bytes_eq ?_
    rw [lit_row _ (by simp)]
    simp only [ByteArray.data_append, Array.toList_append, List.flatMap_cons, List.flatMap_nil, Wo.b]
    try simp only [ho]
    simp
  have HB0 : Hid (Below w.heap.size w (w.alloc (.cells (insC x xa xc) 46))) := (Below.refl _ w).alloc (Nat.le_refl _) _
  have HS : Hid (∀ W, Below (w.alloc (.cells (insC x xa xc) 46)).heap.size (w.alloc (.cells (insC x xa xc) 46)) W → (W.cell? ⟨w.heap.size, 0, none⟩ = some (.int .i64 x.op) ∧ W.cell? ⟨w.heap.size, 1, none⟩ = some (.int .i64 x.dst) ∧ W.cell? ⟨w.heap.size, 2, none⟩ = some (.int .i64 x.a) ∧ W.cell? ⟨w.heap.size, 3, none⟩ = some (.int .i64 x.b) ∧ W.cell? ⟨w.heap.size, 4, none⟩ = some (.int .i64 x.imm) ∧ W.cell? ⟨w.heap.size, 5, none⟩ = some (.int .i64 x.callee) ∧ W.cell? ⟨w.heap.size, 7, none⟩ = some (.int .i64 x.many))) := fun W hb => by
    obtain ⟨a0, a1, a2, a3, a4, a5, _, a7⟩ := box8 ((Blk.new w 46 (insC x xa xc)).below hb (Blk.new w _ _).lt)
    exact ⟨a0, a1, a2, a3, a4, a5, a7⟩
  have HPW : Hid (∀ W, Below (w.alloc (.cells (insC x xa xc) 46)).heap.size (w.alloc (.cells (insC x xa xc) 46)) W → PowW W) := fun W hb => hP.below (HB0.out.trans (hb.mono HB0.out.size))
  have CI : Hid (∀ W, Below (w.alloc (.cells (insC x xa xc) 46)).heap.size (w.alloc (.cells (insC x xa xc) 46)) W → _) := fun W hb => itoaP_any x.imm W (HPW.out W hb) hR.imm.1 hR.imm.2
  have CD : Hid (∀ W, Below (w.alloc (.cells (insC x xa xc) 46)).heap.size (w.alloc (.cells (insC x xa xc) 46)) W → _) := fun W hb => reg7_any x.dst W (HPW.out W hb) hR.dst
  have z1 := itS_size x.imm hR.imm
  have z2 := rgT_size x.dst hR.dst
  have C0 : Hid (∀ W, Below (w.alloc (.cells (insC x xa xc) 46)).heap.size (w.alloc (.cells (insC x xa xc) 46)) W → Calls Tryz.prog 25 #[.int .i64 x.callee] W fun e w' => e = .returned (.string (itS x.callee)) ∧ Below (w.alloc (.cells (insC x xa xc) 46)).heap.size (w.alloc (.cells (insC x xa xc) 46)) w') := fun W hb => (itoaP_any x.callee W (HPW.out W hb) hR.callee.1 hR.callee.2).mono fun e w' ⟨h1, h2⟩ => ⟨h1, hb.trans (h2.mono hb.size)⟩
  have y0 := itS_size x.callee hR.callee
  have C1 : Hid (∀ W, Below (w.alloc (.cells (insC x xa xc) 46)).heap.size (w.alloc (.cells (insC x xa xc) 46)) W → Calls Tryz.prog 25 #[.int .i64 x.many] W fun e w' => e = .returned (.string (itS x.many)) ∧ Below (w.alloc (.cells (insC x xa xc) 46)).heap.size (w.alloc (.cells (insC x xa xc) 46)) w') := fun W hb => (itoaP_any x.many W (HPW.out W hb) hR.many.1 hR.many.2).mono fun e w' ⟨h1, h2⟩ => ⟨h1, hb.trans (h2.mono hb.size)⟩
  have y1 := itS_size x.many hR.many
  have SX := insC.eq_1 x xa xc
  rw [SX] at HB0 HS HPW CI CD C0 C1
  unfold insV
  rw [HA.out]
  clear hP hR SX HPW HA
  obtain ⟨rd, hrd⟩ : ∃ rd, rd = rgT x.dst := ⟨_, rfl⟩
  rw [← hrd] at z2 CD
  clear hrd
  generalize itS x.callee = ncallee at *
  generalize itS x.many = nmany at *
  generalize itS x.imm = nimm at *
  have al : ∀ W, (Op.stringOp .add rd ⟨#[32, 226, 134, 144, 32]⟩).run Tryz.prog W = .ok (.string (rd ++ ⟨#[32, 226, 134, 144, 32]⟩)) W := fun W => run_string_add_sum W _ _ (by show rd.size + 5 ≤ _; omega)
  have zl : (rd ++ ⟨#[32, 226, 134, 144, 32]⟩).size ≤ 35 := by rw [ByteArray.size_append]; show rd.size + 5 ≤ 35; omega
  generalize rd ++ ⟨#[32, 226, 134, 144, 32]⟩ = lf at *
  have ad1 : ∀ W, (Op.stringOp .add ⟨#[99, 97, 108, 108, 32]⟩ ncallee).run Tryz.prog W = .ok (.string (⟨#[99, 97, 108, 108, 32]⟩ ++ ncallee)) W := fun W => run_string_add_sum W _ _ (by show 5 + ncallee.size ≤ _; omega)
  have ad2 : ∀ W, (Op.stringOp .add (⟨#[99, 97, 108, 108, 32]⟩ ++ ncallee) ⟨#[32]⟩).run Tryz.prog W = .ok (.string (⟨#[99, 97, 108, 108, 32]⟩ ++ ncallee ++ ⟨#[32]⟩)) W := fun W => run_string_add_sum W _ _ (by simp only [ByteArray.size_append]; show 5 + ncallee.size + 1 ≤ _; omega)
  have ad3 : ∀ W, (Op.stringOp .add (⟨#[99, 97, 108, 108, 32]⟩ ++ ncallee ++ ⟨#[32]⟩) nmany).run Tryz.prog W = .ok (.string (⟨#[99, 97, 108, 108, 32]⟩ ++ ncallee ++ ⟨#[32]⟩ ++ nmany)) W := fun W => run_string_add_sum W _ _ (by simp only [ByteArray.size_append]; show 5 + ncallee.size + 1 + nmany.size ≤ _; omega)
  have ad4 : ∀ W, (Op.stringOp .add (⟨#[99, 97, 108, 108, 32]⟩ ++ ncallee ++ ⟨#[32]⟩ ++ nmany) ⟨#[10]⟩).run Tryz.prog W = .ok (.string (⟨#[99, 97, 108, 108, 32]⟩ ++ ncallee ++ ⟨#[32]⟩ ++ nmany ++ ⟨#[10]⟩)) W := fun W => run_string_add_sum W _ _ (by simp only [ByteArray.size_append]; show 5 + ncallee.size + 1 + nmany.size + 1 ≤ _; omega)
  clear z1 z2 zl y0 y1
  rw [ho] at HB0 HS CI CD C0 C1 ⊢
  clear ho
  obtain ⟨A, hA⟩ : ∃ A, A = w.alloc (.cells #[.int .i64 13, .int .i64 x.dst, .int .i64 x.a, .int .i64 x.b, .int .i64 x.imm, .int .i64 x.callee, .slice xa x.args.length xc, .int .i64 x.many] 46) := ⟨_, rfl⟩
  have CI0 := Lib.hid (CI.out _ (Below.refl _ _))
  go_enter Tryz.func26, Tryz.ntmps26
  go_wp2_with fail
  refine CI0.out.mono ?_
  rintro e w1 ⟨rfl, hb1⟩
  rw [← hA] at hb1 HB0 HS CI CD C0 C1
  clear CI0 CI
  have D1 := Lib.hid (CD.out _ hb1)
  obtain ⟨a0, a1, a2, a3, a4, a5, a7⟩ := HS.out _ hb1
  go_wp2_with fail
  refine D1.out.mono ?_
  rintro e w2 ⟨rfl, hb2⟩
  have HB2 : Hid (Below A.heap.size A w2) := hb1.trans (hb2.mono hb1.size)
  clear D1 CD a0 a1 a2 a3 a4 a5 a7 hb1 hb2
  obtain ⟨a0, a1, a2, a3, a4, a5, a7⟩ := HS.out _ HB2.out
  have hbd := HB2.out.drew
  have HSS : Hid (∀ W, Below A.heap.size A W → Below A.heap.size A W ∧ (W.cell? ⟨w.heap.size, 0, none⟩ = some (.int .i64 13) ∧ W.cell? ⟨w.heap.size, 1, none⟩ = some (.int .i64 x.dst) ∧ W.cell? ⟨w.heap.size, 2, none⟩ = some (.int .i64 x.a) ∧ W.cell? ⟨w.heap.size, 3, none⟩ = some (.int .i64 x.b) ∧ W.cell? ⟨w.heap.size, 4, none⟩ = some (.int .i64 x.imm) ∧ W.cell? ⟨w.heap.size, 5, none⟩ = some (.int .i64 x.callee) ∧ W.cell? ⟨w.heap.size, 7, none⟩ = some (.int .i64 x.many))) := fun W hb => ⟨hb, HS.out W hb⟩
  go_upto_region 11 with fail
  clear a0 a1 a2 a3 a4 a5 a7
  go_region_held3 (fun W => Below A.heap.size A W ∧ (W.cell? ⟨w.heap.size, 0, none⟩ = some (.int .i64 13) ∧ W.cell? ⟨w.heap.size, 1, none⟩ = some (.int .i64 x.dst) ∧ W.cell? ⟨w.heap.size, 2, none⟩ = some (.int .i64 x.a) ∧ W.cell? ⟨w.heap.size, 3, none⟩ = some (.int .i64 x.b) ∧ W.cell? ⟨w.heap.size, 4, none⟩ = some (.int .i64 x.imm) ∧ W.cell? ⟨w.heap.size, 5, none⟩ = some (.int .i64 x.callee) ∧ W.cell? ⟨w.heap.size, 7, none⟩ = some (.int .i64 x.many)))
    (first | (refine HSS.out _ ?_; assumption))
    (first
      | (go_at_call 25; have hq := hb3; refine (C1.out _ (by go_split_ands; assumption)).mono ?_; rintro e w4 ⟨rfl, hb4⟩)
      | (go_at_call 25; refine (C0.out _ (by go_split_ands; assumption)).mono ?_; rintro e w3 ⟨rfl, hb3⟩))
  all_goals (
    rename_i hH
    go_wp2
    go_ret
    exact ⟨rfl, HB0.out.trans (hH.1.mono HB0.out.size)⟩)
set_option maxHeartbeats 4000000 in
set_option maxRecDepth 100000 in
theorem lineIns_move (x : Ii) (xa : Option Addr) (xc : Nat) (w : World) (ho : x.op = 15) (hR : InsR x) (hP : PowW w) :
    Calls Tryz.prog 26 #[insV x xa xc] w fun e w' => e = .returned (.string (rowB (insWo x))) ∧ Below w.heap.size w w' := by
  have HA : Hid (rowB (insWo x) = (rgT x.dst ++ ⟨#[32, 226, 134, 144, 32]⟩) ++ rgT x.a ++ ⟨#[10]⟩) := by
    show _ = _
    unfold insWo
    rw [if_neg (by omega), if_neg (by omega), if_neg (by omega), if_neg (by omega), if_pos ho]
    refine bytes_eq ?_
    rw [lit_row _ (by simp)]
    simp only [ByteArray.data_append, Array.toList_append, List.flatMap_cons, List.flatMap_nil, Wo.b, rgT, larr]
    try simp only [ho]
    simp
  have HB0 : Hid (Below w.heap.size w (w.alloc (.cells (insC x xa xc) 46))) := (Below.refl _ w).alloc (Nat.le_refl _) _
  have HS : Hid (∀ W, Below (w.alloc (.cells (insC x xa xc) 46)).heap.size (w.alloc (.cells (insC x xa xc) 46)) W → (W.cell? ⟨w.heap.size, 0, none⟩ = some (.int .i64 x.op) ∧ W.cell? ⟨w.heap.size, 1, none⟩ = some (.int .i64 x.dst) ∧ W.cell? ⟨w.heap.size, 2, none⟩ = some (.int .i64 x.a) ∧ W.cell? ⟨w.heap.size, 3, none⟩ = some (.int .i64 x.b) ∧ W.cell? ⟨w.heap.size, 4, none⟩ = some (.int .i64 x.imm) ∧ W.cell? ⟨w.heap.size, 5, none⟩ = some (.int .i64 x.callee) ∧ W.cell? ⟨w.heap.size, 7, none⟩ = some (.int .i64 x.many))) := fun W hb => by
    obtain ⟨a0, a1, a2, a3, a4, a5, _, a7⟩ := box8 ((Blk.new w 46 (insC x xa xc)).below hb (Blk.new w _ _).lt)
    exact ⟨a0, a1, a2, a3, a4, a5, a7⟩
  have HPW : Hid (∀ W, Below (w.alloc (.cells (insC x xa xc) 46)).heap.size (w.alloc (.cells (insC x xa xc) 46)) W → PowW W) := fun W hb => hP.below (HB0.out.trans (hb.mono HB0.out.size))
  have CI : Hid (∀ W, Below (w.alloc (.cells (insC x xa xc) 46)).heap.size (w.alloc (.cells (insC x xa xc) 46)) W → _) := fun W hb => itoaP_any x.imm W (HPW.out W hb) hR.imm.1 hR.imm.2
  have CD : Hid (∀ W, Below (w.alloc (.cells (insC x xa xc) 46)).heap.size (w.alloc (.cells (insC x xa xc) 46)) W → _) := fun W hb => reg7_any x.dst W (HPW.out W hb) hR.dst
  have z1 := itS_size x.imm hR.imm
  have z2 := rgT_size x.dst hR.dst
  have C0 : Hid (∀ W, Below (w.alloc (.cells (insC x xa xc) 46)).heap.size (w.alloc (.cells (insC x xa xc) 46)) W → Calls Tryz.prog 61 #[.int .i64 x.a] W fun e w' => e = .returned (.string (rgT x.a)) ∧ Below (w.alloc (.cells (insC x xa xc) 46)).heap.size (w.alloc (.cells (insC x xa xc) 46)) w') := fun W hb => (reg7_any x.a W (HPW.out W hb) hR.a).mono fun e w' ⟨h1, h2⟩ => ⟨h1, hb.trans (h2.mono hb.size)⟩
  have y0 := rgT_size x.a hR.a
  have SX := insC.eq_1 x xa xc
  rw [SX] at HB0 HS HPW CI CD C0
  unfold insV
  rw [HA.out]
  clear hP hR SX HPW HA
  obtain ⟨rd, hrd⟩ : ∃ rd, rd = rgT x.dst := ⟨_, rfl⟩
  rw [← hrd] at z2 CD ⊢
  clear hrd
  generalize rgT x.a = ra at *
  generalize itS x.imm = nimm at *
  have al : ∀ W, (Op.stringOp .add rd ⟨#[32, 226, 134, 144, 32]⟩).run Tryz.prog W = .ok (.string (rd ++ ⟨#[32, 226, 134, 144, 32]⟩)) W := fun W => run_string_add_sum W _ _ (by show rd.size + 5 ≤ _; omega)
  have zl : (rd ++ ⟨#[32, 226, 134, 144, 32]⟩).size ≤ 35 := by rw [ByteArray.size_append]; show rd.size + 5 ≤ 35; omega
  generalize rd ++ ⟨#[32, 226, 134, 144, 32]⟩ = lf at *
  have ad1 : ∀ W, (Op.stringOp .add lf ra).run Tryz.prog W = .ok (.string (lf ++ ra)) W := fun W => run_string_add_sum W _ _ (by show lf.size + ra.size ≤ _; omega)
  have ad2 : ∀ W, (Op.stringOp .add (lf ++ ra) ⟨#[10]⟩).run Tryz.prog W = .ok (.string (lf ++ ra ++ ⟨#[10]⟩)) W := fun W => run_string_add_sum W _ _ (by simp only [ByteArray.size_append]; show lf.size + ra.size + 1 ≤ _; omega)
  clear z1 z2 zl y0
  rw [ho] at HB0 HS CI CD C0 ⊢
  clear ho
  obtain ⟨A, hA⟩ : ∃ A, A = w.alloc (.cells #[.int .i64 15, .int .i64 x.dst, .int .i64 x.a, .int .i64 x.b, .int .i64 x.imm, .int .i64 x.callee, .slice xa x.args.length xc, .int .i64 x.many] 46) := ⟨_, rfl⟩
  have CI0 := Lib.hid (CI.out _ (Below.refl _ _))
  go_enter Tryz.func26, Tryz.ntmps26
  go_wp2_with fail
  refine CI0.out.mono ?_
  rintro e w1 ⟨rfl, hb1⟩
  rw [← hA] at hb1 HB0 HS CI CD C0
  clear CI0 CI
  have D1 := Lib.hid (CD.out _ hb1)
  obtain ⟨a0, a1, a2, a3, a4, a5, a7⟩ := HS.out _ hb1
  go_wp2_with fail
  refine D1.out.mono ?_
  rintro e w2 ⟨rfl, hb2⟩
  have HB2 : Hid (Below A.heap.size A w2) := hb1.trans (hb2.mono hb1.size)
  clear D1 CD a0 a1 a2 a3 a4 a5 a7 hb1 hb2
  obtain ⟨a0, a1, a2, a3, a4, a5, a7⟩ := HS.out _ HB2.out
  have X0 := Lib.hid (C0.out _ HB2.out)
  go_wp2_with fail
  refine X0.out.mono ?_
  rintro e w3 ⟨rfl, hb3⟩
  have HB3 : Hid (Below A.heap.size A w3) := hb3
  clear X0 C0 hb3 a0 a1 a2 a3 a4 a5 a7
  obtain ⟨a0, a1, a2, a3, a4, a5, a7⟩ := HS.out _ HB3.out
  go_wp2
  go_ret
  exact ⟨rfl, HB0.out.trans (HB3.out.mono HB0.out.size)⟩
set_option maxHeartbeats 4000000 in
set_option maxRecDepth 100000 in
theorem lineIns_put (x : Ii) (xa : Option Addr) (xc : Nat) (w : World) (ho : x.op = 16) (hR : InsR x) (hP : PowW w) :
    Calls Tryz.prog 26 #[insV x xa xc] w fun e w' => e = .returned (.string (rowB (insWo x))) ∧ Below w.heap.size w w' := by
  have HA : Hid (rowB (insWo x) = slT x.imm ++ ⟨#[32, 226, 134, 144, 32]⟩ ++ rgT x.a ++ ⟨#[10]⟩) := by
    show _ = _
    unfold insWo
    rw [if_neg (by omega), if_neg (by omega), if_neg (by omega), if_neg (by omega), if_neg (by omega), if_pos ho]
    refine bytes_eq ?_
    rw [lit_row _ (by simp)]
    simp only [ByteArray.data_append, Array.toList_append, List.flatMap_cons, List.flatMap_nil, Wo.b, rgT, slT, larr]
    try simp only [ho]
    simp
  have HB0 : Hid (Below w.heap.size w (w.alloc (.cells (insC x xa xc) 46))) := (Below.refl _ w).alloc (Nat.le_refl _) _
  have HS : Hid (∀ W, Below (w.alloc (.cells (insC x xa xc) 46)).heap.size (w.alloc (.cells (insC x xa xc) 46)) W → (W.cell? ⟨w.heap.size, 0, none⟩ = some (.int .i64 x.op) ∧ W.cell? ⟨w.heap.size, 1, none⟩ = some (.int .i64 x.dst) ∧ W.cell? ⟨w.heap.size, 2, none⟩ = some (.int .i64 x.a) ∧ W.cell? ⟨w.heap.size, 3, none⟩ = some (.int .i64 x.b) ∧ W.cell? ⟨w.heap.size, 4, none⟩ = some (.int .i64 x.imm) ∧ W.cell? ⟨w.heap.size, 5, none⟩ = some (.int .i64 x.callee) ∧ W.cell? ⟨w.heap.size, 7, none⟩ = some (.int .i64 x.many))) := fun W hb => by
    obtain ⟨a0, a1, a2, a3, a4, a5, _, a7⟩ := box8 ((Blk.new w 46 (insC x xa xc)).below hb (Blk.new w _ _).lt)
    exact ⟨a0, a1, a2, a3, a4, a5, a7⟩
  have HPW : Hid (∀ W, Below (w.alloc (.cells (insC x xa xc) 46)).heap.size (w.alloc (.cells (insC x xa xc) 46)) W → PowW W) := fun W hb => hP.below (HB0.out.trans (hb.mono HB0.out.size))
  have CI : Hid (∀ W, Below (w.alloc (.cells (insC x xa xc) 46)).heap.size (w.alloc (.cells (insC x xa xc) 46)) W → _) := fun W hb => itoaP_any x.imm W (HPW.out W hb) hR.imm.1 hR.imm.2
  have CD : Hid (∀ W, Below (w.alloc (.cells (insC x xa xc) 46)).heap.size (w.alloc (.cells (insC x xa xc) 46)) W → _) := fun W hb => reg7_any x.dst W (HPW.out W hb) hR.dst
  have z1 := itS_size x.imm hR.imm
  have z2 := rgT_size x.dst hR.dst
  have C0 : Hid (∀ W, Below (w.alloc (.cells (insC x xa xc) 46)).heap.size (w.alloc (.cells (insC x xa xc) 46)) W → Calls Tryz.prog 62 #[.int .i64 x.imm] W fun e w' => e = .returned (.string (slT x.imm)) ∧ Below (w.alloc (.cells (insC x xa xc) 46)).heap.size (w.alloc (.cells (insC x xa xc) 46)) w') := fun W hb => (slot7_any x.imm W (HPW.out W hb) hR.imm).mono fun e w' ⟨h1, h2⟩ => ⟨h1, hb.trans (h2.mono hb.size)⟩
  have y0 := slT_size x.imm hR.imm
  have C1 : Hid (∀ W, Below (w.alloc (.cells (insC x xa xc) 46)).heap.size (w.alloc (.cells (insC x xa xc) 46)) W → Calls Tryz.prog 61 #[.int .i64 x.a] W fun e w' => e = .returned (.string (rgT x.a)) ∧ Below (w.alloc (.cells (insC x xa xc) 46)).heap.size (w.alloc (.cells (insC x xa xc) 46)) w') := fun W hb => (reg7_any x.a W (HPW.out W hb) hR.a).mono fun e w' ⟨h1, h2⟩ => ⟨h1, hb.trans (h2.mono hb.size)⟩
  have y1 := rgT_size x.a hR.a
  have SX := insC.eq_1 x xa xc
  rw [SX] at HB0 HS HPW CI CD C0 C1
  unfold insV
  rw [HA.out]
  clear hP hR SX HPW HA
  obtain ⟨rd, hrd⟩ : ∃ rd, rd = rgT x.dst := ⟨_, rfl⟩
  rw [← hrd] at z2 CD
  clear hrd
  generalize slT x.imm = simm at *
  generalize rgT x.a = ra at *
  generalize itS x.imm = nimm at *
  have al : ∀ W, (Op.stringOp .add rd ⟨#[32, 226, 134, 144, 32]⟩).run Tryz.prog W = .ok (.string (rd ++ ⟨#[32, 226, 134, 144, 32]⟩)) W := fun W => run_string_add_sum W _ _ (by show rd.size + 5 ≤ _; omega)
  have zl : (rd ++ ⟨#[32, 226, 134, 144, 32]⟩).size ≤ 35 := by rw [ByteArray.size_append]; show rd.size + 5 ≤ 35; omega
  generalize rd ++ ⟨#[32, 226, 134, 144, 32]⟩ = lf at *
  have ad1 : ∀ W, (Op.stringOp .add simm ⟨#[32, 226, 134, 144, 32]⟩).run Tryz.prog W = .ok (.string (simm ++ ⟨#[32, 226, 134, 144, 32]⟩)) W := fun W => run_string_add_sum W _ _ (by show simm.size + 5 ≤ _; omega)
  have ad2 : ∀ W, (Op.stringOp .add (simm ++ ⟨#[32, 226, 134, 144, 32]⟩) ra).run Tryz.prog W = .ok (.string (simm ++ ⟨#[32, 226, 134, 144, 32]⟩ ++ ra)) W := fun W => run_string_add_sum W _ _ (by simp only [ByteArray.size_append]; show simm.size + 5 + ra.size ≤ _; omega)
  have ad3 : ∀ W, (Op.stringOp .add (simm ++ ⟨#[32, 226, 134, 144, 32]⟩ ++ ra) ⟨#[10]⟩).run Tryz.prog W = .ok (.string (simm ++ ⟨#[32, 226, 134, 144, 32]⟩ ++ ra ++ ⟨#[10]⟩)) W := fun W => run_string_add_sum W _ _ (by simp only [ByteArray.size_append]; show simm.size + 5 + ra.size + 1 ≤ _; omega)
  clear z1 z2 zl y0 y1
  rw [ho] at HB0 HS CI CD C0 C1 ⊢
  clear ho
  obtain ⟨A, hA⟩ : ∃ A, A = w.alloc (.cells #[.int .i64 16, .int .i64 x.dst, .int .i64 x.a, .int .i64 x.b, .int .i64 x.imm, .int .i64 x.callee, .slice xa x.args.length xc, .int .i64 x.many] 46) := ⟨_, rfl⟩
  have CI0 := Lib.hid (CI.out _ (Below.refl _ _))
  go_enter Tryz.func26, Tryz.ntmps26
  go_wp2_with fail
  refine CI0.out.mono ?_
  rintro e w1 ⟨rfl, hb1⟩
  rw [← hA] at hb1 HB0 HS CI CD C0 C1
  clear CI0 CI
  have D1 := Lib.hid (CD.out _ hb1)
  obtain ⟨a0, a1, a2, a3, a4, a5, a7⟩ := HS.out _ hb1
  go_wp2_with fail
  refine D1.out.mono ?_
  rintro e w2 ⟨rfl, hb2⟩
  have HB2 : Hid (Below A.heap.size A w2) := hb1.trans (hb2.mono hb1.size)
  clear D1 CD a0 a1 a2 a3 a4 a5 a7 hb1 hb2
  obtain ⟨a0, a1, a2, a3, a4, a5, a7⟩ := HS.out _ HB2.out
  have hbd := HB2.out.drew
  have HSS : Hid (∀ W, Below A.heap.size A W → Below A.heap.size A W ∧ (W.cell? ⟨w.heap.size, 0, none⟩ = some (.int .i64 16) ∧ W.cell? ⟨w.heap.size, 1, none⟩ = some (.int .i64 x.dst) ∧ W.cell? ⟨w.heap.size, 2, none⟩ = some (.int .i64 x.a) ∧ W.cell? ⟨w.heap.size, 3, none⟩ = some (.int .i64 x.b) ∧ W.cell? ⟨w.heap.size, 4, none⟩ = some (.int .i64 x.imm) ∧ W.cell? ⟨w.heap.size, 5, none⟩ = some (.int .i64 x.callee) ∧ W.cell? ⟨w.heap.size, 7, none⟩ = some (.int .i64 x.many))) := fun W hb => ⟨hb, HS.out W hb⟩
  go_upto_region 15 with fail
  clear a0 a1 a2 a3 a4 a5 a7
  go_region_held3 (fun W => Below A.heap.size A W ∧ (W.cell? ⟨w.heap.size, 0, none⟩ = some (.int .i64 16) ∧ W.cell? ⟨w.heap.size, 1, none⟩ = some (.int .i64 x.dst) ∧ W.cell? ⟨w.heap.size, 2, none⟩ = some (.int .i64 x.a) ∧ W.cell? ⟨w.heap.size, 3, none⟩ = some (.int .i64 x.b) ∧ W.cell? ⟨w.heap.size, 4, none⟩ = some (.int .i64 x.imm) ∧ W.cell? ⟨w.heap.size, 5, none⟩ = some (.int .i64 x.callee) ∧ W.cell? ⟨w.heap.size, 7, none⟩ = some (.int .i64 x.many)))
    (first | (refine HSS.out _ ?_; assumption))
    (first
      | (go_at_call 61; have hq := hb3; refine (C1.out _ (by go_split_ands; assumption)).mono ?_; rintro e w4 ⟨rfl, hb4⟩)
      | (go_at_call 62; refine (C0.out _ (by go_split_ands; assumption)).mono ?_; rintro e w3 ⟨rfl, hb3⟩))
  all_goals (
    rename_i hH
    go_wp2
    go_ret
    exact ⟨rfl, HB0.out.trans (hH.1.mono HB0.out.size)⟩)
set_option maxHeartbeats 4000000 in
set_option maxRecDepth 100000 in
theorem lineIns_get (x : Ii) (xa : Option Addr) (xc : Nat) (w : World) (ho : x.op = 17) (hR : InsR x) (hP : PowW w) :
    Calls Tryz.prog 26 #[insV x xa xc] w fun e w' => e = .returned (.string (rowB (insWo x))) ∧ Below w.heap.size w w' := by
  have HA : Hid (rowB (insWo x) = (rgT x.dst ++ ⟨#[32, 226, 134, 144, 32]⟩) ++ slT x.imm ++ ⟨#[10]⟩) := by
    show _ = _
    unfold insWo
    rw [if_neg (by omega), if_neg (by omega), if_neg (by omega), if_neg (by omega), if_neg (by omega), if_neg (by omega), if_pos ho]
    refine bytes_eq ?_
    rw [lit_row _ (by simp)]
    simp only [ByteArray.data_append, Array.toList_append, List.flatMap_cons, List.flatMap_nil, Wo.b, rgT, slT, larr]
    try simp only [ho]
    simp
  have HB0 : Hid (Below w.heap.size w (w.alloc (.cells (insC x xa xc) 46))) := (Below.refl _ w).alloc (Nat.le_refl _) _
  have HS : Hid (∀ W, Below (w.alloc (.cells (insC x xa xc) 46)).heap.size (w.alloc (.cells (insC x xa xc) 46)) W → (W.cell? ⟨w.heap.size, 0, none⟩ = some (.int .i64 x.op) ∧ W.cell? ⟨w.heap.size, 1, none⟩ = some (.int .i64 x.dst) ∧ W.cell? ⟨w.heap.size, 2, none⟩ = some (.int .i64 x.a) ∧ W.cell? ⟨w.heap.size, 3, none⟩ = some (.int .i64 x.b) ∧ W.cell? ⟨w.heap.size, 4, none⟩ = some (.int .i64 x.imm) ∧ W.cell? ⟨w.heap.size, 5, none⟩ = some (.int .i64 x.callee) ∧ W.cell? ⟨w.heap.size, 7, none⟩ = some (.int .i64 x.many))) := fun W hb => by
    obtain ⟨a0, a1, a2, a3, a4, a5, _, a7⟩ := box8 ((Blk.new w 46 (insC x xa xc)).below hb (Blk.new w _ _).lt)
    exact ⟨a0, a1, a2, a3, a4, a5, a7⟩
  have HPW : Hid (∀ W, Below (w.alloc (.cells (insC x xa xc) 46)).heap.size (w.alloc (.cells (insC x xa xc) 46)) W → PowW W) := fun W hb => hP.below (HB0.out.trans (hb.mono HB0.out.size))
  have CI : Hid (∀ W, Below (w.alloc (.cells (insC x xa xc) 46)).heap.size (w.alloc (.cells (insC x xa xc) 46)) W → _) := fun W hb => itoaP_any x.imm W (HPW.out W hb) hR.imm.1 hR.imm.2
  have CD : Hid (∀ W, Below (w.alloc (.cells (insC x xa xc) 46)).heap.size (w.alloc (.cells (insC x xa xc) 46)) W → _) := fun W hb => reg7_any x.dst W (HPW.out W hb) hR.dst
  have z1 := itS_size x.imm hR.imm
  have z2 := rgT_size x.dst hR.dst
  have C0 : Hid (∀ W, Below (w.alloc (.cells (insC x xa xc) 46)).heap.size (w.alloc (.cells (insC x xa xc) 46)) W → Calls Tryz.prog 62 #[.int .i64 x.imm] W fun e w' => e = .returned (.string (slT x.imm)) ∧ Below (w.alloc (.cells (insC x xa xc) 46)).heap.size (w.alloc (.cells (insC x xa xc) 46)) w') := fun W hb => (slot7_any x.imm W (HPW.out W hb) hR.imm).mono fun e w' ⟨h1, h2⟩ => ⟨h1, hb.trans (h2.mono hb.size)⟩
  have y0 := slT_size x.imm hR.imm
  have SX := insC.eq_1 x xa xc
  rw [SX] at HB0 HS HPW CI CD C0
  unfold insV
  rw [HA.out]
  clear hP hR SX HPW HA
  obtain ⟨rd, hrd⟩ : ∃ rd, rd = rgT x.dst := ⟨_, rfl⟩
  rw [← hrd] at z2 CD ⊢
  clear hrd
  generalize slT x.imm = simm at *
  generalize itS x.imm = nimm at *
  have al : ∀ W, (Op.stringOp .add rd ⟨#[32, 226, 134, 144, 32]⟩).run Tryz.prog W = .ok (.string (rd ++ ⟨#[32, 226, 134, 144, 32]⟩)) W := fun W => run_string_add_sum W _ _ (by show rd.size + 5 ≤ _; omega)
  have zl : (rd ++ ⟨#[32, 226, 134, 144, 32]⟩).size ≤ 35 := by rw [ByteArray.size_append]; show rd.size + 5 ≤ 35; omega
  generalize rd ++ ⟨#[32, 226, 134, 144, 32]⟩ = lf at *
  have ad1 : ∀ W, (Op.stringOp .add lf simm).run Tryz.prog W = .ok (.string (lf ++ simm)) W := fun W => run_string_add_sum W _ _ (by show lf.size + simm.size ≤ _; omega)
  have ad2 : ∀ W, (Op.stringOp .add (lf ++ simm) ⟨#[10]⟩).run Tryz.prog W = .ok (.string (lf ++ simm ++ ⟨#[10]⟩)) W := fun W => run_string_add_sum W _ _ (by simp only [ByteArray.size_append]; show lf.size + simm.size + 1 ≤ _; omega)
  clear z1 z2 zl y0
  rw [ho] at HB0 HS CI CD C0 ⊢
  clear ho
  obtain ⟨A, hA⟩ : ∃ A, A = w.alloc (.cells #[.int .i64 17, .int .i64 x.dst, .int .i64 x.a, .int .i64 x.b, .int .i64 x.imm, .int .i64 x.callee, .slice xa x.args.length xc, .int .i64 x.many] 46) := ⟨_, rfl⟩
  have CI0 := Lib.hid (CI.out _ (Below.refl _ _))
  go_enter Tryz.func26, Tryz.ntmps26
  go_wp2_with fail
  refine CI0.out.mono ?_
  rintro e w1 ⟨rfl, hb1⟩
  rw [← hA] at hb1 HB0 HS CI CD C0
  clear CI0 CI
  have D1 := Lib.hid (CD.out _ hb1)
  obtain ⟨a0, a1, a2, a3, a4, a5, a7⟩ := HS.out _ hb1
  go_wp2_with fail
  refine D1.out.mono ?_
  rintro e w2 ⟨rfl, hb2⟩
  have HB2 : Hid (Below A.heap.size A w2) := hb1.trans (hb2.mono hb1.size)
  clear D1 CD a0 a1 a2 a3 a4 a5 a7 hb1 hb2
  obtain ⟨a0, a1, a2, a3, a4, a5, a7⟩ := HS.out _ HB2.out
  have X0 := Lib.hid (C0.out _ HB2.out)
  go_wp2_with fail
  refine X0.out.mono ?_
  rintro e w3 ⟨rfl, hb3⟩
  have HB3 : Hid (Below A.heap.size A w3) := hb3
  clear X0 C0 hb3 a0 a1 a2 a3 a4 a5 a7
  obtain ⟨a0, a1, a2, a3, a4, a5, a7⟩ := HS.out _ HB3.out
  go_wp2
  go_ret
  exact ⟨rfl, HB0.out.trans (HB3.out.mono HB0.out.size)⟩
set_option maxHeartbeats 4000000 in
set_option maxRecDepth 100000 in
theorem lineIns_bin (x : Ii) (xa : Option Addr) (xc : Nat) (w : World) (ho : 2 ≤ x.op ∧ x.op ≤ 10) (hR : InsR x) (hP : PowW w) :
    Calls Tryz.prog 26 #[insV x xa xc] w fun e w' => e = .returned (.string (rowB (insWo x))) ∧ Below w.heap.size w w' := by
  have HA : Hid (rowB (insWo x) = (rgT x.dst ++ ⟨#[32, 226, 134, 144, 32]⟩) ++ opNm x.op ++ ⟨#[32]⟩ ++ rgT x.a ++ ⟨#[32]⟩ ++ rgT x.b ++ ⟨#[10]⟩) := by
    show _ = _
    unfold insWo
    rw [if_neg (by omega), if_neg (by omega), if_neg (by omega), if_neg (by omega), if_neg (by omega), if_neg (by omega), if_neg (by omega)]
    refine bytes_eq ?_
    rw [lit_row _ (by simp)]
    simp only [ByteArray.data_append, Array.toList_append, List.flatMap_cons, List.flatMap_nil, Wo.b, rgT, larr]
    try simp only [ho]
    simp
  have HB0 : Hid (Below w.heap.size w (w.alloc (.cells (insC x xa xc) 46))) := (Below.refl _ w).alloc (Nat.le_refl _) _
  have HS : Hid (∀ W, Below (w.alloc (.cells (insC x xa xc) 46)).heap.size (w.alloc (.cells (insC x xa xc) 46)) W → (W.cell? ⟨w.heap.size, 0, none⟩ = some (.int .i64 x.op) ∧ W.cell? ⟨w.heap.size, 1, none⟩ = some (.int .i64 x.dst) ∧ W.cell? ⟨w.heap.size, 2, none⟩ = some (.int .i64 x.a) ∧ W.cell? ⟨w.heap.size, 3, none⟩ = some (.int .i64 x.b) ∧ W.cell? ⟨w.heap.size, 4, none⟩ = some (.int .i64 x.imm) ∧ W.cell? ⟨w.heap.size, 5, none⟩ = some (.int .i64 x.callee) ∧ W.cell? ⟨w.heap.size, 7, none⟩ = some (.int .i64 x.many))) := fun W hb => by
    obtain ⟨a0, a1, a2, a3, a4, a5, _, a7⟩ := box8 ((Blk.new w 46 (insC x xa xc)).below hb (Blk.new w _ _).lt)
    exact ⟨a0, a1, a2, a3, a4, a5, a7⟩
  have HPW : Hid (∀ W, Below (w.alloc (.cells (insC x xa xc) 46)).heap.size (w.alloc (.cells (insC x xa xc) 46)) W → PowW W) := fun W hb => hP.below (HB0.out.trans (hb.mono HB0.out.size))
  have CI : Hid (∀ W, Below (w.alloc (.cells (insC x xa xc) 46)).heap.size (w.alloc (.cells (insC x xa xc) 46)) W → _) := fun W hb => itoaP_any x.imm W (HPW.out W hb) hR.imm.1 hR.imm.2
  have CD : Hid (∀ W, Below (w.alloc (.cells (insC x xa xc) 46)).heap.size (w.alloc (.cells (insC x xa xc) 46)) W → _) := fun W hb => reg7_any x.dst W (HPW.out W hb) hR.dst
  have z1 := itS_size x.imm hR.imm
  have z2 := rgT_size x.dst hR.dst
  have C0 : Hid (∀ W, Below (w.alloc (.cells (insC x xa xc) 46)).heap.size (w.alloc (.cells (insC x xa xc) 46)) W → Calls Tryz.prog 61 #[.int .i64 x.a] W fun e w' => e = .returned (.string (rgT x.a)) ∧ Below (w.alloc (.cells (insC x xa xc) 46)).heap.size (w.alloc (.cells (insC x xa xc) 46)) w') := fun W hb => (reg7_any x.a W (HPW.out W hb) hR.a).mono fun e w' ⟨h1, h2⟩ => ⟨h1, hb.trans (h2.mono hb.size)⟩
  have y0 := rgT_size x.a hR.a
  have C1 : Hid (∀ W, Below (w.alloc (.cells (insC x xa xc) 46)).heap.size (w.alloc (.cells (insC x xa xc) 46)) W → Calls Tryz.prog 61 #[.int .i64 x.b] W fun e w' => e = .returned (.string (rgT x.b)) ∧ Below (w.alloc (.cells (insC x xa xc) 46)).heap.size (w.alloc (.cells (insC x xa xc) 46)) w') := fun W hb => (reg7_any x.b W (HPW.out W hb) hR.b).mono fun e w' ⟨h1, h2⟩ => ⟨h1, hb.trans (h2.mono hb.size)⟩
  have y1 := rgT_size x.b hR.b
  have CN : Hid (∀ W, Below (w.alloc (.cells (insC x xa xc) 46)).heap.size (w.alloc (.cells (insC x xa xc) 46)) W → Calls Tryz.prog 63 #[.int .i64 x.op] W fun e w' => e = .returned (.string (opNm x.op)) ∧ Below (w.alloc (.cells (insC x xa xc) 46)).heap.size (w.alloc (.cells (insC x xa xc) 46)) w') := fun W hb => (name7_any x.op W ho).mono fun e w' ⟨h1, h2⟩ => ⟨h1, hb.trans (h2.mono hb.size)⟩
  have yn := opNm_len x.op
  have SX := insC.eq_1 x xa xc
  rw [SX] at HB0 HS HPW CI CD C0 C1 CN
  unfold insV
  rw [HA.out]
  clear hP hR SX HPW HA
  obtain ⟨rd, hrd⟩ : ∃ rd, rd = rgT x.dst := ⟨_, rfl⟩
  rw [← hrd] at z2 CD ⊢
  clear hrd
  generalize rgT x.a = ra at *
  generalize rgT x.b = rb at *
  generalize itS x.imm = nimm at *
  generalize opNm x.op = nm at *
  have al : ∀ W, (Op.stringOp .add rd ⟨#[32, 226, 134, 144, 32]⟩).run Tryz.prog W = .ok (.string (rd ++ ⟨#[32, 226, 134, 144, 32]⟩)) W := fun W => run_string_add_sum W _ _ (by show rd.size + 5 ≤ _; omega)
  have zl : (rd ++ ⟨#[32, 226, 134, 144, 32]⟩).size ≤ 35 := by rw [ByteArray.size_append]; show rd.size + 5 ≤ 35; omega
  generalize rd ++ ⟨#[32, 226, 134, 144, 32]⟩ = lf at *
  have ad1 : ∀ W, (Op.stringOp .add lf nm).run Tryz.prog W = .ok (.string (lf ++ nm)) W := fun W => run_string_add_sum W _ _ (by show lf.size + nm.size ≤ _; omega)
  have ad2 : ∀ W, (Op.stringOp .add (lf ++ nm) ⟨#[32]⟩).run Tryz.prog W = .ok (.string (lf ++ nm ++ ⟨#[32]⟩)) W := fun W => run_string_add_sum W _ _ (by simp only [ByteArray.size_append]; show lf.size + nm.size + 1 ≤ _; omega)
  have ad3 : ∀ W, (Op.stringOp .add (lf ++ nm ++ ⟨#[32]⟩) ra).run Tryz.prog W = .ok (.string (lf ++ nm ++ ⟨#[32]⟩ ++ ra)) W := fun W => run_string_add_sum W _ _ (by simp only [ByteArray.size_append]; show lf.size + nm.size + 1 + ra.size ≤ _; omega)
  have ad4 : ∀ W, (Op.stringOp .add (lf ++ nm ++ ⟨#[32]⟩ ++ ra) ⟨#[32]⟩).run Tryz.prog W = .ok (.string (lf ++ nm ++ ⟨#[32]⟩ ++ ra ++ ⟨#[32]⟩)) W := fun W => run_string_add_sum W _ _ (by simp only [ByteArray.size_append]; show lf.size + nm.size + 1 + ra.size + 1 ≤ _; omega)
  have ad5 : ∀ W, (Op.stringOp .add (lf ++ nm ++ ⟨#[32]⟩ ++ ra ++ ⟨#[32]⟩) rb).run Tryz.prog W = .ok (.string (lf ++ nm ++ ⟨#[32]⟩ ++ ra ++ ⟨#[32]⟩ ++ rb)) W := fun W => run_string_add_sum W _ _ (by simp only [ByteArray.size_append]; show lf.size + nm.size + 1 + ra.size + 1 + rb.size ≤ _; omega)
  have ad6 : ∀ W, (Op.stringOp .add (lf ++ nm ++ ⟨#[32]⟩ ++ ra ++ ⟨#[32]⟩ ++ rb) ⟨#[10]⟩).run Tryz.prog W = .ok (.string (lf ++ nm ++ ⟨#[32]⟩ ++ ra ++ ⟨#[32]⟩ ++ rb ++ ⟨#[10]⟩)) W := fun W => run_string_add_sum W _ _ (by simp only [ByteArray.size_append]; show lf.size + nm.size + 1 + ra.size + 1 + rb.size + 1 ≤ _; omega)
  clear z1 z2 zl y0 y1 yn
  obtain ⟨A, hA⟩ : ∃ A, A = w.alloc (.cells #[.int .i64 x.op, .int .i64 x.dst, .int .i64 x.a, .int .i64 x.b, .int .i64 x.imm, .int .i64 x.callee, .slice xa x.args.length xc, .int .i64 x.many] 46) := ⟨_, rfl⟩
  have CI0 := Lib.hid (CI.out _ (Below.refl _ _))
  go_enter Tryz.func26, Tryz.ntmps26
  go_wp2_with fail
  refine CI0.out.mono ?_
  rintro e w1 ⟨rfl, hb1⟩
  rw [← hA] at hb1 HB0 HS CI CD C0 C1 CN
  clear CI0 CI
  have D1 := Lib.hid (CD.out _ hb1)
  obtain ⟨a0, a1, a2, a3, a4, a5, a7⟩ := HS.out _ hb1
  go_wp2_with fail
  refine D1.out.mono ?_
  rintro e w2 ⟨rfl, hb2⟩
  have HB2 : Hid (Below A.heap.size A w2) := hb1.trans (hb2.mono hb1.size)
  clear D1 CD a0 a1 a2 a3 a4 a5 a7 hb1 hb2
  obtain ⟨a0, a1, a2, a3, a4, a5, a7⟩ := HS.out _ HB2.out
  have q1 : (x.op == 1) = false := by simp; omega
  have q2 : (x.op == 11) = false := by simp; omega
  have q3 : (x.op == 12) = false := by simp; omega
  have q4 : (x.op == 13) = false := by simp; omega
  have q5 : (x.op == 15) = false := by simp; omega
  have q6 : (x.op == 16) = false := by simp; omega
  have q7 : (x.op == 17) = false := by simp; omega
  have hbd := HB2.out.drew
  have HSS : Hid (∀ W, Below A.heap.size A W → Below A.heap.size A W ∧ (W.cell? ⟨w.heap.size, 0, none⟩ = some (.int .i64 x.op) ∧ W.cell? ⟨w.heap.size, 1, none⟩ = some (.int .i64 x.dst) ∧ W.cell? ⟨w.heap.size, 2, none⟩ = some (.int .i64 x.a) ∧ W.cell? ⟨w.heap.size, 3, none⟩ = some (.int .i64 x.b) ∧ W.cell? ⟨w.heap.size, 4, none⟩ = some (.int .i64 x.imm) ∧ W.cell? ⟨w.heap.size, 5, none⟩ = some (.int .i64 x.callee) ∧ W.cell? ⟨w.heap.size, 7, none⟩ = some (.int .i64 x.many))) := fun W hb => ⟨hb, HS.out W hb⟩
  go_upto_region 18 with fail
  clear a0 a1 a2 a3 a4 a5 a7
  go_region_held3 (fun W => Below A.heap.size A W ∧ (W.cell? ⟨w.heap.size, 0, none⟩ = some (.int .i64 x.op) ∧ W.cell? ⟨w.heap.size, 1, none⟩ = some (.int .i64 x.dst) ∧ W.cell? ⟨w.heap.size, 2, none⟩ = some (.int .i64 x.a) ∧ W.cell? ⟨w.heap.size, 3, none⟩ = some (.int .i64 x.b) ∧ W.cell? ⟨w.heap.size, 4, none⟩ = some (.int .i64 x.imm) ∧ W.cell? ⟨w.heap.size, 5, none⟩ = some (.int .i64 x.callee) ∧ W.cell? ⟨w.heap.size, 7, none⟩ = some (.int .i64 x.many)))
    (first | (refine HSS.out _ ?_; assumption))
    (first
      | (go_at_call 61; have hq := hb4; refine (C1.out _ (by go_split_ands; assumption)).mono ?_; rintro e w5 ⟨rfl, hb5⟩)
      | (go_at_call 61; have hq := hb3; refine (C0.out _ (by go_split_ands; assumption)).mono ?_; rintro e w4 ⟨rfl, hb4⟩)
      | (go_at_call 63; refine (CN.out _ (by go_split_ands; assumption)).mono ?_; rintro e w3 ⟨rfl, hb3⟩))
  all_goals (
    rename_i hH
    go_wp2
    go_ret
    exact ⟨rfl, HB0.out.trans (hH.1.mono HB0.out.size)⟩)
end Go.Proofs.YtjmdgbgjleeloaaGreatDoor
