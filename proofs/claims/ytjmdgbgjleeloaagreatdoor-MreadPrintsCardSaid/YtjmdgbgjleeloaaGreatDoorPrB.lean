/-
  The document's lines of an end, of any instruction (package intarsiaref07; written by gen/prb.py). Conditions: the library's table of powers holds what the text lays.
-/
import Derived.Test.YtjmdgbgjleeloaaGreatDoorPrA
namespace Go.Proofs.YtjmdgbgjleeloaaGreatDoor
open Go.RowKit

theorem ff9 {a b : Int} (h : ¬ a = b) : (a == b) = false := by simpa using h
theorem lineIns_any (x : Ii) (xa : Option Addr) (xc : Nat) (w : World) (ho : 1 ≤ x.op ∧ x.op ≤ 17 ∧ x.op ≠ 14) (hR : InsR x) (hP : PowW w) :
    Calls Tryz.prog 26 #[insV x xa xc] w fun e w' => e = .returned (.string (rowB (insWo x))) ∧ Below w.heap.size w w' := by
  have hc : x.op = 1 ∨ x.op = 11 ∨ x.op = 12 ∨ x.op = 13 ∨ x.op = 15 ∨ x.op = 16 ∨ x.op = 17 ∨ (2 ≤ x.op ∧ x.op ≤ 10) := by omega
  rcases hc with h | h | h | h | h | h | h | h
  · exact lineIns_const x xa xc w h hR hP
  · exact lineIns_load x xa xc w h hR hP
  · exact lineIns_store x xa xc w h hR hP
  · exact lineIns_call x xa xc w h hR hP
  · exact lineIns_move x xa xc w h hR hP
  · exact lineIns_put x xa xc w h hR hP
  · exact lineIns_get x xa xc w h hR hP
  · exact lineIns_bin x xa xc w h hR hP
set_option maxHeartbeats 4000000 in
set_option maxRecDepth 100000 in
theorem lineEnd_jump (t : Tt) (w : World) (ho : t.kind = 1) (hR : TmR t) (hP : PowW w) :
    Calls Tryz.prog 27 #[termV t] w fun e w' => e = .returned (.string (rowB (tmWo t))) ∧ Below w.heap.size w w' := by
  have HA : Hid (rowB (tmWo t) = ⟨#[226, 134, 146, 32]⟩ ++ itS t.t0 ++ ⟨#[10]⟩) := by
    show _ = _
    unfold tmWo
    rw [if_pos ho]
    refine bytes_eq ?_
    rw [lit_row _ (by simp)]
    simp only [ByteArray.data_append, Array.toList_append, List.flatMap_cons, List.flatMap_nil, Wo.b, rarr]
    simp
  have HB0 : Hid (Below w.heap.size w (w.alloc (.cells #[.int .i64 t.kind, .int .i64 t.a, .int .i64 t.t0, .int .i64 t.t1] 51))) := (Below.refl _ w).alloc (Nat.le_refl _) _
  have HS : Hid (∀ W, Below (w.alloc (.cells #[.int .i64 t.kind, .int .i64 t.a, .int .i64 t.t0, .int .i64 t.t1] 51)).heap.size (w.alloc (.cells #[.int .i64 t.kind, .int .i64 t.a, .int .i64 t.t0, .int .i64 t.t1] 51)) W → W.cell? ⟨w.heap.size, 0, none⟩ = some (.int .i64 t.kind) ∧ W.cell? ⟨w.heap.size, 1, none⟩ = some (.int .i64 t.a) ∧ W.cell? ⟨w.heap.size, 2, none⟩ = some (.int .i64 t.t0) ∧ W.cell? ⟨w.heap.size, 3, none⟩ = some (.int .i64 t.t1)) := fun W hb => by
    have h := (Blk.new w 51 #[.int .i64 t.kind, .int .i64 t.a, .int .i64 t.t0, .int .i64 t.t1]).below hb (Blk.new w _ _).lt
    exact ⟨h.cell 0, h.cell 1, h.cell 2, h.cell 3⟩
  have HPW : Hid (∀ W, Below (w.alloc (.cells #[.int .i64 t.kind, .int .i64 t.a, .int .i64 t.t0, .int .i64 t.t1] 51)).heap.size (w.alloc (.cells #[.int .i64 t.kind, .int .i64 t.a, .int .i64 t.t0, .int .i64 t.t1] 51)) W → PowW W) := fun W hb => hP.below (HB0.out.trans (hb.mono HB0.out.size))
  have C0 : Hid (∀ W, Below (w.alloc (.cells #[.int .i64 t.kind, .int .i64 t.a, .int .i64 t.t0, .int .i64 t.t1] 51)).heap.size (w.alloc (.cells #[.int .i64 t.kind, .int .i64 t.a, .int .i64 t.t0, .int .i64 t.t1] 51)) W → Calls Tryz.prog 25 #[.int .i64 t.t0] W fun e w' => e = .returned (.string (itS t.t0)) ∧ Below (w.alloc (.cells #[.int .i64 t.kind, .int .i64 t.a, .int .i64 t.t0, .int .i64 t.t1] 51)).heap.size (w.alloc (.cells #[.int .i64 t.kind, .int .i64 t.a, .int .i64 t.t0, .int .i64 t.t1] 51)) w') := fun W hb => (itoaP_any t.t0 W (HPW.out W hb) hR.t0.1 hR.t0.2).mono fun e w' ⟨h1, h2⟩ => ⟨h1, hb.trans (h2.mono hb.size)⟩
  have C1 : Hid (∀ W, Below (w.alloc (.cells #[.int .i64 t.kind, .int .i64 t.a, .int .i64 t.t0, .int .i64 t.t1] 51)).heap.size (w.alloc (.cells #[.int .i64 t.kind, .int .i64 t.a, .int .i64 t.t0, .int .i64 t.t1] 51)) W → Calls Tryz.prog 25 #[.int .i64 t.t1] W fun e w' => e = .returned (.string (itS t.t1)) ∧ Below (w.alloc (.cells #[.int .i64 t.kind, .int .i64 t.a, .int .i64 t.t0, .int .i64 t.t1] 51)).heap.size (w.alloc (.cells #[.int .i64 t.kind, .int .i64 t.a, .int .i64 t.t0, .int .i64 t.t1] 51)) w') := fun W hb => (itoaP_any t.t1 W (HPW.out W hb) hR.t1.1 hR.t1.2).mono fun e w' ⟨h1, h2⟩ => ⟨h1, hb.trans (h2.mono hb.size)⟩
  have CA : Hid (∀ W, Below (w.alloc (.cells #[.int .i64 t.kind, .int .i64 t.a, .int .i64 t.t0, .int .i64 t.t1] 51)).heap.size (w.alloc (.cells #[.int .i64 t.kind, .int .i64 t.a, .int .i64 t.t0, .int .i64 t.t1] 51)) W → Calls Tryz.prog 61 #[.int .i64 t.a] W fun e w' => e = .returned (.string (rgT t.a)) ∧ Below (w.alloc (.cells #[.int .i64 t.kind, .int .i64 t.a, .int .i64 t.t0, .int .i64 t.t1] 51)).heap.size (w.alloc (.cells #[.int .i64 t.kind, .int .i64 t.a, .int .i64 t.t0, .int .i64 t.t1] 51)) w') := fun W hb => (reg7_any t.a W (HPW.out W hb) hR.a).mono fun e w' ⟨h1, h2⟩ => ⟨h1, hb.trans (h2.mono hb.size)⟩
  have z0 := itS_size t.t0 hR.t0
  have z1 := itS_size t.t1 hR.t1
  have za := rgT_size t.a hR.a
  unfold termV
  rw [HA.out]
  clear hP hR HPW HA
  generalize itS t.t0 = t0 at *
  generalize itS t.t1 = t1 at *
  generalize rgT t.a = ra at *
  have ad1 : ∀ W, (Op.stringOp .add ⟨#[226, 134, 146, 32]⟩ t0).run Tryz.prog W = .ok (.string (⟨#[226, 134, 146, 32]⟩ ++ t0)) W := fun W => run_string_add_sum W _ _ (by show 4 + t0.size ≤ _; omega)
  have ad2 : ∀ W, (Op.stringOp .add (⟨#[226, 134, 146, 32]⟩ ++ t0) ⟨#[10]⟩).run Tryz.prog W = .ok (.string (⟨#[226, 134, 146, 32]⟩ ++ t0 ++ ⟨#[10]⟩)) W := fun W => run_string_add_sum W _ _ (by simp only [ByteArray.size_append]; show 4 + t0.size + 1 ≤ _; omega)
  clear z0 z1 za
  have hk := ho
  rw [hk] at HB0 HS C0 C1 CA ⊢
  clear ho hk
  obtain ⟨A, hA⟩ : ∃ A, A = w.alloc (.cells #[.int .i64 1, .int .i64 t.a, .int .i64 t.t0, .int .i64 t.t1] 51) := ⟨_, rfl⟩
  have X0 := Lib.hid (C0.out _ (Below.refl _ _))
  go_enter Tryz.func27, Tryz.ntmps27
  go_wp2_with fail
  refine X0.out.mono ?_
  rintro e w1 ⟨rfl, hb1⟩
  rw [← hA] at hb1 HB0 HS C0 C1 CA
  clear X0 hA
  have HB1 := Lib.hid hb1
  obtain ⟨a0, a1, a2, a3⟩ := HS.out _ hb1
  clear hb1
  go_wp2
  go_ret
  exact ⟨rfl, HB0.out.trans (HB1.out.mono HB0.out.size)⟩
set_option maxHeartbeats 4000000 in
set_option maxRecDepth 100000 in
theorem lineEnd_branch (t : Tt) (w : World) (ho : t.kind = 2) (hR : TmR t) (hP : PowW w) :
    Calls Tryz.prog 27 #[termV t] w fun e w' => e = .returned (.string (rowB (tmWo t))) ∧ Below w.heap.size w w' := by
  have HA : Hid (rowB (tmWo t) = rgT t.a ++ ⟨#[32, 226, 134, 146, 32]⟩ ++ itS t.t0 ++ ⟨#[32]⟩ ++ itS t.t1 ++ ⟨#[10]⟩) := by
    show _ = _
    unfold tmWo
    rw [if_neg (by omega), if_pos ho]
    refine bytes_eq ?_
    rw [lit_row _ (by simp)]
    simp only [ByteArray.data_append, Array.toList_append, List.flatMap_cons, List.flatMap_nil, Wo.b, rgT, rarr]
    simp
  have HB0 : Hid (Below w.heap.size w (w.alloc (.cells #[.int .i64 t.kind, .int .i64 t.a, .int .i64 t.t0, .int .i64 t.t1] 51))) := (Below.refl _ w).alloc (Nat.le_refl _) _
  have HS : Hid (∀ W, Below (w.alloc (.cells #[.int .i64 t.kind, .int .i64 t.a, .int .i64 t.t0, .int .i64 t.t1] 51)).heap.size (w.alloc (.cells #[.int .i64 t.kind, .int .i64 t.a, .int .i64 t.t0, .int .i64 t.t1] 51)) W → W.cell? ⟨w.heap.size, 0, none⟩ = some (.int .i64 t.kind) ∧ W.cell? ⟨w.heap.size, 1, none⟩ = some (.int .i64 t.a) ∧ W.cell? ⟨w.heap.size, 2, none⟩ = some (.int .i64 t.t0) ∧ W.cell? ⟨w.heap.size, 3, none⟩ = some (.int .i64 t.t1)) := fun W hb => by
    have h := (Blk.new w 51 #[.int .i64 t.kind, .int .i64 t.a, .int .i64 t.t0, .int .i64 t.t1]).below hb (Blk.new w _ _).lt
    exact ⟨h.cell 0, h.cell 1, h.cell 2, h.cell 3⟩
  have HPW : Hid (∀ W, Below (w.alloc (.cells #[.int .i64 t.kind, .int .i64 t.a, .int .i64 t.t0, .int .i64 t.t1] 51)).heap.size (w.alloc (.cells #[.int .i64 t.kind, .int .i64 t.a, .int .i64 t.t0, .int .i64 t.t1] 51)) W → PowW W) := fun W hb => hP.below (HB0.out.trans (hb.mono HB0.out.size))
  have C0 : Hid (∀ W, Below (w.alloc (.cells #[.int .i64 t.kind, .int .i64 t.a, .int .i64 t.t0, .int .i64 t.t1] 51)).heap.size (w.alloc (.cells #[.int .i64 t.kind, .int .i64 t.a, .int .i64 t.t0, .int .i64 t.t1] 51)) W → Calls Tryz.prog 25 #[.int .i64 t.t0] W fun e w' => e = .returned (.string (itS t.t0)) ∧ Below (w.alloc (.cells #[.int .i64 t.kind, .int .i64 t.a, .int .i64 t.t0, .int .i64 t.t1] 51)).heap.size (w.alloc (.cells #[.int .i64 t.kind, .int .i64 t.a, .int .i64 t.t0, .int .i64 t.t1] 51)) w') := fun W hb => (itoaP_any t.t0 W (HPW.out W hb) hR.t0.1 hR.t0.2).mono fun e w' ⟨h1, h2⟩ => ⟨h1, hb.trans (h2.mono hb.size)⟩
  have C1 : Hid (∀ W, Below (w.alloc (.cells #[.int .i64 t.kind, .int .i64 t.a, .int .i64 t.t0, .int .i64 t.t1] 51)).heap.size (w.alloc (.cells #[.int .i64 t.kind, .int .i64 t.a, .int .i64 t.t0, .int .i64 t.t1] 51)) W → Calls Tryz.prog 25 #[.int .i64 t.t1] W fun e w' => e = .returned (.string (itS t.t1)) ∧ Below (w.alloc (.cells #[.int .i64 t.kind, .int .i64 t.a, .int .i64 t.t0, .int .i64 t.t1] 51)).heap.size (w.alloc (.cells #[.int .i64 t.kind, .int .i64 t.a, .int .i64 t.t0, .int .i64 t.t1] 51)) w') := fun W hb => (itoaP_any t.t1 W (HPW.out W hb) hR.t1.1 hR.t1.2).mono fun e w' ⟨h1, h2⟩ => ⟨h1, hb.trans (h2.mono hb.size)⟩
  have CA : Hid (∀ W, Below (w.alloc (.cells #[.int .i64 t.kind, .int .i64 t.a, .int .i64 t.t0, .int .i64 t.t1] 51)).heap.size (w.alloc (.cells #[.int .i64 t.kind, .int .i64 t.a, .int .i64 t.t0, .int .i64 t.t1] 51)) W → Calls Tryz.prog 61 #[.int .i64 t.a] W fun e w' => e = .returned (.string (rgT t.a)) ∧ Below (w.alloc (.cells #[.int .i64 t.kind, .int .i64 t.a, .int .i64 t.t0, .int .i64 t.t1] 51)).heap.size (w.alloc (.cells #[.int .i64 t.kind, .int .i64 t.a, .int .i64 t.t0, .int .i64 t.t1] 51)) w') := fun W hb => (reg7_any t.a W (HPW.out W hb) hR.a).mono fun e w' ⟨h1, h2⟩ => ⟨h1, hb.trans (h2.mono hb.size)⟩
  have z0 := itS_size t.t0 hR.t0
  have z1 := itS_size t.t1 hR.t1
  have za := rgT_size t.a hR.a
  unfold termV
  rw [HA.out]
  clear hP hR HPW HA
  generalize itS t.t0 = t0 at *
  generalize itS t.t1 = t1 at *
  generalize rgT t.a = ra at *
  have ad1 : ∀ W, (Op.stringOp .add ra ⟨#[32, 226, 134, 146, 32]⟩).run Tryz.prog W = .ok (.string (ra ++ ⟨#[32, 226, 134, 146, 32]⟩)) W := fun W => run_string_add_sum W _ _ (by show ra.size + 5 ≤ _; omega)
  have ad2 : ∀ W, (Op.stringOp .add (ra ++ ⟨#[32, 226, 134, 146, 32]⟩) t0).run Tryz.prog W = .ok (.string (ra ++ ⟨#[32, 226, 134, 146, 32]⟩ ++ t0)) W := fun W => run_string_add_sum W _ _ (by simp only [ByteArray.size_append]; show ra.size + 5 + t0.size ≤ _; omega)
  have ad3 : ∀ W, (Op.stringOp .add (ra ++ ⟨#[32, 226, 134, 146, 32]⟩ ++ t0) ⟨#[32]⟩).run Tryz.prog W = .ok (.string (ra ++ ⟨#[32, 226, 134, 146, 32]⟩ ++ t0 ++ ⟨#[32]⟩)) W := fun W => run_string_add_sum W _ _ (by simp only [ByteArray.size_append]; show ra.size + 5 + t0.size + 1 ≤ _; omega)
  have ad4 : ∀ W, (Op.stringOp .add (ra ++ ⟨#[32, 226, 134, 146, 32]⟩ ++ t0 ++ ⟨#[32]⟩) t1).run Tryz.prog W = .ok (.string (ra ++ ⟨#[32, 226, 134, 146, 32]⟩ ++ t0 ++ ⟨#[32]⟩ ++ t1)) W := fun W => run_string_add_sum W _ _ (by simp only [ByteArray.size_append]; show ra.size + 5 + t0.size + 1 + t1.size ≤ _; omega)
  have ad5 : ∀ W, (Op.stringOp .add (ra ++ ⟨#[32, 226, 134, 146, 32]⟩ ++ t0 ++ ⟨#[32]⟩ ++ t1) ⟨#[10]⟩).run Tryz.prog W = .ok (.string (ra ++ ⟨#[32, 226, 134, 146, 32]⟩ ++ t0 ++ ⟨#[32]⟩ ++ t1 ++ ⟨#[10]⟩)) W := fun W => run_string_add_sum W _ _ (by simp only [ByteArray.size_append]; show ra.size + 5 + t0.size + 1 + t1.size + 1 ≤ _; omega)
  clear z0 z1 za
  have hk := ho
  rw [hk] at HB0 HS C0 C1 CA ⊢
  clear ho hk
  obtain ⟨A, hA⟩ : ∃ A, A = w.alloc (.cells #[.int .i64 2, .int .i64 t.a, .int .i64 t.t0, .int .i64 t.t1] 51) := ⟨_, rfl⟩
  have X0 := Lib.hid (C0.out _ (Below.refl _ _))
  go_enter Tryz.func27, Tryz.ntmps27
  go_wp2_with fail
  refine X0.out.mono ?_
  rintro e w1 ⟨rfl, hb1⟩
  rw [← hA] at hb1 HB0 HS C0 C1 CA
  clear X0 hA
  have HB1 := Lib.hid hb1
  obtain ⟨a0, a1, a2, a3⟩ := HS.out _ hb1
  have hbd := hb1.drew
  clear hb1
  have HSS : Hid (∀ W, Below A.heap.size A W → Below A.heap.size A W ∧ (W.cell? ⟨w.heap.size, 0, none⟩ = some (.int .i64 2) ∧ W.cell? ⟨w.heap.size, 1, none⟩ = some (.int .i64 t.a) ∧ W.cell? ⟨w.heap.size, 2, none⟩ = some (.int .i64 t.t0) ∧ W.cell? ⟨w.heap.size, 3, none⟩ = some (.int .i64 t.t1))) := fun W hb => ⟨hb, HS.out W hb⟩
  go_upto_region 99 with fail
  clear a0 a1 a2 a3
  go_region_held3 (fun W => Below A.heap.size A W ∧ (W.cell? ⟨w.heap.size, 0, none⟩ = some (.int .i64 2) ∧ W.cell? ⟨w.heap.size, 1, none⟩ = some (.int .i64 t.a) ∧ W.cell? ⟨w.heap.size, 2, none⟩ = some (.int .i64 t.t0) ∧ W.cell? ⟨w.heap.size, 3, none⟩ = some (.int .i64 t.t1)))
    (first | (refine HSS.out _ ?_; assumption))
    (first
      | (go_at_call 25; have hq := hb3; refine (C1.out _ (by go_split_ands; assumption)).mono ?_; rintro e w4 ⟨rfl, hb4⟩)
      | (go_at_call 61; refine (CA.out _ (by go_split_ands; assumption)).mono ?_; rintro e w3 ⟨rfl, hb3⟩))
  all_goals (
    rename_i hH
    go_wp2
    go_ret
    exact ⟨rfl, HB0.out.trans (hH.1.mono HB0.out.size)⟩)
set_option maxHeartbeats 4000000 in
set_option maxRecDepth 100000 in
theorem lineEnd_none (t : Tt) (w : World) (ho : t.kind = 3 ∧ t.a = -1) (hR : TmR t) (hP : PowW w) :
    Calls Tryz.prog 27 #[termV t] w fun e w' => e = .returned (.string (rowB (tmWo t))) ∧ Below w.heap.size w w' := by
  have HA : Hid (rowB (tmWo t) = ⟨#[114, 101, 116, 117, 114, 110, 10]⟩) := by
    show _ = _
    unfold tmWo
    rw [if_neg (by omega), if_neg (by omega), if_pos ho.1, if_pos ho.2]
    refine bytes_eq ?_
    rw [lit_row _ (by simp)]
    simp only [List.flatMap_nil, Wo.b]
    rfl
  have HB0 : Hid (Below w.heap.size w (w.alloc (.cells #[.int .i64 t.kind, .int .i64 t.a, .int .i64 t.t0, .int .i64 t.t1] 51))) := (Below.refl _ w).alloc (Nat.le_refl _) _
  have HS : Hid (∀ W, Below (w.alloc (.cells #[.int .i64 t.kind, .int .i64 t.a, .int .i64 t.t0, .int .i64 t.t1] 51)).heap.size (w.alloc (.cells #[.int .i64 t.kind, .int .i64 t.a, .int .i64 t.t0, .int .i64 t.t1] 51)) W → W.cell? ⟨w.heap.size, 0, none⟩ = some (.int .i64 t.kind) ∧ W.cell? ⟨w.heap.size, 1, none⟩ = some (.int .i64 t.a) ∧ W.cell? ⟨w.heap.size, 2, none⟩ = some (.int .i64 t.t0) ∧ W.cell? ⟨w.heap.size, 3, none⟩ = some (.int .i64 t.t1)) := fun W hb => by
    have h := (Blk.new w 51 #[.int .i64 t.kind, .int .i64 t.a, .int .i64 t.t0, .int .i64 t.t1]).below hb (Blk.new w _ _).lt
    exact ⟨h.cell 0, h.cell 1, h.cell 2, h.cell 3⟩
  have HPW : Hid (∀ W, Below (w.alloc (.cells #[.int .i64 t.kind, .int .i64 t.a, .int .i64 t.t0, .int .i64 t.t1] 51)).heap.size (w.alloc (.cells #[.int .i64 t.kind, .int .i64 t.a, .int .i64 t.t0, .int .i64 t.t1] 51)) W → PowW W) := fun W hb => hP.below (HB0.out.trans (hb.mono HB0.out.size))
  have C0 : Hid (∀ W, Below (w.alloc (.cells #[.int .i64 t.kind, .int .i64 t.a, .int .i64 t.t0, .int .i64 t.t1] 51)).heap.size (w.alloc (.cells #[.int .i64 t.kind, .int .i64 t.a, .int .i64 t.t0, .int .i64 t.t1] 51)) W → Calls Tryz.prog 25 #[.int .i64 t.t0] W fun e w' => e = .returned (.string (itS t.t0)) ∧ Below (w.alloc (.cells #[.int .i64 t.kind, .int .i64 t.a, .int .i64 t.t0, .int .i64 t.t1] 51)).heap.size (w.alloc (.cells #[.int .i64 t.kind, .int .i64 t.a, .int .i64 t.t0, .int .i64 t.t1] 51)) w') := fun W hb => (itoaP_any t.t0 W (HPW.out W hb) hR.t0.1 hR.t0.2).mono fun e w' ⟨h1, h2⟩ => ⟨h1, hb.trans (h2.mono hb.size)⟩
  have C1 : Hid (∀ W, Below (w.alloc (.cells #[.int .i64 t.kind, .int .i64 t.a, .int .i64 t.t0, .int .i64 t.t1] 51)).heap.size (w.alloc (.cells #[.int .i64 t.kind, .int .i64 t.a, .int .i64 t.t0, .int .i64 t.t1] 51)) W → Calls Tryz.prog 25 #[.int .i64 t.t1] W fun e w' => e = .returned (.string (itS t.t1)) ∧ Below (w.alloc (.cells #[.int .i64 t.kind, .int .i64 t.a, .int .i64 t.t0, .int .i64 t.t1] 51)).heap.size (w.alloc (.cells #[.int .i64 t.kind, .int .i64 t.a, .int .i64 t.t0, .int .i64 t.t1] 51)) w') := fun W hb => (itoaP_any t.t1 W (HPW.out W hb) hR.t1.1 hR.t1.2).mono fun e w' ⟨h1, h2⟩ => ⟨h1, hb.trans (h2.mono hb.size)⟩
  have CA : Hid (∀ W, Below (w.alloc (.cells #[.int .i64 t.kind, .int .i64 t.a, .int .i64 t.t0, .int .i64 t.t1] 51)).heap.size (w.alloc (.cells #[.int .i64 t.kind, .int .i64 t.a, .int .i64 t.t0, .int .i64 t.t1] 51)) W → Calls Tryz.prog 61 #[.int .i64 t.a] W fun e w' => e = .returned (.string (rgT t.a)) ∧ Below (w.alloc (.cells #[.int .i64 t.kind, .int .i64 t.a, .int .i64 t.t0, .int .i64 t.t1] 51)).heap.size (w.alloc (.cells #[.int .i64 t.kind, .int .i64 t.a, .int .i64 t.t0, .int .i64 t.t1] 51)) w') := fun W hb => (reg7_any t.a W (HPW.out W hb) hR.a).mono fun e w' ⟨h1, h2⟩ => ⟨h1, hb.trans (h2.mono hb.size)⟩
  have z0 := itS_size t.t0 hR.t0
  have z1 := itS_size t.t1 hR.t1
  have za := rgT_size t.a hR.a
  unfold termV
  rw [HA.out]
  clear hP hR HPW HA
  generalize itS t.t0 = t0 at *
  generalize itS t.t1 = t1 at *
  generalize rgT t.a = ra at *
  clear z0 z1 za
  have hk := ho.1
  have hna : t.a = -1 := ho.2
  rw [hna] at HB0 HS C0 C1 CA ⊢
  rw [hk] at HB0 HS C0 C1 CA ⊢
  clear ho hk hna
  obtain ⟨A, hA⟩ : ∃ A, A = w.alloc (.cells #[.int .i64 3, .int .i64 (-1), .int .i64 t.t0, .int .i64 t.t1] 51) := ⟨_, rfl⟩
  have X0 := Lib.hid (C0.out _ (Below.refl _ _))
  go_enter Tryz.func27, Tryz.ntmps27
  go_wp2_with fail
  refine X0.out.mono ?_
  rintro e w1 ⟨rfl, hb1⟩
  rw [← hA] at hb1 HB0 HS C0 C1 CA
  clear X0 hA
  have HB1 := Lib.hid hb1
  obtain ⟨a0, a1, a2, a3⟩ := HS.out _ hb1
  clear hb1
  go_wp2
  go_ret
  exact ⟨rfl, HB0.out.trans (HB1.out.mono HB0.out.size)⟩
set_option maxHeartbeats 4000000 in
set_option maxRecDepth 100000 in
theorem lineEnd_some (t : Tt) (w : World) (ho : t.kind = 3 ∧ ¬ t.a = -1) (hR : TmR t) (hP : PowW w) :
    Calls Tryz.prog 27 #[termV t] w fun e w' => e = .returned (.string (rowB (tmWo t))) ∧ Below w.heap.size w w' := by
  have HA : Hid (rowB (tmWo t) = ⟨#[114, 101, 116, 117, 114, 110, 32]⟩ ++ rgT t.a ++ ⟨#[10]⟩) := by
    show _ = _
    unfold tmWo
    rw [if_neg (by omega), if_neg (by omega), if_pos ho.1, if_neg ho.2]
    refine bytes_eq ?_
    rw [lit_row _ (by simp)]
    simp only [ByteArray.data_append, Array.toList_append, List.flatMap_cons, List.flatMap_nil, Wo.b, rgT]
    simp
  have HB0 : Hid (Below w.heap.size w (w.alloc (.cells #[.int .i64 t.kind, .int .i64 t.a, .int .i64 t.t0, .int .i64 t.t1] 51))) := (Below.refl _ w).alloc (Nat.le_refl _) _
  have HS : Hid (∀ W, Below (w.alloc (.cells #[.int .i64 t.kind, .int .i64 t.a, .int .i64 t.t0, .int .i64 t.t1] 51)).heap.size (w.alloc (.cells #[.int .i64 t.kind, .int .i64 t.a, .int .i64 t.t0, .int .i64 t.t1] 51)) W → W.cell? ⟨w.heap.size, 0, none⟩ = some (.int .i64 t.kind) ∧ W.cell? ⟨w.heap.size, 1, none⟩ = some (.int .i64 t.a) ∧ W.cell? ⟨w.heap.size, 2, none⟩ = some (.int .i64 t.t0) ∧ W.cell? ⟨w.heap.size, 3, none⟩ = some (.int .i64 t.t1)) := fun W hb => by
    have h := (Blk.new w 51 #[.int .i64 t.kind, .int .i64 t.a, .int .i64 t.t0, .int .i64 t.t1]).below hb (Blk.new w _ _).lt
    exact ⟨h.cell 0, h.cell 1, h.cell 2, h.cell 3⟩
  have HPW : Hid (∀ W, Below (w.alloc (.cells #[.int .i64 t.kind, .int .i64 t.a, .int .i64 t.t0, .int .i64 t.t1] 51)).heap.size (w.alloc (.cells #[.int .i64 t.kind, .int .i64 t.a, .int .i64 t.t0, .int .i64 t.t1] 51)) W → PowW W) := fun W hb => hP.below (HB0.out.trans (hb.mono HB0.out.size))
  have C0 : Hid (∀ W, Below (w.alloc (.cells #[.int .i64 t.kind, .int .i64 t.a, .int .i64 t.t0, .int .i64 t.t1] 51)).heap.size (w.alloc (.cells #[.int .i64 t.kind, .int .i64 t.a, .int .i64 t.t0, .int .i64 t.t1] 51)) W → Calls Tryz.prog 25 #[.int .i64 t.t0] W fun e w' => e = .returned (.string (itS t.t0)) ∧ Below (w.alloc (.cells #[.int .i64 t.kind, .int .i64 t.a, .int .i64 t.t0, .int .i64 t.t1] 51)).heap.size (w.alloc (.cells #[.int .i64 t.kind, .int .i64 t.a, .int .i64 t.t0, .int .i64 t.t1] 51)) w') := fun W hb => (itoaP_any t.t0 W (HPW.out W hb) hR.t0.1 hR.t0.2).mono fun e w' ⟨h1, h2⟩ => ⟨h1, hb.trans (h2.mono hb.size)⟩
  have C1 : Hid (∀ W, Below (w.alloc (.cells #[.int .i64 t.kind, .int .i64 t.a, .int .i64 t.t0, .int .i64 t.t1] 51)).heap.size (w.alloc (.cells #[.int .i64 t.kind, .int .i64 t.a, .int .i64 t.t0, .int .i64 t.t1] 51)) W → Calls Tryz.prog 25 #[.int .i64 t.t1] W fun e w' => e = .returned (.string (itS t.t1)) ∧ Below (w.alloc (.cells #[.int .i64 t.kind, .int .i64 t.a, .int .i64 t.t0, .int .i64 t.t1] 51)).heap.size (w.alloc (.cells #[.int .i64 t.kind, .int .i64 t.a, .int .i64 t.t0, .int .i64 t.t1] 51)) w') := fun W hb => (itoaP_any t.t1 W (HPW.out W hb) hR.t1.1 hR.t1.2).mono fun e w' ⟨h1, h2⟩ => ⟨h1, hb.trans (h2.mono hb.size)⟩
  have CA : Hid (∀ W, Below (w.alloc (.cells #[.int .i64 t.kind, .int .i64 t.a, .int .i64 t.t0, .int .i64 t.t1] 51)).heap.size (w.alloc (.cells #[.int .i64 t.kind, .int .i64 t.a, .int .i64 t.t0, .int .i64 t.t1] 51)) W → Calls Tryz.prog 61 #[.int .i64 t.a] W fun e w' => e = .returned (.string (rgT t.a)) ∧ Below (w.alloc (.cells #[.int .i64 t.kind, .int .i64 t.a, .int .i64 t.t0, .int .i64 t.t1] 51)).heap.size (w.alloc (.cells #[.int .i64 t.kind, .int .i64 t.a, .int .i64 t.t0, .int .i64 t.t1] 51)) w') := fun W hb => (reg7_any t.a W (HPW.out W hb) hR.a).mono fun e w' ⟨h1, h2⟩ => ⟨h1, hb.trans (h2.mono hb.size)⟩
  have z0 := itS_size t.t0 hR.t0
  have z1 := itS_size t.t1 hR.t1
  have za := rgT_size t.a hR.a
  unfold termV
  rw [HA.out]
  clear hP hR HPW HA
  generalize itS t.t0 = t0 at *
  generalize itS t.t1 = t1 at *
  generalize rgT t.a = ra at *
  have ad1 : ∀ W, (Op.stringOp .add ⟨#[114, 101, 116, 117, 114, 110, 32]⟩ ra).run Tryz.prog W = .ok (.string (⟨#[114, 101, 116, 117, 114, 110, 32]⟩ ++ ra)) W := fun W => run_string_add_sum W _ _ (by show 7 + ra.size ≤ _; omega)
  have ad2 : ∀ W, (Op.stringOp .add (⟨#[114, 101, 116, 117, 114, 110, 32]⟩ ++ ra) ⟨#[10]⟩).run Tryz.prog W = .ok (.string (⟨#[114, 101, 116, 117, 114, 110, 32]⟩ ++ ra ++ ⟨#[10]⟩)) W := fun W => run_string_add_sum W _ _ (by simp only [ByteArray.size_append]; show 7 + ra.size + 1 ≤ _; omega)
  clear z0 z1 za
  have hk := ho.1
  have hna : (t.a == -1) = false := ff9 ho.2
  rw [hk] at HB0 HS C0 C1 CA ⊢
  clear ho hk
  obtain ⟨A, hA⟩ : ∃ A, A = w.alloc (.cells #[.int .i64 3, .int .i64 t.a, .int .i64 t.t0, .int .i64 t.t1] 51) := ⟨_, rfl⟩
  have X0 := Lib.hid (C0.out _ (Below.refl _ _))
  go_enter Tryz.func27, Tryz.ntmps27
  go_wp2_with fail
  refine X0.out.mono ?_
  rintro e w1 ⟨rfl, hb1⟩
  rw [← hA] at hb1 HB0 HS C0 C1 CA
  clear X0 hA
  have HB1 := Lib.hid hb1
  obtain ⟨a0, a1, a2, a3⟩ := HS.out _ hb1
  have X1 := Lib.hid (CA.out _ hb1)
  clear hb1
  go_wp2_with fail
  refine X1.out.mono ?_
  rintro e w3 ⟨rfl, hb3⟩
  go_wp2
  go_ret
  exact ⟨rfl, HB0.out.trans (hb3.mono HB0.out.size)⟩
set_option maxHeartbeats 4000000 in
set_option maxRecDepth 100000 in
theorem lineEnd_trap (t : Tt) (w : World) (ho : ¬ t.kind = 1 ∧ ¬ t.kind = 2 ∧ ¬ t.kind = 3) (hR : TmR t) (hP : PowW w) :
    Calls Tryz.prog 27 #[termV t] w fun e w' => e = .returned (.string (rowB (tmWo t))) ∧ Below w.heap.size w w' := by
  have HA : Hid (rowB (tmWo t) = ⟨#[116, 114, 97, 112, 10]⟩) := by
    show _ = _
    unfold tmWo
    rw [if_neg ho.1, if_neg ho.2.1, if_neg ho.2.2]
    refine bytes_eq ?_
    rw [lit_row _ (by simp)]
    simp only [List.flatMap_nil, Wo.b]
    rfl
  have HB0 : Hid (Below w.heap.size w (w.alloc (.cells #[.int .i64 t.kind, .int .i64 t.a, .int .i64 t.t0, .int .i64 t.t1] 51))) := (Below.refl _ w).alloc (Nat.le_refl _) _
  have HS : Hid (∀ W, Below (w.alloc (.cells #[.int .i64 t.kind, .int .i64 t.a, .int .i64 t.t0, .int .i64 t.t1] 51)).heap.size (w.alloc (.cells #[.int .i64 t.kind, .int .i64 t.a, .int .i64 t.t0, .int .i64 t.t1] 51)) W → W.cell? ⟨w.heap.size, 0, none⟩ = some (.int .i64 t.kind) ∧ W.cell? ⟨w.heap.size, 1, none⟩ = some (.int .i64 t.a) ∧ W.cell? ⟨w.heap.size, 2, none⟩ = some (.int .i64 t.t0) ∧ W.cell? ⟨w.heap.size, 3, none⟩ = some (.int .i64 t.t1)) := fun W hb => by
    have h := (Blk.new w 51 #[.int .i64 t.kind, .int .i64 t.a, .int .i64 t.t0, .int .i64 t.t1]).below hb (Blk.new w _ _).lt
    exact ⟨h.cell 0, h.cell 1, h.cell 2, h.cell 3⟩
  have HPW : Hid (∀ W, Below (w.alloc (.cells #[.int .i64 t.kind, .int .i64 t.a, .int .i64 t.t0, .int .i64 t.t1] 51)).heap.size (w.alloc (.cells #[.int .i64 t.kind, .int .i64 t.a, .int .i64 t.t0, .int .i64 t.t1] 51)) W → PowW W) := fun W hb => hP.below (HB0.out.trans (hb.mono HB0.out.size))
  have C0 : Hid (∀ W, Below (w.alloc (.cells #[.int .i64 t.kind, .int .i64 t.a, .int .i64 t.t0, .int .i64 t.t1] 51)).heap.size (w.alloc (.cells #[.int .i64 t.kind, .int .i64 t.a, .int .i64 t.t0, .int .i64 t.t1] 51)) W → Calls Tryz.prog 25 #[.int .i64 t.t0] W fun e w' => e = .returned (.string (itS t.t0)) ∧ Below (w.alloc (.cells #[.int .i64 t.kind, .int .i64 t.a, .int .i64 t.t0, .int .i64 t.t1] 51)).heap.size (w.alloc (.cells #[.int .i64 t.kind, .int .i64 t.a, .int .i64 t.t0, .int .i64 t.t1] 51)) w') := fun W hb => (itoaP_any t.t0 W (HPW.out W hb) hR.t0.1 hR.t0.2).mono fun e w' ⟨h1, h2⟩ => ⟨h1, hb.trans (h2.mono hb.size)⟩
  have C1 : Hid (∀ W, Below (w.alloc (.cells #[.int .i64 t.kind, .int .i64 t.a, .int .i64 t.t0, .int .i64 t.t1] 51)).heap.size (w.alloc (.cells #[.int .i64 t.kind, .int .i64 t.a, .int .i64 t.t0, .int .i64 t.t1] 51)) W → Calls Tryz.prog 25 #[.int .i64 t.t1] W fun e w' => e = .returned (.string (itS t.t1)) ∧ Below (w.alloc (.cells #[.int .i64 t.kind, .int .i64 t.a, .int .i64 t.t0, .int .i64 t.t1] 51)).heap.size (w.alloc (.cells #[.int .i64 t.kind, .int .i64 t.a, .int .i64 t.t0, .int .i64 t.t1] 51)) w') := fun W hb => (itoaP_any t.t1 W (HPW.out W hb) hR.t1.1 hR.t1.2).mono fun e w' ⟨h1, h2⟩ => ⟨h1, hb.trans (h2.mono hb.size)⟩
  have CA : Hid (∀ W, Below (w.alloc (.cells #[.int .i64 t.kind, .int .i64 t.a, .int .i64 t.t0, .int .i64 t.t1] 51)).heap.size (w.alloc (.cells #[.int .i64 t.kind, .int .i64 t.a, .int .i64 t.t0, .int .i64 t.t1] 51)) W → Calls Tryz.prog 61 #[.int .i64 t.a] W fun e w' => e = .returned (.string (rgT t.a)) ∧ Below (w.alloc (.cells #[.int .i64 t.kind, .int .i64 t.a, .int .i64 t.t0, .int .i64 t.t1] 51)).heap.size (w.alloc (.cells #[.int .i64 t.kind, .int .i64 t.a, .int .i64 t.t0, .int .i64 t.t1] 51)) w') := fun W hb => (reg7_any t.a W (HPW.out W hb) hR.a).mono fun e w' ⟨h1, h2⟩ => ⟨h1, hb.trans (h2.mono hb.size)⟩
  have z0 := itS_size t.t0 hR.t0
  have z1 := itS_size t.t1 hR.t1
  have za := rgT_size t.a hR.a
  unfold termV
  rw [HA.out]
  clear hP hR HPW HA
  generalize itS t.t0 = t0 at *
  generalize itS t.t1 = t1 at *
  generalize rgT t.a = ra at *
  clear z0 z1 za
  have q1 : (t.kind == 1) = false := ff9 ho.1
  have q2 : (t.kind == 2) = false := ff9 ho.2.1
  have q3 : (t.kind == 3) = false := ff9 ho.2.2
  clear ho
  obtain ⟨A, hA⟩ : ∃ A, A = w.alloc (.cells #[.int .i64 t.kind, .int .i64 t.a, .int .i64 t.t0, .int .i64 t.t1] 51) := ⟨_, rfl⟩
  have X0 := Lib.hid (C0.out _ (Below.refl _ _))
  go_enter Tryz.func27, Tryz.ntmps27
  go_wp2_with fail
  refine X0.out.mono ?_
  rintro e w1 ⟨rfl, hb1⟩
  rw [← hA] at hb1 HB0 HS C0 C1 CA
  clear X0 hA
  have HB1 := Lib.hid hb1
  obtain ⟨a0, a1, a2, a3⟩ := HS.out _ hb1
  clear hb1
  go_wp2
  go_ret
  exact ⟨rfl, HB0.out.trans (HB1.out.mono HB0.out.size)⟩
theorem lineEnd_any (t : Tt) (w : World) (hR : TmR t) (hP : PowW w) : Calls Tryz.prog 27 #[termV t] w fun e w' => e = .returned (.string (rowB (tmWo t))) ∧ Below w.heap.size w w' := by
  by_cases h1 : t.kind = 1
  · exact lineEnd_jump t w h1 hR hP
  by_cases h2 : t.kind = 2
  · exact lineEnd_branch t w h2 hR hP
  by_cases h3 : t.kind = 3
  · by_cases h4 : t.a = -1
    · exact lineEnd_none t w ⟨h3, h4⟩ hR hP
    · exact lineEnd_some t w ⟨h3, h4⟩ hR hP
  · exact lineEnd_trap t w ⟨h1, h2, h3⟩ hR hP
end Go.Proofs.YtjmdgbgjleeloaaGreatDoor
