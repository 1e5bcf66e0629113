/-
  Whether two rows of instructions, two blocks, two targets are the same, told exactly. No condition beyond those that each theorem states.
-/
import Derived.Test.YtjmdgbgjleeloaaGreatDoorMqH
import Derived.Test.YtjmdgbgjleeloaaGreatDoorPk37
namespace Go.Proofs.YtjmdgbgjleeloaaGreatDoor
open Go.RowKit

theorem bool_of (p : Prop) : ∃ b : Bool, (b = true ↔ p) := by
  by_cases h : p
  · exact ⟨true, by simp [h]⟩
  · exact ⟨false, by simp [h]⟩
theorem insV_dec (x y : Ii) (a a' : Option Addr) (c c' : Nat) (w : World) (b : Bool) (hb : b = true ↔ x = y) (hl : x.args.length ≤ 1000000) (hl' : y.args.length ≤ 1000000) (hI : IntsW w a x.args) (hJ : IntsW w a' y.args) :
    Calls Tryz.prog 149 #[insV x a c, insV y a' c'] w fun e w' => e = .returned (.bool b) ∧ Below w.heap.size w w' := by
  cases b
  · exact sameIns_diff x y a a' c c' w (fun e => by have := hb.2 e; cases this) hl hl' hI hJ
  · obtain rfl := hb.1 rfl
    exact sameIns_same x a a' c c' w hl hI hJ
theorem take_all {α : Type} {l m : List α} (hl : l.length = m.length) (h : l.take l.length = m.take l.length) : l = m := by
  rw [List.take_of_length_le (Nat.le_refl _), List.take_of_length_le (by omega)] at h
  exact h
theorem take_more {α : Type} {l m : List α} {j : Nat} {x : α} (h : l.take j = m.take j) (hx : l[j]? = some x) (hy : m[j]? = some x) : l.take (j + 1) = m.take (j + 1) := by
  rw [List.take_add_one, List.take_add_one, h, hx, hy]
set_option maxHeartbeats 2000000 in
set_option maxRecDepth 100000 in
theorem sameRow_diff (l m : List Ii) (a a' : Option Addr) (c c' : Nat) (w : World) (hd : l ≠ m) (hl : l.length ≤ 1000000) (hm : m.length ≤ 1000000) (hl2 : ∀ x ∈ l, x.args.length ≤ 1000000) (hm2 : ∀ x ∈ m, x.args.length ≤ 1000000) (hI : InsW w a l) (hJ : InsW w a' m) :
    Calls Tryz.prog 106 #[.slice a l.length c, .slice a' m.length c'] w fun e w' => e = .returned (.bool false) ∧ Below w.heap.size w w' := by
  have HI := Lib.hid hI
  have HJ := Lib.hid hJ
  have HL2 := Lib.hid hl2
  have HM2 := Lib.hid hm2
  have HD := Lib.hid hd
  clear hI hJ hl2 hm2 hd
  by_cases hlen : l.length = m.length
  case neg =>
    have h'' : ((l.length : Int) != m.length) = true := by simp; omega
    go_enter Tryz.func106, Tryz.ntmps106
    go_wp2
    go_ret
    exact ⟨rfl, Below.refl _ _⟩
  have HLN := Lib.hid hlen
  obtain ⟨n, hn⟩ : ∃ n, n = l.length := ⟨_, rfl⟩
  have hnm : n = m.length := hn.trans hlen
  rw [← hn, ← hnm]
  rw [← hn] at hl
  have HN := Lib.hid hn
  have HNM := Lib.hid hnm
  clear hlen hn hnm hm
  have h' : ((n : Int) == n) = true := by simp
  have h'' : ((n : Int) != n) = false := by simp
  go_enter Tryz.func106, Tryz.ntmps106
  go_wp2
  go_loopw [5] (fun k wr => ∃ j : Nat, k = .int .i64 j ∧ j ≤ n ∧ Hid (l.take j = m.take j) ∧ Below w.heap.size w wr) (fun k _ => n - (intOf k).toNat)
  case atStart => exact ⟨0, rfl, Nat.zero_le _, rfl, Below.refl _ _⟩
  case round =>
    obtain ⟨j, rfl, hj, HT, hW⟩ := hrel
    have HW := Lib.hid hW
    clear hW
    by_cases hlt : j < n
    · have hlt' : (j : Int) < n := by omega
      have hj0 : (0 : Int) ≤ j := by omega
      obtain ⟨x, hx⟩ : ∃ x, l[j]? = some x := ⟨_, List.getElem?_eq_getElem (by have := HN.out; omega)⟩
      obtain ⟨y, hy⟩ : ∃ y, m[j]? = some y := ⟨_, List.getElem?_eq_getElem (by have := HNM.out; omega)⟩
      obtain ⟨b, hb⟩ := bool_of (x = y)
      have HT2 : Hid (b = true → l.take (j + 1) = m.take (j + 1)) := fun e => by have := hb.1 e; subst this; exact take_more HT.out hx hy
      obtain ⟨g, o, ia, ic, rfl, hg, hc⟩ := (HI.out.below HW.out) j x hx
      obtain ⟨g2, o2, ia2, ic2, rfl, hg2, hc2⟩ := (HJ.out.below HW.out) j y hy
      have HLX := Lib.hid (HL2.out x (List.mem_of_getElem? hx))
      have HMX := Lib.hid (HM2.out y (List.mem_of_getElem? hy))
      have HBX := Lib.hid hb
      have HC1 := Lib.hid hc
      have HC2 := Lib.hid hc2
      have HG := Lib.hid hg
      have HG2 := Lib.hid hg2
      clear hc hc2 hx hy hg hg2 hb
      have CS : Hid (∀ W, Below wr.heap.size wr W → Calls Tryz.prog 149 #[insV x ia ic, insV y ia2 ic2] W fun e w' => e = .returned (.bool b) ∧ Below wr.heap.size wr w') := Lib.hid fun W h =>
        (insV_dec x y ia ia2 ic ic2 W b HBX.out HLX.out HMX.out (HC1.out.args.below h) (HC2.out.args.below h)).mono fun _ _ ⟨he, h2⟩ => ⟨he, h.trans (h2.mono h.size)⟩
      unfold insV at CS
      go_wp2_with fail
      go_region_held3 (fun w' => Below wr.heap.size wr w' ∧ w'.cell? ⟨g, o + j * 8, none⟩ = some (.int .i64 x.op) ∧ w'.cell? ⟨g, o + j * 8 + 1, none⟩ = some (.int .i64 x.dst) ∧ w'.cell? ⟨g, o + j * 8 + 2, none⟩ = some (.int .i64 x.a) ∧ w'.cell? ⟨g, o + j * 8 + 3, none⟩ = some (.int .i64 x.b) ∧ w'.cell? ⟨g, o + j * 8 + 4, none⟩ = some (.int .i64 x.imm) ∧ w'.cell? ⟨g, o + j * 8 + 5, none⟩ = some (.int .i64 x.callee) ∧ w'.cell? ⟨g, o + j * 8 + 6, none⟩ = some (.slice ia x.args.length ic) ∧ w'.cell? ⟨g, o + j * 8 + 7, none⟩ = some (.int .i64 x.many) ∧ w'.cell? ⟨g2, o2 + j * 8, none⟩ = some (.int .i64 y.op) ∧ w'.cell? ⟨g2, o2 + j * 8 + 1, none⟩ = some (.int .i64 y.dst) ∧ w'.cell? ⟨g2, o2 + j * 8 + 2, none⟩ = some (.int .i64 y.a) ∧ w'.cell? ⟨g2, o2 + j * 8 + 3, none⟩ = some (.int .i64 y.b) ∧ w'.cell? ⟨g2, o2 + j * 8 + 4, none⟩ = some (.int .i64 y.imm) ∧ w'.cell? ⟨g2, o2 + j * 8 + 5, none⟩ = some (.int .i64 y.callee) ∧ w'.cell? ⟨g2, o2 + j * 8 + 6, none⟩ = some (.slice ia2 y.args.length ic2) ∧ w'.cell? ⟨g2, o2 + j * 8 + 7, none⟩ = some (.int .i64 y.many))
        (first
          | exact ⟨hb7, (HC1.out.below HG.out hb7).c0, (HC1.out.below HG.out hb7).c1, (HC1.out.below HG.out hb7).c2, (HC1.out.below HG.out hb7).c3, (HC1.out.below HG.out hb7).c4, (HC1.out.below HG.out hb7).c5, (HC1.out.below HG.out hb7).c6, (HC1.out.below HG.out hb7).c7, (HC2.out.below HG2.out hb7).c0, (HC2.out.below HG2.out hb7).c1, (HC2.out.below HG2.out hb7).c2, (HC2.out.below HG2.out hb7).c3, (HC2.out.below HG2.out hb7).c4, (HC2.out.below HG2.out hb7).c5, (HC2.out.below HG2.out hb7).c6, (HC2.out.below HG2.out hb7).c7⟩
          | exact ⟨(Below.refl _ wr).drew, (HC1.out).c0, (HC1.out).c1, (HC1.out).c2, (HC1.out).c3, (HC1.out).c4, (HC1.out).c5, (HC1.out).c6, (HC1.out).c7, (HC2.out).c0, (HC2.out).c1, (HC2.out).c2, (HC2.out).c3, (HC2.out).c4, (HC2.out).c5, (HC2.out).c6, (HC2.out).c7⟩)
        (first
          | (go_at_call 149; refine (CS.out _ (by go_split_ands; assumption)).mono ?_; rintro e w7 ⟨rfl, hb7⟩))
      have HW7 : Hid (Below w.heap.size w w7) := Lib.hid (HW.out.trans (hb7.mono HW.out.size))
      rename_i hHeld
      clear hHeld hb7
      cases b
      · go_wp2
        go_ret
        exact ⟨rfl, HW7.out⟩
      · have HT3 := Lib.hid (HT2.out rfl)
        go_wp2
        go_roundw
        case rel => exact ⟨j + 1, by go_num, by omega, HT3.out, HW7.out⟩
        case measure => simp [intOf]; omega
    · have e : j = n := by omega
      exact absurd (take_all HLN.out (by have := HT.out; rw [e, HN.out] at this; exact this)) HD.out
set_option maxHeartbeats 1000000 in
set_option maxRecDepth 100000 in
theorem sameBlock_diff (x y : Bb) (a a' : Option Addr) (c c' : Nat) (w : World) (hd : x ≠ y) (hl : x.ins.length ≤ 1000000) (hm : y.ins.length ≤ 1000000) (hl2 : ∀ y ∈ x.ins, y.args.length ≤ 1000000) (hm2 : ∀ z ∈ y.ins, z.args.length ≤ 1000000) (hI : InsW w a x.ins) (hJ : InsW w a' y.ins) :
    Calls Tryz.prog 65 #[blV x a c, blV y a' c'] w fun e w' => e = .returned (.bool false) ∧ Below w.heap.size w w' := by
  have HX : Hid (Blk ((w.alloc (.cells (blC x a c) 53)).alloc (.cells (blC y a' c') 53)) w.heap.size 53 (blC x a c)) := Lib.hid ((Blk.new w _ _).alloc _)
  have HY : Hid (Blk ((w.alloc (.cells (blC x a c) 53)).alloc (.cells (blC y a' c') 53)) (w.heap.size + 1) 53 (blC y a' c')) := Lib.hid (new_two w _ _ _)
  have HW : Hid (Below w.heap.size w ((w.alloc (.cells (blC x a c) 53)).alloc (.cells (blC y a' c') 53))) := Lib.hid (((Below.refl _ w).alloc (Nat.le_refl _) _).alloc (by simp) _)
  by_cases hins : x.ins = y.ins
  · have HC := Lib.hid (sameRow_same x.ins a a' c c' _ hl hl2 (hI.below HW.out) (by rw [hins]; exact hJ.below HW.out))
    have ht : x.tm ≠ y.tm := fun e => hd (by cases x; cases y; simp_all)
    have hq : ∀ W, (Op.equalIn 10000 51 (.agg #[.int .i64 x.tm.kind, .int .i64 x.tm.a, .int .i64 x.tm.t0, .int .i64 x.tm.t1]) (.agg #[.int .i64 y.tm.kind, .int .i64 y.tm.a, .int .i64 y.tm.t0, .int .i64 y.tm.t1])).run Tryz.prog W = .ok false W := fun W => by
      rw [eql_term2]
      congr 1
      rw [Bool.eq_false_iff]
      intro h
      simp only [Bool.and_eq_true, beq_iff_eq] at h
      refine ht ?_
      cases hx : x.tm; cases hy : y.tm
      rw [hx, hy] at h
      simp_all
    unfold blC at HC HX HY HW
    rw [← hins] at HC HX HY HW
    clear hI hJ hd ht
    unfold blV blC
    rw [← hins]
    clear hins hm hm2
    go_enter Tryz.func65, Tryz.ntmps65
    go_wp2_with fail
    refine HC.out.mono ?_
    rintro e w1 ⟨rfl, hb⟩
    have HX1 := Lib.hid (HX.out.below hb HX.out.lt)
    have HY1 := Lib.hid (HY.out.below hb HY.out.lt)
    have HW1 : Hid (Below w.heap.size w w1) := Lib.hid (HW.out.trans (hb.mono HW.out.size))
    clear hb HX HY HW HC
    have c0 : w1.cell? ⟨w.heap.size, 0, none⟩ = some (.slice a x.ins.length c) := HX1.out.cell 0
    have c1 : w1.cell? ⟨w.heap.size, 1, none⟩ = some (.int .i64 x.tm.kind) := HX1.out.cell 1
    have c2 : w1.cell? ⟨w.heap.size, 2, none⟩ = some (.int .i64 x.tm.a) := HX1.out.cell 2
    have c3 : w1.cell? ⟨w.heap.size, 3, none⟩ = some (.int .i64 x.tm.t0) := HX1.out.cell 3
    have c4 : w1.cell? ⟨w.heap.size, 4, none⟩ = some (.int .i64 x.tm.t1) := HX1.out.cell 4
    have d0 : w1.cell? ⟨w.heap.size + 1, 0, none⟩ = some (.slice a' x.ins.length c') := HY1.out.cell 0
    have d1 : w1.cell? ⟨w.heap.size + 1, 1, none⟩ = some (.int .i64 y.tm.kind) := HY1.out.cell 1
    have d2 : w1.cell? ⟨w.heap.size + 1, 2, none⟩ = some (.int .i64 y.tm.a) := HY1.out.cell 2
    have d3 : w1.cell? ⟨w.heap.size + 1, 3, none⟩ = some (.int .i64 y.tm.t0) := HY1.out.cell 3
    have d4 : w1.cell? ⟨w.heap.size + 1, 4, none⟩ = some (.int .i64 y.tm.t1) := HY1.out.cell 4
    go_wp2
    go_ret
    exact ⟨rfl, HW1.out⟩
  · have HC := Lib.hid (sameRow_diff x.ins y.ins a a' c c' _ hins hl hm hl2 hm2 (hI.below HW.out) (hJ.below HW.out))
    unfold blC at HC HX HY HW
    clear hI hJ hd hins
    unfold blV blC
    go_enter Tryz.func65, Tryz.ntmps65
    go_wp2_with fail
    refine HC.out.mono ?_
    rintro e w1 ⟨rfl, hb⟩
    have HW1 : Hid (Below w.heap.size w w1) := Lib.hid (HW.out.trans (hb.mono HW.out.size))
    clear hb HX HY HW HC
    go_wp2
    go_ret
    exact ⟨rfl, HW1.out⟩
theorem blV_dec (x y : Bb) (a a' : Option Addr) (c c' : Nat) (w : World) (b : Bool) (hb : b = true ↔ x = y) (hl : x.ins.length ≤ 1000000) (hm : y.ins.length ≤ 1000000) (hl2 : ∀ y ∈ x.ins, y.args.length ≤ 1000000) (hm2 : ∀ z ∈ y.ins, z.args.length ≤ 1000000) (hI : InsW w a x.ins) (hJ : InsW w a' y.ins) :
    Calls Tryz.prog 65 #[blV x a c, blV y a' c'] w fun e w' => e = .returned (.bool b) ∧ Below w.heap.size w w' := by
  cases b
  · exact sameBlock_diff x y a a' c c' w (fun e => by have := hb.2 e; cases this) hl hm hl2 hm2 hI hJ
  · obtain rfl := hb.1 rfl
    exact sameBlock_same x a a' c c' w hl hl2 hI hJ
set_option maxHeartbeats 2000000 in
set_option maxRecDepth 100000 in
theorem sameBlocks_diff (l m : List Bb) (a a' : Option Addr) (c c' : Nat) (w : World) (hd : l ≠ m) (hl : l.length ≤ 1000000) (hm : m.length ≤ 1000000) (hl2 : ∀ x ∈ l, x.ins.length ≤ 1000000 ∧ ∀ y ∈ x.ins, y.args.length ≤ 1000000) (hm2 : ∀ x ∈ m, x.ins.length ≤ 1000000 ∧ ∀ y ∈ x.ins, y.args.length ≤ 1000000) (hI : BlsW w a l) (hJ : BlsW w a' m) :
    Calls Tryz.prog 40 #[.slice a l.length c, .slice a' m.length c'] w fun e w' => e = .returned (.bool false) ∧ Below w.heap.size w w' := by
  have HI := Lib.hid hI
  have HJ := Lib.hid hJ
  have HL2 := Lib.hid hl2
  have HM2 := Lib.hid hm2
  have HD := Lib.hid hd
  clear hI hJ hl2 hm2 hd
  by_cases hlen : l.length = m.length
  case neg =>
    have h'' : ((l.length : Int) != m.length) = true := by simp; omega
    go_enter Tryz.func40, Tryz.ntmps40
    go_wp2
    go_ret
    exact ⟨rfl, Below.refl _ _⟩
  have HLN := Lib.hid hlen
  obtain ⟨n, hn⟩ : ∃ n, n = l.length := ⟨_, rfl⟩
  have hnm : n = m.length := hn.trans hlen
  rw [← hn, ← hnm]
  rw [← hn] at hl
  have HN := Lib.hid hn
  have HNM := Lib.hid hnm
  clear hlen hn hnm hm
  have h' : ((n : Int) == n) = true := by simp
  have h'' : ((n : Int) != n) = false := by simp
  go_enter Tryz.func40, Tryz.ntmps40
  go_wp2
  go_loopw [5] (fun k wr => ∃ j : Nat, k = .int .i64 j ∧ j ≤ n ∧ Hid (l.take j = m.take j) ∧ Below w.heap.size w wr) (fun k _ => n - (intOf k).toNat)
  case atStart => exact ⟨0, rfl, Nat.zero_le _, rfl, Below.refl _ _⟩
  case round =>
    obtain ⟨j, rfl, hj, HT, hW⟩ := hrel
    have HW := Lib.hid hW
    clear hW
    by_cases hlt : j < n
    · have hlt' : (j : Int) < n := by omega
      have hj0 : (0 : Int) ≤ j := by omega
      obtain ⟨x, hx⟩ : ∃ x, l[j]? = some x := ⟨_, List.getElem?_eq_getElem (by have := HN.out; omega)⟩
      obtain ⟨y, hy⟩ : ∃ y, m[j]? = some y := ⟨_, List.getElem?_eq_getElem (by have := HNM.out; omega)⟩
      obtain ⟨b, hb⟩ := bool_of (x = y)
      have HT2 : Hid (b = true → l.take (j + 1) = m.take (j + 1)) := fun e => by have := hb.1 e; subst this; exact take_more HT.out hx hy
      obtain ⟨g, o, ia, ic, rfl, hg, hc⟩ := (HI.out.below HW.out) j x hx
      obtain ⟨g2, o2, ia2, ic2, rfl, hg2, hc2⟩ := (HJ.out.below HW.out) j y hy
      have HLX := Lib.hid (HL2.out x (List.mem_of_getElem? hx))
      have HMX := Lib.hid (HM2.out y (List.mem_of_getElem? hy))
      have HBX := Lib.hid hb
      have HC1 := Lib.hid hc
      have HC2 := Lib.hid hc2
      have HG := Lib.hid hg
      have HG2 := Lib.hid hg2
      clear hc hc2 hx hy hg hg2 hb
      have CS : Hid (∀ W, Below wr.heap.size wr W → Calls Tryz.prog 65 #[blV x ia ic, blV y ia2 ic2] W fun e w' => e = .returned (.bool b) ∧ Below wr.heap.size wr w') := Lib.hid fun W h =>
        (blV_dec x y ia ia2 ic ic2 W b HBX.out HLX.out.1 HMX.out.1 HLX.out.2 HMX.out.2 (HC1.out.ins.below h) (HC2.out.ins.below h)).mono fun _ _ ⟨he, h2⟩ => ⟨he, h.trans (h2.mono h.size)⟩
      unfold blV blC at CS
      go_wp2_with fail
      go_region_held3 (fun w' => Below wr.heap.size wr w' ∧ w'.cell? ⟨g, o + j * 5, none⟩ = some (.slice ia x.ins.length ic) ∧ w'.cell? ⟨g, o + j * 5 + 1, none⟩ = some (.int .i64 x.tm.kind) ∧ w'.cell? ⟨g, o + j * 5 + 2, none⟩ = some (.int .i64 x.tm.a) ∧ w'.cell? ⟨g, o + j * 5 + 3, none⟩ = some (.int .i64 x.tm.t0) ∧ w'.cell? ⟨g, o + j * 5 + 4, none⟩ = some (.int .i64 x.tm.t1) ∧ w'.cell? ⟨g2, o2 + j * 5, none⟩ = some (.slice ia2 y.ins.length ic2) ∧ w'.cell? ⟨g2, o2 + j * 5 + 1, none⟩ = some (.int .i64 y.tm.kind) ∧ w'.cell? ⟨g2, o2 + j * 5 + 2, none⟩ = some (.int .i64 y.tm.a) ∧ w'.cell? ⟨g2, o2 + j * 5 + 3, none⟩ = some (.int .i64 y.tm.t0) ∧ w'.cell? ⟨g2, o2 + j * 5 + 4, none⟩ = some (.int .i64 y.tm.t1))
        (first
          | exact ⟨hb7, (HC1.out.below HG.out hb7).c0, (HC1.out.below HG.out hb7).c1, (HC1.out.below HG.out hb7).c2, (HC1.out.below HG.out hb7).c3, (HC1.out.below HG.out hb7).c4, (HC2.out.below HG2.out hb7).c0, (HC2.out.below HG2.out hb7).c1, (HC2.out.below HG2.out hb7).c2, (HC2.out.below HG2.out hb7).c3, (HC2.out.below HG2.out hb7).c4⟩
          | exact ⟨(Below.refl _ wr).drew, (HC1.out).c0, (HC1.out).c1, (HC1.out).c2, (HC1.out).c3, (HC1.out).c4, (HC2.out).c0, (HC2.out).c1, (HC2.out).c2, (HC2.out).c3, (HC2.out).c4⟩)
        (first
          | (go_at_call 65; refine (CS.out _ (by go_split_ands; assumption)).mono ?_; rintro e w7 ⟨rfl, hb7⟩))
      have HW7 : Hid (Below w.heap.size w w7) := Lib.hid (HW.out.trans (hb7.mono HW.out.size))
      rename_i hHeld
      clear hHeld hb7
      cases b
      · go_wp2
        go_ret
        exact ⟨rfl, HW7.out⟩
      · have HT3 := Lib.hid (HT2.out rfl)
        go_wp2
        go_roundw
        case rel => exact ⟨j + 1, by go_num, by omega, HT3.out, HW7.out⟩
        case measure => simp [intOf]; omega
    · have e : j = n := by omega
      exact absurd (take_all HLN.out (by have := HT.out; rw [e, HN.out] at this; exact this)) HD.out
set_option maxHeartbeats 1000000 in
set_option maxRecDepth 100000 in
theorem sameTarget_diff (t u : Gg) (ba ba' : Option Addr) (bc bc' : Nat) (w : World) (hd : t ≠ u) (hs : SmallG t) (hs2 : SmallG u) (hF : BlsW w ba t.blocks) (hG : BlsW w ba' u.blocks) :
    Calls Tryz.prog 16 #[tgV t ba bc, tgV u ba' bc'] w fun e w' => e = .returned (.bool false) ∧ Below w.heap.size w w' := by
  have HX : Hid (Blk ((w.alloc (.cells (tgC t ba bc) 24)).alloc (.cells (tgC u ba' bc') 24)) w.heap.size 24 (tgC t ba bc)) := Lib.hid ((Blk.new w _ _).alloc _)
  have HY : Hid (Blk ((w.alloc (.cells (tgC t ba bc) 24)).alloc (.cells (tgC u ba' bc') 24)) (w.heap.size + 1) 24 (tgC u ba' bc')) := Lib.hid (new_two w _ _ _)
  have HW : Hid (Below w.heap.size w ((w.alloc (.cells (tgC t ba bc) 24)).alloc (.cells (tgC u ba' bc') 24))) := Lib.hid (((Below.refl _ w).alloc (Nat.le_refl _) _).alloc (by simp) _)
  by_cases hf : t.frame = u.frame
  · have hb : t.blocks ≠ u.blocks := fun e => hd (by cases t; cases u; simp_all)
    have HC := Lib.hid (sameBlocks_diff t.blocks u.blocks ba ba' bc bc' _ hb hs.b hs2.b hs.i hs2.i (hF.below HW.out) (hG.below HW.out))
    have q0 : (t.frame == u.frame) = true := by rw [hf]; simp
    unfold tgC at HC HX HY HW
    clear hF hG hs hs2 HX HY hd hb hf
    unfold tgV tgC
    go_enter Tryz.func16, Tryz.ntmps16
    go_wp2_with fail
    refine HC.out.mono ?_
    rintro e w2 ⟨rfl, hb⟩
    have HW2 : Hid (Below w.heap.size w w2) := Lib.hid (HW.out.trans (hb.mono HW.out.size))
    clear hb HC HW
    go_wp2
    go_ret
    exact ⟨rfl, HW2.out⟩
  · have q0 : (t.frame == u.frame) = false := ff hf
    unfold tgC at HX HY HW
    clear hF hG hs hs2 HX HY hd hf
    unfold tgV tgC
    go_enter Tryz.func16, Tryz.ntmps16
    go_wp2
    go_ret
    exact ⟨rfl, HW.out⟩
theorem sameTarget_dec (t u : Gg) (ba ba' : Option Addr) (bc bc' : Nat) (w : World) (b : Bool) (hb : b = true ↔ t = u) (hs : SmallG t) (hs2 : SmallG u) (hF : BlsW w ba t.blocks) (hG : BlsW w ba' u.blocks) :
    Calls Tryz.prog 16 #[tgV t ba bc, tgV u ba' bc'] w fun e w' => e = .returned (.bool b) ∧ Below w.heap.size w w' := by
  cases b
  · exact sameTarget_diff t u ba ba' bc bc' w (fun e => by have := hb.2 e; cases this) hs hs2 hF hG
  · obtain rfl := hb.1 rfl
    exact sameTarget_same t ba ba' bc bc' w hs hF hG
end Go.Proofs.YtjmdgbgjleeloaaGreatDoor
