/-
  The error that a function has in its parts is told as the plain function says. No condition beyond those that each theorem states.
  A function's size is told as the plain functions say. No condition beyond those that each theorem states.
  Package read's canBeWritten (written by gen/rdo.py). No condition beyond those that each theorem states.
-/
import Derived.Test.YthiipgahbmoiiaaGreatDoorPk6
import Derived.Deep.CutRange
import Derived.Test.YthiipgahbmoiiaaGreatDoorPk4
import Derived.Deep.RegionHeld3
import Derived.Laws.EntriesVeiled
namespace Go.Proofs.YthiipgahbmoiiaaGreatDoor
open Go.RowKit

set_option maxHeartbeats 1000000 in
set_option maxRecDepth 100000 in
theorem shape_any (f : Ff) (pa : Option Addr) (pc : Nat) (ba : Option Addr) (bc : Nat) (w : World) (hS : SmallF f) (hF : FnW w f pa pc ba bc) :
    Calls Tryz.prog 46 #[fnV f pa pc ba bc] w fun e w' => e = .returned (.int .i64 (shapeN f)) ∧ Below w.heap.size w w' := by
  have HF := Lib.hid hF
  have HS := Lib.hid hS
  have hp := hS.p
  have hb := hS.b
  have HE := Lib.hid (shapeN.eq_1 f)
  have HE2 := Lib.hid (shapedB.eq_1 f)
  have HX0 : Hid (Blk (w.alloc (.cells (fnC f pa pc ba bc) 25)) w.heap.size 25 (fnC f pa pc ba bc)) := Blk.new w _ _
  have HW0 : Hid (Below w.heap.size w (w.alloc (.cells (fnC f pa pc ba bc) 25))) := (Below.refl _ w).alloc (Nat.le_refl _) _
  have HC := Lib.hid (isLong_any f pa pc ba bc _ hS (hF.below HW0.out))
  clear hF hS
  unfold fnV fnC at HC
  unfold fnV fnC
  go_enter Tryz.func46, Tryz.ntmps46
  go_wp2_with fail
  refine HC.out.mono ?_
  rintro e w1 ⟨rfl, hb1⟩
  have HX1 : Hid (Blk w1 w.heap.size 25 (fnC f pa pc ba bc)) := HX0.out.below hb1 HX0.out.lt
  have HB1 : Hid (Below w.heap.size w w1) := HW0.out.trans (hb1.mono HW0.out.size)
  clear hb1 HC HX0 HW0
  cases hlong : isLongB f
  case true =>
    rw [hlong] at HE
    go_wp2
    go_ret
    exact ⟨by rw [HE.out]; rfl, HB1.out⟩
  rw [hlong] at HE
  clear hlong
  obtain ⟨c0, c1⟩ := box2 HX1.out
  have HC := Lib.hid (areParams_any f.params pa pc w1 (by omega) (HF.out.below HB1.out).params)
  go_wp2_with fail
  refine HC.out.mono ?_
  rintro e w2 ⟨rfl, hb2⟩
  have HX2 : Hid (Blk w2 w.heap.size 25 (fnC f pa pc ba bc)) := HX1.out.below hb2 HX1.out.lt
  have HB2 : Hid (Below w.heap.size w w2) := HB1.out.trans (hb2.mono HB1.out.size)
  clear hb2 HC HX1 HB1 c0 c1
  obtain ⟨c0, c1⟩ := box2 HX2.out
  cases hpar : paramsB [] f.params
  case false =>
    rw [hpar] at HE2
    have HE3 : Hid (shapeN f = 2) := by
      show _ = _
      rw [HE.out, HE2.out]
      rfl
    go_wp2
    go_ret
    exact ⟨by rw [HE3.out]; rfl, HB2.out⟩
  rw [hpar] at HE2
  have HE3 : Hid (shapeN f = if f.blocks.all isBlockB then 0 else 2) := by
    show _ = _
    rw [HE.out, HE2.out]
    simp
  clear HE HE2
  go_wp2
  go_loopw [16] (fun k wr => ∃ j : Nat, k = .int .i64 j ∧ j ≤ f.blocks.length ∧ Hid (shapeN f = if (f.blocks.drop j).all isBlockB then 0 else 2) ∧ Below w.heap.size w wr) (fun k _ => f.blocks.length - (intOf k).toNat)
  case atStart => exact ⟨0, rfl, Nat.zero_le _, HE3.out, HB2.out⟩
  case round =>
    obtain ⟨j, rfl, hj, HA, hB⟩ := hrel
    have HB := Lib.hid hB
    clear hB HX2 HB2 HE3 c0 c1
    by_cases hlt : j < f.blocks.length
    · have hlt' : (j : Int) < f.blocks.length := by omega
      have hj0 : (0 : Int) ≤ j := by omega
      obtain ⟨y, hy⟩ : ∃ y, f.blocks[j]? = some y := ⟨_, List.getElem?_eq_getElem hlt⟩
      obtain ⟨g, o, ya, yc, rfl, hg, hc⟩ := (HF.out.below HB.out).blocks j y hy
      have hyi := HS.out.i y (List.mem_of_getElem? hy)
      have HD : Hid (shapeN f = if isBlockB y && (f.blocks.drop (j + 1)).all isBlockB then 0 else 2) := by
        show _ = _
        rw [HA.out, List.drop_eq_getElem_cons hlt, (List.getElem?_eq_some_iff.1 hy).2]
        rfl
      have c0 := hc.c0
      have c1 := hc.c1
      have c2 := hc.c2
      have c3 := hc.c3
      have c4 := hc.c4
      have HW2 : Hid (Below wr.heap.size wr (wr.alloc (.cells (blC y ya yc) 52))) := (Below.refl _ wr).alloc (Nat.le_refl _) _
      have HC := Lib.hid (isBlock_any y ya yc _ hyi.1 hyi.2 (hc.ins.below HW2.out))
      unfold blV blC at HC
      clear hy HA hc
      go_wp2_with fail
      refine HC.out.mono ?_
      rintro e w3 ⟨rfl, hb3⟩
      have HB3 : Hid (Below w.heap.size w w3) := HB.out.trans ((HW2.out.trans (hb3.mono HW2.out.size)).mono HB.out.size)
      clear hb3 HC c0 c1 c2 c3 c4 HW2 HB
      cases hi : isBlockB y
      · rw [hi] at HD
        go_wp2
        go_ret
        exact ⟨by rw [HD.out]; rfl, HB3.out⟩
      · rw [hi] at HD
        go_wp2
        go_roundw
        case rel => exact ⟨j + 1, by go_num, by omega, by have := HD.out; simpa [Hid] using this, HB3.out⟩
        case measure => simp [intOf]; omega
    · have e : j = f.blocks.length := by omega
      subst e
      go_wp2
      go_ret
      refine ⟨?_, HB.out⟩
      rw [HA.out]
      simp
end Go.Proofs.YthiipgahbmoiiaaGreatDoor
namespace Go.Proofs.YthiipgahbmoiiaaGreatDoor
open Go.RowKit

def sizeN (f : Ff) : Nat := if shapeN f = 0 then (f.blocks.map fun x => x.ins.length + 1).sum else 0
set_option maxHeartbeats 2000000 in
set_option maxRecDepth 100000 in
theorem size_any' (f : Ff) (pa : Option Addr) (pc : Nat) (ba : Option Addr) (bc : Nat) (w : World) (hS : SmallF f) (hF : FnW w f pa pc ba bc) :
    Calls Tryz.prog 54 #[fnV f pa pc ba bc] w fun e w' => e = .returned (.int .i64 (sizeN f)) ∧ Below w.heap.size w w' := by
  have HF := Lib.hid hF
  have HS := Lib.hid hS
  have hb := hS.b
  have HX0 : Hid (Blk (w.alloc (.cells (fnC f pa pc ba bc) 25)) w.heap.size 25 (fnC f pa pc ba bc)) := Blk.new w _ _
  have HW0 : Hid (Below w.heap.size w (w.alloc (.cells (fnC f pa pc ba bc) 25))) := (Below.refl _ w).alloc (Nat.le_refl _) _
  have HC := Lib.hid (shape_any f pa pc ba bc (w.alloc (.cells (fnC f pa pc ba bc) 25)) hS (hF.below HW0.out))
  clear hF hS
  unfold fnV fnC at HC
  unfold fnV fnC
  go_enter Tryz.func54, Tryz.ntmps54
  go_wp2_with fail
  refine HC.out.mono ?_
  rintro e w1 ⟨rfl, hb1⟩
  have HX1 : Hid (Blk w1 w.heap.size 25 (fnC f pa pc ba bc)) := HX0.out.below hb1 HX0.out.lt
  have HB1 : Hid (Below w.heap.size w w1) := HW0.out.trans (hb1.mono HW0.out.size)
  clear hb1 HC HX0 HW0
  by_cases hsh : shapeN f = 0
  case neg =>
    have hq : (shapeN f != 0) = true := by simp [hsh]
    have HE : Hid (sizeN f = 0) := if_neg hsh
    clear hsh
    go_wp2
    go_ret
    exact ⟨by rw [HE.out]; rfl, HB1.out⟩
  have hq : (shapeN f != 0) = false := by simp [hsh]
  have HE : Hid (sizeN f = (f.blocks.map fun x => x.ins.length + 1).sum) := if_pos hsh
  clear hsh
  obtain ⟨c0, c1⟩ := box2 HX1.out
  go_wp2
  clear c0 c1
  go_loopw [3, 12] (fun m k wr => ∃ j n : Nat, m = .int .i64 n ∧ k = .int .i64 j ∧ j ≤ f.blocks.length ∧ n ≤ j * 1000001 ∧ Hid (sizeN f = n + ((f.blocks.drop j).map fun x => x.ins.length + 1).sum) ∧ Below w.heap.size w wr) (fun _ k _ => f.blocks.length - (intOf k).toNat)
  case atStart => exact ⟨0, 0, rfl, rfl, Nat.zero_le _, Nat.zero_le _, by have := HE.out; simpa [Hid] using this, HB1.out⟩
  case round =>
    obtain ⟨j, n, rfl, rfl, hj, hn, HA, hB⟩ := hrel
    have HB := Lib.hid hB
    clear hB HX1 HB1
    by_cases hlt : j < f.blocks.length
    · have hlt' : (j : Int) < f.blocks.length := by omega
      have hj0 : (0 : Int) ≤ j := by omega
      obtain ⟨y, hy⟩ : ∃ y, f.blocks[j]? = some y := ⟨_, List.getElem?_eq_getElem hlt⟩
      obtain ⟨g, o, ya, yc, rfl, hg, hc⟩ := (HF.out.below HB.out).blocks j y hy
      have hyi := (HS.out.i y (List.mem_of_getElem? hy)).1
      have HD : Hid (sizeN f = (n + (y.ins.length + 1)) + ((f.blocks.drop (j + 1)).map fun x => x.ins.length + 1).sum) := by
        show _ = _
        rw [HA.out, List.drop_eq_getElem_cons hlt, (List.getElem?_eq_some_iff.1 hy).2]
        simp
        omega
      have c0 := hc.c0
      have c1 := hc.c1
      have c2 := hc.c2
      have c3 := hc.c3
      have c4 := hc.c4
      have HW2 : Hid (Below w.heap.size w (wr.alloc (.cells (blC y ya yc) 52))) := HB.out.alloc HB.out.size _
      clear hy HA hc
      go_wp2
      go_roundw
      case rel => exact ⟨j + 1, n + (y.ins.length + 1), by go_num, by go_num, by omega, by omega, HD.out, HW2.out⟩
      case measure => simp [intOf]; omega
    · have e : j = f.blocks.length := by omega
      subst e
      go_wp2
      go_ret
      refine ⟨?_, HB.out⟩
      rw [HA.out]
      simp
end Go.Proofs.YthiipgahbmoiiaaGreatDoor
namespace Go.Proofs.YthiipgahbmoiiaaGreatDoor
open Go.RowKit

def farB (n : Int) : Bool := decide (n < 0) || decide (64 ≤ n)
set_option maxRecDepth 100000 in
theorem far_any (n : Int) (w : World) : Calls Tryz.prog 55 #[.int .i64 n] w fun e w' => e = .returned (.bool (farB n)) ∧ w = w' := by
  unfold farB
  by_cases h : n < 0
  · rw [decide_eq_true h]
    go_enter Tryz.func55, Tryz.ntmps55
    go_wp2
    go_ret
    exact ⟨rfl, rfl⟩
  · have hd : decide (n < 0) = false := decide_eq_false h
    rw [hd]
    by_cases h2 : 64 ≤ n
    · rw [decide_eq_true h2]
      go_enter Tryz.func55, Tryz.ntmps55
      go_wp2
      go_ret
      exact ⟨rfl, rfl⟩
    · rw [decide_eq_false h2]
      go_enter Tryz.func55, Tryz.ntmps55
      go_wp2
      go_ret
      exact ⟨rfl, rfl⟩
def farV : Value := .func (.func 55) #[] #[]
set_option maxRecDepth 100000 in
set_option maxHeartbeats 4000000 in
theorem indexFar_any (l : List Int) (a : Option Addr) (c : Nat) (w : World) (hI : IntsW w a l) (hl : l.length ≤ 1000000) :
    Calls Tryz.prog 103 #[.slice a l.length c, farV] w fun e w' => ∃ r : Int, (e = .returned (.int .i64 r) ∧ decide (0 ≤ r) = l.any farB) ∧ Below w.heap.size w w' := by
  have HI := Lib.hid hI
  unfold farV
  clear hI
  go_enter Tryz.func103, Tryz.ntmps103
  go_wp2
  go_loopw [8] (fun v wr => ∃ j : Nat, v = .int .i64 j ∧ j ≤ l.length ∧ Hid ((l.take j).any farB = false) ∧ Below w.heap.size w wr) (fun v _ => l.length - (intOf v).toNat)
  case atStart => exact ⟨0, rfl, by omega, by show List.any _ _ = _; simp, Below.refl _ _⟩
  case round =>
    obtain ⟨j, rfl, hj, HA, hB⟩ := hrel
    have HB := Lib.hid hB
    clear hB
    by_cases hlt : j < l.length
    · have hlt' : (j : Int) < l.length := by omega
      have hj0 : (0 : Int) ≤ j := by omega
      obtain ⟨x, hx⟩ : ∃ x, l[j]? = some x := ⟨_, List.getElem?_eq_getElem hlt⟩
      obtain ⟨g, o, rfl, hg, hc⟩ := (HI.out.below HB.out) j x hx
      have HX := Lib.hid hx
      have C := Lib.hid (far_any x wr)
      clear hx
      cases hf : farB x with
      | true =>
        have HT : Hid (l.any farB = true) := List.any_eq_true.2 ⟨x, List.mem_of_getElem? HX.out, hf⟩
        rw [hf] at C
        clear hf
        go_wp2_with fail
        refine C.out.mono ?_
        rintro e w1 ⟨rfl, rfl⟩
        go_wp2
        (try simp only [Exit.inBlock, Exit.then])
        go_ret
        exact ⟨(j : Int), ⟨rfl, by rw [HT.out]; exact decide_eq_true hj0⟩, HB.out⟩
      | false =>
        have HN : Hid ((l.take (j + 1)).any farB = false) := by
          show List.any _ _ = _
          rw [List.take_add_one, HX.out, List.any_append, HA.out]
          simp [hf]
        rw [hf] at C
        clear hf
        go_wp2_with fail
        refine C.out.mono ?_
        rintro e w1 ⟨rfl, rfl⟩
        go_wp2
        go_roundw
        case rel => exact ⟨j + 1, by go_num, by omega, HN.out, HB.out⟩
        case measure => simp [intOf]; omega
    · obtain rfl : j = l.length := by omega
      have HT : Hid (l.any farB = false) := by
        have := HA.out
        rw [List.take_of_length_le (Nat.le_refl _)] at this
        exact this
      go_wp2
      go_ret
      exact ⟨-1, ⟨rfl, by rw [HT.out]; rfl⟩, HB.out⟩
set_option maxRecDepth 100000 in
set_option maxHeartbeats 4000000 in
theorem containsFar_any (l : List Int) (a : Option Addr) (c : Nat) (w : World) (hI : IntsW w a l) (hl : l.length ≤ 1000000) :
    Calls Tryz.prog 58 #[.slice a l.length c, farV] w fun e w' => e = .returned (.bool (l.any farB)) ∧ Below w.heap.size w w' := by
  have C := Lib.hid (indexFar_any l a c w hI hl)
  unfold farV at C ⊢
  generalize l.any farB = q at C ⊢
  clear hI
  go_enter Tryz.func58, Tryz.ntmps58
  go_wp2_with fail
  refine C.out.mono ?_
  rintro e w1 ⟨r, ⟨rfl, hr⟩, hb⟩
  have HB := Lib.hid hb
  have HR := Lib.hid hr
  clear hb C hr
  go_wp2
  go_ret
  exact ⟨by rw [← HR.out]; rfl, HB.out⟩
def farsB (b : Bb) : Bool := (toL b.tm).any farB
theorem to_few (t : Tt) : (toL t).length ≤ 2 := by
  unfold toL
  repeat' split
  all_goals simp
def farsV (g : Nat) : Value := .func (.func 57) #[] #[.pointer (some ⟨g, 0, none⟩)]
set_option maxRecDepth 100000 in
set_option maxHeartbeats 4000000 in
theorem fars_any (y : Bb) (ya : Option Addr) (yc : Nat) (g : Nat) (w : World) (hg : w.cell? ⟨g, 0, none⟩ = some farV) (hgl : g < w.heap.size) :
    Calls Tryz.prog 57 #[blV y ya yc, .pointer (some ⟨g, 0, none⟩)] w fun e w' => e = .returned (.bool (farsB y)) ∧ Below w.heap.size w w' := by
  have HB0 : Hid (Below w.heap.size w (w.alloc (.cells (blC y ya yc) 52))) := (Below.refl _ w).alloc (Nat.le_refl _) _
  have HS : Hid (∀ W, Below (w.alloc (.cells (blC y ya yc) 52)).heap.size (w.alloc (.cells (blC y ya yc) 52)) W → Below (w.alloc (.cells (blC y ya yc) 52)).heap.size (w.alloc (.cells (blC y ya yc) 52)) W ∧ (W.cell? ⟨w.heap.size, 1, none⟩ = some (.int .i64 y.tm.kind) ∧ W.cell? ⟨w.heap.size, 2, none⟩ = some (.int .i64 y.tm.a) ∧ W.cell? ⟨w.heap.size, 3, none⟩ = some (.int .i64 y.tm.t0) ∧ W.cell? ⟨w.heap.size, 4, none⟩ = some (.int .i64 y.tm.t1)) ∧ W.cell? ⟨g, 0, none⟩ = some farV) := fun W hb => by
    obtain ⟨_, a1, a2, a3, a4⟩ := box5 ((Blk.new w 52 (blC y ya yc)).below hb (Blk.new w _ _).lt)
    exact ⟨hb, ⟨a1, a2, a3, a4⟩, ((HB0.out.trans (hb.mono HB0.out.size)).cell hgl).trans hg⟩
  have CT : Hid (∀ W, Below (w.alloc (.cells (blC y ya yc) 52)).heap.size (w.alloc (.cells (blC y ya yc) 52)) W → Calls Tryz.prog 59 #[termV y.tm] W fun e w' => ∃ a k, e = .returned (.slice a (toL y.tm).length k) ∧ Hid (IntsW w' a (toL y.tm)) ∧ Below (w.alloc (.cells (blC y ya yc) 52)).heap.size (w.alloc (.cells (blC y ya yc) 52)) w') := fun W hb =>
    (to_any y.tm W).mono fun e w' ⟨v, he, ho, h2⟩ => by
      obtain ⟨a, k, rfl, _, hi⟩ := OwnI.shape ho
      exact ⟨a, k, he, hi, hb.trans (h2.mono hb.size)⟩
  have CC : Hid (∀ (W W2 : World) (a : Option Addr) (k : Nat), IntsW W a (toL y.tm) → Below W.heap.size W W2 → Calls Tryz.prog 58 #[.slice a (toL y.tm).length k, farV] W2 fun e w' => e = .returned (.bool (farsB y)) ∧ Below W2.heap.size W2 w') := fun W W2 a k hi hb =>
    containsFar_any (toL y.tm) a k W2 (hi.below hb) (by have := to_few y.tm; omega)
  have SB := Lib.hid (blC.eq_1 y ya yc)
  rw [SB.out] at HB0 HS CT
  unfold blV
  rw [SB.out]
  unfold termV at CT
  generalize farsB y = res at *
  generalize toL y.tm = tl at *
  clear hg
  go_enter Tryz.func57, Tryz.ntmps57
  go_upto_region 1 with fail
  obtain ⟨A, hA⟩ : ∃ A, A = w.alloc (.cells #[.slice ya y.ins.length yc, .int .i64 y.tm.kind, .int .i64 y.tm.a, .int .i64 y.tm.t0, .int .i64 y.tm.t1] 52) := ⟨_, rfl⟩
  rw [← hA] at HB0 HS CT ⊢
  clear hA
  have hb0 : Below A.heap.size A A.drew := (Below.refl _ _).drew
  go_region_held3 (fun W => Below A.heap.size A W ∧ (W.cell? ⟨w.heap.size, 1, none⟩ = some (.int .i64 y.tm.kind) ∧ W.cell? ⟨w.heap.size, 2, none⟩ = some (.int .i64 y.tm.a) ∧ W.cell? ⟨w.heap.size, 3, none⟩ = some (.int .i64 y.tm.t0) ∧ W.cell? ⟨w.heap.size, 4, none⟩ = some (.int .i64 y.tm.t1)) ∧ W.cell? ⟨g, 0, none⟩ = some farV)
    (first | (refine HS.out _ ?_; (repeat (first | with_reducible apply Below.alloc | with_reducible apply Below.drew)); (first | exact Below.refl _ _ | assumption)))
    (first | (go_at_call 59; refine (CT.out _ (by go_split_ands; assumption)).mono ?_; rintro e w4 ⟨va, vk, rfl, hi4, hb4⟩) | (go_at_call 58; refine (CC.out _ _ _ _ hi4.out (Below.refl _ _)).mono ?_; rintro e w5 ⟨rfl, hb5⟩; have hb6 := (hb4.trans (hb5.mono hb4.size))))
  all_goals (
    go_wp2
    go_ret
    exact ⟨rfl, HB0.out.trans (hb6.mono HB0.out.size)⟩)
set_option maxRecDepth 100000 in
set_option maxHeartbeats 4000000 in
theorem indexFars_any (l : List Bb) (a : Option Addr) (c g : Nat) (w : World) (hI : BlsW w a l) (hl : l.length ≤ 1000000) (hg : w.cell? ⟨g, 0, none⟩ = some farV) (hgl : g < w.heap.size) :
    Calls Tryz.prog 102 #[.slice a l.length c, farsV g] w fun e w' => ∃ r : Int, (e = .returned (.int .i64 r) ∧ decide (0 ≤ r) = l.any farsB) ∧ Below w.heap.size w w' := by
  have HI := Lib.hid hI
  have HG := Lib.hid hg
  unfold farsV
  clear hI hg
  go_enter Tryz.func102, Tryz.ntmps102
  go_wp2
  go_loopw [8] (fun v wr => ∃ j : Nat, v = .int .i64 j ∧ j ≤ l.length ∧ Hid ((l.take j).any farsB = false) ∧ Below w.heap.size w wr) (fun v _ => l.length - (intOf v).toNat)
  case atStart => exact ⟨0, rfl, by omega, by show List.any _ _ = _; simp, Below.refl _ _⟩
  case round =>
    obtain ⟨j, rfl, hj, HA, hB⟩ := hrel
    have HB := Lib.hid hB
    clear hB
    by_cases hlt : j < l.length
    · have hlt' : (j : Int) < l.length := by omega
      have hj0 : (0 : Int) ≤ j := by omega
      obtain ⟨x, hx⟩ : ∃ x, l[j]? = some x := ⟨_, List.getElem?_eq_getElem hlt⟩
      obtain ⟨g9, o, xa, xc, rfl, hg9, hc⟩ := (HI.out.below HB.out) j x hx
      have HX := Lib.hid hx
      have C := Lib.hid (fars_any x xa xc g wr ((HB.out.cell hgl).trans HG.out) (Nat.lt_of_lt_of_le hgl HB.out.size))
      unfold blV blC at C
      have c0 := hc.c0
      have c1 := hc.c1
      have c2 := hc.c2
      have c3 := hc.c3
      have c4 := hc.c4
      clear hx hc
      cases hf : farsB x with
      | true =>
        have HT : Hid (l.any farsB = true) := List.any_eq_true.2 ⟨x, List.mem_of_getElem? HX.out, hf⟩
        rw [hf] at C
        clear hf
        go_wp2_with fail
        refine C.out.mono ?_
        rintro e w1 ⟨rfl, hb1⟩
        have HB1 : Hid (Below w.heap.size w w1) := HB.out.trans (hb1.mono HB.out.size)
        clear hb1 C c0 c1 c2 c3 c4 hg9
        go_wp2
        (try simp only [Exit.inBlock, Exit.then])
        go_ret
        exact ⟨(j : Int), ⟨rfl, by rw [HT.out]; exact decide_eq_true hj0⟩, HB1.out⟩
      | false =>
        have HN : Hid ((l.take (j + 1)).any farsB = false) := by
          show List.any _ _ = _
          rw [List.take_add_one, HX.out, List.any_append, HA.out]
          simp [hf]
        rw [hf] at C
        clear hf
        go_wp2_with fail
        refine C.out.mono ?_
        rintro e w1 ⟨rfl, hb1⟩
        have HB1 : Hid (Below w.heap.size w w1) := HB.out.trans (hb1.mono HB.out.size)
        clear hb1 C c0 c1 c2 c3 c4 hg9
        go_wp2
        go_roundw
        case rel => exact ⟨j + 1, by go_num, by omega, HN.out, HB1.out⟩
        case measure => simp [intOf]; omega
    · obtain rfl : j = l.length := by omega
      have HT : Hid (l.any farsB = false) := by
        have := HA.out
        rw [List.take_of_length_le (Nat.le_refl _)] at this
        exact this
      go_wp2
      go_ret
      exact ⟨-1, ⟨rfl, by rw [HT.out]; rfl⟩, HB.out⟩
set_option maxRecDepth 100000 in
set_option maxHeartbeats 4000000 in
theorem containsFars_any (l : List Bb) (a : Option Addr) (c g : Nat) (w : World) (hI : BlsW w a l) (hl : l.length ≤ 1000000) (hg : w.cell? ⟨g, 0, none⟩ = some farV) (hgl : g < w.heap.size) :
    Calls Tryz.prog 56 #[.slice a l.length c, farsV g] w fun e w' => e = .returned (.bool (l.any farsB)) ∧ Below w.heap.size w w' := by
  have C := Lib.hid (indexFars_any l a c g w hI hl hg hgl)
  unfold farsV at C ⊢
  generalize l.any farsB = q at C ⊢
  clear hI hg
  go_enter Tryz.func56, Tryz.ntmps56
  go_wp2_with fail
  refine C.out.mono ?_
  rintro e w1 ⟨r, ⟨rfl, hr⟩, hb⟩
  have HB := Lib.hid hb
  have HR := Lib.hid hr
  clear hb C hr
  go_wp2
  go_ret
  exact ⟨by rw [← HR.out]; rfl, HB.out⟩
/-- Whether a function has a text. -/
def canF (f : Ff) : Bool := !(decide (64 < f.blocks.length) || decide (sizeN f = 0)) && !(f.blocks.any farsB)
set_option maxRecDepth 100000 in
set_option maxHeartbeats 4000000 in
theorem canF_any (f : Ff) (pa : Option Addr) (pc : Nat) (ba : Option Addr) (bc : Nat) (w : World) (hS : SmallF f) (hF : FnW w f pa pc ba bc) :
    Calls Tryz.prog 23 #[fnV f pa pc ba bc] w fun e w' => e = .returned (.bool (canF f)) ∧ Below w.heap.size w w' := by
  have hb := hS.b
  have HE := Lib.hid (canF.eq_1 f)
  have HF := Lib.hid hF
  have HX0 : Hid (Blk (w.alloc (.cells (fnC f pa pc ba bc) 25)) w.heap.size 25 (fnC f pa pc ba bc)) := Blk.new w _ _
  have HW0 : Hid (Below w.heap.size w (w.alloc (.cells (fnC f pa pc ba bc) 25))) := (Below.refl _ w).alloc (Nat.le_refl _) _
  have HC := Lib.hid (size_any' f pa pc ba bc (w.alloc (.cells (fnC f pa pc ba bc) 25)) hS (hF.below HW0.out))
  have SX := Lib.hid (fnC.eq_1 f pa pc ba bc)
  unfold fnV at HC
  rw [SX.out] at HC HX0 HW0
  unfold fnV
  rw [SX.out]
  clear hS hF SX
  by_cases h64 : 64 < f.blocks.length
  · have hd : decide (64 < f.blocks.length) = true := decide_eq_true h64
    rw [hd] at HE
    have h64' : (64 : Int) < f.blocks.length := by omega
    have HQ : Hid (canF f = false) := by rw [Hid, HE.out]; rfl
    rw [HQ.out]
    clear hd
    go_enter Tryz.func23, Tryz.ntmps23
    go_wp2
    go_ret
    exact ⟨rfl, HW0.out⟩
  have hd : decide (64 < f.blocks.length) = false := decide_eq_false h64
  rw [hd] at HE
  have h64' : ¬ (64 : Int) < f.blocks.length := by omega
  clear hd
  by_cases hz : sizeN f = 0
  · have hd : decide (sizeN f = 0) = true := decide_eq_true hz
    rw [hd] at HE
    have HQ : Hid (canF f = false) := by rw [Hid, HE.out]; rfl
    rw [HQ.out]
    rw [hz] at HC
    clear hd hz
    go_enter Tryz.func23, Tryz.ntmps23
    go_wp2_with fail
    refine HC.out.mono ?_
    rintro e w1 ⟨rfl, hb1⟩
    have HB1 : Hid (Below w.heap.size w w1) := HW0.out.trans (hb1.mono HW0.out.size)
    clear hb1 HC
    go_wp2
    go_ret
    exact ⟨rfl, HB1.out⟩
  have hd : decide (sizeN f = 0) = false := decide_eq_false hz
  rw [hd] at HE
  have hzz : ¬ (sizeN f : Int) = 0 := by omega
  have hzb : ((sizeN f : Int) == 0) = false := by simpa using hz
  clear hd hz
  generalize sizeN f = sz at *
  have HG : Hid (canF f = !(f.blocks.any farsB)) := by rw [Hid, HE.out]; rfl
  go_enter Tryz.func23, Tryz.ntmps23
  go_wp2_with fail
  refine HC.out.mono ?_
  rintro e w1 ⟨rfl, hb1⟩
  have HB1 : Hid (Below w.heap.size w w1) := HW0.out.trans (hb1.mono HW0.out.size)
  have HX1 := Lib.hid (HX0.out.below hb1 HX0.out.lt)
  have HB2 : Hid (Below w.heap.size w (w1.alloc (.cells #[farV] 87))) := HB1.out.alloc HB1.out.size _
  have C := Lib.hid (containsFars_any f.blocks ba bc w1.heap.size (w1.alloc (.cells #[farV] 87)) (HF.out.blocks.below HB2.out) hb ((Blk.new w1 87 #[farV]).cell 0) (by simp))
  have x1 : w1.cell? ⟨w.heap.size, 1, none⟩ = some (.slice ba f.blocks.length bc) := HX1.out.cell 1
  have hxl := HX1.out.lt
  unfold farV farsV at C
  unfold farV at HB2
  clear hb1 HC HX0 HX1 HB1 HW0
  generalize f.blocks.any farsB = q at *
  go_wp2_with fail
  refine C.out.mono ?_
  rintro e w2 ⟨rfl, hb2⟩
  have HB3 : Hid (Below w.heap.size w w2) := HB2.out.trans (hb2.mono HB2.out.size)
  clear hb2 C x1 hxl
  go_wp2
  go_ret
  exact ⟨by rw [HG.out]; rfl, HB3.out⟩
end Go.Proofs.YthiipgahbmoiiaaGreatDoor
