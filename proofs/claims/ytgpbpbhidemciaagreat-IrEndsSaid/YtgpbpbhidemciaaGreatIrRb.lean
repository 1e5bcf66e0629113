/-
  The document's Size and Most. No condition beyond those that each theorem states.
-/
import Derived.Test.YtgpbpbhidemciaaGreatIrU
import Derived.Test.YtgpbpbhidemciaaGreatIrPb
import Derived.Test.YtgpbpbhidemciaaGreatKSame
import Derived.Deep.QuietTactic
import Derived.BigQuiet
import Derived.Test.YtgpbpbhidemciaaGreatIrPc
import Derived.Test.YtgpbpbhidemciaaGreatIrSz
namespace Go.Proofs.YtgpbpbhidemciaaGreat
open Go.RowKit

set_option maxHeartbeats 1000000 in
set_option maxRecDepth 100000 in
theorem rlong_any (f : Ff) (pa : Option Addr) (pc : Nat) (ba : Option Addr) (bc : Nat) (w : World) (hS : SmallF f) (hF : FnW w f pa pc ba bc) :
    Calls Tryz.prog 53 #[fnV f pa pc ba bc] w fun e w' => e = .returned (.bool (isLongB f)) ∧ Below w.heap.size w w' := by
  have HF := Lib.hid hF
  have HS := Lib.hid hS
  have hp := hS.p
  have hb := hS.b
  have HE := Lib.hid (isLongB.eq_1 f)
  have HX0 : Hid (Blk (w.alloc (.cells (fnC f pa pc ba bc) 37)) w.heap.size 37 (fnC f pa pc ba bc)) := Blk.new w _ _
  have HW0 : Hid (Below w.heap.size w (w.alloc (.cells (fnC f pa pc ba bc) 37))) := (Below.refl _ w).alloc (Nat.le_refl _) _
  clear hF hS
  unfold fnV fnC
  go_enter Tryz.func53, Tryz.ntmps53
  by_cases h0 : f.blocks.length = 0
  · have q0 : (f.blocks.length : Int) < 1 := by omega
    have e0 : (f.blocks.length == 0) = true := by simp [h0]
    rw [e0] at HE
    clear h0 e0
    go_wp2
    go_ret
    exact ⟨by rw [HE.out]; simp, HW0.out⟩
  have q0 : ¬ (f.blocks.length : Int) < 1 := by omega
  have e0 : (f.blocks.length == 0) = false := by simp [h0]
  rw [e0] at HE
  clear e0
  by_cases h1 : 200 < f.blocks.length
  · have q1 : (200 : Int) < f.blocks.length := by omega
    rw [decide_eq_true h1] at HE
    go_wp2
    go_ret
    exact ⟨by rw [HE.out]; simp, HW0.out⟩
  have q1 : ¬ (200 : Int) < f.blocks.length := by omega
  have e1 : decide (200 < f.blocks.length) = false := by simpa using h1
  rw [e1] at HE
  clear e1
  by_cases h2 : 8 < f.params.length
  · have q2 : (8 : Int) < f.params.length := by omega
    rw [decide_eq_true h2] at HE
    go_wp2
    go_ret
    exact ⟨by rw [HE.out]; simp, HW0.out⟩
  have q2 : ¬ (8 : Int) < f.params.length := by omega
  have e2 : decide (8 < f.params.length) = false := by simpa using h2
  rw [e2] at HE
  clear e2
  go_wp2
  go_loopw [3] (fun k wr => ∃ j : Nat, k = .int .i64 j ∧ j ≤ f.blocks.length ∧ Hid (isLongB f = ((f.blocks.drop j).any fun b => decide (64 < b.ins.length))) ∧ Blk wr w.heap.size 37 (fnC f pa pc ba bc) ∧ Below w.heap.size w wr) (fun k _ => f.blocks.length - (intOf k).toNat)
  case atStart => exact ⟨0, rfl, Nat.zero_le _, by have := HE.out; simpa [Hid] using this, HX0.out, HW0.out⟩
  case round =>
    obtain ⟨j, rfl, hj, HA, hX, hB⟩ := hrel
    have HX := Lib.hid hX
    have HB := Lib.hid hB
    clear hX hB HX0 HW0 HE
    obtain ⟨x0, x1⟩ := box2 HX.out
    by_cases hlt : j < f.blocks.length
    · have hlt' : (j : Int) < f.blocks.length := by omega
      have hj0 : (0 : Int) ≤ j := by omega
      obtain ⟨y, hy⟩ : ∃ y, f.blocks[j]? = some y := ⟨_, List.getElem?_eq_getElem hlt⟩
      obtain ⟨g, o, ya, yc, rfl, hg, hc⟩ := (HF.out.below HB.out).blocks j y hy
      have hyi := (HS.out.i y (List.mem_of_getElem? hy)).1
      have HD : Hid (isLongB f = (decide (64 < y.ins.length) || ((f.blocks.drop (j + 1)).any fun b => decide (64 < b.ins.length)))) := by
        show _ = _
        rw [HA.out, List.drop_eq_getElem_cons hlt, (List.getElem?_eq_some_iff.1 hy).2]
        rfl
      have c0 := hc.c0
      clear hy HA hc
      by_cases h64 : 64 < y.ins.length
      · have q64 : (64 : Int) < y.ins.length := by omega
        rw [decide_eq_true h64] at HD
        go_wp2
        go_ret
        exact ⟨by rw [HD.out]; simp, HB.out⟩
      · have q64 : ¬ (64 : Int) < y.ins.length := by omega
        have e64 : decide (64 < y.ins.length) = false := by simpa using h64
        rw [e64] at HD
        go_wp2
        go_roundw
        case rel => exact ⟨j + 1, by go_num, by omega, by have := HD.out; simpa [Hid] using this, HX.out, HB.out⟩
        case measure => simp [intOf]; omega
    · have e : j = f.blocks.length := by omega
      subst e
      have hlt' : ¬ (f.blocks.length : Int) < f.blocks.length := by omega
      go_wp2
      go_ret
      refine ⟨?_, HB.out⟩
      rw [HA.out]
      simp
theorem params_false {seen l : List Int} {v : Int} (h : varB v = false) : paramsB seen (v :: l) = false := by simp [paramsB, h]
theorem params_seen {seen l : List Int} {v : Int} (h : seen.contains v = true) : paramsB seen (v :: l) = false := by simp [paramsB, List.contains_iff_mem.1 h]
theorem params_next {seen l : List Int} {v : Int} (h : varB v = true) (h2 : seen.contains v = false) : paramsB seen (v :: l) = paramsB (v :: seen) l := by
  rw [paramsB, h, h2]
  simp
set_option maxHeartbeats 4000000 in
set_option maxRecDepth 100000 in
theorem rshaped_any (f : Ff) (pa : Option Addr) (pc : Nat) (ba : Option Addr) (bc : Nat) (w : World) (hS : SmallF f) (hF : FnW w f pa pc ba bc) :
    Calls Tryz.prog 54 #[fnV f pa pc ba bc] w fun e w' => e = .returned (.bool (shapedB f)) ∧ Below w.heap.size w w' := by
  have HF := Lib.hid hF
  have HS := Lib.hid hS
  have hp := hS.p
  have hb := hS.b
  have HX0 : Hid (Blk (w.alloc (.cells (fnC f pa pc ba bc) 37)) w.heap.size 37 (fnC f pa pc ba bc)) := Blk.new w _ _
  have HW0 : Hid (Below w.heap.size w (w.alloc (.cells (fnC f pa pc ba bc) 37))) := (Below.refl _ w).alloc (Nat.le_refl _) _
  clear hF hS
  unfold fnV fnC
  go_enter Tryz.func54, Tryz.ntmps54
  go_wp2
  go_loopw [3] (fun k wr => ∃ j : Nat, k = .int .i64 j ∧ j ≤ f.params.length ∧ Hid (paramsB [] f.params = paramsB (f.params.take j).reverse (f.params.drop j)) ∧ Blk wr w.heap.size 37 (fnC f pa pc ba bc) ∧ Below w.heap.size w wr) (fun k _ => f.params.length - (intOf k).toNat)
  case atStart => exact ⟨0, rfl, Nat.zero_le _, rfl, HX0.out, HW0.out⟩
  case round =>
    obtain ⟨j, rfl, hj, HA, hX, hB⟩ := hrel
    clear HX0 HW0
    have HX := Lib.hid hX
    have HB := Lib.hid hB
    clear hX hB
    obtain ⟨x0, x1⟩ := box2 HX.out
    by_cases hlt : j < f.params.length
    · have hlt' : (j : Int) < f.params.length := by omega
      have hj0 : (0 : Int) ≤ j := by omega
      obtain ⟨y, hy⟩ : ∃ y, f.params[j]? = some y := ⟨_, List.getElem?_eq_getElem hlt⟩
      obtain ⟨g, o, rfl, hg, c0⟩ := (HF.out.below HB.out).params j y hy
      have HD : Hid (paramsB [] f.params = paramsB (f.params.take j).reverse (y :: f.params.drop (j + 1))) := by
        show _ = _
        rw [HA.out, List.drop_eq_getElem_cons hlt, (List.getElem?_eq_some_iff.1 hy).2]
      have HT : Hid ((f.params.take (j + 1)).reverse = y :: (f.params.take j).reverse) := by
        show _ = _
        rw [List.take_add_one, hy]
        simp
      have HY := Lib.hid hy
      clear hy HA
      go_wp2_with fail
      refine (rvar_any y wr).mono ?_
      rintro e w1 ⟨rfl, rfl⟩
      cases hv : varB y
      · go_wp2
        go_ret
        refine ⟨?_, HB.out⟩
        unfold shapedB
        rw [HD.out, params_false hv]
        rfl
      · go_wp2
        go_loopw [4] (fun k w2 => ∃ i : Nat, k = .int .i64 i ∧ i ≤ j ∧ Hid ((f.params.take i).contains y = false) ∧ Blk w2 w.heap.size 37 (fnC f (some ⟨g, o, none⟩) pc ba bc) ∧ Below w.heap.size w w2) (fun k _ => j - (intOf k).toNat)
        case atStart => exact ⟨0, rfl, Nat.zero_le _, by simp [Hid], HX.out, HB.out⟩
        case round =>
          obtain ⟨i, rfl, hi, HC, hX, hB⟩ := hrel
          clear HX HB x0 x1 c0
          have HX := Lib.hid hX
          have HB := Lib.hid hB
          clear hX hB
          obtain ⟨x0, x1⟩ := box2 HX.out
          by_cases hi2 : i < j
          · have hi3 : (i : Int) < j := by omega
            have hi4 : (i : Int) < f.params.length := by omega
            have hi0 : (0 : Int) ≤ i := by omega
            obtain ⟨z, hz⟩ : ∃ z, f.params[i]? = some z := ⟨_, List.getElem?_eq_getElem (by omega)⟩
            obtain ⟨g1, o1, he1, _, c1⟩ := (HF.out.below HB.out).params i z hz
            obtain ⟨g2, o2, he2, _, c0⟩ := (HF.out.below HB.out).params j y HY.out
            injection he1 with he1
            injection he1 with he1 he3
            injection he2 with he2
            injection he2 with he2 he4
            subst he1 he3 he2 he4
            by_cases hzy : z = y
            · have HCT : Hid ((f.params.take j).reverse.contains y = true) := by
                show _ = _
                rw [List.contains_iff_mem, List.mem_reverse]
                exact List.mem_of_getElem? (i := i) (by rw [List.getElem?_take_of_lt hi2, hz, hzy])
              have q : (z == y) = true := by simp [hzy]
              clear hz hzy HC
              go_wp2_with fail
              go_quiet (fail)
              go_wp2
              go_ret
              refine ⟨?_, below_drewN HB.out _⟩
              unfold shapedB
              rw [HD.out, params_seen HCT.out]
              rfl
            · have HC2 : Hid ((f.params.take (i + 1)).contains y = false) := by
                show _ = _
                have h1 := HC.out
                rw [← Bool.not_eq_true, List.contains_iff_mem] at h1 ⊢
                rw [List.take_add_one, hz]
                simp only [Option.toList, List.mem_append, List.mem_singleton, not_or]
                exact ⟨h1, fun e => hzy e.symm⟩
              have q : (z == y) = false := by simp [hzy]
              clear hz hzy HC
              go_wp2_with fail
              go_quiet (fail)
              go_wp2
              go_roundw
              case rel => exact ⟨i + 1, by go_num, by omega, HC2, HX.out.drewN _, below_drewN HB.out _⟩
              case measure => simp [intOf]; omega
          · have e : i = j := by omega
            subst e
            have hi3 : ¬ (i : Int) < i := by omega
            have HN : Hid (paramsB [] f.params = paramsB (f.params.take (i + 1)).reverse (f.params.drop (i + 1))) := by
              show _ = _
              rw [HD.out, HT.out]
              refine params_next hv ?_
              have h1 := HC.out
              rw [← Bool.not_eq_true, List.contains_iff_mem] at h1 ⊢
              rw [List.mem_reverse]
              exact h1
            go_wp2
            go_roundw
            case rel => exact ⟨i + 1, by go_num, by omega, HN, HX.out, HB.out⟩
            case measure => simp [intOf]; omega
    · have e : j = f.params.length := by omega
      subst e
      have hlt' : ¬ (f.params.length : Int) < f.params.length := by omega
      have HP : Hid (shapedB f = f.blocks.all isBlockB) := by
        show _ = _
        unfold shapedB
        rw [HA.out, List.drop_length]
        simp [paramsB]
      clear HA
      go_wp2
      go_loopw [5] (fun k wr => ∃ j : Nat, k = .int .i64 j ∧ j ≤ f.blocks.length ∧ Hid (shapedB f = (f.blocks.drop j).all isBlockB) ∧ Blk wr w.heap.size 37 (fnC f pa pc ba bc) ∧ Below w.heap.size w wr) (fun k _ => f.blocks.length - (intOf k).toNat)
      case atStart => exact ⟨0, rfl, Nat.zero_le _, HP, HX.out, HB.out⟩
      case round =>
        obtain ⟨j, rfl, hj, HA, hX, hB⟩ := hrel
        clear HX HB x0 x1 HP
        have HX := Lib.hid hX
        have HB := Lib.hid hB
        clear hX hB
        obtain ⟨x0, x1⟩ := box2 HX.out
        by_cases hlt : j < f.blocks.length
        · have hlt' : (j : Int) < f.blocks.length := by omega
          have hj0 : (0 : Int) ≤ j := by omega
          obtain ⟨y, hy⟩ : ∃ y, f.blocks[j]? = some y := ⟨_, List.getElem?_eq_getElem hlt⟩
          obtain ⟨g, o, ya, yc, rfl, hg, hc⟩ := (HF.out.below HB.out).blocks j y hy
          have hyi := HS.out.i y (List.mem_of_getElem? hy)
          have HYI := Lib.hid hyi
          have hyl := hyi.1
          have HD : Hid (shapedB f = ((y.ins.all isInsB && isTermB y.tm) && (f.blocks.drop (j + 1)).all isBlockB)) := by
            show _ = _
            rw [HA.out, List.drop_eq_getElem_cons hlt, (List.getElem?_eq_some_iff.1 hy).2]
            rfl
          have HC := Lib.hid hc
          have HG := Lib.hid hg
          have c0 := hc.c0
          clear hy HA hc hg hyi
          obtain ⟨W1, rfl⟩ : ∃ W, W = wr := ⟨wr, rfl⟩
          go_wp2
          go_loopw [6] (fun k w2 => ∃ i : Nat, k = .int .i64 i ∧ i ≤ y.ins.length ∧ Hid (y.ins.all isInsB = (y.ins.drop i).all isInsB) ∧ Blk w2 w.heap.size 37 (fnC f pa pc (some ⟨g, o, none⟩) bc) ∧ Below W1.heap.size W1 w2) (fun k _ => y.ins.length - (intOf k).toNat)
          case atStart => exact ⟨0, rfl, Nat.zero_le _, rfl, HX.out, Below.refl _ _⟩
          case round =>
            obtain ⟨i, rfl, hi, HE, hX, hB2⟩ := hrel
            clear HX x0 x1 c0
            have HX := Lib.hid hX
            have HB2 := Lib.hid hB2
            clear hX hB2
            obtain ⟨x0, x1⟩ := box2 HX.out
            have HCC := Lib.hid (HC.out.below HG.out HB2.out)
            have c0 := HCC.out.c0
            by_cases hi2 : i < y.ins.length
            · have hi3 : (i : Int) < y.ins.length := by omega
              have hi0 : (0 : Int) ≤ i := by omega
              obtain ⟨z, hz⟩ : ∃ z, y.ins[i]? = some z := ⟨_, List.getElem?_eq_getElem hi2⟩
              obtain ⟨g1, o1, za, zc, he1, hg1, hz1⟩ := HCC.out.ins i z hz
              subst he1
              have HZL := HYI.out.2 z (List.mem_of_getElem? hz)
              have HRI := Lib.hid (risIns_any z za zc wr (by omega) hz1.args)
              unfold insV at HRI
              have HD2 : Hid (y.ins.all isInsB = (isInsB z && (y.ins.drop (i + 1)).all isInsB)) := by
                show _ = _
                rw [HE.out, List.drop_eq_getElem_cons hi2, (List.getElem?_eq_some_iff.1 hz).2]
                rfl
              have d0 := hz1.c0
              have d1 := hz1.c1
              have d2 := hz1.c2
              have d3 := hz1.c3
              have d4 := hz1.c4
              have d5 := hz1.c5
              have d6 := hz1.c6
              have d7 := hz1.c7
              clear hz hz1 HE
              go_wp2_with fail
              refine HRI.out.mono ?_
              rintro e w3 ⟨rfl, hb3⟩
              have HX3 := Lib.hid (HX.out.below hb3 HX.out.lt)
              have HB3 : Hid (Below W1.heap.size W1 w3) := Lib.hid (HB2.out.trans (hb3.mono HB2.out.size))
              clear hb3 d0 d1 d2 d3 d4 d5 d6 d7 HRI
              cases hq : isInsB z
              · rw [hq] at HD2
                go_wp2
                go_ret
                refine ⟨?_, HB.out.trans (HB3.out.mono HB.out.size)⟩
                rw [HD.out, HD2.out]
                simp
              · rw [hq] at HD2
                go_wp2
                go_roundw
                case rel => exact ⟨i + 1, by go_num, by omega, by have := HD2.out; simpa [Hid] using this, HX3.out, HB3.out⟩
                case measure => simp [intOf]; omega
            · have e : i = y.ins.length := by omega
              subst e
              have hi3 : ¬ (y.ins.length : Int) < y.ins.length := by omega
              have HI9 : Hid (y.ins.all isInsB = true) := by
                show _ = _
                rw [HE.out, List.drop_length]
                rfl
              have c1 := HCC.out.c1
              have c2 := HCC.out.c2
              have c3 := HCC.out.c3
              have c4 := HCC.out.c4
              have HRT := Lib.hid (risTerm_any y.tm wr)
              unfold termV at HRT
              clear HE
              go_wp2_with fail
              refine HRT.out.mono ?_
              rintro e w3 ⟨rfl, hb3⟩
              have HX3 := Lib.hid (HX.out.below hb3 HX.out.lt)
              have HB3 : Hid (Below w.heap.size w w3) := Lib.hid ((HB.out.trans (HB2.out.mono HB.out.size)).trans (hb3.mono (Nat.le_trans HB.out.size HB2.out.size)))
              clear hb3 HRT c1 c2 c3 c4
              cases hq : isTermB y.tm
              · go_wp2
                go_ret
                refine ⟨?_, HB3.out⟩
                rw [HD.out, hq]
                simp
              · go_wp2
                go_roundw
                case rel => exact ⟨j + 1, by go_num, by omega, by have := HD.out; rw [hq, HI9.out] at this; simpa [Hid] using this, HX3.out, HB3.out⟩
                case measure => simp [intOf]; omega
        · have e : j = f.blocks.length := by omega
          subst e
          have hlt' : ¬ (f.blocks.length : Int) < f.blocks.length := by omega
          go_wp2
          go_ret
          refine ⟨?_, HB.out⟩
          rw [HA.out, List.drop_length]
          rfl
end Go.Proofs.YtgpbpbhidemciaaGreat
namespace Go.Proofs.YtgpbpbhidemciaaGreat
open Go.RowKit

theorem shape_is (f : Ff) : shapeN f = 0 ↔ isLongB f = false ∧ shapedB f = true := by
  unfold shapeN
  cases isLongB f <;> cases shapedB f <;> simp
theorem shaped_ins {f : Ff} (h : shapeN f = 0) {x : Bb} (hx : x ∈ f.blocks) : (∀ i ∈ x.ins, isInsB i = true) ∧ isTermB x.tm = true := by
  have h2 := ((shape_is f).1 h).2
  unfold shapedB at h2
  rw [Bool.and_eq_true, List.all_eq_true] at h2
  have h3 := h2.2 x hx
  unfold isBlockB at h3
  rw [Bool.and_eq_true, List.all_eq_true] at h3
  exact h3
theorem shape_few {f : Ff} (h : shapeN f = 0) : f.blocks.length ≤ 200 ∧ f.params.length ≤ 8 ∧ ∀ x ∈ f.blocks, x.ins.length ≤ 64 := by
  have h2 := ((shape_is f).1 h).1
  unfold isLongB at h2
  simp only [Bool.or_eq_false_iff, decide_eq_false_iff_not, List.any_eq_false, decide_eq_true_eq] at h2
  exact ⟨by omega, by omega, fun x hx => by have := h2.2 x hx; omega⟩
set_option maxHeartbeats 2000000 in
set_option maxRecDepth 100000 in
theorem rsize_any (f : Ff) (pa : Option Addr) (pc : Nat) (ba : Option Addr) (bc : Nat) (w : World) (hS : SmallF f) (hF : FnW w f pa pc ba bc) :
    Calls Tryz.prog 34 #[fnV f pa pc ba bc] w fun e w' => e = .returned (.int .i64 (sizeN f)) ∧ Below w.heap.size w w' := by
  have HF := Lib.hid hF
  have HS := Lib.hid hS
  have hb := hS.b
  have HX0 : Hid (Blk (w.alloc (.cells (fnC f pa pc ba bc) 37)) w.heap.size 37 (fnC f pa pc ba bc)) := Blk.new w _ _
  have HW0 : Hid (Below w.heap.size w (w.alloc (.cells (fnC f pa pc ba bc) 37))) := (Below.refl _ w).alloc (Nat.le_refl _) _
  have HC := Lib.hid (rlong_any f pa pc ba bc (w.alloc (.cells (fnC f pa pc ba bc) 37)) hS (hF.below HW0.out))
  clear hF hS
  unfold fnV fnC at HC
  unfold fnV fnC
  go_enter Tryz.func34, Tryz.ntmps34
  go_wp2_with fail
  refine HC.out.mono ?_
  rintro e w1 ⟨rfl, hb1⟩
  have HX1 : Hid (Blk w1 w.heap.size 37 (fnC f pa pc ba bc)) := HX0.out.below hb1 HX0.out.lt
  have HB1 : Hid (Below w.heap.size w w1) := HW0.out.trans (hb1.mono HW0.out.size)
  clear hb1 HC HX0 HW0
  obtain ⟨c0, c1⟩ := box2 HX1.out
  cases hlg : isLongB f
  case true =>
    have HE : Hid (sizeN f = 0) := Lib.hid (if_neg (fun h => by have := ((shape_is f).1 h).1; rw [hlg] at this; cases this))
    go_wp2
    go_ret
    exact ⟨by rw [HE.out]; rfl, HB1.out⟩
  have HC := Lib.hid (rshaped_any f pa pc ba bc w1 HS.out (HF.out.below HB1.out))
  unfold fnV fnC at HC
  go_wp2_with fail
  refine HC.out.mono ?_
  rintro e w2 ⟨rfl, hb1⟩
  have HX2 : Hid (Blk w2 w.heap.size 37 (fnC f pa pc ba bc)) := HX1.out.below hb1 HX1.out.lt
  have HB2 : Hid (Below w.heap.size w w2) := HB1.out.trans (hb1.mono HB1.out.size)
  clear hb1 HC HX1 HB1 c0 c1
  cases hsh : shapedB f
  case false =>
    have HE : Hid (sizeN f = 0) := Lib.hid (if_neg (fun h => by have := ((shape_is f).1 h).2; rw [hsh] at this; cases this))
    go_wp2
    go_ret
    exact ⟨by rw [HE.out]; rfl, HB2.out⟩
  have HE : Hid (sizeN f = (f.blocks.map fun x => x.ins.length + 1).sum) := Lib.hid (if_pos ((shape_is f).2 ⟨hlg, hsh⟩))
  clear hlg hsh
  go_wp2
  go_loopw [3, 4] (fun m k wr => ∃ j n : Nat, m = .int .i64 n ∧ k = .int .i64 j ∧ j ≤ f.blocks.length ∧ n ≤ j * 1000001 ∧ Hid (sizeN f = n + ((f.blocks.drop j).map fun x => x.ins.length + 1).sum) ∧ Blk wr w.heap.size 37 (fnC f pa pc ba bc) ∧ Below w.heap.size w wr) (fun _ k _ => f.blocks.length - (intOf k).toNat)
  case atStart => exact ⟨0, 0, rfl, rfl, Nat.zero_le _, Nat.zero_le _, by have := HE.out; simpa [Hid] using this, HX2.out, HB2.out⟩
  case round =>
    obtain ⟨j, n, rfl, rfl, hj, hn, HA, hX, hB⟩ := hrel
    clear HX2 HB2
    have HB := Lib.hid hB
    have HX := Lib.hid hX
    clear hB hX
    obtain ⟨x0, x1⟩ := box2 HX.out
    by_cases hlt : j < f.blocks.length
    · have hlt' : (j : Int) < f.blocks.length := by omega
      have hj0 : (0 : Int) ≤ j := by omega
      obtain ⟨y, hy⟩ : ∃ y, f.blocks[j]? = some y := ⟨_, List.getElem?_eq_getElem hlt⟩
      obtain ⟨g, o, ya, yc, rfl, hg, hc⟩ := (HF.out.below HB.out).blocks j y hy
      have hyi := (HS.out.i y (List.mem_of_getElem? hy)).1
      have HD : Hid (sizeN f = (n + (y.ins.length + 1)) + ((f.blocks.drop (j + 1)).map fun x => x.ins.length + 1).sum) := by
        show _ = _
        rw [HA.out, List.drop_eq_getElem_cons hlt, (List.getElem?_eq_some_iff.1 hy).2]
        simp
        omega
      have c0 := hc.c0
      clear hy HA hc
      go_wp2
      go_roundw
      case rel => exact ⟨j + 1, n + (y.ins.length + 1), by go_num, by go_num, by omega, by omega, HD.out, HX.out, HB.out⟩
      case measure => simp [intOf]; omega
    · have e : j = f.blocks.length := by omega
      subst e
      have hlt' : ¬ (f.blocks.length : Int) < f.blocks.length := by omega
      go_wp2
      go_ret
      refine ⟨?_, HB.out⟩
      rw [HA.out]
      simp
/-! The most operands, arguments. -/
def opsN (x : Ii) : Nat := (givenL [x.a, x.b]).length
def mostIO (n : Nat) (l : List Ii) : Nat := l.foldl (fun n i => max n (opsN i)) n
def mostIA (n : Nat) (l : List Ii) : Nat := l.foldl (fun n i => max n i.args.length) n
def mostBO (n : Nat) (l : List Bb) : Nat := l.foldl (fun n b => max (mostIO n b.ins) (givenL [b.tm.a]).length) n
def mostBA (n : Nat) (l : List Bb) : Nat := l.foldl (fun n b => mostIA n b.ins) n
def mostO (f : Ff) : Nat := if shapeN f = 0 then mostBO 0 f.blocks else 0
def mostA (f : Ff) : Nat := if shapeN f = 0 then mostBA f.params.length f.blocks else 0
theorem call_none {x : Ii} (h : isInsB x = true) (ho : x.op = 13) : opsN x = 0 := by
  unfold isInsB at h
  rw [if_pos ho] at h
  unfold isCallB at h
  simp only [Bool.and_eq_true, beq_iff_eq] at h
  obtain ⟨⟨⟨⟨_, ha⟩, hb⟩, _⟩, _⟩ := h
  simp [opsN, ha, hb, givenL]
theorem op_none {x : Ii} (h : isInsB x = true) (ho : ¬ x.op = 13) : x.args = [] ∧ (readsL x).length = opsN x := by
  have h0 := h
  unfold isInsB at h
  rw [if_neg ho] at h
  unfold isOpB at h
  simp only [Bool.and_eq_true] at h
  have h2 : x.args = [] := List.isEmpty_iff.1 h.1.2
  refine ⟨h2, ?_⟩
  unfold readsL opsN
  rw [if_pos h0, h2]
theorem args_few {x : Ii} (h : isInsB x = true) : x.args.length ≤ 8 := by
  by_cases ho : x.op = 13
  · unfold isInsB at h
    rw [if_pos ho] at h
    unfold isCallB at h
    simp only [Bool.and_eq_true, decide_eq_true_eq] at h
    exact h.1.1.1.1.1.2
  · rw [(op_none h ho).1]; simp
theorem ops_few (x : Ii) : opsN x ≤ 2 := List.length_filter_le _ _
theorem new_two' (w : World) (o : Obj) (t : TypeId) (cs : Array Value) : Blk ((w.alloc o).alloc (.cells cs t)) (w.heap.size + 1) t cs := by
  have h := Blk.new (w.alloc o) t cs
  have e : (w.alloc o).heap.size = w.heap.size + 1 := by simp
  rw [e] at h
  exact h
theorem rel_own2 {W : World} {l : List Int} {F : Nat} {A : Array Value} (h : Calls Tryz.prog F A W fun e w' => ∃ v, e = .returned v ∧ OwnI w' W.heap.size v l ∧ Below W.heap.size W w') :
    Calls Tryz.prog F A W fun e w' => ∃ v k, e = .returned (.slice v l.length k) ∧ Below W.heap.size W w' :=
  h.mono fun e w' ⟨v, he, ho, h2⟩ => by
    obtain ⟨a, c, rfl, _, _⟩ := OwnI.shape ho
    exact ⟨a, c, he, h2⟩
end Go.Proofs.YtgpbpbhidemciaaGreat
