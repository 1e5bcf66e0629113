/-
  The document's lacks. No condition beyond those that each theorem states.
-/
import Derived.Test.YtgpbpbhidemciaaGreatIrSb
namespace Go.Proofs.YtgpbpbhidemciaaGreat
open Go.RowKit

theorem set_more {o : List Bool} {j : Nat} (h : o.getD j false = true) (c : Nat) (x : Bool) : (o.set c (o.getD c false || x)).getD j false = true := by
  rw [set_getD]
  split
  · rename_i h1; rw [← h1.1, h]; rfl
  · exact h
def LackIs (f : Ff) (v : Int) (e : Ending) : Prop := ∃ q : Bool, e = .returned (.bool q) ∧ (q = true ↔ LacksV f v)
def BareIs (x : Bb) (v : Int) (bj : Bool) (i : Nat) (bv : Value) : Prop := ∃ b : Bool, bv = .bool b ∧ Hid (b = (bj && !decide (v ∈ (x.ins.take i).map (·.dst)))) ∧ Hid (bj = true → (bareIn v x.tm x.ins ↔ b = true ∧ bareIn v x.tm (x.ins.drop i)))
set_option maxHeartbeats 8000000 in
set_option maxRecDepth 100000 in
theorem rlacks_any (f : Ff) (v : Int) (pa : Option Addr) (pc : Nat) (ba : Option Addr) (bc : Nat) (w : World) (hsh : shapeN f = 0) (hgo : GoesF f) (hS : SmallF f) (hF : FnW w f pa pc ba bc) :
    Calls Tryz.prog 60 #[fnV f pa pc ba bc, .int .i64 v] w fun e w' => LackIs f v e ∧ Below w.heap.size w w' := by
  have HF := Lib.hid hF
  have HS := Lib.hid hS
  have HGO := Lib.hid hgo
  have hb := hS.b
  obtain ⟨hf1, hf2, hf3⟩ := shape_few hsh
  have hpos : 0 < f.blocks.length := (shape_parts hsh).1
  have hpos' : (0 : Int) < f.blocks.length := by omega
  have HSI : Hid (∀ x ∈ f.blocks, (∀ i ∈ x.ins, isInsB i = true) ∧ isTermB x.tm = true) := Lib.hid fun x hx => shaped_ins hsh hx
  have HX0 : Hid (Blk ((w.alloc (.cells (fnC f pa pc ba bc) 37)).alloc (.cells (truC (List.replicate f.blocks.length false)) 4)) w.heap.size 37 (fnC f pa pc ba bc)) := Lib.hid ((Blk.new w _ _).alloc _)
  have HT0 : Hid (Blk ((w.alloc (.cells (fnC f pa pc ba bc) 37)).alloc (.cells (truC (List.replicate f.blocks.length false)) 4)) (w.heap.size + 1) 4 (truC (List.replicate f.blocks.length false))) := Lib.hid (new_two' w _ _ _)
  have HB0 : Hid (Below w.heap.size w ((w.alloc (.cells (fnC f pa pc ba bc) 37)).alloc (.cells (truC (List.replicate f.blocks.length false)) 4))) := Lib.hid (((Below.refl _ w).alloc (Nat.le_refl _) _).alloc (by simp) _)
  have hmk := fun W => make_truths (n := f.blocks.length) hb W
  clear hF hS hsh hgo
  unfold fnV fnC
  go_enter Tryz.func60, Tryz.ntmps60
  go_upto_region 2 with fail
  change Code.wp _ _ _ _ ((w.alloc (.cells (fnC f pa pc ba bc) 37)).alloc (.cells (truC (List.replicate f.blocks.length false)) 4))
  generalize ((w.alloc (.cells (fnC f pa pc ba bc) 37)).alloc (.cells (truC (List.replicate f.blocks.length false)) 4)) = W0 at HX0 HT0 HB0 ⊢
  have hG0 : w.heap.size < w.heap.size + 1 := by omega
  generalize w.heap.size + 1 = G at HT0 hG0 ⊢
  have k0 := truC_at HT0.out (b := 0) (by simpa using hpos)
  have g0 := HT0.out.free 0
  have HT1 : Hid (Blk (W0.setCell ⟨G, 0, none⟩ (.bool true)) G 4 (truC ((List.replicate f.blocks.length false).set 0 true))) := by
    have h := HT0.out.put 0 (.bool true)
    rw [truC_set] at h
    exact Lib.hid h
  have HX1 : Hid (Blk (W0.setCell ⟨G, 0, none⟩ (.bool true)) w.heap.size 37 (fnC f pa pc ba bc)) := Lib.hid (HX0.out.far (p := ⟨G, 0, none⟩) (by show w.heap.size ≠ G; omega) _)
  have HB1 : Hid (Below w.heap.size w (W0.setCell ⟨G, 0, none⟩ (.bool true))) := Lib.hid (HB0.out.setCell (p := ⟨G, 0, none⟩) (by show w.heap.size ≤ G; omega) _)
  go_upto_region 3 with fail
  clear k0 g0 HT0 HX0 HB0 hmk
  generalize (W0.setCell ⟨G, 0, none⟩ (.bool true)) = W1 at HT1 HX1 HB1 ⊢
  go_wp2
  go_loopw [6] (fun k wr => ∃ (j : Nat), k = .int .i64 j ∧ j ≤ f.params.length ∧ Blk wr G 4 (truC ((List.replicate f.blocks.length false).set 0 (!decide (v ∈ f.params.take j)))) ∧ Blk wr w.heap.size 37 (fnC f pa pc ba bc) ∧ Below w.heap.size w wr) (fun k _ => f.params.length - (intOf k).toNat)
  case atStart => exact ⟨0, rfl, Nat.zero_le _, by simpa using HT1.out, HX1.out, HB1.out⟩
  case round =>
    obtain ⟨j, rfl, hj, hT, hX, hB⟩ := hrel
    clear HT1 HX1 HB1
    have HT := Lib.hid hT
    have HX := Lib.hid hX
    have HB := Lib.hid hB
    clear hT hX hB
    obtain ⟨x0, x1⟩ := box2 HX.out
    by_cases hlt : j < f.params.length
    · have hlt' : (j : Int) < f.params.length := by omega
      have hj0 : (0 : Int) ≤ j := by omega
      obtain ⟨z, hz⟩ : ∃ z, f.params[j]? = some z := ⟨_, List.getElem?_eq_getElem hlt⟩
      obtain ⟨g, o, rfl, hg, p0⟩ := (HF.out.below HB.out).params j z hz
      have k0 := truC_at HT.out (b := 0) (by simpa using hpos)
      have g0 := HT.out.free 0
      have hGs : G < wr.heap.size := HT.out.lt
      have HTK : Hid (decide (v ∈ f.params.take (j + 1)) = (decide (v ∈ f.params.take j) || (z == v))) := by
        show _ = _
        rw [List.take_add_one, hz, Bool.eq_iff_iff]
        simp only [Option.toList, List.mem_append, List.mem_singleton, decide_eq_true_eq, Bool.or_eq_true, beq_iff_eq]
        constructor
        · rintro (h | h)
          · exact .inl h
          · exact .inr h.symm
        · rintro (h | h)
          · exact .inl h
          · exact .inr h.symm
      clear hz
      by_cases hzv : z = v
      · have hq : (z == v) = true := by simp [hzv]
        rw [hq, Bool.or_true] at HTK
        have HTN : Hid (Blk (wr.setCell ⟨G, 0, none⟩ (.bool false)) G 4 (truC ((List.replicate f.blocks.length false).set 0 (!decide (v ∈ f.params.take (j + 1)))))) := by
          have h := HT.out.put 0 (.bool false)
          rw [truC_set, List.set_set] at h
          rw [HTK.out]
          exact Lib.hid h
        have HXN := Lib.hid (HX.out.far (p := ⟨G, 0, none⟩) (by show w.heap.size ≠ G; omega) (.bool false))
        have HBN := Lib.hid (HB.out.setCell (p := ⟨G, 0, none⟩) (by show w.heap.size ≤ G; omega) (.bool false))
        clear hzv
        go_wp2
        go_roundw
        case rel => exact ⟨j + 1, by go_num, by omega, HTN.out, HXN.out, HBN.out⟩
        case measure => simp [intOf]; omega
      · have hq : (z == v) = false := by simp [hzv]
        rw [hq, Bool.or_false] at HTK
        have HTN : Hid (Blk wr G 4 (truC ((List.replicate f.blocks.length false).set 0 (!decide (v ∈ f.params.take (j + 1)))))) := by
          rw [HTK.out]
          exact HT
        clear hzv
        go_wp2
        go_roundw
        case rel => exact ⟨j + 1, by go_num, by omega, HTN.out, HX.out, HB.out⟩
        case measure => simp [intOf]; omega
    · have e : j = f.params.length := by omega
      subst e
      rw [List.take_length] at HT
      have hlt' : ¬ (f.params.length : Int) < f.params.length := by omega
      clear hlt
      go_wp2
      clear x0 x1
      go_loopw [7] (fun k wr => ∃ (r : Nat) (o : List Bool), k = .int .i64 r ∧ r ≤ f.blocks.length ∧ Hid (InvV f v r o) ∧ Blk wr G 4 (truC o) ∧ Blk wr w.heap.size 37 (fnC f pa pc ba bc) ∧ Below w.heap.size w wr) (fun k _ => f.blocks.length - (intOf k).toNat)
      case atStart => exact ⟨0, _, rfl, Nat.zero_le _, InvV.start hpos, HT.out, HX.out, HB.out⟩
      case round =>
        obtain ⟨r, o, rfl, hr, HI, hT, hX, hB⟩ := hrel
        clear HT HX HB hj hlt'
        have HT := Lib.hid hT
        have HX := Lib.hid hX
        have HB := Lib.hid hB
        clear hT hX hB
        obtain ⟨x0, x1⟩ := box2 HX.out
        by_cases hlr : r < f.blocks.length
        · have hlr' : (r : Int) < f.blocks.length := by omega
          go_wp2
          go_loopw [8] (fun k wr => ∃ (j : Nat) (o2 : List Bool), k = .int .i64 j ∧ j ≤ f.blocks.length ∧ Hid (MidV f v r o j [] o2) ∧ Blk wr G 4 (truC o2) ∧ Blk wr w.heap.size 37 (fnC f pa pc ba bc) ∧ Below w.heap.size w wr) (fun k _ => f.blocks.length - (intOf k).toNat)
          case atStart => exact ⟨0, o, rfl, Nat.zero_le _, HI.out.mid, HT.out, HX.out, HB.out⟩
          case round =>
            obtain ⟨j, o2, rfl, hj, HM, hT, hX, hB⟩ := hrel
            clear HT HX HB x0 x1
            have HT := Lib.hid hT
            have HX := Lib.hid hX
            have HB := Lib.hid hB
            clear hT hX hB
            obtain ⟨x0, x1⟩ := box2 HX.out
            by_cases hlj : j < f.blocks.length
            · have hlj' : (j : Int) < f.blocks.length := by omega
              have hj0 : (0 : Int) ≤ j := by omega
              obtain ⟨x, hx⟩ : ∃ x, f.blocks[j]? = some x := ⟨_, List.getElem?_eq_getElem hlj⟩
              obtain ⟨g, oo, xa, xc, rfl, hg, hcw⟩ := HF.out.blocks j x hx
              have HXX := Lib.hid hx
              have HCW := Lib.hid hcw
              have HSX := Lib.hid (HSI.out x (List.mem_of_getElem? hx))
              have HGX := Lib.hid (HGO.out j x hx)
              have hxn := (HS.out.i x (List.mem_of_getElem? hx)).1
              have HXA := Lib.hid (HS.out.i x (List.mem_of_getElem? hx)).2
              have kj := truC_at HT.out (b := j) (by rw [HM.out.len]; omega)
              clear hx hcw
              generalize hbj : o2.getD j false = bj at kj
              go_wp2
              clear x0 x1 kj
              go_loopw [9, 10] (fun bv k wr => ∃ (i : Nat), BareIs x v bj i bv ∧ k = .int .i64 i ∧ i ≤ x.ins.length ∧ Blk wr G 4 (truC o2) ∧ Blk wr w.heap.size 37 (fnC f pa pc (some ⟨g, oo, none⟩) bc) ∧ Below w.heap.size w wr) (fun _ k _ => x.ins.length - (intOf k).toNat)
              case atStart => exact ⟨0, ⟨bj, rfl, by show _ = _; simp, fun h => by simp [h]⟩, rfl, Nat.zero_le _, HT.out, HX.out, HB.out⟩
              case round =>
                obtain ⟨i, ⟨b, rfl, HBE, HBI⟩, rfl, hi, hT, hX, hB⟩ := hrel
                clear HT HX HB
                have HT := Lib.hid hT
                have HX := Lib.hid hX
                have HB := Lib.hid hB
                clear hT hX hB
                obtain ⟨x0, x1⟩ := box2 HX.out
                have hcr := HCW.out.below hg HB.out
                have c0 := hcr.c0
                by_cases hli : i < x.ins.length
                · have hli' : (i : Int) < x.ins.length := by omega
                  have hi0 : (0 : Int) ≤ i := by omega
                  obtain ⟨y, hy⟩ : ∃ y, x.ins[i]? = some y := ⟨_, List.getElem?_eq_getElem hli⟩
                  obtain ⟨g2, o4, ya, yc, he2, hg2, hzw⟩ := HCW.out.ins i y hy
                  subst he2
                  have hz1 := hzw.below hg2 HB.out
                  have HAR := Lib.hid hzw.args
                  have hzn := hzw.nil
                  have HZL := HXA.out y (List.mem_of_getElem? hy)
                  have hyI := HSX.out.1 y (List.mem_of_getElem? hy)
                  have hdy : definesN y = y.dst := if_pos hyI
                  have hyr := reads_len' hyI
                  have HDR : Hid (x.ins.drop i = y :: x.ins.drop (i + 1)) := by
                    show _ = _
                    rw [List.drop_eq_getElem_cons hli, (List.getElem?_eq_some_iff.1 hy).2]
                  have HTK : Hid (decide (v ∈ (x.ins.take (i + 1)).map (·.dst)) = (decide (v ∈ (x.ins.take i).map (·.dst)) || (y.dst == v))) := by
                    show _ = _
                    rw [List.take_add_one, hy, Bool.eq_iff_iff]
                    simp only [Option.toList, List.map_append, List.map_cons, List.map_nil, List.mem_append, List.mem_singleton, decide_eq_true_eq, Bool.or_eq_true, beq_iff_eq]
                    constructor
                    · rintro (h | h)
                      · exact .inl h
                      · exact .inr h.symm
                    · rintro (h | h)
                      · exact .inl h
                      · exact .inr h.symm
                  have d0 := hz1.c0
                  have d1 := hz1.c1
                  have d2 := hz1.c2
                  have d3 := hz1.c3
                  have d4 := hz1.c4
                  have d5 := hz1.c5
                  have d6 := hz1.c6
                  have d7 := hz1.c7
                  have K1 : Hid (Blk (wr.alloc (.cells (insC y ya yc) 25)) wr.heap.size 25 (insC y ya yc)) := Lib.hid (Blk.new wr _ _)
                  have K2 : Hid (Blk (wr.alloc (.cells (insC y ya yc) 25)) w.heap.size 37 (fnC f pa pc (some ⟨g, oo, none⟩) bc)) := Lib.hid (HX.out.alloc _)
                  have K3 : Hid (Below w.heap.size w (wr.alloc (.cells (insC y ya yc) 25))) := Lib.hid (HB.out.alloc HB.out.size _)
                  have K4 : Hid (Blk (wr.alloc (.cells (insC y ya yc) 25)) G 4 (truC o2)) := Lib.hid (HT.out.alloc _)
                  clear hy hzw hz1
                  go_upto_region 19 with fail
                  clear d0 d1 d2 d3 d4 d5 d6 d7 c0 x0 x1 HT HX HB hcr
                  change Code.wp _ _ _ _ (wr.alloc (.cells (insC y ya yc) 25))
                  generalize (wr.alloc (.cells (insC y ya yc) 25)) = W2 at K1 K2 K3 K4 ⊢
                  generalize wr.heap.size = I0 at K1 ⊢
                  have CR := Lib.hid (rreads_any y ya yc W2 (by omega) hzn (HAR.out.below K3.out))
                  unfold insV at CR
                  obtain ⟨a0, a1, a2, a3, a4, a5, a6, a7⟩ := box8 K1.out
                  go_wp2_with fail
                  refine CR.out.mono ?_
                  rintro e w3 ⟨lv, rfl, ho, hb3⟩
                  obtain ⟨la, lc, rfl, _, hli3⟩ := OwnI.shape ho
                  have HLI := Lib.hid hli3
                  have K1 := Lib.hid (K1.out.below hb3 K1.out.lt)
                  have K2 := Lib.hid (K2.out.below hb3 K2.out.lt)
                  have K4 := Lib.hid (K4.out.below hb3 K4.out.lt)
                  have K3 : Hid (Below w.heap.size w w3) := Lib.hid (K3.out.trans (hb3.mono K3.out.size))
                  clear ho hb3 hli3 CR a0 a1 a2 a3 a4 a5 a6 a7
                  go_wp2
                  go_loopw [13] (fun k wr4 => ∃ (m : Nat), k = .int .i64 m ∧ m ≤ (readsL y).length ∧ Hid (b = true → v ∉ (readsL y).take m) ∧ Below w3.heap.size w3 wr4) (fun k _ => (readsL y).length - (intOf k).toNat)
                  case atStart => exact ⟨0, rfl, Nat.zero_le _, fun _ => by simp, Below.refl _ _⟩
                  case round =>
                    obtain ⟨m, rfl, hm, HNR, hB4⟩ := hrel
                    have HB4 := Lib.hid hB4
                    clear hB4
                    by_cases hlm : m < (readsL y).length
                    · have hlm' : (m : Int) < (readsL y).length := by omega
                      have hm0 : (0 : Int) ≤ m := by omega
                      obtain ⟨z, hz⟩ : ∃ z, (readsL y)[m]? = some z := ⟨_, List.getElem?_eq_getElem hlm⟩
                      obtain ⟨lg, lo, rfl, hlg, l0⟩ := (HLI.out.below HB4.out) m z hz
                      have HZM := Lib.hid (List.mem_of_getElem? hz)
                      have HTM : Hid ((readsL y).take (m + 1) = (readsL y).take m ++ [z]) := by
                        show _ = _
                        rw [List.take_add_one, hz]
                        rfl
                      clear hz
                      by_cases hzv : z = v
                      · have hq : (z == v) = true := by simp [hzv]
                        cases b
                        · have HN2 : Hid ((false : Bool) = true → v ∉ (readsL y).take (m + 1)) := Lib.hid fun h => by cases h
                          go_wp2
                          go_roundw
                          case rel => exact ⟨m + 1, by go_num, by omega, HN2.out, HB4.out⟩
                          case measure => simp [intOf]; omega
                        · have HL : Hid (LacksV f v) := by
                            have hbt : bj = true := by have := HBE.out; cases bj <;> simp at this ⊢
                            refine ⟨j, x, HXX.out, HM.out.sound j (by rw [hbj]; exact hbt), (HBI.out hbt).2 ⟨rfl, ?_⟩⟩
                            rw [HDR.out]
                            exact .inl (by rw [← hzv]; exact HZM.out)
                          go_wp2
                          go_ret
                          exact ⟨⟨true, rfl, fun _ => HL.out, fun _ => rfl⟩, K3.out.trans (HB4.out.mono K3.out.size)⟩
                      · have hq : (z == v) = false := by simp [hzv]
                        have HN2 : Hid (b = true → v ∉ (readsL y).take (m + 1)) := Lib.hid fun h hm2 => by
                          rw [HTM.out] at hm2
                          rcases List.mem_append.1 hm2 with hm2 | hm2
                          · exact HNR.out h hm2
                          · simp at hm2; exact hzv hm2.symm
                        go_wp2
                        go_roundw
                        case rel => exact ⟨m + 1, by go_num, by omega, HN2.out, HB4.out⟩
                        case measure => simp [intOf]; omega
                    · have e : m = (readsL y).length := by omega
                      subst e
                      rw [List.take_length] at HNR
                      have hlm' : ¬ ((readsL y).length : Int) < (readsL y).length := by omega
                      have K1 := Lib.hid (K1.out.below HB4.out K1.out.lt)
                      have K2 := Lib.hid (K2.out.below HB4.out K2.out.lt)
                      have K4 := Lib.hid (K4.out.below HB4.out K4.out.lt)
                      have K3 : Hid (Below w.heap.size w wr) := Lib.hid (K3.out.trans (HB4.out.mono K3.out.size))
                      clear HB4 HLI
                      cases b
                      · have HE2 : Hid (false = (bj && !decide (v ∈ (x.ins.take (i + 1)).map (·.dst)))) := by
                          show _ = _
                          rw [HTK.out]
                          have := HBE.out
                          revert this
                          cases bj <;> cases decide (v ∈ (x.ins.take i).map (·.dst)) <;> simp
                        have HI2 : Hid (bj = true → (bareIn v x.tm x.ins ↔ (false : Bool) = true ∧ bareIn v x.tm (x.ins.drop (i + 1)))) := Lib.hid fun h => by
                          rw [HBI.out h]
                          simp
                        go_wp2
                        go_roundw
                        case rel => exact ⟨i + 1, ⟨false, rfl, HE2, HI2⟩, by go_num, by omega, K4.out, K2.out, K3.out⟩
                        case measure => simp [intOf]; omega
                      · have CD := Lib.hid (rdefines_any y ya yc wr (by omega) (HAR.out.below K3.out))
                        unfold insV at CD
                        have HE2 : Hid ((!(y.dst == v)) = (bj && !decide (v ∈ (x.ins.take (i + 1)).map (·.dst)))) := by
                          show _ = _
                          rw [HTK.out]
                          have := HBE.out
                          revert this
                          cases bj <;> cases decide (v ∈ (x.ins.take i).map (·.dst)) <;> simp
                        have HI2 : Hid (bj = true → (bareIn v x.tm x.ins ↔ (!(y.dst == v)) = true ∧ bareIn v x.tm (x.ins.drop (i + 1)))) := Lib.hid fun h => by
                          rw [HBI.out h, HDR.out]
                          show (true = true ∧ (v ∈ readsL y ∨ (y.dst ≠ v ∧ _))) ↔ _
                          have h1 := HNR.out rfl
                          simp [h1]
                        rw [hdy] at CD
                        obtain ⟨a0, a1, a2, a3, a4, a5, a6, a7⟩ := box8 K1.out
                        go_wp2_with fail
                        refine CD.out.mono ?_
                        rintro e w5 ⟨rfl, hb5⟩
                        have K2 := Lib.hid (K2.out.below hb5 K2.out.lt)
                        have K4 := Lib.hid (K4.out.below hb5 K4.out.lt)
                        have K3 : Hid (Below w.heap.size w w5) := Lib.hid (K3.out.trans (hb5.mono K3.out.size))
                        clear hb5 CD a0 a1 a2 a3 a4 a5 a6 a7 K1
                        have hq : (y.dst != v) = !(y.dst == v) := rfl
                        go_wp2
                        go_roundw
                        case rel => exact ⟨i + 1, ⟨!(y.dst == v), rfl, HE2, HI2⟩, by go_num, by omega, K4.out, K2.out, K3.out⟩
                        case measure => simp [intOf]; omega
                · have e : i = x.ins.length := by omega
                  subst e
                  rw [List.drop_length] at HBI
                  rw [List.take_length] at HBE
                  have hli' : ¬ (x.ins.length : Int) < x.ins.length := by omega
                  have c1 := hcr.c1
                  have c2 := hcr.c2
                  have c3 := hcr.c3
                  have c4 := hcr.c4
                  have CN := Lib.hid (rneeds_any x.tm wr)
                  unfold termV at CN
                  clear hcr
                  go_wp2_with fail
                  refine CN.out.mono ?_
                  rintro e w3 ⟨lv, rfl, ho, hb3⟩
                  obtain ⟨la, lc, rfl, _, hli3⟩ := OwnI.shape ho
                  have HLI := Lib.hid hli3
                  have HT := Lib.hid (HT.out.below hb3 HT.out.lt)
                  have HX := Lib.hid (HX.out.below hb3 HX.out.lt)
                  have HB : Hid (Below w.heap.size w w3) := Lib.hid (HB.out.trans (hb3.mono HB.out.size))
                  have hnl := needs_len' x.tm
                  clear ho hb3 hli3 CN c0 c1 c2 c3 c4 x0 x1
                  have HNB : Hid (bj = true → (bareIn v x.tm x.ins ↔ b = true ∧ v ∈ needsL x.tm)) := HBI
                  clear HBI
                  have HZ : needsL x.tm = [] ∨ ∃ z, needsL x.tm = [z] := by
                    match hq : needsL x.tm, hnl with
                    | [], _ => exact .inl rfl
                    | [z], _ => exact .inr ⟨z, rfl⟩
                  have hcr := HCW.out.below hg HB.out
                  have c1 := hcr.c1
                  have c2 := hcr.c2
                  have c3 := hcr.c3
                  have c4 := hcr.c4
                  obtain ⟨x0, x1⟩ := box2 HX.out
                  have CT := Lib.hid (rto_any x.tm w3)
                  unfold termV at CT
                  have hGs : G < w3.heap.size := HT.out.lt
                  have HLEN := Lib.hid HM.out.len
                  have HKEEP : Hid (bj = true → o2.getD j false = true) := Lib.hid fun h => by rw [hbj]; exact h
                  have HMORE : Hid (o.getD j false = true → bj = true) := Lib.hid fun h => by rw [← hbj]; exact HM.out.more j h
                  have HLACK : Hid (b = true → bareIn v x.tm x.ins → LacksV f v) := Lib.hid fun hbt hin => by
                    have hbt : bj = true := by have := HBE.out; rw [hbt] at this; cases bj <;> simp at this ⊢
                    exact ⟨j, x, HXX.out, HM.out.sound j (by rw [hbj]; exact hbt), hin⟩
                  have HBT : Hid (b = true → bj = true ∧ v ∉ defsL x) := Lib.hid fun h => by
                    have h2 := HBE.out
                    rw [h] at h2
                    have h3 : bj = true := by cases bj <;> simp at h2 ⊢
                    rw [h3] at h2
                    refine ⟨h3, fun hm => ?_⟩
                    have : v ∈ x.ins.map (·.dst) := hm
                    simp at h2
                    obtain ⟨a, ha, he⟩ := List.mem_map.1 this
                    exact h2 a ha he
                  have HBF : Hid (bj = true → v ∉ defsL x → b = true) := Lib.hid fun h hm => by
                    have h2 := HBE.out
                    rw [h] at h2
                    rw [h2]
                    have : v ∉ x.ins.map (·.dst) := hm
                    simp only [Bool.true_and, Bool.not_eq_true', decide_eq_false_iff_not]
                    exact this
                  clear hcr hbj hnl HBE
                  rcases HZ with hz | ⟨z, hz⟩
                  · have HFIN : Hid (bj = true → ¬ bareIn v x.tm x.ins) := Lib.hid fun h hin => by
                      have := ((HNB.out h).1 hin).2
                      rw [hz] at this
                      cases this
                    have hgt : (needsL x.tm).length = 0 := by rw [hz]; rfl
                    have HZZ := Lib.hid hz
                    clear hz HLI
                    go_upto_region 29 with fail
                    go_wp2_with fail
                    refine CT.out.mono ?_
                    rintro e w4 ⟨tv, rfl, ho, hb4⟩
                    obtain ⟨ta, tc, rfl, _, _⟩ := OwnI.shape ho
                    have HO := Lib.hid ho
                    have HT := Lib.hid (HT.out.below hb4 HT.out.lt)
                    have HX := Lib.hid (HX.out.below hb4 HX.out.lt)
                    have HB : Hid (Below w.heap.size w w4) := Lib.hid (HB.out.trans (hb4.mono HB.out.size))
                    have hl3 := toL_few x.tm
                    clear ho hb4 CT c1 c2 c3 c4 x0 x1
                    generalize w3.heap.size = WB at HO hGs ⊢
                    go_wp2
                    go_loopw [16] (fun k wr3 => ∃ (i : Nat) (o3 : List Bool), k = .int .i64 i ∧ i ≤ (toL x.tm).length ∧ Hid (MidV f v r o j (((toL x.tm).take i).map Int.toNat) o3 ∧ (bj = true → o3.getD j false = true)) ∧ OwnI wr3 WB (.slice ta (toL x.tm).length tc) (toL x.tm) ∧ Blk wr3 G 4 (truC o3) ∧ Blk wr3 w.heap.size 37 (fnC f pa pc (some ⟨g, oo, none⟩) bc) ∧ Below w.heap.size w wr3) (fun k _ => (toL x.tm).length - (intOf k).toNat)
                    case atStart => exact ⟨0, o2, rfl, Nat.zero_le _, ⟨by simpa using HM.out, HKEEP.out⟩, HO.out, HT.out, HX.out, HB.out⟩
                    case round =>
                      obtain ⟨i2, o3, rfl, hi2, HM3, hO, hT, hX, hB⟩ := hrel
                      clear HO HT HX HB
                      have HO := Lib.hid hO
                      have HT := Lib.hid hT
                      have HX := Lib.hid hX
                      have HB := Lib.hid hB
                      clear hO hT hX hB
                      by_cases hl2 : i2 < (toL x.tm).length
                      · have hl2' : (i2 : Int) < (toL x.tm).length := by omega
                        have hi20 : (0 : Int) ≤ i2 := by omega
                        obtain ⟨z2, hz2⟩ : ∃ z, (toL x.tm)[i2]? = some z := ⟨_, List.getElem?_eq_getElem hl2⟩
                        obtain ⟨lg2, lo2, hle, hlg2, l2⟩ := (IntsW.own HO.out) i2 z2 hz2
                        subst hle
                        have HZM := Lib.hid (List.mem_of_getElem? hz2)
                        have HZT : Hid ((toL x.tm).take (i2 + 1) = (toL x.tm).take i2 ++ [z2]) := by
                          show _ = _
                          rw [List.take_add_one, hz2]
                          rfl
                        clear hz2
                        have hzr := HGX.out z2 HZM.out
                        obtain ⟨c, rfl⟩ := Int.eq_ofNat_of_zero_le (show 0 ≤ z2 by omega)
                        have hcl : c < f.blocks.length := by omega
                        have hcl' : (c : Int) < f.blocks.length := by omega
                        have hc0 : (0 : Int) ≤ c := by omega
                        have hlen := HM3.out.1.len
                        have kc := truC_at HT.out (b := c) (by omega)
                        have gc := HT.out.free c
                        have hGs2 : G < wr.heap.size := HT.out.lt
                        have HN := Lib.hid (HM3.out.1.step hlj hcl b (fun h => ⟨HM3.out.2 (HBT.out h).1, x, HXX.out, (HBT.out h).2, HZM.out⟩) (fun ⟨x', hx', hd, _⟩ h0 => HBF.out (HMORE.out h0) (by
                          have : x' = x := by have := HXX.out; rw [hx'] at this; exact Option.some.inj this
                          rw [← this]
                          exact hd)) stepV)
                        have HKN : Hid (bj = true → (o3.set c (o3.getD c false || b)).getD j false = true) := Lib.hid fun h => set_more (HM3.out.2 h) c b
                        have HTN : Hid (Blk (wr.setCell ⟨G, c, none⟩ (.bool (o3.getD c false || b))) G 4 (truC (o3.set c (o3.getD c false || b)))) := by
                          have h := HT.out.put c (.bool (o3.getD c false || b))
                          rw [truC_set] at h
                          exact Lib.hid h
                        have HD : Hid (((toL x.tm).take (i2 + 1)).map Int.toNat = ((toL x.tm).take i2).map Int.toNat ++ [c]) := by
                          show _ = _
                          rw [HZT.out, List.map_append]
                          rfl
                        rw [← HD.out] at HN
                        have HO4 := fun u => Lib.hid (own_putB (i := c) (u := u) HO.out hGs)
                        have HX4 := fun u => Lib.hid (HX.out.far (p := ⟨G, c, none⟩) (by show w.heap.size ≠ G; omega) u)
                        have HB4 := fun u => Lib.hid (HB.out.setCell (p := ⟨G, c, none⟩) (by show w.heap.size ≤ G; omega) u)
                        clear hlen hzr
                        generalize o3.getD c false = bc0 at kc HN HTN HKN
                        cases bc0
                        · go_wp2_with fail
                          go_region
                          all_goals
                            go_wp2
                            go_roundw
                            case rel => exact ⟨i2 + 1, _, by go_num, by omega, ⟨HN.out, HKN.out⟩, (HO4 _).out, HTN.out, (HX4 _).out, below_drewN (HB4 _).out 1⟩
                            case measure => simp [intOf]; omega
                        · go_wp2_with fail
                          go_region
                          all_goals
                            go_wp2
                            go_roundw
                            case rel => exact ⟨i2 + 1, _, by go_num, by omega, ⟨HN.out, HKN.out⟩, (HO4 _).out, HTN.out, (HX4 _).out, below_drewN (HB4 _).out 1⟩
                            case measure => simp [intOf]; omega
                      · have e : i2 = (toL x.tm).length := by omega
                        subst e
                        rw [List.take_length] at HM3
                        have hl2' : ¬ ((toL x.tm).length : Int) < (toL x.tm).length := by omega
                        have HN : Hid (MidV f v r o (j + 1) [] o3) := Lib.hid (HM3.out.1.next (fun c hc => by
                          obtain ⟨y, hy, hd, hcl⟩ := hc
                          have : y = x := by have := HXX.out; rw [hy] at this; exact Option.some.inj this
                          subst this
                          exact List.mem_map.2 ⟨c, hcl, by simp⟩) (fun h0 x' hx' => by
                          have : x' = x := by have := HXX.out; rw [hx'] at this; exact Option.some.inj this
                          rw [this]
                          exact HFIN.out (HMORE.out h0)))
                        go_wp2
                        go_roundw
                        case rel => exact ⟨j + 1, o3, by go_num, by omega, HN.out, HT.out, HX.out, HB.out⟩
                        case measure => simp [intOf]; omega
                  · obtain ⟨lg, lo, rfl, hlg, l0⟩ := HLI.out 0 z (by rw [hz]; rfl)
                    have hgt : (needsL x.tm).length = 1 := by rw [hz]; rfl
                    have HZZ := Lib.hid hz
                    have l0 : w3.cell? ⟨lg, lo, none⟩ = some (.int .i64 z) := l0
                    clear hz HLI
                    by_cases hzv : z = v
                    · have hq : (z == v) = true := by simp [hzv]
                      cases b
                      · have HFIN : Hid (bj = true → ¬ bareIn v x.tm x.ins) := Lib.hid fun h hin => by
                          have := ((HNB.out h).1 hin).1
                          cases this
                        go_upto_region 29 with fail
                        go_wp2_with fail
                        refine CT.out.mono ?_
                        rintro e w4 ⟨tv, rfl, ho, hb4⟩
                        obtain ⟨ta, tc, rfl, _, _⟩ := OwnI.shape ho
                        have HO := Lib.hid ho
                        have HT := Lib.hid (HT.out.below hb4 HT.out.lt)
                        have HX := Lib.hid (HX.out.below hb4 HX.out.lt)
                        have HB : Hid (Below w.heap.size w w4) := Lib.hid (HB.out.trans (hb4.mono HB.out.size))
                        have hl3 := toL_few x.tm
                        clear ho hb4 CT c1 c2 c3 c4 x0 x1
                        generalize w3.heap.size = WB at HO hGs ⊢
                        go_wp2
                        go_loopw [16] (fun k wr3 => ∃ (i : Nat) (o3 : List Bool), k = .int .i64 i ∧ i ≤ (toL x.tm).length ∧ Hid (MidV f v r o j (((toL x.tm).take i).map Int.toNat) o3 ∧ (bj = true → o3.getD j false = true)) ∧ OwnI wr3 WB (.slice ta (toL x.tm).length tc) (toL x.tm) ∧ Blk wr3 G 4 (truC o3) ∧ Blk wr3 w.heap.size 37 (fnC f pa pc (some ⟨g, oo, none⟩) bc) ∧ Below w.heap.size w wr3) (fun k _ => (toL x.tm).length - (intOf k).toNat)
                        case atStart => exact ⟨0, o2, rfl, Nat.zero_le _, ⟨by simpa using HM.out, HKEEP.out⟩, HO.out, HT.out, HX.out, HB.out⟩
                        case round =>
                          obtain ⟨i2, o3, rfl, hi2, HM3, hO, hT, hX, hB⟩ := hrel
                          clear HO HT HX HB
                          have HO := Lib.hid hO
                          have HT := Lib.hid hT
                          have HX := Lib.hid hX
                          have HB := Lib.hid hB
                          clear hO hT hX hB
                          by_cases hl2 : i2 < (toL x.tm).length
                          · have hl2' : (i2 : Int) < (toL x.tm).length := by omega
                            have hi20 : (0 : Int) ≤ i2 := by omega
                            obtain ⟨z2, hz2⟩ : ∃ z, (toL x.tm)[i2]? = some z := ⟨_, List.getElem?_eq_getElem hl2⟩
                            obtain ⟨lg2, lo2, hle, hlg2, l2⟩ := (IntsW.own HO.out) i2 z2 hz2
                            subst hle
                            have HZM := Lib.hid (List.mem_of_getElem? hz2)
                            have HZT : Hid ((toL x.tm).take (i2 + 1) = (toL x.tm).take i2 ++ [z2]) := by
                              show _ = _
                              rw [List.take_add_one, hz2]
                              rfl
                            clear hz2
                            have hzr := HGX.out z2 HZM.out
                            obtain ⟨c, rfl⟩ := Int.eq_ofNat_of_zero_le (show 0 ≤ z2 by omega)
                            have hcl : c < f.blocks.length := by omega
                            have hcl' : (c : Int) < f.blocks.length := by omega
                            have hc0 : (0 : Int) ≤ c := by omega
                            have hlen := HM3.out.1.len
                            have kc := truC_at HT.out (b := c) (by omega)
                            have gc := HT.out.free c
                            have hGs2 : G < wr.heap.size := HT.out.lt
                            have HN := Lib.hid (HM3.out.1.step hlj hcl false (fun h => ⟨HM3.out.2 (HBT.out h).1, x, HXX.out, (HBT.out h).2, HZM.out⟩) (fun ⟨x', hx', hd, _⟩ h0 => HBF.out (HMORE.out h0) (by
                              have : x' = x := by have := HXX.out; rw [hx'] at this; exact Option.some.inj this
                              rw [← this]
                              exact hd)) stepV)
                            have HKN : Hid (bj = true → (o3.set c (o3.getD c false || false)).getD j false = true) := Lib.hid fun h => set_more (HM3.out.2 h) c false
                            have HTN : Hid (Blk (wr.setCell ⟨G, c, none⟩ (.bool (o3.getD c false || false))) G 4 (truC (o3.set c (o3.getD c false || false)))) := by
                              have h := HT.out.put c (.bool (o3.getD c false || false))
                              rw [truC_set] at h
                              exact Lib.hid h
                            have HD : Hid (((toL x.tm).take (i2 + 1)).map Int.toNat = ((toL x.tm).take i2).map Int.toNat ++ [c]) := by
                              show _ = _
                              rw [HZT.out, List.map_append]
                              rfl
                            rw [← HD.out] at HN
                            have HO4 := fun u => Lib.hid (own_putB (i := c) (u := u) HO.out hGs)
                            have HX4 := fun u => Lib.hid (HX.out.far (p := ⟨G, c, none⟩) (by show w.heap.size ≠ G; omega) u)
                            have HB4 := fun u => Lib.hid (HB.out.setCell (p := ⟨G, c, none⟩) (by show w.heap.size ≤ G; omega) u)
                            clear hlen hzr
                            generalize o3.getD c false = bc0 at kc HN HTN HKN
                            cases bc0
                            · go_wp2_with fail
                              go_region
                              all_goals
                                go_wp2
                                go_roundw
                                case rel => exact ⟨i2 + 1, _, by go_num, by omega, ⟨HN.out, HKN.out⟩, (HO4 _).out, HTN.out, (HX4 _).out, below_drewN (HB4 _).out 1⟩
                                case measure => simp [intOf]; omega
                            · go_wp2_with fail
                              go_region
                              all_goals
                                go_wp2
                                go_roundw
                                case rel => exact ⟨i2 + 1, _, by go_num, by omega, ⟨HN.out, HKN.out⟩, (HO4 _).out, HTN.out, (HX4 _).out, below_drewN (HB4 _).out 1⟩
                                case measure => simp [intOf]; omega
                          · have e : i2 = (toL x.tm).length := by omega
                            subst e
                            rw [List.take_length] at HM3
                            have hl2' : ¬ ((toL x.tm).length : Int) < (toL x.tm).length := by omega
                            have HN : Hid (MidV f v r o (j + 1) [] o3) := Lib.hid (HM3.out.1.next (fun c hc => by
                              obtain ⟨y, hy, hd, hcl⟩ := hc
                              have : y = x := by have := HXX.out; rw [hy] at this; exact Option.some.inj this
                              subst this
                              exact List.mem_map.2 ⟨c, hcl, by simp⟩) (fun h0 x' hx' => by
                              have : x' = x := by have := HXX.out; rw [hx'] at this; exact Option.some.inj this
                              rw [this]
                              exact HFIN.out (HMORE.out h0)))
                            go_wp2
                            go_roundw
                            case rel => exact ⟨j + 1, o3, by go_num, by omega, HN.out, HT.out, HX.out, HB.out⟩
                            case measure => simp [intOf]; omega
                      · have HL : Hid (LacksV f v) := Lib.hid (HLACK.out rfl ((HNB.out (HBT.out rfl).1).2 ⟨rfl, by rw [HZZ.out, hzv]; simp⟩))
                        go_wp2
                        go_ret
                        exact ⟨⟨true, rfl, fun _ => HL.out, fun _ => rfl⟩, HB.out⟩
                    · have hq : (z == v) = false := by simp [hzv]
                      have HFIN : Hid (bj = true → ¬ bareIn v x.tm x.ins) := Lib.hid fun h hin => by
                        have := ((HNB.out h).1 hin).2
                        rw [HZZ.out] at this
                        simp at this
                        exact hzv this.symm
                      go_upto_region 29 with fail
                      go_wp2_with fail
                      refine CT.out.mono ?_
                      rintro e w4 ⟨tv, rfl, ho, hb4⟩
                      obtain ⟨ta, tc, rfl, _, _⟩ := OwnI.shape ho
                      have HO := Lib.hid ho
                      have HT := Lib.hid (HT.out.below hb4 HT.out.lt)
                      have HX := Lib.hid (HX.out.below hb4 HX.out.lt)
                      have HB : Hid (Below w.heap.size w w4) := Lib.hid (HB.out.trans (hb4.mono HB.out.size))
                      have hl3 := toL_few x.tm
                      clear ho hb4 CT c1 c2 c3 c4 x0 x1
                      generalize w3.heap.size = WB at HO hGs ⊢
                      go_wp2
                      go_loopw [16] (fun k wr3 => ∃ (i : Nat) (o3 : List Bool), k = .int .i64 i ∧ i ≤ (toL x.tm).length ∧ Hid (MidV f v r o j (((toL x.tm).take i).map Int.toNat) o3 ∧ (bj = true → o3.getD j false = true)) ∧ OwnI wr3 WB (.slice ta (toL x.tm).length tc) (toL x.tm) ∧ Blk wr3 G 4 (truC o3) ∧ Blk wr3 w.heap.size 37 (fnC f pa pc (some ⟨g, oo, none⟩) bc) ∧ Below w.heap.size w wr3) (fun k _ => (toL x.tm).length - (intOf k).toNat)
                      case atStart => exact ⟨0, o2, rfl, Nat.zero_le _, ⟨by simpa using HM.out, HKEEP.out⟩, HO.out, HT.out, HX.out, HB.out⟩
                      case round =>
                        obtain ⟨i2, o3, rfl, hi2, HM3, hO, hT, hX, hB⟩ := hrel
                        clear HO HT HX HB
                        have HO := Lib.hid hO
                        have HT := Lib.hid hT
                        have HX := Lib.hid hX
                        have HB := Lib.hid hB
                        clear hO hT hX hB
                        by_cases hl2 : i2 < (toL x.tm).length
                        · have hl2' : (i2 : Int) < (toL x.tm).length := by omega
                          have hi20 : (0 : Int) ≤ i2 := by omega
                          obtain ⟨z2, hz2⟩ : ∃ z, (toL x.tm)[i2]? = some z := ⟨_, List.getElem?_eq_getElem hl2⟩
                          obtain ⟨lg2, lo2, hle, hlg2, l2⟩ := (IntsW.own HO.out) i2 z2 hz2
                          subst hle
                          have HZM := Lib.hid (List.mem_of_getElem? hz2)
                          have HZT : Hid ((toL x.tm).take (i2 + 1) = (toL x.tm).take i2 ++ [z2]) := by
                            show _ = _
                            rw [List.take_add_one, hz2]
                            rfl
                          clear hz2
                          have hzr := HGX.out z2 HZM.out
                          obtain ⟨c, rfl⟩ := Int.eq_ofNat_of_zero_le (show 0 ≤ z2 by omega)
                          have hcl : c < f.blocks.length := by omega
                          have hcl' : (c : Int) < f.blocks.length := by omega
                          have hc0 : (0 : Int) ≤ c := by omega
                          have hlen := HM3.out.1.len
                          have kc := truC_at HT.out (b := c) (by omega)
                          have gc := HT.out.free c
                          have hGs2 : G < wr.heap.size := HT.out.lt
                          have HN := Lib.hid (HM3.out.1.step hlj hcl b (fun h => ⟨HM3.out.2 (HBT.out h).1, x, HXX.out, (HBT.out h).2, HZM.out⟩) (fun ⟨x', hx', hd, _⟩ h0 => HBF.out (HMORE.out h0) (by
                            have : x' = x := by have := HXX.out; rw [hx'] at this; exact Option.some.inj this
                            rw [← this]
                            exact hd)) stepV)
                          have HKN : Hid (bj = true → (o3.set c (o3.getD c false || b)).getD j false = true) := Lib.hid fun h => set_more (HM3.out.2 h) c b
                          have HTN : Hid (Blk (wr.setCell ⟨G, c, none⟩ (.bool (o3.getD c false || b))) G 4 (truC (o3.set c (o3.getD c false || b)))) := by
                            have h := HT.out.put c (.bool (o3.getD c false || b))
                            rw [truC_set] at h
                            exact Lib.hid h
                          have HD : Hid (((toL x.tm).take (i2 + 1)).map Int.toNat = ((toL x.tm).take i2).map Int.toNat ++ [c]) := by
                            show _ = _
                            rw [HZT.out, List.map_append]
                            rfl
                          rw [← HD.out] at HN
                          have HO4 := fun u => Lib.hid (own_putB (i := c) (u := u) HO.out hGs)
                          have HX4 := fun u => Lib.hid (HX.out.far (p := ⟨G, c, none⟩) (by show w.heap.size ≠ G; omega) u)
                          have HB4 := fun u => Lib.hid (HB.out.setCell (p := ⟨G, c, none⟩) (by show w.heap.size ≤ G; omega) u)
                          clear hlen hzr
                          generalize o3.getD c false = bc0 at kc HN HTN HKN
                          cases bc0
                          · go_wp2_with fail
                            go_region
                            all_goals
                              go_wp2
                              go_roundw
                              case rel => exact ⟨i2 + 1, _, by go_num, by omega, ⟨HN.out, HKN.out⟩, (HO4 _).out, HTN.out, (HX4 _).out, below_drewN (HB4 _).out 1⟩
                              case measure => simp [intOf]; omega
                          · go_wp2_with fail
                            go_region
                            all_goals
                              go_wp2
                              go_roundw
                              case rel => exact ⟨i2 + 1, _, by go_num, by omega, ⟨HN.out, HKN.out⟩, (HO4 _).out, HTN.out, (HX4 _).out, below_drewN (HB4 _).out 1⟩
                              case measure => simp [intOf]; omega
                        · have e : i2 = (toL x.tm).length := by omega
                          subst e
                          rw [List.take_length] at HM3
                          have hl2' : ¬ ((toL x.tm).length : Int) < (toL x.tm).length := by omega
                          have HN : Hid (MidV f v r o (j + 1) [] o3) := Lib.hid (HM3.out.1.next (fun c hc => by
                            obtain ⟨y, hy, hd, hcl⟩ := hc
                            have : y = x := by have := HXX.out; rw [hy] at this; exact Option.some.inj this
                            subst this
                            exact List.mem_map.2 ⟨c, hcl, by simp⟩) (fun h0 x' hx' => by
                            have : x' = x := by have := HXX.out; rw [hx'] at this; exact Option.some.inj this
                            rw [this]
                            exact HFIN.out (HMORE.out h0)))
                          go_wp2
                          go_roundw
                          case rel => exact ⟨j + 1, o3, by go_num, by omega, HN.out, HT.out, HX.out, HB.out⟩
                          case measure => simp [intOf]; omega
            · have e : j = f.blocks.length := by omega
              subst e
              have HN : Hid (InvV f v (r + 1) o2) := Lib.hid HM.out.stop
              go_wp2
              go_roundw
              case rel => exact ⟨r + 1, o2, by go_num, by omega, HN.out, HT.out, HX.out, HB.out⟩
              case measure => simp [intOf]; omega
        · have e : r = f.blocks.length := by omega
          subst e
          have HG := Lib.hid (HI.out.fine (Nat.le_refl _))
          go_wp2
          go_ret
          exact ⟨⟨false, rfl, fun h => by simp at h, fun h => absurd h HG.out⟩, HB.out⟩
end Go.Proofs.YtgpbpbhidemciaaGreat
