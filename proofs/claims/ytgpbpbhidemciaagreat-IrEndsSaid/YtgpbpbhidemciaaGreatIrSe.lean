/-
  What IrTells answers, for whatever function lies in memory. No condition beyond those that each theorem states.
-/
import Derived.Test.YtgpbpbhidemciaaGreatIrSc
import Derived.Test.YtgpbpbhidemciaaGreatIrRd
import Derived.Test.YtgpbpbhidemciaaGreatIrQf
import Derived.Test.YtgpbpbhidemciaaGreatIrPm
import Derived.Test.YtgpbpbhidemciaaGreatIrCt
import Derived.Deep.RegionHeld3
import Derived.Deep.CutRange
namespace Go.Proofs.YtgpbpbhidemciaaGreat
open Go.RowKit

theorem bareIn_var2 {v : Int} {t : Tt} (ht : isTermB t = true) : ∀ {l : List Ii}, (∀ i ∈ l, isInsB i = true) → bareIn v t l → 1 ≤ v ∧ v ≤ 200
  | [], _, h => by
    have h1 := term_part ht
    have h2 := (mem_needs ht).1 h
    omega
  | i :: l, hi, h => by
    rcases h with h | ⟨_, h⟩
    · obtain ⟨h1, h2, h3, h4⟩ := ins_parts (hi i (by simp))
      obtain ⟨h5, h6⟩ := (mem_reads (hi i (by simp))).1 h
      rcases h5 with h5 | h5 | h5
      · omega
      · omega
      · exact h4 v h5
    · exact bareIn_var2 ht (fun j hj => hi j (by simp [hj])) h
theorem lacks_var {f : Ff} (h : shapeN f = 0) {v : Int} (hv : LacksV f v) : 1 ≤ v ∧ v ≤ 200 := by
  obtain ⟨b, x, hx, _, hin⟩ := hv
  obtain ⟨h1, h2⟩ := shaped_ins h (List.mem_of_getElem? hx)
  exact bareIn_var2 h2 h1 hin
theorem all_take {o : List Bool} {j : Nat} (hj : j < o.length) : (o.take (j + 1)).all id = ((o.take j).all id && o.getD j false) := by
  rw [List.take_add_one, List.getElem?_eq_getElem hj, List.all_append, List.getD_eq_getElem?_getD, List.getElem?_eq_getElem hj]
  simp
set_option maxHeartbeats 4000000 in
set_option maxRecDepth 100000 in
theorem rright_any (f : Ff) (pa : Option Addr) (pc : Nat) (ba : Option Addr) (bc : Nat) (w : World) (hS : SmallF f) (hF : FnW w f pa pc ba bc) :
    Calls Tryz.prog 30 #[fnV f pa pc ba bc] w fun e w' => (∃ n : Int, e = .returned (.int .i64 n) ∧ RightIs f n) ∧ Below w.heap.size w w' := by
  have HF := Lib.hid hF
  have HS := Lib.hid hS
  have hb := hS.b
  have HX0 : Hid (Blk (w.alloc (.cells (fnC f pa pc ba bc) 37)) w.heap.size 37 (fnC f pa pc ba bc)) := Blk.new w _ _
  have HW0 : Hid (Below w.heap.size w (w.alloc (.cells (fnC f pa pc ba bc) 37))) := (Below.refl _ w).alloc (Nat.le_refl _) _
  have HC := Lib.hid (rlong_any f pa pc ba bc (w.alloc (.cells (fnC f pa pc ba bc) 37)) hS (hF.below HW0.out))
  clear hF hS
  unfold fnV fnC at HC
  unfold fnV fnC
  go_enter Tryz.func30, Tryz.ntmps30
  go_wp2_with fail
  refine HC.out.mono ?_
  rintro e w1 ⟨rfl, hb1⟩
  have HX1 : Hid (Blk w1 w.heap.size 37 (fnC f pa pc ba bc)) := HX0.out.below hb1 HX0.out.lt
  have HB1 : Hid (Below w.heap.size w w1) := HW0.out.trans (hb1.mono HW0.out.size)
  clear hb1 HC HX0 HW0
  obtain ⟨c0, c1⟩ := box2 HX1.out
  cases hlg : isLongB f
  case true =>
    have HE : Hid (shapeN f = 3) := Lib.hid (by unfold shapeN; rw [hlg]; rfl)
    have HR : Hid (RightIs f 3) := by
      have h0 : shapeN f ≠ 0 := by rw [HE.out]; decide
      exact ⟨fun _ => HE.out.symm, fun h => absurd h h0, fun h => absurd h h0, fun h => absurd h h0⟩
    go_wp2
    go_ret
    exact ⟨⟨3, rfl, HR.out⟩, HB1.out⟩
  have HC := Lib.hid (rshaped_any f pa pc ba bc w1 HS.out (HF.out.below HB1.out))
  unfold fnV fnC at HC
  go_wp2_with fail
  refine HC.out.mono ?_
  rintro e w2 ⟨rfl, hb1⟩
  have HX2 : Hid (Blk w2 w.heap.size 37 (fnC f pa pc ba bc)) := HX1.out.below hb1 HX1.out.lt
  have HB2 : Hid (Below w.heap.size w w2) := HB1.out.trans (hb1.mono HB1.out.size)
  clear hb1 HC HX1 HB1 c0 c1
  cases hsh : shapedB f
  case false =>
    have HE : Hid (shapeN f = 2) := Lib.hid (by unfold shapeN; rw [hlg, hsh]; rfl)
    have HR : Hid (RightIs f 2) := by
      have h0 : shapeN f ≠ 0 := by rw [HE.out]; decide
      exact ⟨fun _ => HE.out.symm, fun h => absurd h h0, fun h => absurd h h0, fun h => absurd h h0⟩
    go_wp2
    go_ret
    exact ⟨⟨2, rfl, HR.out⟩, HB2.out⟩
  have hs0 : shapeN f = 0 := (shape_is f).2 ⟨hlg, hsh⟩
  have HSH := Lib.hid hs0
  have hpos : 0 < f.blocks.length := (shape_parts hs0).1
  have HC := Lib.hid (rreached_any f pa pc ba bc w2 hs0 HS.out (HF.out.below HB2.out))
  unfold fnV fnC at HC
  clear hlg hsh hs0
  obtain ⟨c0, c1⟩ := box2 HX2.out
  go_wp2_with fail
  refine HC.out.mono ?_
  rintro e w3 ⟨he, hb1⟩
  have HX3 : Hid (Blk w3 w.heap.size 37 (fnC f pa pc ba bc)) := HX2.out.below hb1 HX2.out.lt
  have HB3 : Hid (Below w.heap.size w w3) := HB2.out.trans (hb1.mono HB2.out.size)
  have hw2 : w.heap.size ≤ w2.heap.size := HB2.out.size
  clear hb1 HC HX2 HB2 c0 c1
  rcases he with ⟨G, o, rfl, hg, hT, hol, hor⟩ | ⟨rfl, hng⟩
  case inr =>
    have HR : Hid (RightIs f 9) := by
      have hl : LostB f := .inl (by
        cases hq : goesB f
        · rfl
        · exact absurd ((goes_is f).1 hq) hng)
      exact ⟨fun h => absurd HSH.out h, fun _ _ => rfl, fun _ h => absurd hl h, fun _ h => absurd hl h⟩
    clear hng
    go_wp2
    go_loopw [4, 5] (fun ok k wr => ok = .bool false ∧ k = .int .i64 0 ∧ Below w3.heap.size w3 wr) (fun _ _ _ => 0)
    case atStart => exact ⟨rfl, rfl, Below.refl _ _⟩
    case round =>
      obtain ⟨rfl, rfl, hB⟩ := hrel
      have HB := Lib.hid hB
      clear hB
      go_wp2
      go_ret
      exact ⟨⟨9, rfl, HR.out⟩, HB3.out.trans (HB.out.mono HB3.out.size)⟩
  have HT := Lib.hid hT
  have HOR := Lib.hid hor
  have HGO := Lib.hid hg
  clear hT hor hg
  go_wp2
  go_loopw [4, 5] (fun ok k wr => ∃ j : Nat, ok = .bool ((o.take j).all id) ∧ k = .int .i64 j ∧ j ≤ f.blocks.length ∧ Below w3.heap.size w3 wr) (fun _ k _ => f.blocks.length - (intOf k).toNat)
  case atStart => exact ⟨0, by simp, rfl, Nat.zero_le _, Below.refl _ _⟩
  case round =>
    obtain ⟨j, rfl, rfl, hj, hB⟩ := hrel
    have HB := Lib.hid hB
    clear hB
    by_cases hlt : j < f.blocks.length
    · have hlt' : (j : Int) < f.blocks.length := by omega
      have hj0 : (0 : Int) ≤ j := by omega
      have k0 := truC_at (HT.out.below HB.out HT.out.lt) (b := j) (by omega)
      have HTK := Lib.hid (all_take (o := o) (j := j) (by omega))
      generalize (o.take j).all id = q at HTK ⊢
      generalize o.getD j false = q2 at HTK k0
      cases q
      · go_wp2
        go_roundw
        case rel => exact ⟨j + 1, by rw [HTK.out]; simp, by go_num, by omega, HB.out⟩
        case measure => simp [intOf]; omega
      · go_wp2
        go_roundw
        case rel => exact ⟨j + 1, by rw [HTK.out]; simp, by go_num, by omega, HB.out⟩
        case measure => simp [intOf]; omega
    · have e : j = f.blocks.length := by omega
      have hlt' : ¬ (j : Int) < f.blocks.length := by omega
      have hjo : j = o.length := by omega
      rw [hjo, List.take_length]
      rw [hjo] at hlt'
      clear hlt
      cases hall : o.all id
      · have HR : Hid (RightIs f 9) := by
          have hl : LostB f := by
            rw [List.all_eq_false] at hall
            obtain ⟨q, hq, hq2⟩ := hall
            obtain ⟨b, hb2, rfl⟩ := List.getElem_of_mem hq
            refine .inr ⟨b, by omega, fun hr => ?_⟩
            have h3 := (HOR.out b).2 hr
            rw [List.getD_eq_getElem?_getD, List.getElem?_eq_getElem hb2] at h3
            exact hq2 h3
          exact ⟨fun h => absurd HSH.out h, fun _ _ => rfl, fun _ h => absurd hl h, fun _ h => absurd hl h⟩
        go_wp2
        go_ret
        exact ⟨⟨9, rfl, HR.out⟩, HB3.out.trans (HB.out.mono HB3.out.size)⟩
      · have HNL : Hid (¬ LostB f) := by
          rintro (h | ⟨b, hb2, hr⟩)
          · rw [(goes_is f).2 HGO.out] at h; cases h
          · refine hr ((HOR.out b).1 ?_)
            rw [List.all_eq_true] at hall
            have hb3 : b < o.length := by omega
            have h3 := hall _ (List.getElem_mem hb3)
            rw [List.getD_eq_getElem?_getD, List.getElem?_eq_getElem hb3]
            exact h3
        clear hall
        have HX4 := Lib.hid (HX3.out.below HB.out HX3.out.lt)
        have HB4 : Hid (Below w.heap.size w wr) := Lib.hid (HB3.out.trans (HB.out.mono HB3.out.size))
        clear HB HX3 HB3 HT HOR
        go_wp2
        go_loopw [6] (fun k wr => ∃ n : Nat, k = .int .i64 n ∧ 1 ≤ n ∧ n ≤ 201 ∧ Hid (∀ u : Nat, 1 ≤ u → u < n → ¬ LacksV f u) ∧ Blk wr w.heap.size 37 (fnC f pa pc ba bc) ∧ Below w.heap.size w wr) (fun k _ => 201 - (intOf k).toNat)
        case atStart => exact ⟨1, rfl, by omega, by omega, fun u h1 h2 => by omega, HX4.out, HB4.out⟩
        case round =>
          obtain ⟨n, rfl, hn1, hn2, HN, hX, hB⟩ := hrel
          clear HX4 HB4
          have HX := Lib.hid hX
          have HB := Lib.hid hB
          clear hX hB
          by_cases hln : n ≤ 200
          · have hln' : (n : Int) ≤ 200 := by omega
            have HC := Lib.hid (rlacks_any f n pa pc ba bc wr HSH.out HGO.out HS.out (HF.out.below HB.out))
            unfold fnV fnC at HC
            obtain ⟨c0, c1⟩ := box2 HX.out
            go_wp2_with fail
            refine HC.out.mono ?_
            rintro e w5 ⟨⟨q, rfl, hq⟩, hb5⟩
            have HX5 := Lib.hid (HX.out.below hb5 HX.out.lt)
            have HB5 : Hid (Below w.heap.size w w5) := Lib.hid (HB.out.trans (hb5.mono HB.out.size))
            clear hb5 HC HX HB c0 c1
            cases q
            · have HN2 : Hid (∀ u : Nat, 1 ≤ u → u < n + 1 → ¬ LacksV f u) := Lib.hid fun u h1 h2 h3 => by
                by_cases e : u = n
                · subst e
                  have := hq.2 h3
                  cases this
                · exact HN.out u h1 (by omega) h3
              clear hq
              go_wp2
              go_roundw
              case rel => exact ⟨n + 1, by go_num, by omega, by omega, HN2, HX5.out, HB5.out⟩
              case measure => simp [intOf]; omega
            · have HR : Hid (RightIs f 8) := by
                have hl : LacksV f n := hq.1 rfl
                have h0 : (n : Int) ≠ 0 := by omega
                exact ⟨fun h => absurd HSH.out h, fun _ h => absurd h HNL.out, fun _ _ _ => rfl, fun _ _ h => absurd hl (h n h0)⟩
              clear hq
              go_wp2
              go_ret
              exact ⟨⟨8, rfl, HR.out⟩, HB5.out⟩
          · have hln' : ¬ (n : Int) ≤ 200 := by omega
            have HR : Hid (RightIs f 0) := by
              have hn : ∀ v : Int, ¬ LacksV f v := fun v hv => by
                have h1 := lacks_var HSH.out hv
                obtain ⟨u, rfl⟩ := Int.eq_ofNat_of_zero_le (show 0 ≤ v by omega)
                exact HN.out u (by omega) (by omega) hv
              exact ⟨fun h => absurd HSH.out h, fun _ h => absurd h HNL.out, fun _ _ ⟨v, _, hv⟩ => absurd hv (hn v), fun _ _ _ => rfl⟩
            go_wp2
            go_ret
            exact ⟨⟨0, rfl, HR.out⟩, HB.out⟩
end Go.Proofs.YtgpbpbhidemciaaGreat
namespace Go.Proofs.YtgpbpbhidemciaaGreat
open Go.RowKit

/-- The error that a function has. -/
noncomputable def rightN (f : Ff) : Int := Classical.epsilon (RightIs f)
theorem right_is {f : Ff} {n : Int} (h : RightIs f n) : n = rightN f := h.same (Classical.epsilon_spec (p := RightIs f) ⟨n, h⟩)
theorem rel_right {W2 W : World} {f : Ff} {F : Nat} {A : Array Value} (h : Calls Tryz.prog F A W fun e w' => (∃ n : Int, e = .returned (.int .i64 n) ∧ RightIs f n) ∧ Below W.heap.size W w') (hb : Below W2.heap.size W2 W) :
    Calls Tryz.prog F A W fun e w' => e = .returned (.int .i64 (rightN f)) ∧ Below W2.heap.size W2 w' := h.mono fun _ _ ⟨⟨n, he, hr⟩, h2⟩ => ⟨by rw [he, right_is hr], rel_below hb (Nat.le_refl _) h2⟩
theorem vars_few (f : Ff) : (varsL f).length ≤ 201 := by
  unfold varsL
  split
  · exact listM_few _ _
  · simp
set_option maxHeartbeats 4000000 in
set_option maxRecDepth 100000 in
theorem tells_any (f : Ff) (pa : Option Addr) (pc : Nat) (ba : Option Addr) (bc : Nat) (w : World) (hB : BigF f) (hF : FnW w f pa pc ba bc) :
    Calls Tryz.prog 6 #[fnV f pa pc ba bc] w fun e w' => e = .returned (.bool true) ∧ Below w.heap.size w w' := by
  have HF := Lib.hid hF
  have HX0 : Hid (Blk (w.alloc (.cells (fnC f pa pc ba bc) 37)) w.heap.size 37 (fnC f pa pc ba bc)) := Blk.new w _ _
  have HW0 : Hid (Below w.heap.size w (w.alloc (.cells (fnC f pa pc ba bc) 37))) := (Below.refl _ w).alloc (Nat.le_refl _) _
  have HC := Lib.hid (funcOf_any f pa pc ba bc (w.alloc (.cells (fnC f pa pc ba bc) 37)) hB (hF.below HW0.out))
  clear hB hF
  unfold fnV fnC at HC
  unfold fnV fnC
  go_enter Tryz.func6, Tryz.ntmps6
  go_wp2_with fail
  refine HC.out.mono ?_
  rintro e w1 ⟨⟨n, rfl, hn⟩, hb1⟩
  have HX1 : Hid (Blk w1 w.heap.size 37 (fnC f pa pc ba bc)) := Lib.hid (HX0.out.below hb1 HX0.out.lt)
  have HB1 : Hid (Below w.heap.size w w1) := Lib.hid (HW0.out.trans (hb1.mono HW0.out.size))
  clear HC hb1 HX0 HW0
  by_cases hbig : 700 < n
  case pos =>
    have hbig' : (700 : Int) < n := by omega
    clear hn
    go_wp2_with fail
    refine (awakeI_any _).mono ?_
    rintro e w2 ⟨rfl, hb2⟩
    have HB2 : Hid (Below w.heap.size w w2) := Lib.hid (HB1.out.trans (hb2.mono HB1.out.size))
    clear hb2
    go_wp2
    go_ret
    exact ⟨rfl, HB2.out⟩
  have hbig' : ¬ (700 : Int) < n := by omega
  obtain ⟨hpl, hfew⟩ := hn (by omega)
  have HFEW := Lib.hid hfew
  have HSM : Hid (SmallF f) := ⟨by omega, by have := hfew.1; omega, fun x hx => ⟨by have := (hfew.2 x hx).1; omega, fun i hi => by have := (hfew.2 x hx).2 i hi; omega⟩⟩
  have HF2 : Hid (∀ x ∈ f.blocks, x.ins.length ≤ 1000 ∧ ∀ y ∈ x.ins, y.args.length ≤ 1000) := Lib.hid fun x hx => ⟨by have := (hfew.2 x hx).1; omega, fun i hi => by have := (hfew.2 x hx).2 i hi; omega⟩
  have hbl : f.blocks.length ≤ 700 := hfew.1
  clear hn hfew hbig
  have HC := Lib.hid (lentFunc_any f pa pc ba bc w1 (by omega) (by omega) HF2.out (HF.out.below HB1.out))
  unfold fnV fnC at HC
  obtain ⟨c0, c1⟩ := box2 HX1.out
  go_wp2_with fail
  refine HC.out.mono ?_
  rintro e w2 ⟨pg, pk, bg, bk, es, rfl, hlf, hb2⟩
  have HX2 : Hid (Blk (w2.alloc (.cells (fnC f (some ⟨pg, 0, none⟩) pk (some ⟨bg, 0, none⟩) bk) 37)) w.heap.size 37 (fnC f pa pc ba bc)) := Lib.hid ((HX1.out.below hb2 HX1.out.lt).alloc _)
  have HY2 : Hid (Blk (w2.alloc (.cells (fnC f (some ⟨pg, 0, none⟩) pk (some ⟨bg, 0, none⟩) bk) 37)) w2.heap.size 37 (fnC f (some ⟨pg, 0, none⟩) pk (some ⟨bg, 0, none⟩) bk)) := Lib.hid (Blk.new w2 _ _)
  have HL2 : Hid (LFn (w2.alloc (.cells (fnC f (some ⟨pg, 0, none⟩) pk (some ⟨bg, 0, none⟩) bk) 37)) w1.heap.size f pg pk bg bk es) := Lib.hid (hlf.below ((Below.refl _ w2).alloc (Nat.le_refl _) _))
  have HB2 : Hid (Below w.heap.size w (w2.alloc (.cells (fnC f (some ⟨pg, 0, none⟩) pk (some ⟨bg, 0, none⟩) bk) 37))) := Lib.hid ((HB1.out.trans (hb2.mono HB1.out.size)).alloc (Nat.le_trans HB1.out.size hb2.size) _)
  clear hlf hb2 HC HX1
  go_upto_region 4 with fail
  clear c0 c1
  change Code.wp _ _ _ _ (w2.alloc (.cells (fnC f (some ⟨pg, 0, none⟩) pk (some ⟨bg, 0, none⟩) bk) 37))
  generalize (w2.alloc (.cells (fnC f (some ⟨pg, 0, none⟩) pk (some ⟨bg, 0, none⟩) bk) 37)) = W2 at HX2 HY2 HL2 HB2 ⊢
  generalize w2.heap.size = Y2 at HY2 ⊢
  have CM := Lib.hid (most_any f (some ⟨pg, 0, none⟩) pk (some ⟨bg, 0, none⟩) bk W2 HSM.out HL2.out.fn)
  unfold fnV fnC at CM
  obtain ⟨d0, d1⟩ := box2 HY2.out
  go_wp2_with fail
  refine CM.out.mono ?_
  rintro e w4 ⟨rfl, hb4⟩
  have HX4 := Lib.hid (HX2.out.below hb4 HX2.out.lt)
  have HY4 := Lib.hid (HY2.out.below hb4 HY2.out.lt)
  have HL4 := Lib.hid (HL2.out.below hb4)
  have HB4 : Hid (Below w.heap.size w w4) := Lib.hid (HB2.out.trans (hb4.mono HB2.out.size))
  clear CM hb4 HX2 HY2 HL2 HB2 d0 d1
  have CM := Lib.hid (rmost_any f pa pc ba bc w4 HSM.out (HF.out.below HB4.out))
  unfold fnV fnC at CM
  obtain ⟨d0, d1⟩ := box2 HX4.out
  go_wp2_with fail
  refine CM.out.mono ?_
  rintro e w6 ⟨rfl, hb6⟩
  have HX6 := Lib.hid (HX4.out.below hb6 HX4.out.lt)
  have HY6 := Lib.hid (HY4.out.below hb6 HY4.out.lt)
  have HL6 := Lib.hid (HL4.out.below hb6)
  have HB6 : Hid (Below w.heap.size w w6) := Lib.hid (HB4.out.trans (hb6.mono HB4.out.size))
  clear CM hb6 HX4 HY4 HL4 HB4 d0 d1
  have HZ : Hid (∀ W, Below w6.heap.size w6 W → Blk W w.heap.size 37 (fnC f pa pc ba bc) ∧ Blk W Y2 37 (fnC f (some ⟨pg, 0, none⟩) pk (some ⟨bg, 0, none⟩) bk) ∧ LFn W w1.heap.size f pg pk bg bk es ∧ FnW W f pa pc ba bc) := Lib.hid fun W h =>
    ⟨HX6.out.below h HX6.out.lt, HY6.out.below h HY6.out.lt, HL6.out.below h, HF.out.below (rel_below HB6.out (Nat.le_refl _) (h.mono (Nat.le_refl _)))⟩
  have HBW : Hid (∀ W, Below w6.heap.size w6 W → Below w.heap.size w W) := Lib.hid fun W h => rel_below HB6.out (Nat.le_refl _) (h.mono (Nat.le_refl _))
  have CA1 : Hid (∀ W, Below w6.heap.size w6 W → Calls Tryz.prog 29 #[fnV f (some ⟨pg, 0, none⟩) pk (some ⟨bg, 0, none⟩) bk] W fun e w' => e = .returned (.int .i64 (rightN f)) ∧ Below w6.heap.size w6 w') := Lib.hid fun W h =>
    rel_right (right_any f _ _ _ _ W HSM.out (HZ.out W h).2.2.1.fn) h
  have CA2 : Hid (∀ W, Below w6.heap.size w6 W → Calls Tryz.prog 30 #[fnV f pa pc ba bc] W fun e w' => e = .returned (.int .i64 (rightN f)) ∧ Below w6.heap.size w6 w') := Lib.hid fun W h =>
    rel_right (rright_any f _ _ _ _ W HSM.out (HZ.out W h).2.2.2) h
  have CV1 : Hid (∀ W, Below w6.heap.size w6 W → Calls Tryz.prog 31 #[fnV f (some ⟨pg, 0, none⟩) pk (some ⟨bg, 0, none⟩) bk] W fun e w' => ∃ v k, e = .returned (.slice v (varsL f).length k) ∧ OwnI w' w6.heap.size (.slice v (varsL f).length k) (varsL f) ∧ Below w6.heap.size w6 w' ∧ ∀ b u m, OwnI W b u m → OwnI w' b u m) := Lib.hid fun W h =>
    rel_own (vars_any f _ _ _ _ W HSM.out (HZ.out W h).2.2.1.fn) h
  have CV2 : Hid (∀ W, Below w6.heap.size w6 W → Calls Tryz.prog 32 #[fnV f pa pc ba bc] W fun e w' => ∃ v k, e = .returned (.slice v (varsL f).length k) ∧ OwnI w' w6.heap.size (.slice v (varsL f).length k) (varsL f) ∧ Below w6.heap.size w6 w' ∧ ∀ b u m, OwnI W b u m → OwnI w' b u m) := Lib.hid fun W h =>
    rel_own (rvars_any f _ _ _ _ W HSM.out (HZ.out W h).2.2.2) h
  have CS : Hid (∀ W va ca va2 ca2, Below w6.heap.size w6 W → OwnI W w6.heap.size (.slice va (varsL f).length ca) (varsL f) → OwnI W w6.heap.size (.slice va2 (varsL f).length ca2) (varsL f) → Calls Tryz.prog 17 #[.slice va (varsL f).length ca, .slice va2 (varsL f).length ca2] W fun e w' => e = .returned (.bool true) ∧ Below w6.heap.size w6 w') := Lib.hid fun W va ca va2 ca2 h h1 h2 => by
    have h3 := sameInts_any (varsL f) (varsL f) va va2 ca ca2 W (by have := vars_few f; omega) (by have := vars_few f; omega) (IntsW.own h1) (IntsW.own h2)
    rw [decide_eq_true rfl] at h3
    exact rel_val h3 h
  have CZ1 : Hid (∀ W, Below w6.heap.size w6 W → Calls Tryz.prog 33 #[fnV f (some ⟨pg, 0, none⟩) pk (some ⟨bg, 0, none⟩) bk] W fun e w' => e = .returned (.int .i64 (sizeN f)) ∧ Below w6.heap.size w6 w') := Lib.hid fun W h =>
    rel_val (size_any' f _ _ _ _ W HSM.out (HZ.out W h).2.2.1.fn) h
  have CZ2 : Hid (∀ W, Below w6.heap.size w6 W → Calls Tryz.prog 34 #[fnV f pa pc ba bc] W fun e w' => e = .returned (.int .i64 (sizeN f)) ∧ Below w6.heap.size w6 w') := Lib.hid fun W h =>
    rel_val (rsize_any f _ _ _ _ W HSM.out (HZ.out W h).2.2.2) h
  have CK : Hid (∀ W, Below w6.heap.size w6 W → Calls Tryz.prog 35 #[fnV f (some ⟨pg, 0, none⟩) pk (some ⟨bg, 0, none⟩) bk, fnV f pa pc ba bc] W fun e w' => e = .returned (.bool true) ∧ Below w6.heap.size w6 w') := Lib.hid fun W h =>
    rel_val (keptFunc_any f pg pk bg bk es _ pa ba pc bc W (by omega) (by omega) HF2.out (HZ.out W h).2.2.1 (HZ.out W h).2.2.2) h
  have CW : Hid (∀ W, Below w6.heap.size w6 W → Calls Tryz.prog 8 #[] W fun e w' => e = .returned (.bool true) ∧ Below w6.heap.size w6 w') := Lib.hid fun W h => rel_val (awakeI_any W) h
  unfold fnV fnC at CA1 CA2 CV1 CV2 CZ1 CZ2 CK
  generalize rightN f = q1 at CA1 CA2
  have hq1 : (q1 == q1) = true := by simp
  have hq2 : ((mostO f : Int) == (mostO f : Int)) = true := by simp
  have hq3 : ((mostA f : Int) == (mostA f : Int)) = true := by simp
  have hq4 : ((sizeN f : Int) == (sizeN f : Int)) = true := by simp
  generalize (mostO f : Int) = q2 at hq2 ⊢
  generalize (mostA f : Int) = q3 at hq3 ⊢
  generalize (sizeN f : Int) = q4 at hq4 CZ1 CZ2
  obtain ⟨k0, k1⟩ := box2 HX6.out
  obtain ⟨k2, k3⟩ := box2 HY6.out
  go_upto_region 6 with fail
  go_region_held3 (fun w' => Below w6.heap.size w6 w' ∧ w'.cell? ⟨w.heap.size, 0, none⟩ = some (.slice pa f.params.length pc) ∧ w'.cell? ⟨w.heap.size, 1, none⟩ = some (.slice ba f.blocks.length bc) ∧ w'.cell? ⟨Y2, 0, none⟩ = some (.slice (some ⟨pg, 0, none⟩) f.params.length pk) ∧ w'.cell? ⟨Y2, 1, none⟩ = some (.slice (some ⟨bg, 0, none⟩) f.blocks.length bk))
    (first
      | exact ⟨hb7, (box2 (HZ.out _ hb7).1).1, (box2 (HZ.out _ hb7).1).2, (box2 (HZ.out _ hb7).2.1).1, (box2 (HZ.out _ hb7).2.1).2⟩
      | exact ⟨(Below.refl _ _).drew, k0, k1, k2, k3⟩)
    (first
      | (go_at_call 29; refine (CA1.out _ (by go_split_ands; assumption)).mono ?_; rintro e w7 ⟨rfl, hb7⟩)
      | (go_at_call 30; refine (CA2.out _ (by go_split_ands; assumption)).mono ?_; rintro e w7 ⟨rfl, hb7⟩)
      | (go_at_call 31; refine (CV1.out _ (by go_split_ands; assumption)).mono ?_; rintro e w7 ⟨va, ca, rfl, hoa, hb7, _⟩)
      | (go_at_call 32; refine (CV2.out _ (by go_split_ands; assumption)).mono ?_; rintro e w7 ⟨vb, cb, rfl, hob, hb7, hkb⟩; have hoa2 := hkb _ _ _ hoa)
      | (go_at_call 17; refine (CS.out _ _ _ _ _ (by go_split_ands; assumption) hoa2 hob).mono ?_; rintro e w7 ⟨rfl, hb7⟩)
      | (go_at_call 33; refine (CZ1.out _ (by go_split_ands; assumption)).mono ?_; rintro e w7 ⟨rfl, hb7⟩)
      | (go_at_call 34; refine (CZ2.out _ (by go_split_ands; assumption)).mono ?_; rintro e w7 ⟨rfl, hb7⟩)
      | (go_at_call 35; refine (CK.out _ (by go_split_ands; assumption)).mono ?_; rintro e w7 ⟨rfl, hb7⟩)
      | (go_at_call 8; refine (CW.out _ (by go_split_ands; assumption)).mono ?_; rintro e w7 ⟨rfl, hb7⟩))
  go_wp2
  go_ret
  exact ⟨rfl, HBW.out _ hb7⟩
end Go.Proofs.YtgpbpbhidemciaaGreat
