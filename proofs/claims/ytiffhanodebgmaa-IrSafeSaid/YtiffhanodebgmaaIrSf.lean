/-
  The walk of the statement IrSafe: whichever way a right function goes, nothing is read that has no value. No condition beyond those that each theorem states.
-/
import Derived.Test.YtiffhanodebgmaaIrAw
import Derived.Test.YtiffhanodebgmaaIrCt
namespace Go.Proofs.Ytiffhanodebgmaa
open Go.RowKit

theorem right_zero {f : Ff} (h : RightIs f 0) : shapeN f = 0 ∧ ¬ LostB f ∧ ∀ v : Int, v ≠ 0 → ¬ LacksV f v := by
  have h1 : shapeN f = 0 := Classical.byContradiction fun hs => hs (h.shape hs).symm
  have h2 : ¬ LostB f := fun hl => by have := h.lost h1 hl; cases this
  exact ⟨h1, h2, fun v hv hl => by have := h.lacks h1 h2 ⟨v, hv, hl⟩; cases this⟩
theorem bareIn_at {v : Int} {t : Tt} : ∀ {l : List Ii} {i : Nat} {y : Ii}, l[i]? = some y → v ∈ readsL y → (∀ j z, j < i → l[j]? = some z → z.dst ≠ v) → bareIn v t l := by
  intro l
  induction l with
  | nil => intro i y h; simp at h
  | cons a l ih =>
    intro i y h hr hd
    cases i with
    | zero =>
      simp at h
      subst h
      exact .inl hr
    | succ i =>
      refine .inr ⟨hd 0 a (by omega) rfl, ih (i := i) (y := y) (by simpa using h) hr (fun j z hj hz => hd (j + 1) z (by omega) (by simpa using hz))⟩
theorem bareIn_end {v : Int} {t : Tt} (hn : v ∈ needsL t) : ∀ {l : List Ii}, (∀ z ∈ l, z.dst ≠ v) → bareIn v t l := by
  intro l
  induction l with
  | nil => intro _; exact hn
  | cons a l ih => intro h; exact .inr ⟨h a (by simp), ih (fun z hz => h z (by simp [hz]))⟩
theorem reads_few (y : Ii) : (readsL y).length ≤ 10 := by
  unfold readsL
  split
  · rename_i h
    have h1 := ins_few h
    unfold givenL
    refine Nat.le_trans (List.length_filter_le _ _) ?_
    simp
    omega
  · simp
def hasC (h : Nat → Bool) : Array Value := Array.ofFn (n := 201) fun i => .bool (h i.1)
theorem hasC_get {h : Nat → Bool} {v : Nat} (hv : v ≤ 200) : (hasC h)[v]? = some (.bool (h v)) := by
  unfold hasC
  rw [Array.getElem?_ofFn, dif_pos (by omega)]
theorem hasC_set {h : Nat → Bool} {v : Nat} : (hasC h).setIfInBounds v (.bool true) = hasC (fun i => decide (i = v) || h i) := by
  apply Array.ext_getElem?
  intro i
  have hsz : (hasC h).size = 201 := by simp [hasC]
  rw [Array.getElem?_setIfInBounds, hsz]
  unfold hasC
  simp only [Array.getElem?_ofFn]
  by_cases hi : v = i
  · subst hi
    simp
  · have : ¬ i = v := fun e => hi e.symm
    simp [hi, this]
theorem zeros_has : Try.zeroCells54 = hasC (fun _ => false) := by kernel_rfl
set_option maxHeartbeats 8000000 in
set_option maxRecDepth 100000 in
theorem safe_any (f : Ff) (pa : Option Addr) (pc : Nat) (ba : Option Addr) (bc : Nat) (way : List Int) (wa : Option Addr) (wcp : Nat) (w : World) (hB : BigF f) (hF : FnW w f pa pc ba bc) (hwl : way.length ≤ 140737488355328) (hW : IntsW w wa way) :
    Calls Try.prog 5 #[fnV f pa pc ba bc, .slice wa way.length wcp] w fun e w' => e = .returned (.bool true) ∧ Below w.heap.size w w' := by
  have HF := Lib.hid hF
  have HBG := Lib.hid hB
  have HWY := Lib.hid hW
  have HX0 : Hid (Blk (w.alloc (.cells (fnC f pa pc ba bc) 43)) w.heap.size 43 (fnC f pa pc ba bc)) := Blk.new w _ _
  have HW0 : Hid (Below w.heap.size w (w.alloc (.cells (fnC f pa pc ba bc) 43))) := (Below.refl _ w).alloc (Nat.le_refl _) _
  have HC := Lib.hid (awakeI_any (w.alloc (.cells (fnC f pa pc ba bc) 43)))
  clear hB hF hW
  unfold fnV
  have HE := Lib.hid (fnC.eq_1 f pa pc ba bc)
  rw [HE.out]
  go_enter Try.func5, Try.ntmps5
  go_wp2_with fail
  refine HC.out.mono ?_
  rintro e w1 ⟨rfl, hb1⟩
  have HX1 := Lib.hid (HX0.out.below hb1 HX0.out.lt)
  have HB1 := Lib.hid (HW0.out.trans (hb1.mono HW0.out.size))
  clear HC hb1 HX0 HW0
  obtain ⟨c0, c1⟩ := box2 HX1.out
  have HC := Lib.hid (funcOf_any f pa pc ba bc w1 HBG.out (HF.out.below HB1.out))
  unfold fnV fnC at HC
  go_wp2_with fail
  refine HC.out.mono ?_
  rintro e w2 ⟨⟨n, rfl, hn⟩, hb2⟩
  have HX2 := Lib.hid (HX1.out.below hb2 HX1.out.lt)
  have HB2 := Lib.hid (HB1.out.trans (hb2.mono HB1.out.size))
  clear HC hb2 HX1 HB1 c0 c1
  by_cases hbig : 700 < n
  case pos =>
    have hbig' : (700 : Int) < n := by omega
    go_wp2
    go_ret
    exact ⟨rfl, HB2.out⟩
  have hbig' : ¬ (700 : Int) < n := by omega
  obtain ⟨hpl, hfew⟩ := hn (by omega)
  have HSM : Hid (SmallF f) := ⟨by omega, by have := hfew.1; omega, fun x hx => ⟨by have := (hfew.2 x hx).1; omega, fun i hi => by have := (hfew.2 x hx).2 i hi; omega⟩⟩
  clear hn hfew hbig
  by_cases hlong : 300 < way.length
  case pos =>
    have hlong' : (300 : Int) < way.length := by omega
    go_wp2
    go_ret
    exact ⟨rfl, HB2.out⟩
  have hlong' : ¬ (300 : Int) < way.length := by omega
  obtain ⟨c0, c1⟩ := box2 HX2.out
  have HC := Lib.hid (right_any f pa pc ba bc w2 HSM.out (HF.out.below HB2.out))
  unfold fnV fnC at HC
  go_wp2_with fail
  refine HC.out.mono ?_
  rintro e w3 ⟨⟨r, rfl, hr⟩, hb3⟩
  have HX3 := Lib.hid (HX2.out.below hb3 HX2.out.lt)
  have HB3 := Lib.hid (HB2.out.trans (hb3.mono HB2.out.size))
  clear HC hb3 HX2 HB2 c0 c1
  by_cases hr0 : r = 0
  case neg =>
    have hq : (r != 0) = true := by simp [hr0]
    go_wp2
    go_ret
    exact ⟨rfl, HB3.out⟩
  subst hr0
  obtain ⟨hsh, hlost, hlack⟩ := right_zero hr
  have HSH := Lib.hid (shape_parts hsh)
  have HLA := Lib.hid hlack
  have HDL : Hid (∀ (b : Nat) (x : Bb), f.blocks[b]? = some x → ∀ t ∈ toL x.tm, 1 ≤ t ∧ t < f.blocks.length) := fun b x hx t ht => by
    have hgo : goesB f = true := by
      cases hg : goesB f
      · exact absurd (.inl hg) hlost
      · rfl
    unfold goesB at hgo
    simp only [List.all_eq_true, Bool.and_eq_true, decide_eq_true_eq] at hgo
    exact hgo x (List.mem_of_getElem? hx) t ht
  obtain ⟨hpos, hle, hp8, hpv, _⟩ := HSH.out
  have HPV := Lib.hid hpv
  clear hr hsh hlost hlack hpv
  go_upto_region 6 with fail
  have HHA : Hid (Blk (w3.alloc (.cells Try.zeroCells54 54)) w3.heap.size 54 (hasC (fun _ => false))) := by
    show Blk _ _ _ _
    rw [zeros_has]
    exact Blk.new w3 _ _
  have HX4 : Hid (Blk (w3.alloc (.cells Try.zeroCells54 54)) w.heap.size 43 (fnC f pa pc ba bc)) := HX3.out.alloc _
  have HB4 : Hid (Below w.heap.size w (w3.alloc (.cells Try.zeroCells54 54))) := HB3.out.alloc HB3.out.size _
  have hAw : w.heap.size ≤ w3.heap.size := HB3.out.size
  have hAx : w.heap.size < w3.heap.size := HX3.out.lt
  clear HX3 HB3
  generalize (w3.alloc (.cells Try.zeroCells54 54)) = w4 at *
  generalize w3.heap.size = HA at *
  go_wp2
  go_loopw [6] (fun k wr => ∃ (j : Nat) (h : Nat → Bool), k = .int .i64 j ∧ j ≤ f.params.length ∧ Hid (∀ v : Nat, 1 ≤ v → v ≤ 200 → h v = false → (v : Int) ∉ f.params.take j) ∧ Blk wr HA 54 (hasC h) ∧ Blk wr w.heap.size 43 (fnC f pa pc ba bc) ∧ Below w.heap.size w wr) (fun k _ => f.params.length - (intOf k).toNat)
  case atStart => exact ⟨0, fun _ => false, rfl, Nat.zero_le _, fun v _ _ _ => by simp, HHA.out, HX4.out, HB4.out⟩
  case round =>
    obtain ⟨j, h, rfl, hj, HK, hA, hX, hBl⟩ := hrel
    have HA1 := Lib.hid hA
    have HX1 := Lib.hid hX
    have HB1 := Lib.hid hBl
    clear hA hX hBl HHA HX4 HB4
    obtain ⟨c0, c1⟩ := box2 HX1.out
    by_cases hlt : j < f.params.length
    · have hlt' : (j : Int) < f.params.length := by omega
      have hj0 : (0 : Int) ≤ j := by omega
      obtain ⟨x, hx⟩ : ∃ x, f.params[j]? = some x := ⟨_, List.getElem?_eq_getElem hlt⟩
      have hxv := HPV.out x (List.mem_of_getElem? hx)
      obtain ⟨u, rfl⟩ := Int.eq_ofNat_of_zero_le (show 0 ≤ x by omega)
      obtain ⟨g, o, rfl, hg, h0⟩ := (HF.out.below HB1.out).params j _ hx
      have hu : u ≤ 200 := by omega
      have a0 : wr.cell? ⟨HA, u, none⟩ = some (.bool (h u)) := (HA1.out.cell u).trans (hasC_get hu)
      have az := HA1.out.free u
      have hu1 : (u : Int) < 201 := by omega
      have hu0 : (0 : Int) ≤ u := by omega
      have HK2 : Hid (∀ v : Nat, 1 ≤ v → v ≤ 200 → (decide (v = u) || h v) = false → (v : Int) ∉ f.params.take (j + 1)) := fun v h1 h2 h3 hm => by
        simp only [Bool.or_eq_false_iff, decide_eq_false_iff_not] at h3
        rw [List.take_add_one, hx] at hm
        rcases List.mem_append.1 hm with hm | hm
        · exact HK.out v h1 h2 h3.2 hm
        · simp at hm
          exact h3.1 (by omega)
      have HN : Hid (Blk (wr.setCell ⟨HA, u, none⟩ (.bool true)) HA 54 (hasC (fun i => decide (i = u) || h i))) := by
        have := HA1.out.put u (.bool true)
        rw [hasC_set] at this
        exact this
      clear hx
      go_wp2
      go_roundw
      case rel => exact ⟨j + 1, _, by go_num, by omega, HK2, HN.out, HX1.out.far (by simp; omega) _, HB1.out.setCell (by simpa using hAw) _⟩
      case measure => simp [intOf]; omega
    · have e : j = f.params.length := by omega
      subst e
      have HK2 : Hid (∀ v : Nat, 1 ≤ v → v ≤ 200 → h v = false → Bare f v 0) := fun v h1 h2 h3 => by
        have := HK.out v h1 h2 h3
        rw [List.take_length] at this
        exact .zero this
      go_wp2
      clear c0 c1
      go_loopw [7, 8] (fun bk nk wr2 => ∃ (b n : Nat) (h : Nat → Bool), bk = .int .i64 b ∧ nk = .int .i64 n ∧ b < f.blocks.length ∧ n ≤ way.length ∧ Hid (∀ v : Nat, 1 ≤ v → v ≤ 200 → h v = false → Bare f v b) ∧ Blk wr2 HA 54 (hasC h) ∧ Blk wr2 w.heap.size 43 (fnC f pa pc ba bc) ∧ Below w.heap.size w wr2) (fun _ nk _ => way.length + 1 - (intOf nk).toNat)
      case atStart => exact ⟨0, 0, h, rfl, rfl, hpos, Nat.zero_le _, HK2.out, HA1.out, HX1.out, HB1.out⟩
      case round =>
        obtain ⟨b, n, h, rfl, rfl, hb, hn, HK, hA, hX, hBl⟩ := hrel
        have HA2 := Lib.hid hA
        have HX2 := Lib.hid hX
        have HB2 := Lib.hid hBl
        clear hA hX hBl HA1 HX1 HB1 HK2
        obtain ⟨c0, c1⟩ := box2 HX2.out
        have hn' : (n : Int) ≤ way.length := by omega
        have hb' : (b : Int) < f.blocks.length := by omega
        have hb0 : (0 : Int) ≤ b := by omega
        have hn0 : (0 : Int) ≤ n := by omega
        obtain ⟨x, hx⟩ : ∃ x, f.blocks[b]? = some x := ⟨_, List.getElem?_eq_getElem hb⟩
        obtain ⟨g, o, xa, xc, rfl, hg, hcw⟩ := HF.out.blocks b x hx
        have hc := hcw.below hg HB2.out
        obtain ⟨hx1, hx2, hx3⟩ := HSH.out.2.2.2.2 x (List.mem_of_getElem? hx)
        have HXI := Lib.hid hx2
        have HXT := Lib.hid hx3
        have HXX := Lib.hid hx
        have HNS := Lib.hid hcw.ins
        have HTO := Lib.hid (HDL.out b x hx)
        have d0 := hc.c0
        have d1 := hc.c1
        have d2 := hc.c2
        have d3 := hc.c3
        have d4 := hc.c4
        have HY3 : Hid (Blk (wr.alloc (.cells #[.slice xa x.ins.length xc, .int .i64 x.tm.kind, .int .i64 x.tm.a, .int .i64 x.tm.t0, .int .i64 x.tm.t1] 57)) wr.heap.size 57 (blC x xa xc)) := Blk.new wr _ _
        have HA3 : Hid (Blk (wr.alloc (.cells #[.slice xa x.ins.length xc, .int .i64 x.tm.kind, .int .i64 x.tm.a, .int .i64 x.tm.t0, .int .i64 x.tm.t1] 57)) HA 54 (hasC h)) := HA2.out.alloc _
        have HX3 : Hid (Blk (wr.alloc (.cells #[.slice xa x.ins.length xc, .int .i64 x.tm.kind, .int .i64 x.tm.a, .int .i64 x.tm.t0, .int .i64 x.tm.t1] 57)) w.heap.size 43 (fnC f pa pc (some ⟨g, o, none⟩) bc)) := HX2.out.alloc _
        have HB3 : Hid (Below w.heap.size w (wr.alloc (.cells #[.slice xa x.ins.length xc, .int .i64 x.tm.kind, .int .i64 x.tm.a, .int .i64 x.tm.t0, .int .i64 x.tm.t1] 57))) := HB2.out.alloc HB2.out.size _
        have hXA : HA < wr.heap.size := HA2.out.lt
        clear hx hc hcw hx2 hx3 HA2 HX2 HB2
        go_upto_region 15 with fail
        clear c0 c1 d0 d1 d2 d3 d4
        generalize (wr.alloc (.cells #[.slice xa x.ins.length xc, .int .i64 x.tm.kind, .int .i64 x.tm.a, .int .i64 x.tm.t0, .int .i64 x.tm.t1] 57)) = w5 at *
        generalize wr.heap.size = YB at *
        go_wp2
        go_loopw [10] (fun k wr3 => ∃ (i : Nat) (h : Nat → Bool), k = .int .i64 i ∧ i ≤ x.ins.length ∧ Hid (∀ v : Nat, 1 ≤ v → v ≤ 200 → h v = false → Bare f v b ∧ ∀ j z, j < i → x.ins[j]? = some z → z.dst ≠ (v : Int)) ∧ Blk wr3 HA 54 (hasC h) ∧ Blk wr3 w.heap.size 43 (fnC f pa pc (some ⟨g, o, none⟩) bc) ∧ Blk wr3 YB 57 (blC x xa xc) ∧ Below w.heap.size w wr3) (fun k _ => x.ins.length - (intOf k).toNat)
        case atStart => exact ⟨0, h, rfl, Nat.zero_le _, fun v h1 h2 h3 => ⟨HK.out v h1 h2 h3, fun j z hj => absurd hj (Nat.not_lt_zero _)⟩, HA3.out, HX3.out, HY3.out, HB3.out⟩
        case round =>
          obtain ⟨i, h, rfl, hi, HK3, hA, hX, hY, hBl⟩ := hrel
          have HA4 := Lib.hid hA
          have HX4 := Lib.hid hX
          have HY4 := Lib.hid hY
          have HB4 := Lib.hid hBl
          clear hA hX hY hBl HA3 HX3 HY3 HB3
          obtain ⟨d0, d1, d2, d3, d4⟩ := box5 HY4.out
          by_cases hlt2 : i < x.ins.length
          · have hlt2' : (i : Int) < x.ins.length := by omega
            have hi0 : (0 : Int) ≤ i := by omega
            obtain ⟨y, hy⟩ : ∃ y, x.ins[i]? = some y := ⟨_, List.getElem?_eq_getElem hlt2⟩
            obtain ⟨g2, o2, ya, yc, rfl, hg2, hc2w⟩ := HNS.out i y hy
            have hc2 := hc2w.below hg2 HB4.out
            have hyr := HXI.out y (List.mem_of_getElem? hy)
            obtain ⟨hyd, hya, hyb, hyargs⟩ := ins_parts hyr
            have hyf := ins_few hyr
            have HYY := Lib.hid hy
            have HAR := Lib.hid hc2w.args
            have hyn := hc2w.nil
            have HRD := Lib.hid (reads_any y ya yc wr (by omega) hc2w.nil (hc2w.args.below HB4.out))
            have HKEY : Hid (∀ r ∈ readsL y, ∃ u : Nat, r = u ∧ 1 ≤ u ∧ u ≤ 200 ∧ h u = true) := fun r hr => by
              have hm := (mem_reads hyr).1 hr
              have hrv : 1 ≤ r ∧ r ≤ 200 := by
                obtain ⟨hm | hm | hm, h0⟩ := hm
                · omega
                · omega
                · exact hyargs r hm
              obtain ⟨u, rfl⟩ := Int.eq_ofNat_of_zero_le (show 0 ≤ r by omega)
              refine ⟨u, rfl, by omega, by omega, ?_⟩
              cases hu : h u
              · obtain ⟨hb1, hb2⟩ := HK3.out u (by omega) (by omega) hu
                exact absurd ⟨b, x, HXX.out, hb1, bareIn_at hy hr hb2⟩ (HLA.out u (by omega))
              · rfl
            have hdef : definesN y = y.dst := by unfold definesN; rw [if_pos hyr]
            have HDF : Hid (∀ W, Below w.heap.size w W → Calls Try.prog 18 #[insV y ya yc] W fun e w' => e = .returned (.int .i64 y.dst) ∧ Below W.heap.size W w') := fun W hW => by
              have := defines_any y ya yc W (by omega) (HAR.out.below hW)
              rw [hdef] at this
              exact this
            have HCC : Hid (∀ W, Below w.heap.size w W → InAt W g2 (o2 + i * 8) y ya yc) := fun W hW => hc2w.below hg2 hW
            have h0 := hc2.c0
            have h1 := hc2.c1
            have h2 := hc2.c2
            have h3 := hc2.c3
            have h4 := hc2.c4
            have h5 := hc2.c5
            have h6 := hc2.c6
            have h7 := hc2.c7
            clear hy hc2 hc2w hyr hyargs hyn hdef
            unfold insV at HRD HDF
            go_wp2_with fail
            refine HRD.out.mono ?_
            rintro e w6 ⟨v, rfl, hv, hb6⟩
            have HA5 := Lib.hid (HA4.out.below hb6 HA4.out.lt)
            have HX5 := Lib.hid (HX4.out.below hb6 HX4.out.lt)
            have HY5 := Lib.hid (HY4.out.below hb6 HY4.out.lt)
            have HB5 := Lib.hid (HB4.out.trans (hb6.mono HB4.out.size))
            obtain ⟨ra, rc, rfl, _, hri⟩ := hv.shape
            have HRI := Lib.hid hri
            clear HRD hv hb6 hri h0 h1 h2 h3 h4 h5 h6 h7 d0 d1 d2 d3 d4 HA4 HX4 HY4 HB4
            have hrl : (readsL y).length ≤ 10 := reads_few y
            generalize readsL y = rl at *
            go_wp2
            go_loopw [12] (fun k wr4 => ∃ q : Nat, k = .int .i64 q ∧ q ≤ rl.length ∧ w6 = wr4) (fun k _ => rl.length - (intOf k).toNat)
            case atStart => exact ⟨0, rfl, Nat.zero_le _, rfl⟩
            case round =>
              obtain ⟨q, rfl, hq, rfl⟩ := hrel
              by_cases hlt3 : q < rl.length
              · have hlt3' : (q : Int) < rl.length := by omega
                have hq0 : (0 : Int) ≤ q := by omega
                obtain ⟨r, hr⟩ : ∃ r, rl[q]? = some r := ⟨_, List.getElem?_eq_getElem hlt3⟩
                obtain ⟨u, rfl, hu1, hu2, hu3⟩ := HKEY.out r (List.mem_of_getElem? hr)
                obtain ⟨g3, o3, rfl, hg3, r0⟩ := HRI.out q _ hr
                have a0 : w6.cell? ⟨HA, u, none⟩ = some (.bool (h u)) := (HA5.out.cell u).trans (hasC_get hu2)
                rw [hu3] at a0
                have hu4 : (u : Int) < 201 := by omega
                have hu5 : (0 : Int) ≤ u := by omega
                clear hr
                go_wp2
                go_roundw
                case rel => exact ⟨q + 1, by go_num, by omega, trivial⟩
                case measure => simp [intOf]; omega
              · have hlt3' : ¬ (q : Int) < rl.length := by omega
                obtain ⟨d0, d1, d2, d3, d4⟩ := box5 HY5.out
                have hc2 := HCC.out _ HB5.out
                have h0 := hc2.c0
                have h1 := hc2.c1
                have h2 := hc2.c2
                have h3 := hc2.c3
                have h4 := hc2.c4
                have h5 := hc2.c5
                have h6 := hc2.c6
                have h7 := hc2.c7
                have HD := Lib.hid (HDF.out _ HB5.out)
                clear hc2
                go_wp2_with fail
                refine HD.out.mono ?_
                rintro e w7 ⟨rfl, hb7⟩
                have HA6 := Lib.hid (HA5.out.below hb7 HA5.out.lt)
                have HX6 := Lib.hid (HX5.out.below hb7 HX5.out.lt)
                have HY6 := Lib.hid (HY5.out.below hb7 HY5.out.lt)
                have HB6 := Lib.hid (HB5.out.trans (hb7.mono HB5.out.size))
                clear hb7 HD h0 h1 h2 h3 h4 h5 h6 h7 d0 d1 d2 d3 d4 HA5 HX5 HY5 HB5 HRI
                obtain ⟨dd, hdd⟩ := Int.eq_ofNat_of_zero_le hyd.1
                have HDD := Lib.hid hdd
                have hdu : dd ≤ 200 := by omega
                rw [hdd]
                clear hdd hyd
                have a0 : w7.cell? ⟨HA, dd, none⟩ = some (.bool (h dd)) := (HA6.out.cell dd).trans (hasC_get hdu)
                have az := HA6.out.free dd
                have hd4 : (dd : Int) < 201 := by omega
                have hd5 : (0 : Int) ≤ dd := by omega
                have HN : Hid (Blk (w7.setCell ⟨HA, dd, none⟩ (.bool true)) HA 54 (hasC (fun i => decide (i = dd) || h i))) := by
                  have := HA6.out.put dd (.bool true)
                  rw [hasC_set] at this
                  exact this
                have HK4 : Hid (∀ v : Nat, 1 ≤ v → v ≤ 200 → (decide (v = dd) || h v) = false → Bare f v b ∧ ∀ j z, j < i + 1 → x.ins[j]? = some z → z.dst ≠ (v : Int)) := fun v h1 h2 h3 => by
                  simp only [Bool.or_eq_false_iff, decide_eq_false_iff_not] at h3
                  obtain ⟨k1, k2⟩ := HK3.out v h1 h2 h3.2
                  refine ⟨k1, fun j z hj hz => ?_⟩
                  by_cases e : j = i
                  · subst e
                    rw [HYY.out] at hz
                    rw [← Option.some.inj hz, HDD.out]
                    intro e2
                    exact h3.1 (by omega)
                  · exact k2 j z (by omega) hz
                have hAY : YB ≠ HA := by
                  intro e
                  have q1 := HY6.out
                  have q2 := HA6.out
                  rw [e] at q1
                  unfold Blk at q1 q2
                  rw [q1] at q2
                  injection q2 with q2
                  injection q2 with _ q2
                  exact absurd q2 (by decide)
                go_wp2
                go_roundw
                case rel => exact ⟨i + 1, _, by go_num, by omega, HK4, HN.out, HX6.out.far (by simp; omega) _, HY6.out.far (by simpa using hAY) _, HB6.out.setCell (by simpa using hAw) _⟩
                case measure => simp [intOf]; omega
          · have hlt2' : ¬ (i : Int) < x.ins.length := by omega
            have e : i = x.ins.length := by omega
            subst e
            have HK5 : Hid (∀ v : Nat, 1 ≤ v → v ≤ 200 → h v = false → Bare f v b ∧ ∀ z ∈ x.ins, z.dst ≠ (v : Int)) := fun v h1 h2 h3 => by
              obtain ⟨k1, k2⟩ := HK3.out v h1 h2 h3
              refine ⟨k1, fun z hz => ?_⟩
              obtain ⟨j, hj, hjz⟩ := List.getElem_of_mem hz
              exact k2 j z hj (by rw [List.getElem?_eq_getElem hj, hjz])
            have HKN : Hid (∀ r ∈ needsL x.tm, ∃ u : Nat, r = u ∧ 1 ≤ u ∧ u ≤ 200 ∧ h u = true) := fun r hr => by
              have hm := (mem_needs HXT.out).1 hr
              have htp := term_part HXT.out
              obtain ⟨u, rfl⟩ := Int.eq_ofNat_of_zero_le (show 0 ≤ r by omega)
              refine ⟨u, rfl, by omega, by omega, ?_⟩
              cases hu : h u
              · obtain ⟨hb1, hb2⟩ := HK5.out u (by omega) (by omega) hu
                exact absurd ⟨b, x, HXX.out, hb1, bareIn_end hr hb2⟩ (HLA.out u (by omega))
              · rfl
            have hnf : (needsL x.tm).length ≤ 1 := by
              unfold needsL
              split
              · unfold givenL
                refine Nat.le_trans (List.length_filter_le _ _) ?_
                simp
              · simp
            have HND := Lib.hid (needs_any x.tm wr)
            unfold termV at HND
            go_wp2_with fail
            refine HND.out.mono ?_
            rintro e w6 ⟨v, rfl, hv, hb6⟩
            have HA5 := Lib.hid (HA4.out.below hb6 HA4.out.lt)
            have HX5 := Lib.hid (HX4.out.below hb6 HX4.out.lt)
            have HY5 := Lib.hid (HY4.out.below hb6 HY4.out.lt)
            have HB5 := Lib.hid (HB4.out.trans (hb6.mono HB4.out.size))
            obtain ⟨ra, rc, rfl, _, hri⟩ := hv.shape
            have HRI := Lib.hid hri
            clear HND hv hb6 hri d0 d1 d2 d3 d4 HA4 HX4 HY4 HB4 HK3
            generalize needsL x.tm = nl at *
            have HTD := Lib.hid (to_any x.tm w6)
            unfold termV at HTD
            obtain ⟨d0, d1, d2, d3, d4⟩ := box5 HY5.out
            go_wp2_with fail
            refine HTD.out.mono ?_
            rintro e w7 ⟨v, rfl, hv, hb7⟩
            have HA6 := Lib.hid (HA5.out.below hb7 HA5.out.lt)
            have HX6 := Lib.hid (HX5.out.below hb7 HX5.out.lt)
            have HB6 := Lib.hid (HB5.out.trans (hb7.mono HB5.out.size))
            have HRI6 := Lib.hid (HRI.out.below hb7)
            obtain ⟨ta, tc, rfl, _, hti⟩ := hv.shape
            have HTI := Lib.hid hti
            have htf := toL_few x.tm
            have HST : Hid (∀ t ∈ toL x.tm, ∃ c : Nat, t = c ∧ 1 ≤ c ∧ c < f.blocks.length ∧ ∀ v : Nat, 1 ≤ v → v ≤ 200 → h v = false → Bare f v c) := fun t ht => by
              obtain ⟨h1, h2⟩ := HTO.out t ht
              obtain ⟨c, rfl⟩ := Int.eq_ofNat_of_zero_le (show 0 ≤ t by omega)
              refine ⟨c, rfl, by omega, by omega, fun v v1 v2 v3 => ?_⟩
              obtain ⟨k1, k2⟩ := HK5.out v v1 v2 v3
              refine .step k1 HXX.out (fun hm => ?_) ht
              unfold defsL at hm
              obtain ⟨z, hz, hzv⟩ := List.mem_map.1 hm
              exact k2 z hz hzv
            clear HTD hv hb7 hti d0 d1 d2 d3 d4 HA5 HX5 HY5 HB5 HRI HTO HK5
            generalize toL x.tm = tl at *
            -- what the end needs has a value
            have HGO : Hid (nl = [] ∨ ∃ u : Nat, nl = [(u : Int)] ∧ 1 ≤ u ∧ u ≤ 200 ∧ h u = true) := by
              cases nl with
              | nil => exact .inl rfl
              | cons r l =>
                cases l with
                | nil =>
                  obtain ⟨u, rfl, h1, h2, h3⟩ := HKN.out r (by simp)
                  exact .inr ⟨u, rfl, h1, h2, h3⟩
                | cons _ _ => simp at hnf
            rcases HGO.out with rfl | ⟨u, rfl, hu1, hu2, hu3⟩
            · have hz : True := trivial
              by_cases htl : tl.length = 0
              · have q : ((tl.length : Int) == 0) = true := by simp [htl]
                clear htl
                go_wp2
                go_ret
                exact ⟨rfl, HB6.out⟩
              · have q : ((tl.length : Int) == 0) = false := by rw [beq_eq_false_iff_ne]; omega
                have htl1 : 1 ≤ (tl.length : Int) := by omega
                by_cases hnw : n = way.length
                · have q2 : ((n : Int) == (way.length : Int)) = true := by simp [hnw]
                  clear hnw
                  go_wp2
                  go_ret
                  exact ⟨rfl, HB6.out⟩
                · have q2 : ((n : Int) == (way.length : Int)) = false := by rw [beq_eq_false_iff_ne]; omega
                  have hnl : n < way.length := by omega
                  have hnl' : (n : Int) < way.length := by omega
                  obtain ⟨wn, hwn⟩ : ∃ wn, way[n]? = some wn := ⟨_, List.getElem?_eq_getElem hnl⟩
                  obtain ⟨g4, o4, rfl, hg4, w0⟩ := (HWY.out.below HB6.out) n wn hwn
                  have HP := Lib.hid (pick_any wn tl.length w7 ⟨htl1, by omega⟩)
                  clear hwn hnw htl
                  go_wp2_with fail
                  refine HP.out.mono ?_
                  rintro e w8 ⟨⟨k, rfl, hk⟩, rfl⟩
                  have hk' : k < tl.length := by omega
                  have hk0 : (0 : Int) ≤ k := by omega
                  obtain ⟨t, ht⟩ : ∃ t, tl[k]? = some t := ⟨_, List.getElem?_eq_getElem hk'⟩
                  obtain ⟨c, rfl, hc1, hc2, hc3⟩ := HST.out t (List.mem_of_getElem? ht)
                  obtain ⟨g5, o5, rfl, hg5, t0⟩ := HTI.out k _ ht
                  have HC3 := Lib.hid hc3
                  obtain ⟨p0, p1⟩ := box2 HX6.out
                  have hcA : ¬ (c : Int) < 1 := by omega
                  have hcB : ¬ (f.blocks.length : Int) ≤ c := by omega
                  clear ht hc3
                  go_wp2
                  go_roundw
                  case rel => exact ⟨c, n + 1, h, rfl, by go_num, hc2, by omega, HC3.out, HA6.out, HX6.out, HB6.out⟩
                  case measure => simp [intOf]; omega
            · obtain ⟨g3, o3, rfl, hg3, r0⟩ := HRI6.out 0 _ rfl
              simp only [Nat.add_zero] at r0
              have a0 : w7.cell? ⟨HA, u, none⟩ = some (.bool (h u)) := (HA6.out.cell u).trans (hasC_get hu2)
              rw [hu3] at a0
              have hu4 : (u : Int) < 201 := by omega
              have hu5 : (0 : Int) ≤ u := by omega
              by_cases htl : tl.length = 0
              · have q : ((tl.length : Int) == 0) = true := by simp [htl]
                clear htl
                go_wp2
                go_ret
                exact ⟨rfl, HB6.out⟩
              · have q : ((tl.length : Int) == 0) = false := by rw [beq_eq_false_iff_ne]; omega
                have htl1 : 1 ≤ (tl.length : Int) := by omega
                by_cases hnw : n = way.length
                · have q2 : ((n : Int) == (way.length : Int)) = true := by simp [hnw]
                  clear hnw
                  go_wp2
                  go_ret
                  exact ⟨rfl, HB6.out⟩
                · have q2 : ((n : Int) == (way.length : Int)) = false := by rw [beq_eq_false_iff_ne]; omega
                  have hnl : n < way.length := by omega
                  have hnl' : (n : Int) < way.length := by omega
                  obtain ⟨wn, hwn⟩ : ∃ wn, way[n]? = some wn := ⟨_, List.getElem?_eq_getElem hnl⟩
                  obtain ⟨g4, o4, rfl, hg4, w0⟩ := (HWY.out.below HB6.out) n wn hwn
                  have HP := Lib.hid (pick_any wn tl.length w7 ⟨htl1, by omega⟩)
                  clear hwn hnw htl
                  go_wp2_with fail
                  refine HP.out.mono ?_
                  rintro e w8 ⟨⟨k, rfl, hk⟩, rfl⟩
                  have hk' : k < tl.length := by omega
                  have hk0 : (0 : Int) ≤ k := by omega
                  obtain ⟨t, ht⟩ : ∃ t, tl[k]? = some t := ⟨_, List.getElem?_eq_getElem hk'⟩
                  obtain ⟨c, rfl, hc1, hc2, hc3⟩ := HST.out t (List.mem_of_getElem? ht)
                  obtain ⟨g5, o5, rfl, hg5, t0⟩ := HTI.out k _ ht
                  have HC3 := Lib.hid hc3
                  obtain ⟨p0, p1⟩ := box2 HX6.out
                  have hcA : ¬ (c : Int) < 1 := by omega
                  have hcB : ¬ (f.blocks.length : Int) ≤ c := by omega
                  clear ht hc3
                  go_wp2
                  go_roundw
                  case rel => exact ⟨c, n + 1, h, rfl, by go_num, hc2, by omega, HC3.out, HA6.out, HX6.out, HB6.out⟩
                  case measure => simp [intOf]; omega
end Go.Proofs.Ytiffhanodebgmaa
