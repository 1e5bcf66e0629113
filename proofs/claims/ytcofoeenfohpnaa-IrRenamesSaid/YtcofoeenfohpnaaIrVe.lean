/-
  What IrRenames answers, for whatever function lies in memory. No condition beyond those that each theorem states.
-/
import Derived.Test.YtcofoeenfohpnaaIrVd
namespace Go.Proofs.Ytcofoeenfohpnaa
open Go.RowKit

theorem right_exists (f : Ff) : ∃ n, RightIs f n := by
  by_cases h1 : shapeN f = 0
  · by_cases h2 : LostB f
    · exact ⟨9, fun h => absurd h1 h, fun _ _ => rfl, fun _ h => absurd h2 h, fun _ h => absurd h2 h⟩
    · by_cases h3 : ∃ v : Int, v ≠ 0 ∧ LacksV f v
      · exact ⟨8, fun h => absurd h1 h, fun _ h => absurd h h2, fun _ _ _ => rfl, fun _ _ h => by
          obtain ⟨v, h4, h5⟩ := h3
          exact absurd h5 (h v h4)⟩
      · exact ⟨0, fun h => absurd h1 h, fun _ h => absurd h h2, fun _ _ h => absurd h h3, fun _ _ _ => rfl⟩
  · exact ⟨shapeN f, fun _ => rfl, fun h => absurd h h1, fun h => absurd h h1, fun h => absurd h h1⟩
theorem ren_rightN {k : Nat} (hk : k < 200) (f : Ff) : rightNV (renF k f) = rightNV f :=
  (right_isV (ren_right hk (Classical.epsilon_spec (right_exists f)))).symm
theorem ren_small {k : Nat} {f : Ff} (h : SmallF f) : SmallF (renF k f) := by
  refine ⟨by simpa [renF] using h.p, by simpa [renF] using h.b, fun x hx => ?_⟩
  obtain ⟨y, hy, rfl⟩ := List.mem_map.1 (show x ∈ f.blocks.map (renB k) from hx)
  obtain ⟨h1, h2⟩ := h.i y hy
  refine ⟨by simpa [renB] using h1, fun i hi => ?_⟩
  obtain ⟨z, hz, rfl⟩ := List.mem_map.1 (show i ∈ y.ins.map (renI k) from hi)
  simpa [renI] using h2 z hz
theorem ren_fnV (k : Nat) (f : Ff) (pa : Option Addr) (pc : Nat) (ba : Option Addr) (bc : Nat) : fnV (renF k f) pa pc ba bc = fnV f pa pc ba bc := by
  unfold fnV fnC
  simp [renF]
def xC (tm : Tt) (n : Nat) (xa : Option Addr) (xc : Nat) : Array Value := #[.slice xa n xc, .int .i64 tm.kind, .int .i64 tm.a, .int .i64 tm.t0, .int .i64 tm.t1]
set_option maxHeartbeats 8000000 in
set_option maxRecDepth 100000 in
theorem renames_any (f : Ff) (pa : Option Addr) (pc : Nat) (ba : Option Addr) (bc : Nat) (z : Int) (w : World) (hB : BigF f) (hF : FnW w f pa pc ba bc) :
    Calls Try.prog 6 #[fnV f pa pc ba bc, .int .i64 z] w fun e w' => e = .returned (.bool true) ∧ Below w.heap.size w w' := by
  have HF := Lib.hid hF
  have HBG := Lib.hid hB
  have HX0 : Hid (Blk (w.alloc (.cells (fnC f pa pc ba bc) 43)) w.heap.size 43 (fnC f pa pc ba bc)) := Blk.new w _ _
  have HW0 : Hid (Below w.heap.size w (w.alloc (.cells (fnC f pa pc ba bc) 43))) := (Below.refl _ w).alloc (Nat.le_refl _) _
  have HC := Lib.hid (awakeI_any (w.alloc (.cells (fnC f pa pc ba bc) 43)))
  clear hB hF
  unfold fnV fnC
  unfold fnC at HC
  go_enter Try.func6, Try.ntmps6
  go_wp2_with fail
  refine HC.out.mono ?_
  rintro e w0 ⟨rfl, hb1⟩
  have HX1 : Hid (Blk w0 w.heap.size 43 (fnC f pa pc ba bc)) := Lib.hid (HX0.out.below hb1 HX0.out.lt)
  have HB1 : Hid (Below w.heap.size w w0) := Lib.hid (HW0.out.trans (hb1.mono HW0.out.size))
  clear HC hb1 HX0 HW0
  obtain ⟨c0, c1⟩ := box2 HX1.out
  have HC := Lib.hid (funcOf_any f pa pc ba bc w0 HBG.out (HF.out.below HB1.out))
  unfold fnV fnC at HC
  go_wp2_with fail
  refine HC.out.mono ?_
  rintro e w1 ⟨⟨n, rfl, hn⟩, hb2⟩
  have HX2 : Hid (Blk w1 w.heap.size 43 (fnC f pa pc ba bc)) := Lib.hid (HX1.out.below hb2 HX1.out.lt)
  have HB2 : Hid (Below w.heap.size w w1) := Lib.hid (HB1.out.trans (hb2.mono HB1.out.size))
  clear HC hb2 HX1 HB1 c0 c1
  by_cases hbig : 700 < n
  case pos =>
    have hbig' : (700 : Int) < n := by omega
    clear hn
    go_wp2
    go_ret
    exact ⟨rfl, HB2.out⟩
  have hbig' : ¬ (700 : Int) < n := by omega
  obtain ⟨hpl, hfew⟩ := hn (by omega)
  have HSM : Hid (SmallF f) := ⟨by omega, by have := hfew.1; omega, fun x hx => ⟨by have := (hfew.2 x hx).1; omega, fun i hi => by have := (hfew.2 x hx).2 i hi; omega⟩⟩
  have HF2 : Hid (∀ x ∈ f.blocks, x.ins.length ≤ 1000 ∧ ∀ y ∈ x.ins, y.args.length ≤ 1000) := Lib.hid fun x hx => ⟨by have := (hfew.2 x hx).1; omega, fun i hi => by have := (hfew.2 x hx).2 i hi; omega⟩
  have hbl : f.blocks.length ≤ 700 := hfew.1
  clear hn hfew hbig
  have HC := Lib.hid (copyFunc_any f pa pc ba bc w1 (by omega) (by omega) HF2.out (HF.out.below HB2.out))
  unfold fnV fnC at HC
  obtain ⟨c0, c1⟩ := box2 HX2.out
  go_wp2_with fail
  refine HC.out.mono ?_
  rintro e w2 ⟨qa, qk, da, dk, es, rfl, hcf, hb3⟩
  obtain ⟨hH, hA, hT⟩ := hcf.holds 0
  have hfar := fun p v hp => @CFn.far _ _ _ _ _ _ _ _ hcf p v hp
  have hsame := hcf.same
  have hqn := hcf.pn
  have hdn := hcf.bn
  clear hH
  have HHK : Hid (∀ k, Hold w2 (geoOf qa da es) f.params es k (fun _ => False)) := Lib.hid fun k => (hcf.holds k).1
  generalize geoOf qa da es = G at hA hT hfar HHK
  have HX3 : Hid (Blk (w2.alloc (.cells (fnC f qa qk da dk) 43)) w.heap.size 43 (fnC f pa pc ba bc)) := Lib.hid ((HX2.out.below hb3 HX2.out.lt).alloc _)
  have HY3 : Hid (Blk (w2.alloc (.cells (fnC f qa qk da dk) 43)) w2.heap.size 43 (fnC f qa qk da dk)) := Lib.hid (Blk.new w2 _ _)
  have HB3 : Hid (Below w.heap.size w (w2.alloc (.cells (fnC f qa qk da dk) 43))) := Lib.hid ((HB2.out.trans (hb3.mono HB2.out.size)).alloc (Nat.le_trans HB2.out.size hb3.size) _)
  have HFAR : Hid (∀ p v, ValP f.params es p v → w.heap.size ≤ (G.at p).block) := Lib.hid fun p v hp => Nat.le_trans HB2.out.size (hfar p v hp)
  have HAP := Lib.hid hA
  have HT := Lib.hid hT
  have HHK3 : Hid (∀ k, Hold (w2.alloc (.cells (fnC f qa qk da dk) 43)) G f.params es k (fun _ => False)) := Lib.hid fun k => (HHK.out k).below ((Below.refl _ w2).alloc (Nat.le_refl _) _)
  have HES := Lib.hid hsame
  have hel : es.length = f.blocks.length := by have := congrArg List.length hsame; simpa using this
  have HQN := Lib.hid hqn
  have HDN := Lib.hid hdn
  have hYw : w.heap.size ≤ w2.heap.size := Nat.le_trans HB2.out.size hb3.size
  clear hcf hb3 HC HX2 HB2 HHK hA hT hfar hsame hqn hdn
  go_upto_region 6 with fail
  clear c0 c1
  change Code.wp _ _ _ _ (w2.alloc (.cells (fnC f qa qk da dk) 43))
  generalize (w2.alloc (.cells (fnC f qa qk da dk) 43)) = W3 at HX3 HY3 HB3 HHK3 ⊢
  generalize w2.heap.size = Y at HY3 hYw ⊢
  go_wp2_with fail
  refine (pick_any z 200 _ (by omega)).mono ?_
  rintro e w4 ⟨⟨k, rfl, hk⟩, rfl⟩
  have hk200 : k < 200 := by omega
  have HH3 := Lib.hid ((HHK3.out k).same (S' := DoneP 0) (fun q u _ => by cases q <;> simp [DoneP]))
  have HR : Hid (∀ v W, Calls Try.prog 37 #[.int .i64 v, .int .i64 k] W fun e w' => e = .returned (.int .i64 (renV k v)) ∧ W = w') := Lib.hid fun v W => renamed_any v k W hk200
  clear HHK3 hk
  go_wp2
  go_loopw [7] (fun i wr => ∃ (j : Nat), i = .int .i64 j ∧ j ≤ f.params.length ∧ Hold wr G f.params es k (DoneP j) ∧ Blk wr Y 43 (fnC f qa qk da dk) ∧ Blk wr w.heap.size 43 (fnC f pa pc ba bc) ∧ Below w.heap.size w wr) (fun i _ => f.params.length - (intOf i).toNat)
  case atStart => exact ⟨0, rfl, Nat.zero_le _, HH3.out, HY3.out, HX3.out, HB3.out⟩
  case round =>
    obtain ⟨j, rfl, hj, hH, hY, hX, hB⟩ := hrel
    clear HH3 HY3 HX3 HB3
    have HH := Lib.hid hH
    have HY := Lib.hid hY
    have HX := Lib.hid hX
    have HB := Lib.hid hB
    clear hH hY hX hB
    obtain ⟨y0, y1⟩ := box2 HY.out
    by_cases hlt : j < f.params.length
    · have hlt' : (j : Int) < f.params.length := by omega
      have hj0 : (0 : Int) ≤ j := by omega
      obtain ⟨v, hv⟩ : ∃ v, f.params[j]? = some v := ⟨_, List.getElem?_eq_getElem hlt⟩
      have hqa := HT.out.par (not_nil hv)
      have hp : ValP f.params es (.p j) v := hv
      have k0 : wr.cell? ⟨G.PB, j, none⟩ = some (.int .i64 v) := HH.out.todo _ _ hp (by simp [DoneP])
      have g0 : wr.frozen? ⟨G.PB, j, none⟩ = false := HH.out.free hp
      have hPl : G.PB < wr.heap.size := HH.out.lt hp
      have HHN : Hid (Hold (wr.setCell ⟨G.PB, j, none⟩ (.int .i64 (renV k v))) G f.params es k (DoneP (j + 1))) := Lib.hid (HH.out.put HAP.out hp (fun q _ _ => doneP_more j q))
      have HYN : Hid (Blk (wr.setCell ⟨G.PB, j, none⟩ (.int .i64 (renV k v))) Y 43 (fnC f qa qk da dk)) := Lib.hid (HH.out.box hp HY.out _)
      have HXN : Hid (Blk (wr.setCell ⟨G.PB, j, none⟩ (.int .i64 (renV k v))) w.heap.size 43 (fnC f pa pc ba bc)) := Lib.hid (HH.out.box hp HX.out _)
      have HBN : Hid (Below w.heap.size w (wr.setCell ⟨G.PB, j, none⟩ (.int .i64 (renV k v)))) := Lib.hid (HB.out.setCell (p := ⟨G.PB, j, none⟩) (HFAR.out _ _ hp) _)
      have HRV := Lib.hid (HR.out v)
      rw [hqa] at y0 HYN ⊢
      generalize renV k v = v2 at HHN HYN HXN HBN HRV
      clear hv hp
      go_wp2_with fail
      go_region_with (go_at_call 37; refine (HRV.out _).mono ?_; rintro e w9 ⟨rfl, rfl⟩)
      all_goals
        go_wp2
        go_roundw
        case rel => exact ⟨j + 1, by go_num, by omega, HHN.out.drew, HYN.out.drew, HXN.out.drew, below_drewN HBN.out 1⟩
        case measure => simp [intOf]; omega
    · have e : j = f.params.length := by omega
      subst e
      have hlt' : ¬ (f.params.length : Int) < f.params.length := by omega
      have HH0 : Hid (Hold wr G f.params es k (DoneB 0 0 0 0)) := Lib.hid (HH.out.same (fun q u h => doneB_start q u h))
      clear HH
      go_wp2
      clear y0 y1 hlt hlt'
      go_loopw [8] (fun i wr => ∃ (b : Nat), i = .int .i64 b ∧ b ≤ es.length ∧ Hold wr G f.params es k (DoneB b 0 0 0) ∧ Blk wr Y 43 (fnC f qa qk da dk) ∧ Blk wr w.heap.size 43 (fnC f pa pc ba bc) ∧ Below w.heap.size w wr) (fun i _ => es.length - (intOf i).toNat)
      case atStart => exact ⟨0, rfl, Nat.zero_le _, HH0.out, HY.out, HX.out, HB.out⟩
      case round =>
        obtain ⟨b, rfl, hb, hH, hY, hX, hB⟩ := hrel
        clear HH0 HY HX HB
        have HH := Lib.hid hH
        have HY := Lib.hid hY
        have HX := Lib.hid hX
        have HB := Lib.hid hB
        clear hH hY hX hB
        obtain ⟨y0, y1⟩ := box2 HY.out
        by_cases hlb : b < es.length
        · have hlb' : (b : Int) < f.blocks.length := by omega
          have hb0 : (0 : Int) ≤ b := by omega
          obtain ⟨⟨tm, is, xa, xc⟩, he⟩ : ∃ e, es[b]? = some e := ⟨_, List.getElem?_eq_getElem hlb⟩
          have HE := Lib.hid he
          have hbb : beB (tm, is, xa, xc) ∈ f.blocks := by
            rw [← HES.out]
            exact List.mem_map.2 ⟨_, List.mem_of_getElem? he, rfl⟩
          have hisl : is.length ≤ 1000 := by
            have := (HF2.out _ hbb).1
            simpa [beB] using this
          have HAL : Hid (∀ y ∈ is, y.1.args.length ≤ 1000) := Lib.hid fun y hy => (HF2.out _ hbb).2 y.1 (List.mem_map.2 ⟨y, hy, rfl⟩)
          clear hbb
          have hda : da = some ⟨G.BB, 0, none⟩ := HT.out.bls (not_nil he)
          have hpt : ValP f.params es (.t b) tm.a := ⟨_, he, rfl⟩
          have c0 : wr.cell? ⟨G.BB, b * 5, none⟩ = some (.slice xa is.length xc) := HH.out.con _ _ (.blk (j := 0) he (by omega) (by omega) rfl)
          have c1 : wr.cell? ⟨G.BB, b * 5 + 1, none⟩ = some (.int .i64 tm.kind) := HH.out.con _ _ (.blk (j := 1) he (by omega) (by omega) rfl)
          have c2 : wr.cell? ⟨G.BB, b * 5 + 2, none⟩ = some (.int .i64 tm.a) := HH.out.todo _ _ hpt (by simp [DoneB])
          have c3 : wr.cell? ⟨G.BB, b * 5 + 3, none⟩ = some (.int .i64 tm.t0) := HH.out.con _ _ (.blk (j := 3) he (by omega) (by omega) rfl)
          have c4 : wr.cell? ⟨G.BB, b * 5 + 4, none⟩ = some (.int .i64 tm.t1) := HH.out.con _ _ (.blk (j := 4) he (by omega) (by omega) rfl)
          subst hda
          have HK3 : Hid (Blk (wr.alloc (.cells (xC tm is.length xa xc) 57)) wr.heap.size 57 (xC tm is.length xa xc)) := Lib.hid (Blk.new wr _ _)
          have HH3 : Hid (Hold (wr.alloc (.cells (xC tm is.length xa xc) 57)) G f.params es k (DoneB b 0 0 0)) := Lib.hid (HH.out.below ((Below.refl _ wr).alloc (Nat.le_refl _) _))
          have HY3 : Hid (Blk (wr.alloc (.cells (xC tm is.length xa xc) 57)) Y 43 (fnC f qa qk (some ⟨G.BB, 0, none⟩) dk)) := Lib.hid (HY.out.alloc _)
          have HX3 : Hid (Blk (wr.alloc (.cells (xC tm is.length xa xc) 57)) w.heap.size 43 (fnC f pa pc ba bc)) := Lib.hid (HX.out.alloc _)
          have HB3 : Hid (Below w.heap.size w (wr.alloc (.cells (xC tm is.length xa xc) 57))) := Lib.hid (HB.out.alloc HB.out.size _)
          clear he hpt HH HX HY HB
          go_upto_region 15 with fail
          clear c0 c1 c2 c3 c4 y0 y1
          change Code.wp _ _ _ _ (wr.alloc (.cells (xC tm is.length xa xc) 57))
          generalize (wr.alloc (.cells (xC tm is.length xa xc) 57)) = W5 at HK3 HH3 HY3 HX3 HB3 ⊢
          generalize wr.heap.size = X0 at HK3 ⊢
          go_wp2
          go_loopw [10] (fun i wr => ∃ (j : Nat), i = .int .i64 j ∧ j ≤ is.length ∧ Hold wr G f.params es k (DoneB b j 0 0) ∧ Blk wr Y 43 (fnC f qa qk (some ⟨G.BB, 0, none⟩) dk) ∧ Blk wr w.heap.size 43 (fnC f pa pc ba bc) ∧ Blk wr X0 57 (xC tm is.length xa xc) ∧ Below w.heap.size w wr) (fun i _ => is.length - (intOf i).toNat)
          case atStart => exact ⟨0, rfl, Nat.zero_le _, HH3.out, HY3.out, HX3.out, HK3.out, HB3.out⟩
          case round =>
            obtain ⟨i, rfl, hi, hH, hY, hX, hK, hB⟩ := hrel
            clear HH3 HY3 HX3 HK3 HB3
            have HH := Lib.hid hH
            have HY := Lib.hid hY
            have HX := Lib.hid hX
            have HK := Lib.hid hK
            have HB := Lib.hid hB
            clear hH hY hX hK hB
            by_cases hli : i < is.length
            · have hli' : (i : Int) < is.length := by omega
              have hi0 : (0 : Int) ≤ i := by omega
              obtain ⟨⟨y0, ya, yc⟩, hy⟩ : ∃ y, is[i]? = some y := ⟨_, List.getElem?_eq_getElem hli⟩
              have HYY := Lib.hid hy
              have hyl : y0.args.length ≤ 1000 := HAL.out _ (List.mem_of_getElem? hy)
              have hxa := HT.out.rows b _ HE.out (not_nil hy)
              have hxa : xa = some ⟨G.RB b, 0, none⟩ := hxa
              clear hy
              subst hxa
              have b0 : wr.cell? ⟨X0, 0, none⟩ = some (.slice (some ⟨G.RB b, 0, none⟩) is.length xc) := HK.out.cell 0
              obtain ⟨wx, rfl⟩ : ∃ W, W = wr := ⟨wr, rfl⟩
              go_upto_region 18 with fail
              clear b0
              have hpd : ValP f.params es (.d b i) y0.dst := ⟨_, _, HE.out, HYY.out, rfl⟩
              have k0 : wx.cell? ⟨G.RB b, i * 8 + 1, none⟩ = some (.int .i64 y0.dst) := HH.out.todo _ _ hpd (by simp [DoneB])
              have g0 : wx.frozen? ⟨G.RB b, i * 8 + 1, none⟩ = false := HH.out.free hpd
              have hPl : G.RB b < wx.heap.size := HH.out.lt hpd
              have HHN : Hid (Hold (wx.setCell ⟨G.RB b, i * 8 + 1, none⟩ (.int .i64 (renV k y0.dst))).drew G f.params es k (DoneB b i 0 1)) := Lib.hid (HH.out.put HAP.out hpd (fun q _ _ => doneB_d b i q)).drew
              have HYN : Hid (Blk (wx.setCell ⟨G.RB b, i * 8 + 1, none⟩ (.int .i64 (renV k y0.dst))).drew Y 43 (fnC f qa qk (some ⟨G.BB, 0, none⟩) dk)) := Lib.hid (HH.out.box hpd HY.out _).drew
              have HXN : Hid (Blk (wx.setCell ⟨G.RB b, i * 8 + 1, none⟩ (.int .i64 (renV k y0.dst))).drew w.heap.size 43 (fnC f pa pc ba bc)) := Lib.hid (HH.out.box hpd HX.out _).drew
              have HKN : Hid (Blk (wx.setCell ⟨G.RB b, i * 8 + 1, none⟩ (.int .i64 (renV k y0.dst))).drew X0 57 (xC tm is.length (some ⟨G.RB b, 0, none⟩) xc)) := Lib.hid (HH.out.boxB hpd (by simp [tyOf]) HK.out _).drew
              have HBN : Hid (Below w.heap.size w (wx.setCell ⟨G.RB b, i * 8 + 1, none⟩ (.int .i64 (renV k y0.dst))).drew) := Lib.hid (below_drewN (HB.out.setCell (p := ⟨G.RB b, i * 8 + 1, none⟩) (HFAR.out _ _ hpd) _) 1)
              have HRV := Lib.hid (HR.out y0.dst)
              have b0 : wx.cell? ⟨X0, 0, none⟩ = some (.slice (some ⟨G.RB b, 0, none⟩) is.length xc) := HK.out.cell 0
              generalize renV k y0.dst = v2 at HHN HYN HXN HKN HBN HRV
              go_upto_region 18 with fail
              go_cut [] from 60 to 135 (fun W => W = (wx.setCell ⟨G.RB b, i * 8 + 1, none⟩ (.int .i64 v2)).drew)
              case first =>
                go_region_with (go_at_call 37; refine (HRV.out _).mono ?_; rintro e w9 ⟨rfl, rfl⟩)
                all_goals
                  go_wp2_with fail
                  go_meet
                  rfl
              case rest =>
                subst hcut
                clear k0 g0 hPl b0 HRV HH HY HX HK HB hpd
                have HH := HHN
                have HY := HYN
                have HX := HXN
                have HK := HKN
                have HB := HBN
                clear HHN HYN HXN HKN HBN
                generalize (wx.setCell ⟨G.RB b, i * 8 + 1, none⟩ (.int .i64 v2)).drew = wn at HH HY HX HK HB ⊢
                obtain ⟨wx, rfl⟩ : ∃ W, W = wn := ⟨wn, rfl⟩
                have hpa : ValP f.params es (.a b i) y0.a := ⟨_, _, HE.out, HYY.out, rfl⟩
                have k0 : wx.cell? ⟨G.RB b, i * 8 + 2, none⟩ = some (.int .i64 y0.a) := HH.out.todo _ _ hpa (by simp [DoneB])
                have g0 : wx.frozen? ⟨G.RB b, i * 8 + 2, none⟩ = false := HH.out.free hpa
                have hPl : G.RB b < wx.heap.size := HH.out.lt hpa
                have HHN : Hid (Hold (wx.setCell ⟨G.RB b, i * 8 + 2, none⟩ (.int .i64 (renV k y0.a))).drew G f.params es k (DoneB b i 0 2)) := Lib.hid (HH.out.put HAP.out hpa (fun q _ _ => doneB_a b i q)).drew
                have HYN : Hid (Blk (wx.setCell ⟨G.RB b, i * 8 + 2, none⟩ (.int .i64 (renV k y0.a))).drew Y 43 (fnC f qa qk (some ⟨G.BB, 0, none⟩) dk)) := Lib.hid (HH.out.box hpa HY.out _).drew
                have HXN : Hid (Blk (wx.setCell ⟨G.RB b, i * 8 + 2, none⟩ (.int .i64 (renV k y0.a))).drew w.heap.size 43 (fnC f pa pc ba bc)) := Lib.hid (HH.out.box hpa HX.out _).drew
                have HKN : Hid (Blk (wx.setCell ⟨G.RB b, i * 8 + 2, none⟩ (.int .i64 (renV k y0.a))).drew X0 57 (xC tm is.length (some ⟨G.RB b, 0, none⟩) xc)) := Lib.hid (HH.out.boxB hpa (by simp [tyOf]) HK.out _).drew
                have HBN : Hid (Below w.heap.size w (wx.setCell ⟨G.RB b, i * 8 + 2, none⟩ (.int .i64 (renV k y0.a))).drew) := Lib.hid (below_drewN (HB.out.setCell (p := ⟨G.RB b, i * 8 + 2, none⟩) (HFAR.out _ _ hpa) _) 1)
                have HRV := Lib.hid (HR.out y0.a)
                have b0 : wx.cell? ⟨X0, 0, none⟩ = some (.slice (some ⟨G.RB b, 0, none⟩) is.length xc) := HK.out.cell 0
                generalize renV k y0.a = v2 at HHN HYN HXN HKN HBN HRV
                go_upto_region 19 with fail
                go_cut [] from 60 to 135 (fun W => W = (wx.setCell ⟨G.RB b, i * 8 + 2, none⟩ (.int .i64 v2)).drew)
                case first =>
                  go_region_with (go_at_call 37; refine (HRV.out _).mono ?_; rintro e w9 ⟨rfl, rfl⟩)
                  all_goals
                    go_wp2_with fail
                    go_meet
                    rfl
                case rest =>
                  subst hcut
                  clear k0 g0 hPl b0 HRV HH HY HX HK HB hpa
                  have HH := HHN
                  have HY := HYN
                  have HX := HXN
                  have HK := HKN
                  have HB := HBN
                  clear HHN HYN HXN HKN HBN
                  generalize (wx.setCell ⟨G.RB b, i * 8 + 2, none⟩ (.int .i64 v2)).drew = wn at HH HY HX HK HB ⊢
                  obtain ⟨wx, rfl⟩ : ∃ W, W = wn := ⟨wn, rfl⟩
                  have hpe : ValP f.params es (.e b i) y0.b := ⟨_, _, HE.out, HYY.out, rfl⟩
                  have k0 : wx.cell? ⟨G.RB b, i * 8 + 3, none⟩ = some (.int .i64 y0.b) := HH.out.todo _ _ hpe (by simp [DoneB])
                  have g0 : wx.frozen? ⟨G.RB b, i * 8 + 3, none⟩ = false := HH.out.free hpe
                  have hPl : G.RB b < wx.heap.size := HH.out.lt hpe
                  have HHN : Hid (Hold (wx.setCell ⟨G.RB b, i * 8 + 3, none⟩ (.int .i64 (renV k y0.b))).drew G f.params es k (DoneB b i 0 3)) := Lib.hid (HH.out.put HAP.out hpe (fun q _ _ => doneB_e b i q)).drew
                  have HYN : Hid (Blk (wx.setCell ⟨G.RB b, i * 8 + 3, none⟩ (.int .i64 (renV k y0.b))).drew Y 43 (fnC f qa qk (some ⟨G.BB, 0, none⟩) dk)) := Lib.hid (HH.out.box hpe HY.out _).drew
                  have HXN : Hid (Blk (wx.setCell ⟨G.RB b, i * 8 + 3, none⟩ (.int .i64 (renV k y0.b))).drew w.heap.size 43 (fnC f pa pc ba bc)) := Lib.hid (HH.out.box hpe HX.out _).drew
                  have HKN : Hid (Blk (wx.setCell ⟨G.RB b, i * 8 + 3, none⟩ (.int .i64 (renV k y0.b))).drew X0 57 (xC tm is.length (some ⟨G.RB b, 0, none⟩) xc)) := Lib.hid (HH.out.boxB hpe (by simp [tyOf]) HK.out _).drew
                  have HBN : Hid (Below w.heap.size w (wx.setCell ⟨G.RB b, i * 8 + 3, none⟩ (.int .i64 (renV k y0.b))).drew) := Lib.hid (below_drewN (HB.out.setCell (p := ⟨G.RB b, i * 8 + 3, none⟩) (HFAR.out _ _ hpe) _) 1)
                  have HRV := Lib.hid (HR.out y0.b)
                  have b0 : wx.cell? ⟨X0, 0, none⟩ = some (.slice (some ⟨G.RB b, 0, none⟩) is.length xc) := HK.out.cell 0
                  generalize renV k y0.b = v2 at HHN HYN HXN HKN HBN HRV
                  go_upto_region 20 with fail
                  go_cut [] from 60 to 135 (fun W => W = (wx.setCell ⟨G.RB b, i * 8 + 3, none⟩ (.int .i64 v2)).drew)
                  case first =>
                    go_region_with (go_at_call 37; refine (HRV.out _).mono ?_; rintro e w9 ⟨rfl, rfl⟩)
                    all_goals
                      go_wp2_with fail
                      go_meet
                      rfl
                  case rest =>
                    subst hcut
                    clear k0 g0 hPl b0 HRV HH HY HX HK HB hpe
                    have HH := HHN
                    have HY := HYN
                    have HX := HXN
                    have HK := HKN
                    have HB := HBN
                    clear HHN HYN HXN HKN HBN
                    generalize (wx.setCell ⟨G.RB b, i * 8 + 3, none⟩ (.int .i64 v2)).drew = wn at HH HY HX HK HB ⊢
                    obtain ⟨wx, rfl⟩ : ∃ W, W = wn := ⟨wn, rfl⟩
                    have hcon : ConP G es ⟨G.RB b, i * 8 + 6, none⟩ (.slice ya y0.args.length yc) := .ins HE.out HYY.out (by omega) (by omega) (by omega) (by omega) rfl
                    go_wp2
                    go_loopw [11] (fun m wr => ∃ (l : Nat), m = .int .i64 l ∧ l ≤ y0.args.length ∧ Hold wr G f.params es k (DoneB b i l 3) ∧ Blk wr Y 43 (fnC f qa qk (some ⟨G.BB, 0, none⟩) dk) ∧ Blk wr w.heap.size 43 (fnC f pa pc ba bc) ∧ Blk wr X0 57 (xC tm is.length (some ⟨G.RB b, 0, none⟩) xc) ∧ Below w.heap.size w wr) (fun m _ => y0.args.length - (intOf m).toNat)
                    case atStart => exact ⟨0, rfl, Nat.zero_le _, HH.out, HY.out, HX.out, HK.out, HB.out⟩
                    case round =>
                      obtain ⟨l, rfl, hl, hH, hY, hX, hK, hB⟩ := hrel
                      clear HH HY HX HK HB
                      have HH := Lib.hid hH
                      have HY := Lib.hid hY
                      have HX := Lib.hid hX
                      have HK := Lib.hid hK
                      have HB := Lib.hid hB
                      clear hH hY hX hK hB
                      have b0 : wr.cell? ⟨X0, 0, none⟩ = some (.slice (some ⟨G.RB b, 0, none⟩) is.length xc) := HK.out.cell 0
                      have a0 : wr.cell? ⟨G.RB b, i * 8 + 6, none⟩ = some (.slice ya y0.args.length yc) := HH.out.con _ _ hcon
                      by_cases hll : l < y0.args.length
                      · have hll' : (l : Int) < y0.args.length := by omega
                        have hl0 : (0 : Int) ≤ l := by omega
                        obtain ⟨v, hv⟩ : ∃ v, y0.args[l]? = some v := ⟨_, List.getElem?_eq_getElem hll⟩
                        have hya := HT.out.args b i _ _ HE.out HYY.out (not_nil hv)
                        have hya : ya = some ⟨G.AB b i, 0, none⟩ := hya
                        have hp : ValP f.params es (.r b i l) v := ⟨_, _, HE.out, HYY.out, hv⟩
                        have k0 : wr.cell? ⟨G.AB b i, l, none⟩ = some (.int .i64 v) := HH.out.todo _ _ hp (by simp [DoneB])
                        have g0 : wr.frozen? ⟨G.AB b i, l, none⟩ = false := HH.out.free hp
                        have hPl : G.AB b i < wr.heap.size := HH.out.lt hp
                        have HHN : Hid (Hold (wr.setCell ⟨G.AB b i, l, none⟩ (.int .i64 (renV k v))).drew G f.params es k (DoneB b i (l + 1) 3)) := Lib.hid (HH.out.put HAP.out hp (fun q _ _ => doneB_r b i l q)).drew
                        have HYN : Hid (Blk (wr.setCell ⟨G.AB b i, l, none⟩ (.int .i64 (renV k v))).drew Y 43 (fnC f qa qk (some ⟨G.BB, 0, none⟩) dk)) := Lib.hid (HH.out.box hp HY.out _).drew
                        have HXN : Hid (Blk (wr.setCell ⟨G.AB b i, l, none⟩ (.int .i64 (renV k v))).drew w.heap.size 43 (fnC f pa pc ba bc)) := Lib.hid (HH.out.box hp HX.out _).drew
                        have HKN : Hid (Blk (wr.setCell ⟨G.AB b i, l, none⟩ (.int .i64 (renV k v))).drew X0 57 (xC tm is.length (some ⟨G.RB b, 0, none⟩) xc)) := Lib.hid (HH.out.boxB hp (by simp [tyOf]) HK.out _).drew
                        have HBN : Hid (Below w.heap.size w (wr.setCell ⟨G.AB b i, l, none⟩ (.int .i64 (renV k v))).drew) := Lib.hid (below_drewN (HB.out.setCell (p := ⟨G.AB b i, l, none⟩) (HFAR.out _ _ hp) _) 1)
                        have HRV := Lib.hid (HR.out v)
                        rw [hya] at a0
                        generalize renV k v = v2 at HHN HYN HXN HKN HBN HRV
                        clear hv hp hya hcon
                        go_wp2_with fail
                        go_region_with (go_at_call 37; refine (HRV.out _).mono ?_; rintro e w9 ⟨rfl, rfl⟩)
                        all_goals
                          go_wp2
                          go_roundw
                          case rel => exact ⟨l + 1, by go_num, by omega, HHN.out, HYN.out, HXN.out, HKN.out, HBN.out⟩
                          case measure => simp [intOf]; omega
                      · have e : l = y0.args.length := by omega
                        subst e
                        have hll' : ¬ (y0.args.length : Int) < y0.args.length := by omega
                        have HHN : Hid (Hold wr G f.params es k (DoneB b (i + 1) 0 0)) := Lib.hid (HH.out.same (fun q u h => doneB_ins HE.out HYY.out q u h))
                        clear hcon
                        go_wp2
                        go_roundw
                        case rel => exact ⟨i + 1, by go_num, by omega, HHN.out, HY.out, HX.out, HK.out, HB.out⟩
                        case measure => simp [intOf]; omega
            · have e : i = is.length := by omega
              subst e
              have hli' : ¬ (is.length : Int) < is.length := by omega
              have hpt : ValP f.params es (.t b) tm.a := ⟨_, HE.out, rfl⟩
              have b0 : wr.cell? ⟨X0, 0, none⟩ = some (.slice xa is.length xc) := HK.out.cell 0
              have b2 : wr.cell? ⟨X0, 2, none⟩ = some (.int .i64 tm.a) := HK.out.cell 2
              obtain ⟨y0, y1⟩ := box2 HY.out
              have k0 : wr.cell? ⟨G.BB, b * 5 + 2, none⟩ = some (.int .i64 tm.a) := HH.out.todo _ _ hpt (by simp [DoneB])
              have g0 : wr.frozen? ⟨G.BB, b * 5 + 2, none⟩ = false := HH.out.free hpt
              have hPl : G.BB < wr.heap.size := HH.out.lt hpt
              have HHN : Hid (Hold (wr.setCell ⟨G.BB, b * 5 + 2, none⟩ (.int .i64 (renV k tm.a))).drew G f.params es k (DoneB (b + 1) 0 0 0)) := Lib.hid (HH.out.put HAP.out hpt (fun q u h => doneB_t HE.out q u h)).drew
              have HYN : Hid (Blk (wr.setCell ⟨G.BB, b * 5 + 2, none⟩ (.int .i64 (renV k tm.a))).drew Y 43 (fnC f qa qk (some ⟨G.BB, 0, none⟩) dk)) := Lib.hid (HH.out.box hpt HY.out _).drew
              have HXN : Hid (Blk (wr.setCell ⟨G.BB, b * 5 + 2, none⟩ (.int .i64 (renV k tm.a))).drew w.heap.size 43 (fnC f pa pc ba bc)) := Lib.hid (HH.out.box hpt HX.out _).drew
              have HBN : Hid (Below w.heap.size w (wr.setCell ⟨G.BB, b * 5 + 2, none⟩ (.int .i64 (renV k tm.a))).drew) := Lib.hid (below_drewN (HB.out.setCell (p := ⟨G.BB, b * 5 + 2, none⟩) (HFAR.out _ _ hpt) _) 1)
              have HRV := Lib.hid (HR.out tm.a)
              generalize renV k tm.a = v2 at HHN HYN HXN HBN HRV
              clear hpt
              go_wp2_with fail
              go_region_with (go_at_call 37; refine (HRV.out _).mono ?_; rintro e w9 ⟨rfl, rfl⟩)
              all_goals
                go_wp2
                go_roundw
                case rel =>
                  refine ⟨b + 1, ?_, ?_, ?_, ?_, ?_, ?_⟩
                  · go_num
                  · omega
                  · exact HHN.out
                  · exact HYN.out
                  · exact HXN.out
                  · exact HBN.out
                case measure => simp [intOf]; omega
        · have e : b = es.length := by omega
          subst e
          have hlb' : ¬ (es.length : Int) < f.blocks.length := by omega
          have HG : Hid (FnW wr (renF k f) qa qk da dk) := Lib.hid (by
            have h := HH.out.fn (fun p v hp => doneB_all p v hp) HT.out (pc := qk) (bc := dk) HQN.out HDN.out
            rw [HES.out] at h
            exact h)
          have HGS : Hid (SmallF (renF k f)) := Lib.hid (ren_small HSM.out)
          have HVL := Lib.hid (ren_varsLen hk200 f)
          have HVR : Hid (∀ u, u ∈ varsL f → renV k u ∈ varsL (renF k f)) := Lib.hid fun u hu => (ren_vars hk200 f u).2 hu
          clear HH HAP HT HES HFAR HQN HDN hel hlb hb
          have CM := Lib.hid (most_any f pa pc ba bc wr HSM.out (HF.out.below HB.out))
          unfold fnV fnC at CM
          obtain ⟨x0, x1⟩ := box2 HX.out
          go_wp2_with fail
          refine CM.out.mono ?_
          rintro e w5 ⟨rfl, hb5⟩
          have HX5 := Lib.hid (HX.out.below hb5 HX.out.lt)
          have HY5 := Lib.hid (HY.out.below hb5 HY.out.lt)
          have HG5 := Lib.hid (HG.out.below hb5)
          have HB5 : Hid (Below w.heap.size w w5) := Lib.hid (HB.out.trans (hb5.mono HB.out.size))
          clear hb5 CM HX HY HG HB x0 x1 y0 y1 hlb'
          have CM := most_any (renF k f) qa qk da dk w5 HGS.out HG5.out
          rw [ren_fnV, ren_mostO hk200, ren_mostA hk200] at CM
          unfold fnV fnC at CM
          have CM := Lib.hid CM
          obtain ⟨y0, y1⟩ := box2 HY5.out
          go_wp2_with fail
          refine CM.out.mono ?_
          rintro e w6 ⟨rfl, hb6⟩
          have HX6 := Lib.hid (HX5.out.below hb6 HX5.out.lt)
          have HY6 := Lib.hid (HY5.out.below hb6 HY5.out.lt)
          have HG6 := Lib.hid (HG5.out.below hb6)
          have HB6 : Hid (Below w.heap.size w w6) := Lib.hid (HB5.out.trans (hb6.mono HB5.out.size))
          clear hb6 CM HX5 HY5 HG5 HB5 y0 y1
          have HZ : Hid (∀ W, Below w6.heap.size w6 W → Blk W w.heap.size 43 (fnC f pa pc ba bc) ∧ Blk W Y 43 (fnC f qa qk da dk) ∧ FnW W (renF k f) qa qk da dk ∧ FnW W f pa pc ba bc) := Lib.hid fun W h =>
            ⟨HX6.out.below h HX6.out.lt, HY6.out.below h HY6.out.lt, HG6.out.below h, HF.out.below (rel_belowV HB6.out (Nat.le_refl _) (h.mono (Nat.le_refl _)))⟩
          have HBW : Hid (∀ W, Below w6.heap.size w6 W → Below w.heap.size w W) := Lib.hid fun W h => rel_belowV HB6.out (Nat.le_refl _) (h.mono (Nat.le_refl _))
          have CA1 : Hid (∀ W, Below w6.heap.size w6 W → Calls Try.prog 28 #[fnV f pa pc ba bc] W fun e w' => e = .returned (.int .i64 (rightNV f)) ∧ 1 = 1 ∧ Below w6.heap.size w6 w') := Lib.hid fun W h =>
            (rel_rightV (right_any f _ _ _ _ W HSM.out (HZ.out W h).2.2.2) h).mono fun _ _ h => ⟨h.1, rfl, h.2⟩
          have CA2 : Hid (∀ W, Below w6.heap.size w6 W → Calls Try.prog 28 #[fnV f qa qk da dk] W fun e w' => e = .returned (.int .i64 (rightNV f)) ∧ Below w6.heap.size w6 w') := Lib.hid fun W h => by
            have h1 := rel_rightV (right_any (renF k f) _ _ _ _ W HGS.out (HZ.out W h).2.2.1) h
            rw [ren_fnV, ren_rightN hk200] at h1
            exact h1
          have CV1 : Hid (∀ W, Below w6.heap.size w6 W → Calls Try.prog 30 #[fnV f pa pc ba bc] W fun e w' => ∃ v k, e = .returned (.slice v (varsL f).length k) ∧ OwnI w' w6.heap.size (.slice v (varsL f).length k) (varsL f) ∧ Below w6.heap.size w6 w' ∧ ∀ b u m, OwnI W b u m → OwnI w' b u m) := Lib.hid fun W h =>
            rel_ownV (vars_any f _ _ _ _ W HSM.out (HZ.out W h).2.2.2) h
          have CV2 : Hid (∀ W, Below w6.heap.size w6 W → Calls Try.prog 30 #[fnV f qa qk da dk] W fun e w' => ∃ v c, e = .returned (.slice v (varsL (renF k f)).length c) ∧ OwnI w' w6.heap.size (.slice v (varsL (renF k f)).length c) (varsL (renF k f)) ∧ Below w6.heap.size w6 w' ∧ ∀ b u m, OwnI W b u m → OwnI w' b u m) := Lib.hid fun W h => by
            have h1 := rel_ownV (vars_any (renF k f) _ _ _ _ W HGS.out (HZ.out W h).2.2.1) h
            rw [ren_fnV] at h1
            exact h1
          have CZ1 : Hid (∀ W, Below w6.heap.size w6 W → Calls Try.prog 32 #[fnV f pa pc ba bc] W fun e w' => e = .returned (.int .i64 (sizeN f)) ∧ 1 = 1 ∧ Below w6.heap.size w6 w') := Lib.hid fun W h =>
            (rel_valV (size_any' f _ _ _ _ W HSM.out (HZ.out W h).2.2.2) h).mono fun _ _ h => ⟨h.1, rfl, h.2⟩
          have CZ2 : Hid (∀ W, Below w6.heap.size w6 W → Calls Try.prog 32 #[fnV f qa qk da dk] W fun e w' => e = .returned (.int .i64 (sizeN f)) ∧ Below w6.heap.size w6 w') := Lib.hid fun W h => by
            have h1 := rel_valV (size_any' (renF k f) _ _ _ _ W HGS.out (HZ.out W h).2.2.1) h
            rw [ren_fnV, ren_size hk200] at h1
            exact h1
          unfold fnV fnC at CA1 CA2 CV1 CV2 CZ1 CZ2
          have hvf := vars_fewV f
          generalize rightNV f = q1 at CA1 CA2
          generalize varsL (renF k f) = LG at HVL HVR CV2
          generalize varsL f = LF at HVL HVR CV1 hvf
          have hq1 : (q1 == q1) = true := by simp
          have hq2 : ((mostO f : Int) == (mostO f : Int)) = true := by simp
          have hq3 : ((mostA f : Int) == (mostA f : Int)) = true := by simp
          have hq4 : ((sizeN f : Int) == (sizeN f : Int)) = true := by simp
          generalize (mostO f : Int) = q2 at hq2 ⊢
          generalize (mostA f : Int) = q3 at hq3 ⊢
          generalize (sizeN f : Int) = q4 at hq4 CZ1 CZ2
          rw [HVL.out] at CV2
          obtain ⟨k0, k1⟩ := box2 HX6.out
          obtain ⟨k2, k3⟩ := box2 HY6.out
          go_upto_region 28 with fail
          go_region_held3 (fun w' => Below w6.heap.size w6 w' ∧ w'.cell? ⟨w.heap.size, 0, none⟩ = some (.slice pa f.params.length pc) ∧ w'.cell? ⟨w.heap.size, 1, none⟩ = some (.slice ba f.blocks.length bc) ∧ w'.cell? ⟨Y, 0, none⟩ = some (.slice qa f.params.length qk) ∧ w'.cell? ⟨Y, 1, none⟩ = some (.slice da f.blocks.length dk))
            (first
              | exact ⟨hb7, (box2 (HZ.out _ hb7).1).1, (box2 (HZ.out _ hb7).1).2, (box2 (HZ.out _ hb7).2.1).1, (box2 (HZ.out _ hb7).2.1).2⟩
              | exact ⟨(Below.refl _ _).drew, k0, k1, k2, k3⟩)
            (first
              | (go_at_call 30; have hq9 := hoa; refine (CV2.out _ (by go_split_ands; assumption)).mono ?_; rintro e w7 ⟨vb, cb, rfl, hob, hb7, hkb⟩; have hoa2 := hkb _ _ _ hoa)
              | (go_at_call 30; refine (CV1.out _ (by go_split_ands; assumption)).mono ?_; rintro e w7 ⟨va, ca, rfl, hoa, hb7, _⟩))
          rename_i hHeld
          clear hHeld k0 k1 k2 k3 CV1 CV2
          have HLI := Lib.hid (IntsW.own hoa2)
          rw [← HVL.out] at hob
          have HMI := Lib.hid (IntsW.own hob)
          have HB7 := Lib.hid hb7
          clear hoa hoa2 hob hb7 hkb hq9
          go_wp2
          go_loopw [18] (fun i wr => ∃ (j : Nat), i = .int .i64 j ∧ j ≤ LF.length ∧ Below w6.heap.size w6 wr ∧ Below w7.heap.size w7 wr) (fun i _ => LF.length - (intOf i).toNat)
          case atStart => exact ⟨0, rfl, Nat.zero_le _, HB7.out, Below.refl _ _⟩
          case round =>
            obtain ⟨i, rfl, hi, hB, hB8⟩ := hrel
            have HB := Lib.hid hB
            have HB8 := Lib.hid hB8
            clear hB hB8
            by_cases hli : i < LF.length
            · have hli' : (i : Int) < LF.length := by omega
              have hi0 : (0 : Int) ≤ i := by omega
              obtain ⟨u, hu⟩ : ∃ u, LF[i]? = some u := ⟨_, List.getElem?_eq_getElem hli⟩
              have HUM := Lib.hid (HVR.out u (List.mem_of_getElem? hu))
              have HU := Lib.hid hu
              have HRV := Lib.hid (HR.out u)
              clear hu
              go_wp2
              go_loopw [19, 20] (fun t n wr => ∃ (m : Nat), t = .bool (decide (renV k u ∈ LG.take m)) ∧ n = .int .i64 m ∧ m ≤ LG.length ∧ Below w6.heap.size w6 wr ∧ Below w7.heap.size w7 wr) (fun _ n _ => LG.length - (intOf n).toNat)
              case atStart => exact ⟨0, by simp, rfl, Nat.zero_le _, HB.out, HB8.out⟩
              case round =>
                obtain ⟨m, rfl, rfl, hm, hB, hB8⟩ := hrel
                clear HB HB8
                have HB := Lib.hid hB
                have HB8 := Lib.hid hB8
                clear hB hB8
                by_cases hlm : m < LG.length
                · have hlm' : (m : Int) < LF.length := by have := HVL.out; omega
                  have hm0 : (0 : Int) ≤ m := by omega
                  obtain ⟨z, hz⟩ : ∃ z, LG[m]? = some z := ⟨_, List.getElem?_eq_getElem hlm⟩
                  obtain ⟨lg, lo, rfl, hlg, l0⟩ := (HMI.out.below HB8.out) m z hz
                  obtain ⟨ug, uo, rfl, hug, l1⟩ := (HLI.out.below HB8.out) i u HU.out
                  have HT : Hid (decide (renV k u ∈ LG.take (m + 1)) = (decide (renV k u ∈ LG.take m) || (z == renV k u))) := by
                    show _ = _
                    rw [List.take_add_one, hz, Bool.eq_iff_iff]
                    simp only [Option.toList, List.mem_append, List.mem_singleton, decide_eq_true_eq, Bool.or_eq_true, beq_iff_eq]
                    constructor
                    · rintro (h | h)
                      · exact .inl h
                      · exact .inr h.symm
                    · rintro (h | h)
                      · exact .inl h
                      · exact .inr h.symm
                  clear hz
                  generalize decide (renV k u ∈ LG.take m) = t0 at HT ⊢
                  generalize renV k u = v2 at HT HRV HUM ⊢
                  cases t0
                  · go_upto_region 36 with fail
                    go_quiet ((go_at_call 37; refine Calls.quiet_of_same ((HRV.out _).mono fun _ _ h => ⟨h.1, h.2.symm⟩)))
                    go_wp2
                    go_roundw
                    case rel => exact ⟨m + 1, by rw [HT.out]; simp, by go_num, by omega, below_drewN HB.out _, below_drewN HB8.out _⟩
                    case measure => simp [intOf]; omega
                  · go_upto_region 36 with fail
                    go_quiet (fail)
                    go_wp2
                    go_roundw
                    case rel => exact ⟨m + 1, by rw [HT.out]; simp, by go_num, by omega, below_drewN HB.out _, below_drewN HB8.out _⟩
                    case measure => simp [intOf]; omega
                · have e : m = LG.length := by omega
                  have hlm' : ¬ (m : Int) < LF.length := by have := HVL.out; omega
                  have htr : decide (renV k u ∈ LG.take m) = true := by rw [e, List.take_length]; exact decide_eq_true HUM.out
                  rw [htr]
                  go_wp2
                  go_roundw
                  case rel => exact ⟨i + 1, by go_num, by omega, HB.out, HB8.out⟩
                  case measure => simp [intOf]; omega
            · have e : i = LF.length := by omega
              have hli' : ¬ (i : Int) < LF.length := by omega
              have hq5 : ((LF.length : Int) == (LF.length : Int)) = true := by simp
              obtain ⟨k0, k1⟩ := box2 (HZ.out _ HB.out).1
              obtain ⟨k2, k3⟩ := box2 (HZ.out _ HB.out).2.1
              have HBZ := Lib.hid (below_drewN HB.out 1)
              go_upto_region 39 with fail
              go_region_held3 (fun w' => Below w6.heap.size w6 w' ∧ w'.cell? ⟨w.heap.size, 0, none⟩ = some (.slice pa f.params.length pc) ∧ w'.cell? ⟨w.heap.size, 1, none⟩ = some (.slice ba f.blocks.length bc) ∧ w'.cell? ⟨Y, 0, none⟩ = some (.slice qa f.params.length qk) ∧ w'.cell? ⟨Y, 1, none⟩ = some (.slice da f.blocks.length dk))
                (first
                  | exact ⟨hb7, (box2 (HZ.out _ hb7).1).1, (box2 (HZ.out _ hb7).1).2, (box2 (HZ.out _ hb7).2.1).1, (box2 (HZ.out _ hb7).2.1).2⟩
                  | exact ⟨HBZ.out, k0, k1, k2, k3⟩)
                (first
                  | (go_at_call 28; have hq9 := hr1; refine (CA2.out _ (by go_split_ands; assumption)).mono ?_; rintro e w8 ⟨rfl, hb7⟩)
                  | (go_at_call 28; refine (CA1.out _ (by go_split_ands; assumption)).mono ?_; rintro e w8 ⟨rfl, hr1, hb7⟩)
                  | (go_at_call 32; have hq8 := hr2; refine (CZ2.out _ (by go_split_ands; assumption)).mono ?_; rintro e w8 ⟨rfl, hb7⟩)
                  | (go_at_call 32; refine (CZ1.out _ (by go_split_ands; assumption)).mono ?_; rintro e w8 ⟨rfl, hr2, hb7⟩))
              go_wp2
              go_ret
              exact ⟨rfl, HBW.out _ hb7⟩
end Go.Proofs.Ytcofoeenfohpnaa
