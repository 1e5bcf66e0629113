/-
  Whether a function is right, or which error it has, is told as the plain relation says. No condition beyond those that each theorem states.
-/
import Derived.Test.YtgpbpbhidemciaaGreatIrBh
namespace Go.Proofs.YtgpbpbhidemciaaGreat
open Go.RowKit

theorem rd_contains {f : Ff} {s : St} (hE : Ended f s) : s.rd.contains false = true ↔ ∃ b, b < f.blocks.length ∧ ¬ Reach f b := by
  rw [List.contains_iff_mem]
  constructor
  · intro h
    obtain ⟨b, hb, he⟩ := List.getElem_of_mem h
    refine ⟨b, by rw [← hE.n2]; exact hb, fun hr => ?_⟩
    have := (hE.reach b).2 hr
    unfold St.rdB at this
    rw [List.getD_eq_getElem?_getD, List.getElem?_eq_getElem hb, he] at this
    cases this
  · rintro ⟨b, hb, hr⟩
    have hb' : b < s.rd.length := by rw [hE.n2]; exact hb
    have : s.rdB b = false := by
      cases h : s.rdB b
      · rfl
      · exact absurd ((hE.reach b).1 h) hr
    unfold St.rdB at this
    rw [List.getD_eq_getElem?_getD, List.getElem?_eq_getElem hb'] at this
    have h2 : s.rd[b] = false := this
    rw [← h2]
    exact List.getElem_mem hb'
set_option maxHeartbeats 8000000 in
set_option maxRecDepth 100000 in
theorem right_any (f : Ff) (pa : Option Addr) (pc : Nat) (ba : Option Addr) (bc : Nat) (w : World) (hS : SmallF f) (hF : FnW w f pa pc ba bc) :
    Calls Tryz.prog 29 #[fnV f pa pc ba bc] w fun e w' => (∃ n : Int, e = .returned (.int .i64 n) ∧ RightIs f n) ∧ Below w.heap.size w w' := by
  have HF := Lib.hid hF
  have HS := Lib.hid hS
  have hp := hS.p
  have hb := hS.b
  have HX0 : Hid (Blk (w.alloc (.cells (fnC f pa pc ba bc) 37)) w.heap.size 37 (fnC f pa pc ba bc)) := Blk.new w _ _
  have HW0 : Hid (Below w.heap.size w (w.alloc (.cells (fnC f pa pc ba bc) 37))) := (Below.refl _ w).alloc (Nat.le_refl _) _
  have HC := Lib.hid (shape_any f pa pc ba bc (w.alloc (.cells (fnC f pa pc ba bc) 37)) hS (hF.below HW0.out))
  clear hF hS
  unfold fnV fnC at HC
  unfold fnV fnC
  go_enter Tryz.func29, Tryz.ntmps29
  go_wp2_with fail
  refine HC.out.mono ?_
  rintro e w1 ⟨rfl, hb1⟩
  have HX1 : Hid (Blk w1 w.heap.size 37 (fnC f pa pc ba bc)) := HX0.out.below hb1 HX0.out.lt
  have HB1 : Hid (Below w.heap.size w w1) := HW0.out.trans (hb1.mono HW0.out.size)
  clear hb1 HC HX0 HW0
  by_cases hsh : shapeN f = 0
  case neg =>
    have hq : (shapeN f != 0) = true := by simp [hsh]
    have HSH := Lib.hid hsh
    clear hsh
    go_wp2
    go_ret
    exact ⟨⟨shapeN f, rfl, fun _ => rfl, fun h => absurd h HSH.out, fun h => absurd h HSH.out, fun h => absurd h HSH.out⟩, HB1.out⟩
  have hq : (shapeN f != 0) = false := by simp [hsh]
  have HSH := Lib.hid hsh
  clear hsh
  obtain ⟨c0, c1⟩ := box2 HX1.out
  have HC := Lib.hid (goes_any f pa pc ba bc w1 HS.out (HF.out.below HB1.out))
  unfold fnV fnC at HC
  go_wp2_with fail
  refine HC.out.mono ?_
  rintro e w2 ⟨rfl, hb2⟩
  have HX2 : Hid (Blk w2 w.heap.size 37 (fnC f pa pc ba bc)) := HX1.out.below hb2 HX1.out.lt
  have HB2 : Hid (Below w.heap.size w w2) := HB1.out.trans (hb2.mono HB1.out.size)
  clear hb2 HC HX1 HB1 c0 c1 hq
  cases hg : goesB f
  case false =>
    have HR : Hid (RightIs f 9) := ⟨fun h => absurd HSH.out h, fun _ _ => rfl, fun _ h => absurd (.inl hg) h, fun _ h => absurd (.inl hg) h⟩
    go_wp2
    go_ret
    exact ⟨⟨9, rfl, HR.out⟩, HB2.out⟩
  obtain ⟨c0, c1⟩ := box2 HX2.out
  have HG := Lib.hid hg
  have HC := Lib.hid (begins_any f pa pc ba bc w2 HS.out (HF.out.below HB2.out) HSH.out hg)
  clear hg
  unfold fnV fnC at HC
  go_wp2_with fail
  refine HC.out.mono ?_
  rintro e w3 ⟨GA, GR, s, rfl, hGA, hGR, hEn, hb3⟩
  have HX3 : Hid (Blk w3 w.heap.size 37 (fnC f pa pc ba bc)) := HX2.out.below hb3 HX2.out.lt
  have HB3 : Hid (Below w.heap.size w w3) := HB2.out.trans (hb3.mono HB2.out.size)
  have HGA := Lib.hid hGA
  have HEn := Lib.hid hEn
  have hn1 := hEn.n1
  have HCN := Lib.hid (contains_any s.rd GR f.blocks.length w3 (by rw [hEn.n2]; exact hb) hGR)
  rw [hEn.n2] at HCN
  have HRC := Lib.hid (rd_contains hEn)
  clear hb3 HC HX2 HB2 c0 c1 hGA hGR hEn
  go_wp2_with fail
  refine HCN.out.mono ?_
  rintro e w4 ⟨rfl, rfl⟩
  clear HCN
  cases hrc : s.rd.contains false
  case true =>
    have HR : Hid (RightIs f 9) := by
      have h1 : LostB f := .inr (HRC.out.1 hrc)
      exact ⟨fun h => absurd HSH.out h, fun _ _ => rfl, fun _ h => absurd h1 h, fun _ h => absurd h1 h⟩
    go_wp2
    go_ret
    exact ⟨⟨9, rfl, HR.out⟩, HB3.out⟩
  have HRE : Hid (∀ b, b < f.blocks.length → Reach f b) := fun b hbn => Classical.byContradiction fun h => by
    have := HRC.out.2 ⟨b, hbn, h⟩
    rw [hrc] at this
    cases this
  have HLO : Hid (¬ LostB f) := by
    rintro (h | ⟨b, h1, h2⟩)
    · rw [HG.out] at h; cases h
    · exact h2 (HRE.out b h1)
  have HPR := Lib.hid (shape_parts HSH.out)
  clear hrc HRC
  go_wp2
  go_loopw [25] (fun k wr => ∃ j : Nat, k = .int .i64 j ∧ j ≤ f.blocks.length ∧ Hid (∀ (b : Nat) (x : Bb), b < j → f.blocks[b]? = some x → onlyB x.tm x.ins (s.atN b) = true) ∧ Below w3.heap.size w3 wr) (fun k _ => f.blocks.length - (intOf k).toNat)
  case atStart => exact ⟨0, rfl, Nat.zero_le _, fun b x h => absurd h (Nat.not_lt_zero _), Below.refl _ _⟩
  case round =>
    obtain ⟨j, rfl, hj, HA, hB⟩ := hrel
    have HB := Lib.hid hB
    clear hB
    by_cases hlt : j < f.blocks.length
    · have hlt' : (j : Int) < f.blocks.length := by omega
      have hj0 : (0 : Int) ≤ j := by omega
      obtain ⟨x, hx⟩ : ∃ x, f.blocks[j]? = some x := ⟨_, List.getElem?_eq_getElem hlt⟩
      have HBw := Lib.hid (HB3.out.trans (HB.out.mono HB3.out.size))
      obtain ⟨g, o, ya, yc, rfl, hg, hc⟩ := HF.out.blocks j x hx
      have hcr := hc.below hg HBw.out
      obtain ⟨hx1, hx2, hx3⟩ := HPR.out.2.2.2.2 x (List.mem_of_getElem? hx)
      have hJ : j < s.at_.length := by omega
      have hatd : s.at_.getD j 0 = s.atN j := rfl
      have r := boxR (HGA.out.below HB.out HGA.out.lt) hJ
      rw [hatd] at r
      obtain ⟨g0, g1, g2, g3⟩ := r
      have HSj := Lib.hid (setC.eq_1 (s.atN j))
      have HY : Hid (Blk (wr.alloc (.cells #[.int .u64 (wordM (s.atN j) 0), .int .u64 (wordM (s.atN j) 1), .int .u64 (wordM (s.atN j) 2), .int .u64 (wordM (s.atN j) 3)] 99)) wr.heap.size 99 (setC (s.atN j))) := Blk.new wr _ _
      have HYB : Hid (Below wr.heap.size wr (wr.alloc (.cells #[.int .u64 (wordM (s.atN j) 0), .int .u64 (wordM (s.atN j) 1), .int .u64 (wordM (s.atN j) 2), .int .u64 (wordM (s.atN j) 3)] 99))) := (Below.refl _ wr).alloc (Nat.le_refl _) _
      have HXX := Lib.hid hx
      have HATL := Lib.hid (HEn.out.lt j)
      have hq1 := HX3.out.below HB.out HX3.out.lt
      have hwl : w.heap.size < wr.heap.size := hq1.lt
      go_wp2
      clear g0 g1 g2 g3
      have HIN := Lib.hid hcr.ins
      have HX5 : Hid (Blk (wr.alloc (.cells #[.int .u64 (wordM (s.atN j) 0), .int .u64 (wordM (s.atN j) 1), .int .u64 (wordM (s.atN j) 2), .int .u64 (wordM (s.atN j) 3)] 99)) w.heap.size 37 (fnC f pa pc (some ⟨g, o, none⟩) bc)) := hq1.alloc _
      have hcr2 := hcr.below (Nat.lt_of_lt_of_le hg HBw.out.size) HYB.out
      have HB5 : Hid (Below w3.heap.size w3 (wr.alloc (.cells #[.int .u64 (wordM (s.atN j) 0), .int .u64 (wordM (s.atN j) 1), .int .u64 (wordM (s.atN j) 2), .int .u64 (wordM (s.atN j) 3)] 99))) := HB.out.trans (HYB.out.mono HB.out.size)
      clear hc hcr hq1 hx HIN HBw HYB HB
      generalize (wr.alloc (.cells #[.int .u64 (wordM (s.atN j) 0), .int .u64 (wordM (s.atN j) 1), .int .u64 (wordM (s.atN j) 2), .int .u64 (wordM (s.atN j) 3)] 99)) = W at *
      obtain ⟨p0, p1⟩ := box2 HX5.out
      obtain ⟨x0, x1, x2, x3⟩ := boxS HY.out
      have b0 := hcr2.c0
      have b1 := hcr2.c1
      have b2 := hcr2.c2
      have b3 := hcr2.c3
      have b4 := hcr2.c4
      have HRO := Lib.hid (readsOnly_any x ya yc (s.atN j) HATL.out W.drew (by omega) hx2 hx3 (hcr2.ins.below (Below.refl _ W).drew))
      unfold blV blC setV at HRO
      rw [HSj.out] at HRO
      clear hcr2
      go_region_with (go_at_call 58; refine HRO.out.mono ?_; rintro e w6 ⟨rfl, hb6⟩; have HB6 := Lib.hid (HB5.out.drew.trans (hb6.mono HB5.out.size)); clear hb6)
      all_goals
        cases ho : onlyB x.tm x.ins (s.atN j)
        · have HR : Hid (RightIs f 8) := ⟨fun h => absurd HSH.out h, fun _ h => absurd h HLO.out, fun _ _ _ => rfl, fun _ _ h => by
            obtain ⟨v, hv0, hv⟩ := HEn.out.lack HSH.out HRE.out HXX.out ho
            exact absurd hv (h v hv0)⟩
          go_wp2
          go_ret
          exact ⟨⟨8, rfl, HR.out⟩, HB3.out.trans (HB6.out.mono HB3.out.size)⟩
        · have HA2 : Hid (∀ (b : Nat) (x : Bb), b < j + 1 → f.blocks[b]? = some x → onlyB x.tm x.ins (s.atN b) = true) := fun b y hbj hy => by
            by_cases e : b = j
            · subst e
              have : y = x := by have := HXX.out; rw [hy] at this; exact Option.some.inj this
              rw [this]
              exact ho
            · exact HA.out b y (by omega) hy
          go_wp2
          go_roundw
          case rel => exact ⟨j + 1, by go_num, by omega, HA2.out, HB6.out⟩
          case measure => simp [intOf]; omega
    · have e : j = f.blocks.length := by omega
      subst e
      have HR : Hid (RightIs f 0) := by
        have hfine := HEn.out.fine HSH.out HRE.out (fun b x hx => HA.out b x (List.getElem?_eq_some_iff.1 hx).1 hx)
        exact ⟨fun h => absurd HSH.out h, fun _ h => absurd h HLO.out, fun _ _ ⟨v, hv0, hv⟩ => absurd hv (hfine v hv0), fun _ _ _ => rfl⟩
      go_wp2
      go_ret
      exact ⟨⟨0, rfl, HR.out⟩, HB3.out.trans (HB.out.mono HB3.out.size)⟩
end Go.Proofs.YtgpbpbhidemciaaGreat
