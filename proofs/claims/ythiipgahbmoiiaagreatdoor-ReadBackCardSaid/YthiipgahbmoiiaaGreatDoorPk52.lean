/-
  Whether a function is right, or which error it has, is told as the plain relation says. No condition beyond those that each theorem states.
  ReadBack: the walk (written by gen/rqk.py). Conditions: the library's tables, its errors, the Ops' names hold what the text lays.
-/
import Derived.Test.YthiipgahbmoiiaaGreatDoorPk47
import Derived.Test.YthiipgahbmoiiaaGreatDoorPk51
import Derived.Test.YthiipgahbmoiiaaGreatDoorPk44
import Derived.Test.YthiipgahbmoiiaaGreatDoorPk46
import Derived.Test.YthiipgahbmoiiaaGreatDoorPk7
namespace Go.Proofs.YthiipgahbmoiiaaGreatDoor
open Go.RowKit

theorem rd_contains {f : Ff} {s : St} (hE : Ended f s) : s.rd.contains false = true ↔ ∃ b, b < f.blocks.length ∧ ¬ Reach f b := by
  rw [List.contains_iff_mem]
  constructor
  · intro h
    obtain ⟨b, hb, he⟩ := List.getElem_of_mem h
    refine ⟨b, by rw [← hE.n2]; exact hb, fun hr => ?_⟩
    have := (hE.reach b).2 hr
    unfold St.rdB at this
    rw [List.getD_eq_getElem?_getD, List.getElem?_eq_getElem hb, he] at this
    cases this
  · rintro ⟨b, hb, hr⟩
    have hb' : b < s.rd.length := by rw [hE.n2]; exact hb
    have : s.rdB b = false := by
      cases h : s.rdB b
      · rfl
      · exact absurd ((hE.reach b).1 h) hr
    unfold St.rdB at this
    rw [List.getD_eq_getElem?_getD, List.getElem?_eq_getElem hb'] at this
    have h2 : s.rd[b] = false := this
    rw [← h2]
    exact List.getElem_mem hb'
set_option maxHeartbeats 8000000 in
set_option maxRecDepth 100000 in
theorem right_any (f : Ff) (pa : Option Addr) (pc : Nat) (ba : Option Addr) (bc : Nat) (w : World) (hS : SmallF f) (hF : FnW w f pa pc ba bc) :
    Calls Tryz.prog 18 #[fnV f pa pc ba bc] w fun e w' => (∃ n : Int, e = .returned (.int .i64 n) ∧ RightIs f n) ∧ Below w.heap.size w w' := by
  have HF := Lib.hid hF
  have HS := Lib.hid hS
  have hp := hS.p
  have hb := hS.b
  have HX0 : Hid (Blk (w.alloc (.cells (fnC f pa pc ba bc) 25)) w.heap.size 25 (fnC f pa pc ba bc)) := Blk.new w _ _
  have HW0 : Hid (Below w.heap.size w (w.alloc (.cells (fnC f pa pc ba bc) 25))) := (Below.refl _ w).alloc (Nat.le_refl _) _
  have HC := Lib.hid (shape_any f pa pc ba bc (w.alloc (.cells (fnC f pa pc ba bc) 25)) hS (hF.below HW0.out))
  clear hF hS
  unfold fnV fnC at HC
  unfold fnV fnC
  go_enter Tryz.func18, Tryz.ntmps18
  go_wp2_with fail
  refine HC.out.mono ?_
  rintro e w1 ⟨rfl, hb1⟩
  have HX1 : Hid (Blk w1 w.heap.size 25 (fnC f pa pc ba bc)) := HX0.out.below hb1 HX0.out.lt
  have HB1 : Hid (Below w.heap.size w w1) := HW0.out.trans (hb1.mono HW0.out.size)
  clear hb1 HC HX0 HW0
  by_cases hsh : shapeN f = 0
  case neg =>
    have hq : (shapeN f != 0) = true := by simp [hsh]
    have HSH := Lib.hid hsh
    clear hsh
    go_wp2
    go_ret
    exact ⟨⟨shapeN f, rfl, fun _ => rfl, fun h => absurd h HSH.out, fun h => absurd h HSH.out, fun h => absurd h HSH.out⟩, HB1.out⟩
  have hq : (shapeN f != 0) = false := by simp [hsh]
  have HSH := Lib.hid hsh
  clear hsh
  obtain ⟨c0, c1⟩ := box2 HX1.out
  have HC := Lib.hid (goes_any f pa pc ba bc w1 HS.out (HF.out.below HB1.out))
  unfold fnV fnC at HC
  go_wp2_with fail
  refine HC.out.mono ?_
  rintro e w2 ⟨rfl, hb2⟩
  have HX2 : Hid (Blk w2 w.heap.size 25 (fnC f pa pc ba bc)) := HX1.out.below hb2 HX1.out.lt
  have HB2 : Hid (Below w.heap.size w w2) := HB1.out.trans (hb2.mono HB1.out.size)
  clear hb2 HC HX1 HB1 c0 c1 hq
  cases hg : goesB f
  case false =>
    have HR : Hid (RightIs f 9) := ⟨fun h => absurd HSH.out h, fun _ _ => rfl, fun _ h => absurd (.inl hg) h, fun _ h => absurd (.inl hg) h⟩
    go_wp2
    go_ret
    exact ⟨⟨9, rfl, HR.out⟩, HB2.out⟩
  obtain ⟨c0, c1⟩ := box2 HX2.out
  have HG := Lib.hid hg
  have HC := Lib.hid (begins_any f pa pc ba bc w2 HS.out (HF.out.below HB2.out) HSH.out hg)
  clear hg
  unfold fnV fnC at HC
  go_wp2_with fail
  refine HC.out.mono ?_
  rintro e w3 ⟨GA, GR, s, rfl, hGA, hGR, hEn, hb3⟩
  have HX3 : Hid (Blk w3 w.heap.size 25 (fnC f pa pc ba bc)) := HX2.out.below hb3 HX2.out.lt
  have HB3 : Hid (Below w.heap.size w w3) := HB2.out.trans (hb3.mono HB2.out.size)
  have HGA := Lib.hid hGA
  have HEn := Lib.hid hEn
  have hn1 := hEn.n1
  have HCN := Lib.hid (contains_any s.rd GR f.blocks.length w3 (by rw [hEn.n2]; exact hb) hGR)
  rw [hEn.n2] at HCN
  have HRC := Lib.hid (rd_contains hEn)
  clear hb3 HC HX2 HB2 c0 c1 hGA hGR hEn
  go_wp2_with fail
  refine HCN.out.mono ?_
  rintro e w4 ⟨rfl, rfl⟩
  clear HCN
  cases hrc : s.rd.contains false
  case true =>
    have HR : Hid (RightIs f 9) := by
      have h1 : LostB f := .inr (HRC.out.1 hrc)
      exact ⟨fun h => absurd HSH.out h, fun _ _ => rfl, fun _ h => absurd h1 h, fun _ h => absurd h1 h⟩
    go_wp2
    go_ret
    exact ⟨⟨9, rfl, HR.out⟩, HB3.out⟩
  have HRE : Hid (∀ b, b < f.blocks.length → Reach f b) := fun b hbn => Classical.byContradiction fun h => by
    have := HRC.out.2 ⟨b, hbn, h⟩
    rw [hrc] at this
    cases this
  have HLO : Hid (¬ LostB f) := by
    rintro (h | ⟨b, h1, h2⟩)
    · rw [HG.out] at h; cases h
    · exact h2 (HRE.out b h1)
  have HPR := Lib.hid (shape_parts HSH.out)
  clear hrc HRC
  go_wp2
  go_loopw [25] (fun k wr => ∃ j : Nat, k = .int .i64 j ∧ j ≤ f.blocks.length ∧ Hid (∀ (b : Nat) (x : Bb), b < j → f.blocks[b]? = some x → onlyB x.tm x.ins (s.atN b) = true) ∧ Below w3.heap.size w3 wr) (fun k _ => f.blocks.length - (intOf k).toNat)
  case atStart => exact ⟨0, rfl, Nat.zero_le _, fun b x h => absurd h (Nat.not_lt_zero _), Below.refl _ _⟩
  case round =>
    obtain ⟨j, rfl, hj, HA, hB⟩ := hrel
    have HB := Lib.hid hB
    clear hB
    by_cases hlt : j < f.blocks.length
    · have hlt' : (j : Int) < f.blocks.length := by omega
      have hj0 : (0 : Int) ≤ j := by omega
      obtain ⟨x, hx⟩ : ∃ x, f.blocks[j]? = some x := ⟨_, List.getElem?_eq_getElem hlt⟩
      have HBw := Lib.hid (HB3.out.trans (HB.out.mono HB3.out.size))
      obtain ⟨g, o, ya, yc, rfl, hg, hc⟩ := HF.out.blocks j x hx
      have hcr := hc.below hg HBw.out
      obtain ⟨hx1, hx2, hx3⟩ := HPR.out.2.2.2.2 x (List.mem_of_getElem? hx)
      have hJ : j < s.at_.length := by omega
      have hatd : s.at_.getD j 0 = s.atN j := rfl
      have r := boxR (HGA.out.below HB.out HGA.out.lt) hJ
      rw [hatd] at r
      obtain ⟨g0, g1, g2, g3⟩ := r
      have HSj := Lib.hid (setC.eq_1 (s.atN j))
      have HY : Hid (Blk (wr.alloc (.cells #[.int .u64 (wordM (s.atN j) 0), .int .u64 (wordM (s.atN j) 1), .int .u64 (wordM (s.atN j) 2), .int .u64 (wordM (s.atN j) 3)] 82)) wr.heap.size 82 (setC (s.atN j))) := Blk.new wr _ _
      have HYB : Hid (Below wr.heap.size wr (wr.alloc (.cells #[.int .u64 (wordM (s.atN j) 0), .int .u64 (wordM (s.atN j) 1), .int .u64 (wordM (s.atN j) 2), .int .u64 (wordM (s.atN j) 3)] 82))) := (Below.refl _ wr).alloc (Nat.le_refl _) _
      have HXX := Lib.hid hx
      have HATL := Lib.hid (HEn.out.lt j)
      have hq1 := HX3.out.below HB.out HX3.out.lt
      have hwl : w.heap.size < wr.heap.size := hq1.lt
      go_wp2
      clear g0 g1 g2 g3
      have HIN := Lib.hid hcr.ins
      have HX5 : Hid (Blk (wr.alloc (.cells #[.int .u64 (wordM (s.atN j) 0), .int .u64 (wordM (s.atN j) 1), .int .u64 (wordM (s.atN j) 2), .int .u64 (wordM (s.atN j) 3)] 82)) w.heap.size 25 (fnC f pa pc (some ⟨g, o, none⟩) bc)) := hq1.alloc _
      have hcr2 := hcr.below (Nat.lt_of_lt_of_le hg HBw.out.size) HYB.out
      have HB5 : Hid (Below w3.heap.size w3 (wr.alloc (.cells #[.int .u64 (wordM (s.atN j) 0), .int .u64 (wordM (s.atN j) 1), .int .u64 (wordM (s.atN j) 2), .int .u64 (wordM (s.atN j) 3)] 82))) := HB.out.trans (HYB.out.mono HB.out.size)
      clear hc hcr hq1 hx HIN HBw HYB HB
      generalize (wr.alloc (.cells #[.int .u64 (wordM (s.atN j) 0), .int .u64 (wordM (s.atN j) 1), .int .u64 (wordM (s.atN j) 2), .int .u64 (wordM (s.atN j) 3)] 82)) = W at *
      obtain ⟨p0, p1⟩ := box2 HX5.out
      obtain ⟨x0, x1, x2, x3⟩ := boxS HY.out
      have b0 := hcr2.c0
      have b1 := hcr2.c1
      have b2 := hcr2.c2
      have b3 := hcr2.c3
      have b4 := hcr2.c4
      have HRO := Lib.hid (readsOnly_any x ya yc (s.atN j) HATL.out W.drew (by omega) hx2 hx3 (hcr2.ins.below (Below.refl _ W).drew))
      unfold blV blC setV at HRO
      rw [HSj.out] at HRO
      clear hcr2
      go_region_with (go_at_call 50; refine HRO.out.mono ?_; rintro e w6 ⟨rfl, hb6⟩; have HB6 := Lib.hid (HB5.out.drew.trans (hb6.mono HB5.out.size)); clear hb6)
      all_goals
        cases ho : onlyB x.tm x.ins (s.atN j)
        · have HR : Hid (RightIs f 8) := ⟨fun h => absurd HSH.out h, fun _ h => absurd h HLO.out, fun _ _ _ => rfl, fun _ _ h => by
            obtain ⟨v, hv0, hv⟩ := HEn.out.lack HSH.out HRE.out HXX.out ho
            exact absurd hv (h v hv0)⟩
          go_wp2
          go_ret
          exact ⟨⟨8, rfl, HR.out⟩, HB3.out.trans (HB6.out.mono HB3.out.size)⟩
        · have HA2 : Hid (∀ (b : Nat) (x : Bb), b < j + 1 → f.blocks[b]? = some x → onlyB x.tm x.ins (s.atN b) = true) := fun b y hbj hy => by
            by_cases e : b = j
            · subst e
              have : y = x := by have := HXX.out; rw [hy] at this; exact Option.some.inj this
              rw [this]
              exact ho
            · exact HA.out b y (by omega) hy
          go_wp2
          go_roundw
          case rel => exact ⟨j + 1, by go_num, by omega, HA2.out, HB6.out⟩
          case measure => simp [intOf]; omega
    · have e : j = f.blocks.length := by omega
      subst e
      have HR : Hid (RightIs f 0) := by
        have hfine := HEn.out.fine HSH.out HRE.out (fun b x hx => HA.out b x (List.getElem?_eq_some_iff.1 hx).1 hx)
        exact ⟨fun h => absurd HSH.out h, fun _ h => absurd h HLO.out, fun _ _ ⟨v, hv0, hv⟩ => absurd hv (hfine v hv0), fun _ _ _ => rfl⟩
      go_wp2
      go_ret
      exact ⟨⟨0, rfl, HR.out⟩, HB3.out.trans (HB.out.mono HB3.out.size)⟩
end Go.Proofs.YthiipgahbmoiiaaGreatDoor
namespace Go.Proofs.YthiipgahbmoiiaaGreatDoor
open Go.RowKit

theorem small_can {f : Ff} (h : canF f = true) : SmallF f := by
  obtain ⟨h1, h2, h3, _, _⟩ := canF_parts h
  exact ⟨by omega, by omega, fun x hx => ⟨by have := (h1 x hx).few; omega, fun i hi => by have := (ins_ok ((h1 x hx).ins i hi)).2.few; omega⟩⟩
theorem small_few {f : Ff} (h : f.params.length ≤ 700 ∧ FewB f.blocks) : SmallF f :=
  ⟨by omega, by have := h.2.1; omega, fun x hx => ⟨by have := (h.2.2 x hx).1; omega, fun i hi => by have := (h.2.2 x hx).2 i hi; omega⟩⟩
theorem small_no : SmallF noF := ⟨by decide, by decide, fun x hx => by simp [noF] at hx⟩
theorem noF_fn (w : World) : FnW w noF none 0 none 0 := ⟨IntsW.nil _ _, fun k x hx => by simp [noF] at hx, fun _ => rfl, fun _ => rfl⟩
theorem noF_val : fnV noF none 0 none 0 = .agg #[.slice none 0 0, .slice none 0 0] := rfl
/-- What is told of a function's own text. -/
theorem reparseQ (f : Ff) (s : ByteArray) (w : World) (hT : TabQ w) (h : canF f = true) (hs : s.data.toList = fnL f) : Calls Tryz.prog 14 #[.string s] w fun e w' => ∃ (pa : Option Addr) (pc : Nat) (ba : Option Addr) (bc : Nat), e = .returned (.tuple #[.agg #[.slice pa f.params.length pc, .slice ba f.blocks.length bc], .int .i64 0, .int .i64 0, .int .i64 0]) ∧ Hid (FnW w' f pa pc ba bc) ∧ Below w.heap.size w w' := by
  obtain ⟨h1, h2, h3, h4, h5⟩ := back_fn h hs
  refine (parseQ_any s w hT (fun h => start_fit s (by omega))).mono ?_
  rintro e w' ⟨pa, pc, ba, bc, he, hF, hb⟩
  rw [h5, h4, h3, h2] at he
  rw [h5] at hF
  exact ⟨pa, pc, ba, bc, he, hF, hb⟩
set_option maxRecDepth 100000 in
set_option maxHeartbeats 8000000 in
theorem readBack_any (f : Ff) (pa : Option Addr) (pc : Nat) (ba : Option Addr) (bc : Nat) (s : ByteArray) (w : World) (hBig : BigF f) (hF : FnW w f pa pc ba bc) (hsz : s.size ≤ 140737488355328) (hT : TabQ w) :
    Calls Tryz.prog 6 #[fnV f pa pc ba bc, .string s] w fun e w' => e = .returned (.bool true) ∧ Below w.heap.size w w' := by
  obtain ⟨A, hA⟩ : ∃ A, A = w.alloc (.cells (fnC f pa pc ba bc) 25) := ⟨_, rfl⟩
  have hw0 : Below w.heap.size w A := by rw [hA]; exact (Below.refl _ w).alloc (Nat.le_refl _) _
  have HX : Hid (∀ W, Below A.heap.size A W → (W.cell? ⟨w.heap.size, 0, none⟩ = some (.slice pa f.params.length pc) ∧ W.cell? ⟨w.heap.size, 1, none⟩ = some (.slice ba f.blocks.length bc)) ∧ w.heap.size < W.heap.size) := fun W h => by
    have x1 : Blk A w.heap.size 25 (fnC f pa pc ba bc) := by rw [hA]; exact Blk.new w _ _
    exact ⟨box2 (x1.below h x1.lt), (x1.below h x1.lt).lt⟩
  have HW0 := Lib.hid hw0
  replace hF := hF.below hw0
  replace hT := hT.below hw0
  have AW := Lib.hid (awake4_any A hT)
  have EF : Hid (fnV f pa pc ba bc = .agg #[.slice pa f.params.length pc, .slice ba f.blocks.length bc]) := rfl
  have FO : Hid (∀ W, Below A.heap.size A W → _) := fun W h => funcOf_any f pa pc ba bc W hBig (hF.below h)
  have PF : Hid (SmallF f → ∀ W, Below A.heap.size A W → _) := fun hs W h => print_any f pa pc ba bc W hs (hF.below h) (hT.pow.below h) (hT.names.below h)
  have PB : Hid (canF f = true → ∀ (S : ByteArray), S.data.toList = fnL f → ∀ W, Below A.heap.size A W → _) := fun hc S hS W h => reparseQ f S W (hT.below h) hc hS
  have SF : Hid (SmallF f → ∀ (pa' : Option Addr) (pc' : Nat) (ba' : Option Addr) (bc' : Nat) W, Below A.heap.size A W → FnW W f pa' pc' ba' bc' → Calls Tryz.prog 16 #[fnV f pa pc ba bc, .agg #[.slice pa' f.params.length pc', .slice ba' f.blocks.length bc']] W fun e w' => e = .returned (.bool true) ∧ Below W.heap.size W w') := fun hs pa' pc' ba' bc' W h h2 => sameFunc_same f pa ba pa' ba' pc bc pc' bc' W hs (hF.below h) h2
  have RG : Hid (SmallF f → ∀ W, Below A.heap.size A W → _) := fun hs W h => right_any f pa pc ba bc W hs (hF.below h)
  have PS : Hid (∀ W, Below A.heap.size A W → Calls Tryz.prog 14 #[.string s] W fun e w' => ∃ (p2 : Option Addr) (k2 : Nat) (b2 : Option Addr) (c2 : Nat), e = .returned (.tuple #[.agg #[.slice p2 (pfF s).params.length k2, .slice b2 (pfF s).blocks.length c2], .int .i64 (pfL s), .int .i64 (pfC s), .int .i64 (pfE s)]) ∧ Hid (FnW w' (pfF s) p2 k2 b2 c2) ∧ Below W.heap.size W w') := fun W h => parseQ_any s W (hT.below h) (fun h => start_fit s (by omega))
  have P2 : Hid (pfE s = 0 → ∀ (p2 : Option Addr) (k2 : Nat) (b2 : Option Addr) (c2 : Nat) W, Below A.heap.size A W → FnW W (pfF s) p2 k2 b2 c2 → Calls Tryz.prog 11 #[.agg #[.slice p2 (pfF s).params.length k2, .slice b2 (pfF s).blocks.length c2]] W fun e w' => ∃ S : ByteArray, (e = .returned (.tuple #[.string S, .int .i64 0]) ∧ S.data.toList = fnL (pfF s)) ∧ Below W.heap.size W w') := fun h0 p2 k2 b2 c2 W h h2 =>
    (print_any (pfF s) p2 k2 b2 c2 W (small_can (pf_can h0)) h2 (hT.pow.below h) (hT.names.below h)).mono fun e w' hh => by
      rw [pf_can h0] at hh
      exact hh
  have P3 : Hid (pfE s = 0 → ∀ (S : ByteArray), S.data.toList = fnL (pfF s) → ∀ W, Below A.heap.size A W → _) := fun h0 S hS W h => reparseQ (pfF s) S W (hT.below h) (pf_can h0) hS
  have S2 : Hid (pfE s = 0 → ∀ (p2 p3 : Option Addr) (k2 k3 : Nat) (b2 b3 : Option Addr) (c2 c3 : Nat) W, FnW W (pfF s) p2 k2 b2 c2 → FnW W (pfF s) p3 k3 b3 c3 → Calls Tryz.prog 16 #[.agg #[.slice p2 (pfF s).params.length k2, .slice b2 (pfF s).blocks.length c2], .agg #[.slice p3 (pfF s).params.length k3, .slice b3 (pfF s).blocks.length c3]] W fun e w' => e = .returned (.bool true) ∧ Below W.heap.size W w') := fun h0 p2 p3 k2 k3 b2 b3 c2 c3 W h2 h3 => sameFunc_same (pfF s) p2 b2 p3 b3 k2 c2 k3 c3 W (small_can (pf_can h0)) h2 h3
  have SN : Hid (pfE s ≠ 0 → ∀ (p2 : Option Addr) (k2 : Nat) (b2 : Option Addr) (c2 : Nat) W, FnW W (pfF s) p2 k2 b2 c2 → Calls Tryz.prog 16 #[.agg #[.slice p2 (pfF s).params.length k2, .slice b2 (pfF s).blocks.length c2], .agg #[.slice none 0 0, .slice none 0 0]] W fun e w' => e = .returned (.bool true) ∧ Below W.heap.size W w') := fun h0 p2 k2 b2 c2 W h2 => by
    have e := pf_none h0
    have := sameFunc_same (pfF s) p2 b2 none none k2 c2 0 0 W (by rw [e]; exact small_no) h2 (by rw [e]; exact noF_fn W)
    rw [show fnV (pfF s) none 0 none 0 = .agg #[.slice none 0 0, .slice none 0 0] by rw [e]; exact noF_val] at this
    exact this
  have RC : Hid (∀ n, RightIs f n → f.blocks.length ≤ 64 → canF f = false → n ≠ 0) := fun n h1 h2 h3 e => by
    subst e
    rw [right_canF h1 h2] at h3
    cases h3
  have HSZ := Lib.hid hsz
  have hbb := hBig.b
  clear hF hT hBig
  rw [EF.out] at FO PF SF RG
  have ETC : Hid (fnC f pa pc ba bc = #[.slice pa f.params.length pc, .slice ba f.blocks.length bc]) := rfl
  rw [ETC.out] at hA
  rw [EF.out]
  obtain ⟨⟨x0, x1⟩, hxl⟩ := HX.out A (Below.refl _ _)
  clear EF ETC hw0
  generalize pfF s = gs at *
  generalize pfE s = es at *
  generalize pfL s = ll at *
  generalize pfC s = cc at *
  go_enter Tryz.func6, Tryz.ntmps6
  go_wp2_with fail
  rw [← hA]
  refine AW.out.mono ?_
  rintro e w1 ⟨rfl, hb1⟩
  have HB1 := Lib.hid hb1
  clear AW hA x0 x1 hxl hb1
  have FO1 := Lib.hid (FO.out w1 HB1.out)
  obtain ⟨⟨x0, x1⟩, hxl⟩ := HX.out w1 HB1.out
  go_wp2_with fail
  refine FO1.out.mono ?_
  rintro e w2 ⟨⟨n, rfl, hn⟩, hb2⟩
  have HB2 : Hid (Below A.heap.size A w2) := HB1.out.trans (hb2.mono HB1.out.size)
  have HN := Lib.hid hn
  clear hb2 hn FO FO1 x0 x1 hxl
  by_cases hbig : (700 : Int) < n
  · go_wp2
    go_ret
    exact ⟨rfl, HW0.out.trans (HB2.out.mono HW0.out.size)⟩
  by_cases hlong : (3000 : Int) < s.size
  · go_wp2
    go_ret
    exact ⟨rfl, HW0.out.trans (HB2.out.mono HW0.out.size)⟩
  have HSM := Lib.hid (small_few (HN.out (by omega)))
  have PF1 := Lib.hid (PF.out HSM.out w2 HB2.out)
  obtain ⟨⟨x0, x1⟩, hxl⟩ := HX.out w2 HB2.out
  clear PF HN
  cases hc : canF f with
  | true =>
    rw [hc] at PF1
    have HC := Lib.hid hc
    clear hc RC RG
    go_wp2_with fail
    refine PF1.out.mono ?_
    rintro e w3 ⟨S, ⟨rfl, hS⟩, hb3⟩
    have HB3 : Hid (Below A.heap.size A w3) := HB2.out.trans (hb3.mono HB2.out.size)
    have PB1 := Lib.hid (PB.out HC.out S hS w3 HB3.out)
    clear hb3 hS PB PF1 x0 x1 hxl HC
    go_wp2_with fail
    refine PB1.out.mono ?_
    rintro e w4 ⟨pa', pc', ba', bc', rfl, hF4, hb4⟩
    have HB4 : Hid (Below A.heap.size A w4) := HB3.out.trans (hb4.mono HB3.out.size)
    have hba : Below w4.heap.size w4 (w4.alloc (.cells #[.slice pa' f.params.length pc', .slice ba' f.blocks.length bc'] 25)) := (Below.refl _ _).alloc (Nat.le_refl _) _
    have HB5 : Hid (Below A.heap.size A (w4.alloc (.cells #[.slice pa' f.params.length pc', .slice ba' f.blocks.length bc'] 25))) := HB4.out.trans (hba.mono HB4.out.size)
    have SS0 := Lib.hid (SF.out HSM.out pa' pc' ba' bc' _ HB5.out (hF4.out.below hba))
    obtain ⟨⟨x0, x1⟩, hxl⟩ := HX.out w4 HB4.out
    clear hb4 hba hF4 SF PB1
    go_wp2_with fail
    refine SS0.out.mono ?_
    rintro e w5 ⟨rfl, hb5⟩
    have HB5b : Hid (Below A.heap.size A w5) := HB5.out.trans (hb5.mono HB5.out.size)
    obtain ⟨⟨x0, x1⟩, hxl⟩ := HX.out w5 HB5b.out
    clear hb5 SS0 HB5
    have PS1 := Lib.hid (PS.out w5 HB5b.out)
    go_wp2_with fail
    refine PS1.out.mono ?_
    rintro e w6 ⟨p2, k2, b2, c2, rfl, hF6, hb6⟩
    have HB6 : Hid (Below A.heap.size A w6) := HB5b.out.trans (hb6.mono HB5b.out.size)
    have hba : Below w6.heap.size w6 (w6.alloc (.cells #[.slice p2 gs.params.length k2, .slice b2 gs.blocks.length c2] 25)) := (Below.refl _ _).alloc (Nat.le_refl _) _
    have HB7 : Hid (Below A.heap.size A (w6.alloc (.cells #[.slice p2 gs.params.length k2, .slice b2 gs.blocks.length c2] 25))) := HB6.out.trans (hba.mono HB6.out.size)
    have HF7 : Hid (FnW (w6.alloc (.cells #[.slice p2 gs.params.length k2, .slice b2 gs.blocks.length c2] 25)) gs p2 k2 b2 c2) := hF6.out.below hba
    have HBX : Hid (Blk (w6.alloc (.cells #[.slice p2 gs.params.length k2, .slice b2 gs.blocks.length c2] 25)) w6.heap.size 25 #[.slice p2 gs.params.length k2, .slice b2 gs.blocks.length c2]) := Blk.new w6 _ _
    clear hb6 hF6 PS PS1 hba
    by_cases he : es = 0
    · have P21 := Lib.hid (P2.out he p2 k2 b2 c2 _ HB7.out HF7.out)
      have heb : (es != 0) = false := by simp [he]
      clear SN
      go_wp2_with fail
      refine P21.out.mono ?_
      rintro e w8 ⟨S2x, ⟨rfl, hS⟩, hb8⟩
      have HB8 : Hid (Below A.heap.size A w8) := HB7.out.trans (hb8.mono HB7.out.size)
      have P31 := Lib.hid (P3.out he S2x hS w8 HB8.out)
      have HF8 := Lib.hid (HF7.out.below hb8)
      have HBX8 := Lib.hid (HBX.out.below hb8 HBX.out.lt)
      clear hb8 hS P2 P21 P3 HF7 HBX HB7
      go_wp2_with fail
      refine P31.out.mono ?_
      rintro e w9 ⟨p3, k3, b3, c3, rfl, hF9, hb9⟩
      have HB9 : Hid (Below A.heap.size A w9) := HB8.out.trans (hb9.mono HB8.out.size)
      have hba : Below w9.heap.size w9 (w9.alloc (.cells #[.slice p3 gs.params.length k3, .slice b3 gs.blocks.length c3] 25)) := (Below.refl _ _).alloc (Nat.le_refl _) _
      have HB10 : Hid (Below A.heap.size A (w9.alloc (.cells #[.slice p3 gs.params.length k3, .slice b3 gs.blocks.length c3] 25))) := HB9.out.trans (hba.mono HB9.out.size)
      have SS := Lib.hid (S2.out he p2 p3 k2 k3 b2 b3 c2 c3 _ ((HF8.out.below hb9).below hba) (hF9.out.below hba))
      have hbx := HBX8.out.below hb9 HBX8.out.lt
      have y0 : w9.cell? ⟨w6.heap.size, 0, none⟩ = some (.slice p2 gs.params.length k2) := hbx.cell 0
      have y1 : w9.cell? ⟨w6.heap.size, 1, none⟩ = some (.slice b2 gs.blocks.length c2) := hbx.cell 1
      have hyl := hbx.lt
      clear hb9 hba hF9 S2 P31 HF8 HBX8 hbx
      go_wp2_with fail
      refine SS.out.mono ?_
      rintro e w11 ⟨rfl, hb11⟩
      have HB11 : Hid (Below A.heap.size A w11) := HB10.out.trans (hb11.mono HB10.out.size)
      clear hb11 SS y0 y1 hyl
      go_wp2
      go_ret
      exact ⟨rfl, HW0.out.trans (HB11.out.mono HW0.out.size)⟩
    · have SS := Lib.hid (SN.out he p2 k2 b2 c2 _ HF7.out)
      have heb : (es != 0) = true := by simp [he]
      clear P2 P3 S2 SN
      go_wp2_with fail
      refine SS.out.mono ?_
      rintro e w8 ⟨rfl, hb8⟩
      have HB8 : Hid (Below A.heap.size A w8) := HB7.out.trans (hb8.mono HB7.out.size)
      clear hb8 SS
      go_wp2
      go_ret
      exact ⟨rfl, HW0.out.trans (HB8.out.mono HW0.out.size)⟩
  | false =>
    rw [hc] at PF1
    clear PB SF
    go_wp2_with fail
    refine PF1.out.mono ?_
    rintro e w3 ⟨S, ⟨rfl, hS⟩, hb3⟩
    obtain rfl : S = ⟨#[]⟩ := hS
    have HB3 : Hid (Below A.heap.size A w3) := HB2.out.trans (hb3.mono HB2.out.size)
    have RG1 := Lib.hid (RG.out HSM.out w3 HB3.out)
    obtain ⟨⟨x0, x1⟩, hxl⟩ := HX.out w3 HB3.out
    clear hb3 RG PF1
    by_cases h64 : (f.blocks.length : Int) ≤ 64
    · go_wp2_with fail
      refine RG1.out.mono ?_
      rintro e w4 ⟨⟨nr, rfl, hnr⟩, hb4⟩
      have hr0 := RC.out nr hnr (by omega) hc
      have hrb : (nr == 0) = false := by simp [hr0]
      have HB4 : Hid (Below A.heap.size A w4) := HB3.out.trans (hb4.mono HB3.out.size)
      clear hb4 hnr RG1 RC hc x0 x1 hxl
      have PS1 := Lib.hid (PS.out w4 HB4.out)
      go_wp2_with fail
      refine PS1.out.mono ?_
      rintro e w6 ⟨p2, k2, b2, c2, rfl, hF6, hb6⟩
      have HB6 : Hid (Below A.heap.size A w6) := HB4.out.trans (hb6.mono HB4.out.size)
      have hba : Below w6.heap.size w6 (w6.alloc (.cells #[.slice p2 gs.params.length k2, .slice b2 gs.blocks.length c2] 25)) := (Below.refl _ _).alloc (Nat.le_refl _) _
      have HB7 : Hid (Below A.heap.size A (w6.alloc (.cells #[.slice p2 gs.params.length k2, .slice b2 gs.blocks.length c2] 25))) := HB6.out.trans (hba.mono HB6.out.size)
      have HF7 : Hid (FnW (w6.alloc (.cells #[.slice p2 gs.params.length k2, .slice b2 gs.blocks.length c2] 25)) gs p2 k2 b2 c2) := hF6.out.below hba
      have HBX : Hid (Blk (w6.alloc (.cells #[.slice p2 gs.params.length k2, .slice b2 gs.blocks.length c2] 25)) w6.heap.size 25 #[.slice p2 gs.params.length k2, .slice b2 gs.blocks.length c2]) := Blk.new w6 _ _
      clear hb6 hF6 PS PS1 hba
      by_cases he : es = 0
      · have P21 := Lib.hid (P2.out he p2 k2 b2 c2 _ HB7.out HF7.out)
        have heb : (es != 0) = false := by simp [he]
        clear SN
        go_wp2_with fail
        refine P21.out.mono ?_
        rintro e w8 ⟨S2x, ⟨rfl, hS⟩, hb8⟩
        have HB8 : Hid (Below A.heap.size A w8) := HB7.out.trans (hb8.mono HB7.out.size)
        have P31 := Lib.hid (P3.out he S2x hS w8 HB8.out)
        have HF8 := Lib.hid (HF7.out.below hb8)
        have HBX8 := Lib.hid (HBX.out.below hb8 HBX.out.lt)
        clear hb8 hS P2 P21 P3 HF7 HBX HB7
        go_wp2_with fail
        refine P31.out.mono ?_
        rintro e w9 ⟨p3, k3, b3, c3, rfl, hF9, hb9⟩
        have HB9 : Hid (Below A.heap.size A w9) := HB8.out.trans (hb9.mono HB8.out.size)
        have hba : Below w9.heap.size w9 (w9.alloc (.cells #[.slice p3 gs.params.length k3, .slice b3 gs.blocks.length c3] 25)) := (Below.refl _ _).alloc (Nat.le_refl _) _
        have HB10 : Hid (Below A.heap.size A (w9.alloc (.cells #[.slice p3 gs.params.length k3, .slice b3 gs.blocks.length c3] 25))) := HB9.out.trans (hba.mono HB9.out.size)
        have SS := Lib.hid (S2.out he p2 p3 k2 k3 b2 b3 c2 c3 _ ((HF8.out.below hb9).below hba) (hF9.out.below hba))
        have hbx := HBX8.out.below hb9 HBX8.out.lt
        have y0 : w9.cell? ⟨w6.heap.size, 0, none⟩ = some (.slice p2 gs.params.length k2) := hbx.cell 0
        have y1 : w9.cell? ⟨w6.heap.size, 1, none⟩ = some (.slice b2 gs.blocks.length c2) := hbx.cell 1
        have hyl := hbx.lt
        clear hb9 hba hF9 S2 P31 HF8 HBX8 hbx
        go_wp2_with fail
        refine SS.out.mono ?_
        rintro e w11 ⟨rfl, hb11⟩
        have HB11 : Hid (Below A.heap.size A w11) := HB10.out.trans (hb11.mono HB10.out.size)
        clear hb11 SS y0 y1 hyl
        go_wp2
        go_ret
        exact ⟨rfl, HW0.out.trans (HB11.out.mono HW0.out.size)⟩
      · have SS := Lib.hid (SN.out he p2 k2 b2 c2 _ HF7.out)
        have heb : (es != 0) = true := by simp [he]
        clear P2 P3 S2 SN
        go_wp2_with fail
        refine SS.out.mono ?_
        rintro e w8 ⟨rfl, hb8⟩
        have HB8 : Hid (Below A.heap.size A w8) := HB7.out.trans (hb8.mono HB7.out.size)
        clear hb8 SS
        go_wp2
        go_ret
        exact ⟨rfl, HW0.out.trans (HB8.out.mono HW0.out.size)⟩
    · clear RC hc
      have PS1 := Lib.hid (PS.out w3 HB3.out)
      go_wp2_with fail
      refine PS1.out.mono ?_
      rintro e w6 ⟨p2, k2, b2, c2, rfl, hF6, hb6⟩
      have HB6 : Hid (Below A.heap.size A w6) := HB3.out.trans (hb6.mono HB3.out.size)
      have hba : Below w6.heap.size w6 (w6.alloc (.cells #[.slice p2 gs.params.length k2, .slice b2 gs.blocks.length c2] 25)) := (Below.refl _ _).alloc (Nat.le_refl _) _
      have HB7 : Hid (Below A.heap.size A (w6.alloc (.cells #[.slice p2 gs.params.length k2, .slice b2 gs.blocks.length c2] 25))) := HB6.out.trans (hba.mono HB6.out.size)
      have HF7 : Hid (FnW (w6.alloc (.cells #[.slice p2 gs.params.length k2, .slice b2 gs.blocks.length c2] 25)) gs p2 k2 b2 c2) := hF6.out.below hba
      have HBX : Hid (Blk (w6.alloc (.cells #[.slice p2 gs.params.length k2, .slice b2 gs.blocks.length c2] 25)) w6.heap.size 25 #[.slice p2 gs.params.length k2, .slice b2 gs.blocks.length c2]) := Blk.new w6 _ _
      clear hb6 hF6 PS PS1 hba
      by_cases he : es = 0
      · have P21 := Lib.hid (P2.out he p2 k2 b2 c2 _ HB7.out HF7.out)
        have heb : (es != 0) = false := by simp [he]
        clear SN
        go_wp2_with fail
        refine P21.out.mono ?_
        rintro e w8 ⟨S2x, ⟨rfl, hS⟩, hb8⟩
        have HB8 : Hid (Below A.heap.size A w8) := HB7.out.trans (hb8.mono HB7.out.size)
        have P31 := Lib.hid (P3.out he S2x hS w8 HB8.out)
        have HF8 := Lib.hid (HF7.out.below hb8)
        have HBX8 := Lib.hid (HBX.out.below hb8 HBX.out.lt)
        clear hb8 hS P2 P21 P3 HF7 HBX HB7
        go_wp2_with fail
        refine P31.out.mono ?_
        rintro e w9 ⟨p3, k3, b3, c3, rfl, hF9, hb9⟩
        have HB9 : Hid (Below A.heap.size A w9) := HB8.out.trans (hb9.mono HB8.out.size)
        have hba : Below w9.heap.size w9 (w9.alloc (.cells #[.slice p3 gs.params.length k3, .slice b3 gs.blocks.length c3] 25)) := (Below.refl _ _).alloc (Nat.le_refl _) _
        have HB10 : Hid (Below A.heap.size A (w9.alloc (.cells #[.slice p3 gs.params.length k3, .slice b3 gs.blocks.length c3] 25))) := HB9.out.trans (hba.mono HB9.out.size)
        have SS := Lib.hid (S2.out he p2 p3 k2 k3 b2 b3 c2 c3 _ ((HF8.out.below hb9).below hba) (hF9.out.below hba))
        have hbx := HBX8.out.below hb9 HBX8.out.lt
        have y0 : w9.cell? ⟨w6.heap.size, 0, none⟩ = some (.slice p2 gs.params.length k2) := hbx.cell 0
        have y1 : w9.cell? ⟨w6.heap.size, 1, none⟩ = some (.slice b2 gs.blocks.length c2) := hbx.cell 1
        have hyl := hbx.lt
        clear hb9 hba hF9 S2 P31 HF8 HBX8 hbx
        go_wp2_with fail
        refine SS.out.mono ?_
        rintro e w11 ⟨rfl, hb11⟩
        have HB11 : Hid (Below A.heap.size A w11) := HB10.out.trans (hb11.mono HB10.out.size)
        clear hb11 SS y0 y1 hyl
        go_wp2
        go_ret
        exact ⟨rfl, HW0.out.trans (HB11.out.mono HW0.out.size)⟩
      · have SS := Lib.hid (SN.out he p2 k2 b2 c2 _ HF7.out)
        have heb : (es != 0) = true := by simp [he]
        clear P2 P3 S2 SN
        go_wp2_with fail
        refine SS.out.mono ?_
        rintro e w8 ⟨rfl, hb8⟩
        have HB8 : Hid (Below A.heap.size A w8) := HB7.out.trans (hb8.mono HB7.out.size)
        clear hb8 SS
        go_wp2
        go_ret
        exact ⟨rfl, HW0.out.trans (HB8.out.mono HW0.out.size)⟩
end Go.Proofs.YthiipgahbmoiiaaGreatDoor
