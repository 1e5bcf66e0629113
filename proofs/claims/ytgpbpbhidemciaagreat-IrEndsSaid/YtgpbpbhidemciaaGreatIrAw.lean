/-
  The chapter's example is told as the document has it. No condition beyond those that each theorem states.
-/
import Derived.Test.YtgpbpbhidemciaaGreatIrRt
import Derived.Test.YtgpbpbhidemciaaGreatIrSz
namespace Go.Proofs.YtgpbpbhidemciaaGreat
open Go.RowKit

def exI : Ii := ⟨1, 1, 0, 0, 5, 0, [], 0⟩
def exF : Ff := ⟨[], [⟨[exI], ⟨3, 1, 0, 0⟩⟩]⟩
def exG : Ff := ⟨[], [⟨[exI], ⟨3, 2, 0, 0⟩⟩]⟩
theorem ex_small : SmallF exF ∧ SmallF exG := by
  constructor
  · refine ⟨by decide, by decide, fun x hx => ?_⟩
    simp [exF] at hx
    subst hx
    exact ⟨by decide, fun i hi => by simp at hi; subst hi; decide⟩
  · refine ⟨by decide, by decide, fun x hx => ?_⟩
    simp [exG] at hx
    subst hx
    exact ⟨by decide, fun i hi => by simp at hi; subst hi; decide⟩
theorem exF_right : RightIs exF 0 := by
  have h1 : shapeN exF = 0 := by decide
  have h2 : goesB exF = true := by decide
  have hl : ¬ LostB exF := by
    rintro (h | ⟨b, hb, hr⟩)
    · rw [h2] at h; cases h
    · have : b = 0 := by simp [exF] at hb; exact hb
      subst this
      exact hr .zero
  refine ⟨fun h => absurd h1 h, fun _ h => absurd h hl, fun _ _ ⟨v, hv0, b, x, hx, _, hin⟩ => ?_, fun _ _ _ => rfl⟩
  have hb : b = 0 := by have := (List.getElem?_eq_some_iff.1 hx).1; simp [exF] at this; exact this
  subst hb
  simp [exF] at hx
  subst hx
  rcases hin with h | ⟨h3, h4⟩
  · have : readsL exI = [] := by decide
    rw [this] at h
    cases h
  · have : needsL ⟨3, 1, 0, 0⟩ = [1] := by decide
    have h4 : v ∈ needsL ⟨3, 1, 0, 0⟩ := h4
    rw [this] at h4
    simp at h4
    exact absurd (show exI.dst = v by rw [h4]; rfl) h3
theorem exG_right : RightIs exG 8 := by
  have h1 : shapeN exG = 0 := by decide
  have h2 : goesB exG = true := by decide
  have hl : ¬ LostB exG := by
    rintro (h | ⟨b, hb, hr⟩)
    · rw [h2] at h; cases h
    · have : b = 0 := by simp [exG] at hb; exact hb
      subst this
      exact hr .zero
  have hlack : LacksV exG 2 := ⟨0, _, rfl, .zero (by simp [exG]), .inr ⟨by decide, by show (2 : Int) ∈ needsL ⟨3, 2, 0, 0⟩; decide⟩⟩
  exact ⟨fun h => absurd h1 h, fun _ h => absurd h hl, fun _ _ _ => rfl, fun _ _ h => absurd hlack (h 2 (by decide))⟩
theorem exF_vars : (varsL exF).length = 1 := by decide +kernel
theorem exF_size : sizeN exF = 2 := by decide
theorem blk_at {W : World} {g : Nat} {t : TypeId} {cs : Array Value} (hg : W.heap.size = g) : Blk (W.alloc (.cells cs t)) g t cs := by rw [← hg]; exact Blk.new W t cs
/-- A function of one block, of one instruction without arguments. -/
theorem one_fn {W : World} {p q : Nat} {t t' : TypeId} {x : Ii} {tm : Tt} (hx : x.args = []) (hp : Blk W p t (insC x none 0)) (hq : Blk W q t' (blC ⟨[x], tm⟩ (some ⟨p, 0, none⟩) 1)) : FnW W ⟨[], [⟨[x], tm⟩]⟩ none 0 (some ⟨q, 0, none⟩) 1 := by
  refine ⟨IntsW.nil _ _, ?_, fun _ => rfl, fun h => by cases h⟩
  intro k y hy
  match k with
  | 0 =>
    simp at hy
    subst hy
    refine ⟨q, 0, some ⟨p, 0, none⟩, 1, rfl, hq.lt, ⟨hq.cell 0, hq.cell 1, hq.cell 2, hq.cell 3, hq.cell 4, (fun h => by cases h), ?_⟩⟩
    intro k y hy
    match k with
    | 0 =>
      simp at hy
      subst hy
      exact ⟨p, 0, none, 0, rfl, hp.lt, ⟨hp.cell 0, hp.cell 1, hp.cell 2, hp.cell 3, hp.cell 4, hp.cell 5, hp.cell 6, hp.cell 7, fun _ => rfl, by rw [hx]; exact IntsW.nil _ _⟩⟩
    | k + 1 => simp at hy
  | k + 1 => simp at hy
set_option maxRecDepth 100000 in
theorem ex_world (w : World) : Blk (((((w.alloc (.cells #[.int .i64 1, .int .i64 1, .int .i64 0, .int .i64 0, .int .i64 5, .int .i64 0, .slice none 0 0, .int .i64 0] 25)).alloc (.cells #[.slice (some ⟨w.heap.size, 0, none⟩) 1 1, .int .i64 3, .int .i64 1, .int .i64 0, .int .i64 0] 34)).alloc (.cells #[.slice none 0 0, .slice (some ⟨w.heap.size + 1, 0, none⟩) 1 1] 37)).alloc (.cells #[.slice (some ⟨w.heap.size, 0, none⟩) 1 1, .int .i64 3, .int .i64 2, .int .i64 0, .int .i64 0] 34)).alloc (.cells #[.slice none 0 0, .slice (some ⟨w.heap.size + 1 + 1 + 1, 0, none⟩) 1 1] 37)) (w.heap.size) 25 (insC exI none 0) ∧ Blk (((((w.alloc (.cells #[.int .i64 1, .int .i64 1, .int .i64 0, .int .i64 0, .int .i64 5, .int .i64 0, .slice none 0 0, .int .i64 0] 25)).alloc (.cells #[.slice (some ⟨w.heap.size, 0, none⟩) 1 1, .int .i64 3, .int .i64 1, .int .i64 0, .int .i64 0] 34)).alloc (.cells #[.slice none 0 0, .slice (some ⟨w.heap.size + 1, 0, none⟩) 1 1] 37)).alloc (.cells #[.slice (some ⟨w.heap.size, 0, none⟩) 1 1, .int .i64 3, .int .i64 2, .int .i64 0, .int .i64 0] 34)).alloc (.cells #[.slice none 0 0, .slice (some ⟨w.heap.size + 1 + 1 + 1, 0, none⟩) 1 1] 37)) (w.heap.size + 1) 34 (blC ⟨[exI], ⟨3, 1, 0, 0⟩⟩ (some ⟨w.heap.size, 0, none⟩) 1) ∧ Blk (((((w.alloc (.cells #[.int .i64 1, .int .i64 1, .int .i64 0, .int .i64 0, .int .i64 5, .int .i64 0, .slice none 0 0, .int .i64 0] 25)).alloc (.cells #[.slice (some ⟨w.heap.size, 0, none⟩) 1 1, .int .i64 3, .int .i64 1, .int .i64 0, .int .i64 0] 34)).alloc (.cells #[.slice none 0 0, .slice (some ⟨w.heap.size + 1, 0, none⟩) 1 1] 37)).alloc (.cells #[.slice (some ⟨w.heap.size, 0, none⟩) 1 1, .int .i64 3, .int .i64 2, .int .i64 0, .int .i64 0] 34)).alloc (.cells #[.slice none 0 0, .slice (some ⟨w.heap.size + 1 + 1 + 1, 0, none⟩) 1 1] 37)) (w.heap.size + 1 + 1) 37 (fnC exF none 0 (some ⟨w.heap.size + 1, 0, none⟩) 1) ∧ Blk (((((w.alloc (.cells #[.int .i64 1, .int .i64 1, .int .i64 0, .int .i64 0, .int .i64 5, .int .i64 0, .slice none 0 0, .int .i64 0] 25)).alloc (.cells #[.slice (some ⟨w.heap.size, 0, none⟩) 1 1, .int .i64 3, .int .i64 1, .int .i64 0, .int .i64 0] 34)).alloc (.cells #[.slice none 0 0, .slice (some ⟨w.heap.size + 1, 0, none⟩) 1 1] 37)).alloc (.cells #[.slice (some ⟨w.heap.size, 0, none⟩) 1 1, .int .i64 3, .int .i64 2, .int .i64 0, .int .i64 0] 34)).alloc (.cells #[.slice none 0 0, .slice (some ⟨w.heap.size + 1 + 1 + 1, 0, none⟩) 1 1] 37)) (w.heap.size + 1 + 1 + 1) 34 (blC ⟨[exI], ⟨3, 2, 0, 0⟩⟩ (some ⟨w.heap.size, 0, none⟩) 1) ∧ Blk (((((w.alloc (.cells #[.int .i64 1, .int .i64 1, .int .i64 0, .int .i64 0, .int .i64 5, .int .i64 0, .slice none 0 0, .int .i64 0] 25)).alloc (.cells #[.slice (some ⟨w.heap.size, 0, none⟩) 1 1, .int .i64 3, .int .i64 1, .int .i64 0, .int .i64 0] 34)).alloc (.cells #[.slice none 0 0, .slice (some ⟨w.heap.size + 1, 0, none⟩) 1 1] 37)).alloc (.cells #[.slice (some ⟨w.heap.size, 0, none⟩) 1 1, .int .i64 3, .int .i64 2, .int .i64 0, .int .i64 0] 34)).alloc (.cells #[.slice none 0 0, .slice (some ⟨w.heap.size + 1 + 1 + 1, 0, none⟩) 1 1] 37)) (w.heap.size + 1 + 1 + 1 + 1) 37 (fnC exG none 0 (some ⟨w.heap.size + 1 + 1 + 1, 0, none⟩) 1) ∧ Below w.heap.size w (((((w.alloc (.cells #[.int .i64 1, .int .i64 1, .int .i64 0, .int .i64 0, .int .i64 5, .int .i64 0, .slice none 0 0, .int .i64 0] 25)).alloc (.cells #[.slice (some ⟨w.heap.size, 0, none⟩) 1 1, .int .i64 3, .int .i64 1, .int .i64 0, .int .i64 0] 34)).alloc (.cells #[.slice none 0 0, .slice (some ⟨w.heap.size + 1, 0, none⟩) 1 1] 37)).alloc (.cells #[.slice (some ⟨w.heap.size, 0, none⟩) 1 1, .int .i64 3, .int .i64 2, .int .i64 0, .int .i64 0] 34)).alloc (.cells #[.slice none 0 0, .slice (some ⟨w.heap.size + 1 + 1 + 1, 0, none⟩) 1 1] 37)) := by
  have k0 : Blk (w.alloc (.cells #[.int .i64 1, .int .i64 1, .int .i64 0, .int .i64 0, .int .i64 5, .int .i64 0, .slice none 0 0, .int .i64 0] 25)) (w.heap.size) 25 (insC exI none 0) := Blk.new w _ _
  have k1 : Blk ((w.alloc (.cells #[.int .i64 1, .int .i64 1, .int .i64 0, .int .i64 0, .int .i64 5, .int .i64 0, .slice none 0 0, .int .i64 0] 25)).alloc (.cells #[.slice (some ⟨w.heap.size, 0, none⟩) 1 1, .int .i64 3, .int .i64 1, .int .i64 0, .int .i64 0] 34)) (w.heap.size + 1) 34 (blC ⟨[exI], ⟨3, 1, 0, 0⟩⟩ (some ⟨w.heap.size, 0, none⟩) 1) := blk_at (by simp)
  have k2 : Blk (((w.alloc (.cells #[.int .i64 1, .int .i64 1, .int .i64 0, .int .i64 0, .int .i64 5, .int .i64 0, .slice none 0 0, .int .i64 0] 25)).alloc (.cells #[.slice (some ⟨w.heap.size, 0, none⟩) 1 1, .int .i64 3, .int .i64 1, .int .i64 0, .int .i64 0] 34)).alloc (.cells #[.slice none 0 0, .slice (some ⟨w.heap.size + 1, 0, none⟩) 1 1] 37)) (w.heap.size + 1 + 1) 37 (fnC exF none 0 (some ⟨w.heap.size + 1, 0, none⟩) 1) := blk_at (by simp)
  have k3 : Blk ((((w.alloc (.cells #[.int .i64 1, .int .i64 1, .int .i64 0, .int .i64 0, .int .i64 5, .int .i64 0, .slice none 0 0, .int .i64 0] 25)).alloc (.cells #[.slice (some ⟨w.heap.size, 0, none⟩) 1 1, .int .i64 3, .int .i64 1, .int .i64 0, .int .i64 0] 34)).alloc (.cells #[.slice none 0 0, .slice (some ⟨w.heap.size + 1, 0, none⟩) 1 1] 37)).alloc (.cells #[.slice (some ⟨w.heap.size, 0, none⟩) 1 1, .int .i64 3, .int .i64 2, .int .i64 0, .int .i64 0] 34)) (w.heap.size + 1 + 1 + 1) 34 (blC ⟨[exI], ⟨3, 2, 0, 0⟩⟩ (some ⟨w.heap.size, 0, none⟩) 1) := blk_at (by simp)
  have k4 : Blk (((((w.alloc (.cells #[.int .i64 1, .int .i64 1, .int .i64 0, .int .i64 0, .int .i64 5, .int .i64 0, .slice none 0 0, .int .i64 0] 25)).alloc (.cells #[.slice (some ⟨w.heap.size, 0, none⟩) 1 1, .int .i64 3, .int .i64 1, .int .i64 0, .int .i64 0] 34)).alloc (.cells #[.slice none 0 0, .slice (some ⟨w.heap.size + 1, 0, none⟩) 1 1] 37)).alloc (.cells #[.slice (some ⟨w.heap.size, 0, none⟩) 1 1, .int .i64 3, .int .i64 2, .int .i64 0, .int .i64 0] 34)).alloc (.cells #[.slice none 0 0, .slice (some ⟨w.heap.size + 1 + 1 + 1, 0, none⟩) 1 1] 37)) (w.heap.size + 1 + 1 + 1 + 1) 37 (fnC exG none 0 (some ⟨w.heap.size + 1 + 1 + 1, 0, none⟩) 1) := blk_at (by simp)
  have b0 := Below.refl w.heap.size w
  have b1 := b0.alloc b0.size (Obj.cells #[.int .i64 1, .int .i64 1, .int .i64 0, .int .i64 0, .int .i64 5, .int .i64 0, .slice none 0 0, .int .i64 0] 25)
  have b2 := b1.alloc b1.size (Obj.cells #[.slice (some ⟨w.heap.size, 0, none⟩) 1 1, .int .i64 3, .int .i64 1, .int .i64 0, .int .i64 0] 34)
  have b3 := b2.alloc b2.size (Obj.cells #[.slice none 0 0, .slice (some ⟨w.heap.size + 1, 0, none⟩) 1 1] 37)
  have b4 := b3.alloc b3.size (Obj.cells #[.slice (some ⟨w.heap.size, 0, none⟩) 1 1, .int .i64 3, .int .i64 2, .int .i64 0, .int .i64 0] 34)
  have b5 := b4.alloc b4.size (Obj.cells #[.slice none 0 0, .slice (some ⟨w.heap.size + 1 + 1 + 1, 0, none⟩) 1 1] 37)
  exact ⟨(((k0.alloc _).alloc _).alloc _).alloc _, ((k1.alloc _).alloc _).alloc _, (k2.alloc _).alloc _, k3.alloc _, k4, b5⟩
set_option maxHeartbeats 4000000 in
set_option maxRecDepth 100000 in
theorem awakeI_any (w : World) : Calls Tryz.prog 8 #[] w fun e w' => e = .returned (.bool true) ∧ Below w.heap.size w w' := by
  have HW := Lib.hid (ex_world w)
  go_enter Tryz.func8, Tryz.ntmps8
  go_wp2_with fail
  generalize (((((w.alloc (.cells #[.int .i64 1, .int .i64 1, .int .i64 0, .int .i64 0, .int .i64 5, .int .i64 0, .slice none 0 0, .int .i64 0] 25)).alloc (.cells #[.slice (some ⟨w.heap.size, 0, none⟩) 1 1, .int .i64 3, .int .i64 1, .int .i64 0, .int .i64 0] 34)).alloc (.cells #[.slice none 0 0, .slice (some ⟨w.heap.size + 1, 0, none⟩) 1 1] 37)).alloc (.cells #[.slice (some ⟨w.heap.size, 0, none⟩) 1 1, .int .i64 3, .int .i64 2, .int .i64 0, .int .i64 0] 34)).alloc (.cells #[.slice none 0 0, .slice (some ⟨w.heap.size + 1 + 1 + 1, 0, none⟩) 1 1] 37)) = W at *
  generalize w.heap.size + 1 + 1 + 1 + 1 = B4 at *
  generalize w.heap.size + 1 + 1 + 1 = B3 at *
  generalize w.heap.size + 1 + 1 = B2 at *
  generalize w.heap.size + 1 = B1 at *
  obtain ⟨h0, h1, h2, h3, h4, hB⟩ := HW.out
  have H2 := Lib.hid h2
  have H4 := Lib.hid h4
  have HF := Lib.hid (one_fn (x := exI) (tm := ⟨3, 1, 0, 0⟩) rfl h0 h1)
  have HG := Lib.hid (one_fn (x := exI) (tm := ⟨3, 2, 0, 0⟩) rfl h0 h3)
  have HB := Lib.hid hB
  clear h0 h1 h2 h3 h4 hB HW
  have HR := Lib.hid (right_any exF none 0 (some ⟨B1, 0, none⟩) 1 W ex_small.1 HF.out)
  unfold fnV fnC at HR
  refine HR.out.mono ?_
  rintro e w1 ⟨⟨n1, rfl, hn1⟩, hb1⟩
  have e1 : n1 = 0 := hn1.same exF_right
  subst e1
  have J2 := Lib.hid (H2.out.below hb1 H2.out.lt)
  have J4 := Lib.hid (H4.out.below hb1 H4.out.lt)
  have JF := Lib.hid (HF.out.below hb1)
  have JG := Lib.hid (HG.out.below hb1)
  have JB := Lib.hid (HB.out.trans (hb1.mono HB.out.size))
  clear HR hn1 hb1 H2 H4 HF HG HB
  have HR := Lib.hid (right_any exG none 0 (some ⟨B3, 0, none⟩) 1 w1 ex_small.2 JG.out)
  unfold fnV fnC at HR
  obtain ⟨d0, d1⟩ := box2 J4.out
  go_wp2_with fail
  refine HR.out.mono ?_
  rintro e w2 ⟨⟨n2, rfl, hn2⟩, hb2⟩
  have e2 : n2 = 8 := hn2.same exG_right
  subst e2
  have K2 := Lib.hid (J2.out.below hb2 J2.out.lt)
  have KF := Lib.hid (JF.out.below hb2)
  have KB := Lib.hid (JB.out.trans (hb2.mono JB.out.size))
  clear HR hn2 hb2 J2 J4 JF JG JB d0 d1
  have HV := Lib.hid (vars_any exF none 0 (some ⟨B1, 0, none⟩) 1 w2 ex_small.1 KF.out)
  unfold fnV fnC at HV
  obtain ⟨d0, d1⟩ := box2 K2.out
  go_wp2_with fail
  refine HV.out.mono ?_
  rintro e w3 ⟨v, rfl, hv, hb3⟩
  obtain ⟨va, vc, rfl, _, _⟩ := hv.shape
  rw [exF_vars]
  have L2 := Lib.hid (K2.out.below hb3 K2.out.lt)
  have LF := Lib.hid (KF.out.below hb3)
  have LB := Lib.hid (KB.out.trans (hb3.mono KB.out.size))
  clear HV hv hb3 K2 KF KB d0 d1
  have HZ := Lib.hid (size_any' exF none 0 (some ⟨B1, 0, none⟩) 1 w3 ex_small.1 LF.out)
  rw [exF_size] at HZ
  unfold fnV fnC at HZ
  obtain ⟨d0, d1⟩ := box2 L2.out
  go_wp2_with fail
  refine HZ.out.mono ?_
  rintro e w4 ⟨rfl, hb4⟩
  go_wp2
  go_ret
  exact ⟨rfl, LB.out.trans (hb4.mono LB.out.size)⟩
end Go.Proofs.YtgpbpbhidemciaaGreat
