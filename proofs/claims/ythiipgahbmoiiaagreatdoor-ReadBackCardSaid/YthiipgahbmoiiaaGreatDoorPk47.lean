/-
  Functions of variables, plainly: what right parts have; all that is read has a value just if no variable lacks one; which error there is, told by the sets at the begins of blocks. No condition beyond those that each theorem states.
  Whether all edges go to blocks, whether all that a block reads has a value, whether a truth is in a row. No condition beyond those that each theorem states.
-/
import Derived.Test.YthiipgahbmoiiaaGreatDoorPk45
import Derived.Test.YthiipgahbmoiiaaGreatDoorPk2
import Derived.Test.YthiipgahbmoiiaaGreatDoorPk28
namespace Go.Proofs.YthiipgahbmoiiaaGreatDoor

/-- What is read in right parts is a variable. -/
theorem bareIn_var {v : Int} {t : Tt} {l : List Ii} (ht : isTermB t = true) (hl : ∀ i ∈ l, isInsB i = true) (h : bareIn v t l) : 1 ≤ v ∧ v ≤ 200 := by
  induction l with
  | nil =>
    have h1 := (mem_needs ht).1 h
    have h2 := term_part ht
    omega
  | cons i l ih =>
    rcases h with h | h
    · have h1 := (mem_reads (hl i (by simp))).1 h
      obtain ⟨_, h2, h3, h4⟩ := ins_parts (hl i (by simp))
      obtain ⟨h1 | h1 | h1, h0⟩ := h1
      · omega
      · omega
      · exact h4 v h1
    · exact ih (fun j hj => hl j (by simp [hj])) h.2
theorem only_iff {t : Tt} (ht : isTermB t = true) : ∀ {l : List Ii} {N : Nat}, (∀ i ∈ l, isInsB i = true) → (onlyB t l N = true ↔ ∀ v : Nat, v ≠ 0 → N.testBit v = false → ¬ bareIn v t l) := by
  intro l
  induction l with
  | nil =>
    intro N _
    have hp := term_part ht
    unfold onlyB
    rw [has_iff (by simp; omega)]
    constructor
    · intro h v h0 hv hb
      have h1 := (mem_needs ht).1 hb
      have := h t.a (by simp) (by rw [← h1.1]; exact h1.2)
      rw [← h1.1] at this
      simp [hv] at this
    · intro h v hv h0
      simp at hv
      subst hv
      cases hx : N.testBit t.a.toNat
      · refine absurd ?_ (h t.a.toNat (by omega) hx)
        show _ ∈ needsL t
        rw [mem_needs ht]
        omega
      · rfl
  | cons i l ih =>
    intro N hl
    have hi := hl i (by simp)
    obtain ⟨h1, h2, h3, h4⟩ := ins_parts hi
    unfold onlyB
    simp only [Bool.and_eq_true]
    rw [has_iff (by simp; omega), has_iff (fun v hv => by have := h4 v hv; omega), ih (fun j hj => hl j (by simp [hj]))]
    constructor
    · rintro ⟨⟨ha, hb⟩, hc⟩ v h0 hv hbare
      rcases hbare with hr | ⟨hne, hr⟩
      · obtain ⟨hr | hr | hr, h0'⟩ := (mem_reads hi).1 hr
        · have := ha v (by simp [hr]) h0'
          simp [hv] at this
        · have := ha v (by simp [hr]) h0'
          simp [hv] at this
        · have := hb v hr h0'
          simp [hv] at this
      · refine hc v h0 ?_ hr
        rw [add_bit h1.1, hv]
        simp
        intro _ e
        exact hne e.symm
    · intro h
      refine ⟨⟨?_, ?_⟩, ?_⟩
      · intro v hv h0
        have hv' : v = i.a ∨ v = i.b := by simpa using hv
        have hv0 : 0 ≤ v := by omega
        cases hx : N.testBit v.toNat
        · refine absurd (.inl ?_) (h v.toNat (by omega) hx)
          rw [mem_reads hi, Int.toNat_of_nonneg hv0]
          exact ⟨by rcases hv' with h | h <;> simp [h], h0⟩
        · rfl
      · intro v hv h0
        have hv0 : 0 ≤ v := by have := h4 v hv; omega
        cases hx : N.testBit v.toNat
        · refine absurd (.inl ?_) (h v.toNat (by omega) hx)
          rw [mem_reads hi, Int.toNat_of_nonneg hv0]
          exact ⟨.inr (.inr hv), h0⟩
        · rfl
      · intro v h0 hv hb
        rw [add_bit h1.1] at hv
        simp at hv
        exact h v h0 hv.1 (.inr ⟨fun e => hv.2 h0 e.symm, hb⟩)

/-- All have a value: nothing lacks one. -/
theorem Ended.fine {f : Ff} {s : St} (hE : Ended f s) (hs : shapeN f = 0) (hr : ∀ b, b < f.blocks.length → Reach f b) (h : ∀ b x, f.blocks[b]? = some x → onlyB x.tm x.ins (s.atN b) = true) : ∀ v : Int, v ≠ 0 → ¬ LacksV f v := by
  rintro v h0 ⟨b, x, hx, hB, hin⟩
  obtain ⟨hi, ht⟩ := shaped_blocks (shape_zero hs).2 (List.mem_of_getElem? hx)
  have hv := bareIn_var ht hi hin
  have hb := hr b (List.getElem?_eq_some_iff.1 hx).1
  have e : ((v.toNat : Nat) : Int) = v := Int.toNat_of_nonneg (by omega)
  have h1 := (only_iff ht hi).1 (h b x hx) v.toNat (by omega)
  rw [e] at h1
  refine h1 ?_ hin
  rw [hE.bare b hb v.toNat (by omega) (by omega), e]
  exact hB
/-- Some has none: a variable lacks one. -/
theorem Ended.lack {f : Ff} {s : St} (hE : Ended f s) (hs : shapeN f = 0) (hr : ∀ b, b < f.blocks.length → Reach f b) {b : Nat} {x : Bb} (hx : f.blocks[b]? = some x) (h : onlyB x.tm x.ins (s.atN b) = false) : ∃ v : Int, v ≠ 0 ∧ LacksV f v := by
  obtain ⟨hi, ht⟩ := shaped_blocks (shape_zero hs).2 (List.mem_of_getElem? hx)
  have hb := hr b (List.getElem?_eq_some_iff.1 hx).1
  apply Classical.byContradiction
  intro hno
  have : onlyB x.tm x.ins (s.atN b) = true := by
    rw [only_iff ht hi]
    intro v h0 hv hin
    have hvv := bareIn_var ht hi hin
    exact hno ⟨v, by omega, b, x, hx, (hE.bare b hb v h0 (by omega)).1 hv, hin⟩
  rw [h] at this
  cases this
end Go.Proofs.YthiipgahbmoiiaaGreatDoor
namespace Go.Proofs.YthiipgahbmoiiaaGreatDoor
open Go.RowKit

theorem toL_few (t : Tt) : (toL t).length ≤ 2 := by
  unfold toL
  repeat' split
  all_goals simp
set_option maxHeartbeats 1000000 in
set_option maxRecDepth 100000 in
theorem goes_any (f : Ff) (pa : Option Addr) (pc : Nat) (ba : Option Addr) (bc : Nat) (w : World) (hS : SmallF f) (hF : FnW w f pa pc ba bc) :
    Calls Tryz.prog 47 #[fnV f pa pc ba bc] w fun e w' => e = .returned (.bool (goesB f)) ∧ Below w.heap.size w w' := by
  have HF := Lib.hid hF
  have hp := hS.p
  have hb := hS.b
  have HX0 : Hid (Blk (w.alloc (.cells (fnC f pa pc ba bc) 25)) w.heap.size 25 (fnC f pa pc ba bc)) := Blk.new w _ _
  have HW0 : Hid (Below w.heap.size w (w.alloc (.cells (fnC f pa pc ba bc) 25))) := (Below.refl _ w).alloc (Nat.le_refl _) _
  clear hF hS
  obtain ⟨ok, hok⟩ : ∃ ok : Bb → Bool, ok = fun x => (toL x.tm).all fun t => decide (1 ≤ t) && decide (t < f.blocks.length) := ⟨_, rfl⟩
  have HG : Hid (goesB f = f.blocks.all ok) := by rw [hok]; rfl
  have HK := Lib.hid hok
  clear hok
  unfold fnV fnC
  go_enter Tryz.func47, Tryz.ntmps47
  go_wp2
  go_loopw [10] (fun k wr => ∃ j : Nat, k = .int .i64 j ∧ j ≤ f.blocks.length ∧ Hid (goesB f = (f.blocks.drop j).all ok) ∧ Blk wr w.heap.size 25 (fnC f pa pc ba bc) ∧ Below w.heap.size w wr) (fun k _ => f.blocks.length - (intOf k).toNat)
  case atStart => exact ⟨0, rfl, Nat.zero_le _, HG.out, HX0.out, HW0.out⟩
  case round =>
    obtain ⟨j, rfl, hj, HA, hX, hB⟩ := hrel
    have HX := Lib.hid hX
    have HB := Lib.hid hB
    clear hX hB HX0 HW0 HG
    by_cases hlt : j < f.blocks.length
    · have hlt' : (j : Int) < f.blocks.length := by omega
      have hj0 : (0 : Int) ≤ j := by omega
      obtain ⟨y, hy⟩ : ∃ y, f.blocks[j]? = some y := ⟨_, List.getElem?_eq_getElem hlt⟩
      obtain ⟨g, o, ya, yc, rfl, hg, hc⟩ := (HF.out.below HB.out).blocks j y hy
      have HD : Hid (goesB f = (((toL y.tm).all fun t => decide (1 ≤ t) && decide (t < f.blocks.length)) && (f.blocks.drop (j + 1)).all ok)) := by
        show _ = _
        rw [HA.out, List.drop_eq_getElem_cons hlt, (List.getElem?_eq_some_iff.1 hy).2, HK.out]
        rfl
      have c0 := hc.c0
      have c1 := hc.c1
      have c2 := hc.c2
      have c3 := hc.c3
      have c4 := hc.c4
      have HW2 : Hid (Below wr.heap.size wr (wr.alloc (.cells (blC y ya yc) 52))) := (Below.refl _ wr).alloc (Nat.le_refl _) _
      have HC := Lib.hid (to_any y.tm (wr.alloc (.cells (blC y ya yc) 52)))
      unfold termV at HC
      have hfew := toL_few y.tm
      clear hy HA hc
      go_wp2_with fail
      refine HC.out.mono ?_
      rintro e w2 ⟨v, rfl, ho, hb2⟩
      obtain ⟨ta, tc, rfl, _, hti⟩ := ho.shape
      have HT := Lib.hid hti
      have hbb : Below wr.heap.size wr w2 := HW2.out.trans (hb2.mono HW2.out.size)
      have HX2 : Hid (Blk w2 w.heap.size 25 (fnC f pa pc (some ⟨g, o, none⟩) bc)) := HX.out.below hbb HX.out.lt
      have HB2 : Hid (Below w.heap.size w w2) := HB.out.trans (hbb.mono HB.out.size)
      clear hb2 hbb HC c0 c1 c2 c3 c4 HW2 HB HX ho hti
      obtain ⟨d0, d1⟩ := box2 HX2.out
      generalize toL y.tm = tl at *
      go_wp2
      go_loopw [18] (fun k wr => ∃ i : Nat, k = .int .i64 i ∧ i ≤ tl.length ∧ Hid (goesB f = (((tl.drop i).all fun t => decide (1 ≤ t) && decide (t < f.blocks.length)) && (f.blocks.drop (j + 1)).all ok)) ∧ w2 = wr) (fun k _ => tl.length - (intOf k).toNat)
      case atStart => exact ⟨0, rfl, Nat.zero_le _, HD.out, rfl⟩
      case round =>
        obtain ⟨i, rfl, hi, HA2, rfl⟩ := hrel
        clear HD
        by_cases hlt2 : i < tl.length
        · have hlt2' : (i : Int) < tl.length := by omega
          have hi0 : (0 : Int) ≤ i := by omega
          obtain ⟨t, ht⟩ : ∃ t, tl[i]? = some t := ⟨_, List.getElem?_eq_getElem hlt2⟩
          obtain ⟨g2, o2, rfl, hg2, t0⟩ := HT.out i t ht
          have HD2 : Hid (goesB f = (((decide (1 ≤ t) && decide (t < f.blocks.length)) && ((tl.drop (i + 1)).all fun t => decide (1 ≤ t) && decide (t < f.blocks.length))) && (f.blocks.drop (j + 1)).all ok)) := by
            show _ = _
            rw [HA2.out, List.drop_eq_getElem_cons hlt2, (List.getElem?_eq_some_iff.1 ht).2]
            rfl
          clear ht HA2
          by_cases h1 : t < 1
          · have e1 : decide (1 ≤ t) = false := by simp; omega
            rw [e1] at HD2
            go_wp2
            go_ret
            exact ⟨by rw [HD2.out]; rfl, HB2.out⟩
          · have e1 : decide (1 ≤ t) = true := by simp; omega
            rw [e1] at HD2
            by_cases h2 : (f.blocks.length : Int) ≤ t
            · have e2 : decide (t < (f.blocks.length : Int)) = false := by simp; omega
              rw [e2] at HD2
              go_wp2
              go_ret
              exact ⟨by rw [HD2.out]; rfl, HB2.out⟩
            · have e2 : decide (t < (f.blocks.length : Int)) = true := by simp; omega
              rw [e2] at HD2
              go_wp2
              go_roundw
              case rel => exact ⟨i + 1, by go_num, by omega, by have := HD2.out; simpa [Hid] using this, trivial⟩
              case measure => simp [intOf]; omega
        · have e : i = tl.length := by omega
          subst e
          have HE : Hid (goesB f = (f.blocks.drop (j + 1)).all ok) := by
            show _ = _
            rw [HA2.out]
            simp
          go_wp2
          go_roundw
          case rel => exact ⟨j + 1, by go_num, by omega, HE, HX2.out, HB2.out⟩
          case measure => simp [intOf]; omega
    · have e : j = f.blocks.length := by omega
      subst e
      go_wp2
      go_ret
      refine ⟨?_, HB.out⟩
      rw [HA.out]
      simp
set_option maxHeartbeats 2000000 in
set_option maxRecDepth 100000 in
theorem readsOnly_any (x : Bb) (ia : Option Addr) (ic N : Nat) (hN : N < 2 ^ 256) (w : World) (hl : x.ins.length ≤ 1000000) (hp : ∀ i ∈ x.ins, isInsB i = true) (ht : isTermB x.tm = true) (hI : InsW w ia x.ins) :
    Calls Tryz.prog 50 #[blV x ia ic, setV N] w fun e w' => e = .returned (.bool (onlyB x.tm x.ins N)) ∧ Below w.heap.size w w' := by
  have HI := Lib.hid hI
  have HP := Lib.hid hp
  have hta := term_part ht
  have HS0 : Hid (setC N = _) := setC.eq_1 N
  have HX0 : Hid (Blk ((w.alloc (.cells (blC x ia ic) 52)).alloc (.cells (setC N) 82)) w.heap.size 52 (blC x ia ic)) := (Blk.new w _ _).alloc _
  have HY0 : Hid (Blk ((w.alloc (.cells (blC x ia ic) 52)).alloc (.cells (setC N) 82)) (w.heap.size + 1) 82 (setC N)) := by
    have := Blk.new (w.alloc (.cells (blC x ia ic) 52)) 82 (setC N)
    simpa [Hid] using this
  have HW0 : Hid (Below w.heap.size w ((w.alloc (.cells (blC x ia ic) 52)).alloc (.cells (setC N) 82))) := ((Below.refl _ w).alloc (Nat.le_refl _) _).alloc (by simp) _
  rw [HS0.out] at HX0 HW0
  have HY1 : Hid (Blk ((w.alloc (.cells (blC x ia ic) 52)).alloc (.cells #[.int .u64 (wordM N 0), .int .u64 (wordM N 1), .int .u64 (wordM N 2), .int .u64 (wordM N 3)] 82)) (w.heap.size + 1) 82 (setC N)) := HY0.out
  clear hI hp HY0
  unfold blV blC setV
  rw [HS0.out]
  go_enter Tryz.func50, Tryz.ntmps50
  go_wp2
  go_loopw [10] (fun k wr => ∃ (j M : Nat), k = .int .i64 j ∧ j ≤ x.ins.length ∧ Hid (onlyB x.tm x.ins N = onlyB x.tm (x.ins.drop j) M) ∧ M < 2 ^ 256 ∧ Blk wr w.heap.size 52 (blC x ia ic) ∧ Blk wr (w.heap.size + 1) 82 (setC M) ∧ Below w.heap.size w wr) (fun k _ => x.ins.length - (intOf k).toNat)
  case atStart => exact ⟨0, N, rfl, Nat.zero_le _, rfl, hN, HX0.out, HY1.out, HW0.out⟩
  case round =>
    obtain ⟨j, M, rfl, hj, HA, hM, hX, hY, hB⟩ := hrel
    have HX := Lib.hid hX
    have HY := Lib.hid hY
    have HB := Lib.hid hB
    clear hX hY hB HX0 HY1 HW0
    by_cases hlt : j < x.ins.length
    · have hlt' : (j : Int) < x.ins.length := by omega
      have hj0 : (0 : Int) ≤ j := by omega
      obtain ⟨y, hy⟩ : ∃ y, x.ins[j]? = some y := ⟨_, List.getElem?_eq_getElem hlt⟩
      obtain ⟨g, o, ya, yc, rfl, hg, hc⟩ := (HI.out.below HB.out) j y hy
      have hyr := HP.out y (List.mem_of_getElem? hy)
      obtain ⟨hyd, hya, hyb, hyargs⟩ := ins_parts hyr
      have hyf := ins_few hyr
      have HD : Hid (onlyB x.tm x.ins N = (hasM M [y.a, y.b] && hasM M y.args && onlyB x.tm (x.ins.drop (j + 1)) (addM M y.dst))) := by
        show _ = _
        rw [HA.out, List.drop_eq_getElem_cons hlt, (List.getElem?_eq_some_iff.1 hy).2]
        rfl
      have HAR := Lib.hid hc.args
      have h0 := hc.c0
      have h1 := hc.c1
      have h2 := hc.c2
      have h3 := hc.c3
      have h4 := hc.c4
      have h5 := hc.c5
      have h6 := hc.c6
      have h7 := hc.c7
      clear hy HA hc hyr
      have HZ1 : Hid (Blk (wr.alloc (.cells (insC y ya yc) 45)) wr.heap.size 45 (insC y ya yc)) := Blk.new wr _ _
      have HX1 : Hid (Blk (wr.alloc (.cells (insC y ya yc) 45)) w.heap.size 52 (blC x (some ⟨g, o, none⟩) ic)) := HX.out.alloc _
      have HY1 : Hid (Blk (wr.alloc (.cells (insC y ya yc) 45)) (w.heap.size + 1) 82 (setC M)) := HY.out.alloc _
      have HB1 : Hid (Below w.heap.size w (wr.alloc (.cells (insC y ya yc) 45))) := HB.out.alloc (by have := HB.out.size; omega) _
      have HR1 : Hid (IntsW (wr.alloc (.cells (insC y ya yc) 45)) ya y.args) := HAR.out.below ((Below.refl _ wr).alloc (Nat.le_refl _) _)
      obtain ⟨m0, m1, m2, m3⟩ := boxS HY1.out
      obtain ⟨n0, n1, n2, n3, n4, n5, n6, n7⟩ := box8 HZ1.out
      have HQ : Hid (wr.heap.size < (wr.alloc (.cells (insC y ya yc) 45)).heap.size) := HZ1.out.lt
      have hab : ∀ v ∈ [y.a, y.b], 0 ≤ v ∧ v ≤ 200 := fun v hv => by simp at hv; omega
      have HBa : Hid (Below (wr.alloc (.cells (insC y ya yc) 45)).heap.size (wr.alloc (.cells (insC y ya yc) 45)) ((wr.alloc (.cells (insC y ya yc) 45)).alloc (.cells #[.int .i64 y.a, .int .i64 y.b] 3))) := (Below.refl _ _).alloc (Nat.le_refl _) _
      have HI1 : Hid (IntsW ((wr.alloc (.cells (insC y ya yc) 45)).alloc (.cells #[.int .i64 y.a, .int .i64 y.b] 3)) (some ⟨(wr.alloc (.cells (insC y ya yc) 45)).heap.size, 0, none⟩) [y.a, y.b]) := IntsW.row (Blk.new _ _ _) (fun k x hx => by
        match k with
        | 0 => simpa using hx
        | 1 => simpa using hx
        | k + 2 => simp at hx)
      have HC := Lib.hid (has_any M hM [y.a, y.b] _ 2 _ (by simp) hab HI1.out)
      unfold setV setC at HC
      have hsz : (wr.alloc (.cells (insC y ya yc) 45)).heap.size = wr.heap.size + 1 := by simp
      rw [hsz] at HC
      simp only [insC] at m0 m1 m2 m3 n0 n1 n2 n3 n4 n5 n6 n7
      go_wp2_with fail
      refine HC.out.mono ?_
      rintro e w1 ⟨rfl, hb⟩
      have hbb := HBa.out.trans (hb.mono HBa.out.size)
      have HX2 : Hid (Blk w1 w.heap.size 52 (blC x (some ⟨g, o, none⟩) ic)) := HX1.out.below hbb HX1.out.lt
      have HY2 : Hid (Blk w1 (w.heap.size + 1) 82 (setC M)) := HY1.out.below hbb HY1.out.lt
      have HZ2 : Hid (Blk w1 wr.heap.size 45 (insC y ya yc)) := HZ1.out.below hbb HZ1.out.lt
      have HB2 : Hid (Below w.heap.size w w1) := HB1.out.trans (hbb.mono HB1.out.size)
      have HR2 : Hid (IntsW w1 ya y.args) := HR1.out.below hbb
      clear hb hbb HX HY HB HX1 HY1 HZ1 HB1 HR1 HBa HI1 HC h0 h1 h2 h3 h4 h5 h6 h7 m0 m1 m2 m3 n0 n1 n2 n3 n4 n5 n6 n7 HAR HQ
      cases hh : hasM M [y.a, y.b]
      · rw [hh] at HD
        go_wp2
        go_ret
        exact ⟨by rw [HD.out]; rfl, HB2.out⟩
      rw [hh] at HD
      obtain ⟨m0, m1, m2, m3⟩ := boxS HY2.out
      obtain ⟨n0, n1, n2, n3, n4, n5, n6, n7⟩ := box8 HZ2.out
      have HC := Lib.hid (has_any M hM y.args ya yc w1 (by omega) (fun v hv => by have := hyargs v hv; omega) HR2.out)
      unfold setV setC at HC
      go_wp2_with fail
      refine HC.out.mono ?_
      rintro e w2 ⟨rfl, hb⟩
      have HX3 : Hid (Blk w2 w.heap.size 52 (blC x (some ⟨g, o, none⟩) ic)) := HX2.out.below hb HX2.out.lt
      have HY3 : Hid (Blk w2 (w.heap.size + 1) 82 (setC M)) := HY2.out.below hb HY2.out.lt
      have HZ3 : Hid (Blk w2 wr.heap.size 45 (insC y ya yc)) := HZ2.out.below hb HZ2.out.lt
      have HB3 : Hid (Below w.heap.size w w2) := HB2.out.trans (hb.mono HB2.out.size)
      clear hb HC m0 m1 m2 m3 n0 n1 n2 n3 n4 n5 n6 n7 HX2 HY2 HZ2 HB2 HR2
      cases hh2 : hasM M y.args
      · rw [hh2] at HD
        go_wp2
        go_ret
        exact ⟨by rw [HD.out]; rfl, HB3.out⟩
      rw [hh2] at HD
      obtain ⟨m0, m1, m2, m3⟩ := boxS HY3.out
      obtain ⟨n0, n1, n2, n3, n4, n5, n6, n7⟩ := box8 HZ3.out
      have HBc : Hid (Below w2.heap.size w2 (w2.alloc (.cells #[.int .i64 y.dst] 3))) := (Below.refl _ w2).alloc (Nat.le_refl _) _
      have HI3 : Hid (IntsW (w2.alloc (.cells #[.int .i64 y.dst] 3)) (some ⟨w2.heap.size, 0, none⟩) [y.dst]) := IntsW.row (Blk.new w2 _ _) (fun k x hx => by
        cases k with
        | zero => simpa using hx
        | succ k => simp at hx)
      have HC := Lib.hid (with_any M [y.dst] _ 1 _ (by simp) (fun v hv => by simp at hv; omega) HI3.out)
      unfold setV setC at HC
      go_wp2_with fail
      refine HC.out.mono ?_
      rintro e w3 ⟨rfl, hb⟩
      have hbb : Below w2.heap.size w2 w3 := HBc.out.trans (hb.mono HBc.out.size)
      have HX4 : Hid (Blk w3 w.heap.size 52 (blC x (some ⟨g, o, none⟩) ic)) := HX3.out.below hbb HX3.out.lt
      have HY4 : Hid (Blk w3 (w.heap.size + 1) 82 (setC M)) := HY3.out.below hbb HY3.out.lt
      have HB4 : Hid (Below w.heap.size w w3) := HB3.out.trans (hbb.mono HB3.out.size)
      clear hb hbb HC m0 m1 m2 m3 n0 n1 n2 n3 n4 n5 n6 n7 HX3 HY3 HZ3 HB3 HBc HI3
      obtain ⟨m0, m1, m2, m3⟩ := boxS HY4.out
      obtain ⟨f0, f1, f2, f3⟩ := boxF HY4.out
      go_wp2
      go_roundw
      case rel => exact ⟨j + 1, addM M y.dst, by go_num, by omega, by have := HD.out; simpa [Hid] using this, add_lt hM (by omega), (((HX4.out.far (by simp) _).far (by simp) _).far (by simp) _).far (by simp) _, blk_four HY4.out rfl _ _ _ _, below_four HB4.out (by omega) _ _ _ _⟩
      case measure => simp [intOf]; omega
    · have e : j = x.ins.length := by omega
      subst e
      have HD : Hid (onlyB x.tm x.ins N = hasM M [x.tm.a]) := by
        show _ = _
        rw [HA.out, List.drop_length]
        rfl
      obtain ⟨m0, m1, m2, m3⟩ := boxS HY.out
      obtain ⟨c0, c1, c2, c3, c4⟩ := box5 HX.out
      have HBc : Hid (Below wr.heap.size wr (wr.alloc (.cells #[.int .i64 x.tm.a] 3))) := (Below.refl _ wr).alloc (Nat.le_refl _) _
      have HI3 : Hid (IntsW (wr.alloc (.cells #[.int .i64 x.tm.a] 3)) (some ⟨wr.heap.size, 0, none⟩) [x.tm.a]) := IntsW.row (Blk.new wr _ _) (fun k x hx => by
        cases k with
        | zero => simpa using hx
        | succ k => simp at hx)
      have HC := Lib.hid (has_any M hM [x.tm.a] _ 1 _ (by simp) (fun v hv => by simp at hv; omega) HI3.out)
      unfold setV setC at HC
      go_wp2_with fail
      refine HC.out.mono ?_
      rintro e w3 ⟨rfl, hb⟩
      go_wp2
      go_ret
      exact ⟨by rw [HD.out]; rfl, HB.out.trans ((HBc.out.trans (hb.mono HBc.out.size)).mono HB.out.size)⟩
end Go.Proofs.YthiipgahbmoiiaaGreatDoor
