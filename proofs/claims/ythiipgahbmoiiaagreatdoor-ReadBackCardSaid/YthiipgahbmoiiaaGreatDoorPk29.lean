/-
  Package read's Print: the text of a function that has one, or that there is none. Conditions: the library's tables and the Ops' names hold what the text lays.
  Package read's args: variables up to the end of a line. Conditions: the library's tables, its errors, and the Ops' names are there.
  Whether two rows of numbers are the same, and the mark of a place. No condition beyond those that each theorem states.
  Numbers that are lent: a copy with a tail of marks. No condition beyond those that each theorem states.
  Numbers that were lent are as they were, behind them too. No condition beyond those that each theorem states.
-/
import Derived.Test.YthiipgahbmoiiaaGreatDoorPk27
import Derived.Test.YthiipgahbmoiiaaGreatDoorPk28
import Derived.Laws.ResultCell
import Derived.Test.YthiipgahbmoiiaaGreatDoorPk23
import Derived.Test.YthiipgahbmoiiaaGreatDoorPk24
import Derived.Test.YthiipgahbmoiiaaGreatDoorPk4
import Derived.Deep.LoopGhost
import Derived.Deep.DeepMust
import Derived.Test.YthiipgahbmoiiaaGreatDoorPk1
import Derived.Deep.QuietTactic
import Derived.BigQuiet
import Derived.IntWalk
namespace Go.Proofs.YthiipgahbmoiiaaGreatDoor
open Go.RowKit

theorem fit_imm {n : Int} (h : immB n = true) : R64q n := by
  unfold immB at h
  simp only [Bool.and_eq_true, decide_eq_true_eq] at h
  exact ⟨by omega, by omega⟩
theorem r64_small {n : Int} (h0 : 0 ≤ n) (h1 : n ≤ 1000) : R64q n := ⟨by omega, by omega⟩
theorem ins_ok {x : Ii} (h : isInsB x = true) : (1 ≤ x.op ∧ x.op ≤ 14) ∧ InsRq x := by
  obtain ⟨h1, h2, h3, h4⟩ := ins_parts h
  have hv : ∀ v ∈ x.args, R64q v := fun v hv => r64_small (by have := h4 v hv; omega) (by have := h4 v hv; omega)
  unfold isInsB at h
  split at h
  next ho =>
    unfold isCallB at h
    simp only [Bool.and_eq_true, beq_iff_eq, decide_eq_true_eq] at h
    obtain ⟨⟨⟨⟨⟨⟨⟨⟨_, c1⟩, c2⟩, c3⟩, _⟩, _⟩, _⟩, c4⟩, _⟩ := h
    exact ⟨by omega, ⟨r64_small (by omega) (by omega), r64_small (by omega) (by omega), r64_small (by omega) (by omega), by rw [c4]; exact r64_small (by omega) (by omega), r64_small c1 (by omega), hv, by omega⟩⟩
  next ho =>
    unfold isOpB at h
    simp only [Bool.and_eq_true, List.isEmpty_iff, Bool.or_eq_true, beq_iff_eq] at h
    obtain ⟨⟨⟨⟨⟨⟨⟨c0, _⟩, _⟩, _⟩, c1⟩, c2⟩, c3⟩, _⟩ := h
    have hop : 1 ≤ x.op ∧ x.op ≤ 14 := by
      simp only [opD, opA, opB, opI, arithB, Bool.or_eq_true, Bool.and_eq_true, beq_iff_eq, decide_eq_true_eq] at c0
      omega
    refine ⟨hop, ⟨r64_small (by omega) (by omega), r64_small (by omega) (by omega), r64_small (by omega) (by omega), ?_, by rw [c2]; exact r64_small (by omega) (by omega), hv, by rw [c3]; simp⟩⟩
    rcases c1 with c1 | c1
    · exact fit_imm c1.1
    · rw [c1]; exact r64_small (by omega) (by omega)
theorem far_not {n : Int} (h : farB n = false) : 0 ≤ n ∧ n < 64 := by
  unfold farB at h
  simp only [Bool.or_eq_false_iff, decide_eq_false_iff_not] at h
  omega
theorem tm_ok {t : Tt} (h : isTermB t = true) (hf : (toL t).any farB = false) : TmRq t := by
  have h1 := term_part h
  have ha : R64q t.a := r64_small (by omega) (by omega)
  have hk : ∀ n ∈ toL t, R64q n := fun n hn => by
    have := far_not (by simpa using (List.any_eq_false.1 hf) n hn)
    exact r64_small (by omega) (by omega)
  unfold toL at hk
  rw [if_pos h] at hk
  unfold isTermB at h
  by_cases k1 : t.kind = 1
  · rw [if_pos k1] at h hk
    simp only [Bool.and_eq_true, beq_iff_eq] at h
    exact ⟨ha, hk _ (by simp), by rw [h.2]; exact r64_small (by omega) (by omega)⟩
  rw [if_neg k1] at h hk
  by_cases k2 : t.kind = 2
  · rw [if_pos k2] at hk
    exact ⟨ha, hk _ (by simp), hk _ (by simp)⟩
  rw [if_neg k2] at h
  by_cases k3 : t.kind = 3
  · rw [if_pos k3] at h
    simp only [Bool.and_eq_true, beq_iff_eq] at h
    exact ⟨ha, by rw [h.2.1]; exact r64_small (by omega) (by omega), by rw [h.2.2]; exact r64_small (by omega) (by omega)⟩
  rw [if_neg k3] at h
  split at h
  · simp only [Bool.and_eq_true, beq_iff_eq] at h
    exact ⟨ha, by rw [h.2.1]; exact r64_small (by omega) (by omega), by rw [h.2.2]; exact r64_small (by omega) (by omega)⟩
  · cases h
/-- What a function has that has a text. -/
theorem can_ok {f : Ff} (h : canF f = true) : shapeN f = 0 ∧ (∀ b ∈ f.blocks, OkBq b) ∧ f.blocks.length ≤ 64 ∧ f.params.length ≤ 8 ∧ (∀ v ∈ f.params, 1 ≤ v ∧ v ≤ 200) := by
  unfold canF at h
  simp only [Bool.and_eq_true, Bool.not_eq_true', Bool.or_eq_false_iff, decide_eq_false_iff_not] at h
  obtain ⟨⟨h1, h2⟩, h3⟩ := h
  have hs : shapeN f = 0 := by
    by_cases hs : shapeN f = 0
    · exact hs
    · exact absurd (if_neg hs) h2
  obtain ⟨hl, hd⟩ := shape_zero hs
  unfold isLongB at hl
  simp only [Bool.or_eq_false_iff, decide_eq_false_iff_not] at hl
  obtain ⟨⟨⟨_, _⟩, hp⟩, hi⟩ := hl
  refine ⟨hs, fun b hb => ?_, by omega, by omega, shaped_params hd⟩
  obtain ⟨p1, p2⟩ := shaped_blocks hd hb
  have h4 := (List.any_eq_false.1 hi) b hb
  have h5 := (List.any_eq_false.1 h3) b hb
  exact ⟨by simpa using h4, fun i hi => ins_ok (p1 i hi), tm_ok p2 (by simpa [farsB] using h5)⟩
set_option maxRecDepth 100000 in
set_option maxHeartbeats 4000000 in
theorem print_any (f : Ff) (pa : Option Addr) (pc : Nat) (ba : Option Addr) (bc : Nat) (w : World) (hS : SmallF f) (hF : FnW w f pa pc ba bc) (hP : PowW w) (hN : NamesR w) :
    Calls Tryz.prog 11 #[fnV f pa pc ba bc] w fun e w' => ∃ s : ByteArray, (e = .returned (.tuple #[.string s, .int .i64 (if canF f then 0 else 2)]) ∧ (if canF f then s.data.toList = fnL f else s = ⟨#[]⟩)) ∧ Below w.heap.size w w' := by
  have HW0 : Hid (Below w.heap.size w (w.alloc (.cells (fnC f pa pc ba bc) 25))) := (Below.refl _ w).alloc (Nat.le_refl _) _
  have HX0 : Hid (Blk (w.alloc (.cells (fnC f pa pc ba bc) 25)) w.heap.size 25 (fnC f pa pc ba bc)) := Blk.new w _ _
  have HC := Lib.hid (canF_any f pa pc ba bc (w.alloc (.cells (fnC f pa pc ba bc) 25)) hS (hF.below HW0.out))
  have HT : Hid (canF f = true → ∀ W, Below w.heap.size w W → Calls Tryz.prog 24 #[fnV f pa pc ba bc] W fun e w' => ∃ s : ByteArray, (e = .returned (.string s) ∧ s.data.toList = fnL f) ∧ Below W.heap.size W w') := fun h W hb => by
    obtain ⟨_, h1, h2, h3, h4⟩ := can_ok h
    exact textOf_any f pa pc ba bc W (hF.below hb) h1 (by omega) (by omega) (fun v hv => r64_small (by have := h4 v hv; omega) (by have := h4 v hv; omega)) (hP.below hb) (hN.below hb)
  have SX := Lib.hid (fnC.eq_1 f pa pc ba bc)
  unfold fnV at HC HT ⊢
  rw [SX.out] at HC HX0 HW0 HT ⊢
  clear hS hF hP hN SX
  cases hc : canF f with
  | false =>
    rw [hc] at HC
    clear HT hc
    go_enter Tryz.func11, Tryz.ntmps11
    go_wp2_with fail
    refine HC.out.mono ?_
    rintro e w1 ⟨rfl, hb1⟩
    have HB1 : Hid (Below w.heap.size w w1) := HW0.out.trans (hb1.mono HW0.out.size)
    clear hb1 HC HX0 HW0
    go_wp2
    go_ret2
    exact ⟨rfl, HB1.out⟩
  | true =>
    rw [hc] at HC
    have HT2 := Lib.hid (HT.out hc)
    clear HT hc
    go_enter Tryz.func11, Tryz.ntmps11
    go_wp2_with fail
    refine HC.out.mono ?_
    rintro e w1 ⟨rfl, hb1⟩
    have HB1 : Hid (Below w.heap.size w w1) := HW0.out.trans (hb1.mono HW0.out.size)
    have HX1 := Lib.hid (HX0.out.below hb1 HX0.out.lt)
    have T := Lib.hid (HT2.out w1 HB1.out)
    have x0 : w1.cell? ⟨w.heap.size, 0, none⟩ = some (.slice pa f.params.length pc) := HX1.out.cell 0
    have x1 : w1.cell? ⟨w.heap.size, 1, none⟩ = some (.slice ba f.blocks.length bc) := HX1.out.cell 1
    have hxl := HX1.out.lt
    clear hb1 HC HX0 HW0 HT2 HX1
    go_wp2_with fail
    refine T.out.mono ?_
    rintro e w2 ⟨s, ⟨rfl, hs⟩, hb2⟩
    have HB2 : Hid (Below w.heap.size w w2) := HB1.out.trans (hb2.mono HB1.out.size)
    have HS := Lib.hid hs
    clear hb2 T hs x0 x1 hxl
    go_wp2
    go_ret2
    exact ⟨⟨s, rfl, HS.out⟩, HB2.out⟩
end Go.Proofs.YthiipgahbmoiiaaGreatDoor
namespace Go.Proofs.YthiipgahbmoiiaaGreatDoor
open Go.RowKit

/-- Variables, one behind the other: where the cursor is behind them, and which. -/
def argsGo : Nat → Cu → List Int → Cu × List Int
  | 0, c, l => (c, l)
  | f + 1, c, l => if c.anoB l.length then argsGo f (c.anoC l.length).vaC (l ++ [(c.anoC l.length).vaN]) else (c.anoC l.length, l)
def Cu.argsC (c : Cu) : Cu := (argsGo 9 c []).1
def Cu.argsL (c : Cu) : List Int := (argsGo 9 c []).2
theorem args_step {f : Nat} {c : Cu} {l : List Int} (h : c.anoB l.length = true) : argsGo (f + 1) c l = argsGo f (c.anoC l.length).vaC (l ++ [(c.anoC l.length).vaN]) := by rw [argsGo, if_pos h]
theorem args_stop {f : Nat} {c : Cu} {l : List Int} (h : c.anoB l.length = false) : argsGo (f + 1) c l = (c.anoC l.length, l) := by rw [argsGo, if_neg (by rw [h]; decide)]
theorem fail_ends {c : Cu} {e : Int} (h : e ≠ 0) (hok : c.Ok) : (c.fail e).ends = true := by
  have hl : (c.fail e).left = [] := by
    unfold Cu.fail
    split
    · rename_i h1
      rcases h1 with h1 | h1
      · exact absurd h1 h
      · exact hok.gone h1
    · rfl
  unfold Cu.ends Cu.more
  rw [hl]
  rfl
theorem ano_few {c : Cu} {m : Nat} (hok : c.Ok) (h : c.anoB m = true) : m ≠ 8 ∧ c.anoC m = c := by
  have hm : m ≠ 8 := fun e => by
    subst e
    unfold Cu.anoB Cu.anoC at h
    cases he : c.ends
    · rw [if_pos ⟨rfl, he⟩, fail_ends (by decide) hok] at h; cases h
    · rw [if_neg (by rw [he]; rintro ⟨_, h⟩; cases h), he] at h; cases h
  exact ⟨hm, by unfold Cu.anoC; rw [if_neg (fun h => hm h.1)]⟩
theorem CurC.grownN {w w' : World} {g : Nat} {c : Cu} {row : Option Nat} (h : CurC w g c) (hb : w.grownBy w' row) (hr : ∀ k t cs, Blk w k t cs → 3 ≠ t → some k ≠ row) : CurC w' g c := by
  obtain ⟨a, cap, hc, hl, hm, hi⟩ := h
  refine ⟨a, cap, hc.grown hb (hr _ _ _ hc (by decide)), hl, hm, fun k x hx => ?_⟩
  obtain ⟨gg, o, cs, ha, hg, r⟩ := hi k x hx
  exact ⟨gg, o, cs, ha, hg.grown hb (hr _ _ _ hg (by decide)), r⟩
theorem one_int (W : World) (n : Int) : IntsW (W.alloc (.cells #[.int .i64 n] 3)) (some ⟨W.heap.size, 0, none⟩) [n] := IntsW.row (Blk.new W _ _) fun k x hx => by
  rcases k with _ | k
  · simpa using hx
  · simp at hx
/-- A row of variables that is being read. -/
structure Ak (w0 w W : World) (q g : Nat) (c : Cu) (v : Value) (l : List Int) : Prop where
  rp : Rq w0 W q g c
  row : OwnI W w.heap.size v l
  k : Keep w.heap.size g w W
  le : w0.heap.size ≤ w.heap.size
section
variable {w0 w W W' w4 : World} {q g : Nat} {c d : Cu} {v : Value} {l : List Int}
theorem Ak.call (h : Ak w0 w W q g c v l) (hw : Gone w0 W q g d W') : Ak w0 w W' q g d v l := by
  obtain ⟨ds, hds⟩ := cur_blkQ h.rp.C
  exact ⟨hw.1, own_kept h.row hw.2 hds (by decide), h.k.then_keep hw.2, h.le⟩
theorem Ak.below (h : Ak w0 w W q g c v l) (hb : Below W.heap.size W W') : Ak w0 w W' q g c v l :=
  ⟨h.rp.below hb, own_keep h.row ⟨hb.size, fun k _ hk => hb.block k hk⟩, h.k.then_below hb, h.le⟩
theorem Ak.alloc (h : Ak w0 w W q g c v l) (o : Obj) : Ak w0 w (W.alloc o) q g c v l := h.below ((Below.refl _ _).alloc (Nat.le_refl _) _)
theorem Ak.new (h : Rq w0 w q g c) : Ak w0 w w q g c (.slice none 0 0) [] := ⟨h, World.ownsRow_nil _ _ _ _, Keep.refl _ _ _, h.be.size⟩
theorem Ak.grown {v2 : Value} {l2 : List Int} (h : Ak w0 w W q g c v l) (hg : W.grownBy w4 v.ownBlock) (ho : OwnI w4 w.heap.size v2 l2) : Ak w0 w w4 q g c v2 l2 := by
  have hr : ∀ k t cs, Blk W k t cs → 3 ≠ t → some k ≠ v.ownBlock := fun k t cs hk ht => own_ne h.row hk ht
  have hlt : ∀ k, v.ownBlock = some k → w.heap.size ≤ k := fun k hk => (World.ownsRow.lt h.row k hk).1
  exact ⟨⟨h.rp.C.grownN hg hr, h.rp.R.grown hg (hr _ _ _ h.rp.R (by decide)), h.rp.be.grown hg h.rp.be.size (fun k hk => Nat.le_trans h.le (hlt k hk)), h.rp.hg, h.rp.fit⟩, ho, h.k.trans (Keep.grown hg h.k.size hlt g), h.le⟩
end
set_option maxRecDepth 100000 in
set_option maxHeartbeats 8000000 in
theorem argsQ_any (w0 w : World) (q g : Nat) (c : Cu) (hT : TabQ w0) (h : Rq w0 w q g c) :
    Calls Tryz.prog 194 #[.pointer (some ⟨q, 0, none⟩)] w fun e w' => ∃ (a : Option Addr) (k : Nat), e = .returned (.slice a c.argsL.length k) ∧ Ak w0 w w' q g c.argsC (.slice a c.argsL.length k) c.argsL := by
  have AN : Hid (∀ (d : Cu) (m : Nat) W, Rq w0 W q g d → _) := fun d m W h => anotherQ_any w0 W q g d m h
  have VA : Hid (∀ (d : Cu) W, Rq w0 W q g d → _) := fun d W h => vaQ_any w0 W q g d hT h
  have A0 := Lib.hid (Ak.new h)
  have HR : Hid (c.argsC = (argsGo 9 c []).1 ∧ c.argsL = (argsGo 9 c []).2) := ⟨rfl, rfl⟩
  rw [HR.out.1, HR.out.2]
  clear h hT HR
  go_enter Tryz.func194, Tryz.ntmps194
  go_wp2
  go_loopg [2] 9 (fun gk v wr => ∃ (d : Cu) (l : List Int) (a : Option Addr) (cap : Nat), v = .slice a l.length cap ∧ Hid (l.length + gk = 9 ∧ l.length ≤ 8) ∧ Hid (argsGo 9 c [] = argsGo gk d l) ∧ Ak w0 w wr q g d (.slice a l.length cap) l)
  case atStart => exact ⟨c, [], none, 0, rfl, ⟨rfl, by decide⟩, rfl, A0.out⟩
  case round =>
    obtain ⟨d, l, a, cap, rfl, HL, HN, hA⟩ := hrel
    obtain ⟨gk, rfl⟩ : ∃ k, gk = k + 1 := ⟨gk - 1, by have := HL.out; omega⟩
    have HA := Lib.hid hA
    have hok := hA.rp.fit.ok
    have m0 := hA.rp.cell
    have A := Lib.hid (AN.out d l.length wr hA.rp)
    clear hA A0
    cases hb : d.anoB l.length
    · have HS := Lib.hid (args_stop (f := gk) hb)
      rw [hb] at A
      clear hb hok
      go_wp2_with fail
      refine A.out.mono ?_
      rintro e w1 ⟨rfl, h1⟩
      have HA1 := Lib.hid (HA.out.call h1)
      clear h1 A HA m0
      go_wp2
      go_ret
      have hE := HN.out.trans HS.out
      rw [hE]
      exact ⟨a, cap, rfl, HA1.out⟩
    · have HS := Lib.hid (args_step (f := gk) hb)
      obtain ⟨hm, hc⟩ := ano_few hok hb
      rw [hb, hc] at A
      rw [hc] at HS
      have V := Lib.hid (VA.out d)
      clear hb hok hc
      generalize d.vaN = n at *
      generalize d.vaC = d2 at *
      have hl8 : l.length < 8 := by have := HL.out; omega
      go_wp2_with fail
      refine A.out.mono ?_
      rintro e w1 ⟨rfl, h1⟩
      have HA1 := Lib.hid (HA.out.call h1)
      have m1 := HA1.out.rp.cell
      clear h1 A HA m0
      go_wp2_with fail
      refine (V.out _ HA1.out.rp).mono ?_
      rintro e w2 ⟨rfl, h2⟩
      have HA2 := Lib.hid (HA1.out.call h2)
      have hsz : w.heap.size ≤ w2.heap.size := HA2.out.k.size
      clear h2 V HA1 m1
      go_wp2_with (at_builtin; go_must (refine wpList_append_ints rfl _ _ rfl w.heap.size (.slice a l.length cap) l rfl (HA2.out.alloc (.cells #[.int .i64 n] 3)).row (some ⟨w2.heap.size, 0, none⟩) 1 [n] rfl (fun e => by cases e) (one_int w2 n) (by simp; omega) (by simp; omega) ?_; intro v4 w4 hown hgrow hrow; have HA4 := (HA2.out.alloc (.cells #[.int .i64 n] 3)).grown hgrow hown))
      obtain ⟨gg, cap4, rfl, _, _⟩ := World.ownsRow.form hown (by simp)
      have H4 := Lib.hid HA4
      clear hown hgrow hrow HA4 HA2 hsz
      have e1 : (l ++ [n]).length = l.length + 1 := by simp
      go_wp2
      go_roundg gk
      case measure => omega
      case rel => exact ⟨d2, l ++ [n], some ⟨gg, 0, none⟩, cap4, rfl, ⟨by have := HL.out; rw [e1]; omega, by rw [e1]; omega⟩, HN.out.trans HS.out, H4.out⟩
end Go.Proofs.YthiipgahbmoiiaaGreatDoor
namespace Go.Proofs.YthiipgahbmoiiaaGreatDoor
open Go.RowKit

theorem below_drewN {B : Nat} {a w : World} (h : Below B a w) (n : Nat) : Below B a (w.drewN n) := ⟨h.os, h.tape, h.output, h.size, h.block⟩
theorem mark_any (k i : Int) (w : World) (hk : 0 ≤ k) (hk2 : k ≤ 1000000) (hi : 0 ≤ i) (hi2 : i ≤ 1000000000) : Calls Tryz.prog 51 #[.int .i64 k, .int .i64 i] w fun e w' => e = .returned (.int .i64 (1000003 * (k + 7) + i)) ∧ w = w' := by
  go_enter Tryz.func51, Tryz.ntmps51
  go_wp2
  go_ret
  exact ⟨rfl, rfl⟩
set_option maxHeartbeats 1000000 in
set_option maxRecDepth 100000 in
theorem sameInts_any (l m : List Int) (a a' : Option Addr) (c c' : Nat) (w : World) (hl : l.length ≤ 1000000000) (_hm : m.length ≤ 1000000000) (hI : IntsW w a l) (hJ : IntsW w a' m) : Calls Tryz.prog 43 #[.slice a l.length c, .slice a' m.length c'] w fun e w' => e = .returned (.bool (decide (l = m))) ∧ Below w.heap.size w w' := by
  have HI := Lib.hid hI
  have HJ := Lib.hid hJ
  clear hI hJ
  have HE : Hid (decide (l = m) = decide (l = m)) := rfl
  generalize hb : decide (l = m) = b at HE ⊢
  have HB := Lib.hid hb
  clear hb HE
  go_enter Tryz.func43, Tryz.ntmps43
  by_cases h : l.length = m.length
  case neg =>
    have h' : ((l.length : Int) == m.length) = false := by rw [beq_eq_false_iff_ne]; omega
    have h'' : ((l.length : Int) != m.length) = true := by simp [bne, h']
    have hb : b = false := by
      rw [← HB.out, decide_eq_false_iff_not]
      intro e; exact h (by rw [e])
    subst hb
    go_wp2
    go_ret
    exact ⟨rfl, Below.refl _ _⟩
  have h' : ((l.length : Int) == m.length) = true := by rw [beq_iff_eq]; omega
  have h'' : ((l.length : Int) != m.length) = false := by simp [bne, h']
  go_wp2
  go_loopw [5] (fun k wr => ∃ j : Nat, k = .int .i64 j ∧ j ≤ l.length ∧ Hid (decide (l.drop j = m.drop j) = b) ∧ Below w.heap.size w wr) (fun k _ => l.length - (intOf k).toNat)
  case atStart => exact ⟨0, rfl, Nat.zero_le _, HB.out, Below.refl _ _⟩
  case round =>
    obtain ⟨j, rfl, hj, HA, hW⟩ := hrel
    have HW := Lib.hid hW
    clear hW
    by_cases hlt : j < l.length
    · have hlt' : (j : Int) < l.length := by omega
      have hlm : (j : Int) < m.length := by omega
      have hj0 : (0 : Int) ≤ j := by omega
      obtain ⟨x, hx⟩ : ∃ x, l[j]? = some x := ⟨_, List.getElem?_eq_getElem hlt⟩
      obtain ⟨y, hy⟩ : ∃ y, m[j]? = some y := ⟨_, List.getElem?_eq_getElem (by omega)⟩
      obtain ⟨g, o, rfl, hg, h0⟩ := (HI.out.below HW.out) j x hx
      obtain ⟨g', o', rfl, hg', h0'⟩ := (HJ.out.below HW.out) j y hy
      have HD : Hid (decide (x = y ∧ l.drop (j + 1) = m.drop (j + 1)) = b) := by
        show _ = _
        rw [← HA.out, List.drop_eq_getElem_cons hlt, List.drop_eq_getElem_cons (show j < m.length by omega), (List.getElem?_eq_some_iff.1 hx).2, (List.getElem?_eq_some_iff.1 hy).2]
        simp
      clear hx hy HA
      by_cases he : x = y
      · have q : (x == y) = true := by simp [he]
        have q' : (x != y) = false := by simp [he]
        go_wp2_with fail
        go_quiet (fail)
        go_wp2
        go_roundw
        case rel => exact ⟨j + 1, by go_num, by omega, by have := HD.out; simpa [Hid, he] using this, below_drewN HW.out _⟩
        case measure => simp [intOf]; omega
      · have q : (x == y) = false := by simp [he]
        have q' : (x != y) = true := by simp [he]
        have hb : b = false := by rw [← HD.out]; simp [he]
        go_wp2_with fail
        go_quiet (fail)
        go_wp2
        go_ret
        exact ⟨by rw [hb]; rfl, below_drewN HW.out _⟩
    · have e : j = l.length := by omega
      subst e
      have hlt' : ¬ (l.length : Int) < l.length := by omega
      go_wp2
      go_ret
      refine ⟨?_, HW.out⟩
      rw [← HA.out, List.drop_length, h, List.drop_length]
      rfl
end Go.Proofs.YthiipgahbmoiiaaGreatDoor
namespace Go.Proofs.YthiipgahbmoiiaaGreatDoor
open Go.RowKit

/-- The first marks of a kind. -/
def markL (k : Int) (j : Nat) : List Int := (List.range j).map fun (i : Nat) => 1000003 * (k + 7) + (i : Int)
theorem mark_len (k : Int) (j : Nat) : (markL k j).length = j := by simp [markL]
theorem mark_more (k : Int) (j : Nat) : markL k (j + 1) = markL k j ++ [1000003 * (k + 7) + (j : Int)] := by simp [markL, List.range_succ]
theorem OwnI.seat {w : World} {B : Nat} {v : Value} {l : List Int} (h : OwnI w B v l) (hl : 0 < l.length) : ∃ g cap, v = .slice (some ⟨g, 0, none⟩) l.length cap ∧ l.length ≤ cap ∧ cap ≤ maxLen := by
  rcases h.2 with ⟨_, h1⟩ | ⟨g, cap, cur, hv, _, _, h2, h3, _⟩
  · omega
  · exact ⟨g, cap, hv, h2, h3⟩
set_option maxHeartbeats 4000000 in
set_option maxRecDepth 100000 in
theorem lentInts_any (l : List Int) (a : Option Addr) (c : Nat) (w : World) (hl : l.length ≤ 100000) (hn : a = none → c = 0) (hI : IntsW w a l) :
    Calls Tryz.prog 21 #[.slice a l.length c] w fun e w' => ∃ g cap, e = .returned (.slice (some ⟨g, 0, none⟩) l.length cap) ∧ l.length + 12 ≤ cap ∧ cap ≤ maxLen ∧ OwnI w' w.heap.size (.slice (some ⟨g, 0, none⟩) (l.length + 12) cap) (l ++ markL 1 12) ∧ Below w.heap.size w w' := by
  obtain ⟨i0, hi0, hz0, hz1, hz2⟩ := info_parts int_info
  have HI := Lib.hid hI
  clear hI
  have hm : (0 : Int) ≤ (l.length : Int) + 12 := by omega
  go_enter Tryz.func21, Tryz.ntmps21
  go_wp2_with (first | (at_make; go_must (refine wpList_make_own _ rfl _ _ _ rfl w.heap.size 3 i0 _ 1 Tryz.underlying22 hi0 hz0 hz1 .i64 .i64 ((l.length : Int) + 12) (l.length + 12) rfl rfl (by omega) (by rw [hz2]; omega) (by simp only [maxLen]; omega) (Nat.le_refl _) ?_; intro w1 hown1 hgrow1; have HB1 : Hid (Below w.heap.size w w1) := (by exact (Below.refl _ w).grown hgrow1 (Nat.le_refl _) (fun k hk => by cases hk)))) | (at_builtin; go_must (refine wpList_append_ints rfl _ _ rfl w.heap.size _ [] rfl hown1 a c l rfl hn (HI.out.below HB1.out) (by simp; omega) HB1.out.size ?_; intro v2 w2 hown2 hgrow2 hat2; have HB2 : Hid (Below w.heap.size w w2) := (by exact HB1.out.grown hgrow2 HB1.out.size (fun k hk => (World.ownsRow.lt hown1 k hk).1)))))
  have HO2 := Lib.hid hown2
  clear hown2 hgrow2 hat2 hown1 hgrow1 HB1
  go_loopw [3, 4] (fun v k wr => ∃ (j : Nat), k = .int .i64 j ∧ j ≤ 12 ∧ OwnI wr w.heap.size v (l ++ markL 1 j) ∧ Below w.heap.size w wr) (fun _ k _ => 12 - (intOf k).toNat)
  case atStart => exact ⟨0, rfl, Nat.zero_le _, by simpa [markL] using HO2.out, HB2.out⟩
  case round =>
    obtain ⟨j, rfl, hj, hO, hB⟩ := hrel
    have HO := Lib.hid hO
    have HB := Lib.hid hB
    clear hO hB HO2 HB2
    by_cases hlt : j < 12
    · have hlt' : (j : Int) < 12 := by omega
      have hj0 : (0 : Int) ≤ j := by omega
      have HI3 : Hid (IntsW (wr.alloc (.cells #[.int .i64 (1000003 * (1 + 7) + (j : Int))] 3)) (some ⟨wr.heap.size, 0, none⟩) [1000003 * (1 + 7) + (j : Int)]) := IntsW.row (l := [1000003 * (1 + 7) + (j : Int)]) (Blk.new wr 3 #[.int .i64 (1000003 * (1 + 7) + (j : Int))]) (fun k x hx => by
        cases k with
        | zero => simpa using hx
        | succ k => simp at hx)
      go_wp2_with fail
      refine (mark_any 1 j wr (by omega) (by omega) (by omega) (by omega)).mono ?_
      rintro e w3 ⟨rfl, rfl⟩
      have HL3 : Hid (w.heap.size ≤ (wr.alloc (.cells #[.int .i64 (1000003 * (1 + 7) + (j : Int))] 3)).heap.size) := (HB.out.alloc HB.out.size (.cells #[.int .i64 (1000003 * (1 + 7) + (j : Int))] 3)).size
      generalize hy : 1000003 * (1 + 7) + (j : Int) = y at HI3 HL3
      have HY := Lib.hid hy
      clear hy
      go_wp2_with (at_builtin; go_must (refine wpList_append_ints rfl _ _ rfl w.heap.size _ (l ++ markL 1 j) rfl (World.ownsRow.alloc HO.out _) (some ⟨wr.heap.size, 0, none⟩) 1 [y] rfl (by simp) HI3.out (by simp [mark_len]; omega) HL3.out ?_; intro v4 w4 hown4 hgrow4 hat4))
      have HB4 : Hid (Below w.heap.size w w4) := (HB.out.alloc HB.out.size _).grown hgrow4 HL3.out (fun k hk => (World.ownsRow.lt HO.out k hk).1)
      have HO4 : Hid (OwnI w4 w.heap.size v4 (l ++ markL 1 (j + 1))) := by
        show OwnI _ _ _ _
        rw [mark_more, HY.out, ← List.append_assoc]
        exact hown4
      clear hown4 hgrow4 hat4
      go_roundw
      case rel => exact ⟨j + 1, by go_num, by omega, HO4.out, HB4.out⟩
      case measure => simp [intOf]; omega
    · have e : j = 12 := by omega
      subst e
      obtain ⟨g, cap, rfl, h1, h2⟩ := OwnI.seat HO.out (by simp [mark_len])
      have e12 : (l ++ markL 1 12).length = l.length + 12 := by simp [mark_len]
      rw [e12] at h1 HO ⊢
      have hc1 : (l.length : Int) ≤ cap := by omega
      go_wp2
      go_ret
      exact ⟨g, cap, rfl, h1, h2, HO.out, HB.out⟩
end Go.Proofs.YthiipgahbmoiiaaGreatDoor
namespace Go.Proofs.YthiipgahbmoiiaaGreatDoor
open Go.RowKit

set_option maxHeartbeats 4000000 in
set_option maxRecDepth 100000 in
theorem keptInts_any (l : List Int) (g cap : Nat) (a : Option Addr) (c : Nat) (w : World) (hl : l.length ≤ 100000) (hcap : l.length + 12 ≤ cap) (hI : IntsW w a l) (hO : IntsW w (some ⟨g, 0, none⟩) (l ++ markL 1 12)) :
    Calls Tryz.prog 30 #[.slice (some ⟨g, 0, none⟩) l.length cap, .slice a l.length c] w fun e w' => e = .returned (.bool true) ∧ Below w.heap.size w w' := by
  have HI := Lib.hid hI
  have HO := Lib.hid hO
  clear hI hO
  have hm : (0 : Int) ≤ (l.length : Int) + 12 := by omega
  have hc1 : (l.length : Int) + 12 ≤ cap := by omega
  have ht : ((l.length : Int) + 12).toNat = l.length + 12 := by omega
  go_enter Tryz.func30, Tryz.ntmps30
  go_wp2
  go_loopw [6] (fun k wr => ∃ j : Nat, k = .int .i64 j ∧ j ≤ l.length + 12 ∧ Below w.heap.size w wr) (fun k _ => l.length + 12 - (intOf k).toNat)
  case atStart => exact ⟨0, rfl, Nat.zero_le _, Below.refl _ _⟩
  case round =>
    obtain ⟨j, rfl, hj, hW⟩ := hrel
    have HW := Lib.hid hW
    clear hW
    have hj0 : (0 : Int) ≤ j := by omega
    by_cases h1 : j < l.length
    · have hlt' : (j : Int) < (l.length : Int) + 12 := by omega
      have hlt2 : (j : Int) < ((l.length + 12 : Nat) : Int) := by omega
      have h1' : (j : Int) < l.length := by omega
      have h2' : decide ((l.length : Int) ≤ j) = false := by simp; omega
      have h2b : decide (l.length ≤ j) = false := by simp; omega
      obtain ⟨x, hx⟩ : ∃ x, l[j]? = some x := ⟨_, List.getElem?_eq_getElem h1⟩
      obtain ⟨g1, o1, rfl, hg1, c1⟩ := (HI.out.below HW.out) j x hx
      obtain ⟨g2, o2, he, hg2, c2⟩ := (HO.out.below HW.out) j x (by rw [List.getElem?_append_left h1]; exact hx)
      injection he with he
      injection he with he1 he2
      subst he1
      subst he2
      rw [Nat.zero_add] at c2
      have q : (x == x) = true := by simp
      clear hx
      go_wp2_with fail
      go_quiet (fail)
      go_wp2
      go_roundw
      case rel => exact ⟨j + 1, by go_num, by omega, below_drewN HW.out _⟩
      case measure => simp [intOf]; omega
    · by_cases h2 : j < l.length + 12
      · have hlt' : (j : Int) < (l.length : Int) + 12 := by omega
        have hlt2 : (j : Int) < ((l.length + 12 : Nat) : Int) := by omega
        have h1' : decide ((j : Int) < l.length) = false := by simp; omega
        have h1b : decide (j < l.length) = false := by simp; omega
        have h2' : (l.length : Int) ≤ j := by omega
        obtain ⟨d, hd⟩ : ∃ d : Nat, j = l.length + d := ⟨j - l.length, by omega⟩
        have hd2 : d < 12 := by omega
        have hs : IntKind.i64.wrap ((j : Int) - l.length) = (d : Int) := by rw [IntWalk.i64_in _ (by omega)]; omega
        have hs0 : (0 : Int) ≤ (d : Int) := by omega
        obtain ⟨g2, o2, he, hg2, c2⟩ := (HO.out.below HW.out) j (1000003 * (1 + 7) + (d : Int)) (by
          rw [List.getElem?_append_right (by omega), show j - l.length = d by omega]
          simp [markL, hd2])
        injection he with he
        injection he with he1 he2
        subst he1
        subst he2
        rw [Nat.zero_add] at c2
        have HM := Lib.hid (fun W => mark_any 1 d W (by omega) (by omega) (by omega) (by omega))
        generalize 1000003 * (1 + 7) + (d : Int) = y at c2 HM
        have q : (y == y) = true := by simp
        clear hd hd2
        go_wp2_with fail
        go_quiet ((go_at_call 51; refine Calls.quiet_of_same ((HM.out _).mono fun _ _ h => ⟨h.1, h.2.symm⟩)))
        go_wp2
        go_roundw
        case rel => exact ⟨j + 1, by go_num, by omega, below_drewN HW.out _⟩
        case measure => simp [intOf]; omega
      · have e : j = l.length + 12 := by omega
        subst e
        have hlt' : ¬ ((l.length + 12 : Nat) : Int) < (l.length : Int) + 12 := by omega
        have hlt2 : ¬ ((l.length + 12 : Nat) : Int) < ((l.length + 12 : Nat) : Int) := by omega
        go_wp2
        go_ret
        exact ⟨rfl, HW.out⟩
end Go.Proofs.YthiipgahbmoiiaaGreatDoor
