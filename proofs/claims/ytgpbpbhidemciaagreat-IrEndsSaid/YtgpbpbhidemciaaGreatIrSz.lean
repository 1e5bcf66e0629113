/-
  A function's size and its variables are told as the plain functions say. No condition beyond those that each theorem states.
-/
import Derived.Test.YtgpbpbhidemciaaGreatIrV
import Derived.Deep.CutRange
namespace Go.Proofs.YtgpbpbhidemciaaGreat
open Go.RowKit

def sizeN (f : Ff) : Nat := if shapeN f = 0 then (f.blocks.map fun x => x.ins.length + 1).sum else 0
/-- All variables of instructions, added to a set. -/
def insVarsM (N : Nat) (l : List Ii) : Nat := l.foldl (fun N i => withM (withM N [i.dst, i.a, i.b]) i.args) N
def blVarsM (N : Nat) (l : List Bb) : Nat := l.foldl (fun N x => withM (insVarsM N x.ins) [x.tm.a]) N
def varsL (f : Ff) : List Int := if shapeN f = 0 then listM (blVarsM (withM 0 f.params) f.blocks) 201 else []
theorem blk_keep {w w' : World} {g g' : Nat} {t : TypeId} {cs : Array Value} (h : Blk w g t cs) (hk : Keep w.heap.size g' w w') (hne : g ≠ g') : Blk w' g t cs := (hk.block g h.lt hne).trans h
theorem ir_ne' {w : World} {g g' : Nat} {t t' : TypeId} {cs cs' : Array Value} (h : Blk w g t cs) (h' : Blk w g' t' cs') (ht : t ≠ t') : g ≠ g' := by
  rintro rfl
  unfold Blk at h h'
  rw [h] at h'
  injection h' with h'
  injection h' with _ h'
  exact ht h'
theorem ins_vars_lt {l : List Ii} : ∀ {N : Nat}, N < 2 ^ 256 → (∀ i ∈ l, isInsB i = true) → insVarsM N l < 2 ^ 256 := by
  induction l with
  | nil => intro N h _; exact h
  | cons i l ih =>
    intro N h hp
    obtain ⟨h1, h2, h3, h4⟩ := ins_parts (hp i (by simp))
    refine ih (with_lt (with_lt h (fun v hv => by simp at hv; omega)) (fun v hv => by have := h4 v hv; omega)) (fun j hj => hp j (by simp [hj]))
theorem bl_vars_lt {l : List Bb} : ∀ {N : Nat}, N < 2 ^ 256 → (∀ x ∈ l, (∀ i ∈ x.ins, isInsB i = true) ∧ isTermB x.tm = true) → blVarsM N l < 2 ^ 256 := by
  induction l with
  | nil => intro N h _; exact h
  | cons x l ih =>
    intro N h hp
    have h1 := term_part (hp x (by simp)).2
    refine ih (with_lt (ins_vars_lt h (hp x (by simp)).1) (fun v hv => by simp at hv; omega)) (fun y hy => hp y (by simp [hy]))
set_option maxHeartbeats 2000000 in
set_option maxRecDepth 100000 in
theorem noteV_any (l : List Int) (a : Option Addr) (c S0 N : Nat) (w : World) (hl : l.length ≤ 1000000) (hv : ∀ v ∈ l, 0 ≤ v ∧ v ≤ 200) (hI : IntsW w a l) (hB : Blk w S0 99 (setC N)) :
    Calls Tryz.prog 61 #[.slice a l.length c, .pointer (some ⟨S0, 0, none⟩)] w fun e w' => e = .returned (.tuple #[]) ∧ Blk w' S0 99 (setC (withM N l)) ∧ Keep w.heap.size S0 w w' := by
  have HB := Lib.hid hB
  obtain ⟨c0, c1, c2, c3⟩ := boxS hB
  have HC := Lib.hid (with_any N l a c w hl hv hI)
  unfold setV at HC
  have HS0 := Lib.hid (setC.eq_1 N)
  have HS1 := Lib.hid (setC.eq_1 (withM N l))
  rw [HS0.out, HS1.out] at HC
  clear hB hI
  go_enter Tryz.func61, Tryz.ntmps61
  go_wp2_with fail
  refine HC.out.mono ?_
  rintro e w1 ⟨rfl, hb⟩
  have HB1 := Lib.hid (HB.out.below hb HB.out.lt)
  obtain ⟨c0, c1, c2, c3⟩ := boxS HB1.out
  obtain ⟨f0, f1, f2, f3⟩ := boxF HB1.out
  have HK := Lib.hid (Keep.of_below hb S0)
  clear hb HB
  go_wp2
  (try simp only [Exit.inBlock, Exit.then])
  refine bodyPost_end (results_none rfl _ _ _) rfl ?_
  refine ⟨rfl, blk_four HB1.out rfl _ _ _ _, ?_⟩
  exact (((HK.out.trans (Keep.put _ _ _ _ _)).trans (Keep.put _ _ _ _ _)).trans (Keep.put _ _ _ _ _)).trans (Keep.put _ _ _ _ _)
set_option maxHeartbeats 2000000 in
set_option maxRecDepth 100000 in
theorem size_any' (f : Ff) (pa : Option Addr) (pc : Nat) (ba : Option Addr) (bc : Nat) (w : World) (hS : SmallF f) (hF : FnW w f pa pc ba bc) :
    Calls Tryz.prog 33 #[fnV f pa pc ba bc] w fun e w' => e = .returned (.int .i64 (sizeN f)) ∧ Below w.heap.size w w' := by
  have HF := Lib.hid hF
  have HS := Lib.hid hS
  have hb := hS.b
  have HX0 : Hid (Blk (w.alloc (.cells (fnC f pa pc ba bc) 37)) w.heap.size 37 (fnC f pa pc ba bc)) := Blk.new w _ _
  have HW0 : Hid (Below w.heap.size w (w.alloc (.cells (fnC f pa pc ba bc) 37))) := (Below.refl _ w).alloc (Nat.le_refl _) _
  have HC := Lib.hid (shape_any f pa pc ba bc (w.alloc (.cells (fnC f pa pc ba bc) 37)) hS (hF.below HW0.out))
  clear hF hS
  unfold fnV fnC at HC
  unfold fnV fnC
  go_enter Tryz.func33, Tryz.ntmps33
  go_wp2_with fail
  refine HC.out.mono ?_
  rintro e w1 ⟨rfl, hb1⟩
  have HX1 : Hid (Blk w1 w.heap.size 37 (fnC f pa pc ba bc)) := HX0.out.below hb1 HX0.out.lt
  have HB1 : Hid (Below w.heap.size w w1) := HW0.out.trans (hb1.mono HW0.out.size)
  clear hb1 HC HX0 HW0
  by_cases hsh : shapeN f = 0
  case neg =>
    have hq : (shapeN f != 0) = true := by simp [hsh]
    have HE : Hid (sizeN f = 0) := if_neg hsh
    clear hsh
    go_wp2
    go_ret
    exact ⟨by rw [HE.out]; rfl, HB1.out⟩
  have hq : (shapeN f != 0) = false := by simp [hsh]
  have HE : Hid (sizeN f = (f.blocks.map fun x => x.ins.length + 1).sum) := if_pos hsh
  clear hsh
  obtain ⟨c0, c1⟩ := box2 HX1.out
  go_wp2
  clear c0 c1
  go_loopw [3, 12] (fun m k wr => ∃ j n : Nat, m = .int .i64 n ∧ k = .int .i64 j ∧ j ≤ f.blocks.length ∧ n ≤ j * 1000001 ∧ Hid (sizeN f = n + ((f.blocks.drop j).map fun x => x.ins.length + 1).sum) ∧ Below w.heap.size w wr) (fun _ k _ => f.blocks.length - (intOf k).toNat)
  case atStart => exact ⟨0, 0, rfl, rfl, Nat.zero_le _, Nat.zero_le _, by have := HE.out; simpa [Hid] using this, HB1.out⟩
  case round =>
    obtain ⟨j, n, rfl, rfl, hj, hn, HA, hB⟩ := hrel
    have HB := Lib.hid hB
    clear hB HX1 HB1
    by_cases hlt : j < f.blocks.length
    · have hlt' : (j : Int) < f.blocks.length := by omega
      have hj0 : (0 : Int) ≤ j := by omega
      obtain ⟨y, hy⟩ : ∃ y, f.blocks[j]? = some y := ⟨_, List.getElem?_eq_getElem hlt⟩
      obtain ⟨g, o, ya, yc, rfl, hg, hc⟩ := (HF.out.below HB.out).blocks j y hy
      have hyi := (HS.out.i y (List.mem_of_getElem? hy)).1
      have HD : Hid (sizeN f = (n + (y.ins.length + 1)) + ((f.blocks.drop (j + 1)).map fun x => x.ins.length + 1).sum) := by
        show _ = _
        rw [HA.out, List.drop_eq_getElem_cons hlt, (List.getElem?_eq_some_iff.1 hy).2]
        simp
        omega
      have c0 := hc.c0
      have c1 := hc.c1
      have c2 := hc.c2
      have c3 := hc.c3
      have c4 := hc.c4
      have HW2 : Hid (Below w.heap.size w (wr.alloc (.cells (blC y ya yc) 34))) := HB.out.alloc HB.out.size _
      clear hy HA hc
      go_wp2
      go_roundw
      case rel => exact ⟨j + 1, n + (y.ins.length + 1), by go_num, by go_num, by omega, by omega, HD.out, HW2.out⟩
      case measure => simp [intOf]; omega
    · have e : j = f.blocks.length := by omega
      subst e
      go_wp2
      go_ret
      refine ⟨?_, HB.out⟩
      rw [HA.out]
      simp
set_option maxHeartbeats 4000000 in
set_option maxRecDepth 100000 in
theorem vars_any (f : Ff) (pa : Option Addr) (pc : Nat) (ba : Option Addr) (bc : Nat) (w : World) (hS : SmallF f) (hF : FnW w f pa pc ba bc) :
    Calls Tryz.prog 31 #[fnV f pa pc ba bc] w fun e w' => ∃ v, e = .returned v ∧ OwnI w' w.heap.size v (varsL f) ∧ Below w.heap.size w w' := by
  have HF := Lib.hid hF
  have HS := Lib.hid hS
  have hp := hS.p
  have hb := hS.b
  have HX0 : Hid (Blk (w.alloc (.cells (fnC f pa pc ba bc) 37)) w.heap.size 37 (fnC f pa pc ba bc)) := Blk.new w _ _
  have HW0 : Hid (Below w.heap.size w (w.alloc (.cells (fnC f pa pc ba bc) 37))) := (Below.refl _ w).alloc (Nat.le_refl _) _
  have HC := Lib.hid (shape_any f pa pc ba bc (w.alloc (.cells (fnC f pa pc ba bc) 37)) hS (hF.below HW0.out))
  clear hF hS
  unfold fnV fnC at HC
  unfold fnV fnC
  go_enter Tryz.func31, Tryz.ntmps31
  go_wp2_with fail
  refine HC.out.mono ?_
  rintro e w1 ⟨rfl, hb1⟩
  have HX1 : Hid (Blk w1 w.heap.size 37 (fnC f pa pc ba bc)) := HX0.out.below hb1 HX0.out.lt
  have HB1 : Hid (Below w.heap.size w w1) := HW0.out.trans (hb1.mono HW0.out.size)
  clear hb1 HC HX0 HW0
  by_cases hsh : shapeN f = 0
  case neg =>
    have hq : (shapeN f != 0) = true := by simp [hsh]
    have HE : Hid (varsL f = []) := if_neg hsh
    clear hsh
    go_wp2
    go_ret
    refine ⟨_, rfl, ?_, HB1.out⟩
    rw [HE.out]
    exact World.ownsRow_nil _ _ _ _
  have hq : (shapeN f != 0) = false := by simp [hsh]
  have HE : Hid (varsL f = listM (blVarsM (withM 0 f.params) f.blocks) 201) := if_pos hsh
  have HSB := Lib.hid (fun (x : Bb) (hx : x ∈ f.blocks) => shaped_blocks (shape_zero hsh).2 hx)
  have HSP := Lib.hid (shaped_params (shape_zero hsh).2)
  clear hsh
  have HX2 : Hid (Blk (w1.alloc (.cells #[.int .u64 0, .int .u64 0, .int .u64 0, .int .u64 0] 99)) w.heap.size 37 (fnC f pa pc ba bc)) := HX1.out.alloc _
  have HS2 : Hid (Blk (w1.alloc (.cells #[.int .u64 0, .int .u64 0, .int .u64 0, .int .u64 0] 99)) w1.heap.size 99 (setC 0)) := by
    have h0 : setC 0 = #[.int .u64 0, .int .u64 0, .int .u64 0, .int .u64 0] := by
      have hz : ∀ j, wordM 0 j = 0 := fun j => by unfold wordM; simp
      unfold setC
      simp [hz]
    show Blk _ _ _ _
    rw [h0]
    exact Blk.new w1 _ _
  have HB2 : Hid (Below w.heap.size w (w1.alloc (.cells #[.int .u64 0, .int .u64 0, .int .u64 0, .int .u64 0] 99))) := HB1.out.alloc HB1.out.size _
  have hS0 : w.heap.size ≤ w1.heap.size := HB1.out.size
  have HN := Lib.hid (noteV_any f.params pa pc w1.heap.size 0 _ hp (fun v hv => by have := HSP.out v hv; omega) (HF.out.below HB2.out).params HS2.out)
  obtain ⟨c0, c1⟩ := box2 HX2.out
  go_wp2_with fail
  refine HN.out.mono ?_
  rintro e w2 ⟨rfl, hs2, hk2⟩
  have HS3 := Lib.hid hs2
  have HX3 := Lib.hid (blk_keep HX2.out hk2 (ir_ne' HX2.out HS2.out (by decide)))
  have HB3 := Lib.hid (HB2.out.trans (hk2.below HB2.out.size hS0))
  clear HN hs2 hk2 HS2 HX2 HB2 c0 c1 HX1 HB1
  generalize w1.heap.size = S0 at *
  obtain ⟨c0, c1⟩ := box2 HX3.out
  have HEX : Hid (varsL f = listM (blVarsM (withM 0 f.params) (f.blocks.drop 0)) 201) := HE.out
  have hn0 : withM 0 f.params < 2 ^ 256 := with_lt (by decide) (fun v hv => by have := HSP.out v hv; omega)
  clear HE
  generalize withM 0 f.params = N0 at *
  go_wp2
  clear c0 c1
  go_loopw [20] (fun k wr => ∃ j N : Nat, k = .int .i64 j ∧ j ≤ f.blocks.length ∧ N < 2 ^ 256 ∧ Hid (varsL f = listM (blVarsM N (f.blocks.drop j)) 201) ∧ Blk wr S0 99 (setC N) ∧ Below w.heap.size w wr) (fun k _ => f.blocks.length - (intOf k).toNat)
  case atStart => exact ⟨0, N0, rfl, Nat.zero_le _, hn0, HEX.out, HS3.out, HB3.out⟩
  case round =>
    obtain ⟨j, N, rfl, hj, hN, HA, hSn, hB⟩ := hrel
    have HSn := Lib.hid hSn
    have HB := Lib.hid hB
    clear hSn hB HS3 HB3 HX3 HEX
    by_cases hlt : j < f.blocks.length
    · have hlt' : (j : Int) < f.blocks.length := by omega
      have hj0 : (0 : Int) ≤ j := by omega
      obtain ⟨x, hx⟩ : ∃ x, f.blocks[j]? = some x := ⟨_, List.getElem?_eq_getElem hlt⟩
      obtain ⟨g, o, xa, xc, rfl, hg, hcw⟩ := HF.out.blocks j x hx
      have hc := hcw.below hg HB.out
      have hxl := (HS.out.i x (List.mem_of_getElem? hx)).1
      obtain ⟨hxi, hxt⟩ := HSB.out x (List.mem_of_getElem? hx)
      have HXI := Lib.hid hxi
      have htp := term_part hxt
      have HNS := Lib.hid hcw.ins
      have HD : Hid (varsL f = listM (blVarsM (withM (insVarsM N (x.ins.drop 0)) [x.tm.a]) (f.blocks.drop (j + 1))) 201) := by
        show _ = _
        rw [HA.out, List.drop_eq_getElem_cons hlt, (List.getElem?_eq_some_iff.1 hx).2]
        rfl
      have c0 := hc.c0
      have c1 := hc.c1
      have c2 := hc.c2
      have c3 := hc.c3
      have c4 := hc.c4
      have HY : Hid (Blk (wr.alloc (.cells #[.slice xa x.ins.length xc, .int .i64 x.tm.kind, .int .i64 x.tm.a, .int .i64 x.tm.t0, .int .i64 x.tm.t1] 34)) wr.heap.size 34 (blC x xa xc)) := Blk.new wr _ _
      have HSn2 : Hid (Blk (wr.alloc (.cells #[.slice xa x.ins.length xc, .int .i64 x.tm.kind, .int .i64 x.tm.a, .int .i64 x.tm.t0, .int .i64 x.tm.t1] 34)) S0 99 (setC N)) := HSn.out.alloc _
      have HB2 : Hid (Below w.heap.size w (wr.alloc (.cells #[.slice xa x.ins.length xc, .int .i64 x.tm.kind, .int .i64 x.tm.a, .int .i64 x.tm.t0, .int .i64 x.tm.t1] 34))) := HB.out.alloc HB.out.size _
      have hwrs : w.heap.size ≤ wr.heap.size := HB.out.size
      clear hx hc hcw hxi hxt HA HSn HB
      have hX0 := hwrs
      go_wp2
      clear c0 c1 c2 c3 c4
      generalize (wr.alloc (.cells #[.slice xa x.ins.length xc, .int .i64 x.tm.kind, .int .i64 x.tm.a, .int .i64 x.tm.t0, .int .i64 x.tm.t1] 34)) = W1 at *
      generalize wr.heap.size = X0 at *
      go_loopw [27] (fun k wr2 => ∃ i M : Nat, k = .int .i64 i ∧ i ≤ x.ins.length ∧ M < 2 ^ 256 ∧ Hid (varsL f = listM (blVarsM (withM (insVarsM M (x.ins.drop i)) [x.tm.a]) (f.blocks.drop (j + 1))) 201) ∧ Blk wr2 S0 99 (setC M) ∧ Blk wr2 X0 34 (blC x xa xc) ∧ Below w.heap.size w wr2) (fun k _ => x.ins.length - (intOf k).toNat)
      case atStart => exact ⟨0, N, rfl, Nat.zero_le _, hN, HD.out, HSn2.out, HY.out, HB2.out⟩
      case round =>
        obtain ⟨i, M, rfl, hi, hM, HA2, hSn, hY, hB⟩ := hrel
        have HS5 := Lib.hid hSn
        have HY5 := Lib.hid hY
        have HB5 := Lib.hid hB
        clear hSn hY hB HSn2 HY HB2 HD
        by_cases hlt2 : i < x.ins.length
        · have hlt2' : (i : Int) < x.ins.length := by omega
          have hi0 : (0 : Int) ≤ i := by omega
          obtain ⟨y, hy⟩ : ∃ y, x.ins[i]? = some y := ⟨_, List.getElem?_eq_getElem hlt2⟩
          obtain ⟨g2, o2, ya, yc, rfl, hg2, hc2w⟩ := HNS.out i y hy
          have hc2 := hc2w.below hg2 HB5.out
          have HAR := Lib.hid hc2w.args
          have hyr := HXI.out y (List.mem_of_getElem? hy)
          obtain ⟨hyd, hya, hyb, hyargs⟩ := ins_parts hyr
          have hyf := ins_few hyr
          have HD2 : Hid (varsL f = listM (blVarsM (withM (insVarsM (withM (withM M [y.dst, y.a, y.b]) y.args) (x.ins.drop (i + 1))) [x.tm.a]) (f.blocks.drop (j + 1))) 201) := by
            show _ = _
            rw [HA2.out, List.drop_eq_getElem_cons hlt2, (List.getElem?_eq_some_iff.1 hy).2]
            rfl
          have h0 := hc2.c0
          have h1 := hc2.c1
          have h2 := hc2.c2
          have h3 := hc2.c3
          have h4 := hc2.c4
          have h5 := hc2.c5
          have h6 := hc2.c6
          have h7 := hc2.c7
          have K0 : Hid (Below wr.heap.size wr (wr.alloc (.cells #[.int .i64 y.op, .int .i64 y.dst, .int .i64 y.a, .int .i64 y.b, .int .i64 y.imm, .int .i64 y.callee, .slice ya y.args.length yc, .int .i64 y.many] 25))) := (Below.refl _ wr).alloc (Nat.le_refl _) _
          have K1 : Hid (Blk (wr.alloc (.cells #[.int .i64 y.op, .int .i64 y.dst, .int .i64 y.a, .int .i64 y.b, .int .i64 y.imm, .int .i64 y.callee, .slice ya y.args.length yc, .int .i64 y.many] 25)) wr.heap.size 25 (insC y ya yc)) := Blk.new wr _ _
          have K2 := Lib.hid (HS5.out.below K0.out HS5.out.lt)
          have K3 := Lib.hid (HY5.out.below K0.out HY5.out.lt)
          have K4 := Lib.hid (HB5.out.trans (K0.out.mono HB5.out.size))
          have hargs : ∀ v ∈ y.args, 0 ≤ v ∧ v ≤ 200 := fun v hv => by have := hyargs v hv; omega
          have hm1 : withM M [y.dst, y.a, y.b] < 2 ^ 256 := with_lt hM (fun v hv => by simp at hv; omega)
          clear hy hc2 hc2w HA2 HS5 HY5 HB5 K0
          go_upto_region 12 with fail
          clear h0 h1 h2 h3 h4 h5 h6 h7
          generalize (wr.alloc (.cells #[.int .i64 y.op, .int .i64 y.dst, .int .i64 y.a, .int .i64 y.b, .int .i64 y.imm, .int .i64 y.callee, .slice ya y.args.length yc, .int .i64 y.many] 25)) = W2 at *
          generalize wr.heap.size = I0 at *
          have L0 : Hid (Below W2.heap.size W2 (W2.alloc (.cells #[.int .i64 y.dst, .int .i64 y.a, .int .i64 y.b] 3))) := (Below.refl _ W2).alloc (Nat.le_refl _) _
          have L1 : Hid (IntsW (W2.alloc (.cells #[.int .i64 y.dst, .int .i64 y.a, .int .i64 y.b] 3)) (some ⟨W2.heap.size, 0, none⟩) [y.dst, y.a, y.b]) := IntsW.row (Blk.new W2 _ _) (fun k x hx => by
            match k with
            | 0 => simpa using hx
            | 1 => simpa using hx
            | 2 => simpa using hx
            | k + 3 => simp at hx)
          have L2 := Lib.hid (noteV_any [y.dst, y.a, y.b] _ 3 S0 M _ (by simp) (fun v hv => by simp at hv; omega) L1.out (K2.out.below L0.out K2.out.lt))
          obtain ⟨n0, n1, n2, n3, n4, n5, n6, n7⟩ := box8 K1.out
          go_wp2_with fail
          refine L2.out.mono ?_
          rintro e w3 ⟨rfl, hs3, hk3⟩
          have M1 := Lib.hid (blk_keep (K1.out.below L0.out K1.out.lt) hk3 (ir_ne' K1.out K2.out (by decide)))
          have M2 := Lib.hid hs3
          have M3 := Lib.hid (blk_keep (K3.out.below L0.out K3.out.lt) hk3 (ir_ne' K3.out K2.out (by decide)))
          have M4 := Lib.hid ((K4.out.trans (L0.out.mono K4.out.size)).trans (hk3.below (K4.out.trans (L0.out.mono K4.out.size)).size hS0))
          clear n0 n1 n2 n3 n4 n5 n6 n7 L0 L1 L2 K1 K2 K3 K4 hs3 hk3
          have L2 := Lib.hid (noteV_any y.args ya yc S0 _ w3 (by omega) hargs (HAR.out.below M4.out) M2.out)
          obtain ⟨n0, n1, n2, n3, n4, n5, n6, n7⟩ := box8 M1.out
          go_wp2_with fail
          refine L2.out.mono ?_
          rintro e w4 ⟨rfl, hs4, hk4⟩
          have P2 := Lib.hid hs4
          have P3 := Lib.hid (blk_keep M3.out hk4 (ir_ne' M3.out M2.out (by decide)))
          have P4 := Lib.hid (M4.out.trans (hk4.below M4.out.size hS0))
          have hm2 : withM (withM M [y.dst, y.a, y.b]) y.args < 2 ^ 256 := with_lt hm1 (fun v hv => by have := hargs v hv; omega)
          clear n0 n1 n2 n3 n4 n5 n6 n7 L2 M1 M2 M3 M4 hs4 hk4
          go_wp2
          go_roundw
          case rel => exact ⟨i + 1, _, by go_num, by omega, hm2, HD2.out, P2.out, P3.out, P4.out⟩
          case measure => simp [intOf]; omega
        · have e : i = x.ins.length := by omega
          subst e
          have HD2 : Hid (varsL f = listM (blVarsM (withM M [x.tm.a]) (f.blocks.drop (j + 1))) 201) := by
            show _ = _
            rw [HA2.out, List.drop_length]
            rfl
          obtain ⟨d0, d1, d2, d3, d4⟩ := box5 HY5.out
          have L0 : Hid (Below wr.heap.size wr (wr.alloc (.cells #[.int .i64 x.tm.a] 3))) := (Below.refl _ wr).alloc (Nat.le_refl _) _
          have L1 : Hid (IntsW (wr.alloc (.cells #[.int .i64 x.tm.a] 3)) (some ⟨wr.heap.size, 0, none⟩) [x.tm.a]) := IntsW.row (Blk.new wr _ _) (fun k x hx => by
            cases k with
            | zero => simpa using hx
            | succ k => simp at hx)
          have L2 := Lib.hid (noteV_any [x.tm.a] _ 1 S0 M _ (by simp) (fun v hv => by simp at hv; omega) L1.out (HS5.out.below L0.out HS5.out.lt))
          have hm3 : withM M [x.tm.a] < 2 ^ 256 := with_lt hM (fun v hv => by simp at hv; omega)
          go_wp2_with fail
          refine L2.out.mono ?_
          rintro e w4 ⟨rfl, hs4, hk4⟩
          have P2 := Lib.hid hs4
          have P4 := Lib.hid ((HB5.out.trans (L0.out.mono HB5.out.size)).trans (hk4.below (HB5.out.trans (L0.out.mono HB5.out.size)).size hS0))
          clear d0 d1 d2 d3 d4 L0 L1 L2 hs4 hk4 HS5 HY5 HB5
          go_wp2
          go_roundw
          case rel => exact ⟨j + 1, _, by go_num, by omega, hm3, HD2.out, P2.out, P4.out⟩
          case measure => simp [intOf]; omega
    · have e : j = f.blocks.length := by omega
      subst e
      have HD : Hid (varsL f = listM N 201) := by
        show _ = _
        rw [HA.out]
        simp [blVarsM]
      obtain ⟨c0, c1, c2, c3⟩ := boxS HSn.out
      have HL := Lib.hid (list_any N hN wr)
      unfold setV setC at HL
      go_wp2_with fail
      refine HL.out.mono ?_
      rintro e w3 ⟨v, rfl, hv, hb3⟩
      go_wp2
      go_ret
      refine ⟨v, rfl, ?_, HB.out.trans (hb3.mono HB.out.size)⟩
      rw [HD.out]
      exact own_base hv HB.out.size
end Go.Proofs.YtgpbpbhidemciaaGreat
