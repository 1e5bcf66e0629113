/-
  Package read's textOf: the text of a function that has one (written by gen/rdn.py). Conditions: the library's tables and the Ops' names hold what the text lays.
-/
import Derived.Test.YthiipgahbmoiiaaGreatDoorPk26
namespace Go.Proofs.YthiipgahbmoiiaaGreatDoor
open Go.RowKit

def rdL (l : List ByteArray) : List UInt8 := (rowT l).data.toList
def headT (f : Ff) : List ByteArray := ⟨#[102, 117, 110]⟩ :: f.params.map vaT
def openT (k : Nat) : List ByteArray := [⟨#[98, 108, 111, 99, 107]⟩, itS k]
def inL (l : List Ii) : List UInt8 := l.flatMap fun i => rdL (insT i)
def blL (k : Nat) (b : Bb) : List UInt8 := rdL (openT k) ++ inL b.ins ++ rdL (termT b.tm)
def blsL : Nat → List Bb → List UInt8
  | _, [] => []
  | k, b :: l => blL k b ++ blsL (k + 1) l
/-- A function's text. -/
def fnL (f : Ff) : List UInt8 := rdL (headT f) ++ blsL 0 f.blocks
theorem blsL_snoc (k : Nat) (l : List Bb) (b : Bb) : blsL k (l ++ [b]) = blsL k l ++ blL (k + l.length) b := by
  induction l generalizing k with
  | nil => simp [blsL]
  | cons x l ih =>
    simp only [List.cons_append, blsL, ih, List.length_cons, List.append_assoc]
    rw [show k + 1 + l.length = k + (l.length + 1) by omega]
theorem inL_snoc (l : List Ii) (i : Ii) : inL (l ++ [i]) = inL l ++ rdL (insT i) := by simp [inL]
structure OkBq (b : Bb) : Prop where
  few : b.ins.length ≤ 64
  ins : ∀ i ∈ b.ins, (1 ≤ i.op ∧ i.op ≤ 14) ∧ InsRq i
  tm : TmRq b.tm
theorem rowT_size (l : List ByteArray) (hl : l.length ≤ 100) (hx : ∀ b ∈ l, b.size ≤ 50) : (rowT l).size ≤ 6000 := by
  have h1 := joinB_len l 50 hx
  unfold rowT joinB
  rw [ByteArray.size_append]
  show (List.toArray _).size + 1 ≤ _
  rw [List.size_toArray]
  have : l.length * (50 + 1) ≤ 100 * 51 := Nat.mul_le_mul hl (Nat.le_refl _)
  omega
theorem rdL_len (l : List ByteArray) : (rdL l).length = (rowT l).size := by
  unfold rdL
  rw [Array.length_toList]
  rfl
theorem it_50 {n : Int} (h : R64q n) : (itS n).size ≤ 50 := by have := itS_len n h.1 h.2; omega
theorem ins_small (x : Ii) (h : InsRq x) : (rowT (insT x)).size ≤ 6000 := by
  have h5 := opNmR_len x.op
  have h6 := h.few
  have hv : ∀ b ∈ x.args.map vaT, b.size ≤ 50 := fun b hb => by
    obtain ⟨v, hv, rfl⟩ := List.mem_map.1 hb
    exact vaT_len v (h.args v hv)
  refine rowT_size _ ?_ ?_
  · unfold insT
    repeat' split
    all_goals (simp; try omega)
  · intro b hb
    unfold insT at hb
    repeat' split at hb
    all_goals (
      simp only [List.mem_append, List.mem_cons, List.not_mem_nil, or_false] at hb
      first
        | (rcases hb with rfl | rfl | rfl | rfl | rfl <;> first | exact vaT_len _ h.dst | exact vaT_len _ h.a | exact vaT_len _ h.b | exact it_50 h.imm | exact it_50 h.callee | (show larrQ.size ≤ 50; decide) | (show (opNmR x.op).size ≤ 50; omega) | (show _ ≤ 50; decide))
        | (rcases hb with (rfl | rfl | rfl | rfl) | hb <;> first | exact hv _ hb | exact vaT_len _ h.dst | exact it_50 h.callee | (show larrQ.size ≤ 50; decide) | (show _ ≤ 50; decide))
        | (rcases hb with (rfl | rfl) | hb <;> first | exact hv _ hb | exact it_50 h.callee | (show _ ≤ 50; decide)))
theorem tm_small (t : Tt) (h : TmRq t) : (rowT (termT t)).size ≤ 6000 := by
  obtain ⟨h1, h2⟩ := needs_few t
  have hv : ∀ b ∈ (needsL t).map vaT, b.size ≤ 50 := fun b hb => by
    obtain ⟨v, hv, rfl⟩ := List.mem_map.1 hb
    rw [h2 v hv]
    exact vaT_len _ h.a
  refine rowT_size _ ?_ ?_
  · unfold termT
    repeat' split
    all_goals (simp; try omega)
  · intro b hb
    unfold termT at hb
    repeat' split at hb
    all_goals (
      simp only [List.mem_append, List.mem_cons, List.not_mem_nil, or_false] at hb
      first
        | (rcases hb with rfl | rfl | rfl | rfl <;> first | exact vaT_len _ h.a | exact it_50 h.t0 | exact it_50 h.t1 | (show rarrQ.size ≤ 50; decide) | (show _ ≤ 50; decide))
        | (rcases hb with rfl | hb <;> first | exact hv _ hb | (show _ ≤ 50; decide)))
theorem open_small (k : Nat) (hk : k ≤ 1000000) : (rowT (openT k)).size ≤ 6000 := by
  refine rowT_size _ (by simp [openT]) (fun b hb => ?_)
  simp only [openT, List.mem_cons, List.not_mem_nil, or_false] at hb
  rcases hb with rfl | rfl
  · show _ ≤ 50; decide
  · exact it_50 ⟨by omega, by omega⟩
theorem head_small (f : Ff) (hf : f.params.length ≤ 50) (hp : ∀ v ∈ f.params, R64q v) : (rowT (headT f)).size ≤ 6000 := by
  refine rowT_size _ (by simp [headT]; omega) (fun b hb => ?_)
  simp only [headT, List.mem_cons, List.mem_map] at hb
  rcases hb with rfl | ⟨v, hv, rfl⟩
  · show _ ≤ 50; decide
  · exact vaT_len v (hp v hv)
theorem blk_atQ {W : World} {g : Nat} {t : TypeId} {cs : Array Value} (h : W.heap.size = g) : Blk (W.alloc (.cells cs t)) g t cs := h ▸ Blk.new W t cs
/-- A text is written behind a builder's bytes. -/
theorem write_any {n₀ b : Nat} {l : List UInt8} {W : World} (ws : List ByteArray) (h : BuL n₀ b l W) (hlen : l.length + (rowT ws).size ≤ 140737488355328) (hn : n₀ ≤ W.heap.size) :
    Calls Tryz.prog 60 #[.pointer (some ⟨b, 0, none⟩), .string (rowT ws)] W fun e w' => e = .returned (.tuple #[.int .i64 (rowT ws).size, .nilIface]) ∧ BuL n₀ b (l ++ rdL ws) w' ∧ Below n₀ W w' ∧ (∀ g t cs, Blk W g t cs → t ≠ 94 → t ≠ 5 → Blk w' g t cs) := by
  refine (string_any n₀ b (Lib.byteCells l) (rowT ws) W (.inr h) (by simpa [Lib.byteCells] using hlen) hn).mono ?_
  rintro e w2 ⟨h1, h2, h3, h4⟩
  obtain ⟨cs, hcs⟩ := h.heap
  refine ⟨h1, ?_, h3, fun g t cs2 hb h5 h6 => h4 _ _ hb (fun e => ?_) (fun c fz e => ?_)⟩
  · have : Lib.byteCells (l ++ rdL ws) = Lib.byteCells l ++ Lib.strCells (rowT ws) := by simp [Lib.byteCells, Lib.strCells, rdL]
    unfold BuL
    rw [this]
    exact h2
  · cases e
    unfold Blk at hb
    rw [hcs] at hb
    injection hb with hb
    injection hb with _ hb
    exact h5 hb.symm
  · injection e with _ e
    exact h6 e
set_option maxRecDepth 100000 in
set_option maxHeartbeats 8000000 in
theorem textOf_any (f : Ff) (pa : Option Addr) (pc : Nat) (ba : Option Addr) (bc : Nat) (w : World) (hF : FnW w f pa pc ba bc) (hok : ∀ b ∈ f.blocks, OkBq b) (hfew : f.blocks.length ≤ 200) (hpar : f.params.length ≤ 50) (hpv : ∀ v ∈ f.params, R64q v) (hP : PowW w) (hN : NamesR w) :
    Calls Tryz.prog 24 #[fnV f pa pc ba bc] w fun e w' => ∃ s : ByteArray, (e = .returned (.string s) ∧ s.data.toList = fnL f) ∧ Below w.heap.size w w' := by
  have HF := Lib.hid hF
  have HOK := Lib.hid hok
  have HP := Lib.hid hP
  have HN := Lib.hid hN
  have HS0 := Lib.hid (head_small f hpar hpv)
  have HB0 : Hid (Below w.heap.size w ((w.alloc (.cells (fnC f pa pc ba bc) 25)).alloc (.cells #[.pointer none, .slice none 0 0] 94))) := ((Below.refl _ w).alloc (Nat.le_refl _) _).alloc (by simp) _
  have R0 : Hid (Calls Tryz.prog 61 #[.slice (some ⟨((w.alloc (.cells (fnC f pa pc ba bc) 25)).alloc (.cells #[.pointer none, .slice none 0 0] 94)).heap.size, 0, none⟩) 2 2] (((w.alloc (.cells (fnC f pa pc ba bc) 25)).alloc (.cells #[.pointer none, .slice none 0 0] 94)).alloc (.cells #[.iface 9 (.string ⟨#[102, 117, 110]⟩), .iface 100 (.slice pa f.params.length pc)] 20)) fun e w' => e = .returned (.string (rowT (headT f))) ∧ Below ((w.alloc (.cells (fnC f pa pc ba bc) 25)).alloc (.cells #[.pointer none, .slice none 0 0] 94)).heap.size ((w.alloc (.cells (fnC f pa pc ba bc) 25)).alloc (.cells #[.pointer none, .slice none 0 0] 94)) w') := by
    have := rowQ_lit [.tx ⟨#[102, 117, 110]⟩, .vs f.params pa pc] ((w.alloc (.cells (fnC f pa pc ba bc) 25)).alloc (.cells #[.pointer none, .slice none 0 0] 94)) _ 2 rfl (Below.refl _ _) (by simp [Wq.bs]) (by simp) (by simp [Wq.bs]; omega) (by
      intro y hy
      simp only [List.mem_cons, List.not_mem_nil, or_false] at hy
      rcases hy with rfl | rfl
      · show _ ≤ 50
        decide
      · exact ⟨hpv, hF.params.below HB0.out⟩) (hP.below HB0.out)
    rw [show ([.tx ⟨#[102, 117, 110]⟩, .vs f.params pa pc] : List Wq).flatMap Wq.bs = headT f by simp [Wq.bs, headT]] at this
    exact this
  have SX := Lib.hid (fnC.eq_1 f pa pc ba bc)
  have HX0 : Hid (Blk ((w.alloc (.cells (fnC f pa pc ba bc) 25)).alloc (.cells #[.pointer none, .slice none 0 0] 94)) w.heap.size 25 #[.slice pa f.params.length pc, .slice ba f.blocks.length bc]) := (Blk.new w _ _).alloc _
  have HU0 : Hid (Blk ((w.alloc (.cells (fnC f pa pc ba bc) 25)).alloc (.cells #[.pointer none, .slice none 0 0] 94)) (w.heap.size + 1) 94 #[.pointer none, .slice none 0 0]) := blk_atQ (by simp)
  rw [SX.out] at R0 HB0 HX0 HU0
  simp only [szQ] at R0
  unfold fnV
  rw [SX.out]
  clear hF hok hP hN hpv hpar SX
  go_enter Tryz.func24, Tryz.ntmps24
  go_wp2_with fail
  refine R0.out.mono ?_
  rintro e w1 ⟨rfl, hb1⟩
  have hb1' := hb1
  rw [show w.heap.size + 1 + 1 = ((w.alloc (.cells #[.slice pa f.params.length pc, .slice ba f.blocks.length bc] 25)).alloc (.cells #[.pointer none, .slice none 0 0] 94)).heap.size by simp] at hb1'
  have HX1 := Lib.hid (HX0.out.below hb1' HX0.out.lt)
  have hu1 := HU0.out.below hb1' HU0.out.lt
  have HB1 : Hid (Below w.heap.size w w1) := HB0.out.trans (hb1.mono (by omega))
  have hbu : Lib.IsBuilder 94 5 w.heap.size (w.heap.size + 1) [] w1 := .inl ⟨by omega, .slice none 0 0, hu1, World.ownsRow_nil _ _ _ _, by simp [Value.ownBlock]⟩
  have hsz := HS0.out
  have S := Lib.hid (string_any w.heap.size (w.heap.size + 1) [] (rowT (headT f)) w1 hbu (by simp; omega) HB1.out.size)
  clear hb1 hb1' hu1 hbu R0 HB0 HX0 HU0 hsz
  go_wp2_with fail
  refine S.out.mono ?_
  rintro e w2 ⟨rfl, hbu2, hb2, hk2⟩
  have hx2 : Blk w2 w.heap.size 25 #[.slice pa f.params.length pc, .slice ba f.blocks.length bc] := hk2 _ _ HX1.out (by simp) (fun c fz e => by cases e)
  have HU2 : Hid (BuL w.heap.size (w.heap.size + 1) (rdL (headT f)) w2) := hbu2
  have HB2 : Hid (Below w.heap.size w w2) := HB1.out.trans hb2
  have HL2 : Hid ((rdL (headT f)).length ≤ 6000) := by
    have := HS0.out
    rw [← rdL_len] at this
    exact this
  have x1 : w2.cell? ⟨w.heap.size, 1, none⟩ = some (.slice ba f.blocks.length bc) := hx2.cell 1
  have hxl := hx2.lt
  clear hbu2 hb2 hk2 hx2 S HX1 HB1 HS0
  go_wp2
  clear x1 hxl
  go_loopw [18] (fun v wr => ∃ j : Nat, v = .int .i64 j ∧ j ≤ f.blocks.length ∧ Hid ((rdL (headT f) ++ blsL 0 (f.blocks.take j)).length ≤ 6000 + j * 600000) ∧ BuL w.heap.size (w.heap.size + 1) (rdL (headT f) ++ blsL 0 (f.blocks.take j)) wr ∧ Below w.heap.size w wr) (fun v _ => f.blocks.length - (intOf v).toNat)
  case atStart => exact ⟨0, rfl, by omega, by show List.length _ ≤ _; simpa [blsL] using HL2.out, by simpa [blsL] using HU2.out, HB2.out⟩
  case round =>
    obtain ⟨j, rfl, hj, HL, hU, hB⟩ := hrel
    have HU := Lib.hid hU
    have HB := Lib.hid hB
    clear hU hB HU2 HB2 HL2
    by_cases hlt : j < f.blocks.length
    · have hlt' : (j : Int) < f.blocks.length := by omega
      have hj0 : (0 : Int) ≤ j := by omega
      obtain ⟨y, hy⟩ : ∃ y, f.blocks[j]? = some y := ⟨_, List.getElem?_eq_getElem hlt⟩
      obtain ⟨g, o, ya, yc, rfl, hg, hc0⟩ := HF.out.blocks j y hy
      have hc := hc0.below hg HB.out
      have hgr := Nat.lt_of_lt_of_le hg HB.out.size
      have HOY := Lib.hid (HOK.out y (List.mem_of_getElem? hy))
      have HSN : Hid (rdL (headT f) ++ blsL 0 (f.blocks.take (j + 1)) = (rdL (headT f) ++ blsL 0 (f.blocks.take j)) ++ (rdL (openT j) ++ inL y.ins ++ rdL (termT y.tm))) := by
        show _ = _
        rw [List.take_add_one, hy]
        show _ ++ blsL 0 (_ ++ [y]) = _
        rw [blsL_snoc, List.length_take, Nat.min_eq_left (Nat.le_of_lt hlt), Nat.zero_add, ← List.append_assoc]
        rfl
      have c0 := hc.c0
      have c1 := hc.c1
      have c2 := hc.c2
      have c3 := hc.c3
      have c4 := hc.c4
      have HIS : Hid (∀ W, Below w.heap.size w W → InsW W ya y.ins) := fun W h => hc0.ins.below h
      have hyf := HOY.out.few
      have HW2 : Hid (Below w.heap.size w (wr.alloc (.cells (blC y ya yc) 52))) := HB.out.alloc HB.out.size _
      have HX2 : Hid (Blk (wr.alloc (.cells (blC y ya yc) 52)) wr.heap.size 52 (blC y ya yc)) := Blk.new wr _ _
      have R : Hid (Calls Tryz.prog 61 #[.slice (some ⟨(wr.alloc (.cells (blC y ya yc) 52)).heap.size, 0, none⟩) 2 2] ((wr.alloc (.cells (blC y ya yc) 52)).alloc (.cells #[.iface 9 (.string ⟨#[98, 108, 111, 99, 107]⟩), .iface 3 (.int .i64 (j : Int))] 20)) fun e w' => e = .returned (.string (rowT (openT j))) ∧ Below (wr.alloc (.cells (blC y ya yc) 52)).heap.size (wr.alloc (.cells (blC y ya yc) 52)) w') := by
        have := rowQ_lit [.tx ⟨#[98, 108, 111, 99, 107]⟩, .nm (j : Int)] (wr.alloc (.cells (blC y ya yc) 52)) _ 2 rfl (Below.refl _ _) (by simp [Wq.bs]) (by simp) (by simp [Wq.bs]) (by
          intro y hy
          simp only [List.mem_cons, List.not_mem_nil, or_false] at hy
          rcases hy with rfl | rfl
          · show _ ≤ 50
            decide
          · exact ⟨by omega, by omega⟩) (HP.out.below HW2.out)
        rw [show ([.tx ⟨#[98, 108, 111, 99, 107]⟩, .nm (j : Int)] : List Wq).flatMap Wq.bs = openT j by simp [Wq.bs, openT]] at this
        exact this
      have HO1 := Lib.hid (open_small j (by omega))
      have SB := Lib.hid (blC.eq_1 y ya yc)
      rw [SB.out] at R HW2 HX2
      simp only [szQ] at R
      clear hy hc hc0 hg
      generalize rdL (headT f) ++ blsL 0 (f.blocks.take j) = pre at *
      go_wp2_with fail
      refine R.out.mono ?_
      rintro e w3 ⟨rfl, hb3⟩
      have hb3' : Below wr.heap.size wr w3 := ((Below.refl _ wr).alloc (Nat.le_refl _) _).trans (hb3.mono (by omega))
      have HB3 : Hid (Below w.heap.size w w3) := HB.out.trans (hb3'.mono HB.out.size)
      have HU3 : Hid (BuL w.heap.size (w.heap.size + 1) pre w3) := HU.out.below hb3'
      have hb3'' := hb3
      rw [show wr.heap.size + 1 = (wr.alloc (.cells #[.slice ya y.ins.length yc, .int .i64 y.tm.kind, .int .i64 y.tm.a, .int .i64 y.tm.t0, .int .i64 y.tm.t1] 52)).heap.size by simp] at hb3''
      have HX3 := Lib.hid (HX2.out.below hb3'' HX2.out.lt)
      have S := Lib.hid (write_any (openT j) HU3.out (by have := HL.out; have := HO1.out; omega) HB3.out.size)
      clear hb3 hb3' hb3'' c0 c1 c2 c3 c4 R HX2 HW2 HU HB hgr
      go_wp2_with fail
      refine S.out.mono ?_
      rintro e w4 ⟨rfl, hu4, hb4, hk4⟩
      have HU4 := Lib.hid hu4
      have HB4 : Hid (Below w.heap.size w w4) := HB3.out.trans hb4
      have HX4 := Lib.hid (hk4 _ _ _ HX3.out (by decide) (by decide))
      have HL4 : Hid ((pre ++ rdL (openT j)).length ≤ 6000 + j * 600000 + 6000) := by
        show List.length _ ≤ _
        rw [List.length_append, rdL_len]
        have := HL.out
        have := HO1.out
        omega
      have x0 : w4.cell? ⟨wr.heap.size, 0, none⟩ = some (.slice ya y.ins.length yc) := HX4.out.cell 0
      have hxl := HX4.out.lt
      clear hu4 hb4 hk4 S HX3 HU3 HB3 HL HO1
      obtain ⟨bx, hbx⟩ : ∃ n, wr.heap.size = n := ⟨_, rfl⟩
      rw [hbx] at HX4 x0 hxl ⊢
      clear hbx
      go_wp2
      clear x0 hxl
      go_loopw [32] (fun v wx => ∃ i : Nat, v = .int .i64 i ∧ i ≤ y.ins.length ∧ Hid ((pre ++ rdL (openT j) ++ inL (y.ins.take i)).length ≤ 6000 + j * 600000 + 6000 + i * 6000) ∧ BuL w.heap.size (w.heap.size + 1) (pre ++ rdL (openT j) ++ inL (y.ins.take i)) wx ∧ Blk wx bx 52 #[.slice ya y.ins.length yc, .int .i64 y.tm.kind, .int .i64 y.tm.a, .int .i64 y.tm.t0, .int .i64 y.tm.t1] ∧ Below w.heap.size w wx) (fun v _ => y.ins.length - (intOf v).toNat)
      case atStart => exact ⟨0, rfl, by omega, by show List.length _ ≤ _; simpa [inL] using HL4.out, by simpa [inL] using HU4.out, HX4.out, HB4.out⟩
      case round =>
        obtain ⟨i, rfl, hi, HL5, hU5, hX5, hB5⟩ := hrel
        have HU5 := Lib.hid hU5
        have HX5 := Lib.hid hX5
        have HB5 := Lib.hid hB5
        clear hU5 hX5 hB5 HU4 HX4 HB4 HL4
        by_cases hil : i < y.ins.length
        · have hil' : (i : Int) < y.ins.length := by omega
          have hii0 : (0 : Int) ≤ i := by omega
          obtain ⟨x, hx⟩ : ∃ x, y.ins[i]? = some x := ⟨_, List.getElem?_eq_getElem hil⟩
          obtain ⟨g, o, xa, xc, rfl, hg, hc⟩ := (HIS.out wr HB5.out) i x hx
          obtain ⟨ho, hR⟩ := HOY.out.ins x (List.mem_of_getElem? hx)
          have HSI : Hid (pre ++ rdL (openT j) ++ inL (y.ins.take (i + 1)) = (pre ++ rdL (openT j) ++ inL (y.ins.take i)) ++ rdL (insT x)) := by
            show _ = _
            rw [List.take_add_one, hx]
            show _ ++ inL (_ ++ [x]) = _
            rw [inL_snoc, ← List.append_assoc]
          have c0 := hc.c0
          have c1 := hc.c1
          have c2 := hc.c2
          have c3 := hc.c3
          have c4 := hc.c4
          have c5 := hc.c5
          have c6 := hc.c6
          have c7 := hc.c7
          have HW6 : Hid (Below w.heap.size w (wr.alloc (.cells (insC x xa xc) 45))) := HB5.out.alloc HB5.out.size _
          have HX6 := Lib.hid (HX5.out.alloc (.cells (insC x xa xc) 45))
          have R := Lib.hid (rowOf_any x xa xc (wr.alloc (.cells (insC x xa xc) 45)) ho hR (hc.args.below ((Below.refl _ wr).alloc (Nat.le_refl _) _)) (HP.out.below HW6.out) (HN.out.below HW6.out))
          have HS6 := Lib.hid (ins_small x hR)
          have SI := Lib.hid (insC.eq_1 x xa xc)
          unfold insV at R
          rw [SI.out] at R HW6 HX6
          clear hx hc ho hR
          generalize pre ++ rdL (openT j) ++ inL (y.ins.take i) = pre2 at *
          go_wp2_with fail
          refine R.out.mono ?_
          rintro e w6 ⟨rfl, hb6⟩
          have hb6' : Below wr.heap.size wr w6 := ((Below.refl _ wr).alloc (Nat.le_refl _) _).trans (hb6.mono (by simp))
          have HB6 : Hid (Below w.heap.size w w6) := HB5.out.trans (hb6'.mono HB5.out.size)
          have HU6 : Hid (BuL w.heap.size (w.heap.size + 1) pre2 w6) := HU5.out.below hb6'
          have HX7 := Lib.hid (HX6.out.below hb6 HX6.out.lt)
          have S := Lib.hid (write_any (insT x) HU6.out (by have := HL5.out; have := HS6.out; omega) HB6.out.size)
          clear hb6 hb6' c0 c1 c2 c3 c4 c5 c6 c7 R HX6 HW6 HU5 HB5 HX5 hg
          go_wp2_with fail
          refine S.out.mono ?_
          rintro e w7 ⟨rfl, hu7, hb7, hk7⟩
          have HU7 := Lib.hid hu7
          have HB7 : Hid (Below w.heap.size w w7) := HB6.out.trans hb7
          have HX8 := Lib.hid (hk7 _ _ _ HX7.out (by decide) (by decide))
          have HL7 : Hid ((pre2 ++ rdL (insT x)).length ≤ 6000 + j * 600000 + 6000 + (i + 1) * 6000) := by
            show List.length _ ≤ _
            rw [List.length_append, rdL_len]
            have := HL5.out
            have := HS6.out
            omega
          clear hu7 hb7 hk7 S HX7 HU6 HB6 HL5 HS6
          go_wp2
          go_roundw
          case rel => exact ⟨i + 1, by go_num, by omega, by rw [HSI.out]; exact HL7.out, by rw [HSI.out]; exact HU7.out, HX8.out, HB7.out⟩
          case measure => simp [intOf]; omega
        · obtain rfl : i = y.ins.length := by omega
          have hall : y.ins.take y.ins.length = y.ins := List.take_of_length_le (Nat.le_refl _)
          rw [hall] at HL5 HU5
          have R := Lib.hid (rowEnd_any y.tm wr HOY.out.tm (HP.out.below HB5.out))
          have HS6 := Lib.hid (tm_small y.tm HOY.out.tm)
          unfold termV at R
          have x1 : wr.cell? ⟨bx, 1, none⟩ = some (.int .i64 y.tm.kind) := HX5.out.cell 1
          have x2 : wr.cell? ⟨bx, 2, none⟩ = some (.int .i64 y.tm.a) := HX5.out.cell 2
          have x3 : wr.cell? ⟨bx, 3, none⟩ = some (.int .i64 y.tm.t0) := HX5.out.cell 3
          have x4 : wr.cell? ⟨bx, 4, none⟩ = some (.int .i64 y.tm.t1) := HX5.out.cell 4
          have hxl := HX5.out.lt
          have HSE : Hid (pre ++ (rdL (openT j) ++ inL y.ins ++ rdL (termT y.tm)) = (pre ++ rdL (openT j) ++ inL y.ins) ++ rdL (termT y.tm)) := by
            show _ = _
            simp only [List.append_assoc]
          clear hall HIS hil
          generalize pre ++ rdL (openT j) ++ inL y.ins = pre2 at *
          go_wp2_with fail
          refine R.out.mono ?_
          rintro e w6 ⟨rfl, hb6⟩
          have HB6 : Hid (Below w.heap.size w w6) := HB5.out.trans (hb6.mono HB5.out.size)
          have HU6 : Hid (BuL w.heap.size (w.heap.size + 1) pre2 w6) := HU5.out.below hb6
          have S := Lib.hid (write_any (termT y.tm) HU6.out (by have := HL5.out; have := HS6.out; omega) HB6.out.size)
          clear hb6 x1 x2 x3 x4 hxl R HU5 HB5 HX5
          go_wp2_with fail
          refine S.out.mono ?_
          rintro e w7 ⟨rfl, hu7, hb7, _⟩
          have HU7 := Lib.hid hu7
          have HB7 : Hid (Below w.heap.size w w7) := HB6.out.trans hb7
          have HL7 : Hid ((pre2 ++ rdL (termT y.tm)).length ≤ 6000 + (j + 1) * 600000) := by
            show List.length _ ≤ _
            rw [List.length_append, rdL_len]
            have := HL5.out
            have := HS6.out
            omega
          clear hu7 hb7 S HU6 HB6 HL5 HS6
          go_wp2
          go_roundw
          case rel => exact ⟨j + 1, by go_num, by omega, by rw [HSN.out, HSE.out]; exact HL7.out, by rw [HSN.out, HSE.out]; exact HU7.out, HB7.out⟩
          case measure => simp [intOf]; omega
    · obtain rfl : j = f.blocks.length := by omega
      have hall : f.blocks.take f.blocks.length = f.blocks := List.take_of_length_le (Nat.le_refl _)
      rw [hall] at HU
      have HE : Hid (rdL (headT f) ++ blsL 0 f.blocks = fnL f) := rfl
      rw [HE.out] at HU
      have S := Lib.hid (Tryz.Builder_String_any_k w.heap.size (w.heap.size + 1) (fnL f) wr (.inr (Lib.BuilderAtF.of HU.out)) HB.out.size)
      obtain ⟨res, hres⟩ : ∃ r, r = fnL f := ⟨_, rfl⟩
      have HRS := Lib.hid hres
      rw [← hres] at S
      clear hall HE HL HU hres
      go_wp2_with fail
      refine S.out.mono ?_
      rintro e w4 ⟨rfl, _, hb4, _⟩
      have HB4 : Hid (Below w.heap.size w w4) := HB.out.trans hb4
      clear hb4
      go_wp2
      go_ret
      exact ⟨_, ⟨rfl, by rw [← HRS.out]⟩, HB4.out⟩
end Go.Proofs.YthiipgahbmoiiaaGreatDoor
