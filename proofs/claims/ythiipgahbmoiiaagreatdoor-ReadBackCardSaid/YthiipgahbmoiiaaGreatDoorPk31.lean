/-
  Blocks and functions that are lent: copies with marks behind their ends. No condition beyond those that each theorem states.
-/
import Derived.Test.YthiipgahbmoiiaaGreatDoorPk30
namespace Go.Proofs.YthiipgahbmoiiaaGreatDoor
open Go.RowKit

/-- A block: its end, its instructions, and where they lie. -/
abbrev BE := Tt × List IE × Option Addr × Nat
def beC (e : BE) : List Value := [.slice e.2.2.1 e.2.1.length e.2.2.2, .int .i64 e.1.kind, .int .i64 e.1.a, .int .i64 e.1.t0, .int .i64 e.1.t1]
def beB (e : BE) : Bb := ⟨e.2.1.map Prod.fst, e.1⟩
theorem be_len (e : BE) : (beC e).length = 5 := rfl
def markT (j : Nat) : Tt := ⟨0, 1000003 * (1 + 7) + (j : Int), 0, 0⟩
def markB (j : Nat) : BE := (markT j, [], none, 0)
def marksB (j : Nat) : List BE := (List.range j).map markB
theorem marksB_len (j : Nat) : (marksB j).length = j := by simp [marksB]
theorem marksB_more (j : Nat) : marksB (j + 1) = marksB j ++ [markB j] := by simp [marksB, List.range_succ]
/-- Its instructions are lent. -/
def RowL (w : World) (B : Nat) (e : BE) : Prop := ∃ g, e.2.2.1 = some ⟨g, 0, none⟩ ∧ LRow w B g e.2.2.2 e.2.1
theorem RowL.keepT {w w' : World} {B : Nat} {e : BE} (h : RowL w B e) (h1 : KeepT w w' 3) (h2 : KeepT w w' 45) : RowL w' B e := by
  obtain ⟨g, e1, h3⟩ := h
  exact ⟨g, e1, h3.keepT h1 h2⟩
theorem RowL.base {w : World} {B B' : Nat} {e : BE} (h : RowL w B e) (hB : B' ≤ B) : RowL w B' e := by
  obtain ⟨g, e1, h3⟩ := h
  exact ⟨g, e1, h3.base hB⟩
def RowB (w : World) (B : Nat) (v : Value) (es : List BE) : Prop := w.ownsRow B 52 5 v es.length (es.flatMap beC)
theorem rowB_seat {w : World} {B : Nat} {v : Value} {es : List BE} (h : RowB w B v es) (hl : 0 < es.length) : ∃ g cap, v = .slice (some ⟨g, 0, none⟩) es.length cap ∧ es.length ≤ cap ∧ cap ≤ maxLen := by
  rcases h.2 with ⟨_, h1⟩ | ⟨g, cap, cur, hv, _, _, h2, h3, _⟩
  · omega
  · exact ⟨g, cap, hv, h2, h3⟩
/-- A row of blocks that is lent. -/
structure LBls (w : World) (B g cap : Nat) (es : List BE) : Prop where
  row : RowB w B (.slice (some ⟨g, 0, none⟩) (es.length + 12) cap) (es ++ marksB 12)
  rows : ∀ e ∈ es, RowL w B e
  room : es.length + 12 ≤ cap ∧ cap ≤ maxLen
theorem LBls.keepT {w w' : World} {B g cap : Nat} {es : List BE} (h : LBls w B g cap es) (hk : ∀ t, KeepT w w' t) : LBls w' B g cap es :=
  ⟨own_keepT h.row (hk _), fun e he => (h.rows e he).keepT (hk _) (hk _), h.room⟩
theorem keep_blocks {w w' : World} {B g cap : Nat} {es : List BE} (h : LBls w B g cap es) (h1 : KeepT w w' 3) (h2 : KeepT w w' 45) (h3 : KeepT w w' 52) : LBls w' B g cap es :=
  ⟨own_keepT h.row h3, fun e he => (h.rows e he).keepT h1 h2, h.room⟩
theorem LBls.base {w : World} {B B' g cap : Nat} {es : List BE} (h : LBls w B g cap es) (hB : B' ≤ B) : LBls w B' g cap es := ⟨own_base h.row hB, fun e he => (h.rows e he).base hB, h.room⟩
theorem block_size : (Tryz.prog.info? 52).map (·.size) = some 5 := by kernel_rfl
theorem block_info : (Tryz.prog.info? 52).map (fun i => (i.zero, i.size, i.bytes)) = some (some (.agg #[.slice none 0 0, .int .i64 0, .int .i64 0, .int .i64 0, .int .i64 0]), 5, 56) := by kernel_rfl
set_option maxHeartbeats 1000000 in
set_option maxRecDepth 100000 in
theorem lentBlock_any (x : Bb) (a : Option Addr) (c : Nat) (w : World) (hl : x.ins.length ≤ 2000) (hl2 : ∀ y ∈ x.ins, y.args.length ≤ 2000) (hI : InsW w a x.ins) :
    Calls Tryz.prog 52 #[blV x a c] w fun e w' => ∃ b : BE, beB b = x ∧ e = .returned (.agg (beC b).toArray) ∧ RowL w' w.heap.size b ∧ Below w.heap.size w w' := by
  have HX : Hid (Blk ((w.alloc (.cells (blC x a c) 52)).alloc (.cells #[.slice none 0 0, .int .i64 0, .int .i64 0, .int .i64 0, .int .i64 0] 52)) w.heap.size 52 (blC x a c)) := Lib.hid ((Blk.new w _ _).alloc _)
  have HR : Hid (Blk ((w.alloc (.cells (blC x a c) 52)).alloc (.cells #[.slice none 0 0, .int .i64 0, .int .i64 0, .int .i64 0, .int .i64 0] 52)) (w.heap.size + 1) 52 #[.slice none 0 0, .int .i64 0, .int .i64 0, .int .i64 0, .int .i64 0]) := Lib.hid (new_two w _ _ _)
  have HW : Hid (Below w.heap.size w ((w.alloc (.cells (blC x a c) 52)).alloc (.cells #[.slice none 0 0, .int .i64 0, .int .i64 0, .int .i64 0, .int .i64 0] 52))) := Lib.hid (((Below.refl _ w).alloc (Nat.le_refl _) _).alloc (by simp) _)
  have HC := Lib.hid (lentRow_any x.ins a c _ hl hl2 (hI.below HW.out))
  clear hI
  unfold blV blC
  go_enter Tryz.func52, Tryz.ntmps52
  go_wp2_with fail
  refine HC.out.mono ?_
  rintro e w1 ⟨g, cap, es, rfl, hes, hrow, hb⟩
  have HX1 := Lib.hid (HX.out.below hb HX.out.lt)
  have HR1 := Lib.hid (HR.out.below hb HR.out.lt)
  have HW1 : Hid (Below w.heap.size w w1) := Lib.hid (HW.out.trans (hb.mono HW.out.size))
  have HO1 := Lib.hid (hrow.base HW.out.size)
  have HES := Lib.hid hes
  clear hb hrow hes HX HR HW HC
  obtain ⟨c0, c1, c2, c3, c4⟩ := box5 HX1.out
  have f0 : w1.frozen? ⟨w.heap.size, 0, none⟩ = false := HX1.out.free 0
  generalize hR0 : w.heap.size + 1 = R0 at HR1 ⊢
  have hne : R0 ≠ w.heap.size := by omega
  have d0 := HR1.out.cell 0
  have d1 := HR1.out.cell 1
  have d2 := HR1.out.cell 2
  have d3 := HR1.out.cell 3
  have d4 := HR1.out.cell 4
  have g0 := HR1.out.free 0
  have g1 := HR1.out.free 1
  have g2 := HR1.out.free 2
  have g3 := HR1.out.free 3
  have g4 := HR1.out.free 4
  simp at d0 d1 d2 d3 d4
  go_wp2
  obtain ⟨hR9, hK9, hB9⟩ := put_all HX1.out HR1.out hne 0 (.slice (some ⟨g, 0, none⟩) x.ins.length cap) [.slice (some ⟨g, 0, none⟩) x.ins.length cap, .int .i64 x.tm.kind, .int .i64 x.tm.a, .int .i64 x.tm.t0, .int .i64 x.tm.t1] rfl
  have hO9 := HO1.out.keepT (hK9 3 (by decide)) (hK9 45 (by decide))
  have hW9 := HW1.out.trans (hB9 w.heap.size (Nat.le_refl _) (by omega))
  clear hK9 hB9
  change bodyPost _ _ _ _ _ (putAll (w1.setCell ⟨w.heap.size, 0, none⟩ (.slice (some ⟨g, 0, none⟩) x.ins.length cap)) R0 0 [.slice (some ⟨g, 0, none⟩) x.ins.length cap, .int .i64 x.tm.kind, .int .i64 x.tm.a, .int .i64 x.tm.t0, .int .i64 x.tm.t1])
  generalize putAll (w1.setCell ⟨w.heap.size, 0, none⟩ (.slice (some ⟨g, 0, none⟩) x.ins.length cap)) R0 0 [.slice (some ⟨g, 0, none⟩) x.ins.length cap, .int .i64 x.tm.kind, .int .i64 x.tm.a, .int .i64 x.tm.t0, .int .i64 x.tm.t1] = W9 at hR9 hO9 hW9 ⊢
  clear d0 d1 d2 d3 d4 g0 g1 g2 g3 g4 c0 c1 c2 c3 c4
  have hlen : es.length = x.ins.length := by have := congrArg List.length HES.out; simpa using this
  refine bodyPost_ret (results_cell_row rfl _ _ R0 52 _ (0, 0) _ (by simp) hR9 Tryz.underlying52 rfl block_size) rfl ?_
  refine ⟨(x.tm, es, some ⟨g, 0, none⟩, cap), ?_, ?_, ⟨g, rfl, hO9⟩, hW9⟩
  · unfold beB
    rw [HES.out]
  · unfold beC
    rw [hlen]
set_option maxHeartbeats 1000000 in
set_option maxRecDepth 100000 in
theorem markBlock_any (j : Nat) (w : World) (hj : j ≤ 2000) : Calls Tryz.prog 53 #[.int .i64 1, .int .i64 j] w fun e w' => e = .returned (.agg (beC (markB j)).toArray) ∧ Below w.heap.size w w' := by
  go_enter Tryz.func53, Tryz.ntmps53
  go_wp2_with fail
  refine (mark_any 1 j _ (by omega) (by omega) (by omega) (by omega)).mono ?_
  rintro e w3 ⟨rfl, rfl⟩
  generalize hy : 1000003 * (1 + 7) + (j : Int) = y
  have HY := Lib.hid hy
  clear hy
  go_wp2
  refine bodyPost_ret (results_cell_row rfl _ _ w.heap.size 52 _ (0, 0) _ (by simp) (Blk.new w _ _) Tryz.underlying52 rfl block_size) rfl ?_
  exact ⟨by rw [← HY.out]; rfl, (Below.refl _ w).alloc (Nat.le_refl _) _⟩
theorem marksB_one (es : List BE) (j : Nat) : (es ++ marksB j).length = es.length + j := by rw [List.length_append, marksB_len]
theorem be_one (e : BE) : ∀ u ∈ beC e, u.oneCell' = true := fun u hu => by
  simp only [beC, List.mem_cons, List.not_mem_nil, or_false] at hu
  rcases hu with rfl | rfl | rfl | rfl | rfl <;> rfl
set_option maxHeartbeats 4000000 in
set_option maxRecDepth 100000 in
theorem lentBlocks_any (l : List Bb) (a : Option Addr) (c : Nat) (w : World) (hl : l.length ≤ 2000) (hl2 : ∀ x ∈ l, x.ins.length ≤ 2000 ∧ ∀ y ∈ x.ins, y.args.length ≤ 2000) (hI : BlsW w a l) :
    Calls Tryz.prog 22 #[.slice a l.length c] w fun e w' => ∃ (g cap : Nat) (es : List BE), e = .returned (.slice (some ⟨g, 0, none⟩) l.length cap) ∧ es.map beB = l ∧ LBls w' w.heap.size g cap es ∧ Below w.heap.size w w' := by
  obtain ⟨i0, hi0, hz0, hz1, hz2⟩ := info_parts block_info
  have HI := Lib.hid hI
  have HL2 := Lib.hid hl2
  clear hI hl2
  have hm : (0 : Int) ≤ (l.length : Int) + 12 := by omega
  go_enter Tryz.func22, Tryz.ntmps22
  go_wp2_with (at_make; go_must (refine wpList_make_own _ rfl _ _ _ rfl w.heap.size 52 i0 _ 5 Tryz.underlying23 hi0 hz0 hz1 .i64 .i64 ((l.length : Int) + 12) (l.length + 12) rfl rfl (by omega) (by rw [hz2]; omega) (by simp only [maxLen]; omega) (Nat.le_refl _) ?_; intro w1 hown1 hgrow1; have HB1 : Hid (Below w.heap.size w w1) := (by exact (Below.refl _ w).grown hgrow1 (Nat.le_refl _) (fun k hk => by cases hk))))
  have HO1 := Lib.hid hown1
  clear hown1 hgrow1
  go_loopw [3, 4] (fun v k wr => ∃ (j : Nat) (es : List BE) (u : Value), u = v ∧ k = .int .i64 j ∧ j ≤ l.length ∧ es.map beB = l.take j ∧ RowB wr w.heap.size v es ∧ (∀ e ∈ es, RowL wr w.heap.size e) ∧ Below w.heap.size w wr) (fun _ k _ => l.length - (intOf k).toNat)
  case atStart => exact ⟨0, [], _, rfl, rfl, Nat.zero_le _, rfl, HO1.out, (fun e he => by cases he), HB1.out⟩
  case round =>
    obtain ⟨j, es, v, rfl, rfl, hj, hes, hO, hA, hB⟩ := hrel
    clear HO1 HB1
    have HO := Lib.hid hO
    have HA := Lib.hid hA
    have HB := Lib.hid hB
    have HES := Lib.hid hes
    have hel : es.length = j := by
      have := congrArg List.length hes
      rw [List.length_map, List.length_take] at this
      omega
    clear hO hA hB hes
    by_cases hlt : j < l.length
    · have hlt' : (j : Int) < l.length := by omega
      have hj0 : (0 : Int) ≤ j := by omega
      obtain ⟨x, hx⟩ : ∃ x, l[j]? = some x := ⟨_, List.getElem?_eq_getElem hlt⟩
      obtain ⟨g, o, ia, ic, rfl, hg, hc⟩ := (HI.out.below HB.out) j x hx
      have c0 := hc.c0
      have c1 := hc.c1
      have c2 := hc.c2
      have c3 := hc.c3
      have c4 := hc.c4
      have HX := Lib.hid hx
      have HC := Lib.hid (lentBlock_any x ia ic wr (HL2.out x (List.mem_of_getElem? hx)).1 (HL2.out x (List.mem_of_getElem? hx)).2 hc.ins)
      unfold blV blC at HC
      clear hc hx
      go_wp2_with fail
      refine HC.out.mono ?_
      rintro e w3 ⟨b, hbx, rfl, hai, hb3⟩
      have HBX := Lib.hid hbx
      have HA3 := Lib.hid (hai.base HB.out.size)
      have HK3 := Lib.hid (And.intro (KeepT.below hb3 3) (KeepT.below hb3 45))
      have HO3 : Hid (RowB ((w3.alloc (.cells (beC b).toArray 52)).alloc (.cells (beC b).toArray 52)) w.heap.size v es) := Lib.hid (World.ownsRow.alloc (World.ownsRow.alloc (own_keepT HO.out (KeepT.below hb3 _)) _) _)
      have HB3 : Hid (Below w.heap.size w ((w3.alloc (.cells (beC b).toArray 52)).alloc (.cells (beC b).toArray 52))) := Lib.hid (((HB.out.trans (hb3.mono HB.out.size)).alloc (Nat.le_trans HB.out.size hb3.size) _).alloc (by have := Nat.le_trans HB.out.size hb3.size; simp; omega) _)
      clear hb3 hai HC c0 c1 c2 c3 c4 hbx
      unfold beC
      go_wp2_with (at_builtin; go_must (refine wpList_append_lies _ rfl _ _ _ rfl w.heap.size 52 i0 _ 5 56 Tryz.underlying23 hi0 hz0 hz1 hz2 rfl (by omega) v es.length (es.flatMap beC) rfl HO3.out ⟨w3.heap.size + 1, 0, none⟩ 1 1 (beC b) rfl rfl (World.news_of_block (new_two w3 _ _ _)) (be_one _) (by omega) (by simp only [maxLen]; omega) (by omega) HB3.out.size _ rfl ?_; intro gg gcap w4 hown4 hgrow4 hat4 hlt4))
      have HK4 : Hid (KeepT w3 w4 3 ∧ KeepT w3 w4 45) := Lib.hid ⟨((KeepT.alloc w3 _ _).trans (KeepT.alloc _ _ _)).trans (KeepT.grown HO3.out hgrow4 (by decide)), ((KeepT.alloc w3 _ _).trans (KeepT.alloc _ _ _)).trans (KeepT.grown HO3.out hgrow4 (by decide))⟩
      have HB4 : Hid (Below w.heap.size w w4) := Lib.hid (HB3.out.grown hgrow4 HB3.out.size (fun k hk => (World.ownsRow.lt HO3.out k hk).1))
      have HO4 : Hid (RowB w4 w.heap.size (.slice (some ⟨gg, 0, none⟩) (j + 1) gcap) (es ++ [b])) := by
        show World.ownsRow _ _ _ _ _ _ _
        rw [List.length_append, List.flatMap_append, ← hel]
        exact hown4
      have HA4 : Hid (∀ e ∈ es ++ [b], RowL w4 w.heap.size e) := Lib.hid fun e he => by
        rcases List.mem_append.1 he with he | he
        · exact ((HA.out e he).keepT HK3.out.1 HK3.out.2).keepT HK4.out.1 HK4.out.2
        · rw [List.mem_singleton] at he
          subst he
          exact HA3.out.keepT HK4.out.1 HK4.out.2
      clear hown4 hgrow4 hat4 hlt4
      go_roundw
      case rel => exact ⟨j + 1, _, _, rfl, by go_num, by omega, by rw [List.map_append, HES.out, List.take_add_one, HX.out, List.map_singleton, HBX.out]; rfl, HO4.out, HA4.out, HB4.out⟩
      case measure => simp [intOf]; omega
    · have e : j = l.length := by omega
      rw [e, List.take_length] at HES
      have hlt' : ¬ (j : Int) < l.length := by omega
      go_wp2
      go_loopw [3, 6] (fun v k wr => ∃ (i : Nat) (u : Value), u = v ∧ k = .int .i64 i ∧ i ≤ 12 ∧ RowB wr w.heap.size v (es ++ marksB i) ∧ (∀ e ∈ es, RowL wr w.heap.size e) ∧ Below w.heap.size w wr) (fun _ k _ => 12 - (intOf k).toNat)
      case atStart => exact ⟨0, _, rfl, rfl, Nat.zero_le _, by simpa [marksB] using HO.out, HA.out, HB.out⟩
      case round =>
        obtain ⟨i, v, rfl, rfl, hi, hO, hA, hB⟩ := hrel
        clear HO HA HB
        have HO := Lib.hid hO
        have HA := Lib.hid hA
        have HB := Lib.hid hB
        clear hO hA hB
        by_cases hi2 : i < 12
        · have hi3 : (i : Int) < 12 := by omega
          have HC := Lib.hid (markBlock_any i wr (by omega))
          unfold beC at HC
          have hml := marksB_one es i
          go_wp2_with fail
          refine HC.out.mono ?_
          rintro e w3 ⟨rfl, hb3⟩
          have HK3 := Lib.hid (And.intro (KeepT.below hb3 3) (KeepT.below hb3 45))
          have HO3 : Hid (RowB (w3.alloc (.cells (beC (markB i)).toArray 52)) w.heap.size v (es ++ marksB i)) := Lib.hid (World.ownsRow.alloc (own_keepT HO.out (KeepT.below hb3 _)) _)
          have HB3 : Hid (Below w.heap.size w (w3.alloc (.cells (beC (markB i)).toArray 52))) := Lib.hid ((HB.out.trans (hb3.mono HB.out.size)).alloc (Nat.le_trans HB.out.size hb3.size) _)
          clear HC hb3
          go_wp2_with (at_builtin; go_must (refine wpList_append_lies _ rfl _ _ _ rfl w.heap.size 52 i0 _ 5 56 Tryz.underlying23 hi0 hz0 hz1 hz2 rfl (by omega) v (es ++ marksB i).length ((es ++ marksB i).flatMap beC) rfl HO3.out ⟨w3.heap.size, 0, none⟩ 1 1 (beC (markB i)) rfl rfl (World.news_of_block (Blk.new w3 _ _)) (be_one _) (by omega) (by simp only [maxLen]; omega) (by omega) HB3.out.size _ rfl ?_; intro gg gcap w4 hown4 hgrow4 hat4 hlt4))
          have HK4 : Hid (KeepT wr w4 3 ∧ KeepT wr w4 45) := Lib.hid ⟨(HK3.out.1.trans (KeepT.alloc w3 _ _)).trans (KeepT.grown HO3.out hgrow4 (by decide)), (HK3.out.2.trans (KeepT.alloc w3 _ _)).trans (KeepT.grown HO3.out hgrow4 (by decide))⟩
          have HB4 : Hid (Below w.heap.size w w4) := Lib.hid (HB3.out.grown hgrow4 HB3.out.size (fun k hk => (World.ownsRow.lt HO3.out k hk).1))
          have HO4 : Hid (RowB w4 w.heap.size (.slice (some ⟨gg, 0, none⟩) (l.length + i + 1) gcap) (es ++ marksB (i + 1))) := by
            show World.ownsRow _ _ _ _ _ _ _
            have e1 : (es ++ marksB i).length = l.length + i := by omega
            have e2 : (es ++ marksB i ++ [markB i]).length = (es ++ marksB i).length + 1 := List.length_append
            rw [marksB_more, ← List.append_assoc, List.flatMap_append, e2, ← e1]
            exact hown4
          have HA4 : Hid (∀ e ∈ es, RowL w4 w.heap.size e) := Lib.hid fun e he => (HA.out e he).keepT HK4.out.1 HK4.out.2
          clear hown4 hgrow4 hat4 hlt4
          go_roundw
          case rel => exact ⟨i + 1, _, rfl, by go_num, by omega, HO4.out, HA4.out, HB4.out⟩
          case measure => simp [intOf]; omega
        · have e : i = 12 := by omega
          subst e
          have hml := marksB_one es 12
          obtain ⟨g, cap, rfl, h1, h2⟩ := rowB_seat HO.out (by omega)
          rw [hml] at h1
          have HO9 : Hid (RowB wr w.heap.size (.slice (some ⟨g, 0, none⟩) (es.length + 12) cap) (es ++ marksB 12)) := by
            have := HO.out
            rw [hml] at this
            exact Lib.hid this
          have hc1 : (l.length : Int) ≤ cap := by omega
          rw [hml]
          go_wp2
          go_ret
          exact ⟨g, cap, es, rfl, HES.out, ⟨HO9.out, HA.out, ⟨h1, h2⟩⟩, HB.out⟩
theorem func_size : (Tryz.prog.info? 25).map (·.size) = some 2 := by kernel_rfl
/-- A function that is lent. -/
structure LFn (w : World) (B : Nat) (f : Ff) (pg pc bg bc : Nat) (es : List BE) : Prop where
  same : es.map beB = f.blocks
  params : OwnI w B (.slice (some ⟨pg, 0, none⟩) (f.params.length + 12) pc) (f.params ++ markL 1 12)
  room : f.params.length + 12 ≤ pc ∧ pc ≤ maxLen
  blocks : LBls w B bg bc es
theorem LFn.below {w w' : World} {B : Nat} {f : Ff} {pg pc bg bc : Nat} {es : List BE} (h : LFn w B f pg pc bg bc es) (hb : Below w.heap.size w w') : LFn w' B f pg pc bg bc es :=
  ⟨h.same, OwnI.keepT h.params (KeepT.below hb _), h.room, h.blocks.keepT fun t => KeepT.below hb t⟩
set_option maxHeartbeats 1000000 in
set_option maxRecDepth 100000 in
theorem lentFunc_any (f : Ff) (pa : Option Addr) (pc : Nat) (ba : Option Addr) (bc : Nat) (w : World) (hp : f.params.length ≤ 2000) (hl : f.blocks.length ≤ 2000) (hl2 : ∀ x ∈ f.blocks, x.ins.length ≤ 2000 ∧ ∀ y ∈ x.ins, y.args.length ≤ 2000) (hF : FnW w f pa pc ba bc) :
    Calls Tryz.prog 10 #[fnV f pa pc ba bc] w fun e w' => ∃ (pg pk bg bk : Nat) (es : List BE), e = .returned (fnV f (some ⟨pg, 0, none⟩) pk (some ⟨bg, 0, none⟩) bk) ∧ LFn w' w.heap.size f pg pk bg bk es ∧ Below w.heap.size w w' := by
  have HX : Hid (Blk ((w.alloc (.cells (fnC f pa pc ba bc) 25)).alloc (.cells #[.slice none 0 0, .slice none 0 0] 25)) w.heap.size 25 (fnC f pa pc ba bc)) := Lib.hid ((Blk.new w _ _).alloc _)
  have HR : Hid (Blk ((w.alloc (.cells (fnC f pa pc ba bc) 25)).alloc (.cells #[.slice none 0 0, .slice none 0 0] 25)) (w.heap.size + 1) 25 #[.slice none 0 0, .slice none 0 0]) := Lib.hid (new_two w _ _ _)
  have HW : Hid (Below w.heap.size w ((w.alloc (.cells (fnC f pa pc ba bc) 25)).alloc (.cells #[.slice none 0 0, .slice none 0 0] 25))) := Lib.hid (((Below.refl _ w).alloc (Nat.le_refl _) _).alloc (by simp) _)
  have HC := Lib.hid (lentInts_any f.params pa pc _ (by omega) hF.pn (hF.params.below HW.out))
  have HBL := Lib.hid hF.blocks
  clear hF
  unfold fnV fnC
  go_enter Tryz.func10, Tryz.ntmps10
  go_wp2_with fail
  refine HC.out.mono ?_
  rintro e w1 ⟨pg, pk, rfl, h1, h2, ho, hb⟩
  have HX1 := Lib.hid (HX.out.below hb HX.out.lt)
  have HR1 := Lib.hid (HR.out.below hb HR.out.lt)
  have HW1 : Hid (Below w.heap.size w w1) := Lib.hid (HW.out.trans (hb.mono HW.out.size))
  have HO1 : Hid (OwnI w1 w.heap.size (.slice (some ⟨pg, 0, none⟩) (f.params.length + 12) pk) (f.params ++ markL 1 12)) := Lib.hid (own_base ho HW.out.size)
  clear hb ho HX HR HW HC
  have HX2 := Lib.hid (HX1.out.put 0 (.slice (some ⟨pg, 0, none⟩) f.params.length pk))
  have hne : w.heap.size + 1 ≠ w.heap.size := by omega
  have HR2 := Lib.hid (HR1.out.far (p := ⟨w.heap.size, 0, none⟩) hne (.slice (some ⟨pg, 0, none⟩) f.params.length pk))
  have HW2 := Lib.hid (HW1.out.setCell (p := ⟨w.heap.size, 0, none⟩) (Nat.le_refl _) (.slice (some ⟨pg, 0, none⟩) f.params.length pk))
  have HO2 := Lib.hid (OwnI.keepT HO1.out (KeepT.far HX1.out (by decide) 0 (.slice (some ⟨pg, 0, none⟩) f.params.length pk)))
  obtain ⟨c0, c1⟩ := box2 HX1.out
  have f0 : w1.frozen? ⟨w.heap.size, 0, none⟩ = false := HX1.out.free 0
  have HC2 := Lib.hid (lentBlocks_any f.blocks ba bc (w1.setCell ⟨w.heap.size, 0, none⟩ (.slice (some ⟨pg, 0, none⟩) f.params.length pk)) hl hl2 (HBL.out.below HW2.out))
  go_wp2_with fail
  refine HC2.out.mono ?_
  rintro e w3 ⟨bg, bk, es, rfl, hes, hrow, hb⟩
  have HX3 : Hid (Blk w3 w.heap.size 25 #[.slice (some ⟨pg, 0, none⟩) f.params.length pk, .slice ba f.blocks.length bc]) := Lib.hid (HX2.out.below hb HX2.out.lt)
  have HR3 := Lib.hid (HR2.out.below hb HR2.out.lt)
  have HW3 : Hid (Below w.heap.size w w3) := Lib.hid (HW2.out.trans (hb.mono HW2.out.size))
  have HO3 : Hid (OwnI w3 w.heap.size (.slice (some ⟨pg, 0, none⟩) (f.params.length + 12) pk) (f.params ++ markL 1 12)) := Lib.hid (OwnI.keepT HO2.out (KeepT.below hb _))
  have HL3 := Lib.hid (hrow.base HW2.out.size)
  clear hb hrow HX1 HR1 HW1 HO1 HX2 HR2 HW2 HO2 HC2 c0 c1 f0 HBL
  have c0 : w3.cell? ⟨w.heap.size, 0, none⟩ = some (.slice (some ⟨pg, 0, none⟩) f.params.length pk) := HX3.out.cell 0
  have c1 : w3.cell? ⟨w.heap.size, 1, none⟩ = some (.slice ba f.blocks.length bc) := HX3.out.cell 1
  have f1 : w3.frozen? ⟨w.heap.size, 1, none⟩ = false := HX3.out.free 1
  generalize hR0 : w.heap.size + 1 = R0 at HR3 hne ⊢
  have d0 := HR3.out.cell 0
  have d1 := HR3.out.cell 1
  have g0 := HR3.out.free 0
  have g1 := HR3.out.free 1
  simp at d0 d1
  go_wp2
  obtain ⟨hR9, hK9, hB9⟩ := put_all HX3.out HR3.out hne 1 (.slice (some ⟨bg, 0, none⟩) f.blocks.length bk) [.slice (some ⟨pg, 0, none⟩) f.params.length pk, .slice (some ⟨bg, 0, none⟩) f.blocks.length bk] rfl
  have hO9 := OwnI.keepT HO3.out (hK9 3 (by decide))
  have hL9 := keep_blocks HL3.out (hK9 3 (by decide)) (hK9 45 (by decide)) (hK9 52 (by decide))
  have hW9 := HW3.out.trans (hB9 w.heap.size (Nat.le_refl _) (by omega))
  clear hK9 hB9
  change bodyPost _ _ _ _ _ (putAll (w3.setCell ⟨w.heap.size, 1, none⟩ (.slice (some ⟨bg, 0, none⟩) f.blocks.length bk)) R0 0 [.slice (some ⟨pg, 0, none⟩) f.params.length pk, .slice (some ⟨bg, 0, none⟩) f.blocks.length bk])
  generalize putAll (w3.setCell ⟨w.heap.size, 1, none⟩ (.slice (some ⟨bg, 0, none⟩) f.blocks.length bk)) R0 0 [.slice (some ⟨pg, 0, none⟩) f.params.length pk, .slice (some ⟨bg, 0, none⟩) f.blocks.length bk] = W9 at hR9 hO9 hL9 hW9 ⊢
  refine bodyPost_ret (results_cell_row rfl _ _ R0 25 _ (0, 0) _ (by simp) hR9 Tryz.underlying25 rfl func_size) rfl ?_
  exact ⟨pg, pk, bg, bk, es, rfl, ⟨hes, hO9, ⟨h1, h2⟩, hL9⟩, hW9⟩
/-! What is lent can be read. -/
theorem RowE.at {w : World} {B g cap n : Nat} {es : List IE} (h : RowE w B (.slice (some ⟨g, 0, none⟩) n cap) es) (hn : n = es.length) {k : Nat} {e : IE} (he : es[k]? = some e) (hnil : e.2.1 = none → e.2.2 = 0) (ha : IntsW w e.2.1 e.1.args) : g < w.heap.size ∧ InAt w g (k * 8) e.1 e.2.1 e.2.2 := by
  subst hn
  have hk := (List.getElem?_eq_some_iff.1 he).1
  have hc : ∀ j v, j < 8 → (ieC e)[j]? = some v → w.cell? ⟨g, k * 8 + j, none⟩ = some v := fun j v hj hv => by
    rw [World.ownsRow.cellAt h (k * 8 + j) (by omega), flat_cell ieC 8 ie_len es k e j he hj, hv]
  exact ⟨(World.ownsRow.lt h g rfl).2, hc 0 _ (by omega) rfl, hc 1 _ (by omega) rfl, hc 2 _ (by omega) rfl, hc 3 _ (by omega) rfl, hc 4 _ (by omega) rfl, hc 5 _ (by omega) rfl, hc 6 _ (by omega) rfl, hc 7 _ (by omega) rfl, hnil, ha⟩
theorem ArgL.ints {w : World} {B : Nat} {e : IE} (h : ArgL w B e) : (e.2.1 = none → e.2.2 = 0) ∧ IntsW w e.2.1 (e.1.args ++ markL 1 12) := by
  obtain ⟨g, h1, _, _, h4⟩ := h
  rw [h1]
  refine ⟨fun h => (by cases h), IntsW.own (n := e.1.args.length + 12) (c := e.2.2) (B := B) (t := 3) ?_⟩
  unfold OwnI at h4
  rw [List.length_append, mark_len] at h4
  exact h4
theorem ints_left' {w : World} {a : Option Addr} {l m : List Int} (h : IntsW w a (l ++ m)) : IntsW w a l := fun k x hx => h k x (by rw [List.getElem?_append_left (List.getElem?_eq_some_iff.1 hx).1]; exact hx)
/-- An instruction of a row that is lent. -/
theorem LRow.at {w : World} {B g cap : Nat} {es : List IE} (h : LRow w B g cap es) {k : Nat} {e : IE} (he : es[k]? = some e) : g < w.heap.size ∧ InAt w g (k * 8) e.1 e.2.1 e.2.2 := by
  have ha := (h.args e (List.mem_of_getElem? he)).ints
  exact RowE.at h.row (by rw [marks_one]) (by rw [List.getElem?_append_left (List.getElem?_eq_some_iff.1 he).1]; exact he) ha.1 (ints_left' ha.2)
theorem LRow.mark {w : World} {B g cap : Nat} {es : List IE} (h : LRow w B g cap es) {k : Nat} (hk : k < 12) : g < w.heap.size ∧ InAt w g ((es.length + k) * 8) (markI k) none 0 :=
  RowE.at (e := markE k) h.row (by rw [marks_one]) (by rw [List.getElem?_append_right (by omega), Nat.add_sub_cancel_left]; unfold marksE; rw [List.getElem?_map, List.getElem?_range hk]; rfl) (fun _ => rfl) (IntsW.nil _ _)
theorem LRow.ins {w : World} {B g cap : Nat} {es : List IE} (h : LRow w B g cap es) : InsW w (some ⟨g, 0, none⟩) (es.map Prod.fst) := fun k x hx => by
  rw [List.getElem?_map, Option.map_eq_some_iff] at hx
  obtain ⟨e, he, rfl⟩ := hx
  have h1 := h.at he
  exact ⟨g, 0, e.2.1, e.2.2, rfl, h1.1, by rw [Nat.zero_add]; exact h1.2⟩
theorem RowB.at {w : World} {B g cap n : Nat} {es : List BE} (h : RowB w B (.slice (some ⟨g, 0, none⟩) n cap) es) (hn : n = es.length) {k : Nat} {e : BE} (he : es[k]? = some e) (hnil : e.2.2.1 = none → e.2.2.2 = 0) (ha : InsW w e.2.2.1 (e.2.1.map Prod.fst)) : g < w.heap.size ∧ BlAt w g (k * 5) (beB e) e.2.2.1 e.2.2.2 := by
  subst hn
  have hk := (List.getElem?_eq_some_iff.1 he).1
  have hc : ∀ j v, j < 5 → (beC e)[j]? = some v → w.cell? ⟨g, k * 5 + j, none⟩ = some v := fun j v hj hv => by
    rw [World.ownsRow.cellAt h (k * 5 + j) (by omega), flat_cell beC 5 be_len es k e j he hj, hv]
  exact ⟨(World.ownsRow.lt h g rfl).2, hc 0 _ (by omega) (by unfold beC beB; simp), hc 1 _ (by omega) rfl, hc 2 _ (by omega) rfl, hc 3 _ (by omega) rfl, hc 4 _ (by omega) rfl, hnil, ha⟩
theorem LBls.at {w : World} {B g cap : Nat} {es : List BE} (h : LBls w B g cap es) {k : Nat} {e : BE} (he : es[k]? = some e) : g < w.heap.size ∧ BlAt w g (k * 5) (beB e) e.2.2.1 e.2.2.2 := by
  obtain ⟨gi, h1, h2⟩ := h.rows e (List.mem_of_getElem? he)
  exact RowB.at h.row (by rw [marksB_one]) (by rw [List.getElem?_append_left (List.getElem?_eq_some_iff.1 he).1]; exact he) (by rw [h1]; intro h; cases h) (by rw [h1]; exact h2.ins)
theorem LBls.mark {w : World} {B g cap : Nat} {es : List BE} (h : LBls w B g cap es) {k : Nat} (hk : k < 12) : g < w.heap.size ∧ BlAt w g ((es.length + k) * 5) ⟨[], markT k⟩ none 0 :=
  RowB.at (e := markB k) h.row (by rw [marksB_one]) (by rw [List.getElem?_append_right (by omega), Nat.add_sub_cancel_left]; unfold marksB; rw [List.getElem?_map, List.getElem?_range hk]; rfl) (fun _ => rfl) (fun k x hx => by simp [markB] at hx)
theorem LBls.bls {w : World} {B g cap : Nat} {es : List BE} (h : LBls w B g cap es) : BlsW w (some ⟨g, 0, none⟩) (es.map beB) := fun k x hx => by
  rw [List.getElem?_map, Option.map_eq_some_iff] at hx
  obtain ⟨e, he, rfl⟩ := hx
  have h1 := h.at he
  exact ⟨g, 0, e.2.2.1, e.2.2.2, rfl, h1.1, by rw [Nat.zero_add]; exact h1.2⟩
theorem LFn.fn {w : World} {B : Nat} {f : Ff} {pg pc bg bc : Nat} {es : List BE} (h : LFn w B f pg pc bg bc es) : FnW w f (some ⟨pg, 0, none⟩) pc (some ⟨bg, 0, none⟩) bc := by
  refine ⟨ints_left' (m := markL 1 12) (IntsW.own (n := f.params.length + 12) (c := pc) (B := B) (t := 3) ?_), ?_, fun h => (by cases h), fun h => (by cases h)⟩
  · have h4 := h.params
    unfold OwnI at h4
    rw [List.length_append, mark_len] at h4
    exact h4
  · rw [← h.same]
    exact h.blocks.bls
end Go.Proofs.YthiipgahbmoiiaaGreatDoor
