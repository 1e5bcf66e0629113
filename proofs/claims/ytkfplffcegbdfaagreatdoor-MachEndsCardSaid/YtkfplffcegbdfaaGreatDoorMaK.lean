/-
  Package mach's calls: what is kept, whether a register is saved. No condition beyond those that each theorem states.
-/
import Derived.Test.YtkfplffcegbdfaaGreatDoorMaG
import Derived.OwnWalk
import Derived.Deep.DeepMust
import Derived.Deep.RegionLaw
import Derived.Test.YtkfplffcegbdfaaGreatDoorMaH
import Derived.Great.Walk
namespace Go.Proofs.YtkfplffcegbdfaaGreatDoor
open Go.RowKit

set_option maxHeartbeats 2000000 in
set_option maxRecDepth 100000 in
theorem enough_any (m : Mm) (aa sa : Option Addr) (ac sc : Nat) (o a : Int) (w : World) (hl : m.args.length ≤ 140737488355328) (hs : m.saved.length ≤ 140737488355328) (hM : MaW w m aa sa) :
    Calls Tryz.prog 19 #[machV m aa ac sa sc, .int .i64 o, .int .i64 a] w fun e w' => e = .returned (.bool (m.enoughB o a)) ∧ Below w.heap.size w w' := by
  have HB0 : Hid (Below w.heap.size w (w.alloc (.cells (maxC m aa ac sa sc) 24))) := (Below.refl _ w).alloc (Nat.le_refl _) _
  have HX0 : Hid (Blk (w.alloc (.cells (maxC m aa ac sa sc) 24)) w.heap.size 24 (maxC m aa ac sa sc)) := Blk.new w _ _
  have HR := Lib.hid (rightM_any m aa sa ac sc (w.alloc (.cells (maxC m aa ac sa sc) 24)) hl hs (hM.below HB0.out))
  have HE : Hid (m.enoughB o a = (m.rightB && decide (o < m.regs) && decide (a ≤ m.args.length))) := rfl
  have HM : Hid (maxC m aa ac sa sc = _) := maxC.eq_1 m aa ac sa sc
  unfold machV at HR ⊢
  generalize m.enoughB o a = res at *
  generalize m.rightB = b at *
  clear hM
  rw [HM.out] at HB0 HX0 HR ⊢
  go_enter Tryz.func19, Tryz.ntmps19
  go_wp2_with fail
  refine HR.out.mono ?_
  rintro e w1 ⟨rfl, hb⟩
  obtain ⟨c0, c1, c2, c3⟩ := boxMa (m := m) (aa := aa) (sa := sa) (ac := ac) (sc := sc) (HX0.out.below hb HX0.out.lt)
  have HB1 : Hid (Below w.heap.size w w1) := HB0.out.trans (hb.mono HB0.out.size)
  clear hb HR HX0 HB0
  cases b
  · go_wp2
    go_ret
    exact ⟨by rw [HE.out]; rfl, HB1.out⟩
  · by_cases h1 : o < m.regs
    · rw [decide_eq_true h1] at HE
      go_wp2
      go_ret
      exact ⟨by rw [HE.out]; rfl, HB1.out⟩
    · rw [decide_eq_false h1] at HE
      go_wp2
      go_ret
      exact ⟨by rw [HE.out]; rfl, HB1.out⟩
/-- Of the registers below j those that are lost. -/
def Mm.lostGo (m : Mm) (j : Nat) : List Int := ((List.range j).map Int.ofNat).filter (fun r => !(m.saved.contains r))
theorem lost_step (m : Mm) (j : Nat) : m.lostGo (j + 1) = m.lostGo j ++ (if m.saved.contains (j : Int) then [] else [(j : Int)]) := by
  unfold Mm.lostGo
  rw [List.range_succ, List.map_append, List.filter_append]
  simp only [List.map_cons, List.map_nil, List.filter_cons, List.filter_nil]
  show _ ++ (if (!(m.saved.contains (j : Int))) = true then [(j : Int)] else []) = _
  cases m.saved.contains (j : Int) <;> simp
theorem lost_len (m : Mm) (j : Nat) : (m.lostGo j).length ≤ j := by
  unfold Mm.lostGo
  exact Nat.le_trans (List.length_filter_le _ _) (by simp)
theorem lost_all (m : Mm) (h : m.rightB = true) : m.lostL = m.lostGo m.regs.toNat := by
  unfold Mm.lostL Mm.lostGo
  rw [if_pos h]
theorem regs_bound {m : Mm} (h : m.rightB = true) : 1 ≤ m.regs ∧ m.regs ≤ 64 ∧ m.saved.length ≤ 64 ∧ m.args.length ≤ 8 := by
  have := ((right_iff m).1 h).small
  simp only [Mm.smallB, Bool.and_eq_true, decide_eq_true_eq] at this
  omega
theorem ma_alloc (ρ : Operand → Value) {o : Oper} (ho : o.op = .alloc 50) (w : World) : (execOp ρ o).run Tryz.prog w = .ok (.value (.pointer (some ⟨w.heap.size, 0, none⟩))) (w.alloc (.cells (maC []) 50)) := by
  have hz := ma_zeroV
  unfold execOp
  simp only [ho]
  go_simp
set_option maxHeartbeats 4000000 in
set_option maxRecDepth 100000 in
theorem lost_any (m : Mm) (aa sa : Option Addr) (ac sc : Nat) (w : World) (hl : m.args.length ≤ 140737488355328) (hs : m.saved.length ≤ 140737488355328) (hM : MaW w m aa sa) :
    Calls Tryz.prog 9 #[machV m aa ac sa sc] w fun e w' => ∃ a c, e = .returned (.slice a m.lostL.length c) ∧ OwnM w' w.heap.size (.slice a m.lostL.length c) m.lostL ∧ Below w.heap.size w w' := by
  obtain ⟨i0, hi0, hz0, hz1, hz2⟩ := info_parts intM_info
  have hz := ma_zeroV
  have HB0 : Hid (Below w.heap.size w (w.alloc (.cells (maxC m aa ac sa sc) 24))) := (Below.refl _ w).alloc (Nat.le_refl _) _
  have HX0 : Hid (Blk (w.alloc (.cells (maxC m aa ac sa sc) 24)) w.heap.size 24 (maxC m aa ac sa sc)) := Blk.new w _ _
  have HR := Lib.hid (rightM_any m aa sa ac sc (w.alloc (.cells (maxC m aa ac sa sc) 24)) hl hs (hM.below HB0.out))
  have HW := Lib.hid hM
  have HM : Hid (maxC m aa ac sa sc = _) := maxC.eq_1 m aa ac sa sc
  unfold machV at HR ⊢
  clear hM
  rw [HM.out] at HB0 HX0 HR ⊢
  cases hr : m.rightB
  · have HE : Hid (m.lostL = []) := by show _ = _; unfold Mm.lostL; rw [hr]; rfl
    rw [hr] at HR
    clear hr
    go_enter Tryz.func9, Tryz.ntmps9
    go_wp2_with fail
    refine HR.out.mono ?_
    rintro e w1 ⟨rfl, hb⟩
    have HB1 : Hid (Below w.heap.size w w1) := HB0.out.trans (hb.mono HB0.out.size)
    clear hb
    go_wp2
    go_ret
    rw [HE.out]
    exact ⟨none, 0, rfl, World.ownsRow_nil _ _ _ _, HB1.out⟩
  · have HE := Lib.hid (lost_all m hr)
    obtain ⟨b1, b2, b3, b4⟩ := regs_bound hr
    have HI := Lib.hid ((right_iff m).1 hr)
    rw [hr] at HR
    clear hr
    go_enter Tryz.func9, Tryz.ntmps9
    go_wp2_with fail
    refine HR.out.mono ?_
    rintro e w1 ⟨rfl, hb⟩
    obtain ⟨c0, c1, c2, c3⟩ := boxMa (m := m) (aa := aa) (sa := sa) (ac := ac) (sc := sc) (HX0.out.below hb HX0.out.lt)
    have HX1 : Hid (Blk w1 w.heap.size 24 (maxC m aa ac sa sc)) := HX0.out.below hb HX0.out.lt
    have HB1 : Hid (Below w.heap.size w w1) := HB0.out.trans (hb.mono HB0.out.size)
    have HS := Lib.hid (setOf_any m.saved sa sc w1 (by omega) (regs_small HI.out.small HI.out.saved) ((HW.out.below HB1.out).saved))
    unfold maV at HS
    clear hb HR HX0 HB0
    go_wp2_with fail
    refine HS.out.mono ?_
    rintro e w2 ⟨rfl, hb⟩
    have HX2 : Hid (Blk w2 w.heap.size 24 (maxC m aa ac sa sc)) := HX1.out.below hb HX1.out.lt
    have HB2 : Hid (Below w.heap.size w w2) := HB1.out.trans (hb.mono HB1.out.size)
    obtain ⟨d0, d1, d2, d3⟩ := boxMa HX2.out
    have HN : Hid (Blk (w2.alloc (.cells (maC []) 50)) w2.heap.size 50 (maC [])) := Blk.new w2 _ _
    clear hb HS HX1 HB1 c0 c1 c2 c3
    rename_i K2 hK2
    dsimp only
    refine hK2 _ _ ?_
    refine Great.wpList_allocTo rfl _ rfl (.pointer (some ⟨w2.heap.size, 0, none⟩)) (.cells (maC []) 50) (ma_alloc _ rfl w2) ?_
    refine wpList_store_row rfl 50 _ _ rfl w2.heap.size (maC m.saved) rfl rfl 50 _ HN.out (maC_szS _) (by rw [maC_size, maC_size]) (maC_one _) ?_
    apply wpList_nil
    rw [World.setRow_alloc_new]
    simp only [Act.put, List.setIfInBounds_toArray, List.set_cons_zero, List.set_cons_succ, Exit.then]
    have HT3 : Hid (Blk (w2.alloc (.cells (maC m.saved) 50)) w2.heap.size 50 (maC m.saved)) := Blk.new w2 _ _
    have hb3 : Below w2.heap.size w2 (w2.alloc (.cells (maC m.saved) 50)) := (Below.refl _ w2).alloc (Nat.le_refl _) _
    have HX3 : Hid (Blk (w2.alloc (.cells (maC m.saved) 50)) w.heap.size 24 (maxC m aa ac sa sc)) := HX2.out.below hb3 HX2.out.lt
    have HB3 : Hid (Below w.heap.size w (w2.alloc (.cells (maC m.saved) 50))) := HB2.out.trans (hb3.mono HB2.out.size)
    have hle : w.heap.size ≤ w2.heap.size := HB2.out.size
    clear hb3 HN HX2 HB2 hK2 K2 d0 d1 d2 d3 hz
    generalize w2.alloc (.cells (maC m.saved) 50) = w3 at *
    generalize w2.heap.size = T at *
    obtain ⟨d0, d1, d2, d3⟩ := boxMa HX3.out
    go_wp2
    go_loopw [2, 13] (fun v k wr => ∃ (j : Nat) (a : Option Addr) (c : Nat), v = .slice a (m.lostGo j).length c ∧ k = .int .i64 j ∧ (j : Int) ≤ m.regs ∧ OwnM wr w.heap.size v (m.lostGo j) ∧ Blk wr T 50 (maC m.saved) ∧ Below w.heap.size w wr) (fun _ k _ => m.regs.toNat - (intOf k).toNat)
    case atStart => exact ⟨0, none, 0, rfl, rfl, by omega, World.ownsRow_nil _ _ _ _, HT3.out, HB3.out⟩
    case round =>
      obtain ⟨j, a, c, rfl, rfl, hj, hO, hT, hB⟩ := hrel
      have HO := Lib.hid hO
      have HT := Lib.hid hT
      have HB := Lib.hid hB
      clear hO hT hB HT3 HB3 HX3 d0 d1 d2 d3
      by_cases hlt : (j : Int) < m.regs
      · have hj0 : (0 : Int) ≤ j := by omega
        have hlen := lost_len m j
        have HD := Lib.hid (lost_step m j)
        have one : ∀ W : World, Hid (IntsW (W.alloc (.cells #[.int .i64 j] 3)) (some ⟨W.heap.size, 0, none⟩) [(j : Int)]) := fun W => one_reg W j
        have HH := Lib.hid (hasR_any m.saved [(j : Int)] _ 1 (wr.alloc (.cells #[.int .i64 j] 3)) (by simp) (fun r hr => by simp at hr; omega) (one wr).out)
        rw [inB_one] at HH
        unfold maV at HH
        have HB1 : Hid (Below wr.heap.size wr (wr.alloc (.cells #[.int .i64 j] 3))) := (Below.refl _ _).alloc (Nat.le_refl _) _
        go_upto_region 7 with fail
        apply wp_region_lit
        refine wpList_load_row rfl 50 _ rfl T rfl 50 (maC m.saved) (0, 0) _ HT.out Tryz.underlying50 rfl (maC_szS _) ?_
        simp only [Act.put, List.setIfInBounds_toArray, List.set_cons_zero, List.set_cons_succ]
        go_wp2_with fail
        refine HH.out.mono ?_
        rintro e w4 ⟨rfl, hb⟩
        have HB2 : Hid (Below wr.heap.size wr w4) := HB1.out.trans (hb.mono HB1.out.size)
        have HB4 : Hid (Below w.heap.size w w4) := HB.out.trans (HB2.out.mono HB.out.size)
        have HT4 : Hid (Blk w4 T 50 (maC m.saved)) := HT.out.below HB2.out HT.out.lt
        have HO4 : Hid (OwnM w4 w.heap.size (.slice a (m.lostGo j).length c) (m.lostGo j)) := own_keep HO.out ⟨HB2.out.size, fun k _ hk => HB2.out.block k hk⟩
        have hs4 := HB4.out.size
        clear hb HH HB1 HB2 HB HT HO one
        cases hc : m.saved.contains (j : Int)
        · rw [hc] at HD
          go_wp2_with (at_builtin; go_must (refine wpList_append_lies _ rfl _ _ _ rfl w.heap.size 3 i0 _ 1 8 Tryz.underlying22 hi0 hz0 hz1 hz2 rfl (by omega) (.slice a (m.lostGo j).length c) (m.lostGo j).length ((m.lostGo j).map (Value.int .i64)) rfl (World.ownsRow.alloc HO4.out _) ⟨w4.heap.size, 0, none⟩ 1 1 [.int .i64 j] rfl rfl (World.news_of_block (heap_alloc_new w4 _)) (by simp [Value.oneCell']) (by omega) (by simp only [maxLen]; omega) (by omega) (by simp; omega) (w4.heap.size + 1) (by simp) ?_; intro gg cap5 w5 hown5 hgrow hat hlt5))
          have HO5 := Lib.hid (OwnM.more hown5)
          have HT5 : Hid (Blk w5 T 50 (maC m.saved)) := Blk.grown (Blk.alloc HT4.out (.cells #[.int .i64 j] 3)) hgrow (own_far (World.ownsRow.alloc HO4.out (.cells #[.int .i64 j] 3)) (Blk.alloc HT4.out _) (by decide))
          have HB5 : Hid (Below w.heap.size w w5) := (HB4.out.alloc (by omega) _).grown hgrow (by simp; omega) (fun k hk => (HO4.out.lt k hk).1)
          have e : m.lostGo (j + 1) = m.lostGo j ++ [(j : Int)] := by have := HD.out; simpa using this
          clear hown5 hgrow hat hlt5 HO4 HB4 HT4
          go_wp2
          go_roundw
          case rel => exact ⟨j + 1, some ⟨gg, 0, none⟩, cap5, by rw [e]; simp, by go_num, by omega, by rw [e]; exact HO5.out, HT5.out, HB5.out⟩
          case measure => simp [intOf]; omega
        · rw [hc] at HD
          have e : m.lostGo (j + 1) = m.lostGo j := by have := HD.out; simpa using this
          go_wp2
          go_roundw
          case rel => exact ⟨j + 1, a, c, by rw [e], by go_num, by omega, by rw [e]; exact HO4.out, HT4.out, HB4.out⟩
          case measure => simp [intOf]; omega
      · have e : m.regs.toNat = j := by omega
        go_wp2
        go_ret
        rw [HE.out, e]
        exact ⟨a, c, rfl, HO.out, HB.out⟩
end Go.Proofs.YtkfplffcegbdfaaGreatDoor
namespace Go.Proofs.YtkfplffcegbdfaaGreatDoor
open Go.RowKit

theorem factM_info : (Tryz.prog.info? 58).map (fun i => (i.zero, i.size, i.bytes)) = some (some (.agg #[.int .i64 0, .bool false, .int .i64 0]), 3, 24) := by kernel_rfl
def factC (r : Int) : List Value := [.int .i64 (-1 - r), .bool false, .int .i64 r]
/-- Facts that a call made, of saved registers. -/
def OwnF (w : World) (B : Nat) (v : Value) (l : List Int) : Prop := w.ownsRow B 58 3 v l.length (l.flatMap factC)
theorem factC_len (l : List Int) : (l.flatMap factC).length = l.length * 3 := by
  induction l with
  | nil => rfl
  | cons x l ih => simp only [List.flatMap_cons, List.length_append, ih, factC, List.length_cons, List.length_nil]; omega
theorem OwnF.more {w2 : World} {B gg cap : Nat} {l : List Int} {x : Int} (h : w2.ownsRow B 58 3 (.slice (some ⟨gg, 0, none⟩) (l.length + 1) cap) (l.length + 1) (l.flatMap factC ++ factC x)) :
    OwnF w2 B (.slice (some ⟨gg, 0, none⟩) (l.length + 1) cap) (l ++ [x]) := by
  unfold OwnF
  rw [List.length_append, List.flatMap_append]
  simpa using h
theorem keeps_right {m : Mm} (h : m.rightB = true) : m.keepsL = m.saved := by unfold Mm.keepsL; rw [if_pos h]
theorem keeps_wrong {m : Mm} (h : m.rightB = false) : m.keepsL = [] := by unfold Mm.keepsL; rw [h]; rfl
set_option maxHeartbeats 4000000 in
set_option maxRecDepth 100000 in
theorem keeps_any (m : Mm) (aa sa : Option Addr) (ac sc : Nat) (w : World) (hl : m.args.length ≤ 140737488355328) (hs : m.saved.length ≤ 140737488355328) (hM : MaW w m aa sa) :
    Calls Tryz.prog 17 #[machV m aa ac sa sc] w fun e w' => ∃ a c, e = .returned (.slice a m.keepsL.length c) ∧ OwnF w' w.heap.size (.slice a m.keepsL.length c) m.keepsL ∧ Below w.heap.size w w' := by
  obtain ⟨i0, hi0, hz0, hz1, hz2⟩ := info_parts factM_info
  have HB0 : Hid (Below w.heap.size w (w.alloc (.cells (maxC m aa ac sa sc) 24))) := (Below.refl _ w).alloc (Nat.le_refl _) _
  have HX0 : Hid (Blk (w.alloc (.cells (maxC m aa ac sa sc) 24)) w.heap.size 24 (maxC m aa ac sa sc)) := Blk.new w _ _
  have HR := Lib.hid (rightM_any m aa sa ac sc (w.alloc (.cells (maxC m aa ac sa sc) 24)) hl hs (hM.below HB0.out))
  have HW := Lib.hid hM.saved
  have HM : Hid (maxC m aa ac sa sc = _) := maxC.eq_1 m aa ac sa sc
  unfold machV at HR ⊢
  clear hM
  rw [HM.out] at HB0 HX0 HR ⊢
  cases hr : m.rightB
  · have HE := Lib.hid (keeps_wrong hr)
    rw [hr] at HR
    clear hr
    go_enter Tryz.func17, Tryz.ntmps17
    go_wp2_with fail
    refine HR.out.mono ?_
    rintro e w1 ⟨rfl, hb⟩
    have HB1 : Hid (Below w.heap.size w w1) := HB0.out.trans (hb.mono HB0.out.size)
    clear hb
    go_wp2
    go_ret
    rw [HE.out]
    exact ⟨none, 0, rfl, World.ownsRow_nil _ _ _ _, HB1.out⟩
  · have HE := Lib.hid (keeps_right hr)
    obtain ⟨b1, b2, b3, b4⟩ := regs_bound hr
    have HV := Lib.hid (regs_small ((right_iff m).1 hr).small ((right_iff m).1 hr).saved)
    rw [hr] at HR
    clear hr
    go_enter Tryz.func17, Tryz.ntmps17
    go_wp2_with fail
    refine HR.out.mono ?_
    rintro e w1 ⟨rfl, hb⟩
    obtain ⟨c0, c1, c2, c3⟩ := boxMa (m := m) (aa := aa) (sa := sa) (ac := ac) (sc := sc) (HX0.out.below hb HX0.out.lt)
    have HB1 : Hid (Below w.heap.size w w1) := HB0.out.trans (hb.mono HB0.out.size)
    clear hb HR HX0 HB0
    go_wp2
    go_loopw [2, 11] (fun v k wr => ∃ (j : Nat) (a : Option Addr) (c : Nat), v = .slice a (m.saved.take j).length c ∧ k = .int .i64 j ∧ j ≤ m.saved.length ∧ OwnF wr w.heap.size v (m.saved.take j) ∧ Below w.heap.size w wr) (fun _ k _ => m.saved.length - (intOf k).toNat)
    case atStart => exact ⟨0, none, 0, rfl, rfl, Nat.zero_le _, World.ownsRow_nil _ _ _ _, HB1.out⟩
    case round =>
      obtain ⟨j, a, c, rfl, rfl, hj, hO, hB⟩ := hrel
      have HO := Lib.hid hO
      have HB := Lib.hid hB
      clear hO hB HB1 c0 c1 c2 c3
      by_cases hlt : j < m.saved.length
      · have hlt' : (j : Int) < m.saved.length := by omega
        have hj0 : (0 : Int) ≤ j := by omega
        obtain ⟨x, hx⟩ : ∃ x, m.saved[j]? = some x := ⟨_, List.getElem?_eq_getElem hlt⟩
        obtain ⟨g, p, rfl, hg, h0⟩ := (HW.out.below HB.out) j x hx
        obtain ⟨hx0, hx1⟩ := HV.out x (List.mem_of_getElem? hx)
        have HT : Hid (m.saved.take (j + 1) = m.saved.take j ++ [x]) := by
          show _ = _
          rw [List.take_add_one, hx]
          rfl
        have hlen : (m.saved.take j).length ≤ 64 := by simp; omega
        have hszr := HB.out.size
        have hfc := factC_len (m.saved.take j)
        clear hx
        generalize m.saved.take j = o at *
        go_wp2_with (at_builtin; go_must (refine wpList_append_lies _ rfl _ _ _ rfl w.heap.size 58 i0 _ 3 24 Tryz.underlying35 hi0 hz0 hz1 hz2 rfl (by omega) (.slice a o.length c) o.length (o.flatMap factC) rfl (World.ownsRow.alloc HO.out _) ⟨wr.heap.size, 0, none⟩ 1 1 (factC x) rfl rfl (World.news_of_block (heap_alloc_new wr _)) (by simp [factC, Value.oneCell']) (by omega) (by simp only [maxLen]; omega) (by omega) (by simp; omega) (wr.heap.size + 1) (by simp) ?_; intro gg cap5 w5 hown5 hgrow hat hlt5))
        have HO5 := Lib.hid (OwnF.more hown5)
        have HB5 : Hid (Below w.heap.size w w5) := (HB.out.alloc (by omega) _).grown hgrow (by simp; omega) (fun k hk => (HO.out.lt k hk).1)
        clear hown5 hgrow hat hlt5 HO HB
        go_wp2
        go_roundw
        case rel => exact ⟨j + 1, some ⟨gg, 0, none⟩, cap5, by rw [HT.out]; simp, by go_num, by omega, by rw [HT.out]; exact HO5.out, HB5.out⟩
        case measure => simp [intOf]; omega
      · have e : m.saved.take j = m.saved := List.take_of_length_le (by omega)
        rw [e] at HO
        go_wp2
        go_ret
        rw [HE.out, e]
        exact ⟨a, c, rfl, HO.out, HB.out⟩
end Go.Proofs.YtkfplffcegbdfaaGreatDoor
