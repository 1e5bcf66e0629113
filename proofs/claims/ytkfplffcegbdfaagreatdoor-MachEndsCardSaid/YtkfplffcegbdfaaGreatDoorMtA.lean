/-
  The document's words about machines: what is saved, lost, kept, enough. No condition beyond those that each theorem states.
-/
import Derived.Test.YtkfplffcegbdfaaGreatDoorMrA
import Derived.Test.YtkfplffcegbdfaaGreatDoorMaK
import Derived.Deep.RegionLaw
namespace Go.Proofs.YtkfplffcegbdfaaGreatDoor
open Go.RowKit

set_option maxHeartbeats 2000000 in
set_option maxRecDepth 100000 in
theorem risSaved_any (m : Mm) (aa sa : Option Addr) (ac sc : Nat) (r : Int) (w : World) (hs : m.saved.length ≤ 140737488355328) (hM : MaW w m aa sa) :
    Calls Tryz.prog 13 #[machV m aa ac sa sc, .int .i64 r] w fun e w' => e = .returned (.bool (m.saved.contains r)) ∧ Below w.heap.size w w' := by
  have HB0 : Hid (Below w.heap.size w (w.alloc (.cells (maxC m aa ac sa sc) 24))) := (Below.refl _ w).alloc (Nat.le_refl _) _
  have HX0 : Hid (Blk (w.alloc (.cells (maxC m aa ac sa sc) 24)) w.heap.size 24 (maxC m aa ac sa sc)) := Blk.new w _ _
  have HC := Lib.hid (rhas_any m.saved r sa sc (w.alloc (.cells (maxC m aa ac sa sc) 24)) hs (hM.saved.below HB0.out))
  obtain ⟨c0, c1, c2, c3⟩ := boxMa (m := m) (aa := aa) (sa := sa) (ac := ac) (sc := sc) HX0.out
  have HM : Hid (maxC m aa ac sa sc = _) := maxC.eq_1 m aa ac sa sc
  obtain ⟨cb, hcb⟩ : ∃ cb, m.saved.contains r = cb := ⟨_, rfl⟩
  rw [hcb] at HC ⊢
  unfold machV
  clear hM HX0 hcb
  rw [HM.out] at HB0 HC c0 c1 c2 c3 ⊢
  go_enter Tryz.func13, Tryz.ntmps13
  go_wp2_with fail
  refine HC.out.mono ?_
  rintro e w1 ⟨rfl, rfl⟩
  go_wp2
  go_ret
  exact ⟨rfl, HB0.out⟩
set_option maxHeartbeats 2000000 in
set_option maxRecDepth 100000 in
theorem renough_any (m : Mm) (aa sa : Option Addr) (ac sc : Nat) (o a : Int) (w : World) (hl : m.args.length ≤ 140737488355328) (hs : m.saved.length ≤ 140737488355328) (hc : m.args.length ≤ ac) (hM : MaW w m aa sa) :
    Calls Tryz.prog 20 #[machV m aa ac sa sc, .int .i64 o, .int .i64 a] w fun e w' => e = .returned (.bool (m.enoughB o a)) ∧ Below w.heap.size w w' := by
  have HB0 : Hid (Below w.heap.size w (w.alloc (.cells (maxC m aa ac sa sc) 24))) := (Below.refl _ w).alloc (Nat.le_refl _) _
  have HX0 : Hid (Blk (w.alloc (.cells (maxC m aa ac sa sc) 24)) w.heap.size 24 (maxC m aa ac sa sc)) := Blk.new w _ _
  have HR := Lib.hid (rright_any m aa sa ac sc (w.alloc (.cells (maxC m aa ac sa sc) 24)) hl hs hc (hM.below HB0.out))
  obtain ⟨c0, c1, c2, c3⟩ := boxMa (m := m) (aa := aa) (sa := sa) (ac := ac) (sc := sc) HX0.out
  have HE : Hid (m.enoughB o a = (m.rightB && decide (o < m.regs) && decide (a ≤ m.args.length))) := rfl
  have HM : Hid (maxC m aa ac sa sc = _) := maxC.eq_1 m aa ac sa sc
  unfold machV at HR ⊢
  clear hM
  generalize m.enoughB o a = res at *
  rw [HM.out] at HB0 HX0 HR c0 c1 c2 c3 ⊢
  cases hr : m.rightB
  · rw [hr] at HR HE
    clear hr
    go_enter Tryz.func20, Tryz.ntmps20
    go_wp2_with fail
    refine HR.out.mono ?_
    rintro e w1 ⟨rfl, hb⟩
    have HB1 : Hid (Below w.heap.size w w1) := HB0.out.trans (hb.mono HB0.out.size)
    clear hb
    go_wp2
    go_ret
    exact ⟨by rw [HE.out]; rfl, HB1.out⟩
  · obtain ⟨b1, b2, b3, b4⟩ := regs_bound hr
    have hwr : IntKind.i64.wrap (m.regs - 1) = m.regs - 1 := by rw [IntKind.wrap_i64]; omega
    rw [hr] at HR HE
    clear hr
    go_enter Tryz.func20, Tryz.ntmps20
    go_wp2_with fail
    refine HR.out.mono ?_
    rintro e w1 ⟨rfl, hb⟩
    obtain ⟨d0, d1, d2, d3⟩ := boxMa (m := m) (aa := aa) (sa := sa) (ac := ac) (sc := sc) (HX0.out.below hb HX0.out.lt)
    have HB1 : Hid (Below w.heap.size w w1) := HB0.out.trans (hb.mono HB0.out.size)
    clear hb HR HX0 HB0 c0 c1 c2 c3
    by_cases h1 : o ≤ m.regs - 1
    · have h1' : o < m.regs := by omega
      by_cases h2 : a ≤ m.args.length
      · have e1 : res = true := by rw [HE.out, decide_eq_true h1', decide_eq_true h2]; rfl
        go_wp2
        go_ret
        exact ⟨by first | (rw [e1]; rfl) | rfl, HB1.out⟩
      · have e1 : res = false := by rw [HE.out, decide_eq_true h1', decide_eq_false h2]; rfl
        have e2 : Hid (decide (a ≤ (m.args.length : Int)) = false) := decide_eq_false h2
        go_wp2
        go_ret
        exact ⟨by rw [e1, ← e2.out]; rfl, HB1.out⟩
    · have h1' : ¬ o < m.regs := by omega
      have e1 : res = false := by rw [HE.out, decide_eq_false h1']; rfl
      go_wp2
      go_ret
      exact ⟨by first | (rw [e1]; rfl) | rfl, HB1.out⟩
set_option maxHeartbeats 4000000 in
set_option maxRecDepth 100000 in
theorem rlost_any (m : Mm) (aa sa : Option Addr) (ac sc : Nat) (w : World) (hl : m.args.length ≤ 140737488355328) (hs : m.saved.length ≤ 140737488355328) (hc : m.args.length ≤ ac) (hM : MaW w m aa sa) :
    Calls Tryz.prog 15 #[machV m aa ac sa sc] w fun e w' => ∃ a c, e = .returned (.slice a m.lostL.length c) ∧ OwnM w' w.heap.size (.slice a m.lostL.length c) m.lostL ∧ Below w.heap.size w w' := by
  obtain ⟨i0, hi0, hz0, hz1, hz2⟩ := info_parts intM_info
  have HB0 : Hid (Below w.heap.size w (w.alloc (.cells (maxC m aa ac sa sc) 24))) := (Below.refl _ w).alloc (Nat.le_refl _) _
  have HX0 : Hid (Blk (w.alloc (.cells (maxC m aa ac sa sc) 24)) w.heap.size 24 (maxC m aa ac sa sc)) := Blk.new w _ _
  have HW := Lib.hid hM
  have HR : Hid (∀ W, Below w.heap.size w W → Calls Tryz.prog 11 #[machV m aa ac sa sc] W fun e w' => e = .returned (.bool m.rightB) ∧ Below W.heap.size W w') := fun W h => rright_any m aa sa ac sc W hl hs hc (HW.out.below h)
  have HS : Hid (∀ W r, Below w.heap.size w W → Calls Tryz.prog 34 #[.slice sa m.saved.length sc, .int .i64 r] W fun e w' => e = .returned (.bool (m.saved.contains r)) ∧ W = w') := fun W r h => rhas_any m.saved r sa sc W hs (HW.out.below h).saved
  have HM : Hid (maxC m aa ac sa sc = _) := maxC.eq_1 m aa ac sa sc
  unfold machV at HR ⊢
  clear hM
  rw [HM.out] at HB0 HX0 HR ⊢
  obtain ⟨c0, c1, c2, c3⟩ := boxMa (m := m) (aa := aa) (sa := sa) (ac := ac) (sc := sc) HX0.out
  cases hr : m.rightB
  · have HE : Hid (m.lostL = []) := by show _ = _; unfold Mm.lostL; rw [hr]; rfl
    rw [hr] at HR
    clear hr
    go_enter Tryz.func15, Tryz.ntmps15
    go_wp2
    go_loopw [3, 4] (fun v k wr => v = .slice none 0 0 ∧ k = .int .i64 0 ∧ Blk wr w.heap.size 24 (maxC m aa ac sa sc) ∧ Below w.heap.size w wr) (fun _ k _ => 0 - (intOf k).toNat)
    case atStart => exact ⟨rfl, rfl, HX0.out, HB0.out⟩
    case round =>
      obtain ⟨rfl, rfl, hX, hB⟩ := hrel
      have HX := Lib.hid hX
      have HB := Lib.hid hB
      clear hX hB HX0 HB0 c0 c1 c2 c3
      obtain ⟨d0, d1, d2, d3⟩ := boxMa HX.out
      go_wp2_with fail
      refine (HR.out wr HB.out).mono ?_
      rintro e w1 ⟨rfl, hb⟩
      have HB1 : Hid (Below w.heap.size w w1) := HB.out.trans (hb.mono HB.out.size)
      clear hb
      go_wp2
      go_ret
      rw [HE.out]
      exact ⟨none, 0, rfl, World.ownsRow_nil _ _ _ _, HB1.out⟩
  · have HE := Lib.hid (lost_all m hr)
    obtain ⟨b1, b2, b3, b4⟩ := regs_bound hr
    rw [hr] at HR
    clear hr
    go_enter Tryz.func15, Tryz.ntmps15
    go_wp2
    go_loopw [3, 4] (fun v k wr => ∃ (j : Nat) (a : Option Addr) (c : Nat), v = .slice a (m.lostGo j).length c ∧ k = .int .i64 j ∧ (j : Int) ≤ m.regs ∧ OwnM wr w.heap.size v (m.lostGo j) ∧ Blk wr w.heap.size 24 (maxC m aa ac sa sc) ∧ Below w.heap.size w wr) (fun _ k _ => m.regs.toNat - (intOf k).toNat)
    case atStart => exact ⟨0, none, 0, rfl, rfl, by omega, World.ownsRow_nil _ _ _ _, HX0.out, HB0.out⟩
    case round =>
      obtain ⟨j, a, c, rfl, rfl, hj, hO, hX, hB⟩ := hrel
      have HO := Lib.hid hO
      have HX := Lib.hid hX
      have HB := Lib.hid hB
      clear hO hX hB HX0 HB0 c0 c1 c2 c3
      obtain ⟨d0, d1, d2, d3⟩ := boxMa HX.out
      go_wp2_with fail
      refine (HR.out wr HB.out).mono ?_
      rintro e w4 ⟨rfl, hb⟩
      have HB4 : Hid (Below w.heap.size w w4) := HB.out.trans (hb.mono HB.out.size)
      have HX4 : Hid (Blk w4 w.heap.size 24 (maxC m aa ac sa sc)) := HX.out.below hb HX.out.lt
      have HO4 : Hid (OwnM w4 w.heap.size (.slice a (m.lostGo j).length c) (m.lostGo j)) := own_keep HO.out ⟨hb.size, fun k _ hk => hb.block k hk⟩
      have hs4 := HB4.out.size
      clear hb HB HX HO d0 d1 d2 d3
      obtain ⟨d0, d1, d2, d3⟩ := boxMa HX4.out
      by_cases hlt : (j : Int) < m.regs
      · have hj0 : (0 : Int) ≤ j := by omega
        have hlen := lost_len m j
        have HD := Lib.hid (lost_step m j)
        have HH := Lib.hid (HS.out w4 j HB4.out)
        cases hc2 : m.saved.contains (j : Int)
        · rw [hc2] at HD HH
          clear hc2
          go_wp2_with (first | (go_at_call 34; refine HH.out.mono ?_; rintro e w5 ⟨rfl, rfl⟩) | (at_builtin; go_must (refine wpList_append_lies _ rfl _ _ _ rfl w.heap.size 3 i0 _ 1 8 Tryz.underlying22 hi0 hz0 hz1 hz2 rfl (by omega) (.slice a (m.lostGo j).length c) (m.lostGo j).length ((m.lostGo j).map (Value.int .i64)) rfl (World.ownsRow.alloc HO4.out _) ⟨w4.heap.size, 0, none⟩ 1 1 [.int .i64 j] rfl rfl (World.news_of_block (heap_alloc_new w4 _)) (by simp [Value.oneCell']) (by omega) (by simp only [maxLen]; omega) (by omega) (by simp; omega) (w4.heap.size + 1) (by simp) ?_; intro gg cap5 w5 hown5 hgrow hat hlt5)))
          have HO5 := Lib.hid (OwnM.more hown5)
          have HX5 : Hid (Blk w5 w.heap.size 24 (maxC m aa ac sa sc)) := Blk.grown (Blk.alloc HX4.out (.cells #[.int .i64 j] 3)) hgrow (own_far (World.ownsRow.alloc HO4.out (.cells #[.int .i64 j] 3)) (Blk.alloc HX4.out _) (by decide))
          have HB5 : Hid (Below w.heap.size w w5) := (HB4.out.alloc (by omega) _).grown hgrow (by simp; omega) (fun k hk => (HO4.out.lt k hk).1)
          have e : m.lostGo (j + 1) = m.lostGo j ++ [(j : Int)] := by have := HD.out; simpa using this
          clear hown5 hgrow hat hlt5 HO4 HB4 HX4
          go_wp2
          go_roundw
          case rel => exact ⟨j + 1, some ⟨gg, 0, none⟩, cap5, by rw [e]; simp, by go_num, by omega, by rw [e]; exact HO5.out, HX5.out, HB5.out⟩
          case measure => simp [intOf]; omega
        · rw [hc2] at HD HH
          clear hc2
          have e : m.lostGo (j + 1) = m.lostGo j := by have := HD.out; simpa using this
          go_wp2_with fail
          refine HH.out.mono ?_
          rintro e5 w5 ⟨rfl, rfl⟩
          go_wp2
          go_roundw
          case rel => exact ⟨j + 1, a, c, by rw [e], by go_num, by omega, by rw [e]; exact HO4.out, HX4.out, HB4.out⟩
          case measure => simp [intOf]; omega
      · have e : m.regs.toNat = j := by omega
        go_wp2
        go_ret
        rw [HE.out, e]
        exact ⟨a, c, rfl, HO4.out, HB4.out⟩
set_option maxHeartbeats 4000000 in
set_option maxRecDepth 100000 in
theorem rkeeps_any (m : Mm) (aa sa : Option Addr) (ac sc : Nat) (w : World) (hl : m.args.length ≤ 140737488355328) (hs : m.saved.length ≤ 140737488355328) (hc : m.args.length ≤ ac) (hM : MaW w m aa sa) :
    Calls Tryz.prog 18 #[machV m aa ac sa sc] w fun e w' => ∃ a c, e = .returned (.slice a m.keepsL.length c) ∧ OwnF w' w.heap.size (.slice a m.keepsL.length c) m.keepsL ∧ Below w.heap.size w w' := by
  obtain ⟨i0, hi0, hz0, hz1, hz2⟩ := info_parts factM_info
  have HB0 : Hid (Below w.heap.size w (w.alloc (.cells (maxC m aa ac sa sc) 24))) := (Below.refl _ w).alloc (Nat.le_refl _) _
  have HX0 : Hid (Blk (w.alloc (.cells (maxC m aa ac sa sc) 24)) w.heap.size 24 (maxC m aa ac sa sc)) := Blk.new w _ _
  have HW := Lib.hid hM
  have HR : Hid (∀ W, Below w.heap.size w W → Calls Tryz.prog 11 #[machV m aa ac sa sc] W fun e w' => e = .returned (.bool m.rightB) ∧ Below W.heap.size W w') := fun W h => rright_any m aa sa ac sc W hl hs hc (HW.out.below h)
  have HM : Hid (maxC m aa ac sa sc = _) := maxC.eq_1 m aa ac sa sc
  unfold machV at HR ⊢
  clear hM
  rw [HM.out] at HB0 HX0 HR ⊢
  obtain ⟨c0, c1, c2, c3⟩ := boxMa (m := m) (aa := aa) (sa := sa) (ac := ac) (sc := sc) HX0.out
  cases hr : m.rightB
  · have HE := Lib.hid (keeps_wrong hr)
    rw [hr] at HR
    clear hr
    go_enter Tryz.func18, Tryz.ntmps18
    go_wp2
    go_loopw [3, 4] (fun v k wr => v = .slice none 0 0 ∧ k = .int .i64 0 ∧ Blk wr w.heap.size 24 (maxC m aa ac sa sc) ∧ Below w.heap.size w wr) (fun _ k _ => 0 - (intOf k).toNat)
    case atStart => exact ⟨rfl, rfl, HX0.out, HB0.out⟩
    case round =>
      obtain ⟨rfl, rfl, hX, hB⟩ := hrel
      have HX := Lib.hid hX
      have HB := Lib.hid hB
      clear hX hB HX0 HB0 c0 c1 c2 c3
      obtain ⟨d0, d1, d2, d3⟩ := boxMa HX.out
      go_wp2_with fail
      refine (HR.out wr HB.out).mono ?_
      rintro e w1 ⟨rfl, hb⟩
      have HB1 : Hid (Below w.heap.size w w1) := HB.out.trans (hb.mono HB.out.size)
      clear hb
      go_wp2
      go_ret
      rw [HE.out]
      exact ⟨none, 0, rfl, World.ownsRow_nil _ _ _ _, HB1.out⟩
  · have HE := Lib.hid (keeps_right hr)
    obtain ⟨b1, b2, b3, b4⟩ := regs_bound hr
    have HV := Lib.hid (regs_small ((right_iff m).1 hr).small ((right_iff m).1 hr).saved)
    rw [hr] at HR
    clear hr
    go_enter Tryz.func18, Tryz.ntmps18
    go_wp2
    go_loopw [3, 4] (fun v k wr => ∃ (j : Nat) (a : Option Addr) (c : Nat), v = .slice a (m.saved.take j).length c ∧ k = .int .i64 j ∧ j ≤ m.saved.length ∧ OwnF wr w.heap.size v (m.saved.take j) ∧ Blk wr w.heap.size 24 (maxC m aa ac sa sc) ∧ Below w.heap.size w wr) (fun _ k _ => m.saved.length - (intOf k).toNat)
    case atStart => exact ⟨0, none, 0, rfl, rfl, Nat.zero_le _, World.ownsRow_nil _ _ _ _, HX0.out, HB0.out⟩
    case round =>
      obtain ⟨j, a, c, rfl, rfl, hj, hO, hX, hB⟩ := hrel
      have HO := Lib.hid hO
      have HX := Lib.hid hX
      have HB := Lib.hid hB
      clear hO hX hB HX0 HB0 c0 c1 c2 c3
      obtain ⟨d0, d1, d2, d3⟩ := boxMa HX.out
      go_wp2_with fail
      refine (HR.out wr HB.out).mono ?_
      rintro e w4 ⟨rfl, hb⟩
      have HB4 : Hid (Below w.heap.size w w4) := HB.out.trans (hb.mono HB.out.size)
      have HX4 : Hid (Blk w4 w.heap.size 24 (maxC m aa ac sa sc)) := HX.out.below hb HX.out.lt
      have HO4 : Hid (OwnF w4 w.heap.size (.slice a (m.saved.take j).length c) (m.saved.take j)) := own_keep HO.out ⟨hb.size, fun k _ hk => hb.block k hk⟩
      have hs4 := HB4.out.size
      clear hb HB HX HO d0 d1 d2 d3
      obtain ⟨d0, d1, d2, d3⟩ := boxMa HX4.out
      by_cases hlt : j < m.saved.length
      · have hlt' : (j : Int) < m.saved.length := by omega
        have hj0 : (0 : Int) ≤ j := by omega
        obtain ⟨x, hx⟩ : ∃ x, m.saved[j]? = some x := ⟨_, List.getElem?_eq_getElem hlt⟩
        obtain ⟨g, p, rfl, hg, h0⟩ := (HW.out.below HB4.out).saved j x hx
        obtain ⟨hx0, hx1⟩ := HV.out x (List.mem_of_getElem? hx)
        have HT : Hid (m.saved.take (j + 1) = m.saved.take j ++ [x]) := by
          show _ = _
          rw [List.take_add_one, hx]
          rfl
        have hlen : (m.saved.take j).length ≤ 64 := by simp; omega
        have hfc := factC_len (m.saved.take j)
        have hwr : IntKind.i64.wrap (-1 - x) = -1 - x := by rw [IntKind.wrap_i64]; omega
        clear hx
        generalize m.saved.take j = o at *
        have ho' : w4.ownsRow w.heap.size 58 3 (.slice a o.length c) o.length (o.flatMap factC) := HO4.out
        go_wp2_with fail
        go_region_law
          ((refine step_append_lies _ (by rfl) _ _ _ (by rfl) w.heap.size 58 i0 _ 3 24 Tryz.underlying35 hi0 hz0 hz1 hz2 rfl (by omega) _ o.length (o.flatMap factC) (by rfl) ((ho'.alloc _).drew)
              ⟨w4.heap.size, 0, none⟩ 1 1 (factC x) (by rfl) (by rfl) (World.news_of_block (cs := (factC x).toArray) (t := 58) (fr := (0, 0)) (heap_alloc_new w4 _)) (by simp [factC, Value.oneCell'])
              (by omega) (by simp only [maxLen]; omega) (by omega) (by simp; omega) (w4.heap.size + 1) (by simp) ?_; intro gg cap5 w5 hown5 hgrow hat hlt5))
        all_goals
          have HO5 := Lib.hid (OwnF.more hown5)
          have HX5 : Hid (Blk w5 w.heap.size 24 (maxC m aa ac _ sc)) := Blk.grown (Blk.drew (Blk.alloc HX4.out _)) hgrow (own_far ho' HX4.out (by decide))
          have HB5 : Hid (Below w.heap.size w w5) := (HB4.out.alloc (by omega) _).drew.grown hgrow (by simp; omega) (fun k hk => (ho'.lt k hk).1)
          clear hown5 hgrow hat hlt5 HO4 HB4 HX4 ho'
          go_wp2
          go_roundw
          case rel => exact ⟨j + 1, some ⟨gg, 0, none⟩, cap5, by rw [HT.out]; simp, by go_num, by omega, by rw [HT.out]; exact HO5.out, HX5.out, HB5.out⟩
          case measure => simp [intOf]; omega
      · have e : m.saved.take j = m.saved := List.take_of_length_le (by omega)
        rw [e] at HO4
        go_wp2
        go_ret
        rw [HE.out]
        exact ⟨a, c, rfl, HO4.out, HB4.out⟩
end Go.Proofs.YtkfplffcegbdfaaGreatDoor
