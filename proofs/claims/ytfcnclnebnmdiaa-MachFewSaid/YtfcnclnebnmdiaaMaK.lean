/-
  Package mach's calls: what is kept, whether a register is saved. No condition beyond those that each theorem states.
-/
import Derived.Test.YtfcnclnebnmdiaaMaE
namespace Go.Proofs.Ytfcnclnebnmdiaa
open Go.RowKit

theorem factM_info : (Try.prog.info? 59).map (fun i => (i.zero, i.size, i.bytes)) = some (some (.agg #[.int .i64 0, .bool false, .int .i64 0]), 3, 24) := by kernel_rfl
def factC (r : Int) : List Value := [.int .i64 (-1 - r), .bool false, .int .i64 r]
/-- Facts that a call made, of saved registers. -/
def OwnF (w : World) (B : Nat) (v : Value) (l : List Int) : Prop := w.ownsRow B 59 3 v l.length (l.flatMap factC)
theorem factC_len (l : List Int) : (l.flatMap factC).length = l.length * 3 := by
  induction l with
  | nil => rfl
  | cons x l ih => simp only [List.flatMap_cons, List.length_append, ih, factC, List.length_cons, List.length_nil]; omega
theorem OwnF.more {w2 : World} {B gg cap : Nat} {l : List Int} {x : Int} (h : w2.ownsRow B 59 3 (.slice (some ⟨gg, 0, none⟩) (l.length + 1) cap) (l.length + 1) (l.flatMap factC ++ factC x)) :
    OwnF w2 B (.slice (some ⟨gg, 0, none⟩) (l.length + 1) cap) (l ++ [x]) := by
  unfold OwnF
  rw [List.length_append, List.flatMap_append]
  simpa using h
theorem keeps_right {m : Mm} (h : m.rightB = true) : m.keepsL = m.saved := by unfold Mm.keepsL; rw [if_pos h]
theorem keeps_wrong {m : Mm} (h : m.rightB = false) : m.keepsL = [] := by unfold Mm.keepsL; rw [h]; rfl
set_option maxHeartbeats 4000000 in
set_option maxRecDepth 100000 in
theorem keeps_any (m : Mm) (aa sa : Option Addr) (ac sc : Nat) (w : World) (hl : m.args.length ≤ 140737488355328) (hs : m.saved.length ≤ 140737488355328) (hM : MaW w m aa sa) :
    Calls Try.prog 14 #[machV m aa ac sa sc] w fun e w' => ∃ a c, e = .returned (.slice a m.keepsL.length c) ∧ OwnF w' w.heap.size (.slice a m.keepsL.length c) m.keepsL ∧ Below w.heap.size w w' := by
  obtain ⟨i0, hi0, hz0, hz1, hz2⟩ := info_parts factM_info
  have HB0 : Hid (Below w.heap.size w (w.alloc (.cells (maxC m aa ac sa sc) 25))) := (Below.refl _ w).alloc (Nat.le_refl _) _
  have HX0 : Hid (Blk (w.alloc (.cells (maxC m aa ac sa sc) 25)) w.heap.size 25 (maxC m aa ac sa sc)) := Blk.new w _ _
  have HR := Lib.hid (rightM_any m aa sa ac sc (w.alloc (.cells (maxC m aa ac sa sc) 25)) hl hs (hM.below HB0.out))
  have HW := Lib.hid hM.saved
  have HM : Hid (maxC m aa ac sa sc = _) := maxC.eq_1 m aa ac sa sc
  unfold machV at HR ⊢
  clear hM
  rw [HM.out] at HB0 HX0 HR ⊢
  cases hr : m.rightB
  · have HE := Lib.hid (keeps_wrong hr)
    rw [hr] at HR
    clear hr
    go_enter Try.func14, Try.ntmps14
    go_wp2_with fail
    refine HR.out.mono ?_
    rintro e w1 ⟨rfl, hb⟩
    have HB1 : Hid (Below w.heap.size w w1) := HB0.out.trans (hb.mono HB0.out.size)
    clear hb
    go_wp2
    go_ret
    rw [HE.out]
    exact ⟨none, 0, rfl, World.ownsRow_nil _ _ _ _, HB1.out⟩
  · have HE := Lib.hid (keeps_right hr)
    obtain ⟨b1, b2, b3, b4⟩ := regs_bound hr
    have HV := Lib.hid (regs_small ((right_iff m).1 hr).small ((right_iff m).1 hr).saved)
    rw [hr] at HR
    clear hr
    go_enter Try.func14, Try.ntmps14
    go_wp2_with fail
    refine HR.out.mono ?_
    rintro e w1 ⟨rfl, hb⟩
    obtain ⟨c0, c1, c2, c3⟩ := boxMa (m := m) (aa := aa) (sa := sa) (ac := ac) (sc := sc) (HX0.out.below hb HX0.out.lt)
    have HB1 : Hid (Below w.heap.size w w1) := HB0.out.trans (hb.mono HB0.out.size)
    clear hb HR HX0 HB0
    go_wp2
    go_loopw [2, 11] (fun v k wr => ∃ (j : Nat) (a : Option Addr) (c : Nat), v = .slice a (m.saved.take j).length c ∧ k = .int .i64 j ∧ j ≤ m.saved.length ∧ OwnF wr w.heap.size v (m.saved.take j) ∧ Below w.heap.size w wr) (fun _ k _ => m.saved.length - (intOf k).toNat)
    case atStart => exact ⟨0, none, 0, rfl, rfl, Nat.zero_le _, World.ownsRow_nil _ _ _ _, HB1.out⟩
    case round =>
      obtain ⟨j, a, c, rfl, rfl, hj, hO, hB⟩ := hrel
      have HO := Lib.hid hO
      have HB := Lib.hid hB
      clear hO hB HB1 c0 c1 c2 c3
      by_cases hlt : j < m.saved.length
      · have hlt' : (j : Int) < m.saved.length := by omega
        have hj0 : (0 : Int) ≤ j := by omega
        obtain ⟨x, hx⟩ : ∃ x, m.saved[j]? = some x := ⟨_, List.getElem?_eq_getElem hlt⟩
        obtain ⟨g, p, rfl, hg, h0⟩ := (HW.out.below HB.out) j x hx
        obtain ⟨hx0, hx1⟩ := HV.out x (List.mem_of_getElem? hx)
        have HT : Hid (m.saved.take (j + 1) = m.saved.take j ++ [x]) := by
          show _ = _
          rw [List.take_add_one, hx]
          rfl
        have hlen : (m.saved.take j).length ≤ 64 := by simp; omega
        have hszr := HB.out.size
        have hfc := factC_len (m.saved.take j)
        clear hx
        generalize m.saved.take j = o at *
        go_wp2_with (at_builtin; go_must (refine wpList_append_lies _ rfl _ _ _ rfl w.heap.size 59 i0 _ 3 24 Try.underlying36 hi0 hz0 hz1 hz2 rfl (by omega) (.slice a o.length c) o.length (o.flatMap factC) rfl (World.ownsRow.alloc HO.out _) ⟨wr.heap.size, 0, none⟩ 1 1 (factC x) rfl rfl (World.news_of_block (heap_alloc_new wr _)) (by simp [factC, Value.oneCell']) (by omega) (by simp only [maxLen]; omega) (by omega) (by simp; omega) (wr.heap.size + 1) (by simp) ?_; intro gg cap5 w5 hown5 hgrow hat hlt5))
        have HO5 := Lib.hid (OwnF.more hown5)
        have HB5 : Hid (Below w.heap.size w w5) := (HB.out.alloc (by omega) _).grown hgrow (by simp; omega) (fun k hk => (HO.out.lt k hk).1)
        clear hown5 hgrow hat hlt5 HO HB
        go_wp2
        go_roundw
        case rel => exact ⟨j + 1, some ⟨gg, 0, none⟩, cap5, by rw [HT.out]; simp, by go_num, by omega, by rw [HT.out]; exact HO5.out, HB5.out⟩
        case measure => simp [intOf]; omega
      · have e : m.saved.take j = m.saved := List.take_of_length_le (by omega)
        rw [e] at HO
        go_wp2
        go_ret
        rw [HE.out, e]
        exact ⟨a, c, rfl, HO.out, HB.out⟩
end Go.Proofs.Ytfcnclnebnmdiaa
