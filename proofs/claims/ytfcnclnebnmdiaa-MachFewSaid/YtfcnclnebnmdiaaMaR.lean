/-
  Whether registers are unlike, whether a machine is right. No condition beyond those that each theorem states.
-/
import Derived.Test.YtfcnclnebnmdiaaMaW
namespace Go.Proofs.Ytfcnclnebnmdiaa
open Go.RowKit

theorem inB_one (S : List Int) (x : Int) : inB S [x] = S.contains x := by simp [inB]
set_option maxHeartbeats 2000000 in
set_option maxRecDepth 100000 in
theorem unlike_any (l : List Int) (a : Option Addr) (c : Nat) (w : World) (hl : l.length ≤ 1000000) (hv : ∀ r ∈ l, 0 ≤ r ∧ r < 64) (hI : IntsW w a l) :
    Calls Try.prog 26 #[.slice a l.length c] w fun e w' => e = .returned (.bool (unlikeB [] l)) ∧ Below w.heap.size w w' := by
  have HI := Lib.hid hI
  clear hI
  have hz := ma_zeroV
  go_enter Try.func26, Try.ntmps26
  go_wp2
  go_loopw [8] (fun k wr => ∃ (j : Nat) (S : List Int), k = .int .i64 j ∧ j ≤ l.length ∧ Hid (unlikeB [] l = unlikeB S (l.drop j)) ∧ Blk wr w.heap.size 53 (maC S) ∧ Below w.heap.size w wr) (fun k _ => l.length - (intOf k).toNat)
  case atStart => exact ⟨0, [], rfl, Nat.zero_le _, rfl, Blk.new w _ _, (Below.refl _ w).alloc (Nat.le_refl _) _⟩
  case round =>
    obtain ⟨j, S, rfl, hj, HA, hX, hB⟩ := hrel
    have HX := Lib.hid hX
    have HB := Lib.hid hB
    clear hX hB hz
    by_cases hlt : j < l.length
    · have hlt' : (j : Int) < l.length := by omega
      have hj0 : (0 : Int) ≤ j := by omega
      obtain ⟨x, hx⟩ : ∃ x, l[j]? = some x := ⟨_, List.getElem?_eq_getElem hlt⟩
      obtain ⟨g, p, rfl, hg, h0⟩ := (HI.out.below HB.out) j x hx
      have hv1 : ∀ r ∈ [x], 0 ≤ r ∧ r < 64 := fun r hr => by
        simp at hr
        rw [hr]
        exact hv x (List.mem_of_getElem? hx)
      have HD : Hid (unlikeB [] l = (!(S.contains x) && unlikeB (x :: S) (l.drop (j + 1)))) := by
        show _ = _
        rw [HA.out, List.drop_eq_getElem_cons hlt, (List.getElem?_eq_some_iff.1 hx).2]
        rfl
      clear hx HA
      have one : ∀ W : World, Hid (IntsW (W.alloc (.cells #[.int .i64 x] 3)) (some ⟨W.heap.size, 0, none⟩) [x]) := fun W => IntsW.row (Blk.new W _ _) (fun k y hy => by
        cases k with
        | zero => simpa using hy
        | succ k => simp at hy)
      have HH := Lib.hid (hasR_any S [x] _ 1 (wr.alloc (.cells #[.int .i64 x] 3)) (by simp) hv1 (one wr).out)
      rw [inB_one] at HH
      have HWi := Lib.hid (fun W => withR_any S [x] _ 1 (W.alloc (.cells #[.int .i64 x] 3)) (by simp) hv1 (one W).out)
      unfold maV at HH HWi
      have HB1 : Hid (Below wr.heap.size wr (wr.alloc (.cells #[.int .i64 x] 3))) := (Below.refl _ _).alloc (Nat.le_refl _) _
      go_upto_region 5 with fail
      apply wp_region_lit
      refine wpList_load_row rfl 53 _ rfl w.heap.size rfl 53 (maC S) (0, 0) _ HX.out Try.underlying53 rfl (maC_szS _) ?_
      simp only [Act.put, List.setIfInBounds_toArray, List.set_cons_zero, List.set_cons_succ]
      go_wp2_with fail
      refine HH.out.mono ?_
      rintro e w1 ⟨rfl, hb⟩
      have HB2 : Hid (Below wr.heap.size wr w1) := HB1.out.trans (hb.mono HB1.out.size)
      clear hb HH
      cases hc : S.contains x
      · rw [hc] at HD
        have HX2 : Hid (Blk w1 w.heap.size 53 (maC S)) := HX.out.below HB2.out HX.out.lt
        have HB3 : Hid (Below w.heap.size w w1) := HB.out.trans (HB2.out.mono HB.out.size)
        have HWj := Lib.hid (HWi.out w1)
        have HB4 : Hid (Below w1.heap.size w1 (w1.alloc (.cells #[.int .i64 x] 3))) := (Below.refl _ _).alloc (Nat.le_refl _) _
        clear HX HB HB1 HB2 HWi h0 hg
        go_upto_region 7 with fail
        apply wp_region_lit
        refine wpList_load_row rfl 53 _ rfl w.heap.size rfl 53 (maC S) (0, 0) _ HX2.out Try.underlying53 rfl (maC_szS _) ?_
        simp only [Act.put, List.setIfInBounds_toArray, List.set_cons_zero, List.set_cons_succ]
        go_wp2_with fail
        refine HWj.out.mono ?_
        rintro e w2 ⟨rfl, hb⟩
        have HB5 : Hid (Below w1.heap.size w1 w2) := HB4.out.trans (hb.mono HB4.out.size)
        have HX5 : Hid (Blk w2 w.heap.size 53 (maC S)) := HX2.out.below HB5.out HX2.out.lt
        have HR : Hid (Blk (w2.setRow w.heap.size (maC ([x] ++ S))) w.heap.size 53 (maC ([x] ++ S))) := HX5.out.row _
        have HK : Hid (Below w.heap.size w (w2.setRow w.heap.size (maC ([x] ++ S)))) := below_setRow (HB3.out.trans (HB5.out.mono HB3.out.size)) (Nat.le_refl _) _
        clear hb HWj HB4 HB3 HX2
        rename_i K2 hK2
        dsimp only
        refine hK2 _ _ ?_
        refine wpList_store_row rfl 53 _ _ rfl w.heap.size (maC ([x] ++ S)) rfl rfl 53 _ HX5.out (maC_szS _) (by rw [maC_size, maC_size]) (maC_one _) ?_
        apply wpList_nil
        clear hK2 K2 HX5 HB5
        generalize w2.setRow w.heap.size (maC ([x] ++ S)) = w3 at *
        simp only [Act.put]
        go_wp2
        go_roundw
        case rel => exact ⟨j + 1, [x] ++ S, by go_num, by omega, by have := HD.out; simpa [Hid] using this, HR.out, HK.out⟩
        case measure => simp [intOf]; omega
      · rw [hc] at HD
        go_wp2
        go_ret
        exact ⟨by rw [HD.out]; simp, HB.out.trans (HB2.out.mono HB.out.size)⟩
    · have e : j = l.length := by omega
      subst e
      have HE : Hid (unlikeB [] l = true) := by
        show _ = _
        rw [HA.out]
        simp [unlikeB]
      go_wp2
      go_ret
      exact ⟨by rw [HE.out]; rfl, HB.out⟩
end Go.Proofs.Ytfcnclnebnmdiaa
