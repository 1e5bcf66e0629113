/-
  What is given of numbers is told as the plain function says. No condition beyond those that each theorem states.
-/
import Derived.Test.YtgpbpbhidemciaaGreatIrA
import Derived.Test.YtgpbpbhidemciaaGreatKOwn
import Derived.OwnWalk
import Derived.Deep.DeepMust
import Derived.Deep.RegionLaw
namespace Go.Proofs.YtgpbpbhidemciaaGreat
open Go.RowKit

set_option maxHeartbeats 1000000 in
set_option maxRecDepth 100000 in
theorem given_any (l : List Int) (a : Option Addr) (c : Nat) (w : World) (hl : l.length ≤ 1000000) (hI : IntsW w a l) :
    Calls Tryz.prog 37 #[.slice a l.length c] w fun e w' => ∃ v, e = .returned v ∧ OwnI w' w.heap.size v (givenL l) ∧ Below w.heap.size w w' := by
  obtain ⟨i0, hi0, hz0, hz1, hz2⟩ := info_parts int_info
  have HI := Lib.hid hI
  clear hI
  go_enter Tryz.func37, Tryz.ntmps37
  go_wp2
  go_loopw [2, 7] (fun v k wr => ∃ (j : Nat) (o : List Int) (oa : Option Addr) (oc : Nat), v = .slice oa o.length oc ∧ k = .int .i64 j ∧ j ≤ l.length ∧ o.length ≤ j ∧ Hid (givenL l = o ++ givenL (l.drop j)) ∧ OwnI wr w.heap.size v o ∧ Below w.heap.size w wr) (fun _ k _ => l.length - (intOf k).toNat)
  case atStart => exact ⟨0, [], none, 0, rfl, rfl, Nat.zero_le _, Nat.le_refl _, rfl, World.ownsRow_nil _ _ _ _, Below.refl _ _⟩
  case round =>
    obtain ⟨j, o, oa, oc, rfl, rfl, hj, ho, HA, hO, hB⟩ := hrel
    have HO := Lib.hid hO
    have HB := Lib.hid hB
    clear hO hB
    by_cases hlt : j < l.length
    · have hlt' : (j : Int) < l.length := by omega
      have hj0 : (0 : Int) ≤ j := by omega
      obtain ⟨x, hx⟩ : ∃ x, l[j]? = some x := ⟨_, List.getElem?_eq_getElem hlt⟩
      obtain ⟨g, p, rfl, hg, h0⟩ := (HI.out.below HB.out) j x hx
      have HD : Hid (givenL l = o ++ ((if x != 0 then [x] else []) ++ givenL (l.drop (j + 1)))) := by
        show _ = _
        rw [HA.out, List.drop_eq_getElem_cons hlt, (List.getElem?_eq_some_iff.1 hx).2]
        unfold givenL
        rw [List.filter_cons]
        split <;> simp
      clear hx HA
      cases hn : x != 0
      · rw [hn] at HD
        go_wp2
        go_roundw
        case rel => exact ⟨j + 1, o, oa, oc, rfl, by go_num, by omega, by omega, by have := HD.out; simpa [Hid] using this, HO.out, HB.out⟩
        case measure => simp [intOf]; omega
      · rw [hn] at HD
        go_wp2_with (at_builtin; go_must (refine wpList_append_lies _ rfl _ _ _ rfl w.heap.size 3 i0 _ 1 8 Tryz.underlying22 hi0 hz0 hz1 hz2 rfl (by omega) (.slice oa o.length oc) o.length (o.map (Value.int .i64)) rfl (World.ownsRow.alloc HO.out _) ⟨wr.heap.size, 0, none⟩ 1 1 [.int .i64 x] rfl rfl (World.news_of_block (heap_alloc_new wr _)) (by simp [Value.oneCell']) (by omega) (by simp only [maxLen]; omega) (by omega) (by have := HB.out.size; simp; omega) (wr.heap.size + 1) (by simp) ?_; intro gg cap w2 hown2 hgrow hat hlt2))
        have HO2 := Lib.hid (OwnI.more hown2)
        have HB2 : Hid (Below w.heap.size w w2) := (HB.out.alloc (by have := HB.out.size; omega) _).grown hgrow (by have := HB.out.size; simp; omega) (fun k hk => (HO.out.lt k hk).1)
        clear hown2 hgrow hat hlt2
        go_wp2
        go_roundw
        case rel => exact ⟨j + 1, o ++ [x], some ⟨gg, 0, none⟩, cap, by simp, by go_num, by omega, by simp; omega, by have := HD.out; simpa [Hid] using this, HO2.out, HB2.out⟩
        case measure => simp [intOf]; omega
    · have e : j = l.length := by omega
      subst e
      go_wp2
      go_ret
      refine ⟨_, rfl, ?_, HB.out⟩
      have := HA.out
      simp [givenL] at this
      unfold givenL
      rw [this]
      exact HO.out
end Go.Proofs.YtgpbpbhidemciaaGreat
