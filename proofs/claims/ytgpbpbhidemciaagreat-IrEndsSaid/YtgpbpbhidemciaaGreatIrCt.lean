/-
  How great a function is, counted until a bound is passed; a number brought into a range. No condition beyond those that each theorem states.
-/
import Derived.Test.YtgpbpbhidemciaaGreatIrU
import Derived.Deep.RegionWith
namespace Go.Proofs.YtgpbpbhidemciaaGreat
open Go.RowKit

/-- Nothing in it is longer than may lie in memory. -/
structure BigF (f : Ff) : Prop where
  p : f.params.length ≤ 140737488355328
  b : f.blocks.length ≤ 140737488355328
  i : ∀ x ∈ f.blocks, x.ins.length ≤ 140737488355328 ∧ ∀ i ∈ x.ins, i.args.length ≤ 140737488355328
def FewB (l : List Bb) : Prop := l.length ≤ 700 ∧ ∀ x ∈ l, x.ins.length ≤ 700 ∧ ∀ i ∈ x.ins, i.args.length ≤ 700
set_option maxHeartbeats 2000000 in
set_option maxRecDepth 100000 in
theorem blocksOf_any (l : List Bb) (a : Option Addr) (c : Nat) (w : World) (hl : l.length ≤ 140737488355328) (hs : ∀ x ∈ l, x.ins.length ≤ 140737488355328 ∧ ∀ i ∈ x.ins, i.args.length ≤ 140737488355328) (hI : BlsW w a l) :
    Calls Tryz.prog 49 #[.slice a l.length c, .int .i64 700] w fun e w' => (∃ n : Nat, e = .returned (.int .i64 n) ∧ n ≤ 1000000000000000 ∧ (n ≤ 700 → FewB l)) ∧ w = w' := by
  have HI := Lib.hid hI
  have HS := Lib.hid hs
  clear hI hs
  go_enter Tryz.func49, Tryz.ntmps49
  go_wp2
  go_loopw [5, 6] (fun m k wr => ∃ n j : Nat, m = .int .i64 n ∧ k = .int .i64 j ∧ j ≤ l.length ∧ j ≤ n ∧ n ≤ 1000000000000000 ∧ Hid (n ≤ 700 → ∀ (b : Nat) (x : Bb), b < j → l[b]? = some x → x.ins.length ≤ 700 ∧ ∀ i ∈ x.ins, i.args.length ≤ 700) ∧ w = wr) (fun _ k _ => l.length - (intOf k).toNat)
  case atStart => exact ⟨0, 0, rfl, rfl, Nat.zero_le _, Nat.le_refl _, by omega, fun _ b x h => absurd h (Nat.not_lt_zero _), rfl⟩
  case round =>
    obtain ⟨n, j, rfl, rfl, hj, hn, hnb, HA, rfl⟩ := hrel
    by_cases hlt : j < l.length
    · have hlt' : (j : Int) < l.length := by omega
      have hj0 : (0 : Int) ≤ j := by omega
      by_cases hfew : n ≤ 700
      · have hfew' : (n : Int) ≤ 700 := by omega
        obtain ⟨x, hx⟩ : ∃ x, l[j]? = some x := ⟨_, List.getElem?_eq_getElem hlt⟩
        obtain ⟨g, o, ya, yc, rfl, hg, hc⟩ := HI.out j x hx
        obtain ⟨hx1, hx2⟩ := HS.out x (List.mem_of_getElem? hx)
        have HX2 := Lib.hid hx2
        have HXX := Lib.hid hx
        have HIN := Lib.hid hc.ins
        have c0 := hc.c0
        clear hx hx2 hc
        go_wp2
        go_loopw [5, 7] (fun m k wr => ∃ n2 i : Nat, m = .int .i64 n2 ∧ k = .int .i64 i ∧ i ≤ x.ins.length ∧ j + 1 ≤ n2 ∧ n2 ≤ 1000000000000000 ∧ n ≤ n2 ∧ x.ins.length ≤ n2 ∧ Hid (n2 ≤ 700 → ∀ (b : Nat) (y : Ii), b < i → x.ins[b]? = some y → y.args.length ≤ 700) ∧ w = wr) (fun _ k _ => x.ins.length - (intOf k).toNat)
        case atStart => exact ⟨n + 1 + x.ins.length, 0, by go_num, rfl, Nat.zero_le _, by omega, by omega, by omega, by omega, fun _ b x h => absurd h (Nat.not_lt_zero _), rfl⟩
        case round =>
          obtain ⟨n2, i, rfl, rfl, hi, hn2, hn2b, hn3, hn4, HA2, rfl⟩ := hrel
          by_cases hlt2 : i < x.ins.length
          · have hlt2' : (i : Int) < x.ins.length := by omega
            have hi0 : (0 : Int) ≤ i := by omega
            by_cases hfew2 : n2 ≤ 700
            · have hfew2' : (n2 : Int) ≤ 700 := by omega
              obtain ⟨y, hy⟩ : ∃ y, x.ins[i]? = some y := ⟨_, List.getElem?_eq_getElem hlt2⟩
              obtain ⟨g2, o2, za, zc, rfl, hg2, hc2⟩ := HIN.out i y hy
              have hya := HX2.out y (List.mem_of_getElem? hy)
              have h6 := hc2.c6
              have HA3 : Hid (n2 + y.args.length ≤ 700 → ∀ (b : Nat) (z : Ii), b < i + 1 → x.ins[b]? = some z → z.args.length ≤ 700) := fun h b z hb hz => by
                by_cases e : b = i
                · subst e
                  rw [hy] at hz
                  rw [← Option.some.inj hz]
                  omega
                · exact HA2.out (by omega) b z (by omega) hz
              clear hy hc2
              go_wp2
              go_roundw
              case rel => exact ⟨n2 + y.args.length, i + 1, by go_num, by go_num, by omega, by omega, by omega, by omega, by omega, HA3.out, trivial⟩
              case measure => simp [intOf]; omega
            · have hfew2' : ¬ (n2 : Int) ≤ 700 := by omega
              have HA3 : Hid (n2 ≤ 700 → ∀ (b : Nat) (x : Bb), b < j + 1 → l[b]? = some x → x.ins.length ≤ 700 ∧ ∀ i ∈ x.ins, i.args.length ≤ 700) := fun h => absurd h hfew2
              go_wp2
              go_roundw
              case rel => exact ⟨n2, j + 1, rfl, by go_num, by omega, by omega, by omega, HA3.out, trivial⟩
              case measure => simp [intOf]; omega
          · have hlt2' : ¬ (i : Int) < x.ins.length := by omega
            have HA3 : Hid (n2 ≤ 700 → ∀ (b : Nat) (x : Bb), b < j + 1 → l[b]? = some x → x.ins.length ≤ 700 ∧ ∀ i ∈ x.ins, i.args.length ≤ 700) := fun h b z hb hz => by
              by_cases e : b = j
              · subst e
                have hzx : z = x := by have := HXX.out; rw [hz] at this; exact Option.some.inj this
                subst hzx
                refine ⟨by omega, fun y hy => ?_⟩
                obtain ⟨k, hk, hky⟩ := List.getElem_of_mem hy
                exact HA2.out h k y (by omega) (by rw [List.getElem?_eq_getElem hk, hky])
              · exact HA.out (by omega) b z (by omega) hz
            go_wp2
            go_roundw
            case rel => exact ⟨n2, j + 1, rfl, by go_num, by omega, by omega, by omega, HA3.out, trivial⟩
            case measure => simp [intOf]; omega
      · have hfew' : ¬ (n : Int) ≤ 700 := by omega
        go_wp2
        go_ret
        exact ⟨⟨n, rfl, hnb, fun h => absurd h hfew⟩, rfl⟩
    · have hlt' : ¬ (j : Int) < l.length := by omega
      have hjl : j = l.length := by omega
      go_wp2
      go_ret
      refine ⟨⟨n, rfl, hnb, fun h => ⟨by omega, fun x hx => ?_⟩⟩, rfl⟩
      obtain ⟨k, hk, hky⟩ := List.getElem_of_mem hx
      exact HA.out h k x (by omega) (by rw [List.getElem?_eq_getElem hk, hky])
set_option maxHeartbeats 2000000 in
set_option maxRecDepth 100000 in
theorem funcOf_any (f : Ff) (pa : Option Addr) (pc : Nat) (ba : Option Addr) (bc : Nat) (w : World) (hB : BigF f) (hF : FnW w f pa pc ba bc) :
    Calls Tryz.prog 25 #[fnV f pa pc ba bc, .int .i64 700] w fun e w' => (∃ n : Nat, e = .returned (.int .i64 n) ∧ (n ≤ 700 → f.params.length ≤ 700 ∧ FewB f.blocks)) ∧ Below w.heap.size w w' := by
  have hp := hB.p
  have HW0 : Hid (Below w.heap.size w (w.alloc (.cells (fnC f pa pc ba bc) 37))) := (Below.refl _ w).alloc (Nat.le_refl _) _
  have HX0 : Hid (Blk (w.alloc (.cells (fnC f pa pc ba bc) 37)) w.heap.size 37 (fnC f pa pc ba bc)) := Blk.new w _ _
  have HC := Lib.hid (blocksOf_any f.blocks ba bc (w.alloc (.cells (fnC f pa pc ba bc) 37)).drew hB.b hB.i (hF.blocks.below HW0.out.drew))
  clear hB hF
  unfold fnV
  have HE := Lib.hid (fnC.eq_1 f pa pc ba bc)
  rw [HE.out] at HC HW0 ⊢
  go_enter Tryz.func25, Tryz.ntmps25
  go_wp2
  go_region_with (go_at_call 49; refine HC.out.mono ?_; rintro e w1 ⟨⟨n, rfl, hnb, hn⟩, rfl⟩; have HN := Lib.hid hn; clear hn)
  all_goals
    have hwrap : IntKind.i64.wrap ((f.params.length : Int) + n) = ((f.params.length + n : Nat) : Int) := by rw [IntKind.wrap_i64]; omega
    have HWR := Lib.hid hwrap
    clear hwrap
    go_wp2
    go_ret
    exact ⟨⟨f.params.length + n, by rw [← HWR.out]; rfl, fun (h : f.params.length + n ≤ 700) => ⟨by omega, HN.out (by omega)⟩⟩, HW0.out.drew⟩
end Go.Proofs.YtgpbpbhidemciaaGreat
