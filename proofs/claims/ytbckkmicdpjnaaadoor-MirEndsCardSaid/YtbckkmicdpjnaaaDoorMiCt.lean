/-
  How great a target is, counted until a bound is passed. No condition beyond those that each theorem states.
-/
import Derived.Test.YtbckkmicdpjnaaaDoorMiD
import Derived.Deep.RegionWith
namespace Go.Proofs.YtbckkmicdpjnaaaDoor
open Go.RowKit

def FewG (l : List Bb) : Prop := l.length ≤ 1500 ∧ ∀ x ∈ l, x.ins.length ≤ 1500 ∧ ∀ i ∈ x.ins, i.args.length ≤ 1500
set_option maxHeartbeats 2000000 in
set_option maxRecDepth 100000 in
theorem blocksOfT_any (l : List Bb) (a : Option Addr) (c : Nat) (w : World) (hl : l.length ≤ 140737488355328) (hs : ∀ x ∈ l, x.ins.length ≤ 140737488355328 ∧ ∀ i ∈ x.ins, i.args.length ≤ 140737488355328) (hI : BlsW w a l) :
    Calls Tryd.prog 43 #[.slice a l.length c, .int .i64 1500] w fun e w' => (∃ n : Nat, e = .returned (.int .i64 n) ∧ n ≤ 1000000000000000 ∧ (n ≤ 1500 → FewG l)) ∧ w = w' := by
  have HI := Lib.hid hI
  have HS := Lib.hid hs
  clear hI hs
  go_enter Tryd.func43, Tryd.ntmps43
  go_wp2
  go_loopw [5, 6] (fun m k wr => ∃ n j : Nat, m = .int .i64 n ∧ k = .int .i64 j ∧ j ≤ l.length ∧ j ≤ n ∧ n ≤ 1000000000000000 ∧ Hid (n ≤ 1500 → ∀ (b : Nat) (x : Bb), b < j → l[b]? = some x → x.ins.length ≤ 1500 ∧ ∀ i ∈ x.ins, i.args.length ≤ 1500) ∧ w = wr) (fun _ k _ => l.length - (intOf k).toNat)
  case atStart => exact ⟨0, 0, rfl, rfl, Nat.zero_le _, Nat.le_refl _, by omega, fun _ b x h => absurd h (Nat.not_lt_zero _), rfl⟩
  case round =>
    obtain ⟨n, j, rfl, rfl, hj, hn, hnb, HA, rfl⟩ := hrel
    by_cases hlt : j < l.length
    · have hlt' : (j : Int) < l.length := by omega
      have hj0 : (0 : Int) ≤ j := by omega
      by_cases hfew : n ≤ 1500
      · have hfew' : (n : Int) ≤ 1500 := by omega
        obtain ⟨x, hx⟩ : ∃ x, l[j]? = some x := ⟨_, List.getElem?_eq_getElem hlt⟩
        obtain ⟨g, o, ya, yc, rfl, hg, hc⟩ := HI.out j x hx
        obtain ⟨hx1, hx2⟩ := HS.out x (List.mem_of_getElem? hx)
        have HX2 := Lib.hid hx2
        have HXX := Lib.hid hx
        have HIN := Lib.hid hc.ins
        have c0 := hc.c0
        clear hx hx2 hc
        go_wp2
        go_loopw [5, 7] (fun m k wr => ∃ n2 i : Nat, m = .int .i64 n2 ∧ k = .int .i64 i ∧ i ≤ x.ins.length ∧ j + 1 ≤ n2 ∧ n2 ≤ 1000000000000000 ∧ n ≤ n2 ∧ x.ins.length ≤ n2 ∧ Hid (n2 ≤ 1500 → ∀ (b : Nat) (y : Ii), b < i → x.ins[b]? = some y → y.args.length ≤ 1500) ∧ w = wr) (fun _ k _ => x.ins.length - (intOf k).toNat)
        case atStart => exact ⟨n + 1 + x.ins.length, 0, by go_num, rfl, Nat.zero_le _, by omega, by omega, by omega, by omega, fun _ b x h => absurd h (Nat.not_lt_zero _), rfl⟩
        case round =>
          obtain ⟨n2, i, rfl, rfl, hi, hn2, hn2b, hn3, hn4, HA2, rfl⟩ := hrel
          by_cases hlt2 : i < x.ins.length
          · have hlt2' : (i : Int) < x.ins.length := by omega
            have hi0 : (0 : Int) ≤ i := by omega
            by_cases hfew2 : n2 ≤ 1500
            · have hfew2' : (n2 : Int) ≤ 1500 := by omega
              obtain ⟨y, hy⟩ : ∃ y, x.ins[i]? = some y := ⟨_, List.getElem?_eq_getElem hlt2⟩
              obtain ⟨g2, o2, za, zc, rfl, hg2, hc2⟩ := HIN.out i y hy
              have hya := HX2.out y (List.mem_of_getElem? hy)
              have h6 := hc2.c6
              have HA3 : Hid (n2 + y.args.length ≤ 1500 → ∀ (b : Nat) (z : Ii), b < i + 1 → x.ins[b]? = some z → z.args.length ≤ 1500) := fun h b z hb hz => by
                by_cases e : b = i
                · subst e
                  rw [hy] at hz
                  rw [← Option.some.inj hz]
                  omega
                · exact HA2.out (by omega) b z (by omega) hz
              clear hy hc2
              go_wp2
              go_roundw
              case rel => exact ⟨n2 + y.args.length, i + 1, by go_num, by go_num, by omega, by omega, by omega, by omega, by omega, HA3.out, trivial⟩
              case measure => simp [intOf]; omega
            · have hfew2' : ¬ (n2 : Int) ≤ 1500 := by omega
              have HA3 : Hid (n2 ≤ 1500 → ∀ (b : Nat) (x : Bb), b < j + 1 → l[b]? = some x → x.ins.length ≤ 1500 ∧ ∀ i ∈ x.ins, i.args.length ≤ 1500) := fun h => absurd h hfew2
              go_wp2
              go_roundw
              case rel => exact ⟨n2, j + 1, rfl, by go_num, by omega, by omega, by omega, HA3.out, trivial⟩
              case measure => simp [intOf]; omega
          · have hlt2' : ¬ (i : Int) < x.ins.length := by omega
            have HA3 : Hid (n2 ≤ 1500 → ∀ (b : Nat) (x : Bb), b < j + 1 → l[b]? = some x → x.ins.length ≤ 1500 ∧ ∀ i ∈ x.ins, i.args.length ≤ 1500) := fun h b z hb hz => by
              by_cases e : b = j
              · subst e
                have hzx : z = x := by have := HXX.out; rw [hz] at this; exact Option.some.inj this
                subst hzx
                refine ⟨by omega, fun y hy => ?_⟩
                obtain ⟨k, hk, hky⟩ := List.getElem_of_mem hy
                exact HA2.out h k y (by omega) (by rw [List.getElem?_eq_getElem hk, hky])
              · exact HA.out (by omega) b z (by omega) hz
            go_wp2
            go_roundw
            case rel => exact ⟨n2, j + 1, rfl, by go_num, by omega, by omega, by omega, HA3.out, trivial⟩
            case measure => simp [intOf]; omega
      · have hfew' : ¬ (n : Int) ≤ 1500 := by omega
        go_wp2
        go_ret
        exact ⟨⟨n, rfl, hnb, fun h => absurd h hfew⟩, rfl⟩
    · have hlt' : ¬ (j : Int) < l.length := by omega
      have hjl : j = l.length := by omega
      go_wp2
      go_ret
      refine ⟨⟨n, rfl, hnb, fun h => ⟨by omega, fun x hx => ?_⟩⟩, rfl⟩
      obtain ⟨k, hk, hky⟩ := List.getElem_of_mem hx
      exact HA.out h k x (by omega) (by rw [List.getElem?_eq_getElem hk, hky])
set_option maxRecDepth 100000 in
theorem targetOf_any (t : Gg) (ba : Option Addr) (bc : Nat) (w : World) (hl : t.blocks.length ≤ 140737488355328) (hs : ∀ x ∈ t.blocks, x.ins.length ≤ 140737488355328 ∧ ∀ i ∈ x.ins, i.args.length ≤ 140737488355328) (hB : BlsW w ba t.blocks) :
    Calls Tryd.prog 20 #[tgV t ba bc, .int .i64 1500] w fun e w' => (∃ n : Nat, e = .returned (.int .i64 n) ∧ n ≤ 1000000000000000 ∧ (n ≤ 1500 → FewG t.blocks)) ∧ Below w.heap.size w w' := by
  have HW0 : Hid (Below w.heap.size w (w.alloc (.cells (tgC t ba bc) 37))) := (Below.refl _ w).alloc (Nat.le_refl _) _
  have HC := Lib.hid (blocksOfT_any t.blocks ba bc (w.alloc (.cells (tgC t ba bc) 37)) hl hs (hB.below HW0.out))
  have HE := Lib.hid (tgC.eq_1 t ba bc)
  rw [HE.out] at HC HW0
  clear hB hs
  unfold tgV
  rw [HE.out]
  go_enter Tryd.func20, Tryd.ntmps20
  go_wp2_with fail
  refine HC.out.mono ?_
  rintro e w1 ⟨⟨n, rfl, hn, hf⟩, rfl⟩
  go_wp2
  go_ret
  exact ⟨⟨n, rfl, hn, hf⟩, HW0.out⟩
set_option maxRecDepth 100000 in
theorem machineOf_any (m : Mm) (aa sa : Option Addr) (ac sc : Nat) (w : World) (hl : m.args.length ≤ 140737488355328) (hs : m.saved.length ≤ 140737488355328) :
    Calls Tryd.prog 21 #[machV m aa ac sa sc] w fun e w' => e = .returned (.int .i64 ((m.args.length : Int) + m.saved.length)) ∧ Below w.heap.size w w' := by
  have HW0 : Hid (Below w.heap.size w (w.alloc (.cells (maxC m aa ac sa sc) 24))) := (Below.refl _ w).alloc (Nat.le_refl _) _
  have HE := Lib.hid (maxC.eq_1 m aa ac sa sc)
  have hw : IntKind.i64.wrap ((m.args.length : Int) + (m.saved.length : Int)) = (m.args.length : Int) + m.saved.length := by rw [IntKind.wrap_i64]; omega
  rw [HE.out] at HW0
  unfold machV
  rw [HE.out]
  go_enter Tryd.func21, Tryd.ntmps21
  go_wp2
  go_ret
  exact ⟨rfl, HW0.out⟩
end Go.Proofs.YtbckkmicdpjnaaaDoor
