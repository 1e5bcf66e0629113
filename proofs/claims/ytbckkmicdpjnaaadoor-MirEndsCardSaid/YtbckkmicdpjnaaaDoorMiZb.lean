/-
  The walk of the statement MirEnds: all parts and targets about their ends are told as written by hand. No condition beyond those that each theorem states.
-/
import Derived.Test.YtbckkmicdpjnaaaDoorMiZa
import Derived.Deep.RegionHeld3
import Derived.Deep.CutRange
namespace Go.Proofs.YtbckkmicdpjnaaaDoor
open Go.RowKit

set_option maxHeartbeats 40000000 in
set_option maxRecDepth 100000 in
theorem mirEnds_any (w : World) (hT : TabW w) : Calls Tryd.prog 3 #[] w fun e w' => e = .returned (.bool true) ∧ Below w.heap.size w w' := by
  have HTW := Lib.hid hT
  clear hT
  have hE0 : EdW w.heap.size w (((((w.alloc (.cells endsC6 3)).alloc (.cells #[.int .i64 2, .int .i64 0] 3)).alloc (.cells #[.int .i64 2] 3)).alloc (.cells (edC w.heap.size) 24)).alloc (.cells trapC 28)) :=
    ⟨((((Blk.new w _ _).alloc _).alloc _).alloc _).alloc _, (((blk_at _ _ (by simp)).alloc _).alloc _).alloc _, ((blk_at _ _ (by simp)).alloc _).alloc _, (blk_at _ _ (by simp)).alloc _, blk_at _ _ (by simp),
      (((((Below.refl _ w).alloc (Nat.le_refl _) _).alloc (by simp) _).alloc (by simp; omega) _).alloc (by simp; omega) _).alloc (by simp; omega) _⟩
  have HE0 := Lib.hid hE0
  clear hE0
  unfold endsC6 edC trapC at HE0
  go_enter Tryd.func3, Tryd.ntmps3
  go_wp2
  go_loopw [4] (fun k wr => ∃ i : Int, k = .int .i64 i ∧ -1 ≤ i ∧ i ≤ 19 ∧ EdW w.heap.size w wr) (fun k _ => (19 - intOf k).toNat)
  case atStart => exact ⟨-1, rfl, Int.le_refl _, by omega, HE0.out⟩
  case round =>
    obtain ⟨i, rfl, hi0, hi1, hE⟩ := hrel
    have HE := Lib.hid hE
    clear hE HE0
    by_cases hlt : i < 19
    · obtain ⟨w0, hw0⟩ : ∃ w0, w0 = wr := ⟨wr, rfl⟩
      subst hw0
      go_wp2
      go_loopw [5] (fun k wr => ∃ n : Nat, k = .int .i64 n ∧ n ≤ 120 ∧ EdW w.heap.size w wr) (fun k _ => 120 - (intOf k).toNat)
      case atStart => exact ⟨0, rfl, by omega, HE.out⟩
      case round =>
        obtain ⟨n, rfl, hn, hE⟩ := hrel
        have HE2 := Lib.hid hE
        clear hE HE
        by_cases hlt2 : n < 120
        · have hlt' : (n : Int) < 120 := by omega
          have hn0 : (0 : Int) ≤ n := by omega
          obtain ⟨v, hv⟩ := endsC6_at (k := n / 8) (by omega)
          have hd : (n : Int).tdiv 8 = ((n / 8 : Nat) : Int) := rfl
          have hm : (n : Int).tmod 8 = ((n % 8 : Nat) : Int) := rfl
          have hX : SwM w.heap.size w (wr.alloc (.cells #[.int .i64 i, .int .i64 0, .int .i64 0, .int .i64 0, .int .i64 0, .int .i64 0, .slice none 0 0, .int .i64 0] 31)) wr.heap.size := SwM.new HE2.out i
          have HX := Lib.hid hX
          clear hX
          have hle : w.heap.size + 5 ≤ wr.heap.size := HE2.out.lt
          go_upto_region 10 with fail
          go_cut [6] from 35 to 36 (fun v6 wx => v6 = .pointer (some ⟨wr.heap.size, 0, none⟩) ∧ wx = wr.alloc (.cells #[.int .i64 i, .int .i64 0, .int .i64 0, .int .i64 0, .int .i64 0, .int .i64 0, .slice none 0 0, .int .i64 0] 31))
          case first =>
            go_wp2
            go_meet
            exact ⟨rfl, rfl⟩
          case rest =>
            obtain ⟨rfl, rfl⟩ := hcut
            have hsz : (wr.alloc (.cells #[.int .i64 i, .int .i64 0, .int .i64 0, .int .i64 0, .int .i64 0, .int .i64 0, .slice none 0 0, .int .i64 0] 31)).heap.size = wr.heap.size + 1 := by simp
            have hY : Blk (wr.alloc (.cells #[.int .i64 i, .int .i64 0, .int .i64 0, .int .i64 0, .int .i64 0, .int .i64 0, .slice none 0 0, .int .i64 0] 31)) wr.heap.size 31 #[.int .i64 i, .int .i64 0, .int .i64 0, .int .i64 0, .int .i64 0, .int .i64 0, .slice none 0 0, .int .i64 0] := Blk.new wr _ _
            generalize wr.alloc (.cells #[.int .i64 i, .int .i64 0, .int .i64 0, .int .i64 0, .int .i64 0, .int .i64 0, .slice none 0 0, .int .i64 0] 31) = W at hsz hY HX ⊢
            generalize wr.heap.size = X at hsz hY HX hle ⊢
            have hd3 : (n : Int) / 8 < 15 := by omega
            have hd4 : (0 : Int) ≤ (n : Int) / 8 := by omega
            have ce := (HX.out.ed.e.cell (n / 8)).trans hv
            have htn : ((n : Int) / 8).toNat = n / 8 := by omega
            have LW : Hid (W.heap.size = X + 1) := hsz
            rename_i KK hKK
            refine hKK _ _ ?_
            go_step
            clear HE2 hsz
            go_cut [7] from 37 to 41 (fun v7 wx => v7 = .int .i64 v ∧ W = wx)
            case first =>
              go_wp2
              go_meet
              exact ⟨rfl, rfl⟩
            obtain ⟨rfl, rfl⟩ := hcut
            rename_i K2 hK2
            refine hK2 _ _ ?_
            go_step
            go_cut [] from 42 to 82 (fun wx => SwM w.heap.size w wx X)
            case first =>

              have hk : (n : Int) % 8 = 0 ∨ (n : Int) % 8 = 1 ∨ (n : Int) % 8 = 2 ∨ (n : Int) % 8 = 3 ∨ (n : Int) % 8 = 4 ∨ (n : Int) % 8 = 5 ∨ (n : Int) % 8 = 6 ∨ (n : Int) % 8 = 7 := by omega
              have y0 : W.cell? ⟨X, 0, none⟩ = some (.int .i64 i) := hY.cell 0
              have y1 : W.cell? ⟨X, 1, none⟩ = some (.int .i64 0) := hY.cell 1
              have y2 : W.cell? ⟨X, 2, none⟩ = some (.int .i64 0) := hY.cell 2
              have y3 : W.cell? ⟨X, 3, none⟩ = some (.int .i64 0) := hY.cell 3
              have y4 : W.cell? ⟨X, 4, none⟩ = some (.int .i64 0) := hY.cell 4
              have y5 : W.cell? ⟨X, 5, none⟩ = some (.int .i64 0) := hY.cell 5
              have y6 : W.cell? ⟨X, 6, none⟩ = some (.slice none 0 0) := hY.cell 6
              have y7 : W.cell? ⟨X, 7, none⟩ = some (.int .i64 0) := hY.cell 7
              have z0 := hY.free 0
              have z1 := hY.free 1
              have z2 := hY.free 2
              have z3 := hY.free 3
              have z4 := hY.free 4
              have z5 := hY.free 5
              have z6 := hY.free 6
              have z7 := hY.free 7
              clear hY
              rcases hk with hk | hk | hk | hk | hk | hk | hk | hk
              · go_wp2
                go_meet
                exact HX.out.put 1 v (by omega)
              · go_wp2
                go_meet
                exact HX.out.put 2 v (by omega)
              · go_wp2
                go_meet
                exact HX.out.put 3 v (by omega)
              · go_wp2
                go_meet
                exact HX.out.put 4 v (by omega)
              · go_wp2
                go_meet
                exact HX.out.put 5 v (by omega)
              · go_wp2
                go_meet
                exact HX.out.put 7 v (by omega)
              · obtain ⟨cs, hg, hmk⟩ := make_ints (n := n % 3) (by omega)
                obtain ⟨l, hl, hl2⟩ := good_list hg
                rw [show ((n % 3 : Nat) : Int) = (n : Int) % 3 by omega] at hmk
                have hsz := LW.out
                have hXl : X < W.heap.size := by omega
                go_wp2
                go_meet
                have := HX.out.putNew (cs := cs) (l := l) (c := n % 3) hl2 (by omega) v
                rw [LW.out, hl] at this
                exact this
              · go_wp2
                go_meet
                exact (((HX.out.put 1 1 (by omega)).put 2 2 (by omega)).put 3 1 (by omega)).put 4 v (by omega)

            case rest =>
              have SW := Lib.hid hcut
              clear hcut HX hY ce LW
              obtain ⟨v1, hv1⟩ := endsC6_at (k := n % 5) (by omega)
              obtain ⟨v2, hv2⟩ := endsC6_at (k := n / 5 % 5) (by omega)
              obtain ⟨v3, hv3⟩ := endsC6_at (k := n / 25 % 4) (by omega)
              rename_i K3 hK3
              refine hK3 _ _ ?_
              go_step
              have w1 : (n : Int).tmod 5 = ((n % 5 : Nat) : Int) := rfl
              have w2 : (n : Int).tdiv 5 = ((n / 5 : Nat) : Int) := rfl
              have w3 : ((n / 5 : Nat) : Int).tmod 5 = ((n / 5 % 5 : Nat) : Int) := rfl
              have w4 : (n : Int).tdiv 25 = ((n / 25 : Nat) : Int) := rfl
              have w5 : ((n / 25 : Nat) : Int).tmod 4 = ((n / 25 % 4 : Nat) : Int) := rfl
              have w6 : ((n : Int) / 5).tmod 5 = (n : Int) / 5 % 5 := Int.tmod_eq_emod_of_nonneg (by omega)
              have w7 : ((n : Int) / 25).tmod 4 = (n : Int) / 25 % 4 := Int.tmod_eq_emod_of_nonneg (by omega)
              have p1 : (0 : Int) ≤ (n : Int) % 5 := by omega
              have p2 : (n : Int) % 5 < 15 := by omega
              have p3 : (0 : Int) ≤ (n : Int) / 5 % 5 := by omega
              have p4 : (n : Int) / 5 % 5 < 15 := by omega
              have p5 : (0 : Int) ≤ (n : Int) / 25 % 4 := by omega
              have p6 : (n : Int) / 25 % 4 < 15 := by omega
              have q1 : ((n : Int) % 5).toNat = n % 5 := by omega
              have q2 : ((n : Int) / 5 % 5).toNat = n / 5 % 5 := by omega
              have q3 : ((n : Int) / 25 % 4).toNat = n / 25 % 4 := by omega
              have r1 : IntKind.i64.wrap ((n : Int) / 5) = (n : Int) / 5 := by rw [IntKind.wrap_i64]; omega
              have r2 : IntKind.i64.wrap ((n : Int) / 25) = (n : Int) / 25 := by rw [IntKind.wrap_i64]; omega
              have CE : Hid (∀ W, Below wc.heap.size wc W → Below wc.heap.size wc W ∧ W.cell? ⟨w.heap.size, n % 5, none⟩ = some (.int .i64 v1) ∧ W.cell? ⟨w.heap.size, n / 5 % 5, none⟩ = some (.int .i64 v2) ∧ W.cell? ⟨w.heap.size, n / 25 % 4, none⟩ = some (.int .i64 v3)) := fun W h =>
                have he := (SW.out.ed.below h).e
                ⟨h, (he.cell _).trans hv1, (he.cell _).trans hv2, (he.cell _).trans hv3⟩
              clear hv hv1 hv2 hv3 hd hm hd3 hd4 htn
              have hb0 := (Below.refl wc.heap.size wc).drew
              go_cut [8] from 83 to 103 (fun v8 wx => ∃ (T : Nat) (t : Tt), v8 = .pointer (some ⟨T, 0, none⟩) ∧ Blk wx T 28 (tmC t) ∧ Below wc.heap.size wc wx)
              case first =>

                go_region_held3 (fun W => Below wc.heap.size wc W ∧ W.cell? ⟨w.heap.size, n % 5, none⟩ = some (.int .i64 v1) ∧ W.cell? ⟨w.heap.size, n / 5 % 5, none⟩ = some (.int .i64 v2) ∧ W.cell? ⟨w.heap.size, n / 25 % 4, none⟩ = some (.int .i64 v3))
                  (first | (refine CE.out _ ?_; (repeat (first | with_reducible apply belK_alloc | with_reducible apply belK_drew)); (first | exact Below.refl _ _ | assumption)))
                  (fail)
                all_goals (try go_wp2)
                all_goals (go_meet; exact ⟨wc.heap.size, ⟨i.tmod 6, v1, v2, v3⟩, rfl, (Blk.new wc _ _).drew', ((Below.refl _ _).alloc (Nat.le_refl _) _).drew⟩)

              obtain ⟨T, t, rfl, hT8, hb8⟩ := hcut
              rename_i w33 K4 hK4
              have SW8 := Lib.hid (SW.out.below hb8)
              have HT8 := Lib.hid hT8
              clear hT8 hb8 SW CE hb0 w1 w2 w3 w4 w5 w6 w7 p1 p2 p3 p4 p5 p6 q1 q2 q3 r1 r2
              refine hK4 _ _ ?_
              go_step
              go_cut [9] from 104 to 109 (fun v9 wx => ∃ (U : Nat) (u : Tt), v9 = .pointer (some ⟨U, 0, none⟩) ∧ Blk wx U 28 (tmC u) ∧ Below wc.heap.size wc wx)
              case first =>

                go_wp2
                go_meet
                exact ⟨wc.heap.size, ⟨_, _, 0, 0⟩, rfl, Blk.new wc _ _, (Below.refl _ _).alloc (Nat.le_refl _) _⟩

              obtain ⟨U, u, rfl, hU9, hb9⟩ := hcut
              rename_i w34 K5 hK5
              have SW9 := Lib.hid (SW8.out.below hb9)
              have HT9 := Lib.hid (HT8.out.below hb9 HT8.out.lt)
              have HU9 := Lib.hid hU9
              clear hU9 hb9 SW8 HT8
              refine hK5 _ _ ?_
              go_step
              obtain ⟨x, xa, xc, hx1, hx2, hx3, hx4⟩ := SW9.out.some_
              have HXB := Lib.hid hx1
              have HXA := Lib.hid hx2
              have HXN := Lib.hid hx3
              have HXL := Lib.hid hx4
              have SX := Lib.hid (insC.eq_1 x xa xc)
              have ST := Lib.hid (tmC.eq_1 t)
              have SU := Lib.hid (tmC.eq_1 u)
              clear hx1 hx2 hx3 hx4
              go_cut [10] from 110 to 117 (fun v10 wx => ∃ (P : Nat) (g : Gg) (ba : Option Addr) (bc : Nat), v10 = .pointer (some ⟨P, 0, none⟩) ∧ TgB wx P g ba bc ∧ Below wc.heap.size wc wx)
              case first =>

                obtain ⟨a0, a1, a2, a3, a4, a5, a6, a7⟩ := box8 HXB.out
                obtain ⟨b0, b1, b2, b3⟩ := boxT HT9.out
                obtain ⟨d0, d1, d2, d3⟩ : wc.cell? ⟨w.heap.size + 1 + 1 + 1 + 1, 0, none⟩ = some (.int .i64 4) ∧ wc.cell? ⟨w.heap.size + 1 + 1 + 1 + 1, 1, none⟩ = some (.int .i64 0) ∧ wc.cell? ⟨w.heap.size + 1 + 1 + 1 + 1, 2, none⟩ = some (.int .i64 0) ∧ wc.cell? ⟨w.heap.size + 1 + 1 + 1 + 1, 3, none⟩ = some (.int .i64 0) := ⟨SW9.out.ed.t.cell 0, SW9.out.ed.t.cell 1, SW9.out.ed.t.cell 2, SW9.out.ed.t.cell 3⟩
                have l0 := HXB.out.lt
                have l1 := HT9.out.lt
                have l2 := SW9.out.ed.t.lt
                go_wp2
                go_meet
                exact ⟨_, _, _, _, rfl, tg_first wc x xa xc t 400 HXN.out HXA.out.ints HXL.out, below3 wc _ _ _⟩

              obtain ⟨P, g, ga, gc, rfl, hP10, hb10⟩ := hcut
              rename_i w35 K6 hK6
              have SW10 := Lib.hid (SW9.out.below hb10)
              have HXB1 := Lib.hid (HXB.out.below hb10 HXB.out.lt)
              have HXA1 := Lib.hid (HXA.out.below hb10)
              have HT10 := Lib.hid (HT9.out.below hb10 HT9.out.lt)
              have HU10 := Lib.hid (HU9.out.below hb10 HU9.out.lt)
              have HP10 := Lib.hid hP10
              clear hP10 hb10 SW9 HXB HXA HT9 HU9
              refine hK6 _ _ ?_
              go_step
              go_cut [11] from 118 to 128 (fun v11 wx => ∃ (Q : Nat) (h : Gg) (ha : Option Addr) (hc : Nat), v11 = .pointer (some ⟨Q, 0, none⟩) ∧ TgB wx Q h ha hc ∧ Below wc.heap.size wc wx)
              case first =>

                obtain ⟨a0, a1, a2, a3, a4, a5, a6, a7⟩ := box8 HXB1.out
                obtain ⟨b0, b1, b2, b3⟩ := boxT HU10.out
                obtain ⟨d0, d1, d2, d3⟩ : wc.cell? ⟨w.heap.size + 1 + 1 + 1 + 1, 0, none⟩ = some (.int .i64 4) ∧ wc.cell? ⟨w.heap.size + 1 + 1 + 1 + 1, 1, none⟩ = some (.int .i64 0) ∧ wc.cell? ⟨w.heap.size + 1 + 1 + 1 + 1, 2, none⟩ = some (.int .i64 0) ∧ wc.cell? ⟨w.heap.size + 1 + 1 + 1 + 1, 3, none⟩ = some (.int .i64 0) := ⟨SW10.out.ed.t.cell 0, SW10.out.ed.t.cell 1, SW10.out.ed.t.cell 2, SW10.out.ed.t.cell 3⟩
                have l0 := HXB1.out.lt
                have l1 := HU10.out.lt
                have l2 := SW10.out.ed.t.lt
                go_wp2
                go_meet
                exact ⟨_, _, _, _, rfl, tg_second wc x xa xc u _ HXN.out HXA1.out.ints HXL.out, below3 wc _ _ _⟩

              obtain ⟨Q, h, ha, hc, rfl, hQ11, hb11⟩ := hcut
              rename_i w36 K7 hK7
              have SW11 := Lib.hid (SW10.out.below hb11)
              have HXB2 := Lib.hid (HXB1.out.below hb11 HXB1.out.lt)
              have HXA2 := Lib.hid (HXA1.out.below hb11)
              have HT11 := Lib.hid (HT10.out.below hb11 HT10.out.lt)
              have HU11 := Lib.hid (HU10.out.below hb11 HU10.out.lt)
              have HP11 := Lib.hid (HP10.out.below hb11)
              have HQ11 := Lib.hid hQ11
              clear hQ11 hb11 SW10 HXB1 HXA1 HT10 HU10 HP10
              refine hK7 _ _ ?_
              go_step

              have HZ : Hid (∀ W, Below wc.heap.size wc W → Below wc.heap.size wc W ∧ (W.cell? ⟨w.heap.size + 1 + 1 + 1, 0, none⟩ = some (.int .i64 3) ∧ W.cell? ⟨w.heap.size + 1 + 1 + 1, 1, none⟩ = some (.slice (some ⟨w.heap.size + 1, 0, none⟩) 2 2) ∧ W.cell? ⟨w.heap.size + 1 + 1 + 1, 2, none⟩ = some (.int .i64 1) ∧ W.cell? ⟨w.heap.size + 1 + 1 + 1, 3, none⟩ = some (.slice (some ⟨w.heap.size + 1 + 1, 0, none⟩) 1 1)) ∧ (W.cell? ⟨X, 0, none⟩ = some (.int .i64 x.op) ∧ W.cell? ⟨X, 1, none⟩ = some (.int .i64 x.dst) ∧ W.cell? ⟨X, 2, none⟩ = some (.int .i64 x.a) ∧ W.cell? ⟨X, 3, none⟩ = some (.int .i64 x.b) ∧ W.cell? ⟨X, 4, none⟩ = some (.int .i64 x.imm) ∧ W.cell? ⟨X, 5, none⟩ = some (.int .i64 x.callee) ∧ W.cell? ⟨X, 6, none⟩ = some (.slice xa x.args.length xc) ∧ W.cell? ⟨X, 7, none⟩ = some (.int .i64 x.many)) ∧ (W.cell? ⟨T, 0, none⟩ = some (.int .i64 t.kind) ∧ W.cell? ⟨T, 1, none⟩ = some (.int .i64 t.a) ∧ W.cell? ⟨T, 2, none⟩ = some (.int .i64 t.t0) ∧ W.cell? ⟨T, 3, none⟩ = some (.int .i64 t.t1)) ∧ (W.cell? ⟨U, 0, none⟩ = some (.int .i64 u.kind) ∧ W.cell? ⟨U, 1, none⟩ = some (.int .i64 u.a) ∧ W.cell? ⟨U, 2, none⟩ = some (.int .i64 u.t0) ∧ W.cell? ⟨U, 3, none⟩ = some (.int .i64 u.t1)) ∧ (W.cell? ⟨w.heap.size + 1 + 1 + 1 + 1, 0, none⟩ = some (.int .i64 4) ∧ W.cell? ⟨w.heap.size + 1 + 1 + 1 + 1, 1, none⟩ = some (.int .i64 0) ∧ W.cell? ⟨w.heap.size + 1 + 1 + 1 + 1, 2, none⟩ = some (.int .i64 0) ∧ W.cell? ⟨w.heap.size + 1 + 1 + 1 + 1, 3, none⟩ = some (.int .i64 0)) ∧ (W.cell? ⟨P, 0, none⟩ = some (.int .i64 g.frame) ∧ W.cell? ⟨P, 1, none⟩ = some (.slice ga g.blocks.length gc)) ∧ (W.cell? ⟨Q, 0, none⟩ = some (.int .i64 h.frame) ∧ W.cell? ⟨Q, 1, none⟩ = some (.slice ha h.blocks.length hc))) := fun W hb =>
                have he := SW11.out.ed.below hb
                ⟨hb, ⟨he.m.cell 0, he.m.cell 1, he.m.cell 2, he.m.cell 3⟩, box8 (HXB2.out.below hb HXB2.out.lt), boxT (HT11.out.below hb HT11.out.lt), boxT (HU11.out.below hb HU11.out.lt), ⟨he.t.cell 0, he.t.cell 1, he.t.cell 2, he.t.cell 3⟩, ⟨(HP11.out.box.below hb HP11.out.box.lt).cell 0, (HP11.out.box.below hb HP11.out.box.lt).cell 1⟩, ⟨(HQ11.out.box.below hb HQ11.out.box.lt).cell 0, (HQ11.out.box.below hb HQ11.out.box.lt).cell 1⟩⟩
              have CP : Hid (∀ (t : Tt) W, Below wc.heap.size wc W → Calls Tryd.prog 4 #[edV w.heap.size, insV x xa xc, termV t] W fun e w' => e = .returned (.bool true) ∧ Below wc.heap.size wc w') := fun t W hb =>
                ((SW11.out.ed.below hb).parts HTW.out x xa xc t HXL.out).mono fun e w' ⟨h1, h2⟩ => ⟨h1, hb.trans (h2.mono hb.size)⟩
              have TA : Hid (∀ W, Below wc.heap.size wc W → Calls Tryd.prog 5 #[edV w.heap.size, tgV g ga gc] W fun e w' => e = .returned (.bool true) ∧ Below wc.heap.size wc w') := fun W hb =>
                ((SW11.out.ed.below hb).tells HTW.out g ga gc (HP11.out.below hb).bls HP11.out.few HP11.out.all).mono fun e w' ⟨h1, h2⟩ => ⟨h1, hb.trans (h2.mono hb.size)⟩
              have TB : Hid (∀ W, Below wc.heap.size wc W → Calls Tryd.prog 5 #[edV w.heap.size, tgV h ha hc] W fun e w' => e = .returned (.bool true) ∧ Below wc.heap.size wc w') := fun W hb =>
                ((SW11.out.ed.below hb).tells HTW.out h ha hc (HQ11.out.below hb).bls HQ11.out.few HQ11.out.all).mono fun e w' ⟨h1, h2⟩ => ⟨h1, hb.trans (h2.mono hb.size)⟩
              have TW : Hid (∀ W, Below wc.heap.size wc W → Calls Tryd.prog 6 #[] W fun e w' => ∃ g, e = .returned (.agg #[.int .i64 2, .slice (some ⟨g, 0, none⟩) 1 1, .int .i64 0, .slice none 0 0]) ∧ Hid (MaW w' tMc (some ⟨g, 0, none⟩) none) ∧ Below wc.heap.size wc w' ∧ Hid (Below W.heap.size W w')) := fun W hb =>
                (two_any W).mono fun e w' ⟨g, h1, h2, h3⟩ => ⟨g, h1, h2, hb.trans (h3.mono hb.size), h3⟩
              have TC : Hid (∀ (W : World) (gg gi gb : Nat), Below wc.heap.size wc W → MaW W tMc (some ⟨gg, 0, none⟩) none → Blk W gi 31 (insC x xa xc) → Blk W gb 34 #[.slice (some ⟨gi, 0, none⟩) 1 1, .int .i64 4, .int .i64 0, .int .i64 0, .int .i64 0] → Calls Tryd.prog 5 #[.agg #[.int .i64 2, .slice (some ⟨gg, 0, none⟩) 1 1, .int .i64 0, .slice none 0 0], .agg #[.int .i64 0, .slice (some ⟨gb, 0, none⟩) 1 1]] W fun e w' => e = .returned (.bool true) ∧ Below wc.heap.size wc w') := fun W gg gi gb hb hM h1 h2 =>
                (third_any W ((SW11.out.ed.below hb).tab HTW.out) gg gi gb hM x xa xc h1 h2 HXN.out (HXA2.out.ints.below hb) HXL.out).mono fun e w' ⟨h3, h4⟩ => ⟨h3, hb.trans (h4.mono hb.size)⟩
              rw [SX.out] at TC
              have TC1 : Hid (∀ (W : World) (gg : Nat), Below wc.heap.size wc W → MaW W tMc (some ⟨gg, 0, none⟩) none → Calls Tryd.prog 5 #[.agg #[.int .i64 2, .slice (some ⟨gg, 0, none⟩) 1 1, .int .i64 0, .slice none 0 0], .agg #[.int .i64 0, .slice (some ⟨W.heap.size + 1, 0, none⟩) 1 1]] ((W.alloc (.cells #[.int .i64 x.op, .int .i64 x.dst, .int .i64 x.a, .int .i64 x.b, .int .i64 x.imm, .int .i64 x.callee, .slice xa x.args.length xc, .int .i64 x.many] 31)).alloc (.cells #[.slice (some ⟨W.heap.size, 0, none⟩) 1 1, .int .i64 4, .int .i64 0, .int .i64 0, .int .i64 0] 34)) fun e w' => e = .returned (.bool true) ∧ Below wc.heap.size wc w') := fun W gg hb hM =>
                TC.out _ gg W.heap.size (W.heap.size + 1) ((hb.alloc hb.size _).alloc (by have := hb.size; simp; omega) _) (hM.below (((Below.refl _ _).alloc (Nat.le_refl _) _).alloc (by simp) _)) ((Blk.new W _ _).alloc _) (blk_at _ _ (by simp))
              have TC2 : Hid (∀ (V W : World) (gg : Nat), Below wc.heap.size wc W → Below (V.alloc (.cells #[.int .i64 x.op, .int .i64 x.dst, .int .i64 x.a, .int .i64 x.b, .int .i64 x.imm, .int .i64 x.callee, .slice xa x.args.length xc, .int .i64 x.many] 31)).heap.size (V.alloc (.cells #[.int .i64 x.op, .int .i64 x.dst, .int .i64 x.a, .int .i64 x.b, .int .i64 x.imm, .int .i64 x.callee, .slice xa x.args.length xc, .int .i64 x.many] 31)) W → MaW W tMc (some ⟨gg, 0, none⟩) none → Calls Tryd.prog 5 #[.agg #[.int .i64 2, .slice (some ⟨gg, 0, none⟩) 1 1, .int .i64 0, .slice none 0 0], .agg #[.int .i64 0, .slice (some ⟨W.heap.size, 0, none⟩) 1 1]] (W.alloc (.cells #[.slice (some ⟨V.heap.size, 0, none⟩) 1 1, .int .i64 4, .int .i64 0, .int .i64 0, .int .i64 0] 34)) fun e w' => e = .returned (.bool true) ∧ Below wc.heap.size wc w') := fun V W gg hb hV hM =>
                TC.out _ gg V.heap.size W.heap.size (hb.alloc hb.size _) (hM.below ((Below.refl _ _).alloc (Nat.le_refl _) _)) (((Blk.new V _ _).below hV (Blk.new V _ _).lt).alloc _) (Blk.new W _ _)
              have TC3 : Hid (∀ (V W : World) (gg : Nat), Below wc.heap.size wc W → Below ((V.alloc (.cells #[.int .i64 x.op, .int .i64 x.dst, .int .i64 x.a, .int .i64 x.b, .int .i64 x.imm, .int .i64 x.callee, .slice xa x.args.length xc, .int .i64 x.many] 31)).alloc (.cells #[.slice (some ⟨V.heap.size, 0, none⟩) 1 1, .int .i64 4, .int .i64 0, .int .i64 0, .int .i64 0] 34)).heap.size ((V.alloc (.cells #[.int .i64 x.op, .int .i64 x.dst, .int .i64 x.a, .int .i64 x.b, .int .i64 x.imm, .int .i64 x.callee, .slice xa x.args.length xc, .int .i64 x.many] 31)).alloc (.cells #[.slice (some ⟨V.heap.size, 0, none⟩) 1 1, .int .i64 4, .int .i64 0, .int .i64 0, .int .i64 0] 34)) W → MaW W tMc (some ⟨gg, 0, none⟩) none → Calls Tryd.prog 5 #[.agg #[.int .i64 2, .slice (some ⟨gg, 0, none⟩) 1 1, .int .i64 0, .slice none 0 0], .agg #[.int .i64 0, .slice (some ⟨V.heap.size + 1, 0, none⟩) 1 1]] W fun e w' => e = .returned (.bool true) ∧ Below wc.heap.size wc w') := fun V W gg hb hV hM =>
                TC.out _ gg V.heap.size (V.heap.size + 1) hb hM (((Blk.new V _ _).alloc _).below hV ((Blk.new V _ _).alloc _).lt) ((blk_at _ _ (by simp)).below hV (by simp))
              clear TC
              unfold edV insV termV at CP
              unfold edV tgV tgC at TA TB
              have hb0 := (Below.refl wc.heap.size wc).drew
              go_region_held3 (fun W => Below wc.heap.size wc W ∧ (W.cell? ⟨w.heap.size + 1 + 1 + 1, 0, none⟩ = some (.int .i64 3) ∧ W.cell? ⟨w.heap.size + 1 + 1 + 1, 1, none⟩ = some (.slice (some ⟨w.heap.size + 1, 0, none⟩) 2 2) ∧ W.cell? ⟨w.heap.size + 1 + 1 + 1, 2, none⟩ = some (.int .i64 1) ∧ W.cell? ⟨w.heap.size + 1 + 1 + 1, 3, none⟩ = some (.slice (some ⟨w.heap.size + 1 + 1, 0, none⟩) 1 1)) ∧ (W.cell? ⟨X, 0, none⟩ = some (.int .i64 x.op) ∧ W.cell? ⟨X, 1, none⟩ = some (.int .i64 x.dst) ∧ W.cell? ⟨X, 2, none⟩ = some (.int .i64 x.a) ∧ W.cell? ⟨X, 3, none⟩ = some (.int .i64 x.b) ∧ W.cell? ⟨X, 4, none⟩ = some (.int .i64 x.imm) ∧ W.cell? ⟨X, 5, none⟩ = some (.int .i64 x.callee) ∧ W.cell? ⟨X, 6, none⟩ = some (.slice xa x.args.length xc) ∧ W.cell? ⟨X, 7, none⟩ = some (.int .i64 x.many)) ∧ (W.cell? ⟨T, 0, none⟩ = some (.int .i64 t.kind) ∧ W.cell? ⟨T, 1, none⟩ = some (.int .i64 t.a) ∧ W.cell? ⟨T, 2, none⟩ = some (.int .i64 t.t0) ∧ W.cell? ⟨T, 3, none⟩ = some (.int .i64 t.t1)) ∧ (W.cell? ⟨U, 0, none⟩ = some (.int .i64 u.kind) ∧ W.cell? ⟨U, 1, none⟩ = some (.int .i64 u.a) ∧ W.cell? ⟨U, 2, none⟩ = some (.int .i64 u.t0) ∧ W.cell? ⟨U, 3, none⟩ = some (.int .i64 u.t1)) ∧ (W.cell? ⟨w.heap.size + 1 + 1 + 1 + 1, 0, none⟩ = some (.int .i64 4) ∧ W.cell? ⟨w.heap.size + 1 + 1 + 1 + 1, 1, none⟩ = some (.int .i64 0) ∧ W.cell? ⟨w.heap.size + 1 + 1 + 1 + 1, 2, none⟩ = some (.int .i64 0) ∧ W.cell? ⟨w.heap.size + 1 + 1 + 1 + 1, 3, none⟩ = some (.int .i64 0)) ∧ (W.cell? ⟨P, 0, none⟩ = some (.int .i64 g.frame) ∧ W.cell? ⟨P, 1, none⟩ = some (.slice ga g.blocks.length gc)) ∧ (W.cell? ⟨Q, 0, none⟩ = some (.int .i64 h.frame) ∧ W.cell? ⟨Q, 1, none⟩ = some (.slice ha h.blocks.length hc)))
                (first | (refine HZ.out _ ?_; (repeat (first | with_reducible apply belK_alloc | with_reducible apply belK_drew)); (first | exact Below.refl _ _ | assumption)))
                (first
                  | (go_at_call 4; have hq := hb21; refine (CP.out u _ (by go_split_ands; assumption)).mono ?_; rintro e w22 ⟨rfl, hb22⟩)
                  | (go_at_call 4; refine (CP.out t _ (by go_split_ands; assumption)).mono ?_; rintro e w21 ⟨rfl, hb21⟩)
                  | (go_at_call 5; have hq := hb24; (first | ((with_reducible refine (TC1.out _ _ hb25 hM25.out).mono ?_); rintro e w26 ⟨rfl, hb26⟩) | ((with_reducible refine (TC2.out _ _ _ hb25 hW25.out hM25.out).mono ?_); rintro e w26 ⟨rfl, hb26⟩) | ((with_reducible refine (TC3.out _ _ _ hb25 hW25.out hM25.out).mono ?_); rintro e w26 ⟨rfl, hb26⟩)))
                  | (go_at_call 5; have hq := hb23; refine (TB.out _ (by go_split_ands; assumption)).mono ?_; rintro e w24 ⟨rfl, hb24⟩)
                  | (go_at_call 5; refine (TA.out _ (by go_split_ands; assumption)).mono ?_; rintro e w23 ⟨rfl, hb23⟩)
                  | (go_at_call 6; refine (TW.out _ (by go_split_ands; assumption)).mono ?_; rintro e w25 ⟨gg, rfl, hM25, hb25, hW25⟩))
              all_goals (
                have HEN := Lib.hid (SW11.out.ed.below hb26)
                clear CP TA TB TW TC1 TC2 TC3 HZ SW11 HXB2 HXA2 HT11 HU11 HP11 HQ11 HXN HXL SX ST SU
                go_wp2
                go_roundw
                case rel => exact ⟨n + 1, by go_num, by omega, HEN.out⟩
                case measure => simp [intOf]; omega)

        · have hge : ¬ (n : Int) < 120 := by omega
          clear hlt2 hn
          go_wp2
          go_roundw
          case rel => exact ⟨i + 1, rfl, by omega, by omega, HE2.out⟩
          case measure => simp [intOf]; omega
    · clear hi0 hi1
      go_wp2
      go_loopw [12] (fun k wr => ∃ n : Nat, k = .int .i64 n ∧ n ≤ 15 ∧ EdW w.heap.size w wr) (fun k _ => 15 - (intOf k).toNat)
      case atStart => exact ⟨0, rfl, by omega, HE.out⟩
      case round =>
        obtain ⟨n, rfl, hn, hE⟩ := hrel
        have HE2 := Lib.hid hE
        clear hE HE
        by_cases hlt2 : n < 15
        · have hlt' : (n : Int) < 15 := by omega
          have hn0 : (0 : Int) ≤ n := by omega
          obtain ⟨v, hv⟩ := endsC6_at (k := n) hlt2

          have HZ : Hid (∀ W, Below wr.heap.size wr W → Below wr.heap.size wr W ∧ (W.cell? ⟨w.heap.size + 1 + 1 + 1, 0, none⟩ = some (.int .i64 3) ∧ W.cell? ⟨w.heap.size + 1 + 1 + 1, 1, none⟩ = some (.slice (some ⟨w.heap.size + 1, 0, none⟩) 2 2) ∧ W.cell? ⟨w.heap.size + 1 + 1 + 1, 2, none⟩ = some (.int .i64 1) ∧ W.cell? ⟨w.heap.size + 1 + 1 + 1, 3, none⟩ = some (.slice (some ⟨w.heap.size + 1 + 1, 0, none⟩) 1 1)) ∧ (W.cell? ⟨w.heap.size + 1 + 1 + 1 + 1, 0, none⟩ = some (.int .i64 4) ∧ W.cell? ⟨w.heap.size + 1 + 1 + 1 + 1, 1, none⟩ = some (.int .i64 0) ∧ W.cell? ⟨w.heap.size + 1 + 1 + 1 + 1, 2, none⟩ = some (.int .i64 0) ∧ W.cell? ⟨w.heap.size + 1 + 1 + 1 + 1, 3, none⟩ = some (.int .i64 0)) ∧ W.cell? ⟨w.heap.size, n, none⟩ = some (.int .i64 v)) := fun W hb =>
            have he := HE2.out.below hb
            ⟨hb, ⟨he.m.cell 0, he.m.cell 1, he.m.cell 2, he.m.cell 3⟩, ⟨he.t.cell 0, he.t.cell 1, he.t.cell 2, he.t.cell 3⟩, (he.e.cell _).trans hv⟩
          have HD := Lib.hid ((HE2.out.alloc (.cells #[.slice none 0 0, .int .i64 4, .int .i64 0, .int .i64 0, .int .i64 0] 34)).below ((Below.refl _ _).drew))
          have TA : Hid (Calls Tryd.prog 5 #[edV w.heap.size, .agg #[.int .i64 v, .slice (some ⟨wr.heap.size, 0, none⟩) 1 1]] (wr.alloc (.cells #[.slice none 0 0, .int .i64 4, .int .i64 0, .int .i64 0, .int .i64 0] 34)).drew fun e w' => e = .returned (.bool true) ∧ Below wr.heap.size wr w') :=
            (HD.out.tells HTW.out ⟨v, [⟨[], ⟨4, 0, 0, 0⟩⟩]⟩ (some ⟨wr.heap.size, 0, none⟩) 1 (bls_one6 (l := []) (Blk.new wr _ _).drew' (fun _ => rfl) (fun k x hx => by simp at hx)) (by simp) (fun b hb => by
              simp only [List.mem_cons, List.not_mem_nil, or_false] at hb
              subst hb
              exact ⟨by simp, fun i hi => by simp at hi⟩)).mono fun e w' ⟨h1, h2⟩ => ⟨h1, (((Below.refl wr.heap.size wr).alloc (Nat.le_refl _) _).drew).trans (h2.mono (by simp))⟩
          unfold edV at TA
          have hb0 := (Below.refl wr.heap.size wr).drew
          clear hv
          go_upto_region 42 with fail
          go_region_held3 (fun W => Below wr.heap.size wr W ∧ (W.cell? ⟨w.heap.size + 1 + 1 + 1, 0, none⟩ = some (.int .i64 3) ∧ W.cell? ⟨w.heap.size + 1 + 1 + 1, 1, none⟩ = some (.slice (some ⟨w.heap.size + 1, 0, none⟩) 2 2) ∧ W.cell? ⟨w.heap.size + 1 + 1 + 1, 2, none⟩ = some (.int .i64 1) ∧ W.cell? ⟨w.heap.size + 1 + 1 + 1, 3, none⟩ = some (.slice (some ⟨w.heap.size + 1 + 1, 0, none⟩) 1 1)) ∧ (W.cell? ⟨w.heap.size + 1 + 1 + 1 + 1, 0, none⟩ = some (.int .i64 4) ∧ W.cell? ⟨w.heap.size + 1 + 1 + 1 + 1, 1, none⟩ = some (.int .i64 0) ∧ W.cell? ⟨w.heap.size + 1 + 1 + 1 + 1, 2, none⟩ = some (.int .i64 0) ∧ W.cell? ⟨w.heap.size + 1 + 1 + 1 + 1, 3, none⟩ = some (.int .i64 0)) ∧ W.cell? ⟨w.heap.size, n, none⟩ = some (.int .i64 v))
            (first | (refine HZ.out _ ?_; (repeat (first | with_reducible apply belK_alloc | with_reducible apply belK_drew)); (first | exact Below.refl _ _ | assumption)))
            (first
              | (go_at_call 5; (with_reducible refine TA.out.mono ?_); rintro e w21 ⟨rfl, hb21⟩))
          all_goals (
            have HEN := Lib.hid (HE2.out.below hb21)
            clear TA HD HZ HE2 hb21 hb0
            go_wp2
            go_roundw
            case rel => exact ⟨n + 1, by go_num, by omega, HEN.out⟩
            case measure => simp [intOf]; omega)

        · have hge : ¬ (n : Int) < 15 := by omega
          clear hlt2 hn
          go_wp2
          go_loopw [13] (fun k wr => ∃ n : Nat, k = .int .i64 n ∧ 198 ≤ n ∧ n ≤ 203 ∧ EdW w.heap.size w wr) (fun k _ => 203 - (intOf k).toNat)
          case atStart => exact ⟨198, rfl, by omega, by omega, HE2.out⟩
          case round =>
            obtain ⟨n, rfl, hn1, hn2, hE⟩ := hrel
            have HE3 := Lib.hid hE
            clear hE HE2 hge
            by_cases hlt3 : n < 203
            · have hlt' : (n : Int) < 203 := by omega
              have hn0 : (198 : Int) ≤ n := by omega
              obtain ⟨cs, hg, hmk⟩ := make_ins (n := n + 3800) (by omega)
              rw [show ((n + 3800 : Nat) : Int) = (n : Int) + 3800 by omega] at hmk
              have hwn : IntKind.i64.wrap ((n : Int) + 3800) = (n : Int) + 3800 := by rw [IntKind.wrap_i64]; omega
              have HTR : Hid (∀ W, Below wr.heap.size wr W → Below wr.heap.size wr W ∧ (W.cell? ⟨w.heap.size + 1 + 1 + 1 + 1, 0, none⟩ = some (.int .i64 4) ∧ W.cell? ⟨w.heap.size + 1 + 1 + 1 + 1, 1, none⟩ = some (.int .i64 0) ∧ W.cell? ⟨w.heap.size + 1 + 1 + 1 + 1, 2, none⟩ = some (.int .i64 0) ∧ W.cell? ⟨w.heap.size + 1 + 1 + 1 + 1, 3, none⟩ = some (.int .i64 0))) := fun W hb =>
                have he := HE3.out.below hb
                ⟨hb, he.t.cell 0, he.t.cell 1, he.t.cell 2, he.t.cell 3⟩
              have HG := Lib.hid hg
              clear hg
              obtain ⟨w1, hw1⟩ : ∃ w1, w1 = wr := ⟨wr, rfl⟩
              subst hw1
              have HLT := Lib.hid HE3.out.lt
              go_upto_region 47 with fail
              go_cut [14] from 185 to 189 (fun v14 wx => ∃ L G : Nat, v14 = .pointer (some ⟨L, 0, none⟩) ∧ LnW w.heap.size w wx L G (n + 3800))
              case first =>

                go_region_held3 (fun W => Below w1.heap.size w1 W ∧ (W.cell? ⟨w.heap.size + 1 + 1 + 1 + 1, 0, none⟩ = some (.int .i64 4) ∧ W.cell? ⟨w.heap.size + 1 + 1 + 1 + 1, 1, none⟩ = some (.int .i64 0) ∧ W.cell? ⟨w.heap.size + 1 + 1 + 1 + 1, 2, none⟩ = some (.int .i64 0) ∧ W.cell? ⟨w.heap.size + 1 + 1 + 1 + 1, 3, none⟩ = some (.int .i64 0)))
                  (first | (refine HTR.out _ ?_; (repeat (first | with_reducible apply belK_alloc | with_reducible apply belK_drew)); (first | exact Below.refl _ _ | assumption)))
                  (fail)
                all_goals (try go_wp2)
                all_goals (try go_meet)
                all_goals (first | exact ⟨_, _, rfl, LnW.new1 HE3.out HG.out⟩ | exact ⟨_, _, rfl, LnW.new2 HE3.out HG.out⟩)

              obtain ⟨L, G, rfl, hL⟩ := hcut
              have HL := Lib.hid hL
              clear hL HTR HG HLT hmk HE3
              rename_i K8 hK8
              refine hK8 _ _ ?_
              have hm : n + 3800 ≤ 1000000 := by omega
              obtain ⟨m, hmm⟩ : ∃ m, m = n + 3800 := ⟨_, rfl⟩
              have hmi : (n : Int) + 3800 = (m : Int) := by omega
              rw [← hmm] at HL hm
              have HMI := Lib.hid hmi
              clear hmi
              go_step
              go_wp2
              go_loopw [15] (fun k wr => ∃ j : Nat, k = .int .i64 j ∧ j ≤ m ∧ LnW w.heap.size w wr L G m) (fun k _ => m - (intOf k).toNat)
              case atStart => exact ⟨0, rfl, by omega, HL.out⟩
              case round =>
                obtain ⟨j, rfl, hj, hL⟩ := hrel
                have HL2 := Lib.hid hL
                clear hL HL
                obtain ⟨c0, c1, c2, c3, c4⟩ := HL2.out.cells
                by_cases hjm : j < m
                · have hjm' : (j : Int) < m := by omega
                  have hj0 : (0 : Int) ≤ j := by omega
                  obtain ⟨⟨v, hv⟩, hf, hgl⟩ := HL2.out.at hjm
                  have HP := Lib.hid (HL2.out.put j 1)
                  go_wp2
                  go_roundw
                  case rel => exact ⟨j + 1, by go_num, by omega, HP.out⟩
                  case measure => simp [intOf]; omega
                · have hjm' : ¬ (j : Int) < m := by omega
                  obtain ⟨cs, hg, hmk⟩ := make_blocks (n := n) (by omega)
                  obtain ⟨w1, hw1⟩ : ∃ w1, w1 = wr := ⟨wr, rfl⟩
                  subst hw1
                  have HW : Hid (WdW w.heap.size w (w1.alloc (.cells cs 34)) L G m w1.heap.size n) :=
                    ⟨HL2.out.below ((Below.refl _ _).alloc (Nat.le_refl _) _), ⟨cs, Blk.new _ _ _, hg⟩, HL2.out.ed.lt, by have := HL2.out.box.lt; omega⟩
                  obtain ⟨H, hH⟩ : ∃ H, H = w1.heap.size := ⟨_, rfl⟩
                  rw [← hH] at HW
                  have hn00 : (0 : Int) ≤ n := by omega
                  clear hjm hj hg
                  go_upto_region 52 with fail
                  go_wp2
                  rw [← hH]
                  clear hmk hH c0 c1 c2 c3 c4 HL2
                  generalize w1.alloc (.cells cs 34) = w2 at HW ⊢
                  go_loopw [17] (fun k wr => ∃ j : Nat, k = .int .i64 j ∧ j ≤ n ∧ WdW w.heap.size w wr L G m H n) (fun k _ => n - (intOf k).toNat)
                  case atStart => exact ⟨0, rfl, by omega, HW.out⟩
                  case round =>
                    obtain ⟨j, rfl, hj, hW⟩ := hrel
                    have HW2 := Lib.hid hW
                    clear hW HW
                    by_cases hjn : j < n
                    · have hjn' : (j : Int) < n := by omega
                      have hj0 : (0 : Int) ≤ j := by omega
                      obtain ⟨⟨⟨v1, hv1⟩, ⟨v2, hv2⟩, ⟨v3, hv3⟩, ⟨v4, hv4⟩⟩, hf, hgl⟩ := HW2.out.at hjn
                      have f1 := hf (j * 5 + 1)
                      have f2 := hf (j * 5 + 2)
                      have f3 := hf (j * 5 + 3)
                      have f4 := hf (j * 5 + 4)
                      have t0 : wr.cell? ⟨w.heap.size + 1 + 1 + 1 + 1, 0, none⟩ = some (.int .i64 4) := HW2.out.ln.ed.t.cell 0
                      have t1 : wr.cell? ⟨w.heap.size + 1 + 1 + 1 + 1, 1, none⟩ = some (.int .i64 0) := HW2.out.ln.ed.t.cell 1
                      have t2 : wr.cell? ⟨w.heap.size + 1 + 1 + 1 + 1, 2, none⟩ = some (.int .i64 0) := HW2.out.ln.ed.t.cell 2
                      have t3 : wr.cell? ⟨w.heap.size + 1 + 1 + 1 + 1, 3, none⟩ = some (.int .i64 0) := HW2.out.ln.ed.t.cell 3
                      have HP := Lib.hid (HW2.out.put j 4 0 0 0)
                      clear hf
                      go_wp2
                      go_roundw
                      case rel =>
                        refine ⟨j + 1, ?_, ?_, ?_⟩
                        · go_num
                        · omega
                        · exact HP.out
                      case measure => simp [intOf]; omega
                    · have hjn' : ¬ (j : Int) < n := by omega
                      clear hjn hj
                      go_upto_region 57 with fail
                      have hmx : m ≤ 1000000 := hm
                      go_cut [18] from 214 to 216 (fun v18 wx => ∃ (O K : Nat) (g : Gg), v18 = .pointer (some ⟨O, 0, none⟩) ∧ Blk wx O 37 #[.int .i64 0, .slice (some ⟨K, 0, none⟩) 1 1] ∧ OneW wx K m g ∧ Below wr.heap.size wr wx)
                      case first =>

                        obtain ⟨c0, c1, c2, c3, c4⟩ := HW2.out.ln.cells
                        have hlb := HW2.out.ln.box.lt
                        obtain ⟨g, hg⟩ := LnW.one (K := wr.heap.size) ((HW2.out.ln.ed.alloc (.cells #[.slice (some ⟨G, 0, none⟩) m m, .int .i64 4, .int .i64 0, .int .i64 0, .int .i64 0] 34) |> fun _ => HW2.out.ln.below ((Below.refl _ _).alloc (Nat.le_refl _) (.cells #[.slice (some ⟨G, 0, none⟩) m m, .int .i64 4, .int .i64 0, .int .i64 0, .int .i64 0] 34)))) hmx (Blk.new wr _ _)
                        have HGG := Lib.hid (hg.below ((Below.refl _ _).alloc (Nat.le_refl _) (.cells #[.int .i64 0, .slice (some ⟨wr.heap.size, 0, none⟩) 1 1] 37)))
                        clear hg
                        go_wp2
                        go_meet
                        simp only [← hmm]
                        exact ⟨_, wr.heap.size, g, rfl, blk_at _ _ (by simp), HGG.out, ((Below.refl _ _).alloc (Nat.le_refl _) _).alloc (by simp) _⟩

                      obtain ⟨O, K, g, rfl, hO, hOne, hbO⟩ := hcut
                      rename_i wold K9 hK9
                      have HWD := Lib.hid (HW2.out.below hbO)
                      have HO := Lib.hid hO
                      have HON := Lib.hid hOne
                      clear hO hOne hbO HW2
                      refine hK9 _ _ ?_
                      go_step

                      have HZ : Hid (∀ W, Below wc.heap.size wc W → Below wc.heap.size wc W ∧ (W.cell? ⟨w.heap.size + 1 + 1 + 1, 0, none⟩ = some (.int .i64 3) ∧ W.cell? ⟨w.heap.size + 1 + 1 + 1, 1, none⟩ = some (.slice (some ⟨w.heap.size + 1, 0, none⟩) 2 2) ∧ W.cell? ⟨w.heap.size + 1 + 1 + 1, 2, none⟩ = some (.int .i64 1) ∧ W.cell? ⟨w.heap.size + 1 + 1 + 1, 3, none⟩ = some (.slice (some ⟨w.heap.size + 1 + 1, 0, none⟩) 1 1)) ∧ (W.cell? ⟨O, 0, none⟩ = some (.int .i64 0) ∧ W.cell? ⟨O, 1, none⟩ = some (.slice (some ⟨K, 0, none⟩) 1 1))) := fun W hb =>
                        have he := HWD.out.ln.ed.below hb
                        have ho := HO.out.below hb HO.out.lt
                        ⟨hb, ⟨he.m.cell 0, he.m.cell 1, he.m.cell 2, he.m.cell 3⟩, ⟨ho.cell 0, ho.cell 1⟩⟩
                      have TA : Hid (∀ W, Below wc.heap.size wc W → Calls Tryd.prog 5 #[edV w.heap.size, .agg #[.int .i64 0, .slice (some ⟨H, 0, none⟩) n n]] W fun e w' => e = .returned (.bool true) ∧ Below wc.heap.size wc w') := fun W hb =>
                        ((HWD.out.below hb).tells HTW.out (by omega)).mono fun e w' ⟨h1, h2⟩ => ⟨h1, hb.trans (h2.mono hb.size)⟩
                      have RA : Hid (∀ W, Below wc.heap.size wc W → Calls Tryd.prog 7 #[edV w.heap.size, .agg #[.int .i64 0, .slice (some ⟨K, 0, none⟩) 1 1]] W fun e w' => e = .returned (.int .i64 (rightT edM g)) ∧ Below wc.heap.size wc w') := fun W hb =>
                        ((HON.out.below hb).calls (HWD.out.ln.ed.below hb) HTW.out).1.mono fun e w' ⟨h1, h2⟩ => ⟨h1, hb.trans (h2.mono hb.size)⟩
                      have RB : Hid (∀ W, Below wc.heap.size wc W → Calls Tryd.prog 8 #[edV w.heap.size, .agg #[.int .i64 0, .slice (some ⟨K, 0, none⟩) 1 1]] W fun e w' => e = .returned (.int .i64 (rightT edM g)) ∧ Below wc.heap.size wc w') := fun W hb =>
                        ((HON.out.below hb).calls (HWD.out.ln.ed.below hb) HTW.out).2.1.mono fun e w' ⟨h1, h2⟩ => ⟨h1, hb.trans (h2.mono hb.size)⟩
                      have SZ : Hid (∀ W, Below wc.heap.size wc W → Calls Tryd.prog 9 #[.agg #[.int .i64 0, .slice (some ⟨K, 0, none⟩) 1 1]] W fun e w' => e = .returned (.int .i64 ((n : Int) + 3801)) ∧ Below wc.heap.size wc w') := fun W hb =>
                        ((HON.out.below hb).calls (HWD.out.ln.ed.below hb) HTW.out).2.2.mono fun e w' ⟨h1, h2⟩ => ⟨by rw [h1, ← HMI.out, Int.add_assoc]; rfl, hb.trans (h2.mono hb.size)⟩
                      generalize rightT edM g = q at RA RB
                      unfold edV at TA RA RB
                      have hqq : (q != q) = false := by simp
                      have hwn2 : IntKind.i64.wrap ((n : Int) + 3801) = (n : Int) + 3801 := by rw [IntKind.wrap_i64]; omega
                      have hss : ((n : Int) + 3801 != (n : Int) + 3801) = false := by simp
                      have hb0 := (Below.refl wc.heap.size wc).drew
                      go_region_held3 (fun W => Below wc.heap.size wc W ∧ (W.cell? ⟨w.heap.size + 1 + 1 + 1, 0, none⟩ = some (.int .i64 3) ∧ W.cell? ⟨w.heap.size + 1 + 1 + 1, 1, none⟩ = some (.slice (some ⟨w.heap.size + 1, 0, none⟩) 2 2) ∧ W.cell? ⟨w.heap.size + 1 + 1 + 1, 2, none⟩ = some (.int .i64 1) ∧ W.cell? ⟨w.heap.size + 1 + 1 + 1, 3, none⟩ = some (.slice (some ⟨w.heap.size + 1 + 1, 0, none⟩) 1 1)) ∧ (W.cell? ⟨O, 0, none⟩ = some (.int .i64 0) ∧ W.cell? ⟨O, 1, none⟩ = some (.slice (some ⟨K, 0, none⟩) 1 1)))
                        (first | (refine HZ.out _ ?_; (repeat (first | with_reducible apply belK_alloc | with_reducible apply belK_drew)); (first | exact Below.refl _ _ | assumption)))
                        (first
                          | (go_at_call 5; refine (TA.out _ (by go_split_ands; assumption)).mono ?_; rintro e w21 ⟨rfl, hb21⟩)
                          | (go_at_call 7; refine (RA.out _ (by go_split_ands; assumption)).mono ?_; rintro e w22 ⟨rfl, hb22⟩)
                          | (go_at_call 8; refine (RB.out _ (by go_split_ands; assumption)).mono ?_; rintro e w23 ⟨rfl, hb23⟩)
                          | (go_at_call 9; refine (SZ.out _ (by go_split_ands; assumption)).mono ?_; rintro e w24 ⟨rfl, hb24⟩))
                      all_goals (
                        have HEN := Lib.hid (HWD.out.ln.ed.below hb24)
                        clear TA RA RB SZ HZ HWD HO HON hb0
                        go_wp2
                        go_roundw
                        case rel => exact ⟨n + 1, by go_num, by omega, by omega, HEN.out⟩
                        case measure => simp [intOf]; omega)

            · have hge : ¬ (n : Int) < 203 := by omega
              clear hlt3 hn1 hn2
              have T1 := Lib.hid (mirTells_any ⟨0, [], 0, []⟩ none none 0 0 ⟨0, []⟩ none 0 wr (by decide) (by decide) (by decide) (fun _ => rfl) (fun _ => rfl) ⟨IntsW.nil _ _, IntsW.nil _ _⟩ (fun k x hx => by simp at hx) (by simp) (fun x hx => by simp at hx) (HE3.out.tab HTW.out))
              have T2 : Hid (∀ W, Below wr.heap.size wr W → Calls Tryd.prog 5 #[edV w.heap.size, .agg #[.int .i64 0, .slice none 0 0]] W fun e w' => e = .returned (.bool true) ∧ Below W.heap.size W w') := fun W hb =>
                (HE3.out.below hb).tells HTW.out ⟨0, []⟩ none 0 (fun k x hx => by simp at hx) (by simp) (fun x hx => by simp at hx)
              have AW : Hid (∀ W, Below wr.heap.size wr W → Calls Tryd.prog 10 #[] W fun e w' => e = .returned (.bool true) ∧ Below W.heap.size W w') := fun W hb => awakeT_any W ((HE3.out.below hb).tab HTW.out)
              unfold machV tgV tgC at T1
              rw [show maxC ⟨0, [], 0, []⟩ none 0 none 0 = #[.int .i64 0, .slice none 0 0, .int .i64 0, .slice none 0 0] from rfl] at T1
              simp only [List.length_nil] at T1
              unfold edV at T2
              go_wp2_with fail
              refine T1.out.mono ?_
              rintro e w1 ⟨rfl, hb1⟩
              have HB1 := Lib.hid hb1
              have m0 := (HE3.out.below hb1).m.cell 0
              have m1 := (HE3.out.below hb1).m.cell 1
              have m2 := (HE3.out.below hb1).m.cell 2
              have m3 := (HE3.out.below hb1).m.cell 3
              have M0 : w1.cell? ⟨w.heap.size + 1 + 1 + 1, 0, none⟩ = some (.int .i64 3) := m0
              have M1 : w1.cell? ⟨w.heap.size + 1 + 1 + 1, 1, none⟩ = some (.slice (some ⟨w.heap.size + 1, 0, none⟩) 2 2) := m1
              have M2 : w1.cell? ⟨w.heap.size + 1 + 1 + 1, 2, none⟩ = some (.int .i64 1) := m2
              have M3 : w1.cell? ⟨w.heap.size + 1 + 1 + 1, 3, none⟩ = some (.slice (some ⟨w.heap.size + 1 + 1, 0, none⟩) 1 1) := m3
              clear hb1 T1 m0 m1 m2 m3
              go_wp2_with fail
              refine (T2.out _ HB1.out).mono ?_
              rintro e w2 ⟨rfl, hb2⟩
              have HB2 : Hid (Below wr.heap.size wr w2) := HB1.out.trans (hb2.mono HB1.out.size)
              clear hb2 T2 HB1 M0 M1 M2 M3
              go_wp2_with fail
              refine (AW.out _ HB2.out).mono ?_
              rintro e w3 ⟨rfl, hb3⟩
              have HB3 : Hid (Below w.heap.size w w3) := (HE3.out.below (HB2.out.trans (hb3.mono HB2.out.size))).b
              clear hb3 AW HB2
              go_wp2
              go_ret
              exact ⟨rfl, HB3.out⟩
end Go.Proofs.YtbckkmicdpjnaaaDoor
