/-
  What the law's helper 'long' answers. No condition beyond those that each theorem states.
-/
import Derived.Test.YtgpbpbhidemciaaGreatIrEb
namespace Go.Proofs.YtgpbpbhidemciaaGreat
open Go.RowKit

set_option maxHeartbeats 4000000 in
set_option maxRecDepth 100000 in
theorem long_any (w : World) : Calls Tryz.prog 7 #[] w fun e w' => e = .returned (.bool true) ∧ Below w.heap.size w w' := by
  obtain ⟨i0, hi0, hz0, hz1, hz2⟩ := info_parts block_info
  go_enter Tryz.func7, Tryz.ntmps7
  go_wp2
  go_loopw [1] (fun k wr => ∃ n : Nat, k = .int .i64 n ∧ 63 ≤ n ∧ n ≤ 66 ∧ Below w.heap.size w wr) (fun k _ => 66 - (intOf k).toNat)
  case atStart => exact ⟨63, rfl, by omega, by omega, Below.refl _ _⟩
  case round =>
    obtain ⟨n, rfl, hn1, hn2, hB⟩ := hrel
    have HB := Lib.hid hB
    clear hB
    by_cases hlt : n < 66
    · have hlt' : (n : Int) < 66 := by omega
      go_wp2
      go_loopw [2, 3] (fun v k wr => ∃ (b : Nat) (ts : List Tt) (u : Value), u = v ∧ k = .int .i64 b ∧ b ≤ n ∧ ts.length = b ∧ RowB wr w.heap.size v (ts.map nilB) ∧ Below w.heap.size w wr) (fun _ k _ => n - (intOf k).toNat)
      case atStart => exact ⟨0, [], _, rfl, rfl, Nat.zero_le _, rfl, World.ownsRow_nil _ _ _ _, HB.out⟩
      case round =>
        obtain ⟨b, ts, v, rfl, rfl, hb, hts, hO, hB⟩ := hrel
        clear HB
        have HB := Lib.hid hB
        have HO := Lib.hid hO
        clear hB hO
        by_cases hlb : b < n
        · have hlb' : (b : Int) < n := by omega
          have HO3 : Hid (RowB (wr.alloc (.cells (beC (nilB ⟨1, 0, (b : Int) + 1, 0⟩)).toArray 34)) w.heap.size v (ts.map nilB)) := Lib.hid (World.ownsRow.alloc HO.out _)
          have HB3 : Hid (Below w.heap.size w (wr.alloc (.cells (beC (nilB ⟨1, 0, (b : Int) + 1, 0⟩)).toArray 34))) := Lib.hid (HB.out.alloc HB.out.size _)
          go_wp2_with (at_builtin; go_must (refine wpList_append_lies _ rfl _ _ _ rfl w.heap.size 34 i0 _ 5 56 Tryz.underlying35 hi0 hz0 hz1 hz2 rfl (by omega) v (ts.map nilB).length ((ts.map nilB).flatMap beC) rfl HO3.out ⟨wr.heap.size, 0, none⟩ 1 1 (beC (nilB ⟨1, 0, (b : Int) + 1, 0⟩)) rfl rfl (World.news_of_block (Blk.new wr _ _)) (be_one _) (by omega) (by rw [List.length_map]; simp only [maxLen]; omega) (by rw [List.length_map]; omega) HB3.out.size _ rfl ?_; intro gg gcap w4 hown4 hgrow4 hat4 hlt4))
          have HB4 : Hid (Below w.heap.size w w4) := Lib.hid (HB3.out.grown hgrow4 HB3.out.size (fun k hk => (World.ownsRow.lt HO3.out k hk).1))
          have HO4 : Hid (RowB w4 w.heap.size (.slice (some ⟨gg, 0, none⟩) (b + 1) gcap) ((ts ++ [(⟨1, 0, (b : Int) + 1, 0⟩ : Tt)]).map nilB)) := by
            show World.ownsRow _ _ _ _ _ _ _
            have hl : (ts.map nilB).length = b := by rw [List.length_map]; exact hts
            rw [hl] at hown4
            rw [List.map_append, List.length_append, List.flatMap_append, hl]
            exact hown4
          clear hown4 hgrow4 hat4 hlt4
          go_roundw
          case rel => exact ⟨b + 1, ts ++ [⟨1, 0, (b : Int) + 1, 0⟩], _, rfl, by go_num, by omega, by simp [hts], HO4.out, HB4.out⟩
          case measure => simp [intOf]; omega
        · have e : b = n := by omega
          subst e
          obtain ⟨g, cap, cs, rfl, hgB, hcap, hBlk, hGood⟩ := good_of_row HO.out (by omega)
          rw [hts] at hcap hGood ⊢
          have HK := Lib.hid hBlk
          have HGD := Lib.hid hGood
          clear hBlk hGood HO
          obtain ⟨m, hm⟩ : ∃ m, m + 1 = b := ⟨b - 1, by omega⟩
          have hbm : (b : Int) - 1 = m := by omega
          have hmb : (m : Int) < b := by omega
          have hm0 : (0 : Int) ≤ m := by omega
          obtain ⟨v1, e1⟩ := (HGD.out m 1 (by omega) (by omega)).2 (by omega)
          obtain ⟨v2, e2⟩ := (HGD.out m 2 (by omega) (by omega)).2 (by omega)
          obtain ⟨v3, e3⟩ := (HGD.out m 3 (by omega) (by omega)).2 (by omega)
          obtain ⟨v4, e4⟩ := (HGD.out m 4 (by omega) (by omega)).2 (by omega)
          have k1 := (HK.out.cell (m * 5 + 1)).trans e1
          have k2 := (HK.out.cell (m * 5 + 2)).trans e2
          have k3 := (HK.out.cell (m * 5 + 3)).trans e3
          have k4 := (HK.out.cell (m * 5 + 4)).trans e4
          have g1 := HK.out.free (m * 5 + 1)
          have g2 := HK.out.free (m * 5 + 2)
          have g3 := HK.out.free (m * 5 + 3)
          have g4 := HK.out.free (m * 5 + 4)
          have hgl : g < wr.heap.size := HK.out.lt
          clear e1 e2 e3 e4
          go_upto_region 10 with fail
          obtain ⟨cs2, hBlk2, hG2⟩ := Good.term (j := m) HK.out HGD.out 4 0 0 0
          have HB1 := ((((HB.out.setCell (p := ⟨g, m * 5 + 1, none⟩) hgB (.int .i64 4)).setCell (p := ⟨g, m * 5 + 1 + 1, none⟩) hgB (.int .i64 0)).setCell (p := ⟨g, m * 5 + 1 + 2, none⟩) hgB (.int .i64 0)).setCell (p := ⟨g, m * 5 + 1 + 3, none⟩) hgB (.int .i64 0))
          have hBlk2 : Blk ((((wr.setCell ⟨g, m * 5 + 1, none⟩ (.int .i64 4)).setCell ⟨g, m * 5 + 1 + 1, none⟩ (.int .i64 0)).setCell ⟨g, m * 5 + 1 + 2, none⟩ (.int .i64 0)).setCell ⟨g, m * 5 + 1 + 3, none⟩ (.int .i64 0)) g 34 cs2 := hBlk2
          clear k1 k2 k3 k4 g1 g2 g3 g4 hgl HK HGD HB
          generalize ((((wr.setCell ⟨g, m * 5 + 1, none⟩ (.int .i64 4)).setCell ⟨g, m * 5 + 1 + 1, none⟩ (.int .i64 0)).setCell ⟨g, m * 5 + 1 + 2, none⟩ (.int .i64 0)).setCell ⟨g, m * 5 + 1 + 3, none⟩ (.int .i64 0)) = W1 at hBlk2 HB1 ⊢
          have HG2 := Lib.hid hG2
          have HK2 := Lib.hid hBlk2
          have HB1 := Lib.hid HB1
          clear hG2 hBlk2
          obtain ⟨zi, hzi, hmk⟩ := make_ins (n := b) (by omega)
          have HZI := Lib.hid hzi
          have hmk : ∀ W : World, (Instr.makeSlice 32 (.int .i64 (b : Int)) (.int .i64 (b : Int))).run Tryz.prog W = .ok (.slice (some ⟨W.heap.size, 0, none⟩) b b) (W.alloc (.cells zi 25)) := fun W => hmk W
          clear hzi
          go_upto_region 11 with fail
          obtain ⟨n1, n2, n3, n4⟩ := new_three W1 25 34 37 zi #[.slice (some ⟨W1.heap.size, 0, none⟩) b b, .int .i64 4, .int .i64 0, .int .i64 0, .int .i64 0] #[.slice none 0 0, .slice (some ⟨W1.heap.size + 1, 0, none⟩) 1 1]
          have HI := Lib.hid n1
          have HP := Lib.hid n2
          have HX := Lib.hid n3
          have HB2 : Hid (Below w.heap.size w (((W1.alloc (.cells zi 25)).alloc (.cells #[.slice (some ⟨W1.heap.size, 0, none⟩) b b, .int .i64 4, .int .i64 0, .int .i64 0, .int .i64 0] 34)).alloc (.cells #[.slice none 0 0, .slice (some ⟨W1.heap.size + 1, 0, none⟩) 1 1] 37))) := Lib.hid (HB1.out.trans (n4.mono HB1.out.size))
          have HK := Lib.hid (HK2.out.below n4 HK2.out.lt)
          have hGI : w.heap.size ≤ W1.heap.size := HB1.out.size
          clear n1 n2 n3 n4 hmk HB1 HK2
          generalize (((W1.alloc (.cells zi 25)).alloc (.cells #[.slice (some ⟨W1.heap.size, 0, none⟩) b b, .int .i64 4, .int .i64 0, .int .i64 0, .int .i64 0] 34)).alloc (.cells #[.slice none 0 0, .slice (some ⟨W1.heap.size + 1, 0, none⟩) 1 1] 37)) = W2 at HI HP HX HB2 HK ⊢
          generalize W1.heap.size + 1 + 1 = GX at HX ⊢
          generalize W1.heap.size + 1 = GP at HP HX ⊢
          generalize W1.heap.size = GI at HI HP hGI ⊢
          go_wp2
          go_loopw [5] (fun k wr => ∃ (i : Nat) (csI : Array Value), k = .int .i64 i ∧ i ≤ b ∧ Hid (Good 8 6 csI b) ∧ Blk wr GI 25 csI ∧ Blk wr GP 34 #[.slice (some ⟨GI, 0, none⟩) b b, .int .i64 4, .int .i64 0, .int .i64 0, .int .i64 0] ∧ Blk wr GX 37 #[.slice none 0 0, .slice (some ⟨GP, 0, none⟩) 1 1] ∧ Blk wr g 34 cs2 ∧ Below w.heap.size w wr) (fun k _ => b - (intOf k).toNat)
          case atStart => exact ⟨0, zi, rfl, Nat.zero_le _, HZI, HI.out, HP.out, HX.out, HK.out, HB2.out⟩
          case round =>
            obtain ⟨i, csI, rfl, hi, HGI, hI, hP, hX, hK, hB⟩ := hrel
            clear HI HP HX HK HB2 HZI
            have HI := Lib.hid hI
            have HP := Lib.hid hP
            have HX := Lib.hid hX
            have HK := Lib.hid hK
            have HB := Lib.hid hB
            clear hI hP hX hK hB
            by_cases hli : i < b
            · have hli' : (i : Int) < (b : Int) := by omega
              have hi0 : (0 : Int) ≤ i := by omega
              have x1 : wr.cell? ⟨GX, 1, none⟩ = some (.slice (some ⟨GP, 0, none⟩) 1 1) := HX.out.cell 1
              have p0 : wr.cell? ⟨GP, 0, none⟩ = some (.slice (some ⟨GI, 0, none⟩) b b) := HP.out.cell 0
              obtain ⟨v0, e0⟩ := (HGI.out i 0 (by omega) (by omega)).2 (by omega)
              obtain ⟨v1, e1⟩ := (HGI.out i 1 (by omega) (by omega)).2 (by omega)
              obtain ⟨v2, e2⟩ := (HGI.out i 2 (by omega) (by omega)).2 (by omega)
              obtain ⟨v3, e3⟩ := (HGI.out i 3 (by omega) (by omega)).2 (by omega)
              obtain ⟨v4, e4⟩ := (HGI.out i 4 (by omega) (by omega)).2 (by omega)
              obtain ⟨v5, e5⟩ := (HGI.out i 5 (by omega) (by omega)).2 (by omega)
              obtain ⟨v7, e7⟩ := (HGI.out i 7 (by omega) (by omega)).2 (by omega)
              have e6 := (HGI.out i 6 (by omega) (by omega)).1 rfl
              have e0 : csI[i * 8]? = some (.int .i64 v0) := e0
              go_wp2_with fail
              go_region_with (go_at_call 5; refine (set_any' _ _).mono ?_; rintro e w9 ⟨rfl, hb9⟩; have B9 : Hid (Below wr.heap.size wr w9) := Lib.hid (((Below.refl _ wr).drew).trans (hb9.mono (Nat.le_refl _))); have I9 := Lib.hid (HI.out.below B9.out HI.out.lt); have x19 : w9.cell? ⟨GX, 1, none⟩ = some (.slice (some ⟨GP, 0, none⟩) 1 1) := (HX.out.below B9.out HX.out.lt).cell 1; have p09 : w9.cell? ⟨GP, 0, none⟩ = some (.slice (some ⟨GI, 0, none⟩) b b) := (HP.out.below B9.out HP.out.lt).cell 0; have hGl : GI < w9.heap.size := I9.out.lt; have k0 := (I9.out.cell (i * 8)).trans e0; have z0 := I9.out.free (i * 8); have k1 := (I9.out.cell (i * 8 + 1)).trans e1; have z1 := I9.out.free (i * 8 + 1); have k2 := (I9.out.cell (i * 8 + 2)).trans e2; have z2 := I9.out.free (i * 8 + 2); have k3 := (I9.out.cell (i * 8 + 3)).trans e3; have z3 := I9.out.free (i * 8 + 3); have k4 := (I9.out.cell (i * 8 + 4)).trans e4; have z4 := I9.out.free (i * 8 + 4); have k5 := (I9.out.cell (i * 8 + 5)).trans e5; have z5 := I9.out.free (i * 8 + 5); have k6 := (I9.out.cell (i * 8 + 6)).trans e6; have z6 := I9.out.free (i * 8 + 6); have k7 := (I9.out.cell (i * 8 + 7)).trans e7; have z7 := I9.out.free (i * 8 + 7); clear hb9)
              all_goals
                obtain ⟨csN, hIN, hGN⟩ := Good.ins (j := i) I9.out HGI.out 1 (IntKind.i64.wrap ((i : Int) + 1)) 0 0 0 0 0
                have hPN := far_eight (HP.out.below B9.out HP.out.lt) I9.out (by decide) (i * 8) (i * 8 + 1) (i * 8 + 2) (i * 8 + 3) (i * 8 + 4) (i * 8 + 5) (i * 8 + 6) (i * 8 + 7) (.int .i64 1) (.int .i64 (IntKind.i64.wrap ((i : Int) + 1))) (.int .i64 0) (.int .i64 0) (.int .i64 0) (.int .i64 0) (.slice none 0 0) (.int .i64 0)
                have hXN := far_eight (HX.out.below B9.out HX.out.lt) I9.out (by decide) (i * 8) (i * 8 + 1) (i * 8 + 2) (i * 8 + 3) (i * 8 + 4) (i * 8 + 5) (i * 8 + 6) (i * 8 + 7) (.int .i64 1) (.int .i64 (IntKind.i64.wrap ((i : Int) + 1))) (.int .i64 0) (.int .i64 0) (.int .i64 0) (.int .i64 0) (.slice none 0 0) (.int .i64 0)
                have hKN := far_eight (HK.out.below B9.out HK.out.lt) I9.out (by decide) (i * 8) (i * 8 + 1) (i * 8 + 2) (i * 8 + 3) (i * 8 + 4) (i * 8 + 5) (i * 8 + 6) (i * 8 + 7) (.int .i64 1) (.int .i64 (IntKind.i64.wrap ((i : Int) + 1))) (.int .i64 0) (.int .i64 0) (.int .i64 0) (.int .i64 0) (.slice none 0 0) (.int .i64 0)
                have hBN := below_eight (HB.out.trans (B9.out.mono HB.out.size)) hGI (i * 8) (i * 8 + 1) (i * 8 + 2) (i * 8 + 3) (i * 8 + 4) (i * 8 + 5) (i * 8 + 6) (i * 8 + 7) (.int .i64 1) (.int .i64 (IntKind.i64.wrap ((i : Int) + 1))) (.int .i64 0) (.int .i64 0) (.int .i64 0) (.int .i64 0) (.slice none 0 0) (.int .i64 0)
                generalize ((((((((w9.setCell ⟨GI, i * 8, none⟩ (.int .i64 1)).setCell ⟨GI, i * 8 + 1, none⟩ (.int .i64 (IntKind.i64.wrap ((i : Int) + 1)))).setCell ⟨GI, i * 8 + 2, none⟩ (.int .i64 0)).setCell ⟨GI, i * 8 + 3, none⟩ (.int .i64 0)).setCell ⟨GI, i * 8 + 4, none⟩ (.int .i64 0)).setCell ⟨GI, i * 8 + 5, none⟩ (.int .i64 0)).setCell ⟨GI, i * 8 + 6, none⟩ (.slice none 0 0)).setCell ⟨GI, i * 8 + 7, none⟩ (.int .i64 0)) = wN at hIN hPN hXN hKN hBN ⊢
                have HN := Lib.hid (And.intro hGN (And.intro hIN (And.intro hPN (And.intro hXN (And.intro hKN hBN)))))
                clear hGN hIN hPN hXN hKN hBN k0 k1 k2 k3 k4 k5 k6 k7 z0 z1 z2 z3 z4 z5 z6 z7 x19 p09
                go_wp2
                go_roundw
                case rel =>
                  refine ⟨i + 1, csN, ?_, ?_, ?_, ?_, ?_, ?_, ?_, ?_⟩
                  · go_num
                  · omega
                  · exact HN.out.1
                  · exact HN.out.2.1
                  · exact HN.out.2.2.1
                  · exact HN.out.2.2.2.1
                  · exact HN.out.2.2.2.2.1
                  · exact HN.out.2.2.2.2.2
                case measure => simp [intOf]; omega
            · have e : i = b := by omega
              subst e
              have hli' : ¬ (i : Int) < (i : Int) := by omega
              obtain ⟨q, hq⟩ : ∃ q : Nat, q + 56 = i := ⟨i - 56, by omega⟩
              have hqI : (i : Int) - 56 = q := by omega
              obtain ⟨zq, hzq, hmk⟩ := make_ints (n := q) (by omega)
              have HZQ := Lib.hid hzq
              clear hzq
              go_upto_region 16 with fail
              obtain ⟨n1, n2, n3, n4⟩ := new_three wr 3 34 37 zq #[.slice none 0 0, .int .i64 4, .int .i64 0, .int .i64 0, .int .i64 0] #[.slice (some ⟨wr.heap.size, 0, none⟩) q q, .slice (some ⟨wr.heap.size + 1, 0, none⟩) 1 1]
              have HQ := Lib.hid n1
              have HR := Lib.hid n2
              have HY := Lib.hid n3
              have HI := Lib.hid (HI.out.below n4 HI.out.lt)
              have HP := Lib.hid (HP.out.below n4 HP.out.lt)
              have HX := Lib.hid (HX.out.below n4 HX.out.lt)
              have HK := Lib.hid (HK.out.below n4 HK.out.lt)
              have hGQ : w.heap.size ≤ wr.heap.size := HB.out.size
              have HB4 : Hid (Below w.heap.size w (((wr.alloc (.cells zq 3)).alloc (.cells #[.slice none 0 0, .int .i64 4, .int .i64 0, .int .i64 0, .int .i64 0] 34)).alloc (.cells #[.slice (some ⟨wr.heap.size, 0, none⟩) q q, .slice (some ⟨wr.heap.size + 1, 0, none⟩) 1 1] 37))) := Lib.hid (HB.out.trans (n4.mono HB.out.size))
              clear n1 n2 n3 n4 hmk HB
              generalize (((wr.alloc (.cells zq 3)).alloc (.cells #[.slice none 0 0, .int .i64 4, .int .i64 0, .int .i64 0, .int .i64 0] 34)).alloc (.cells #[.slice (some ⟨wr.heap.size, 0, none⟩) q q, .slice (some ⟨wr.heap.size + 1, 0, none⟩) 1 1] 37)) = W4 at HQ HR HY HI HP HX HK HB4 ⊢
              generalize wr.heap.size + 1 + 1 = GY at HY ⊢
              generalize wr.heap.size + 1 = GR at HR HY ⊢
              generalize wr.heap.size = GQ at HQ HY hGQ ⊢
              go_wp2
              go_loopw [7] (fun k wr => ∃ (j : Nat) (csQ : Array Value), k = .int .i64 j ∧ j ≤ q ∧ Hid (Good 1 1 csQ q) ∧ Blk wr GQ 3 csQ ∧ Blk wr GR 34 #[.slice none 0 0, .int .i64 4, .int .i64 0, .int .i64 0, .int .i64 0] ∧ Blk wr GY 37 #[.slice (some ⟨GQ, 0, none⟩) q q, .slice (some ⟨GR, 0, none⟩) 1 1] ∧ Blk wr GI 25 csI ∧ Blk wr GP 34 #[.slice (some ⟨GI, 0, none⟩) i i, .int .i64 4, .int .i64 0, .int .i64 0, .int .i64 0] ∧ Blk wr GX 37 #[.slice none 0 0, .slice (some ⟨GP, 0, none⟩) 1 1] ∧ Blk wr g 34 cs2 ∧ Below w.heap.size w wr) (fun k _ => q - (intOf k).toNat)
              case atStart => exact ⟨0, zq, rfl, Nat.zero_le _, HZQ, HQ.out, HR.out, HY.out, HI.out, HP.out, HX.out, HK.out, HB4.out⟩
              case round =>
                obtain ⟨j, csQ, rfl, hj, HGQ, hQ, hR, hY, hI, hP, hX, hK, hB⟩ := hrel
                clear HQ HR HY HI HP HX HK HB4 HZQ
                have HQ := Lib.hid hQ
                have HR := Lib.hid hR
                have HY := Lib.hid hY
                have HI := Lib.hid hI
                have HP := Lib.hid hP
                have HX := Lib.hid hX
                have HK := Lib.hid hK
                have HB := Lib.hid hB
                clear hQ hR hY hI hP hX hK hB
                by_cases hlj : j < q
                · have hlj' : (j : Int) < q := by omega
                  have hj0 : (0 : Int) ≤ j := by omega
                  have y0 : wr.cell? ⟨GY, 0, none⟩ = some (.slice (some ⟨GQ, 0, none⟩) q q) := HY.out.cell 0
                  obtain ⟨v, hv⟩ := (HGQ.out j 0 hlj (by omega)).2 (by omega)
                  rw [Nat.mul_one, Nat.add_zero] at hv
                  have kq := (HQ.out.cell j).trans hv
                  have zf := HQ.out.free j
                  have hql : GQ < wr.heap.size := HQ.out.lt
                  have hgN := HGQ.out.put (j := j) (r := 0) (by omega) (by omega) (200 - (j : Int))
                  rw [Nat.mul_one, Nat.add_zero] at hgN
                  have HGN := Lib.hid hgN
                  have HQN := Lib.hid (HQ.out.put j (.int .i64 (200 - (j : Int))))
                  have HRN := Lib.hid (HR.out.far (p := ⟨GQ, j, none⟩) (ir_ne' HR.out HQ.out (by decide)) (.int .i64 (200 - (j : Int))))
                  have HYN := Lib.hid (HY.out.far (p := ⟨GQ, j, none⟩) (ir_ne' HY.out HQ.out (by decide)) (.int .i64 (200 - (j : Int))))
                  have HIN := Lib.hid (HI.out.far (p := ⟨GQ, j, none⟩) (ir_ne' HI.out HQ.out (by decide)) (.int .i64 (200 - (j : Int))))
                  have HPN := Lib.hid (HP.out.far (p := ⟨GQ, j, none⟩) (ir_ne' HP.out HQ.out (by decide)) (.int .i64 (200 - (j : Int))))
                  have HXN := Lib.hid (HX.out.far (p := ⟨GQ, j, none⟩) (ir_ne' HX.out HQ.out (by decide)) (.int .i64 (200 - (j : Int))))
                  have HKN := Lib.hid (HK.out.far (p := ⟨GQ, j, none⟩) (ir_ne' HK.out HQ.out (by decide)) (.int .i64 (200 - (j : Int))))
                  have HBN := Lib.hid (HB.out.setCell (p := ⟨GQ, j, none⟩) hGQ (.int .i64 (200 - (j : Int))))
                  clear hv hgN
                  go_wp2
                  go_roundw
                  case rel =>
                    refine ⟨j + 1, _, ?_, ?_, HGN, HQN.out, HRN.out, HYN.out, HIN.out, HPN.out, HXN.out, HKN.out, HBN.out⟩
                    · go_num
                    · omega
                  case measure => simp [intOf]; omega
                · have e : j = q := by omega
                  subst e
                  have hlj' : ¬ (j : Int) < j := by omega
                  have hb1000 : i ≤ 1000000 := by omega
                  have T1 := Lib.hid (tells_good (c := cap) HK.out HG2.out hb1000)
                  go_wp2_with fail
                  refine T1.out.mono ?_
                  rintro e w5 ⟨rfl, hb5⟩
                  have HQ := Lib.hid (HQ.out.below hb5 HQ.out.lt)
                  have HR := Lib.hid (HR.out.below hb5 HR.out.lt)
                  have HY := Lib.hid (HY.out.below hb5 HY.out.lt)
                  have HI := Lib.hid (HI.out.below hb5 HI.out.lt)
                  have HP := Lib.hid (HP.out.below hb5 HP.out.lt)
                  have HX := Lib.hid (HX.out.below hb5 HX.out.lt)
                  have HB : Hid (Below w.heap.size w w5) := Lib.hid (HB.out.trans (hb5.mono HB.out.size))
                  clear hb5 T1 HK
                  have T2 := Lib.hid (tells_one HI.out HGI.out hb1000 HP.out)
                  have x0 : w5.cell? ⟨GX, 0, none⟩ = some (.slice none 0 0) := HX.out.cell 0
                  have x1 : w5.cell? ⟨GX, 1, none⟩ = some (.slice (some ⟨GP, 0, none⟩) 1 1) := HX.out.cell 1
                  go_wp2_with fail
                  refine T2.out.mono ?_
                  rintro e w6 ⟨rfl, hb6⟩
                  have HQ := Lib.hid (HQ.out.below hb6 HQ.out.lt)
                  have HR := Lib.hid (HR.out.below hb6 HR.out.lt)
                  have HY := Lib.hid (HY.out.below hb6 HY.out.lt)
                  have HB : Hid (Below w.heap.size w w6) := Lib.hid (HB.out.trans (hb6.mono HB.out.size))
                  clear hb6 T2 HI HP HX x0 x1
                  have T3 := Lib.hid (tells_pars (c := j) HQ.out HGQ.out (by omega) HR.out)
                  have y0 : w6.cell? ⟨GY, 0, none⟩ = some (.slice (some ⟨GQ, 0, none⟩) j j) := HY.out.cell 0
                  have y1 : w6.cell? ⟨GY, 1, none⟩ = some (.slice (some ⟨GR, 0, none⟩) 1 1) := HY.out.cell 1
                  go_wp2_with fail
                  refine T3.out.mono ?_
                  rintro e w7 ⟨rfl, hb7⟩
                  have HB : Hid (Below w.heap.size w w7) := Lib.hid (HB.out.trans (hb7.mono HB.out.size))
                  clear hb7 T3 HQ HR HY y0 y1
                  go_wp2
                  go_roundw
                  case rel => exact ⟨i + 1, by go_num, by omega, by omega, HB.out⟩
                  case measure => simp [intOf]; omega
    · have hlt' : ¬ (n : Int) < 66 := by omega
      go_wp2
      go_loopw [8] (fun k wr => ∃ b : Nat, k = .int .i64 b ∧ 198 ≤ b ∧ b ≤ 203 ∧ Below w.heap.size w wr) (fun k _ => 203 - (intOf k).toNat)
      case atStart => exact ⟨198, rfl, by omega, by omega, HB.out⟩
      case round =>
        obtain ⟨b, rfl, hb1, hb2, hB⟩ := hrel
        clear HB
        have HB := Lib.hid hB
        clear hB
        by_cases hlb : b < 203
        · have hlb' : (b : Int) < 203 := by omega
          obtain ⟨m, hm⟩ : ∃ m, m + 1 = b := ⟨b - 1, by omega⟩
          have hbm : (b : Int) - 1 = m := by omega
          have hmb : (m : Int) < b := by omega
          have hm0 : (0 : Int) ≤ m := by omega
          obtain ⟨zb, hzb, hmk⟩ := make_blocks (n := b) (by omega)
          have HG0 := Lib.hid hzb
          clear hzb
          have HK0 : Hid (Blk (wr.alloc (.cells zb 34)) wr.heap.size 34 zb) := Lib.hid (Blk.new wr _ _)
          have HB0 : Hid (Below w.heap.size w (wr.alloc (.cells zb 34))) := Lib.hid (HB.out.alloc HB.out.size _)
          have hGL : w.heap.size ≤ wr.heap.size := HB.out.size
          clear HB
          go_upto_region 26 with fail
          generalize (wr.alloc (.cells zb 34)) = W1 at HK0 HB0 ⊢
          generalize wr.heap.size = GL at HK0 hGL ⊢
          clear hmk
          go_wp2
          go_loopw [10] (fun k wr => ∃ (j : Nat) (cs : Array Value), k = .int .i64 j ∧ j ≤ b ∧ Hid (Good 5 0 cs b) ∧ Blk wr GL 34 cs ∧ Below w.heap.size w wr) (fun k _ => b - (intOf k).toNat)
          case atStart => exact ⟨0, zb, rfl, Nat.zero_le _, HG0, HK0.out, HB0.out⟩
          case round =>
            obtain ⟨j, cs, rfl, hj, HG, hK, hB⟩ := hrel
            clear HG0 HK0 HB0
            have HK := Lib.hid hK
            have HB := Lib.hid hB
            clear hK hB
            have hgl : GL < wr.heap.size := HK.out.lt
            by_cases hlj : j < b
            · have hlj' : (j : Int) < b := by omega
              have hj0 : (0 : Int) ≤ j := by omega
              obtain ⟨v1, e1⟩ := (HG.out j 1 (by omega) (by omega)).2 (by omega)
              obtain ⟨v2, e2⟩ := (HG.out j 2 (by omega) (by omega)).2 (by omega)
              obtain ⟨v3, e3⟩ := (HG.out j 3 (by omega) (by omega)).2 (by omega)
              obtain ⟨v4, e4⟩ := (HG.out j 4 (by omega) (by omega)).2 (by omega)
              have k1 := (HK.out.cell (j * 5 + 1)).trans e1
              have k2 := (HK.out.cell (j * 5 + 2)).trans e2
              have k3 := (HK.out.cell (j * 5 + 3)).trans e3
              have k4 := (HK.out.cell (j * 5 + 4)).trans e4
              have g1 := HK.out.free (j * 5 + 1)
              have g2 := HK.out.free (j * 5 + 2)
              have g3 := HK.out.free (j * 5 + 3)
              have g4 := HK.out.free (j * 5 + 4)
              obtain ⟨csN, hKN, hGN⟩ := Good.term (j := j) HK.out HG.out 1 0 ((j : Int) + 1) 0
              have HKN := Lib.hid hKN
              have HGN := Lib.hid hGN
              have HBN := Lib.hid ((((HB.out.setCell (p := ⟨GL, j * 5 + 1, none⟩) hGL (.int .i64 1)).setCell (p := ⟨GL, j * 5 + 1 + 1, none⟩) hGL (.int .i64 0)).setCell (p := ⟨GL, j * 5 + 1 + 2, none⟩) hGL (.int .i64 ((j : Int) + 1))).setCell (p := ⟨GL, j * 5 + 1 + 3, none⟩) hGL (.int .i64 0))
              clear e1 e2 e3 e4 hKN hGN
              go_wp2
              go_roundw
              case rel =>
                refine ⟨j + 1, csN, ?_, ?_, HGN, ?_, ?_⟩
                · go_num
                · omega
                · exact HKN.out
                · exact HBN.out
              case measure => simp [intOf]; omega
            · have e : j = b := by omega
              subst e
              have hlj' : ¬ (j : Int) < j := by omega
              obtain ⟨v1, e1⟩ := (HG.out m 1 (by omega) (by omega)).2 (by omega)
              obtain ⟨v2, e2⟩ := (HG.out m 2 (by omega) (by omega)).2 (by omega)
              obtain ⟨v3, e3⟩ := (HG.out m 3 (by omega) (by omega)).2 (by omega)
              obtain ⟨v4, e4⟩ := (HG.out m 4 (by omega) (by omega)).2 (by omega)
              have k1 := (HK.out.cell (m * 5 + 1)).trans e1
              have k2 := (HK.out.cell (m * 5 + 2)).trans e2
              have k3 := (HK.out.cell (m * 5 + 3)).trans e3
              have k4 := (HK.out.cell (m * 5 + 4)).trans e4
              have g1 := HK.out.free (m * 5 + 1)
              have g2 := HK.out.free (m * 5 + 2)
              have g3 := HK.out.free (m * 5 + 3)
              have g4 := HK.out.free (m * 5 + 4)
              obtain ⟨csN, hKN, hGN⟩ := Good.term (j := m) HK.out HG.out 4 0 0 0
              have hKN : Blk ((((wr.setCell ⟨GL, m * 5 + 1, none⟩ (.int .i64 4)).setCell ⟨GL, m * 5 + 1 + 1, none⟩ (.int .i64 0)).setCell ⟨GL, m * 5 + 1 + 2, none⟩ (.int .i64 0)).setCell ⟨GL, m * 5 + 1 + 3, none⟩ (.int .i64 0)) GL 34 csN := hKN
              have hBN := ((((HB.out.setCell (p := ⟨GL, m * 5 + 1, none⟩) hGL (.int .i64 4)).setCell (p := ⟨GL, m * 5 + 1 + 1, none⟩) hGL (.int .i64 0)).setCell (p := ⟨GL, m * 5 + 1 + 2, none⟩) hGL (.int .i64 0)).setCell (p := ⟨GL, m * 5 + 1 + 3, none⟩) hGL (.int .i64 0))
              go_upto_region 31 with fail
              clear k1 k2 k3 k4 g1 g2 g3 g4 HK HB hgl e1 e2 e3 e4
              generalize ((((wr.setCell ⟨GL, m * 5 + 1, none⟩ (.int .i64 4)).setCell ⟨GL, m * 5 + 1 + 1, none⟩ (.int .i64 0)).setCell ⟨GL, m * 5 + 1 + 2, none⟩ (.int .i64 0)).setCell ⟨GL, m * 5 + 1 + 3, none⟩ (.int .i64 0)) = W3 at hKN hBN ⊢
              have HBN := Lib.hid hBN
              have T1 := Lib.hid (tells_good (c := j) hKN hGN (by omega))
              clear hBN hKN hGN
              go_wp2_with fail
              refine T1.out.mono ?_
              rintro e w5 ⟨rfl, hb5⟩
              have HB : Hid (Below w.heap.size w w5) := Lib.hid (HBN.out.trans (hb5.mono HBN.out.size))
              clear hb5 T1
              go_wp2
              go_roundw
              case rel => exact ⟨j + 1, by go_num, by omega, by omega, HB.out⟩
              case measure => simp [intOf]; omega
        · have hlb' : ¬ (b : Int) < 203 := by omega
          have T := tells_any ⟨[], []⟩ none 0 none 0 wr ⟨by simp, by simp, fun x hx => by simp at hx⟩ ⟨IntsW.nil _ _, fun k x hx => by simp at hx, fun _ => rfl, fun _ => rfl⟩
          unfold fnV fnC at T
          have T := Lib.hid T
          go_wp2_with fail
          refine T.out.mono ?_
          rintro e w5 ⟨rfl, hb5⟩
          have HB5 : Hid (Below w.heap.size w w5) := Lib.hid (HB.out.trans (hb5.mono HB.out.size))
          clear hb5 T HB
          go_wp2
          go_ret
          exact ⟨rfl, HB5.out⟩
end Go.Proofs.YtgpbpbhidemciaaGreat
