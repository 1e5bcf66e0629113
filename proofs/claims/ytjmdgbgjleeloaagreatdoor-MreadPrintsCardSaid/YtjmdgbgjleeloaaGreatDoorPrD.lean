/-
  The document's Can (package intarsiaref07; written by gen/prd.py). No condition beyond those that each theorem states.
-/
import Derived.Test.YtjmdgbgjleeloaaGreatDoorPrC
import Derived.Deep.RegionWith
namespace Go.Proofs.YtjmdgbgjleeloaaGreatDoor
open Go.RowKit

set_option maxRecDepth 100000 in
theorem wide7_any (r : Int) (w : World) : Calls Tryz.prog 59 #[.int .i64 r] w fun e w' => (∃ a, e = .returned (machV (wideR r) a 8 none 0) ∧ Hid (MaW w' (wideR r) a none)) ∧ Below w.heap.size w w' := by
  obtain ⟨M, hM⟩ : ∃ M : Array Value, M = #[.int .i64 64, .slice (some ⟨w.heap.size + 1, 0, none⟩) 8 8, .int .i64 r, .slice none 0 0] := ⟨_, rfl⟩
  have HB : Hid (Below w.heap.size w ((w.alloc (.cells M 39)).alloc (.cells #[.int .i64 0, .int .i64 1, .int .i64 2, .int .i64 3, .int .i64 4, .int .i64 5, .int .i64 6, .int .i64 7] 3))) := ((Below.refl _ w).alloc (Nat.le_refl _) _).alloc (by simp) _
  have HX : Hid (Blk ((w.alloc (.cells M 39)).alloc (.cells #[.int .i64 0, .int .i64 1, .int .i64 2, .int .i64 3, .int .i64 4, .int .i64 5, .int .i64 6, .int .i64 7] 3)) w.heap.size 39 M) := Lib.hid ((Blk.new w _ _).alloc _)
  have HK : Hid (Blk ((w.alloc (.cells M 39)).alloc (.cells #[.int .i64 0, .int .i64 1, .int .i64 2, .int .i64 3, .int .i64 4, .int .i64 5, .int .i64 6, .int .i64 7] 3)) (w.heap.size + 1) 3 #[.int .i64 0, .int .i64 1, .int .i64 2, .int .i64 3, .int .i64 4, .int .i64 5, .int .i64 6, .int .i64 7]) := Lib.hid (new_two w _ _ _)
  go_enter Tryz.func59, Tryz.ntmps59
  go_wp2
  rw [← hM]
  refine bodyPost_ret (results_cell_row rfl _ _ w.heap.size 39 _ (0, 0) _ (by rw [hM]; simp) HX.out Tryz.underlying39 rfl (by rw [hM]; exact machine_size)) rfl ?_
  refine ⟨⟨some ⟨w.heap.size + 1, 0, none⟩, by rw [hM]; rfl, ⟨fun k x hx => ?_, IntsW.nil _ _⟩⟩, HB.out⟩
  refine ⟨w.heap.size + 1, 0, rfl, HK.out.lt, ?_⟩
  have hk : k < 8 := (List.getElem?_eq_some_iff.1 hx).1
  rw [Nat.zero_add]
  refine (HK.out.cell k).trans ?_
  have h8 : k = 0 ∨ k = 1 ∨ k = 2 ∨ k = 3 ∨ k = 4 ∨ k = 5 ∨ k = 6 ∨ k = 7 := by omega
  rcases h8 with h | h | h | h | h | h | h | h <;> subst h <;> (have := Option.some.inj hx; subst this; rfl)
theorem one_tgV (b : Bb) (a : Option Addr) : tgV (oneG b) a 200 = .agg #[.int .i64 400, .slice a 200 200] := by
  unfold tgV tgC
  rw [one_len]
  rfl
set_option maxRecDepth 100000 in
set_option maxHeartbeats 8000000 in
theorem can7_any (t : Gg) (ba : Option Addr) (bc : Nat) (w : World) (hB : BlsW w ba t.blocks) (hS : SmallG t) :
    Calls Tryz.prog 24 #[tgV t ba bc] w fun e w' => e = .returned (.bool (canG t)) ∧ Below w.heap.size w w' := by
  obtain ⟨A, hA⟩ : ∃ A, A = w.alloc (.cells (tgC t ba bc) 24) := ⟨_, rfl⟩
  have hw0 : Below w.heap.size w A := by rw [hA]; exact (Below.refl _ w).alloc (Nat.le_refl _) _
  have HX : Hid (∀ W, Below A.heap.size A W → W.cell? ⟨w.heap.size, 0, none⟩ = some (.int .i64 t.frame) ∧ W.cell? ⟨w.heap.size, 1, none⟩ = some (.slice ba t.blocks.length bc)) := fun W h => by
    have x1 : Blk A w.heap.size 24 (tgC t ba bc) := by rw [hA]; exact Blk.new w _ _
    exact boxG (x1.below h x1.lt)
  have HW0 := Lib.hid hw0
  have HSA : Hid (w.heap.size < A.heap.size) := by show _ < _; rw [hA]; simp
  have HBA : Hid (∀ W, Below A.heap.size A W → BlsW W ba t.blocks) := fun W h => (hB.below hw0).below h
  have HC := Lib.hid (can_iff t)
  have HSM := Lib.hid hS
  have ETC : Hid (tgC t ba bc = #[.int .i64 t.frame, .slice ba t.blocks.length bc]) := rfl
  rw [ETC.out] at hA
  unfold tgV
  rw [ETC.out]
  clear hB hS hw0 ETC
  generalize canG t = cg at *
  go_enter Tryz.func24, Tryz.ntmps24
  obtain ⟨t0, t1⟩ := HX.out A (Below.refl _ _)
  by_cases hf : 0 ≤ t.frame ∧ t.frame ≤ 400
  case neg =>
    have hcg : cg = false := by
      cases cg
      · rfl
      · exact absurd (HC.out.1 rfl).1 hf
    subst hcg
    by_cases hf0 : t.frame < 0
    · clear hf
      go_wp2
      go_ret
      rw [← hA]
      exact ⟨rfl, HW0.out⟩
    · have hf4 : 400 < t.frame := by omega
      clear hf
      go_wp2
      go_ret
      rw [← hA]
      exact ⟨rfl, HW0.out⟩
  by_cases hl : 0 < t.blocks.length ∧ t.blocks.length ≤ 200
  case neg =>
    have hcg : cg = false := by
      cases cg
      · rfl
      · exact absurd (HC.out.1 rfl).2.1 hl
    subst hcg
    obtain ⟨hf0, hf4⟩ := hf
    have hf0' : ¬ t.frame < 0 := by omega
    have hf4' : ¬ 400 < t.frame := by omega
    by_cases hl0 : t.blocks.length = 0
    · have hl0' : (t.blocks.length : Int) < 1 := by omega
      clear hl hl0
      go_wp2
      go_ret
      rw [← hA]
      exact ⟨rfl, HW0.out⟩
    · have hl0' : ¬ (t.blocks.length : Int) < 1 := by omega
      have hl4 : (200 : Int) < t.blocks.length := by omega
      clear hl hl0
      go_wp2
      go_ret
      rw [← hA]
      exact ⟨rfl, HW0.out⟩
  obtain ⟨hf0, hf4⟩ := hf
  obtain ⟨hl0, hl4⟩ := hl
  have HFL : Hid ((0 ≤ t.frame ∧ t.frame ≤ 400) ∧ (0 < t.blocks.length ∧ t.blocks.length ≤ 200)) := ⟨⟨hf0, hf4⟩, hl0, hl4⟩
  have hf0' : ¬ t.frame < 0 := by omega
  have hf4' : ¬ 400 < t.frame := by omega
  have hl0' : ¬ (t.blocks.length : Int) < 1 := by omega
  have hl4' : ¬ (200 : Int) < t.blocks.length := by omega
  obtain ⟨cs, hcs, hmk⟩ := make_all
  have HAL : Hid (AllW (A.alloc (.cells cs 53)) A.heap.size 1 zB) := ⟨cs, Blk.new A _ _, hcs⟩
  have HB1 : Hid (Below A.heap.size A (A.alloc (.cells cs 53))) := (Below.refl _ A).alloc (Nat.le_refl _) _
  clear hcs hf0 hf4
  go_upto_region 4 with fail
  have hz : w.heap.size + 1 = A.heap.size := by rw [hA]; simp
  rw [← hA, hz]
  clear hmk hz t0 t1 hA
  have HAZ : Hid (∀ W, Below A.heap.size A W → A.heap.size ≤ W.heap.size) := fun W h => h.size
  go_wp2
  go_loopw [4] (fun v wr => ∃ i : Nat, v = .int .i64 i ∧ 1 ≤ i ∧ i ≤ 200 ∧ AllW wr A.heap.size i zB ∧ Below A.heap.size A wr) (fun v _ => 200 - (intOf v).toNat)
  case atStart => exact ⟨1, rfl, by omega, by omega, HAL.out, HB1.out⟩
  case round =>
    obtain ⟨i, rfl, hi1, hi2, hL, hB⟩ := hrel
    have HL := Lib.hid hL
    have HB := Lib.hid hB
    have hlz := hL.lt
    clear hL hB HAL HB1
    by_cases hlt : i < 200
    · have hlt' : (i : Int) < 200 := by omega
      have hi0 : (0 : Int) ≤ i := by omega
      have hcell : wr.cell? ⟨A.heap.size, i * 5 + 1, none⟩ = some (.int .i64 0) := by
        rw [(HL.out.cell hlt (by decide : 1 < 5)).1]
        unfold allE
        rw [if_neg (by omega), if_neg (by omega)]
        rfl
      have hfz : wr.frozen? ⟨A.heap.size, i * 5 + 1, none⟩ = false := (HL.out.cell hlt (by decide : 1 < 5)).2
      have HT := Lib.hid (HL.out.trap hi1 hlt)
      have HBT : Hid (Below A.heap.size A (wr.setCell ⟨A.heap.size, i * 5 + 1, none⟩ (.int .i64 4))) := HB.out.setCell (Nat.le_refl _) _
      go_wp2
      go_roundw
      case rel => exact ⟨i + 1, by go_num, by omega, by omega, by simpa using HT.out, by simpa using HBT.out⟩
      case measure => simp [intOf]; omega
    · have e : i = 200 := by omega
      subst e
      clear hi1 hi2 hlt
      go_wp2
      (try simp only [Exit.inBlock, Exit.then])
      go_loopw [5] (fun v wq => ∃ (j : Nat) (x : WB), v = .int .i64 j ∧ j ≤ t.blocks.length ∧ Hid (∀ k y, k < j → t.blocks[k]? = some y → CanB y) ∧ AllW wq A.heap.size 200 x ∧ Below A.heap.size A wq) (fun v _ => t.blocks.length - (intOf v).toNat)
      case atStart => exact ⟨0, zB, rfl, by omega, Lib.hid (fun k y hk => absurd hk (by omega)), HL.out, HB.out⟩
      case round =>
        obtain ⟨j, x, rfl, hj, HP, hL, hB⟩ := hrel
        clear HL HB hlz
        have HL := Lib.hid hL
        have HB := Lib.hid hB
        have hlz := hL.lt
        clear hL hB
        obtain ⟨t0, t1⟩ := HX.out wr HB.out
        by_cases hlt : j < t.blocks.length
        case neg =>
          have e : j = t.blocks.length := by omega
          subst e
          have hcg : cg = true := HC.out.2 ⟨HFL.out.1, HFL.out.2, fun b hb => by
            obtain ⟨k, hk, hkb⟩ := List.mem_iff_getElem.1 hb
            exact HP.out k b hk (by rw [List.getElem?_eq_getElem hk, hkb])⟩
          subst hcg
          go_wp2
          go_ret
          exact ⟨rfl, HW0.out.trans (HB.out.mono HW0.out.size)⟩
        have hlt' : (j : Int) < t.blocks.length := by omega
        have hj0 : (0 : Int) ≤ j := by omega
        obtain ⟨y, hy⟩ : ∃ y, t.blocks[j]? = some y := ⟨_, List.getElem?_eq_getElem hlt⟩
        obtain ⟨g, o, ya, yc, he, hg, hc⟩ := (HBA.out A (Below.refl _ _)) j y hy
        subst he
        have hg2 : g < wr.heap.size := by have := HB.out.size; omega
        have HIA : Hid (∀ W, Below A.heap.size A W → InsW W ya y.ins) := fun W h => hc.ins.below h
        have hc := hc.below hg HB.out
        have hyi := (HSM.out.i y (List.mem_of_getElem? hy)).1
        obtain ⟨e0, e1, e2, e3, e4, enil, eins⟩ := hc
        have HY := Lib.hid hy
        have HNI := Lib.hid enil
        clear hy enil eins hg
        obtain ⟨r, hr⟩ : ∃ r, r = retOf y := ⟨_, rfl⟩
        have HRR := Lib.hid (hr.trans (retOf.eq_1 y))
        have HRE := Lib.hid hr
        clear hr
        go_upto_region 13 with fail
        obtain ⟨V, hV⟩ : ∃ V, V = wr.alloc (.cells #[.slice ya y.ins.length yc, .int .i64 y.tm.kind, .int .i64 y.tm.a, .int .i64 y.tm.t0, .int .i64 y.tm.t1] 53) := ⟨_, rfl⟩
        rw [← hV]
        have BX : Hid (Blk V wr.heap.size 53 #[.slice ya y.ins.length yc, .int .i64 y.tm.kind, .int .i64 y.tm.a, .int .i64 y.tm.t0, .int .i64 y.tm.t1]) := by rw [hV]; exact Blk.new wr _ _
        have hBV : Below wr.heap.size wr V := by rw [hV]; exact (Below.refl _ wr).alloc (Nat.le_refl _) _
        have HV : Hid (Below A.heap.size A V) := HB.out.trans (hBV.mono HB.out.size)
        have HLV := Lib.hid (HL.out.below hBV)
        have hlt3 : A.heap.size < wr.heap.size := hlz
        have hlt4 := BX.out.lt
        clear hV hBV HL HB hlz e0 e1 e2 e3 e4 hg2 t0 t1
        have v0 : V.cell? ⟨wr.heap.size, 0, none⟩ = some (.slice ya y.ins.length yc) := BX.out.cell 0
        have v1 : V.cell? ⟨wr.heap.size, 1, none⟩ = some (.int .i64 y.tm.kind) := BX.out.cell 1
        have v2 : V.cell? ⟨wr.heap.size, 2, none⟩ = some (.int .i64 y.tm.a) := BX.out.cell 2
        have v3 : V.cell? ⟨wr.heap.size, 3, none⟩ = some (.int .i64 y.tm.t0) := BX.out.cell 3
        have v4 : V.cell? ⟨wr.heap.size, 4, none⟩ = some (.int .i64 y.tm.t1) := BX.out.cell 4
        obtain ⟨kb, hkb⟩ : ∃ b, b = decide (y.tm.kind = 3 ∧ isRegT y.tm.a = true) := ⟨_, rfl⟩
        have HKB := Lib.hid hkb
        clear hkb
        go_cut [65] from 50 to 64 (fun v W => v = .bool kb ∧ V = W)
        case first =>
          by_cases hk : y.tm.kind = 3
          · have hk' : (y.tm.kind == 3) = true := by rw [hk]; rfl
            by_cases ha : 0 ≤ y.tm.a
            · by_cases hb : y.tm.a < 64
              · have hr : kb = true := by rw [HKB.out]; exact decide_eq_true ⟨hk, by unfold isRegT; simp [ha, hb]⟩
                subst hr
                clear hk HRR HRE HKB
                go_wp2_with fail
                go_meet
                exact ⟨rfl, rfl⟩
              · have hr : kb = false := by rw [HKB.out]; exact decide_eq_false (fun h => by have := h.2; unfold isRegT at this; simp at this; omega)
                subst hr
                clear hk HRR HRE HKB
                go_wp2_with fail
                go_meet
                exact ⟨rfl, rfl⟩
            · have hr : kb = false := by rw [HKB.out]; exact decide_eq_false (fun h => by have := h.2; unfold isRegT at this; simp at this; omega)
              subst hr
              clear hk HRR HRE HKB
              go_wp2_with fail
              go_meet
              exact ⟨rfl, rfl⟩
          · have hk' : (y.tm.kind == 3) = false := beq_eq_false_iff_ne.2 hk
            have hr : kb = false := by rw [HKB.out]; exact decide_eq_false (fun h => hk h.1)
            subst hr
            clear hk HRR HRE HKB
            go_wp2_with fail
            go_meet
            exact ⟨rfl, rfl⟩
        obtain ⟨rfl, rfl⟩ := hcut
        rename_i K2 hK2
        refine hK2 _ _ ?_
        clear hK2 K2
        go_cut [7] from 66 to 68 (fun v W => v = .int .i64 r ∧ V = W)
        case first =>
          cases kb
          · have hr : r = 0 := by rw [HRR.out, if_neg (of_decide_eq_false HKB.out.symm)]
            subst hr
            clear HRR HRE HKB
            go_wp2_with fail
            go_meet
            exact ⟨rfl, rfl⟩
          · have hr : r = y.tm.a := by rw [HRR.out, if_pos (of_decide_eq_true HKB.out.symm)]
            subst hr
            clear HRR HRE HKB
            go_wp2_with fail
            go_meet
            exact ⟨rfl, rfl⟩
        case rest =>
          obtain ⟨rfl, rfl⟩ := hcut
          have ex : allE 200 x 0 = x := rfl
          have lc : ∀ k, k < 5 → V.cell? ⟨A.heap.size, k, none⟩ = (wbC x)[k]? ∧ V.frozen? ⟨A.heap.size, k, none⟩ = false := fun k hk => by
            have h := HLV.out.cell (j := 0) (by omega) hk
            rw [Nat.zero_mul, Nat.zero_add, ex] at h
            exact h
          have q0 : V.cell? ⟨A.heap.size, 0, none⟩ = some (.slice x.2.1 x.1.ins.length x.2.2) := (lc 0 (by omega)).1
          have q1 : V.cell? ⟨A.heap.size, 1, none⟩ = some (.int .i64 x.1.tm.kind) := (lc 1 (by omega)).1
          have q2 : V.cell? ⟨A.heap.size, 2, none⟩ = some (.int .i64 x.1.tm.a) := (lc 2 (by omega)).1
          have q3 : V.cell? ⟨A.heap.size, 3, none⟩ = some (.int .i64 x.1.tm.t0) := (lc 3 (by omega)).1
          have q4 : V.cell? ⟨A.heap.size, 4, none⟩ = some (.int .i64 x.1.tm.t1) := (lc 4 (by omega)).1
          have f0 := (lc 0 (by omega)).2
          have f1 := (lc 1 (by omega)).2
          have f2 := (lc 2 (by omega)).2
          have f3 := (lc 3 (by omega)).2
          have f4 := (lc 4 (by omega)).2
          clear lc ex
          go_upto_region 16 with fail
          obtain ⟨U, hU⟩ : ∃ U, U = first5 V A.heap.size (y, ya, yc) := ⟨_, rfl⟩
          rw [show ((((V.setCell ⟨A.heap.size, 0, none⟩ (.slice ya y.ins.length yc)).setCell ⟨A.heap.size, 1, none⟩ (.int .i64 y.tm.kind)).setCell ⟨A.heap.size, 2, none⟩ (.int .i64 y.tm.a)).setCell ⟨A.heap.size, 3, none⟩ (.int .i64 y.tm.t0)).setCell ⟨A.heap.size, 4, none⟩ (.int .i64 y.tm.t1) = U from hU.symm]
          clear v0 v1 v2 v3 v4 q0 q1 q2 q3 q4 f0 f1 f2 f3 f4
          have hne : wr.heap.size ≠ A.heap.size := by omega
          have BU : Hid (Blk U wr.heap.size 53 #[.slice ya y.ins.length yc, .int .i64 y.tm.kind, .int .i64 y.tm.a, .int .i64 y.tm.t0, .int .i64 y.tm.t1]) := by
            rw [hU]
            unfold first5
            exact ((((BX.out.far (p := ⟨A.heap.size, 0, none⟩) hne _).far (p := ⟨A.heap.size, 1, none⟩) hne _).far (p := ⟨A.heap.size, 2, none⟩) hne _).far (p := ⟨A.heap.size, 3, none⟩) hne _).far (p := ⟨A.heap.size, 4, none⟩) hne _
          have HLU : Hid (AllW U A.heap.size 200 (y, ya, yc)) := by rw [hU]; exact HLV.out.first _
          have HBU : Hid (Below A.heap.size A U) := by
            rw [hU]
            unfold first5
            exact ((((HV.out.setCell (p := ⟨A.heap.size, 0, none⟩) (Nat.le_refl _) _).setCell (p := ⟨A.heap.size, 1, none⟩) (Nat.le_refl _) _).setCell (p := ⟨A.heap.size, 2, none⟩) (Nat.le_refl _) _).setCell (p := ⟨A.heap.size, 3, none⟩) (Nat.le_refl _) _).setCell (p := ⟨A.heap.size, 4, none⟩) (Nat.le_refl _) _
          have v0 : U.cell? ⟨wr.heap.size, 0, none⟩ = some (.slice ya y.ins.length yc) := BU.out.cell 0
          have hlu := BU.out.lt
          clear hU HLV HV BX hlt4
          by_cases h4 : (4000 : Int) < y.ins.length
          · have hcg : cg = false := by
              cases cg
              · rfl
              · have := (HC.out.1 rfl).2.2 y (List.mem_of_getElem? HY.out)
                have := this.few
                omega
            subst hcg
            go_wp2
            go_ret
            exact ⟨rfl, HW0.out.trans (HBU.out.mono HW0.out.size)⟩
          have h4 : ¬ (4000 : Int) < y.ins.length := h4
          go_wp2_with fail
          refine (wide7_any r _).mono ?_
          rintro e w3 ⟨⟨ma, rfl, hM⟩, hb3⟩
          have HM := hM
          have HB3 := Lib.hid hb3
          have hsz3 := hb3.size
          clear hM hb3
          go_wp2_with fail
          have hbw : Below A.heap.size A w3 := HBU.out.trans (HB3.out.mono HBU.out.size)
          have hym := List.mem_of_getElem? HY.out
          have hsm : SmallG (oneG y) := ⟨by rw [one_len]; omega, fun c hc => by
            rcases one_mem hc with rfl | rfl
            · exact HSM.out.i c hym
            · exact ⟨by simp [trapB], fun i hi => by simp [trapB] at hi⟩⟩
          have RG := right6_any (wideR r) ma none 8 0 (oneG y) (some ⟨A.heap.size, 0, none⟩) 200 w3 (by show (8 : Nat) ≤ _; decide) (by show (0 : Nat) ≤ _; decide) (by show (8 : Nat) ≤ 8; decide) HM.out ((HLU.out.below HB3.out).bls HNI.out (HIA.out w3 hbw)) hsm
          rw [one_tgV] at RG
          have HQ : Hid (rightT (wideR r) (oneG y) = 0 ↔ CanB y) := by
            have h : rightT (wideR r) (oneG y) = 0 ↔ CanB y := by rw [HRE.out]; exact right_one y
            exact h
          generalize rightT (wideR r) (oneG y) = q at *
          refine RG.mono ?_
          rintro e w4 ⟨rfl, hb4⟩
          have hb5 : Below A.heap.size A w4 := hbw.trans (hb4.mono hbw.size)
          have HB5 := Lib.hid hb5
          have HL5 := Lib.hid ((HLU.out.below HB3.out).below hb4)
          clear hb4 hb5 RG hsm hym hbw v0 HM HB3 hsz3 HLU HBU BU
          by_cases hq : q = 0
          · subst hq
            have HCB := Lib.hid (HQ.out.1 rfl)
            clear HQ
            go_wp2
            have HPN : Hid (∀ k z, k < j + 1 → t.blocks[k]? = some z → CanB z) := Lib.hid (fun k z hk hz => by
              by_cases hkj : k < j
              · exact HP.out k z hkj hz
              · have e : k = j := by omega
                subst e
                rw [HY.out] at hz
                rw [← Option.some.inj hz]
                exact HCB.out)
            go_roundw
            case rel => (repeat apply Exists.intro); exact ⟨⟨j + 1, (y, ya, yc), by go_num, by omega, HPN, HL5.out, HB5.out⟩, rfl⟩
            case measure => simp [intOf]; omega
          · have hcg : cg = false := by
              cases cg
              · rfl
              · exact absurd (HQ.out.2 ((HC.out.1 rfl).2.2 y (List.mem_of_getElem? HY.out))) hq
            subst hcg
            clear HQ
            go_wp2
            go_ret
            exact ⟨rfl, HW0.out.trans (HB5.out.mono HW0.out.size)⟩
end Go.Proofs.YtjmdgbgjleeloaaGreatDoor
