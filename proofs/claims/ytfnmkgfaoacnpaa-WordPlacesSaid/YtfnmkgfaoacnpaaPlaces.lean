/-
  The walk of the statement WordPlaces: it answers true for any text and turns nothing that was there. No condition beyond those that each theorem states.
-/
import Derived.Test.YtfnmkgfaoacnpaaPlaceC
namespace Go.Proofs.Ytfnmkgfaoacnpaa
open Go.RowKit

theorem CellsA.belowP {w w' : World} {a : Option Addr} {ws : List Wd} (h : CellsA w a ws) (hb : Below w.heap.size w w') : CellsA w' a ws := fun k x hx => by
  obtain ⟨g, ha, hg, h0, h1, h2, h3, h4⟩ := h k x hx
  exact ⟨g, ha, Nat.lt_of_lt_of_le hg hb.size, (hb.cell hg).trans h0, (hb.cell hg).trans h1, (hb.cell hg).trans h2, (hb.cell hg).trans h3, (hb.cell hg).trans h4⟩
set_option maxHeartbeats 4000000 in
set_option maxRecDepth 1000000 in
theorem places_any (s : ByteArray) (w : World) (hz : s.size ≤ 140737488355328) : Calls Try.prog 4 #[.string s] w fun e w' => e = .returned (.bool true) ∧ Below w.heap.size w w' := by
  go_enter Try.func4, Try.ntmps4
  go_wp2_with fail
  refine (awake_any _).mono ?_
  rintro e w1 ⟨rfl, hb1⟩
  have B1 := Lib.hid hb1
  clear hb1
  by_cases hn : s.size ≤ 4000
  · have hn' : ¬ (4000 : Int) < s.size := by omega
    have hfew := read_few s
    have hza : (aheadB s).size = s.size + 2 := by rw [← list_size, ahead_list, List.length_cons, List.length_cons, list_size]
    have hzb : (behindT s).size = s.size + 6 := by rw [← list_size, behind_list, List.length_append, list_size]; rfl
    have AR := Lib.hid (ahead_read s)
    have BR := Lib.hid (behind_read s)
    have R1 := Lib.hid (read_any s w1 (by omega))
    have R2 : Hid (∀ w2, _) := fun w2 => read_any (aheadB s) w2 (by omega)
    have R3 : Hid (∀ w2, _) := fun w2 => read_any (behindT s) w2 (by omega)
    have hsa : aheadB s = (⟨#[97, 10]⟩ : ByteArray) ++ s := rfl
    have hsb : behindT s = s ++ (⟨#[59, 32, 226, 134, 146, 120]⟩ : ByteArray) := rfl
    rw [hsa] at AR R2
    rw [hsb] at BR R3
    clear hsa hsb hza hzb
    have CH : Hid (readErr s = 0 → Chain s.size (runesOf s) 0 (readWords s)) := read_chain s
    have FL : Hid (readErr s ≠ 0 → 1 ≤ readLine s) := fault_line s
    go_wp2_with fail
    refine R1.out.mono ?_
    rintro e w2 ⟨v, rfl, ho2, hb2⟩
    obtain ⟨a1, c1, rfl⟩ := own_shape ho2
    have L2 := Lib.hid (cells_of_own ho2)
    have B2 := Lib.hid (B1.out.trans (hb2.mono B1.out.size))
    clear ho2 hb2 B1 R1
    go_wp2_with fail
    refine (R2.out w2).mono ?_
    rintro e w3 ⟨v, rfl, ho3, hb3⟩
    obtain ⟨a2, c2, rfl⟩ := own_shape ho3
    have M3 := Lib.hid (cells_of_own ho3)
    have L3 := Lib.hid (L2.out.belowP hb3)
    have B3 := Lib.hid (B2.out.trans (hb3.mono B2.out.size))
    clear ho3 hb3 B2 L2 R2
    go_wp2_with fail
    refine (R3.out w3).mono ?_
    rintro e w4 ⟨v, rfl, ho4, hb4⟩
    obtain ⟨a3, c3, rfl⟩ := own_shape ho4
    have O4 := Lib.hid (cells_of_own ho4)
    have M4 := Lib.hid (M3.out.belowP hb4)
    have L4 := Lib.hid (L3.out.belowP hb4)
    have B4 := Lib.hid (B3.out.trans (hb4.mono B3.out.size))
    clear ho4 hb4 B3 L3 M3 R3
    by_cases hE : readErr s = 0
    · obtain ⟨e1, e2⟩ := AR.out.1 hE
      obtain ⟨f1, f2⟩ := BR.out hE
      have CH2 := Lib.hid (CH.out hE)
      rw [e2] at M4 ⊢
      rw [f2] at O4 ⊢
      rw [hE, e1, f1]
      clear AR BR FL CH e1 e2 f1 f2 hE
      generalize readLine s = x1 at *
      generalize readCol s = x2 at *
      generalize readLine ((⟨#[97, 10]⟩ : ByteArray) ++ s) = x3 at *
      generalize readCol ((⟨#[97, 10]⟩ : ByteArray) ++ s) = x4 at *
      generalize readLine (s ++ (⟨#[59, 32, 226, 134, 146, 120]⟩ : ByteArray)) = x5 at *
      generalize readCol (s ++ (⟨#[59, 32, 226, 134, 146, 120]⟩ : ByteArray)) = x6 at *
      generalize readWords s = ws at *
      have hml : ([wordA, endA] ++ ws.map downW).length = ws.length + 2 := by simp
      rw [hml]
      have AL := Lib.hid (alikeP_any ws a3 a1 c3 c1 w4 (by omega) O4.out L4.out)
      clear O4 hml
      go_wp2_with fail
      refine AL.out.mono ?_
      rintro e w5 ⟨rfl, d5, rfl⟩
      generalize hw5 : w4.drewN d5 = w5 at *
      have BD : Below w4.heap.size w4 w5 := by rw [← hw5]; exact below_draws (Below.refl _ _) d5
      have L5 := Lib.hid (L4.out.belowP BD)
      have M5 := Lib.hid (M4.out.belowP BD)
      have B5 := Lib.hid (B4.out.trans (BD.mono B4.out.size))
      clear hw5 BD L4 M4 B4 AL
      obtain ⟨cap, cs, hcv, hcap, hcs⟩ := conv_text s (by omega) w5
      have HRF := runes_few s
      go_wp2_with fail
      clear hcv
      have hb6 : Below w5.heap.size w5 (w5.alloc (.cells cs 21)).drew := ((Below.refl _ w5).alloc (Nat.le_refl _) _).drew
      have A6 : Hid (RunesAt (w5.alloc (.cells cs 21)).drew w5.heap.size (runesOf s)) := ⟨cs, Blk.new _ _ _, hcs⟩
      have L6 := Lib.hid (L5.out.belowP hb6)
      have hrb6 : w5.heap.size < ((w5.alloc (.cells cs 21)).drew).heap.size := by simp
      have M6 := Lib.hid (M5.out.belowP hb6)
      have B6 := Lib.hid (B5.out.trans (hb6.mono B5.out.size))
      clear hb6 L5 M5 B5 hcs
      generalize (w5.alloc (.cells cs 21)).drew = w6 at *
      generalize w5.heap.size = rb at *
      generalize runesOf s = R at *
      go_loopw [16, 17, 18, 19] (fun at_ r c i wr => ∃ (pre post : List Wd) (K : Nat), at_ = .int .i64 K ∧ r = .int .i64 (posAt R K).1 ∧ c = .int .i64 (posAt R K).2 ∧ i = .int .i64 pre.length ∧ Hid (ws = pre ++ post) ∧ Hid (Chain s.size R K post) ∧ K ≤ R.length ∧ Below w6.heap.size w6 wr) (fun _ _ _ i _ => ws.length - (intOf i).toNat)
      case atStart => exact ⟨[], ws, 0, rfl, rfl, rfl, rfl, rfl, CH2, Nat.zero_le _, Below.refl _ _⟩
      case round =>
        obtain ⟨pre, post, K, rfl, rfl, rfl, rfl, HS, HCH, hK, hb⟩ := hrel
        have BW := Lib.hid hb
        have hpb := pos_bound R K
        clear hb
        cases post with
        | nil =>
          have hlen : pre.length = ws.length := by rw [HS.out]; simp
          have hlt' : ¬ (pre.length : Int) < ws.length := by omega
          have hlt'' : (ws.length : Int) ≤ pre.length := by omega
          go_wp2
          go_ret
          exact ⟨rfl, B6.out.trans (BW.out.mono B6.out.size)⟩
        | cons x post =>
          have hlen : pre.length + 1 + post.length = ws.length := by rw [HS.out]; simp; omega
          have hlt' : (pre.length : Int) < ws.length := by omega
          have hlt : pre.length < ws.length := by omega
          have hx : ws[pre.length]? = some x := by rw [HS.out]; simp
          have hy : ([wordA, endA] ++ ws.map downW)[pre.length + 2]? = some (downW x) := by
            rw [List.getElem?_append_right (by simp)]
            show (ws.map downW)[pre.length + 2 - 2]? = _
            rw [Nat.add_sub_cancel, List.getElem?_map, hx]
            rfl
          have HS2 : Hid (ws = (pre ++ [x]) ++ post) := by show _ = _; rw [HS.out]; simp
          obtain ⟨k, hKk, hpk, htx, hkl, htp, hxs, hch⟩ := HCH.out
          have hch2 := Lib.hid hch
          obtain ⟨gl, rfl, hgl, l0, l1, l2, l3, l4⟩ := L6.out _ x hx
          obtain ⟨gm, rfl, hgm, m0, m1, m2, m3, m4⟩ := M6.out _ _ hy
          have CX : Hid (∀ w1, Below w6.heap.size w6 w1 → (w1.cell? ⟨gl, pre.length * 5, none⟩ = some (.int .i64 x.k) ∧ w1.cell? ⟨gl, pre.length * 5 + 1, none⟩ = some (.string x.t) ∧ w1.cell? ⟨gl, pre.length * 5 + 3, none⟩ = some (.int .i64 x.l) ∧ w1.cell? ⟨gl, pre.length * 5 + 4, none⟩ = some (.int .i64 x.c)) ∧
              (w1.cell? ⟨gm, (pre.length + 2) * 5 + 1, none⟩ = some (.string x.t) ∧ w1.cell? ⟨gm, (pre.length + 2) * 5 + 3, none⟩ = some (.int .i64 (x.l + 1)) ∧ w1.cell? ⟨gm, (pre.length + 2) * 5 + 4, none⟩ = some (.int .i64 x.c)) ∧ RunesAt w1 rb R) := fun w1 h1 =>
            ⟨⟨(h1.cell (p := ⟨gl, pre.length * 5, none⟩) hgl).trans l0, (h1.cell (p := ⟨gl, pre.length * 5 + 1, none⟩) hgl).trans l1, (h1.cell (p := ⟨gl, pre.length * 5 + 3, none⟩) hgl).trans l3, (h1.cell (p := ⟨gl, pre.length * 5 + 4, none⟩) hgl).trans l4⟩,
              ⟨(h1.cell (p := ⟨gm, (pre.length + 2) * 5 + 1, none⟩) hgm).trans m1, (h1.cell (p := ⟨gm, (pre.length + 2) * 5 + 3, none⟩) hgm).trans m3, (h1.cell (p := ⟨gm, (pre.length + 2) * 5 + 4, none⟩) hgm).trans m4⟩, A6.out.below h1⟩
          have hp : pre.length ≤ 100000 := by omega
          have hpc : (0 : Int) ≤ pre.length := by omega
          clear hx hy l0 l1 l2 l3 l4 m0 m1 m2 m3 m4 hch HCH HS
          go_wp2
          go_loopw [16, 17, 18] (fun at_ r c wr' => ∃ j : Nat, at_ = .int .i64 j ∧ r = .int .i64 (posAt R j).1 ∧ c = .int .i64 (posAt R j).2 ∧ K ≤ j ∧ j ≤ k ∧ wr' = wr) (fun a _ _ _ => k - (intOf a).toNat)
          case atStart => exact ⟨K, rfl, rfl, rfl, Nat.le_refl _, hKk, rfl⟩
          case round =>
            obtain ⟨j, rfl, rfl, rfl, hKj, hjk, hw⟩ := hrel
            subst hw
            obtain ⟨⟨n0, n1, n3, n4⟩, ⟨p1, p3, p4⟩, hra⟩ := CX.out _ BW.out
            have hpj := pos_bound R j
            have hj0 : (0 : Int) ≤ j := by omega
            have hjl : (j : Int) < R.length := by omega
            by_cases hjk' : j < k
            · have hless := pos_less R k j hjk'
              rw [hpk] at hless
              simp only at hless
              have r0 := hra.cell (j := j) (by omega)
              have PS : Hid (posAt R (j + 1) = if R.getD j 0 = 10 then ((posAt R j).1 + 1, 1) else ((posAt R j).1, (posAt R j).2 + 1)) := rfl
              clear p1 p3 p4 n0 n1 hra hpb
              generalize (posAt R j).1 = P1 at *
              generalize (posAt R j).2 = P2 at *
              generalize R.getD j 0 = Z at *
              by_cases hr : P1 = x.l
              · have q1 : (P1 != x.l) = false := by simp [hr]
                have q2 : (P2 != x.c) = true := by simp; omega
                by_cases h10 : Z = 10
                · have qz : (Z == 10) = true := by simp [h10]
                  have PS2 : Hid (posAt R (j + 1) = (P1 + 1, 1)) := PS.out.trans (if_pos h10)
                  clear PS h10 hless hr
                  go_wp2
                  go_roundw
                  case rel => exact ⟨j + 1, by go_num, by rw [PS2.out], by rw [PS2.out], by omega, by omega, trivial⟩
                  case measure => simp [intOf]; omega
                · have qz : (Z == 10) = false := by simp [h10]
                  have PS2 : Hid (posAt R (j + 1) = (P1, P2 + 1)) := PS.out.trans (if_neg h10)
                  clear PS h10 hless hr
                  go_wp2
                  go_roundw
                  case rel => exact ⟨j + 1, by go_num, by rw [PS2.out], by rw [PS2.out], by omega, by omega, trivial⟩
                  case measure => simp [intOf]; omega
              · have q1 : (P1 != x.l) = true := by simp [hr]
                by_cases h10 : Z = 10
                · have qz : (Z == 10) = true := by simp [h10]
                  have PS2 : Hid (posAt R (j + 1) = (P1 + 1, 1)) := PS.out.trans (if_pos h10)
                  clear PS h10 hless hr
                  go_wp2
                  go_roundw
                  case rel => exact ⟨j + 1, by go_num, by rw [PS2.out], by rw [PS2.out], by omega, by omega, trivial⟩
                  case measure => simp [intOf]; omega
                · have qz : (Z == 10) = false := by simp [h10]
                  have PS2 : Hid (posAt R (j + 1) = (P1, P2 + 1)) := PS.out.trans (if_neg h10)
                  clear PS h10 hless hr
                  go_wp2
                  go_roundw
                  case rel => exact ⟨j + 1, by go_num, by rw [PS2.out], by rw [PS2.out], by omega, by omega, trivial⟩
                  case measure => simp [intOf]; omega
            · have hje : j = k := by omega
              subst hje
              have HPK := Lib.hid hpk
              rw [hpk] at hpj ⊢
              simp only at hpj ⊢
              have q1 : (x.l != x.l) = false := by simp
              have q2 : (x.c != x.c) = false := by simp
              obtain ⟨cap2, cs2, hcv2, hcap2, hcs2⟩ := conv_text x.t (by omega) wr
              have hglw : gl < wr.heap.size := by have := BW.out.size; omega
              have hgmw : gm < wr.heap.size := by have := BW.out.size; omega
              have hrbw : rb < wr.heap.size := by have := BW.out.size; omega
              by_cases hk4 : x.k = 4
              · have q4 : (x.k == 4) = true := by simp [hk4]
                have ht1 : txt x = [10] := by unfold txt; rw [if_pos hk4]
                go_wp2_with fail
                clear hcv2
                have BWW : Below wr.heap.size wr ((wr.alloc (.cells cs2 21)).alloc (.cells #[.int .i32 10] 21)).drew := (((Below.refl _ wr).alloc (Nat.le_refl _) _).alloc (by simp) _).drew
                have BX : Hid (Below w6.heap.size w6 ((wr.alloc (.cells cs2 21)).alloc (.cells #[.int .i32 10] 21)).drew) := BW.out.trans (BWW.mono BW.out.size)
                have RT : RunesAt ((wr.alloc (.cells cs2 21)).alloc (.cells #[.int .i32 10] 21)).drew (wr.heap.size + 1) (txt x) := by
                  rw [ht1]
                  refine ⟨#[.int .i32 10], ?_, fun i hi => ?_⟩
                  · have hb := Blk.new (wr.alloc (.cells cs2 21)) 21 #[.int .i32 10]
                    have hz2 : (wr.alloc (.cells cs2 21)).heap.size = wr.heap.size + 1 := by simp
                    rw [hz2] at hb
                    exact hb
                  · have : i = 0 := by simp at hi; omega
                    subst this
                    rfl
                generalize ((wr.alloc (.cells cs2 21)).alloc (.cells #[.int .i32 10] 21)).drew = ww at *
                clear BWW n0 n1 n3 n4 p1 p3 p4 hra hcs2
                obtain ⟨⟨n0, n1, n3, n4⟩, ⟨p1, p3, p4⟩, hra⟩ := CX.out _ BX.out
                have hnl : (txt x).length = 1 := by rw [ht1]; rfl
                have C1 : ∀ (d : Nat) (c : Nat), (convert 33 9 (.slice (some ⟨rb, j, none⟩) (1) c)).run Try.prog (ww.drewN d) = .ok (.string (runesBytes (txt x))) (ww.drewN d) := fun d c => by
                  have hra2 : RunesAt (ww.drewN d) rb R := hra
                  have := back_text hra2 j (1) c (by omega)
                  rw [← hnl, ← htx] at this
                  rw [← hnl]
                  exact this
                have C2 : ∀ (d : Nat) (c : Nat), (convert 33 9 (.slice (some ⟨wr.heap.size + 1, 0, none⟩) (1) c)).run Try.prog (ww.drewN d) = .ok (.string (runesBytes (txt x))) (ww.drewN d) := fun d c => by
                  have rt2 : RunesAt (ww.drewN d) (wr.heap.size + 1) (txt x) := RT
                  have := back_text rt2 0 (1) c (by omega)
                  rw [← hnl, List.drop_zero, List.take_length] at this
                  rw [← hnl]
                  exact this
                rw [hnl] at hkl htp
                generalize runesBytes (txt x) = S at *
                clear RT htx hra hrbw hglw hgmw ht1 hnl
                have cb : decide ((R.length : Int) < (j : Int) + 1) = false := decide_eq_false (by omega)
                go_quiet (fail)
                go_wp2
                go_roundw
                case rel => exact ⟨pre ++ [x], post, j, rfl, by rw [HPK.out], by rw [HPK.out], by simp, HS2, hch2, by omega, below_draws BX.out _⟩
                case measure => simp [intOf]; omega
              · have q4 : (x.k == 4) = false := by simp [hk4]
                have ht1 : txt x = runesOf x.t := by unfold txt runesOf; rw [if_neg hk4]
                go_wp2_with fail
                clear hcv2
                have BWW : Below wr.heap.size wr (wr.alloc (.cells cs2 21)).drew := ((Below.refl _ wr).alloc (Nat.le_refl _) _).drew
                have BX : Hid (Below w6.heap.size w6 (wr.alloc (.cells cs2 21)).drew) := BW.out.trans (BWW.mono BW.out.size)
                have RT : RunesAt (wr.alloc (.cells cs2 21)).drew (wr.heap.size) (txt x) := by
                  rw [ht1]
                  exact ⟨cs2, Blk.new _ _ _, hcs2⟩
                generalize (wr.alloc (.cells cs2 21)).drew = ww at *
                clear BWW n0 n1 n3 n4 p1 p3 p4 hra hcs2
                obtain ⟨⟨n0, n1, n3, n4⟩, ⟨p1, p3, p4⟩, hra⟩ := CX.out _ BX.out
                have hnl : (txt x).length = (runesOf x.t).length := by rw [ht1]
                have C1 : ∀ (d : Nat) (c : Nat), (convert 33 9 (.slice (some ⟨rb, j, none⟩) ((runesOf x.t).length) c)).run Try.prog (ww.drewN d) = .ok (.string (runesBytes (txt x))) (ww.drewN d) := fun d c => by
                  have hra2 : RunesAt (ww.drewN d) rb R := hra
                  have := back_text hra2 j ((runesOf x.t).length) c (by omega)
                  rw [← hnl, ← htx] at this
                  rw [← hnl]
                  exact this
                have C2 : ∀ (d : Nat) (c : Nat), (convert 33 9 (.slice (some ⟨wr.heap.size, 0, none⟩) ((runesOf x.t).length) c)).run Try.prog (ww.drewN d) = .ok (.string (runesBytes (txt x))) (ww.drewN d) := fun d c => by
                  have rt2 : RunesAt (ww.drewN d) (wr.heap.size) (txt x) := RT
                  have := back_text rt2 0 ((runesOf x.t).length) c (by omega)
                  rw [← hnl, List.drop_zero, List.take_length] at this
                  rw [← hnl]
                  exact this
                rw [hnl] at hkl htp
                generalize runesBytes (txt x) = S at *
                clear RT htx hra hrbw hglw hgmw ht1 hnl
                have cb : decide ((R.length : Int) < (j : Int) + ((runesOf x.t).length : Int)) = false := decide_eq_false (by omega)
                go_quiet (fail)
                go_wp2
                go_roundw
                case rel => exact ⟨pre ++ [x], post, j, rfl, by rw [HPK.out], by rw [HPK.out], by simp, HS2, hch2, by omega, below_draws BX.out _⟩
                case measure => simp [intOf]; omega
    · obtain ⟨h2, h3⟩ := AR.out.2 hE
      have h4 := FL.out hE
      rw [h2, h3]
      have q : (readErr s != 0) = true := by simp [hE]
      clear AR BR FL CH hE h2 h3 O4 M4 L4
      generalize readErr s = E at *
      generalize readLine s = L at *
      have hL : (2 : Int) ≤ L + 1 := by omega
      go_wp2
      go_ret
      exact ⟨by first | rfl | simp [Act.put], B4.out⟩
  · have hn' : (4000 : Int) < s.size := by omega
    go_wp2
    go_ret
    exact ⟨rfl, B1.out⟩
end Go.Proofs.Ytfnmkgfaoacnpaa
