/-
  The document's reading, of a text of at most 100000 bytes, answers what the plain function says and turns nothing that was there. No condition beyond those that each theorem states.
-/
import Derived.Test.YtbjmbahpcoanoaaGreatDoorPk47
import Derived.Test.YtbjmbahpcoanoaaGreatDoorPk21
import Derived.Test.YtbjmbahpcoanoaaGreatDoorPk14
namespace Go.Proofs.YtbjmbahpcoanoaaGreatDoor
open Go.RowKit

set_option maxHeartbeats 4000000 in
set_option maxRecDepth 1000000 in
theorem rread_any (s : ByteArray) (w : World) (hz : s.size ≤ 100000) :
    Calls Tryz.prog 76 #[.string s] w fun e w' => ∃ v, e = .returned (.tuple #[v, .int .i64 (refRead s).2.1, .int .i64 (refRead s).2.2.1, .int .i64 (refRead s).2.2.2]) ∧
     Outs w' w.heap.size v (refRead s).1 ∧ Below w.heap.size w w' := by
 obtain ⟨i0, hi0, hz0, hz1, hz2⟩ := info_parts rword_info
 go_enter Tryz.func76, Tryz.ntmps76
 go_wp2
 go_loopw [6, 7, 8, 9, 10] (fun v l c r k wr => ∃ (f i : Nat) (ws : List Wd) (line col : Int) (rem : Bool) (a : Option Addr) (cp : Nat), v = .slice a ws.length cp ∧ l = .int .i64 line ∧ c = .int .i64 col ∧ r = .bool rem ∧ k = .int .i64 i ∧
     Outs wr w.heap.size v ws ∧ Below w.heap.size w wr ∧ i ≤ s.size ∧ ws.length ≤ i ∧ 1 ≤ line ∧ line ≤ i + 1 ∧ 1 ≤ col ∧ col ≤ i + 1 ∧ s.size ≤ i + f ∧ Hid (refGo s f ws line col rem i = refRead s)) (fun _ _ _ _ k _ => s.size - (intOf k).toNat)
 case atStart => exact ⟨s.size, 0, [], 1, 1, false, none, 0, rfl, rfl, rfl, rfl, rfl, World.ownsRow_nil _ _ _ _, Below.refl _ _, Nat.zero_le _, Nat.le_refl _, by omega, by omega, by omega, by omega, by omega, rfl⟩
 case round =>
  obtain ⟨f, i, ws, line, col, rem, a, cp, rfl, rfl, rfl, rfl, rfl, ho, hb, hi, hw, hl0, hl1, hc0, hc1, hf, HS⟩ := hrel
  have HO := Lib.hid ho
  have HB := Lib.hid hb
  clear ho hb
  by_cases hlt : i < s.size
  · obtain ⟨f, rfl⟩ : ∃ f', f = f' + 1 := ⟨f - 1, by omega⟩
    have hlt' : (i : Int) < s.size := by omega
    have hal := atP_le s i hlt
    have HG : Hid (refRead s = _) := HS.out.symm.trans (by rw [refGo, if_pos hlt])
    have AT := Lib.hid (at_any s i wr hz)
    clear HS
    by_cases hm : (atP s i).2 = 0
    · have q : ((((atP s i).2 : Nat) : Int) == 0) = true := by simp [hm]
      have E : Hid (refRead s = ([], line, col, 6)) := HG.out.trans (if_pos hm)
      clear HG hm
      go_wp2_with fail
      refine AT.out.mono ?_
      rintro e w1 ⟨rfl, rfl⟩
      go_wp2
      refine bodyPost_ret (v := .tuple #[.slice none 0 0, .int .i64 line, .int .i64 col, .int .i64 6]) (by simp [results, Tryz.results76, go_sem]) rfl ⟨.slice none 0 0, by rw [E.out], ?_, HB.out⟩
      rw [E.out]
      exact World.ownsRow_nil _ _ _ _
    have q : ((((atP s i).2 : Nat) : Int) == 0) = false := by simp [hm]
    have HG2 : Hid (refRead s = _) := HG.out.trans (if_neg hm)
    have hm1 : 1 ≤ (atP s i).2 := by omega
    clear HG hm
    by_cases h10 : (atP s i).1 = 10
    · have q10 : ((((atP s i).1 : Nat) : Int) == 10) = true := by simp [h10]
      have E : Hid (refGo s f (ws ++ [⟨4, noText, 0, line, col⟩]) (line + 1) 1 false (i + 1) = refRead s) := (HG2.out.trans (if_pos h10)).symm
      clear HG2 h10
      go_wp2_with fail
      refine AT.out.mono ?_
      rintro e w1 ⟨rfl, rfl⟩
      go_wp2_with (at_builtin; go_must (refine wpList_append_lies _ rfl _ _ _ rfl w.heap.size 121 i0 _ 5 48 Tryz.underlying115 hi0 hz0 hz1 hz2 rfl (by omega) (.slice a ws.length cp) ws.length (ws.flatMap flatW) rfl (World.ownsRow.alloc HO.out _) ⟨wr.heap.size, 0, none⟩ 1 1 (flatW ⟨4, noText, 0, line, col⟩) rfl rfl (World.news_of_block (heap_alloc_new wr _)) (by simp [Value.oneCell', flatW]) (by omega) (by simp only [maxLen]; omega) (by omega) (by have := HB.out.size; simp; omega) (wr.heap.size + 1) (by simp) ?_; intro gg cap w2 hown2 hgrow hat hlt2))
      have HO2 := Lib.hid (Outs.more hown2)
      have HB2 : Hid (Below w.heap.size w w2) := (HB.out.alloc (by have := HB.out.size; omega) _).grown hgrow (by have := HB.out.size; simp; omega) (fun k hk => (HO.out.lt k hk).1)
      clear hown2 hgrow hat hlt2 AT
      go_wp2
      go_roundw
      case rel => exact ⟨f, i + 1, ws ++ [⟨4, noText, 0, line, col⟩], line + 1, 1, false, some ⟨gg, 0, none⟩, cap, by simp, rfl, rfl, rfl, by go_num, HO2.out, HB2.out, by omega, by simp; omega, by omega, by omega, by omega, by omega, by omega, E⟩
      case measure => simp [intOf]; omega
    have HG3 : Hid (refRead s = _) := HG2.out.trans (if_neg h10)
    have q10 : ((((atP s i).1 : Nat) : Int) == 10) = false := by simp; omega
    clear HG2
    have BL := Lib.hid (fun W => blank_any ((atP s i).1 : Int) W)
    by_cases hbl : rem = true ∨ (atP s i).1 = 32 ∨ (atP s i).1 = 9 ∨ (atP s i).1 = 59
    · have E : Hid (refGo s f ws line (col + 1) (rem || decide ((atP s i).1 = 59)) (i + (atP s i).2) = refRead s) := (HG3.out.trans (if_pos hbl)).symm
      clear HG3
      cases hrem : rem
      · rw [hrem] at hbl E
        have hbl2 : (atP s i).1 = 32 ∨ (atP s i).1 = 9 ∨ (atP s i).1 = 59 := by simpa using hbl
        clear hbl
        by_cases h59 : (atP s i).1 = 59
        · have q59 : ((((atP s i).1 : Nat) : Int) == 59) = true := by simp [h59]
          have hbk : decide ((((atP s i).1 : Nat) : Int) = 32 ∨ (((atP s i).1 : Nat) : Int) = 9) = false := by simp; omega
          have E2 : Hid (refGo s f ws line (col + 1) true (i + (atP s i).2) = refRead s) := by have := E.out; rw [decide_eq_true h59] at this; exact this
          rw [hbk] at BL
          clear E h59 hbk hbl2 h10 hrem
          go_wp2_with fail
          refine AT.out.mono ?_
          rintro e w1 ⟨rfl, rfl⟩
          go_wp2_with fail
          refine (BL.out _).mono ?_
          rintro e w1 ⟨rfl, rfl⟩
          go_wp2
          go_roundw
          case rel => exact ⟨f, i + (atP s i).2, ws, line, col + 1, true, a, cp, rfl, rfl, rfl, rfl, by go_num, HO.out, HB.out, by omega, by omega, by omega, by omega, by omega, by omega, by omega, E2⟩
          case measure => simp [intOf]; omega
        · have q59 : ((((atP s i).1 : Nat) : Int) == 59) = false := by simp; omega
          have hbk : decide ((((atP s i).1 : Nat) : Int) = 32 ∨ (((atP s i).1 : Nat) : Int) = 9) = true := by simp; omega
          have E2 : Hid (refGo s f ws line (col + 1) false (i + (atP s i).2) = refRead s) := by have := E.out; rw [decide_eq_false h59] at this; exact this
          rw [hbk] at BL
          clear E h59 hbk hbl2 h10 hrem
          go_wp2_with fail
          refine AT.out.mono ?_
          rintro e w1 ⟨rfl, rfl⟩
          go_wp2_with fail
          refine (BL.out _).mono ?_
          rintro e w1 ⟨rfl, rfl⟩
          go_wp2
          go_roundw
          case rel => exact ⟨f, i + (atP s i).2, ws, line, col + 1, false, a, cp, rfl, rfl, rfl, rfl, by go_num, HO.out, HB.out, by omega, by omega, by omega, by omega, by omega, by omega, by omega, E2⟩
          case measure => simp [intOf]; omega
      · rw [hrem] at E
        clear hbl h10 hrem BL
        go_wp2_with fail
        refine AT.out.mono ?_
        rintro e w1 ⟨rfl, rfl⟩
        go_wp2
        go_roundw
        case rel => exact ⟨f, i + (atP s i).2, ws, line, col + 1, true, a, cp, rfl, rfl, rfl, rfl, by go_num, HO.out, HB.out, by omega, by omega, by omega, by omega, by omega, by omega, by omega, E⟩
        case measure => simp [intOf]; omega
    have HG4 : Hid (refRead s = _) := HG3.out.trans (if_neg hbl)
    have hrem : rem = false := by cases rem <;> simp_all
    subst hrem
    have q59 : ((((atP s i).1 : Nat) : Int) == 59) = false := by simp; omega
    have hbk : decide ((((atP s i).1 : Nat) : Int) = 32 ∨ (((atP s i).1 : Nat) : Int) = 9) = false := by simp; omega
    rw [hbk] at BL
    clear HG3 hbl hbk h10
    have hali : (i : Int) + (atP s i).2 ≤ s.size := by omega
    have hi0i : (0 : Int) ≤ i := by omega
    have NL := Lib.hid (fun W => numbers_any s i W hlt hz)
    have hnle := numLen_le s i hlt
    have HNE : Hid (some wr.heap.size ≠ (Value.slice a ws.length cp).ownBlock) := fun h => by have := (HO.out.lt _ h.symm).2; omega
    by_cases hzl : 0 < numLen s i
    · have HG5 : Hid (refRead s = _) := HG4.out.trans (if_pos hzl)
      have V := Lib.hid (fun W => value_any (s.extract i (i + numLen s i)) W (by have := part_size s i (i + numLen s i) hnle; unfold partOf at this; omega) (by have := part_size s i (i + numLen s i) hnle; unfold partOf at this; omega) (num_digs s i hlt hzl))
      have hsz : (s.extract i (i + numLen s i)).size = numLen s i := by have := part_size s i (i + numLen s i) hnle; unfold partOf at this; omega
      have HG6 : Hid (refRead s = if valOk (s.extract i (i + numLen s i)) = true then
          (if 0 < (atP s (i + numLen s i)).2 ∧ letterB (atP s (i + numLen s i)).1 = true then ([], line, col + numLen s i, 6)
           else refGo s f (ws ++ [⟨2, s.extract i (i + numLen s i), valN (s.extract i (i + numLen s i)), line, col⟩]) line (col + numLen s i) false (i + numLen s i))
       else ([], line, col, 3)) := HG5.out
      clear HG4 HG5
      have AT2 : Hid (∀ W, Calls Tryz.prog 118 #[.string s, .int .i64 ((i : Int) + (numLen s i : Int))] W fun e w' => e = .returned (.tuple #[.int .i32 (atP s (i + numLen s i)).1, .int .i64 (atP s (i + numLen s i)).2]) ∧ W = w') := by
       intro W
       have := at_any s (i + numLen s i) W hz
       rw [Int.natCast_add] at this
       exact this
      generalize numLen s i = z at *
      have hz0' : (0 : Int) < z := by omega
      have hzi : (i : Int) + z ≤ s.size := by omega
      cases hvo : valOk (s.extract i (i + z))
      · have E : Hid (refRead s = ([], line, col, 3)) := by have := HG6.out; rw [hvo] at this; exact this
        rw [hvo] at V
        clear HG6
        go_wp2_with fail
        refine AT.out.mono ?_
        rintro e w1 ⟨rfl, rfl⟩
        go_wp2_with fail
        refine (BL.out _).mono ?_
        rintro e w1 ⟨rfl, rfl⟩
        go_wp2_with fail
        refine (NL.out _).mono ?_
        rintro e w1 ⟨rfl, rfl⟩
        go_wp2_with fail
        refine (V.out _).mono ?_
        rintro e w1 ⟨rfl, rfl⟩
        go_wp2
        refine bodyPost_ret (v := .tuple #[.slice none 0 0, .int .i64 line, .int .i64 col, .int .i64 3]) (by simp [results, Tryz.results76, go_sem]) rfl ⟨.slice none 0 0, by rw [E.out], ?_, HB.out.alloc (by have := HB.out.size; omega) _⟩
        rw [E.out]
        exact World.ownsRow_nil _ _ _ _
      · have HG7 : Hid (refRead s = if 0 < (atP s (i + z)).2 ∧ letterB (atP s (i + z)).1 = true then ([], line, col + z, 6) else refGo s f (ws ++ [⟨2, s.extract i (i + z), valN (s.extract i (i + z)), line, col⟩]) line (col + z) false (i + z)) := by have := HG6.out; rw [hvo, if_pos rfl] at this; exact this
        rw [hvo] at V
        clear HG6 hvo
        generalize valN (s.extract i (i + z)) = v at *
        go_wp2_with fail
        refine AT.out.mono ?_
        rintro e w1 ⟨rfl, rfl⟩
        go_wp2_with fail
        refine (BL.out _).mono ?_
        rintro e w1 ⟨rfl, rfl⟩
        go_wp2_with fail
        refine (NL.out _).mono ?_
        rintro e w1 ⟨rfl, rfl⟩
        go_wp2_with fail
        refine (V.out _).mono ?_
        rintro e w1 ⟨rfl, rfl⟩
        go_wp2_with fail
        go_region
        go_wp2_with fail
        have HC0 : Hid (Blk ((wr.alloc (Obj.cells #[.int .i64 2, .string (s.extract i (i + z)), .int .i64 v, .int .i64 line, .int .i64 col] 121)).drew) wr.heap.size 121 #[.int .i64 2, .string (s.extract i (i + z)), .int .i64 v, .int .i64 line, .int .i64 col]) := Blk.new wr _ _
        have HOW : Hid (Outs ((wr.alloc (Obj.cells #[.int .i64 2, .string (s.extract i (i + z)), .int .i64 v, .int .i64 line, .int .i64 col] 121)).drew) w.heap.size (.slice a ws.length cp) ws) := World.ownsRow.alloc HO.out _
        have HBW : Hid (Below w.heap.size w ((wr.alloc (Obj.cells #[.int .i64 2, .string (s.extract i (i + z)), .int .i64 v, .int .i64 line, .int .i64 col] 121)).drew)) := (HB.out.alloc (by have := HB.out.size; omega) _).drew
        generalize (wr.alloc (Obj.cells #[.int .i64 2, .string (s.extract i (i + z)), .int .i64 v, .int .i64 line, .int .i64 col] 121)).drew = W at *
        have hC := HC0.out
        clear HC0
        by_cases hth : 0 < (atP s (i + z)).2
        · have qth : (0 : Int) < ((atP s (i + z)).2 : Int) := by omega
          cases hlb : letterB ((atP s (i + z)).1 : Int)
          · have E : Hid (refGo s f (ws ++ [⟨2, s.extract i (i + z), v, line, col⟩]) line (col + z) false (i + z) = refRead s) := by
              have := HG7.out
              rw [if_neg (by simp [hlb])] at this
              exact this.symm
            clear HG7
            refine (AT2.out _).mono ?_
            rintro e w1 ⟨rfl, rfl⟩
            go_wp2_with fail
            refine (rletter_any _ _).mono ?_
            rintro e w1 ⟨rfl, rfl⟩
            rw [hlb]
            clear hlb hth qth
            have hGlt := hC.lt
            have t0 := hC.cell 0
            have t1 := hC.cell 1
            have t2 := hC.cell 2
            have t3 := hC.cell 3
            have t4 := hC.cell 4
            simp only [List.getElem?_toArray, List.getElem?_cons_succ, List.getElem?_cons_zero] at t0 t1 t2 t3 t4
            clear hC
            go_wp2_with (at_builtin; go_must (refine wpList_append_lies _ rfl _ _ _ rfl w.heap.size 121 i0 _ 5 48 Tryz.underlying115 hi0 hz0 hz1 hz2 rfl (by omega) (.slice a ws.length cp) ws.length (ws.flatMap flatW) rfl (World.ownsRow.alloc HOW.out _) ⟨W.heap.size, 0, none⟩ 1 1 (flatW ⟨2, s.extract i (i + z), v, line, col⟩) rfl rfl (World.news_of_block (heap_alloc_new W _)) (by simp [Value.oneCell', flatW]) (by omega) (by simp only [maxLen]; omega) (by omega) (by have := HBW.out.size; simp; omega) (W.heap.size + 1) (by simp) ?_; intro gg cap w2 hown2 hgrow hat hlt2; have hcell : w2.cell? ⟨wr.heap.size, 1, none⟩ = some (.string (s.extract i (i + z))) := by (rw [hgrow.cell_far _ (by simp; omega) HNE.out]; go_simp)))
            have HO2 := Lib.hid (Outs.more hown2)
            have HB2 : Hid (Below w.heap.size w w2) := (HBW.out.alloc (by have := HBW.out.size; omega) _).grown hgrow (by have := HBW.out.size; simp; omega) (fun k hk => (HOW.out.lt k hk).1)
            clear hown2 hgrow hat hlt2 hcell t0 t1 t2 t3 t4
            go_roundw
            case rel => exact ⟨f, i + z, ws ++ [⟨2, s.extract i (i + z), v, line, col⟩], line, col + z, false, some ⟨gg, 0, none⟩, cap, by simp, rfl, by go_num, rfl, by go_num, HO2.out, HB2.out, by omega, by simp; omega, by omega, by omega, by omega, by omega, by omega, E⟩
            case measure => simp [intOf]; omega

          · have E : Hid (refRead s = ([], line, col + z, 6)) := by
              have := HG7.out
              rw [if_pos ⟨hth, hlb⟩] at this
              exact this
            clear HG7
            refine (AT2.out _).mono ?_
            rintro e w1 ⟨rfl, rfl⟩
            go_wp2_with fail
            refine (rletter_any _ _).mono ?_
            rintro e w1 ⟨rfl, rfl⟩
            rw [hlb]
            go_wp2
            refine bodyPost_ret (v := .tuple #[.slice none 0 0, .int .i64 line, .int .i64 (col + z), .int .i64 6]) (by simp [results, Tryz.results76, go_sem]) rfl ⟨.slice none 0 0, by rw [E.out], ?_, HBW.out⟩
            rw [E.out]
            exact World.ownsRow_nil _ _ _ _
        · have qth : decide ((0 : Int) < ((atP s (i + z)).2 : Int)) = false := by simp; omega
          have qth2 : decide (0 < (atP s (i + z)).2) = false := by simp; omega
          have E : Hid (refGo s f (ws ++ [⟨2, s.extract i (i + z), v, line, col⟩]) line (col + z) false (i + z) = refRead s) := by
           have := HG7.out
           rw [if_neg (fun h => hth h.1)] at this
           exact this.symm
          clear HG7 hth
          refine (AT2.out _).mono ?_
          rintro e w1 ⟨rfl, rfl⟩
          have hGlt := hC.lt
          have t0 := hC.cell 0
          have t1 := hC.cell 1
          have t2 := hC.cell 2
          have t3 := hC.cell 3
          have t4 := hC.cell 4
          simp only [List.getElem?_toArray, List.getElem?_cons_succ, List.getElem?_cons_zero] at t0 t1 t2 t3 t4
          clear hC
          go_wp2_with (at_builtin; go_must (refine wpList_append_lies _ rfl _ _ _ rfl w.heap.size 121 i0 _ 5 48 Tryz.underlying115 hi0 hz0 hz1 hz2 rfl (by omega) (.slice a ws.length cp) ws.length (ws.flatMap flatW) rfl (World.ownsRow.alloc HOW.out _) ⟨W.heap.size, 0, none⟩ 1 1 (flatW ⟨2, s.extract i (i + z), v, line, col⟩) rfl rfl (World.news_of_block (heap_alloc_new W _)) (by simp [Value.oneCell', flatW]) (by omega) (by simp only [maxLen]; omega) (by omega) (by have := HBW.out.size; simp; omega) (W.heap.size + 1) (by simp) ?_; intro gg cap w2 hown2 hgrow hat hlt2; have hcell : w2.cell? ⟨wr.heap.size, 1, none⟩ = some (.string (s.extract i (i + z))) := by (rw [hgrow.cell_far _ (by simp; omega) HNE.out]; go_simp)))
          have HO2 := Lib.hid (Outs.more hown2)
          have HB2 : Hid (Below w.heap.size w w2) := (HBW.out.alloc (by have := HBW.out.size; omega) _).grown hgrow (by have := HBW.out.size; simp; omega) (fun k hk => (HOW.out.lt k hk).1)
          clear hown2 hgrow hat hlt2 hcell t0 t1 t2 t3 t4
          go_roundw
          case rel => exact ⟨f, i + z, ws ++ [⟨2, s.extract i (i + z), v, line, col⟩], line, col + z, false, some ⟨gg, 0, none⟩, cap, by simp, rfl, by go_num, rfl, by go_num, HO2.out, HB2.out, by omega, by simp; omega, by omega, by omega, by omega, by omega, by omega, E⟩
          case measure => simp [intOf]; omega

    have hzl0 : numLen s i = 0 := by omega
    have HG5 : Hid (refRead s = _) := HG4.out.trans (if_neg hzl)
    rw [hzl0] at NL
    clear HG4 hzl hnle
    have HR := runTo_le s false i hi
    have hmsz : (s.extract i (i + (atP s i).2)).size = (atP s i).2 := by have := part_size s i (i + (atP s i).2) hal; unfold partOf at this; omega
    cases hlb : letterB ((atP s i).1 : Int)
    · cases hsg : signB ((atP s i).1 : Int)
      · have E : Hid (refRead s = ([], line, col, 6)) := by have := HG5.out; rw [if_neg (by simp [hlb]), if_neg (by simp [hsg])] at this; exact this
        clear HG5 HR hzl0
        go_wp2_with fail
        refine AT.out.mono ?_
        rintro e w1 ⟨rfl, rfl⟩
        go_wp2_with fail
        refine (BL.out _).mono ?_
        rintro e w1 ⟨rfl, rfl⟩
        go_wp2_with fail
        refine (NL.out _).mono ?_
        rintro e w1 ⟨rfl, rfl⟩
        go_wp2_with fail
        refine (rletter_any _ _).mono ?_
        rintro e w1 ⟨rfl, rfl⟩
        rw [hlb]
        go_wp2_with fail
        refine (rsign_any _ _).mono ?_
        rintro e w1 ⟨rfl, rfl⟩
        rw [hsg]
        go_wp2
        refine bodyPost_ret (v := .tuple #[.slice none 0 0, .int .i64 line, .int .i64 col, .int .i64 6]) (by simp [results, Tryz.results76, go_sem]) rfl ⟨.slice none 0 0, by rw [E.out], ?_, HB.out.alloc (by have := HB.out.size; omega) _⟩
        rw [E.out]
        exact World.ownsRow_nil _ _ _ _
      · have E : Hid (refGo s f (ws ++ [⟨3, s.extract i (i + (atP s i).2), 0, line, col⟩]) line (col + 1) false (i + (atP s i).2) = refRead s) := by have := HG5.out; rw [if_neg (by simp [hlb]), if_pos hsg] at this; exact this.symm
        clear HG5 HR hzl0
        go_wp2_with fail
        refine AT.out.mono ?_
        rintro e w1 ⟨rfl, rfl⟩
        go_wp2_with fail
        refine (BL.out _).mono ?_
        rintro e w1 ⟨rfl, rfl⟩
        go_wp2_with fail
        refine (NL.out _).mono ?_
        rintro e w1 ⟨rfl, rfl⟩
        go_wp2_with fail
        refine (rletter_any _ _).mono ?_
        rintro e w1 ⟨rfl, rfl⟩
        rw [hlb]
        go_wp2_with fail
        refine (rsign_any _ _).mono ?_
        rintro e w1 ⟨rfl, rfl⟩
        rw [hsg]
        have HC0 : Hid (Blk ((wr.alloc (Obj.cells #[.int .i64 3, .string (s.extract i (i + (atP s i).2)), .int .i64 0, .int .i64 line, .int .i64 col] 121))) wr.heap.size 121 #[.int .i64 3, .string (s.extract i (i + (atP s i).2)), .int .i64 0, .int .i64 line, .int .i64 col]) := Blk.new wr _ _
        have HOW : Hid (Outs ((wr.alloc (Obj.cells #[.int .i64 3, .string (s.extract i (i + (atP s i).2)), .int .i64 0, .int .i64 line, .int .i64 col] 121))) w.heap.size (.slice a ws.length cp) ws) := World.ownsRow.alloc HO.out _
        have HBW : Hid (Below w.heap.size w ((wr.alloc (Obj.cells #[.int .i64 3, .string (s.extract i (i + (atP s i).2)), .int .i64 0, .int .i64 line, .int .i64 col] 121)))) := (HB.out.alloc (by have := HB.out.size; omega) _)
        generalize (wr.alloc (Obj.cells #[.int .i64 3, .string (s.extract i (i + (atP s i).2)), .int .i64 0, .int .i64 line, .int .i64 col] 121)) = W at *
        have hC := HC0.out
        clear HC0
        have hGlt := hC.lt
        have t0 := hC.cell 0
        have t1 := hC.cell 1
        have t2 := hC.cell 2
        have t3 := hC.cell 3
        have t4 := hC.cell 4
        simp only [List.getElem?_toArray, List.getElem?_cons_succ, List.getElem?_cons_zero] at t0 t1 t2 t3 t4
        clear hC
        go_wp2_with (at_builtin; go_must (refine wpList_append_lies _ rfl _ _ _ rfl w.heap.size 121 i0 _ 5 48 Tryz.underlying115 hi0 hz0 hz1 hz2 rfl (by omega) (.slice a ws.length cp) ws.length (ws.flatMap flatW) rfl (World.ownsRow.alloc HOW.out _) ⟨W.heap.size, 0, none⟩ 1 1 (flatW ⟨3, s.extract i (i + (atP s i).2), 0, line, col⟩) rfl rfl (World.news_of_block (heap_alloc_new W _)) (by simp [Value.oneCell', flatW]) (by omega) (by simp only [maxLen]; omega) (by omega) (by have := HBW.out.size; simp; omega) (W.heap.size + 1) (by simp) ?_; intro gg cap w2 hown2 hgrow hat hlt2; have hcell : w2.cell? ⟨wr.heap.size, 1, none⟩ = some (.string (s.extract i (i + (atP s i).2))) := by (rw [hgrow.cell_far _ (by simp; omega) HNE.out]; go_simp)))
        have HO2 := Lib.hid (Outs.more hown2)
        have HB2 : Hid (Below w.heap.size w w2) := (HBW.out.alloc (by have := HBW.out.size; omega) _).grown hgrow (by have := HBW.out.size; simp; omega) (fun k hk => (HOW.out.lt k hk).1)
        clear hown2 hgrow hat hlt2 hcell t0 t1 t2 t3 t4
        go_roundw
        case rel => exact ⟨f, i + (atP s i).2, ws ++ [⟨3, s.extract i (i + (atP s i).2), 0, line, col⟩], line, col + 1, false, some ⟨gg, 0, none⟩, cap, by simp, rfl, by go_num, rfl, by go_num, HO2.out, HB2.out, by omega, by simp; omega, by omega, by omega, by omega, by omega, by omega, E⟩
        case measure => simp [intOf]; omega

    · have R := Lib.hid (fun W => run_false s i W hi hz)
      have HG6 : Hid (refRead s = if 16 < (runTo s false i).2 then ([], line, col, 3)
       else refGo s f (ws ++ [⟨1, s.extract i (runTo s false i).1, 0, line, col⟩]) line (col + (runTo s false i).2) false (runTo s false i).1) := by have := HG5.out; rw [if_pos hlb] at this; exact this
      have hpos : i < (runTo s false i).1 := by
       unfold runTo
       obtain ⟨q, hq⟩ : ∃ q, s.size = q + 1 := ⟨s.size - 1, by omega⟩
       rw [hq, runEnd, if_pos hlt, if_neg (by simp [stopB, hlb]; omega)]
       have := (runEnd_le s false q (i + (atP s i).2) (0 + 1) hal).1
       omega
      obtain ⟨y, hy⟩ : ∃ y, (runTo s false i).1 = i + y := ⟨(runTo s false i).1 - i, by omega⟩
      rw [hy] at HG6 hpos HR
      have hyz : i + y ≤ s.size := HR.2.1
      have hyi : (i : Int) + y ≤ s.size := by omega
      have hy0 : 0 < y := by omega
      have hny : (runTo s false i).2 ≤ y := by omega
      have hysz : (s.extract i (i + y)).size = y := by have := part_size s i (i + y) hyz; unfold partOf at this; omega
      have R2 : Hid (∀ W, Calls Tryz.prog 123 #[.string s, .int .i64 i, .bool false] W fun e w' => e = .returned (.tuple #[.int .i64 (y : Int), .int .i64 (runTo s false i).2]) ∧ W = w') := by
       intro W
       have := R.out W
       rw [hy, Nat.add_sub_cancel_left] at this
       exact this
      clear R HG5 hpos HR hy hzl0
      generalize (runTo s false i).2 = n at *
      by_cases hn : 16 < n
      · have hn' : (16 : Int) < n := by omega
        have E : Hid (refRead s = ([], line, col, 3)) := HG6.out.trans (if_pos hn)
        clear HG6
        go_wp2_with fail
        refine AT.out.mono ?_
        rintro e w1 ⟨rfl, rfl⟩
        go_wp2_with fail
        refine (BL.out _).mono ?_
        rintro e w1 ⟨rfl, rfl⟩
        go_wp2_with fail
        refine (NL.out _).mono ?_
        rintro e w1 ⟨rfl, rfl⟩
        go_wp2_with fail
        refine (rletter_any _ _).mono ?_
        rintro e w1 ⟨rfl, rfl⟩
        rw [hlb]
        go_wp2_with fail
        refine (R2.out _).mono ?_
        rintro e w1 ⟨rfl, rfl⟩
        go_wp2
        refine bodyPost_ret (v := .tuple #[.slice none 0 0, .int .i64 line, .int .i64 col, .int .i64 3]) (by simp [results, Tryz.results76, go_sem]) rfl ⟨.slice none 0 0, by rw [E.out], ?_, HB.out.alloc (by have := HB.out.size; omega) _⟩
        rw [E.out]
        exact World.ownsRow_nil _ _ _ _
      · have hn' : (n : Int) ≤ 16 := by omega
        have E : Hid (refGo s f (ws ++ [⟨1, s.extract i (i + y), 0, line, col⟩]) line (col + n) false (i + y) = refRead s) := (HG6.out.trans (if_neg hn)).symm
        clear HG6 hn
        go_wp2_with fail
        refine AT.out.mono ?_
        rintro e w1 ⟨rfl, rfl⟩
        go_wp2_with fail
        refine (BL.out _).mono ?_
        rintro e w1 ⟨rfl, rfl⟩
        go_wp2_with fail
        refine (NL.out _).mono ?_
        rintro e w1 ⟨rfl, rfl⟩
        go_wp2_with fail
        refine (rletter_any _ _).mono ?_
        rintro e w1 ⟨rfl, rfl⟩
        rw [hlb]
        go_wp2_with fail
        refine (R2.out _).mono ?_
        rintro e w1 ⟨rfl, rfl⟩
        go_wp2_with fail
        go_region
        have HC0 : Hid (Blk ((wr.alloc (Obj.cells #[.int .i64 1, .string (s.extract i (i + y)), .int .i64 0, .int .i64 line, .int .i64 col] 121)).drew) wr.heap.size 121 #[.int .i64 1, .string (s.extract i (i + y)), .int .i64 0, .int .i64 line, .int .i64 col]) := Blk.new wr _ _
        have HOW : Hid (Outs ((wr.alloc (Obj.cells #[.int .i64 1, .string (s.extract i (i + y)), .int .i64 0, .int .i64 line, .int .i64 col] 121)).drew) w.heap.size (.slice a ws.length cp) ws) := World.ownsRow.alloc HO.out _
        have HBW : Hid (Below w.heap.size w ((wr.alloc (Obj.cells #[.int .i64 1, .string (s.extract i (i + y)), .int .i64 0, .int .i64 line, .int .i64 col] 121)).drew)) := (HB.out.alloc (by have := HB.out.size; omega) _).drew
        generalize (wr.alloc (Obj.cells #[.int .i64 1, .string (s.extract i (i + y)), .int .i64 0, .int .i64 line, .int .i64 col] 121)).drew = W at *
        have hC := HC0.out
        clear HC0
        have hGlt := hC.lt
        have t0 := hC.cell 0
        have t1 := hC.cell 1
        have t2 := hC.cell 2
        have t3 := hC.cell 3
        have t4 := hC.cell 4
        simp only [List.getElem?_toArray, List.getElem?_cons_succ, List.getElem?_cons_zero] at t0 t1 t2 t3 t4
        clear hC
        go_wp2_with (at_builtin; go_must (refine wpList_append_lies _ rfl _ _ _ rfl w.heap.size 121 i0 _ 5 48 Tryz.underlying115 hi0 hz0 hz1 hz2 rfl (by omega) (.slice a ws.length cp) ws.length (ws.flatMap flatW) rfl (World.ownsRow.alloc HOW.out _) ⟨W.heap.size, 0, none⟩ 1 1 (flatW ⟨1, s.extract i (i + y), 0, line, col⟩) rfl rfl (World.news_of_block (heap_alloc_new W _)) (by simp [Value.oneCell', flatW]) (by omega) (by simp only [maxLen]; omega) (by omega) (by have := HBW.out.size; simp; omega) (W.heap.size + 1) (by simp) ?_; intro gg cap w2 hown2 hgrow hat hlt2; have hcell : w2.cell? ⟨wr.heap.size, 1, none⟩ = some (.string (s.extract i (i + y))) := by (rw [hgrow.cell_far _ (by simp; omega) HNE.out]; go_simp)))
        have HO2 := Lib.hid (Outs.more hown2)
        have HB2 : Hid (Below w.heap.size w w2) := (HBW.out.alloc (by have := HBW.out.size; omega) _).grown hgrow (by have := HBW.out.size; simp; omega) (fun k hk => (HOW.out.lt k hk).1)
        clear hown2 hgrow hat hlt2 hcell t0 t1 t2 t3 t4
        go_roundw
        case rel => exact ⟨f, i + y, ws ++ [⟨1, s.extract i (i + y), 0, line, col⟩], line, col + n, false, some ⟨gg, 0, none⟩, cap, by simp, rfl, by go_num, rfl, by go_num, HO2.out, HB2.out, by omega, by simp; omega, by omega, by omega, by omega, by omega, by omega, E⟩
        case measure => simp [intOf]; omega

  · have hlt' : (s.size : Int) ≤ i := by omega
    have E : Hid (refRead s = (ws, 0, 0, 0)) := by show _ = _; rw [← HS.out, refGo_end s f _ _ _ _ _ hlt]
    clear HS
    go_wp2
    refine bodyPost_ret (v := .tuple #[.slice a ws.length cp, .int .i64 0, .int .i64 0, .int .i64 0]) (by simp [results, Tryz.results76, go_sem]) rfl ⟨.slice a ws.length cp, ?_, ?_, HB.out⟩
    · rw [E.out]
    · rw [E.out]; exact HO.out
end Go.Proofs.YtbjmbahpcoanoaaGreatDoor
