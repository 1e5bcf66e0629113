/-
  The walk of the statement WordBack: it answers true for any words and any text, where the library's tables lie as laid, and turns nothing that was there. No condition beyond those that each theorem states.
-/
import Derived.Test.YtfnmkgfaoacnpaaDoorAlike
namespace Go.Proofs.YtfnmkgfaoacnpaaDoor
open Go.RowKit

/-- Words, bytes and letters, about: what the statement counts. -/
def totB (ws : List Wd) (z k : Nat) : Nat := ws.length + z + ((ws.take k).map (fun x => x.t.size)).sum
theorem totB_next {ws : List Wd} {z k : Nat} {x : Wd} (h : ws[k]? = some x) : totB ws z (k + 1) = totB ws z k + x.t.size := by
  unfold totB
  rw [List.take_add_one, h]
  simp
  omega
theorem totB_all (ws : List Wd) (z : Nat) : totB ws z ws.length = ws.length + z + sizes ws := by
  unfold totB sizes
  rw [List.take_length]
theorem size_mem {ws : List Wd} {x : Wd} (h : x ∈ ws) : x.t.size ≤ sizes ws := by
  obtain ⟨k, hk, hx⟩ := List.getElem_of_mem h
  have : (ws.map (fun x => x.t.size)).sum = ((ws.take k).map (fun x => x.t.size)).sum + ((ws.drop k).map (fun x => x.t.size)).sum := by
    rw [← List.sum_append, ← List.map_append, List.take_append_drop]
  unfold sizes
  rw [this, List.drop_eq_getElem_cons hk, hx]
  simp
  omega
theorem read_fault (s : ByteArray) (h : readErr s ≠ 0) : (readWords s = [] ∧ 1 ≤ readLine s ∧ 1 ≤ readCol s) ∧ (readErr s = 6 ∨ readErr s = 3) := by
  have e := read_eq s
  have gen : ∀ (f i : Nat) (out : List Wd) (l c : Int) (r : Bool), 1 ≤ l → 1 ≤ c → (refGo s f out l c r i).2.2.2 ≠ 0 → ((refGo s f out l c r i).1 = [] ∧ 1 ≤ (refGo s f out l c r i).2.1 ∧ 1 ≤ (refGo s f out l c r i).2.2.1) ∧ ((refGo s f out l c r i).2.2.2 = 6 ∨ (refGo s f out l c r i).2.2.2 = 3) := by
    intro f
    induction f with
    | zero => intro i out l c r _ _ hne; rw [refGo] at hne; exact absurd rfl hne
    | succ f ih =>
      intro i out l c r hl hc
      rw [refGo]
      split
      · split
        · exact fun _ => ⟨⟨rfl, hl, hc⟩, .inl rfl⟩
        split
        · exact ih _ _ _ _ _ (by omega) (by omega)
        split
        · exact ih _ _ _ _ _ hl (by omega)
        split
        · split
          · split
            · exact fun _ => ⟨⟨rfl, hl, by simp only; omega⟩, .inl rfl⟩
            · exact ih _ _ _ _ _ hl (by omega)
          · exact fun _ => ⟨⟨rfl, hl, hc⟩, .inr rfl⟩
        split
        · split
          · exact fun _ => ⟨⟨rfl, hl, hc⟩, .inr rfl⟩
          · exact ih _ _ _ _ _ hl (by omega)
        split
        · exact ih _ _ _ _ _ hl (by omega)
        · exact fun _ => ⟨⟨rfl, hl, hc⟩, .inl rfl⟩
      · exact fun hne => absurd rfl hne
  have := gen s.size 0 [] 1 1 false (by omega) (by omega)
  unfold refRead at e
  rw [e] at this
  exact this h
set_option maxHeartbeats 4000000 in
set_option maxRecDepth 100000 in
theorem backs_any (ws : List Wd) (a : Option Addr) (c : Nat) (s : ByteArray) (w : World) (hT : Tabs w) (hC : CellsO w a ws) (hl : ws.length ≤ 140737488355328) (hs : ∀ x ∈ ws, x.t.size ≤ 140737488355328) (hz : s.size ≤ 140737488355328) :
    Calls Tryd.prog 5 #[.slice a ws.length c, .string s] w fun e w' => e = .returned (.bool true) ∧ Below w.heap.size w w' := by
  have HS := Lib.hid hs
  have HT := Lib.hid hT
  have HC := Lib.hid hC
  clear hs hT hC
  go_enter Tryd.func5, Tryd.ntmps5
  go_wp2_with fail
  refine (awake_any _).mono ?_
  rintro e w1 ⟨rfl, hb1⟩
  have T1 := Lib.hid (HT.out.below hb1)
  have C1 := Lib.hid (HC.out.below hb1)
  have B1 := Lib.hid hb1
  clear hb1 HT HC
  go_wp2
  go_loopw [5, 6] (fun n k wr => ∃ j : Nat, n = .int .i64 (totB ws s.size j) ∧ k = .int .i64 j ∧ j ≤ ws.length ∧ totB ws s.size j ≤ 1000000000000000 ∧ wr = w1) (fun _ k _ => ws.length - (intOf k).toNat)
  case atStart => exact ⟨0, by simp [totB], rfl, Nat.zero_le _, by simp [totB]; omega, rfl⟩
  case round =>
    obtain ⟨j, rfl, rfl, hj, hb, rfl⟩ := hrel
    by_cases hlt : j < ws.length
    · by_cases hn : totB ws s.size j ≤ 4000
      · have hlt' : (j : Int) < ws.length := by omega
        have hn' : (totB ws s.size j : Int) ≤ 4000 := by omega
        obtain ⟨x, hx⟩ : ∃ x, ws[j]? = some x := ⟨_, List.getElem?_eq_getElem hlt⟩
        obtain ⟨g, o, rfl, _, _, n1, _⟩ := C1.out j x hx
        have hxs := HS.out x (List.mem_of_getElem? hx)
        have HX := Lib.hid (totB_next (z := s.size) hx)
        have hj0 : (0 : Int) ≤ j := by omega
        clear hx hb
        go_wp2
        go_roundw
        case rel => exact ⟨j + 1, by rw [HX.out]; go_num, by go_num, by omega, by rw [HX.out]; omega, trivial⟩
        case measure => simp [intOf]; omega
      · have hn' : ¬ (totB ws s.size j : Int) ≤ 4000 := by omega
        have hn2 : (4000 : Int) < totB ws s.size j := by omega
        have hlt' : (j : Int) < ws.length := by omega
        clear hn hb
        go_wp2
        go_ret
        exact ⟨rfl, B1.out⟩
    · have e : j = ws.length := by omega
      subst e
      by_cases hn : totB ws s.size ws.length ≤ 4000
      · have hn' : (totB ws s.size ws.length : Int) ≤ 4000 := by omega
        have htot := totB_all ws s.size
        have hlen : ws.length ≤ 4000 := by omega
        have hsz : s.size ≤ 4000 := by omega
        have HZ : Hid (∀ x ∈ ws, x.t.size ≤ 10000) := fun x hx => by have := size_mem hx; omega
        have STZ : (showText ws).size ≤ 10000 := by have := showText_size ws; omega
        have SH := Lib.hid (showO_any ws a c wr T1.out C1.out (by omega) HZ.out)
        have SR : Hid (showErr ws = 0 → readErr (showText ws) = 0 ∧ (readWords (showText ws)).map key = ws.map key) := shown_read ws
        clear hn hb hlt htot HZ HS
        generalize showText ws = st at *
        go_wp2_with fail
        refine SH.out.mono ?_
        rintro e w2 ⟨rfl, hb2⟩
        have T2 := Lib.hid (T1.out.below hb2)
        have C2 := Lib.hid (C1.out.below hb2)
        have B2 := Lib.hid (B1.out.trans (hb2.mono B1.out.size))
        clear hb2 T1 C1 B1 SH
        by_cases hSE : showErr ws = 0
        · have SR2 := Lib.hid (SR.out hSE)
          generalize showErr ws = SE at *
          subst hSE
          clear SR
          go_wp2_with fail
          refine (read_any st w2 STZ).mono ?_
          rintro e w3 ⟨v, rfl, ho3, hb3⟩
          obtain ⟨p, cp, rfl⟩ := own_shape ho3
          have CP := Lib.hid (cellsO_own ho3)
          have C3 := Lib.hid (C2.out.below hb3)
          have T3 := Lib.hid (T2.out.below hb3)
          have B3 := Lib.hid (B2.out.trans (hb3.mono B2.out.size))
          have PL : (readWords st).length ≤ 100000 := by have := read_len st; omega
          clear ho3 hb3 C2 B2 T2
          generalize readWords st = ps at *
          generalize readErr st = F at *
          generalize readLine st = L2 at *
          generalize readCol st = K2 at *
          obtain ⟨hF, hkeys⟩ := SR2.out
          subst hF
          have AL := Lib.hid (alike_any ps ws p a cp c w3 hkeys PL CP.out C3.out)
          clear hkeys SR2 CP C3
          go_wp2_with fail
          refine AL.out.mono ?_
          rintro e w4 ⟨rfl, d, rfl⟩
          have B4 : Hid (Below w.heap.size w (w3.drewN d)) := below_draws B3.out d
          have T4 : Hid (Tabs (w3.drewN d)) := T3.out.below (below_draws (Below.refl _ _) d)
          generalize w3.drewN d = w4 at *
          clear AL B3 T3
          go_wp2_with fail
          refine (read_any s w4 (by omega)).mono ?_
          rintro e u1 ⟨v, rfl, ho1, hv1⟩
          obtain ⟨m, cm, rfl⟩ := own_shape ho1
          have CM := Lib.hid (cellsO_own ho1)
          have U1 := Lib.hid (T4.out.below hv1)
          have V1 := Lib.hid (B4.out.trans (hv1.mono B4.out.size))
          clear ho1 hv1
          by_cases hE : readErr s = 0
          · have q : (readErr s != 0) = false := by simp [hE]
            have ML : (readWords s).length ≤ 10000 := by have := read_len s; omega
            have MG := (read_good s).2
            have MZ : Hid (∀ x ∈ readWords s, x.t.size ≤ 10000) := fun x hx => by have := size_mem hx; omega
            have MS := Lib.hid (showO_any (readWords s) m cm u1 U1.out CM.out ML MZ.out)
            have MT : (showText (readWords s)).size ≤ 10000 := by have := showText_size (readWords s); have := read_len s; omega
            have MO : Hid (showErr (readWords s) ≠ 0 → ∃ x ∈ readWords s, x.k = 2 ∧ oddB x.t = true) := read_odd s
            have MR : Hid (showErr (readWords s) = 0 → readErr (showText (readWords s)) = 0 ∧ (readWords (showText (readWords s))).map key = (readWords s).map key) := shown_read (readWords s)
            generalize readWords s = ms at *
            generalize readErr s = E at *
            generalize readLine s = L at *
            generalize readCol s = K at *
            subst hE
            clear MG MZ q
            go_wp2_with fail
            refine MS.out.mono ?_
            rintro e u2 ⟨rfl, hv2⟩
            have CM2 := Lib.hid (CM.out.below hv2)
            have V2 := Lib.hid (V1.out.trans (hv2.mono V1.out.size))
            clear hv2 MS CM U1 V1
            by_cases hS : showErr ms = 0
            · have MR2 := Lib.hid (MR.out hS)
              generalize showErr ms = S at *
              subst hS
              generalize showText ms = t at *
              clear MO MR
              go_wp2_with fail
              refine (read_any t u2 MT).mono ?_
              rintro e u3 ⟨v, rfl, ho3, hv3⟩
              obtain ⟨o, co, rfl⟩ := own_shape ho3
              have CO := Lib.hid (cellsO_own ho3)
              have CM3 := Lib.hid (CM2.out.below hv3)
              have V3 := Lib.hid (V2.out.trans (hv3.mono V2.out.size))
              have OL : (readWords t).length ≤ 100000 := by have := read_len t; omega
              clear ho3 hv3 CM2 V2
              generalize readWords t = os at *
              generalize readErr t = F at *
              generalize readLine t = L2 at *
              generalize readCol t = K2 at *
              obtain ⟨hF, hkeys⟩ := MR2.out
              subst hF
              have AL := Lib.hid (alike_any os ms o m co cm u3 hkeys OL CO.out CM3.out)
              clear hkeys MR2 CO CM3
              go_wp2_with fail
              refine AL.out.mono ?_
              rintro e u4 ⟨rfl, d, rfl⟩
              have V4 : Hid (Below w.heap.size w (u3.drewN d)) := below_draws V3.out d
              generalize u3.drewN d = u4 at *
              go_wp2
              go_ret
              exact ⟨by simp [Act.put], V4.out⟩
            · have q : (showErr ms != 0) = true := by simp [hS]
              have OD := Lib.hid (odd_any ms m cm u2 (MO.out hS) (by omega) CM2.out)
              generalize showErr ms = S at *
              generalize showText ms = t at *
              clear MO MR hS
              go_wp2_with fail
              refine OD.out.mono ?_
              rintro e u3 ⟨rfl, rfl⟩
              go_wp2
              go_ret
              exact ⟨rfl, V2.out⟩
          · have q : (readErr s != 0) = true := by simp [hE]
            obtain ⟨⟨f1, f2, f3⟩, f4⟩ := read_fault s hE
            rw [f1] at *
            generalize readErr s = E at *
            generalize readLine s = L at *
            generalize readCol s = K at *
            clear CM U1 f1
            rcases f4 with f4 | f4
            · subst f4
              clear hE q
              go_wp2
              go_ret
              exact ⟨by simp [Act.put], V1.out⟩
            · subst f4
              clear hE q
              go_wp2
              go_ret
              exact ⟨by simp [Act.put], V1.out⟩
        · have qSE : (showErr ws == 0) = false := by simp [hSE]
          generalize showErr ws = SE at *
          clear SR hSE
          go_wp2_with fail
          refine (read_any s w2 (by omega)).mono ?_
          rintro e u1 ⟨v, rfl, ho1, hv1⟩
          obtain ⟨m, cm, rfl⟩ := own_shape ho1
          have CM := Lib.hid (cellsO_own ho1)
          have U1 := Lib.hid (T2.out.below hv1)
          have V1 := Lib.hid (B2.out.trans (hv1.mono B2.out.size))
          clear ho1 hv1
          by_cases hE : readErr s = 0
          · have q : (readErr s != 0) = false := by simp [hE]
            have ML : (readWords s).length ≤ 10000 := by have := read_len s; omega
            have MG := (read_good s).2
            have MZ : Hid (∀ x ∈ readWords s, x.t.size ≤ 10000) := fun x hx => by have := size_mem hx; omega
            have MS := Lib.hid (showO_any (readWords s) m cm u1 U1.out CM.out ML MZ.out)
            have MT : (showText (readWords s)).size ≤ 10000 := by have := showText_size (readWords s); have := read_len s; omega
            have MO : Hid (showErr (readWords s) ≠ 0 → ∃ x ∈ readWords s, x.k = 2 ∧ oddB x.t = true) := read_odd s
            have MR : Hid (showErr (readWords s) = 0 → readErr (showText (readWords s)) = 0 ∧ (readWords (showText (readWords s))).map key = (readWords s).map key) := shown_read (readWords s)
            generalize readWords s = ms at *
            generalize readErr s = E at *
            generalize readLine s = L at *
            generalize readCol s = K at *
            subst hE
            clear MG MZ q
            go_wp2_with fail
            refine MS.out.mono ?_
            rintro e u2 ⟨rfl, hv2⟩
            have CM2 := Lib.hid (CM.out.below hv2)
            have V2 := Lib.hid (V1.out.trans (hv2.mono V1.out.size))
            clear hv2 MS CM U1 V1
            by_cases hS : showErr ms = 0
            · have MR2 := Lib.hid (MR.out hS)
              generalize showErr ms = S at *
              subst hS
              generalize showText ms = t at *
              clear MO MR
              go_wp2_with fail
              refine (read_any t u2 MT).mono ?_
              rintro e u3 ⟨v, rfl, ho3, hv3⟩
              obtain ⟨o, co, rfl⟩ := own_shape ho3
              have CO := Lib.hid (cellsO_own ho3)
              have CM3 := Lib.hid (CM2.out.below hv3)
              have V3 := Lib.hid (V2.out.trans (hv3.mono V2.out.size))
              have OL : (readWords t).length ≤ 100000 := by have := read_len t; omega
              clear ho3 hv3 CM2 V2
              generalize readWords t = os at *
              generalize readErr t = F at *
              generalize readLine t = L2 at *
              generalize readCol t = K2 at *
              obtain ⟨hF, hkeys⟩ := MR2.out
              subst hF
              have AL := Lib.hid (alike_any os ms o m co cm u3 hkeys OL CO.out CM3.out)
              clear hkeys MR2 CO CM3
              go_wp2_with fail
              refine AL.out.mono ?_
              rintro e u4 ⟨rfl, d, rfl⟩
              have V4 : Hid (Below w.heap.size w (u3.drewN d)) := below_draws V3.out d
              generalize u3.drewN d = u4 at *
              go_wp2
              go_ret
              exact ⟨by simp [Act.put], V4.out⟩
            · have q : (showErr ms != 0) = true := by simp [hS]
              have OD := Lib.hid (odd_any ms m cm u2 (MO.out hS) (by omega) CM2.out)
              generalize showErr ms = S at *
              generalize showText ms = t at *
              clear MO MR hS
              go_wp2_with fail
              refine OD.out.mono ?_
              rintro e u3 ⟨rfl, rfl⟩
              go_wp2
              go_ret
              exact ⟨rfl, V2.out⟩
          · have q : (readErr s != 0) = true := by simp [hE]
            obtain ⟨⟨f1, f2, f3⟩, f4⟩ := read_fault s hE
            rw [f1] at *
            generalize readErr s = E at *
            generalize readLine s = L at *
            generalize readCol s = K at *
            clear CM U1 f1
            rcases f4 with f4 | f4
            · subst f4
              clear hE q
              go_wp2
              go_ret
              exact ⟨by simp [Act.put], V1.out⟩
            · subst f4
              clear hE q
              go_wp2
              go_ret
              exact ⟨by simp [Act.put], V1.out⟩
      · have hn' : ¬ (totB ws s.size ws.length : Int) ≤ 4000 := by omega
        have hn2 : (4000 : Int) < totB ws s.size ws.length := by omega
        clear hn hb
        go_wp2
        go_ret
        exact ⟨rfl, B1.out⟩
end Go.Proofs.YtfnmkgfaoacnpaaDoor
