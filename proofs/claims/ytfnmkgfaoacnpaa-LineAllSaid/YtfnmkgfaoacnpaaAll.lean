/-
  The walk of the statement LineAll: it answers true for any text and turns nothing that was there. No condition beyond those that each theorem states.
-/
import Derived.Test.YtfnmkgfaoacnpaaAllM
import Derived.Test.YtfnmkgfaoacnpaaAwakeL
import Derived.BigQuiet
import Derived.Deep.QuietTactic
import Derived.Deep.RegionWith
namespace Go.Proofs.Ytfnmkgfaoacnpaa
open Go.RowKit

theorem CellsA.below {w w' : World} {a : Option Addr} {ws : List Wd} (h : CellsA w a ws) (hb : Below w.heap.size w w') : CellsA w' a ws := fun k x hx => by
  obtain ⟨g, ha, hg, h0, h1, h2, h3, h4⟩ := h k x hx
  exact ⟨g, ha, Nat.lt_of_lt_of_le hg hb.size, (hb.cell hg).trans h0, (hb.cell hg).trans h1, (hb.cell hg).trans h2, (hb.cell hg).trans h3, (hb.cell hg).trans h4⟩
/-- A cursor with just these words left. -/
def clean (ws : List Wd) : Cu := ⟨ws, 0, 0, 0⟩
theorem clean_end {e : Wd} {ws : List Wd} (h : endK e = true) : (clean (e :: ws)).end_ = clean ws := by simp [Cu.end_, clean, endP, h, Cu.pass]
theorem clean_name {x : Wd} {ws : List Wd} (h : x.k = 1) : (clean (x :: ws)).name = clean ws ∧ (clean (x :: ws)).nameT = x.t := by simp [Cu.name, Cu.nameT, clean, nameP, h, Cu.pass]
theorem clean_num {x : Wd} {ws : List Wd} (h : x.k = 2) (hb : -1099511627776 ≤ x.n ∧ x.n ≤ 1099511627776) : (clean (x :: ws)).num (-1099511627776) 1099511627776 = clean ws ∧ (clean (x :: ws)).numN (-1099511627776) 1099511627776 = x.n := by simp [Cu.num, Cu.numN, Cu.numFits, clean, numP, h, Cu.pass, hb]
theorem clean_is {x : Wd} {ws : List Wd} (h : x.k = 3) : (clean (x :: ws)).is x.t = clean ws ∧ (clean (x :: ws)).isB x.t = true := by simp [Cu.is, Cu.isB, Cu.over, clean, signP, h, Cu.pass]
theorem clean_over : (clean []).eLine = 0 ∧ (clean []).eCol = 0 ∧ (clean []).eErr = 0 ∧ (clean []).more = false := ⟨rfl, rfl, rfl, rfl⟩
theorem start_clean (s : ByteArray) (h : readErr s = 0) : startC s = clean (restC false none (readWords s)) := by
  have hz := (start_ok s).zero h
  have h1 : readLine s = 0 := hz.1
  have h2 : readCol s = 0 := hz.2
  show (⟨pruned (readWords s), readLine s, readCol s, readErr s⟩ : Cu) = _
  rw [rest_pruned, h1, h2, h]
  rfl
theorem start_broken (s : ByteArray) (h : readErr s ≠ 0) : (startC s).eLine = readLine s ∧ (startC s).eCol = readCol s ∧ (startC s).eErr = readErr s ∧ (startC s).more = false := by
  have hg := (start_ok s).gone h
  have hf : (startC s).fault ≠ 0 := h
  refine ⟨?_, ?_, ?_, ?_⟩
  · unfold Cu.eLine; rw [if_pos hf]; rfl
  · unfold Cu.eCol; rw [if_pos hf]; rfl
  · unfold Cu.eErr; rw [if_pos hf]; rfl
  · unfold Cu.more; rw [hg]; rfl
/-- A word is got by what it is. -/
structure Got (w : World) (g : Nat) (x : Wd) (ws : List Wd) (B : World) : Prop where
  C : CurC w g (clean (x :: ws))
  W : Below B.heap.size B w
  G : B.heap.size ≤ g
set_option maxHeartbeats 4000000 in
set_option maxRecDepth 100000 in
theorem all_any (s : ByteArray) (w : World) (hz : s.size ≤ 140737488355328) : Calls Try.prog 7 #[.string s] w fun e w' => e = .returned (.bool true) ∧ Below w.heap.size w w' := by
  go_enter Try.func7, Try.ntmps7
  go_wp2_with fail
  refine (awakeL_any _).mono ?_
  rintro e w1 ⟨rfl, hb1⟩
  have B1 := Lib.hid hb1
  clear hb1
  by_cases hn : s.size ≤ 3000
  · have hn' : ¬ (3000 : Int) < s.size := by omega
    have hfew := read_few s
    go_wp2_with fail
    refine (read_any s w1 (by omega)).mono ?_
    rintro e w2 ⟨v, rfl, ho2, hb2⟩
    obtain ⟨a, c, rfl⟩ := own_shape ho2
    have C2 := Lib.hid (cells_of_own ho2)
    have B2 := Lib.hid (B1.out.trans (hb2.mono B1.out.size))
    clear ho2 hb2 B1
    have SC := Lib.hid (overC_any s w2 (by omega))
    have KN := Lib.hid (read_kinds s)
    have BD := Lib.hid (read_bounds s)
    by_cases hE : readErr s = 0
    · have ST := Lib.hid (start_clean s hE)
      rw [ST.out] at SC
      clear ST
      generalize readErr s = E at *
      generalize readLine s = L at *
      generalize readCol s = K at *
      subst hE
      generalize readWords s = ws at *
      go_wp2_with fail
      refine SC.out.mono ?_
      rintro e w3 ⟨g, rfl, h3, hg3, hb3⟩
      have H3 := Lib.hid h3
      have G3 := Lib.hid hg3
      have B3 : Hid (Below w2.heap.size w2 w3) := hb3
      clear h3 hb3 hg3 SC
      go_wp2
      go_loopw [11, 12] (fun o i wr => ∃ (pre post : List Wd) (op : Bool) (b : Option Wd), o = .bool op ∧ i = .int .i64 pre.length ∧ Hid (ws = pre ++ post) ∧ Ahead pre op b ∧ CurC wr g (clean (restC op b post)) ∧ Below w2.heap.size w2 wr) (fun _ i _ => ws.length - (intOf i).toNat)
      case atStart => exact ⟨[], ws, false, none, rfl, rfl, rfl, Ahead.start, H3.out, B3.out⟩
      case round =>
        obtain ⟨pre, post, op, b, rfl, rfl, HS, ha, hc, hb⟩ := hrel
        have H4 := Lib.hid hc
        have B4 := Lib.hid hb
        have A4 := Lib.hid ha
        clear hc hb ha H3 B3
        cases post with
        | cons x post =>
          have hlen : pre.length + 1 + post.length = ws.length := by rw [HS.out]; simp; omega
          have hlt' : (pre.length : Int) < ws.length := by omega
          have hlt : pre.length < ws.length := by omega
          have hx : ws[pre.length]? = some x := by rw [HS.out]; simp
          obtain ⟨gl, rfl, hgl, n0', n1', n2', _, _⟩ := C2.out _ x hx
          have n0 := (B4.out.cell (p := ⟨gl, pre.length * 5, none⟩) hgl).trans n0'
          have CX : Hid (∀ w1, Below w2.heap.size w2 w1 → w1.cell? ⟨gl, pre.length * 5, none⟩ = some (.int .i64 x.k) ∧ w1.cell? ⟨gl, pre.length * 5 + 1, none⟩ = some (.string x.t) ∧ w1.cell? ⟨gl, pre.length * 5 + 2, none⟩ = some (.int .i64 x.n)) := fun w1 h1 => ⟨(h1.cell (p := ⟨gl, pre.length * 5, none⟩) hgl).trans n0', (h1.cell (p := ⟨gl, pre.length * 5 + 1, none⟩) hgl).trans n1', (h1.cell (p := ⟨gl, pre.length * 5 + 2, none⟩) hgl).trans n2'⟩
          clear n0' n1' n2'
          have hkx := KN.out x (List.mem_of_getElem? hx)
          have HBX : Hid (x.k = 2 → -1099511627776 ≤ x.n ∧ x.n ≤ 1099511627776) := BD.out x (List.mem_of_getElem? hx)
          have HS2 : Hid (ws = (pre ++ [x]) ++ post) := by show _ = _; rw [HS.out]; simp
          have hp : pre.length ≤ 100000 := by omega
          have hpc : (0 : Int) ≤ pre.length := by omega
          clear hx
          by_cases hk4 : x.k = 4
          · have q4 : (x.k == 4) = true := by simp [hk4]
            have hek : endK x = true := by simp [endK, hk4]
            have H5 : Hid (CurC wr g (clean (restC op (some (b.getD x)) post))) := by
              have := H4.out
              rw [restC, if_pos hek] at this
              exact this
            have A5 := Lib.hid (A4.out.end_ hek)
            clear hk4 hkx
            go_wp2
            go_roundw
            case rel => exact ⟨pre ++ [x], post, op, some (b.getD x), rfl, by simp, HS2, A5.out, H5.out, B4.out⟩
            case measure => simp [intOf]; omega
          · have q4 : (x.k == 4) = false := by simp [hk4]
            have hek : endK x = false := by
              rcases hkx with h | h | h | h
              · simp [endK, h]
              · simp [endK, h]
              · simp [endK, h]
              · exact absurd h hk4
            have A5 : Hid (Ahead (pre ++ [x]) true none) := Ahead.word hek
            have HR : Hid (restC op b (x :: post) = (if op then b.toList else []) ++ x :: restC true none post) := by show _ = _; rw [restC, if_neg (by rw [hek]; decide)]
            rw [HR.out] at H4
            -- whether an end is ahead of it
            rcases pre.eq_nil_or_concat with hp0 | ⟨pq, y, hp0⟩
            · have hop : op = false := by cases op with
                | false => rfl
                | true => exact absurd hp0 (A4.out.some_ rfl)
              have H6 : Hid (CurC wr g (clean (x :: restC true none post))) := by
                have := H4.out
                rw [hop] at this
                exact this
              subst hop
              clear A4 H4 HR hp0
              rcases hkx with hk | hk | hk | hk
              · have q1 : (x.k == 1) = true := by simp [hk]
                have NM : Hid (Calls Try.prog 26 #[.pointer (some ⟨g, 0, none⟩)] (wr).drew fun e w' => e = .returned (.string x.t) ∧ CurC w' g (clean (restC true none post)) ∧ Below w2.heap.size w2 w') := by
                  have h := nameC_any g _ (wr).drew (H6.out.below (Below.refl _ _).drew)
                  rw [(clean_name hk).1, (clean_name hk).2] at h
                  refine h.mono fun e w' hh => ⟨hh.1, hh.2.1, B4.out.drew.trans (hh.2.2.below (by have := B4.out.size; simpa using this) G3.out)⟩
                have n1 := (CX.out _ B4.out).2.1
                clear hk H6
                go_wp2_with fail
                go_region_with (go_at_call 26; refine NM.out.mono ?_; rintro e7 w7 ⟨rfl, h7, b7⟩; have H7 := Lib.hid h7; have B7 := Lib.hid b7; have n7 := (CX.out w7 b7).2.1; clear h7 b7)
                all_goals
                  go_wp2
                  go_roundw
                  case rel => exact ⟨pre ++ [x], post, true, none, rfl, by simp, HS2, A5.out, H7.out, B7.out⟩
                  case measure => simp [intOf]; omega
              · have q1 : (x.k == 1) = false := by simp [hk]
                have q2 : (x.k == 2) = true := by simp [hk]
                have NM : Hid (Calls Try.prog 27 #[.pointer (some ⟨g, 0, none⟩), .int .i64 (-1099511627776), .int .i64 1099511627776] (wr).drew fun e w' => e = .returned (.int .i64 x.n) ∧ CurC w' g (clean (restC true none post)) ∧ Below w2.heap.size w2 w') := by
                  have h := numC_any g _ (-1099511627776) 1099511627776 (wr).drew (H6.out.below (Below.refl _ _).drew)
                  rw [(clean_num hk (HBX.out hk)).1, (clean_num hk (HBX.out hk)).2] at h
                  refine h.mono fun e w' hh => ⟨hh.1, hh.2.1, B4.out.drew.trans (hh.2.2.below (by have := B4.out.size; simpa using this) G3.out)⟩
                have n2 := (CX.out _ B4.out).2.2
                clear hk H6
                go_wp2_with fail
                go_region_with (go_at_call 27; refine NM.out.mono ?_; rintro e7 w7 ⟨rfl, h7, b7⟩; have H7 := Lib.hid h7; have B7 := Lib.hid b7; have n7 := (CX.out w7 b7).2.2; clear h7 b7)
                all_goals
                  go_wp2
                  go_roundw
                  case rel => exact ⟨pre ++ [x], post, true, none, rfl, by simp, HS2, A5.out, H7.out, B7.out⟩
                  case measure => simp [intOf]; omega
              · have q1 : (x.k == 1) = false := by simp [hk]
                have q2 : (x.k == 2) = false := by simp [hk]
                have NM : Hid (Calls Try.prog 28 #[.pointer (some ⟨g, 0, none⟩), .string x.t] wr fun e w' => e = .returned (.bool true) ∧ CurC w' g (clean (restC true none post)) ∧ Below w2.heap.size w2 w') := by
                  have h := isI_any g _ x.t wr H6.out
                  rw [(clean_is hk).1, (clean_is hk).2] at h
                  refine h.mono fun e w' hh => ⟨hh.1, hh.2.1, B4.out.trans (hh.2.2.below B4.out.size G3.out)⟩
                have n1 := (CX.out _ B4.out).2.1
                clear hk H6
                go_wp2_with fail
                refine NM.out.mono ?_
                rintro e7 w7 ⟨rfl, h7, b7⟩
                have H7 := Lib.hid h7
                have B7 := Lib.hid b7
                clear h7 b7
                go_wp2
                go_roundw
                case rel => exact ⟨pre ++ [x], post, true, none, rfl, by simp, HS2, A5.out, H7.out, B7.out⟩
                case measure => simp [intOf]; omega
              · exact absurd hk hk4
            · have hp1 : pre = pq ++ [y] := by simpa using hp0
              have hpl : pre.length = pq.length + 1 := by rw [hp1]; simp
              have hy : ws[pq.length]? = some y := by rw [HS.out, hp1]; simp
              obtain ⟨gy, hgy, hgyl, m0', _⟩ := C2.out _ y hy
              simp only [Option.some.injEq, Addr.mk.injEq, and_true] at hgy
              subst hgy
              have m0 := (B4.out.cell (p := ⟨gl, pq.length * 5, none⟩) hgl).trans m0'
              clear m0' hgyl
              have hky := KN.out y (List.mem_of_getElem? hy)
              have hpd := A4.out.pend
              rw [hp1, lastEnd_snoc] at hpd
              cases op with
              | false =>
                have H6 : Hid (CurC wr g (clean (x :: restC true none post))) := H4.out
                clear A4 H4 HR hp0 hy hky hpd m0 hpl hp1
                rcases hkx with hk | hk | hk | hk
                · have q1 : (x.k == 1) = true := by simp [hk]
                  have NM : Hid (Calls Try.prog 26 #[.pointer (some ⟨g, 0, none⟩)] (wr).drew fun e w' => e = .returned (.string x.t) ∧ CurC w' g (clean (restC true none post)) ∧ Below w2.heap.size w2 w') := by
                    have h := nameC_any g _ (wr).drew (H6.out.below (Below.refl _ _).drew)
                    rw [(clean_name hk).1, (clean_name hk).2] at h
                    refine h.mono fun e w' hh => ⟨hh.1, hh.2.1, B4.out.drew.trans (hh.2.2.below (by have := B4.out.size; simpa using this) G3.out)⟩
                  have n1 := (CX.out _ B4.out).2.1
                  clear hk H6
                  go_wp2_with fail
                  go_region_with (go_at_call 26; refine NM.out.mono ?_; rintro e7 w7 ⟨rfl, h7, b7⟩; have H7 := Lib.hid h7; have B7 := Lib.hid b7; have n7 := (CX.out w7 b7).2.1; clear h7 b7)
                  all_goals
                    go_wp2
                    go_roundw
                    case rel => exact ⟨pre ++ [x], post, true, none, rfl, by simp, HS2, A5.out, H7.out, B7.out⟩
                    case measure => simp [intOf]; omega
                · have q1 : (x.k == 1) = false := by simp [hk]
                  have q2 : (x.k == 2) = true := by simp [hk]
                  have NM : Hid (Calls Try.prog 27 #[.pointer (some ⟨g, 0, none⟩), .int .i64 (-1099511627776), .int .i64 1099511627776] (wr).drew fun e w' => e = .returned (.int .i64 x.n) ∧ CurC w' g (clean (restC true none post)) ∧ Below w2.heap.size w2 w') := by
                    have h := numC_any g _ (-1099511627776) 1099511627776 (wr).drew (H6.out.below (Below.refl _ _).drew)
                    rw [(clean_num hk (HBX.out hk)).1, (clean_num hk (HBX.out hk)).2] at h
                    refine h.mono fun e w' hh => ⟨hh.1, hh.2.1, B4.out.drew.trans (hh.2.2.below (by have := B4.out.size; simpa using this) G3.out)⟩
                  have n2 := (CX.out _ B4.out).2.2
                  clear hk H6
                  go_wp2_with fail
                  go_region_with (go_at_call 27; refine NM.out.mono ?_; rintro e7 w7 ⟨rfl, h7, b7⟩; have H7 := Lib.hid h7; have B7 := Lib.hid b7; have n7 := (CX.out w7 b7).2.2; clear h7 b7)
                  all_goals
                    go_wp2
                    go_roundw
                    case rel => exact ⟨pre ++ [x], post, true, none, rfl, by simp, HS2, A5.out, H7.out, B7.out⟩
                    case measure => simp [intOf]; omega
                · have q1 : (x.k == 1) = false := by simp [hk]
                  have q2 : (x.k == 2) = false := by simp [hk]
                  have NM : Hid (Calls Try.prog 28 #[.pointer (some ⟨g, 0, none⟩), .string x.t] wr fun e w' => e = .returned (.bool true) ∧ CurC w' g (clean (restC true none post)) ∧ Below w2.heap.size w2 w') := by
                    have h := isI_any g _ x.t wr H6.out
                    rw [(clean_is hk).1, (clean_is hk).2] at h
                    refine h.mono fun e w' hh => ⟨hh.1, hh.2.1, B4.out.trans (hh.2.2.below B4.out.size G3.out)⟩
                  have n1 := (CX.out _ B4.out).2.1
                  clear hk H6
                  go_wp2_with fail
                  refine NM.out.mono ?_
                  rintro e7 w7 ⟨rfl, h7, b7⟩
                  have H7 := Lib.hid h7
                  have B7 := Lib.hid b7
                  clear h7 b7
                  go_wp2
                  go_roundw
                  case rel => exact ⟨pre ++ [x], post, true, none, rfl, by simp, HS2, A5.out, H7.out, B7.out⟩
                  case measure => simp [intOf]; omega
                · exact absurd hk hk4
              | true =>
                by_cases hy4 : y.k = 4
                · have qy : (y.k == 4) = true := by simp [hy4]
                  have hey : endK y = true := by simp [endK, hy4]
                  rw [hey] at hpd
                  cases b with
                  | none => cases hpd
                  | some e =>
                    have hee := A4.out.ends e rfl
                    have EN : Hid (CurC wr g (clean (e :: x :: restC true none post))) := H4.out
                    have EC := Lib.hid (endC_any g _ wr EN.out)
                    rw [clean_end hee] at EC
                    clear A4 H4 HR hp0 hy hky hpd hee hey hy4
                    have HPL : Hid (∀ z : List Wd, z = pre → z.length = pq.length + 1) := fun z hz => by rw [hz]; exact hpl
                    rw [hpl] at n0 CX hlt' hlt hp hpc ⊢
                    go_wp2_with fail
                    refine EC.out.mono ?_
                    rintro e6 w6 ⟨rfl, h6, k6⟩
                    have H6 := Lib.hid h6
                    have B6 : Hid (Below w2.heap.size w2 w6) := B4.out.trans (k6.below B4.out.size G3.out)
                    have n6 := (CX.out _ B6.out).1
                    clear h6 k6 EC EN n0 m0
                    rcases hkx with hk | hk | hk | hk
                    · have q1 : (x.k == 1) = true := by simp [hk]
                      have NM : Hid (Calls Try.prog 26 #[.pointer (some ⟨g, 0, none⟩)] (w6).drew fun e w' => e = .returned (.string x.t) ∧ CurC w' g (clean (restC true none post)) ∧ Below w2.heap.size w2 w') := by
                        have h := nameC_any g _ (w6).drew (H6.out.below (Below.refl _ _).drew)
                        rw [(clean_name hk).1, (clean_name hk).2] at h
                        refine h.mono fun e w' hh => ⟨hh.1, hh.2.1, B6.out.drew.trans (hh.2.2.below (by have := B6.out.size; simpa using this) G3.out)⟩
                      have n1 := (CX.out _ B6.out).2.1
                      clear hk H6
                      go_wp2_with fail
                      go_region_with (go_at_call 26; refine NM.out.mono ?_; rintro e7 w7 ⟨rfl, h7, b7⟩; have H7 := Lib.hid h7; have B7 := Lib.hid b7; have n7 := (CX.out w7 b7).2.1; clear h7 b7)
                      all_goals
                        go_wp2
                        go_roundw
                        case rel => exact ⟨pre ++ [x], post, true, none, rfl, by have := HPL.out pre rfl; simp; omega, HS2, A5.out, H7.out, B7.out⟩
                        case measure => simp [intOf]; omega
                    · have q1 : (x.k == 1) = false := by simp [hk]
                      have q2 : (x.k == 2) = true := by simp [hk]
                      have NM : Hid (Calls Try.prog 27 #[.pointer (some ⟨g, 0, none⟩), .int .i64 (-1099511627776), .int .i64 1099511627776] (w6).drew fun e w' => e = .returned (.int .i64 x.n) ∧ CurC w' g (clean (restC true none post)) ∧ Below w2.heap.size w2 w') := by
                        have h := numC_any g _ (-1099511627776) 1099511627776 (w6).drew (H6.out.below (Below.refl _ _).drew)
                        rw [(clean_num hk (HBX.out hk)).1, (clean_num hk (HBX.out hk)).2] at h
                        refine h.mono fun e w' hh => ⟨hh.1, hh.2.1, B6.out.drew.trans (hh.2.2.below (by have := B6.out.size; simpa using this) G3.out)⟩
                      have n2 := (CX.out _ B6.out).2.2
                      clear hk H6
                      go_wp2_with fail
                      go_region_with (go_at_call 27; refine NM.out.mono ?_; rintro e7 w7 ⟨rfl, h7, b7⟩; have H7 := Lib.hid h7; have B7 := Lib.hid b7; have n7 := (CX.out w7 b7).2.2; clear h7 b7)
                      all_goals
                        go_wp2
                        go_roundw
                        case rel => exact ⟨pre ++ [x], post, true, none, rfl, by have := HPL.out pre rfl; simp; omega, HS2, A5.out, H7.out, B7.out⟩
                        case measure => simp [intOf]; omega
                    · have q1 : (x.k == 1) = false := by simp [hk]
                      have q2 : (x.k == 2) = false := by simp [hk]
                      have NM : Hid (Calls Try.prog 28 #[.pointer (some ⟨g, 0, none⟩), .string x.t] w6 fun e w' => e = .returned (.bool true) ∧ CurC w' g (clean (restC true none post)) ∧ Below w2.heap.size w2 w') := by
                        have h := isI_any g _ x.t w6 H6.out
                        rw [(clean_is hk).1, (clean_is hk).2] at h
                        refine h.mono fun e w' hh => ⟨hh.1, hh.2.1, B6.out.trans (hh.2.2.below B6.out.size G3.out)⟩
                      have n1 := (CX.out _ B6.out).2.1
                      clear hk H6
                      go_wp2_with fail
                      refine NM.out.mono ?_
                      rintro e7 w7 ⟨rfl, h7, b7⟩
                      have H7 := Lib.hid h7
                      have B7 := Lib.hid b7
                      clear h7 b7
                      go_wp2
                      go_roundw
                      case rel => exact ⟨pre ++ [x], post, true, none, rfl, by have := HPL.out pre rfl; simp; omega, HS2, A5.out, H7.out, B7.out⟩
                      case measure => simp [intOf]; omega
                    · exact absurd hk hk4
                · have qy : (y.k == 4) = false := by simp [hy4]
                  have hey : endK y = false := by
                    rcases hky with h | h | h | h
                    · simp [endK, h]
                    · simp [endK, h]
                    · simp [endK, h]
                    · exact absurd h hy4
                  rw [hey] at hpd
                  cases b with
                  | some e => cases hpd
                  | none =>
                    have H6 : Hid (CurC wr g (clean (x :: restC true none post))) := H4.out
                    clear A4 H4 HR hp0 hy hky hpd hey hy4
                    have HPL : Hid (∀ z : List Wd, z = pre → z.length = pq.length + 1) := fun z hz => by rw [hz]; exact hpl
                    rw [hpl] at n0 CX hlt' hlt hp hpc ⊢
                    rcases hkx with hk | hk | hk | hk
                    · have q1 : (x.k == 1) = true := by simp [hk]
                      have NM : Hid (Calls Try.prog 26 #[.pointer (some ⟨g, 0, none⟩)] (wr).drew fun e w' => e = .returned (.string x.t) ∧ CurC w' g (clean (restC true none post)) ∧ Below w2.heap.size w2 w') := by
                        have h := nameC_any g _ (wr).drew (H6.out.below (Below.refl _ _).drew)
                        rw [(clean_name hk).1, (clean_name hk).2] at h
                        refine h.mono fun e w' hh => ⟨hh.1, hh.2.1, B4.out.drew.trans (hh.2.2.below (by have := B4.out.size; simpa using this) G3.out)⟩
                      have n1 := (CX.out _ B4.out).2.1
                      clear hk H6
                      go_wp2_with fail
                      go_region_with (go_at_call 26; refine NM.out.mono ?_; rintro e7 w7 ⟨rfl, h7, b7⟩; have H7 := Lib.hid h7; have B7 := Lib.hid b7; have n7 := (CX.out w7 b7).2.1; clear h7 b7)
                      all_goals
                        go_wp2
                        go_roundw
                        case rel => exact ⟨pre ++ [x], post, true, none, rfl, by have := HPL.out pre rfl; simp; omega, HS2, A5.out, H7.out, B7.out⟩
                        case measure => simp [intOf]; omega
                    · have q1 : (x.k == 1) = false := by simp [hk]
                      have q2 : (x.k == 2) = true := by simp [hk]
                      have NM : Hid (Calls Try.prog 27 #[.pointer (some ⟨g, 0, none⟩), .int .i64 (-1099511627776), .int .i64 1099511627776] (wr).drew fun e w' => e = .returned (.int .i64 x.n) ∧ CurC w' g (clean (restC true none post)) ∧ Below w2.heap.size w2 w') := by
                        have h := numC_any g _ (-1099511627776) 1099511627776 (wr).drew (H6.out.below (Below.refl _ _).drew)
                        rw [(clean_num hk (HBX.out hk)).1, (clean_num hk (HBX.out hk)).2] at h
                        refine h.mono fun e w' hh => ⟨hh.1, hh.2.1, B4.out.drew.trans (hh.2.2.below (by have := B4.out.size; simpa using this) G3.out)⟩
                      have n2 := (CX.out _ B4.out).2.2
                      clear hk H6
                      go_wp2_with fail
                      go_region_with (go_at_call 27; refine NM.out.mono ?_; rintro e7 w7 ⟨rfl, h7, b7⟩; have H7 := Lib.hid h7; have B7 := Lib.hid b7; have n7 := (CX.out w7 b7).2.2; clear h7 b7)
                      all_goals
                        go_wp2
                        go_roundw
                        case rel => exact ⟨pre ++ [x], post, true, none, rfl, by have := HPL.out pre rfl; simp; omega, HS2, A5.out, H7.out, B7.out⟩
                        case measure => simp [intOf]; omega
                    · have q1 : (x.k == 1) = false := by simp [hk]
                      have q2 : (x.k == 2) = false := by simp [hk]
                      have NM : Hid (Calls Try.prog 28 #[.pointer (some ⟨g, 0, none⟩), .string x.t] wr fun e w' => e = .returned (.bool true) ∧ CurC w' g (clean (restC true none post)) ∧ Below w2.heap.size w2 w') := by
                        have h := isI_any g _ x.t wr H6.out
                        rw [(clean_is hk).1, (clean_is hk).2] at h
                        refine h.mono fun e w' hh => ⟨hh.1, hh.2.1, B4.out.trans (hh.2.2.below B4.out.size G3.out)⟩
                      have n1 := (CX.out _ B4.out).2.1
                      clear hk H6
                      go_wp2_with fail
                      refine NM.out.mono ?_
                      rintro e7 w7 ⟨rfl, h7, b7⟩
                      have H7 := Lib.hid h7
                      have B7 := Lib.hid b7
                      clear h7 b7
                      go_wp2
                      go_roundw
                      case rel => exact ⟨pre ++ [x], post, true, none, rfl, by have := HPL.out pre rfl; simp; omega, HS2, A5.out, H7.out, B7.out⟩
                      case measure => simp [intOf]; omega
                    · exact absurd hk hk4
        | nil =>
          have hlen : pre.length = ws.length := by rw [HS.out]; simp
          have hlt' : ¬ (pre.length : Int) < ws.length := by omega
          have hlt'' : (ws.length : Int) ≤ pre.length := by omega
          have H5 : Hid (CurC wr g (clean [])) := H4.out
          have ER := Lib.hid (err_any g _ wr H5.out)
          have MR : Hid (∀ w6, CurC w6 g (clean []) → _) := fun w6 h6 => more_any g _ w6 h6
          rw [clean_over.1, clean_over.2.1, clean_over.2.2.1] at ER
          rw [clean_over.2.2.2] at MR
          clear A4 H4
          go_wp2_with fail
          refine ER.out.mono ?_
          rintro e6 w6 ⟨rfl, hb6⟩
          have H6 := Lib.hid (H5.out.below hb6)
          have B6 : Hid (Below w.heap.size w w6) := B2.out.trans ((B4.out.trans (hb6.mono B4.out.size)).mono B2.out.size)
          clear hb6 ER
          go_wp2_with fail
          refine (MR.out _ H6.out).mono ?_
          rintro e7 w7 ⟨rfl, hb7⟩
          have B7 := Lib.hid (B6.out.trans (hb7.mono B6.out.size))
          clear hb7
          go_wp2
          go_ret
          exact ⟨rfl, B7.out⟩
    · have SB := Lib.hid (start_broken s hE)
      have q : (readErr s != 0) = true := by simp [hE]
      clear hE KN BD
      generalize startC s = c0 at *
      generalize readErr s = E at *
      generalize readLine s = L at *
      generalize readCol s = K at *
      generalize readWords s = ws at *
      go_wp2_with fail
      refine SC.out.mono ?_
      rintro e w3 ⟨g, rfl, h3, hg3, hb3⟩
      have ER := Lib.hid (err_any g c0 w3 h3)
      have MR : Hid (∀ w6, CurC w6 g c0 → _) := fun w6 h6 => more_any g c0 w6 h6
      rw [SB.out.1, SB.out.2.1, SB.out.2.2.1] at ER
      rw [SB.out.2.2.2] at MR
      have H3 := Lib.hid h3
      have B3 := Lib.hid (B2.out.trans (hb3.mono B2.out.size))
      clear h3 hb3 hg3 SC SB
      go_wp2_with fail
      refine ER.out.mono ?_
      rintro e6 w6 ⟨rfl, hb6⟩
      have H6 := Lib.hid (H3.out.below hb6)
      have B6 := Lib.hid (B3.out.trans (hb6.mono B3.out.size))
      clear hb6 ER
      go_wp2_with fail
      refine (MR.out _ H6.out).mono ?_
      rintro e7 w7 ⟨rfl, hb7⟩
      have B7 := Lib.hid (B6.out.trans (hb7.mono B6.out.size))
      clear hb7
      go_wp2
      go_ret
      exact ⟨by simp [Act.put], B7.out⟩
  · have hn' : (3000 : Int) < s.size := by omega
    go_wp2
    go_ret
    exact ⟨rfl, B1.out⟩
end Go.Proofs.Ytfnmkgfaoacnpaa
