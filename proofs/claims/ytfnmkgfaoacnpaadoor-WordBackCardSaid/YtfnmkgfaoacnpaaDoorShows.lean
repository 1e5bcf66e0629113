/-
  The walk of the statement WordShows: it answers true for any words and any rune, where the library's tables lie as laid, and turns nothing that was there. No condition beyond those that each theorem states.
-/
import Derived.Test.YtfnmkgfaoacnpaaDoorRShow
import Derived.Test.YtfnmkgfaoacnpaaDoorTheirs
import Derived.Test.YtfnmkgfaoacnpaaDoorShowNil
namespace Go.Proofs.YtfnmkgfaoacnpaaDoor
open Go.RowKit

/-- Words and letters, about: what the statement counts. -/
def tot (ws : List Wd) (k : Nat) : Nat := ws.length + ((ws.take k).map (fun x => x.t.size)).sum
theorem tot_next {ws : List Wd} {k : Nat} {x : Wd} (h : ws[k]? = some x) : tot ws (k + 1) = tot ws k + x.t.size := by
  unfold tot
  rw [List.take_add_one, h]
  simp
  omega
theorem tot_mono (ws : List Wd) (k : Nat) : tot ws k ≤ tot ws ws.length := by
  unfold tot
  have h : ((ws.take k).map (fun x => x.t.size)).sum ≤ ((ws.take ws.length).map (fun x => x.t.size)).sum := by
    rw [List.take_length]
    have : (ws.map (fun x => x.t.size)).sum = ((ws.take k).map (fun x => x.t.size)).sum + ((ws.drop k).map (fun x => x.t.size)).sum := by
      rw [← List.sum_append, ← List.map_append, List.take_append_drop]
    omega
  omega
theorem tot_size {ws : List Wd} {x : Wd} (h : x ∈ ws) : x.t.size ≤ tot ws ws.length := by
  obtain ⟨k, hk, hx⟩ := List.getElem_of_mem h
  have h1 := tot_next (ws := ws) (k := k) (x := x) (by rw [List.getElem?_eq_getElem hk, hx])
  have h2 := tot_mono ws (k + 1)
  omega
theorem CellsAt.flat {w : World} {g o : Nat} {ws : List Wd} (h : CellsAt w g o ws) : ∀ j u, (ws.flatMap flatW)[j]? = some u → w.cell? ((⟨g, o, none⟩ : Addr).add j) = some u := by
  intro j u hu
  have e : j = (j / 5) * 5 + j % 5 := by omega
  rw [e, flat_at ws (j / 5) (j % 5) (by omega)] at hu
  cases hx : ws[j / 5]? with
  | none => rw [hx] at hu; simp at hu
  | some x =>
    rw [hx] at hu
    obtain ⟨h0, h1, h2, h3, h4⟩ := h _ x hx
    have ha : (⟨g, o, none⟩ : Addr).add j = ⟨g, o + j / 5 * 5 + j % 5, none⟩ := by
      unfold Addr.add
      split
      · subst_vars; simp
      · simp; omega
    rw [ha]
    have hr : j % 5 = 0 ∨ j % 5 = 1 ∨ j % 5 = 2 ∨ j % 5 = 3 ∨ j % 5 = 4 := by omega
    simp only [Option.bind_some, flatW] at hu
    rcases hr with hr | hr | hr | hr | hr <;> rw [hr] at hu ⊢ <;> simp at hu <;> subst hu <;> assumption
theorem flat_size (ws : List Wd) : (ws.flatMap flatW).length = ws.length * 5 := by
  induction ws with
  | nil => rfl
  | cons x ws ih => rw [List.flatMap_cons, List.length_append, ih]; simp [flatW]; omega
theorem flat_one (ws : List Wd) : ∀ u ∈ ws.flatMap flatW, u.oneCell' = true := by
  intro u hu
  obtain ⟨x, _, hx⟩ := List.mem_flatMap.1 hu
  simp only [flatW, List.mem_cons, List.not_mem_nil, or_false] at hx
  rcases hx with rfl | rfl | rfl | rfl | rfl <;> rfl
theorem own_cells {w : World} {B e g n cap : Nat} {xs : List Wd} (h : w.ownsRow B e 5 (.slice (some ⟨g, 0, none⟩) n cap) n (xs.flatMap flatW)) : CellsAt w g 0 xs := fun k x hx => by
  have := own_word h hx
  simpa using this
theorem word_info2 : (Tryd.prog.info? 25).map (fun i => (i.zero, i.size, i.bytes)) = some (some (.agg #[.int .i64 0, .string noText, .int .i64 0, .int .i64 0, .int .i64 0]), 5, 48) := by kernel_rfl
set_option maxHeartbeats 1000000 in
set_option maxRecDepth 100000 in
theorem shows_some (ws : List Wd) (g o c : Nat) (r : Int) (w : World) (hT : Tabs w) (hC : CellsAt w g o ws) (hg : g < w.heap.size) (h0 : 0 < ws.length) (hl : ws.length ≤ maxLen) (hs : ∀ x ∈ ws, x.t.size ≤ 140737488355328) :
    Calls Tryd.prog 3 #[.slice (some ⟨g, o, none⟩) ws.length c, .int .i32 r] w fun e w' => e = .returned (.bool true) ∧ Below w.heap.size w w' := by
  obtain ⟨i0, hi0, hz0, hz1, hz2⟩ := info_parts word_info2
  unfold maxLen at hl
  have HS := Lib.hid hs
  have HT := Lib.hid hT
  have HC := Lib.hid hC
  clear hs hT hC
  go_enter Tryd.func3, Tryd.ntmps3
  go_wp2
  go_loopw [5, 6] (fun n k wr => ∃ j : Nat, n = .int .i64 (tot ws j) ∧ k = .int .i64 j ∧ j ≤ ws.length ∧ (j = 0 ∨ tot ws j ≤ 140737488360000) ∧ wr = w) (fun _ k _ => ws.length - (intOf k).toNat)
  case atStart => exact ⟨0, by simp [tot], rfl, Nat.zero_le _, .inl rfl, rfl⟩
  case round =>
    obtain ⟨j, rfl, rfl, hj, hb, hw⟩ := hrel
    have hw2 := hw.symm
    subst hw2
    clear hw
    have hbt : (tot ws j : Int) ≤ 9223372036854775807 := by
      rcases hb with rfl | hb
      · simp [tot]; omega
      · omega
    by_cases hlt : j < ws.length
    · by_cases hn : tot ws j ≤ 4000
      · have hlt' : (j : Int) < ws.length := by omega
        have hn' : (tot ws j : Int) ≤ 4000 := by omega
        obtain ⟨x, hx⟩ : ∃ x, ws[j]? = some x := ⟨_, List.getElem?_eq_getElem hlt⟩
        have n1 := (HC.out j x hx).2.1
        have hxs := HS.out x (List.mem_of_getElem? hx)
        have HX := Lib.hid (tot_next hx)
        have hj0 : (0 : Int) ≤ j := by omega
        clear hx hb
        go_wp2
        go_roundw
        case rel => exact ⟨j + 1, by rw [HX.out]; go_num, by go_num, by omega, .inr (by rw [HX.out]; omega), trivial⟩
        case measure => simp [intOf]; omega
      · have hn' : ¬ (tot ws j : Int) ≤ 4000 := by omega
        have hn2 : (4000 : Int) < tot ws j := by omega
        have hlt' : (j : Int) < ws.length := by omega
        clear hn hb
        go_wp2_with fail
        refine (awake_any _).mono ?_
        rintro e w1 ⟨rfl, hb1⟩
        have HB1 := Lib.hid hb1
        clear hb1
        go_wp2
        go_ret
        exact ⟨rfl, HB1.out⟩
    · have e : j = ws.length := by omega
      subst e
      by_cases hn : tot ws ws.length ≤ 4000
      · have hn' : (tot ws ws.length : Int) ≤ 4000 := by omega
        have hlen : ws.length ≤ 4000 := by have : ws.length ≤ tot ws ws.length := by unfold tot; omega
                                           omega
        have HZ : Hid (∀ x ∈ ws, x.t.size ≤ 10000) := fun x hx => by have := tot_size hx; omega
        have CF := Lib.hid HC.out.flat
        clear hb hlt
        go_wp2_with (at_builtin; go_must (refine wpList_append_lies _ rfl _ _ _ rfl w.heap.size 25 i0 _ 5 48 Tryd.underlying22 hi0 hz0 hz1 hz2 rfl (by omega) (.slice (some ⟨w.heap.size, 0, none⟩) 0 0) 0 [] rfl (World.ownsRow_lit w #[] 0 (Nat.le_refl _) (by simp [maxLen]) (by simp)) ⟨g, o, none⟩ ws.length c (ws.flatMap flatW) rfl (flat_size ws) (fun j u hu => by exact (World.cell?_alloc_lt _ _ _ (by rw [show (Addr.add ⟨g, o, none⟩ j).block = g by unfold Addr.add; split <;> rfl]; exact hg)).trans (CF.out j u hu)) (flat_one ws) (by omega) (by simp only [maxLen]; omega) (by omega) (by simp) (w.heap.size + 1) (by simp) ?_; intro gg cap w2 hown2 hgrow hat hlt2))
        have C2 : Hid (CellsAt w2 gg 0 ws) := own_cells (by simpa using hown2)
        have B2 : Hid (Below w.heap.size w w2) := ((Below.refl _ w).alloc (Nat.le_refl _) _).grown hgrow (by simp) (fun k hk => by simp [Value.ownBlock] at hk; omega)
        have hz : w.heap.size < w2.heap.size := by have := hgrow.size; simp at this; omega
        have hgg : gg < w2.heap.size := hlt2
        clear hown2 hgrow hat hlt2 hbt hn
        have HW : Hid (Tabs w2) := by have := HT.out.below B2.out; exact this
        go_wp2_with fail
        refine (show_any ws gg 0 cap w2 HW.out C2.out (by omega) HZ.out).mono ?_
        rintro e w3 ⟨rfl, hb3⟩
        have C3 : Hid (CellsAt w3 gg 0 ws) := C2.out.below hb3
        have D3 : Hid (CellsAt w3 g o ws) := (HC.out.below B2.out).below hb3
        have HB3 := Lib.hid (B2.out.trans (hb3.mono B2.out.size))
        have HT3 := Lib.hid (HW.out.below hb3)
        have hz3 : w.heap.size < w3.heap.size := by have := hb3.size; omega
        have hg3 : gg < w3.heap.size := by have := hb3.size; omega
        clear hb3 C2 HW B2
        go_wp2_with fail
        refine (theirs_any ws g o c w3 D3.out (by omega) (by omega)).mono ?_
        rintro e w4 ⟨v, rfl, ho4, hb4⟩
        obtain ⟨g4, cap4, rfl, _⟩ := World.ownsRow.form ho4 h0
        have E4 : Hid (CellsAt w4 g4 0 ws) := own_cells ho4
        have C4 : Hid (CellsAt w4 gg 0 ws) := C3.out.below hb4
        have D4 : Hid (CellsAt w4 g o ws) := D3.out.below hb4
        have HT4 := Lib.hid (HT3.out.below hb4)
        have HB4 := Lib.hid (HB3.out.trans (hb4.mono HB3.out.size))
        clear hb4 ho4 C3 D3 HT3 HB3
        go_wp2_with fail
        refine (rshow_any ws g4 0 cap4 w4 HT4.out E4.out (by omega) HZ.out).mono ?_
        rintro e w5 ⟨rfl, hb5⟩
        have C5 : Hid (CellsAt w5 gg 0 ws) := C4.out.below hb5
        have D5 : Hid (CellsAt w5 g o ws) := D4.out.below hb5
        have HB5 := Lib.hid (HB4.out.trans (hb5.mono HB4.out.size))
        clear hb5 C4 D4 E4 HT4 HB4 HT HC CF
        generalize showText ws = ST at *
        generalize showErr ws = SE at *
        go_wp2_with fail
        go_loopw [12] (fun k wr => ∃ j d : Nat, k = .int .i64 j ∧ j ≤ ws.length ∧ wr = w5.drewN d) (fun k _ => ws.length - (intOf k).toNat)
        case atStart => exact ⟨0, 0, rfl, Nat.zero_le _, rfl⟩
        case round =>
          obtain ⟨j, d, rfl, hj, rfl⟩ := hrel
          by_cases hlt : j < ws.length
          · have hlt' : (j : Int) < ws.length := by omega
            have hj0 : (0 : Int) ≤ j := by omega
            obtain ⟨x, hx⟩ : ∃ x, ws[j]? = some x := ⟨_, List.getElem?_eq_getElem hlt⟩
            obtain ⟨a0, a1, a2, a3, a4⟩ := C5.out j x hx
            obtain ⟨b0, b1, b2, b3, b4⟩ := D5.out j x hx
            simp only [Nat.zero_add] at a0 a1 a2 a3 a4
            clear hx
            go_wp2_with fail
            go_quiet (fail)
            go_wp2
            go_roundw
            case rel => exact ⟨j + 1, _, by go_num, by omega, rfl⟩
            case measure => simp [intOf]; omega
          · have hlt' : (ws.length : Int) ≤ j := by omega
            have HB6 : Hid (Below w.heap.size w (w5.drewN d)) := below_draws HB5.out d
            generalize w5.drewN d = w6 at *
            go_wp2_with fail
            refine (letter_any _ _).mono ?_
            rintro e w7 ⟨rfl, rfl⟩
            go_wp2_with fail
            refine (rletter_any _ _).mono ?_
            rintro e w7 ⟨rfl, rfl⟩
            go_wp2_with fail
            refine (sign_any _ _).mono ?_
            rintro e w7 ⟨rfl, rfl⟩
            go_wp2_with fail
            refine (rsign_any _ _).mono ?_
            rintro e w7 ⟨rfl, rfl⟩
            go_wp2_with fail
            refine (awake_any _).mono ?_
            rintro e w7 ⟨rfl, hb7⟩
            have HB7 : Hid (Below w.heap.size w w7) := HB6.out.trans (hb7.mono HB6.out.size)
            clear hb7
            go_wp2
            go_ret
            exact ⟨rfl, HB7.out⟩
      · have hn' : ¬ (tot ws ws.length : Int) ≤ 4000 := by omega
        have hn2 : (4000 : Int) < tot ws ws.length := by omega
        clear hn hb
        go_wp2_with fail
        refine (awake_any _).mono ?_
        rintro e w1 ⟨rfl, hb1⟩
        have HB1 := Lib.hid hb1
        clear hb1
        go_wp2
        go_ret
        exact ⟨rfl, HB1.out⟩
end Go.Proofs.YtfnmkgfaoacnpaaDoor
