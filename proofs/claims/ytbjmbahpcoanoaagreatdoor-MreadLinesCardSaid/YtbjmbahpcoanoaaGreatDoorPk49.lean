/-
  The document's cursor over a text. No condition beyond those that each theorem states.
-/
import Derived.Test.YtbjmbahpcoanoaaGreatDoorPk41
import Derived.Test.YtbjmbahpcoanoaaGreatDoorPk48
namespace Go.Proofs.YtbjmbahpcoanoaaGreatDoor
open Go.RowKit

theorem cell_keep {w w' : World} (hb : Below w.heap.size w w') {a : Addr} {v : Value} (h : w.cell? a = some v) : w'.cell? a = some v := by
 unfold World.cell? at *
 cases hk : w.heap[a.block]? with
 | none => simp [hk] at h
 | some o =>
  have hk2 : w'.heap[a.block]? = some o := by rw [hb.block _ (Array.getElem?_eq_some_iff.1 hk).1]; exact hk
  rw [hk2]; rw [hk] at h; exact h
theorem stepR_len (ws : List Wd) : ∀ out : List Wd, (ws.foldl stepR out).length ≤ out.length + ws.length := by
 induction ws with
 | nil => intro out; simp
 | cons x ws ih =>
  intro out
  have h := ih (stepR out x)
  have h2 : (stepR out x).length ≤ out.length + 1 := by unfold stepR; split <;> simp
  simp only [List.foldl_cons, List.length_cons]
  omega
theorem stepR_snoc (pre : List Wd) (x : Wd) : (pre ++ [x]).foldl stepR [] = stepR (pre.foldl stepR []) x := by simp
theorem stepR_keep {out : List Wd} {x : Wd} (h : x.k ≠ 4) : stepR out x = out ++ [x] := by unfold stepR keepsR; simp [h]
theorem stepR_nil {x : Wd} (h : x.k = 4) : stepR [] x = [] := by unfold stepR keepsR; simp [h]
theorem stepR_end {out : List Wd} {x y : Wd} {m : Nat} (h : x.k = 4) (hm : out.length = m + 1) (hy : out[m]? = some y) : stepR out x = if y.k = 4 then out else out ++ [x] := by
 have hl : out.getLast? = some y := by rw [List.getLast?_eq_getElem?, hm]; exact hy
 unfold stepR keepsR
 rw [hl]
 by_cases h4 : y.k = 4 <;> simp [h, h4]
theorem trimR_end {out : List Wd} {y : Wd} {m : Nat} (hm : out.length = m + 1) (hy : out[m]? = some y) : trimR out = if y.k = 4 then out.dropLast else out := by
 have hl : out.getLast? = some y := by rw [List.getLast?_eq_getElem?, hm]; exact hy
 unfold trimR
 rw [hl]
theorem rowR_own {w : World} {B : Nat} {a : Option Addr} {c : Nat} {ws : List Wd} (h : w.ownsRow B 121 5 (.slice a ws.length c) ws.length (ws.flatMap flatW)) : RowR w a ws ∧ ws.length ≤ c ∧ c ≤ 9223372036854775807 := by
 obtain ⟨_, h2⟩ := h
 rcases h2 with ⟨hv, hn⟩ | ⟨g, cap, cur, hv, _, hh, hcap, hm, hs, ht⟩
 · have : ws = [] := List.length_eq_zero_iff.1 hn
   subst this
   simp only [Value.slice.injEq] at hv
   exact ⟨RowR.nil _ _, Nat.zero_le _, by omega⟩
 · simp only [Value.slice.injEq] at hv
   obtain ⟨rfl, _, rfl⟩ := hv
   refine ⟨fun k x hx => ⟨g, 0, cur, rfl, hh, ?_⟩, hcap, by unfold maxLen at hm; omega⟩
   have hlt : k < ws.length := (List.getElem?_eq_some_iff.1 hx).1
   have f : ∀ j, j < 5 → cur[k * 5 + j]? = (flatW x)[j]? := fun j hj => by
    have h1 := flat_at ws k j hj
    rw [hx, ← ht, List.getElem?_take, if_pos (by omega)] at h1
    simpa using h1
   simp only [Nat.zero_add]
   exact ⟨f 0 (by omega), f 1 (by omega), f 2 (by omega), f 3 (by omega), f 4 (by omega)⟩
theorem RowR.init {w : World} {a : Option Addr} {ws : List Wd} (h : RowR w a ws) : RowR w a ws.dropLast := fun k x hx => by
 refine h k x ?_
 rw [List.getElem?_dropLast] at hx
 split at hx
 · exact hx
 · cases hx
set_option maxHeartbeats 4000000 in
set_option maxRecDepth 1000000 in
theorem overR0_any (s : ByteArray) (w : World) (hz : s.size ≤ 100000) : Calls Tryz.prog 32 #[.string s] w fun e w' => ∃ g, e = .returned (.pointer (some ⟨g, 0, none⟩)) ∧ CurR w' g (startC s) ∧ w.heap.size ≤ g ∧ Below w.heap.size w w' := by
 obtain ⟨i0, hi0, hz0, hz1, hz2⟩ := info_parts rword_info
 have hfew := read_few s
 have HP := Lib.hid (prune_same (readWords s) (read_kinds s))
 have HE : Hid (startC s = ⟨pruned (readWords s), readLine s, readCol s, readErr s⟩) := rfl
 have HOK := Lib.hid (start_ok s)
 have R := rread_any s w hz
 rw [read_eq] at R
 generalize pruned (readWords s) = P at *
 generalize readWords s = ws at *
 generalize readLine s = L at *
 generalize readCol s = C at *
 generalize readErr s = E at *
 go_enter Tryz.func32, Tryz.ntmps32
 go_wp2_with fail
 refine R.mono ?_
 rintro e w1 ⟨v, rfl, ho1, hb1⟩
 obtain ⟨a, c, rfl⟩ := own_shape ho1
 have HC := Lib.hid (cells_of_own ho1)
 have HB1 := Lib.hid hb1
 clear ho1 hb1 R
 by_cases hE : E = 0
 · subst hE
   go_wp2
   go_loopw [7, 8] (fun v i wr => ∃ (pre post : List Wd) (b : Option Addr) (cp : Nat), Hid (ws = pre ++ post) ∧ v = .slice b (pre.foldl stepR []).length cp ∧ i = .int .i64 pre.length ∧ wr.ownsRow w1.heap.size 121 5 v (pre.foldl stepR []).length ((pre.foldl stepR []).flatMap flatW) ∧ Below w1.heap.size w1 wr) (fun _ i _ => ws.length - (intOf i).toNat)
   case atStart => exact ⟨[], ws, none, 0, rfl, rfl, rfl, World.ownsRow_nil _ _ _ _, Below.refl _ _⟩
   case round =>
    obtain ⟨pre, post, b, cp, HS, rfl, rfl, ho, hb⟩ := hrel
    have HO := Lib.hid ho
    have HB := Lib.hid hb
    have hol := stepR_len pre []
    simp only [List.length_nil, Nat.zero_add] at hol
    clear ho hb
    cases post with
    | cons x post =>
     have hlen : pre.length + 1 + post.length = ws.length := by rw [HS.out]; simp; omega
     have hlt' : (pre.length : Int) < ws.length := by omega
     have hlt : pre.length < ws.length := by omega
     have hx : ws[pre.length]? = some x := by rw [HS.out]; simp
     obtain ⟨g, rfl, hg, h0, h1, h2, h3, h4⟩ := HC.out _ x hx
     have n0 := cell_keep HB.out h0
     have n1 := cell_keep HB.out h1
     have n2 := cell_keep HB.out h2
     have n3 := cell_keep HB.out h3
     have n4 := cell_keep HB.out h4
     have HN := Lib.hid (stepR_snoc pre x)
     have HS2 : Hid (ws = (pre ++ [x]) ++ post) := by show _ = _; rw [HS.out]; simp
     clear h0 h1 h2 h3 h4 hx
     have hp : pre.length ≤ 100000 := by omega
     have hpc : (0 : Int) ≤ pre.length := by omega
     have hsz := HB.out.size
     generalize pre.foldl stepR [] = o at *
     by_cases hk : x.k = 4
     · have q : (x.k != 4) = false := by simp [hk]
       rcases Nat.eq_zero_or_pos o.length with h0 | h0
       · have ho0 : o = [] := List.length_eq_zero_iff.1 h0
         subst ho0
         have HN2 : Hid ((pre ++ [x]).foldl stepR [] = []) := HN.out.trans (stepR_nil hk)
         clear hk HN HS n1 n2 n3 n4
         go_wp2
         go_roundw
         case rel => exact ⟨pre ++ [x], post, b, cp, HS2, by rw [HN2.out], by simp, by rw [HN2.out]; exact HO.out, HB.out⟩
         case measure => simp [intOf]; omega
       · obtain ⟨m, hm⟩ : ∃ m, o.length = m + 1 := ⟨o.length - 1, by omega⟩
         obtain ⟨y, hy⟩ : ∃ y, o[m]? = some y := ⟨_, List.getElem?_eq_getElem (by omega)⟩
         obtain ⟨gb, rfl, hgb, y0, _⟩ := cells_of_own HO.out _ y hy
         have hst := stepR_end hk hm hy
         have HF : Hid (∀ z, z = o → z.length = m + 1) := fun z hz => by rw [hz]; exact hm
         have hmb : m ≤ 100000 := by omega
         have hm0 : (0 : Int) ≤ m := by omega
         by_cases hy4 : y.k = 4
         · have qy : (y.k != 4) = false := by simp [hy4]
           have HN2 : Hid ((pre ++ [x]).foldl stepR [] = o) := HN.out.trans (by rw [hst, if_pos hy4])
           clear hk HN HS n1 n2 n3 n4 hst hy4 hy
           rw [hm] at *
           go_wp2
           go_roundw
           case rel => exact ⟨pre ++ [x], post, some ⟨gb, 0, none⟩, cp, HS2, by rw [HN2.out, HF.out o rfl], by simp, by rw [HN2.out, HF.out o rfl]; exact HO.out, HB.out⟩
           case measure => simp [intOf]; omega
         · have qy : (y.k != 4) = true := by simp [hy4]
           have HN2 : Hid ((pre ++ [x]).foldl stepR [] = o ++ [x]) := HN.out.trans (by rw [hst, if_neg hy4])
           clear hk HN HS hst hy4 hy
           rw [hm] at *
           go_wp2_with (at_builtin; go_must (refine wpList_append_lies _ rfl _ _ _ rfl w1.heap.size 121 i0 _ 5 48 Tryz.underlying115 hi0 hz0 hz1 hz2 rfl (by omega) (Value.slice (some ⟨gb, 0, none⟩) (m + 1) cp) (m + 1) (o.flatMap flatW) rfl (World.ownsRow.alloc HO.out _) ⟨wr.heap.size, 0, none⟩ 1 1 (flatW x) rfl rfl (World.news_of_block (heap_alloc_new wr _)) (by simp [Value.oneCell', flatW]) (by omega) (by simp only [maxLen]; omega) (by omega) (by have := HB.out.size; simp; omega) (wr.heap.size + 1) (by simp) ?_; intro gg cap w2 hown2 hgrow hat hlt2))
           have HO2 : Hid (w2.ownsRow w1.heap.size 121 5 (.slice (some ⟨gg, 0, none⟩) ((m + 1) + 1) cap) ((m + 1) + 1) ((o ++ [x]).flatMap flatW)) := by
            show World.ownsRow _ _ _ _ _ _ _
            rw [List.flatMap_append]
            simpa using hown2
           have HB2 : Hid (Below w1.heap.size w1 w2) := (HB.out.alloc (by have := HB.out.size; omega) _).grown hgrow (by have := HB.out.size; simp; omega) (fun k hk => (HO.out.lt k hk).1)
           clear hown2 hgrow hat hlt2
           go_wp2
           go_roundw
           case rel => exact ⟨pre ++ [x], post, some ⟨gg, 0, none⟩, cap, HS2, by rw [HN2.out, List.length_append, HF.out o rfl]; rfl, by simp, by rw [HN2.out, List.length_append, HF.out o rfl]; exact HO2.out, HB2.out⟩
           case measure => simp [intOf]; omega
     · have q : (x.k != 4) = true := by simp [hk]
       have HN2 : Hid ((pre ++ [x]).foldl stepR [] = o ++ [x]) := HN.out.trans (stepR_keep hk)
       clear hk HN HS
       go_wp2_with (at_builtin; go_must (refine wpList_append_lies _ rfl _ _ _ rfl w1.heap.size 121 i0 _ 5 48 Tryz.underlying115 hi0 hz0 hz1 hz2 rfl (by omega) (Value.slice b o.length cp) o.length (o.flatMap flatW) rfl (World.ownsRow.alloc HO.out _) ⟨wr.heap.size, 0, none⟩ 1 1 (flatW x) rfl rfl (World.news_of_block (heap_alloc_new wr _)) (by simp [Value.oneCell', flatW]) (by omega) (by simp only [maxLen]; omega) (by omega) (by have := HB.out.size; simp; omega) (wr.heap.size + 1) (by simp) ?_; intro gg cap w2 hown2 hgrow hat hlt2))
       have HO2 : Hid (w2.ownsRow w1.heap.size 121 5 (.slice (some ⟨gg, 0, none⟩) (o.length + 1) cap) (o.length + 1) ((o ++ [x]).flatMap flatW)) := by
        show World.ownsRow _ _ _ _ _ _ _
        rw [List.flatMap_append]
        simpa using hown2
       have HB2 : Hid (Below w1.heap.size w1 w2) := (HB.out.alloc (by have := HB.out.size; omega) _).grown hgrow (by have := HB.out.size; simp; omega) (fun k hk => (HO.out.lt k hk).1)
       clear hown2 hgrow hat hlt2
       go_wp2
       go_roundw
       case rel => exact ⟨pre ++ [x], post, some ⟨gg, 0, none⟩, cap, HS2, by rw [HN2.out, List.length_append]; rfl, by simp, by rw [HN2.out, List.length_append]; exact HO2.out, HB2.out⟩
       case measure => simp [intOf]; omega
    | nil =>
     have hlen : pre.length = ws.length := by rw [HS.out]; simp
     have hlt' : ¬ (pre.length : Int) < ws.length := by omega
     have hlt'' : (ws.length : Int) ≤ pre.length := by omega
     have e : ws = pre := by rw [HS.out]; simp
     have HP2 : Hid (trimR (pre.foldl stepR []) = P) := by rw [← e]; exact HP.out
     have hp : pre.length ≤ 100000 := by omega
     clear HS HP e
     generalize pre.foldl stepR [] = o at *
     have HRW := Lib.hid (rowR_own HO.out)
     have done : ∀ (b' : Option Addr) (cap : Nat), P.length ≤ cap → cap ≤ 9223372036854775807 → RowR wr b' P → ∃ g, w.heap.size ≤ g ∧ g = wr.heap.size ∧ CurR (wr.alloc (.cells #[.slice b' P.length cap, .int .i64 0, .int .i64 0, .int .i64 0] 119)) g (startC s) ∧ Below w.heap.size w (wr.alloc (.cells #[.slice b' P.length cap, .int .i64 0, .int .i64 0, .int .i64 0] 119)) := fun b' cap h1 h2 h3 => by
      have hbn : Below wr.heap.size wr (wr.alloc (.cells #[.slice b' P.length cap, .int .i64 0, .int .i64 0, .int .i64 0] 119)) := (Below.refl _ _).alloc (Nat.le_refl _) _
      have hbb : Below w.heap.size w wr := HB1.out.trans (HB.out.mono HB1.out.size)
      obtain ⟨hz1, hz2⟩ : L = 0 ∧ C = 0 := by have := HOK.out.zero; rw [HE.out] at this; exact this rfl
      refine ⟨wr.heap.size, hbb.size, rfl, ?_, hbb.trans (hbn.mono hbb.size)⟩
      rw [HE.out]
      refine ⟨b', cap, P, ?_, fun _ => rfl, h1, h2, h3.below hbn⟩
      unfold cellsRC
      simp only [hz1, hz2]
      exact Blk.new wr _ _
     have HD := Lib.hid done
     clear done
     rcases Nat.eq_zero_or_pos o.length with h0 | h0
     · have ho0 : o = [] := List.length_eq_zero_iff.1 h0
       subst ho0
       have hP : P = [] := by rw [← HP2.out]; rfl
       subst hP
       have HD2 := Lib.hid (HD.out b cp (Nat.zero_le _) HRW.out.2.2 (RowR.nil _ _))
       clear h0 HP2 HD
       go_wp2
       go_ret
       obtain ⟨g', hg, rfl, hc, hbb⟩ := HD2.out
       exact ⟨wr.heap.size, rfl, hc, hg, hbb⟩
     · obtain ⟨m, hm⟩ : ∃ m, o.length = m + 1 := ⟨o.length - 1, by omega⟩
       obtain ⟨y, hy⟩ : ∃ y, o[m]? = some y := ⟨_, List.getElem?_eq_getElem (by omega)⟩
       obtain ⟨gb, rfl, hgb, y0, _⟩ := cells_of_own HO.out _ y hy
       have hst := trimR_end hm hy
       rw [HP2.out] at hst
       have HF : Hid (∀ z, z = o → z.length = m + 1) := fun z hz => by rw [hz]; exact hm
       have hmb : m ≤ 100000 := by omega
       have hm0 : (0 : Int) ≤ m := by omega
       have hcp := HRW.out.2.1
       have hcm := HRW.out.2.2
       by_cases hy4 : y.k = 4
       · have qy : (y.k == 4) = true := by simp [hy4]
         have hP : P = o.dropLast := by rw [hst, if_pos hy4]
         have hPl : P.length = m := by rw [hP, List.length_dropLast]; omega
         have HD2 := Lib.hid (HD.out (some ⟨gb, 0, none⟩) cp (by omega) HRW.out.2.2 (by rw [hP]; exact HRW.out.1.init))
         rw [hPl] at HD2
         clear hst hy4 hy HP2 HD hPl hP
         rw [hm] at *
         have hcc : (m : Int) ≤ cp := by omega
         go_wp2
         go_ret
         obtain ⟨g', hg, rfl, hc, hbb⟩ := HD2.out
         exact ⟨wr.heap.size, rfl, hc, hg, hbb⟩
       · have qy : (y.k == 4) = false := by simp [hy4]
         have hP : P = o := by rw [hst, if_neg hy4]
         have hPl : P.length = m + 1 := by rw [hP]; exact hm
         have HD2 := Lib.hid (HD.out (some ⟨gb, 0, none⟩) cp (by omega) HRW.out.2.2 (by rw [hP]; exact HRW.out.1))
         rw [hPl] at HD2
         clear hst hy4 hy HP2 HD hPl hP
         rw [hm] at *
         go_wp2
         go_ret
         obtain ⟨g', hg, rfl, hc, hbb⟩ := HD2.out
         exact ⟨wr.heap.size, rfl, hc, hg, hbb⟩
 · have q : (E != 0) = true := by simp [hE]
   go_wp2
   go_ret
   have hbn : Below w1.heap.size w1 (w1.alloc (.cells #[.slice none 0 0, .int .i64 E, .int .i64 L, .int .i64 C] 119)) := (Below.refl _ _).alloc (Nat.le_refl _) _
   refine ⟨w1.heap.size, rfl, ?_, HB1.out.size, HB1.out.trans (hbn.mono HB1.out.size)⟩
   rw [HE.out]
   exact ⟨none, 0, [], Blk.new w1 _ _, fun h => absurd h hE, Nat.le_refl 0, by omega, RowR.nil _ _⟩
end Go.Proofs.YtbjmbahpcoanoaaGreatDoor
