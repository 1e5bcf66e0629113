/-
  The walk of the statement LineBlank: it answers true for any text, any calls and any number, and turns nothing that was there. No condition beyond those that each theorem states.
-/
import Derived.Test.YtfnmkgfaoacnpaaLikeN
import Derived.Test.YtfnmkgfaoacnpaaSize
import Derived.Test.YtfnmkgfaoacnpaaAwakeL
namespace Go.Proofs.Ytfnmkgfaoacnpaa
open Go.RowKit

set_option maxHeartbeats 4000000 in
set_option maxRecDepth 100000 in
theorem alike_key (g q : Nat) (c d : Cu) (wh least most : Int) (s t : ByteArray) (w : World) (h : CurC w g c) (hr : CurC w q d) (hne : g ≠ q) (hl : Like c d) (hp : pk wh = 0) :
    Calls Try.prog 29 #[.pointer (some ⟨g, 0, none⟩), .pointer (some ⟨q, 0, none⟩), .agg #[.int .i64 wh, .int .i64 least, .int .i64 most, .string s, .string t]] w fun e w' => e = .returned (.bool true) ∧ AftA w w' g q (c.gotA ⟨wh, least, most, s, t⟩) (d.gotA ⟨wh, least, most, s, t⟩) := by
  have PK := Lib.hid (fun W => pick_any wh W)
  have hlt := h.lt
  have M0 : Hid (MidA w (getX w wh least most s t) g q c d wh least most s t) := MidA.start h hr
  have HGc : Hid (c.gotA ⟨wh, least, most, s, t⟩ = c.key s) := by show _ = _; simp [Cu.gotA, Cu.got, hp]
  have HGd : Hid (d.gotA ⟨wh, least, most, s, t⟩ = d.key s) := by show _ = _; simp [Cu.gotA, Cu.got, hp]
  have E1 := Lib.hid (fun w1 h1 => err_any g c w1 h1)
  have E2 := Lib.hid (fun w1 h1 => err_any q d w1 h1)
  have O1 := Lib.hid (fun w1 h1 => more_any g c w1 h1)
  have O2 := Lib.hid (fun w1 h1 => more_any q d w1 h1)
  rw [hp] at PK
  rw [← hl.eErr] at E2
  rw [← hl.more] at O2
  rw [HGc.out, HGd.out]
  have KC : Hid (∀ w1, MidA w w1 g q c d wh least most s t → _) := fun w1 h1 => first_A h1 hlt hne (key_any g c s w1 h1.C)
  have KR : Hid (∀ w1, MidA w w1 g q (c.key s) d wh least most s t → _) := fun w1 h1 => second_A h1 hne (key_any q d s w1 h1.R)
  rw [hl.keyB s] at KC
  generalize c.key s = c' at *
  generalize d.key s = d' at *
  generalize d.keyB s = bb at *
  clear h hr hl hp HGc HGd
  generalize c.eLine = a1 at *
  generalize c.eCol = a2 at *
  generalize d.eLine = b1 at *
  generalize d.eCol = b2 at *
  generalize c.eErr = ee at *
  generalize c.more = mm at *
  go_enter Try.func29, Try.ntmps29
  go_wp2_with fail
  refine (E1.out _ M0.out.C).mono ?_
  rintro e w1 ⟨rfl, hb1⟩
  have M1 := Lib.hid (M0.out.below hb1)
  clear hb1 M0 E1
  go_wp2_with fail
  refine (E2.out _ M1.out.R).mono ?_
  rintro e w2 ⟨rfl, hb2⟩
  have M2 := Lib.hid (M1.out.below hb2)
  clear hb2 M1 E2
  go_wp2_with fail
  refine (O1.out _ M2.out.C).mono ?_
  rintro e w3 ⟨rfl, hb3⟩
  have M3 := Lib.hid (M2.out.below hb3)
  clear hb3 M2 O1
  go_wp2_with fail
  refine (O2.out _ M3.out.R).mono ?_
  rintro e w4 ⟨rfl, hb4⟩
  have M4 := Lib.hid (M3.out.below hb4)
  clear hb4 M3 O2
  have n0 := MidA.c0 M4
  have n1 := MidA.c1 M4
  have n2 := MidA.c2 M4
  have n3 := MidA.c3 M4
  have n4 := MidA.c4 M4
  go_wp2_with fail
  refine (PK.out _).mono ?_
  rintro e w5 ⟨rfl, rfl⟩
  clear n0
  go_wp2_with fail
  go_region_with (first
    | (go_at_call 54; refine (KR.out _ H1.out).mono ?_; rintro e w7 ⟨rfl, h2⟩; have H2 := Lib.hid h2; clear h2)
    | (go_at_call 54; refine (KC.out _ M4.out.drew).mono ?_; rintro e w6 ⟨rfl, h1⟩; have H1 := Lib.hid h1; have m3 := MidA.c3 H1; clear h1))
  all_goals
    go_wp2
    go_ret
    exact ⟨by first | rfl | simp [Act.put], H2.out⟩
set_option maxHeartbeats 4000000 in
set_option maxRecDepth 100000 in
theorem alike_is (g q : Nat) (c d : Cu) (wh least most : Int) (s t : ByteArray) (w : World) (h : CurC w g c) (hr : CurC w q d) (hne : g ≠ q) (hl : Like c d) (hp : pk wh = 1) :
    Calls Try.prog 29 #[.pointer (some ⟨g, 0, none⟩), .pointer (some ⟨q, 0, none⟩), .agg #[.int .i64 wh, .int .i64 least, .int .i64 most, .string s, .string t]] w fun e w' => e = .returned (.bool true) ∧ AftA w w' g q (c.gotA ⟨wh, least, most, s, t⟩) (d.gotA ⟨wh, least, most, s, t⟩) := by
  have PK := Lib.hid (fun W => pick_any wh W)
  have hlt := h.lt
  have M0 : Hid (MidA w (getX w wh least most s t) g q c d wh least most s t) := MidA.start h hr
  have HGc : Hid (c.gotA ⟨wh, least, most, s, t⟩ = c.is s) := by show _ = _; simp [Cu.gotA, Cu.got, hp]
  have HGd : Hid (d.gotA ⟨wh, least, most, s, t⟩ = d.is s) := by show _ = _; simp [Cu.gotA, Cu.got, hp]
  have E1 := Lib.hid (fun w1 h1 => err_any g c w1 h1)
  have E2 := Lib.hid (fun w1 h1 => err_any q d w1 h1)
  have O1 := Lib.hid (fun w1 h1 => more_any g c w1 h1)
  have O2 := Lib.hid (fun w1 h1 => more_any q d w1 h1)
  rw [hp] at PK
  rw [← hl.eErr] at E2
  rw [← hl.more] at O2
  rw [HGc.out, HGd.out]
  have KC : Hid (∀ w1, MidA w w1 g q c d wh least most s t → _) := fun w1 h1 => first_A h1 hlt hne (isI_any g c s w1 h1.C)
  have KR : Hid (∀ w1, MidA w w1 g q (c.is s) d wh least most s t → _) := fun w1 h1 => second_A h1 hne (isI_any q d s w1 h1.R)
  rw [hl.isB s] at KC
  generalize c.is s = c' at *
  generalize d.is s = d' at *
  generalize d.isB s = bb at *
  clear h hr hl hp HGc HGd
  generalize c.eLine = a1 at *
  generalize c.eCol = a2 at *
  generalize d.eLine = b1 at *
  generalize d.eCol = b2 at *
  generalize c.eErr = ee at *
  generalize c.more = mm at *
  go_enter Try.func29, Try.ntmps29
  go_wp2_with fail
  refine (E1.out _ M0.out.C).mono ?_
  rintro e w1 ⟨rfl, hb1⟩
  have M1 := Lib.hid (M0.out.below hb1)
  clear hb1 M0 E1
  go_wp2_with fail
  refine (E2.out _ M1.out.R).mono ?_
  rintro e w2 ⟨rfl, hb2⟩
  have M2 := Lib.hid (M1.out.below hb2)
  clear hb2 M1 E2
  go_wp2_with fail
  refine (O1.out _ M2.out.C).mono ?_
  rintro e w3 ⟨rfl, hb3⟩
  have M3 := Lib.hid (M2.out.below hb3)
  clear hb3 M2 O1
  go_wp2_with fail
  refine (O2.out _ M3.out.R).mono ?_
  rintro e w4 ⟨rfl, hb4⟩
  have M4 := Lib.hid (M3.out.below hb4)
  clear hb4 M3 O2
  have n0 := MidA.c0 M4
  have n1 := MidA.c1 M4
  have n2 := MidA.c2 M4
  have n3 := MidA.c3 M4
  have n4 := MidA.c4 M4
  go_wp2_with fail
  refine (PK.out _).mono ?_
  rintro e w5 ⟨rfl, rfl⟩
  clear n0
  go_wp2_with fail
  go_region_with (first
    | (go_at_call 28; refine (KR.out _ H1.out).mono ?_; rintro e w7 ⟨rfl, h2⟩; have H2 := Lib.hid h2; clear h2)
    | (go_at_call 28; refine (KC.out _ M4.out.drew).mono ?_; rintro e w6 ⟨rfl, h1⟩; have H1 := Lib.hid h1; have m3 := MidA.c3 H1; clear h1))
  all_goals
    go_wp2
    go_ret
    exact ⟨by first | rfl | simp [Act.put], H2.out⟩
theorem alikeL_any (g q : Nat) (c d : Cu) (x : Gt) (w : World) (h : CurC w g c) (hr : CurC w q d) (hne : g ≠ q) (hl : Like c d) :
    Calls Try.prog 29 #[.pointer (some ⟨g, 0, none⟩), .pointer (some ⟨q, 0, none⟩), .agg #[.int .i64 x.what, .int .i64 x.least, .int .i64 x.most, .string x.s, .string x.t]] w fun e w' => e = .returned (.bool true) ∧ AftA w w' g q (c.gotA x) (d.gotA x) := by
  obtain ⟨wh, least, most, s, t⟩ := x
  have hp := pk_bounds wh
  have hcase : pk wh = 0 ∨ pk wh = 1 ∨ pk wh = 2 ∨ pk wh = 3 ∨ pk wh = 4 ∨ pk wh = 5 ∨ pk wh = 6 ∨ pk wh = 7 := by omega
  rcases hcase with hp | hp | hp | hp | hp | hp | hp | hp
  · exact alike_key g q c d wh least most s t w h hr hne hl hp
  · exact alike_is g q c d wh least most s t w h hr hne hl hp
  · exact alike_name g q c d wh least most s t w h hr hne hl hp
  · exact alike_num g q c d wh least most s t w h hr hne hl hp
  · exact alike_mark g q c d wh least most s t w h hr hne hl hp
  · exact alike_end g q c d wh least most s t w h hr hne hl hp
  · exact alike_fail g q c d wh least most s t w h hr hne hl hp
  · exact alike_none g q c d wh least most s t w h hr hne hl hp
theorem expand_snoc (l : List UInt8) (b : UInt8) : expand (l ++ [b]) = expand l ++ (b :: if b = 10 then insB else []) := by
  induction l with
  | nil => by_cases h : b = 10 <;> simp [expand, h]
  | cons a r ih =>
    rw [List.cons_append, expand, expand, ih]
    by_cases h : a = 10 <;> simp [h]
theorem expand_max (l : List UInt8) : (expand l).length ≤ 10 * l.length := by
  induction l with
  | nil => simp [expand]
  | cons b r ih =>
    have hi : insB.length = 9 := rfl
    rw [expand]
    split <;> simp only [List.length_cons, List.length_append] <;> omega
theorem wide_max (l : List UInt8) : (wideB l).size ≤ 10 * l.length + 4 := by
  rw [wide_size]
  have := expand_max l
  omega
theorem one_byte (s : ByteArray) (k : Nat) (h : k < s.size) : (s.extract k (k + 1)).data.toList = [s.get! k] := by
  have := part_text s k 1 (by omega)
  unfold partOf at this
  rw [this]
  unfold textL restB
  have hd : s.data.toList.drop k = s.get! k :: s.data.toList.drop (k + 1) := by
    rw [List.drop_eq_getElem_cons (by simp only [Array.length_toList]; exact h), get_eq s k h]
    rfl
  rw [hd]
  rfl
theorem take_next (s : ByteArray) (k : Nat) (h : k < s.size) : s.data.toList.take (k + 1) = s.data.toList.take k ++ [s.get! k] := by
  rw [List.take_add_one, List.getElem?_eq_getElem (by simp only [Array.length_toList]; exact h), get_eq s k h]
  rfl
theorem wide_plain (s : ByteArray) (k : Nat) (h : k < s.size) (hb : (s.get! k).toNat ≠ 10) : wideB (s.data.toList.take k) ++ s.extract k (k + 1) = wideB (s.data.toList.take (k + 1)) := by
  have h10 : s.get! k ≠ 10 := fun e => hb (by rw [e]; rfl)
  apply ByteArray.ext
  apply Array.toList_inj.1
  rw [ByteArray.data_append, Array.toList_append, one_byte s k h, wide_list, wide_list, take_next s k h, expand_snoc, if_neg h10]
  simp
theorem wide_line (s : ByteArray) (k : Nat) (h : k < s.size) (hb : (s.get! k).toNat = 10) : wideB (s.data.toList.take k) ++ s.extract k (k + 1) ++ ⟨#[9, 59, 32, 226, 134, 146, 10, 10, 32]⟩ = wideB (s.data.toList.take (k + 1)) := by
  have h10 : s.get! k = 10 := UInt8.toNat_inj.1 hb
  apply ByteArray.ext
  apply Array.toList_inj.1
  rw [ByteArray.data_append, ByteArray.data_append, Array.toList_append, Array.toList_append, one_byte s k h, wide_list, wide_list, take_next s k h, expand_snoc, if_pos h10]
  simp [insB]
theorem broken_is {c : Cu} {s : ByteArray} (h : c.isB s = false) : c.is s = c := by unfold Cu.is; rw [h]; rfl
set_option maxHeartbeats 4000000 in
set_option maxRecDepth 100000 in
theorem blank_law (s : ByteArray) (l : List Gt) (a : Option Addr) (ca : Nat) (ee : Int) (w : World) (hz : s.size ≤ 140737488355328) (hC : GetsAt w a l) (hl : l.length ≤ 140737488355328) (hs : ∀ x ∈ l, x.s.size ≤ 140737488355328 ∧ x.t.size ≤ 140737488355328) :
    Calls Try.prog 8 #[.string s, .slice a l.length ca, .int .i64 ee] w fun e w' => e = .returned (.bool true) ∧ Below w.heap.size w w' := by
  have SZ : Hid (∀ w1, GetsAt w1 a l → _) := fun w1 h1 => size_any l a ca w1 h1 hl hs
  have CB : Hid (∀ w1, Below w.heap.size w w1 → GetsAt w1 a l) := fun w1 h1 => hC.below h1
  have HC := Lib.hid hC
  clear hC hs
  go_enter Try.func8, Try.ntmps8
  go_wp2_with fail
  refine (awakeL_any _).mono ?_
  rintro e w0 ⟨rfl, hb0⟩
  have B0 := Lib.hid hb0
  have C0 := Lib.hid (HC.out.below hb0)
  clear hb0 HC
  go_wp2_with fail
  refine (SZ.out _ C0.out).mono ?_
  rintro e w1 ⟨j, d, rfl, hcnt, rfl⟩
  obtain ⟨hj, hcnt, hbd⟩ := hcnt
  have B1 : Hid (Below w.heap.size w (w0.drewN d)) := below_draws B0.out d
  have C1 : Hid (GetsAt (w0.drewN d) a l) := C0.out
  generalize w0.drewN d = w1 at *
  clear SZ B0 C0
  by_cases hn : s.size + totG l j ≤ 3000
  · have hn' : ¬ ((3000 : Int) < s.size + totG l j) := by omega
    have hlen0 : l.length ≤ totG l j := by unfold totG; omega
    have hlen : l.length ≤ 3000 := by omega
    have hsz : s.size ≤ 3000 := by omega
    clear hcnt hj hlen0
    generalize totG l j = TG at *
    go_wp2
    go_loopw [7, 8] (fun v i wr => ∃ k : Nat, v = .string (wideB (s.data.toList.take k)) ∧ i = .int .i64 k ∧ k ≤ s.size ∧ wr = w1) (fun _ i _ => s.size - (intOf i).toNat)
    case atStart => exact ⟨0, rfl, rfl, Nat.zero_le _, rfl⟩
    case round =>
      obtain ⟨k, rfl, rfl, hk, hw⟩ := hrel
      have hw2 := hw.symm
      subst hw2
      clear hw
      have hwm := wide_max (s.data.toList.take k)
      have htl : (s.data.toList.take k).length ≤ 3000 := by rw [List.length_take]; omega
      by_cases hlt : k < s.size
      · have hlt' : (k : Int) < s.size := by omega
        have hk0 : (0 : Int) ≤ k := by omega
        have hxz : (s.extract k (k + 1)).size = 1 := by
          have := part_size s k (k + 1) (by omega)
          unfold partOf at this
          omega
        have hg := get_eq s k hlt
        by_cases h10 : (s[k]'hlt).toNat = 10
        · have q10 : (((s[k]'hlt).toNat : Int) == 10) = true := by simp [h10]
          have HW := Lib.hid (wide_line s k hlt (by rw [hg]; exact h10))
          clear hg h10
          generalize wideB (s.data.toList.take k) = wd at *
          go_wp2
          go_roundw
          case rel => exact ⟨k + 1, by rw [← HW.out], by go_num, by omega, trivial⟩
          case measure => simp [intOf]; omega
        · have q10 : (((s[k]'hlt).toNat : Int) == 10) = false := by simp; omega
          have HW := Lib.hid (wide_plain s k hlt (by rw [hg]; exact h10))
          clear hg h10
          generalize wideB (s.data.toList.take k) = wd at *
          go_wp2
          go_roundw
          case rel => exact ⟨k + 1, by rw [← HW.out], by go_num, by omega, trivial⟩
          case measure => simp [intOf]; omega
      · have hke : k = s.size := by omega
        have hlt' : ¬ (k : Int) < s.size := by omega
        have hlt2 : (s.size : Int) ≤ k := by omega
        have hte : s.data.toList.take k = s.data.toList := by rw [hke]; exact List.take_of_length_le (by simp only [Array.length_toList]; exact Nat.le_refl _)
        rw [hte] at hwm ⊢
        have LK := Lib.hid (like_start s)
        have OK := Lib.hid (start_ok s)
        have hwz : (wideB s.data.toList).size ≤ 100000 := by rw [hte] at htl; omega
        have SC := Lib.hid (overC_any s w1 (by omega))
        have SD : Hid (∀ w2, _) := fun w2 => overC_any (wideB s.data.toList) w2 hwz
        generalize startC (wideB s.data.toList) = d0 at *
        generalize wideB s.data.toList = wd at *
        generalize startC s = c0 at *
        go_wp2_with fail
        refine SC.out.mono ?_
        rintro e w2 ⟨gc, rfl, h2, hg2, hb2⟩
        have H2 := Lib.hid h2
        have B2 := Lib.hid (B1.out.trans (hb2.mono B1.out.size))
        have C2 := Lib.hid (C1.out.below hb2)
        have G2 : Hid (w.heap.size ≤ gc) := Nat.le_trans B1.out.size hg2
        clear h2 hb2 hg2 SC B1 C1
        go_wp2_with fail
        refine (SD.out w2).mono ?_
        rintro e w3 ⟨gd, rfl, h3, hg3, hb3⟩
        have NE : Hid (gc ≠ gd) := by have := H2.out.lt; show _ ≠ _; omega
        have R3 := Lib.hid h3
        have H3 := Lib.hid (H2.out.below hb3)
        have B3 := Lib.hid (B2.out.trans (hb3.mono B2.out.size))
        have C3 := Lib.hid (C2.out.below hb3)
        have G3 : Hid (w.heap.size ≤ gd) := Nat.le_trans B2.out.size hg3
        have D3 : Hid (w3.heap.size ≤ w3.heap.size) := Nat.le_refl _
        clear h3 hb3 hg3 SD B2 C2 H2
        go_wp2
        go_loopw [11] (fun i wr => ∃ (k : Nat) (c d : Cu), i = .int .i64 k ∧ k ≤ l.length ∧ CurC wr gc c ∧ CurC wr gd d ∧ Like c d ∧ c.Ok ∧ Below w.heap.size w wr ∧ GetsAt wr a l) (fun i _ => l.length - (intOf i).toNat)
        case atStart => exact ⟨0, c0, d0, rfl, Nat.zero_le _, H3.out, R3.out, LK.out, OK.out, B3.out, C3.out⟩
        case round =>
          obtain ⟨k, c, d, rfl, hk, hc, hr, hlk, hok, hb, hgt⟩ := hrel
          have H4 := Lib.hid hc
          have R4 := Lib.hid hr
          have L4 := Lib.hid hlk
          have O4 := Lib.hid hok
          have B4 := Lib.hid hb
          have C4 := Lib.hid hgt
          clear hc hr hlk hok hb hgt H3 R3 B3 C3
          by_cases hlt : k < l.length
          · have hlt' : (k : Int) < l.length := by omega
            have hk0 : (0 : Int) ≤ k := by omega
            obtain ⟨x, hx⟩ : ∃ x, l[k]? = some x := ⟨_, List.getElem?_eq_getElem hlt⟩
            obtain ⟨g, o, rfl, hg, n0, n1, n2, n3, n4⟩ := C4.out k x hx
            have SM := Lib.hid (alikeL_any gc gd c d x _ H4.out R4.out NE.out L4.out)
            have LX := Lib.hid (L4.out.gotA x)
            have OX := Lib.hid (O4.out.gotA x)
            clear hx H4 R4 L4 O4
            generalize c.gotA x = c' at *
            generalize d.gotA x = d' at *
            go_wp2_with fail
            refine SM.out.mono ?_
            rintro e w6 ⟨rfl, h6⟩
            have H6 := Lib.hid h6.1
            have R6 := Lib.hid h6.2.1
            have BB : Hid (Below w.heap.size w w6) := B4.out.trans (h6.2.2 _ B4.out.size G2.out G3.out)
            have C6 : Hid (GetsAt w6 (some ⟨g, o, none⟩) l) := CB.out _ BB.out
            clear h6 SM n0 n1 n2 n3 n4
            go_wp2
            go_roundw
            case rel => exact ⟨k + 1, c', d', by go_num, by omega, H6.out, R6.out, LX.out, OX.out, BB.out, C6.out⟩
            case measure => simp [intOf]; omega
          · have hlt' : ¬ (k : Int) < l.length := by omega
            have hlt2 : (l.length : Int) ≤ k := by omega
            have F1 := Lib.hid (failC_any gc c ee _ H4.out)
            have OF := Lib.hid (O4.out.fail ee)
            have FF : Hid (ee ≠ 0 → (c.fail ee).fault ≠ 0) := fail_fault
            clear H4 R4 L4 O4 C4
            generalize c.fail ee = c1 at *
            go_wp2_with fail
            refine F1.out.mono ?_
            rintro e w6 ⟨rfl, h6, k6⟩
            have H6 := Lib.hid h6
            have B6 : Hid (Below w.heap.size w w6) := B4.out.trans (k6.below B4.out.size G2.out)
            clear h6 k6 F1 B4
            have E1 : Hid (∀ w1, CurC w1 gc c1 → _) := fun w1 h1 => err_any gc c1 w1 h1
            have F2 : Hid (∀ w1, CurC w1 gc c1 → _) := fun w1 h1 => failC_any gc c1 2 w1 h1
            have M1 : Hid (∀ w1, CurC w1 gc c1 → _) := fun w1 h1 => more_any gc c1 w1 h1
            have N1 : Hid (∀ w1, CurC w1 gc c1 → _) := fun w1 h1 => nameC_any gc c1 w1 h1
            have U1 : Hid (∀ w1, CurC w1 gc c1 → _) := fun w1 h1 => numC_any gc c1 0 9 w1 h1
            have I1 : Hid (∀ w1, CurC w1 gc c1 → _) := fun w1 h1 => isI_any gc c1 ⟨#[61]⟩ w1 h1
            by_cases he : ee = 0
            · have q : (ee == 0) = true := by simp [he]
              clear F2 M1 N1 U1 I1 he FF
              generalize c1.eLine = a1 at *
              generalize c1.eCol = a2 at *
              generalize c1.eErr = a3 at *
              go_wp2_with fail
              refine (E1.out _ H6.out).mono ?_
              rintro e w7 ⟨rfl, hb7⟩
              have B7 := Lib.hid (B6.out.trans (hb7.mono B6.out.size))
              clear hb7
              go_wp2
              go_ret
              exact ⟨by first | rfl | simp [Act.put], B7.out⟩
            · have q : (ee == 0) = false := by simp [he]
              obtain ⟨t1, t2, t3, t4, t5, t6, t7, t8⟩ := broken_tells OF.out (FF.out he)
              have t9 := broken_is (t7 ⟨#[61]⟩)
              rw [t1] at F2
              rw [t2] at M1
              rw [t3, t4] at N1
              rw [t5, t6] at U1
              rw [t7, t9] at I1
              have q8 : (c1.eErr == 0) = false := by simp [t8]
              clear t1 t2 t3 t4 t5 t6 t7 t8 t9 he FF OF
              generalize c1.eLine = a1 at *
              generalize c1.eCol = a2 at *
              generalize c1.eErr = a3 at *
              go_wp2_with fail
              refine (E1.out _ H6.out).mono ?_
              rintro e w7 ⟨rfl, hb7⟩
              have H7 := Lib.hid (H6.out.below hb7)
              have B7 := Lib.hid (B6.out.trans (hb7.mono B6.out.size))
              clear hb7 H6 B6
              go_wp2_with fail
              refine (F2.out _ H7.out).mono ?_
              rintro e w8 ⟨rfl, h8, k8⟩
              have H8 := Lib.hid h8
              have B8 : Hid (Below w.heap.size w w8) := B7.out.trans (k8.below B7.out.size G2.out)
              clear h8 k8 H7 B7
              go_wp2_with fail
              refine (E1.out _ H8.out).mono ?_
              rintro e w9 ⟨rfl, hb9⟩
              have H9 := Lib.hid (H8.out.below hb9)
              have B9 := Lib.hid (B8.out.trans (hb9.mono B8.out.size))
              clear hb9 H8 B8
              go_wp2_with fail
              refine (M1.out _ H9.out).mono ?_
              rintro e w10 ⟨rfl, hb10⟩
              have H10 := Lib.hid (H9.out.below hb10)
              have B10 := Lib.hid (B9.out.trans (hb10.mono B9.out.size))
              clear hb10 H9 B9
              go_wp2_with fail
              refine (N1.out _ H10.out).mono ?_
              rintro e w11 ⟨rfl, h11, k11⟩
              have H11 := Lib.hid h11
              have B11 : Hid (Below w.heap.size w w11) := B10.out.trans (k11.below B10.out.size G2.out)
              clear h11 k11 H10 B10
              go_wp2_with fail
              refine (U1.out _ H11.out).mono ?_
              rintro e w12 ⟨rfl, h12, k12⟩
              have H12 := Lib.hid h12
              have B12 : Hid (Below w.heap.size w w12) := B11.out.trans (k12.below B11.out.size G2.out)
              clear h12 k12 H11 B11
              go_wp2_with fail
              refine (I1.out _ H12.out).mono ?_
              rintro e w13 ⟨rfl, h13, k13⟩
              have B13 : Hid (Below w.heap.size w w13) := B12.out.trans (k13.below B12.out.size G2.out)
              clear h13 k13 H12 B12
              go_wp2
              go_ret
              exact ⟨by first | rfl | simp, B13.out⟩
  · have hn' : (3000 : Int) < s.size + totG l j := by omega
    go_wp2
    go_ret
    exact ⟨rfl, B1.out⟩
end Go.Proofs.Ytfnmkgfaoacnpaa
