/-
  Package line's cursor: names, numbers, ends and signs are got. No condition beyond those that each theorem states.
  A cursor that fits: few words, none too long; no step makes them more. No condition beyond those that each theorem states.
-/
import Derived.Test.YthiipgahbmoiiaaGreatDoorPk13
import Derived.Test.YthiipgahbmoiiaaGreatDoorPk10
namespace Go.Proofs.YthiipgahbmoiiaaGreatDoor
open Go.RowKit

theorem nameC_any (g : Nat) (c : Cu) (w : World) (h : CurC w g c) : Calls Tryz.prog 164 #[.pointer (some ⟨g, 0, none⟩)] w fun e w' => e = .returned (.string c.nameT) ∧ CurC w' g c.name ∧ Keep w.heap.size g w w' := by
  have N := Lib.hid (now_any g c w h)
  have H := Lib.hid h
  have E : Hid (c.name = (if (nameP c.left.head?).2 then c.pass else c.fail 7) ∧ c.nameT = (nameP c.left.head?).1) := ⟨rfl, rfl⟩
  have O : Hid (∀ w1, CurC w1 g c → Calls Tryz.prog 126 #[.pointer (some ⟨g, 0, none⟩), .bool (nameP c.left.head?).2] w1 fun e w' => e = .returned (.bool (nameP c.left.head?).2) ∧ CurC w' g (c.over (nameP c.left.head?).2) ∧ Keep w1.heap.size g w1 w') := fun w1 h1 => over_any g c _ w1 h1 (fun hb => name_head hb)
  have F : Hid (∀ w1, CurC w1 g c → _) := fun w1 h1 => failC_any g c 7 w1 h1
  rw [E.out.1, E.out.2]
  clear h E
  generalize c.left.head? = o at *
  have A := Lib.hid (fun w => asName_any o w)
  generalize nameP o = p at *
  obtain ⟨t, b⟩ := p
  simp only at A O ⊢
  cases b
  · go_enter Tryz.func164, Tryz.ntmps164
    go_wp2_with fail
    refine N.out.mono ?_
    rintro e w1 ⟨rfl, hb1⟩
    have H1 := Lib.hid (H.out.below hb1)
    have HB1 := Lib.hid hb1
    clear hb1 N
    go_wp2_with fail
    refine (A.out w1).mono ?_
    rintro e w2 ⟨rfl, hb2⟩
    have H2 := Lib.hid (H1.out.below hb2)
    have HB2 := Lib.hid (HB1.out.trans (hb2.mono HB1.out.size))
    clear hb2 H1 HB1
    go_wp2_with fail
    refine (O.out _ H2.out).mono ?_
    rintro e w3 ⟨rfl, h3, k3⟩
    have H3 := Lib.hid h3
    have K3 := Lib.hid (Keep.below_then HB2.out k3)
    clear h3 k3 O
    go_wp2_with fail
    refine (F.out _ H3.out).mono ?_
    rintro e w4 ⟨rfl, h4, k4⟩
    have H4 := Lib.hid h4
    have K4 := Lib.hid (K3.out.then_keep k4)
    clear h4 k4 F
    go_wp2
    go_ret
    exact ⟨rfl, H4.out, K4.out⟩
  · go_enter Tryz.func164, Tryz.ntmps164
    go_wp2_with fail
    refine N.out.mono ?_
    rintro e w1 ⟨rfl, hb1⟩
    have H1 := Lib.hid (H.out.below hb1)
    have HB1 := Lib.hid hb1
    clear hb1 N
    go_wp2_with fail
    refine (A.out w1).mono ?_
    rintro e w2 ⟨rfl, hb2⟩
    have H2 := Lib.hid (H1.out.below hb2)
    have HB2 := Lib.hid (HB1.out.trans (hb2.mono HB1.out.size))
    clear hb2 H1 HB1
    go_wp2_with fail
    refine (O.out _ H2.out).mono ?_
    rintro e w3 ⟨rfl, h3, k3⟩
    have H3 := Lib.hid h3
    have K3 := Lib.hid (Keep.below_then HB2.out k3)
    clear h3 k3 O
    go_wp2
    go_ret
    exact ⟨rfl, H3.out, K3.out⟩
set_option maxHeartbeats 1000000 in
theorem numC_any (g : Nat) (c : Cu) (least most : Int) (w : World) (h : CurC w g c) : Calls Tryz.prog 128 #[.pointer (some ⟨g, 0, none⟩), .int .i64 least, .int .i64 most] w fun e w' => e = .returned (.int .i64 (c.numN least most)) ∧ CurC w' g (c.num least most) ∧ Keep w.heap.size g w w' := by
  have N := Lib.hid (now_any g c w h)
  have H := Lib.hid h
  have E : Hid (c.num least most = (if (numP c.left.head?).2 then (if c.numFits least most then c.pass else c.fail 3) else c.fail 7) ∧ c.numN least most = (if (numP c.left.head?).2 && c.numFits least most then (numP c.left.head?).1 else 0) ∧ c.numFits least most = decide (least ≤ (numP c.left.head?).1 ∧ (numP c.left.head?).1 ≤ most)) := ⟨rfl, rfl, rfl⟩
  have O : Hid ((numP c.left.head?).2 = true → ∀ b w1, CurC w1 g c → Calls Tryz.prog 126 #[.pointer (some ⟨g, 0, none⟩), .bool b] w1 fun e w' => e = .returned (.bool b) ∧ CurC w' g (c.over b) ∧ Keep w1.heap.size g w1 w') := fun hn b w1 h1 => over_any g c _ w1 h1 (fun _ => num_head hn)
  have F : Hid (∀ ee w1, CurC w1 g c → _) := fun ee w1 h1 => failC_any g c ee w1 h1
  rw [E.out.1, E.out.2.1, E.out.2.2]
  clear h E
  generalize c.left.head? = o at *
  have A := Lib.hid (fun w => asNumber_any o w)
  generalize numP o = p at *
  obtain ⟨n, b⟩ := p
  simp only at A O ⊢
  cases b
  · simp only [Bool.false_and, Bool.false_eq_true, if_false]
    go_enter Tryz.func128, Tryz.ntmps128
    go_wp2_with fail
    refine N.out.mono ?_
    rintro e w1 ⟨rfl, hb1⟩
    have H1 := Lib.hid (H.out.below hb1)
    have HB1 := Lib.hid hb1
    clear hb1 N
    go_wp2_with fail
    refine (A.out w1).mono ?_
    rintro e w2 ⟨rfl, hb2⟩
    have H2 := Lib.hid (H1.out.below hb2)
    have HB2 := Lib.hid (HB1.out.trans (hb2.mono HB1.out.size))
    clear hb2 H1 HB1
    go_wp2_with fail
    refine (F.out _ _ H2.out).mono ?_
    rintro e w4 ⟨rfl, h4, k4⟩
    have H4 := Lib.hid h4
    have K4 := Lib.hid (Keep.below_then HB2.out k4)
    clear h4 k4 F
    go_wp2
    go_ret
    exact ⟨rfl, H4.out, K4.out⟩
  · by_cases hf : least ≤ n ∧ n ≤ most
    · obtain ⟨hf1, hf2⟩ := hf
      have hd : decide (least ≤ n ∧ n ≤ most) = true := by simp; exact ⟨hf1, hf2⟩
      simp only [hd, Bool.true_and, if_true]
      clear hd
      go_enter Tryz.func128, Tryz.ntmps128
      go_wp2_with fail
      refine N.out.mono ?_
      rintro e w1 ⟨rfl, hb1⟩
      have H1 := Lib.hid (H.out.below hb1)
      have HB1 := Lib.hid hb1
      clear hb1 N
      go_wp2_with fail
      refine (A.out w1).mono ?_
      rintro e w2 ⟨rfl, hb2⟩
      have H2 := Lib.hid (H1.out.below hb2)
      have HB2 := Lib.hid (HB1.out.trans (hb2.mono HB1.out.size))
      clear hb2 H1 HB1
      go_wp2_with fail
      refine (O.out trivial true _ H2.out).mono ?_
      rintro e w3 ⟨rfl, h3, k3⟩
      have H3 := Lib.hid h3
      have K3 := Lib.hid (Keep.below_then HB2.out k3)
      clear h3 k3 O
      go_wp2
      go_ret
      exact ⟨rfl, H3.out, K3.out⟩
    · have hd : decide (least ≤ n ∧ n ≤ most) = false := decide_eq_false hf
      simp only [hd, Bool.and_false, Bool.false_eq_true, if_false, if_true]
      have O2 : Hid (∀ w1, CurC w1 g c → Calls Tryz.prog 126 #[.pointer (some ⟨g, 0, none⟩), .bool false] w1 fun e w' => e = .returned (.bool false) ∧ CurC w' g c ∧ Keep w1.heap.size g w1 w') := fun w1 h1 => O.out rfl false w1 h1
      clear hd O
      by_cases hf1 : least ≤ n
      · have hf2 : ¬ n ≤ most := fun hh => hf ⟨hf1, hh⟩
        have hq1 : decide (least ≤ n) = true := decide_eq_true hf1
        have hq2 : decide (n ≤ most) = false := decide_eq_false hf2
        clear hf hf2 hf1
        go_enter Tryz.func128, Tryz.ntmps128
        go_wp2_with fail
        refine N.out.mono ?_
        rintro e w1 ⟨rfl, hb1⟩
        have H1 := Lib.hid (H.out.below hb1)
        have HB1 := Lib.hid hb1
        clear hb1 N
        go_wp2_with fail
        refine (A.out w1).mono ?_
        rintro e w2 ⟨rfl, hb2⟩
        have H2 := Lib.hid (H1.out.below hb2)
        have HB2 := Lib.hid (HB1.out.trans (hb2.mono HB1.out.size))
        clear hb2 H1 HB1
        go_wp2_with fail
        refine (O2.out _ H2.out).mono ?_
        rintro e w3 ⟨rfl, h3, k3⟩
        have H3 := Lib.hid h3
        have K3 := Lib.hid (Keep.below_then HB2.out k3)
        clear h3 k3 O2
        go_wp2_with fail
        refine (F.out _ _ H3.out).mono ?_
        rintro e w4 ⟨rfl, h4, k4⟩
        have H4 := Lib.hid h4
        have K4 := Lib.hid (K3.out.then_keep k4)
        clear h4 k4 F
        go_wp2
        go_ret
        exact ⟨rfl, H4.out, K4.out⟩
      · have hf3 : n < least := by omega
        clear hf
        go_enter Tryz.func128, Tryz.ntmps128
        go_wp2_with fail
        refine N.out.mono ?_
        rintro e w1 ⟨rfl, hb1⟩
        have H1 := Lib.hid (H.out.below hb1)
        have HB1 := Lib.hid hb1
        clear hb1 N
        go_wp2_with fail
        refine (A.out w1).mono ?_
        rintro e w2 ⟨rfl, hb2⟩
        have H2 := Lib.hid (H1.out.below hb2)
        have HB2 := Lib.hid (HB1.out.trans (hb2.mono HB1.out.size))
        clear hb2 H1 HB1
        go_wp2_with fail
        refine (O2.out _ H2.out).mono ?_
        rintro e w3 ⟨rfl, h3, k3⟩
        have H3 := Lib.hid h3
        have K3 := Lib.hid (Keep.below_then HB2.out k3)
        clear h3 k3 O2
        go_wp2_with fail
        refine (F.out _ _ H3.out).mono ?_
        rintro e w4 ⟨rfl, h4, k4⟩
        have H4 := Lib.hid h4
        have K4 := Lib.hid (K3.out.then_keep k4)
        clear h4 k4 F
        go_wp2
        go_ret
        exact ⟨rfl, H4.out, K4.out⟩
set_option maxHeartbeats 1000000 in
theorem endC_any (g : Nat) (c : Cu) (w : World) (h : CurC w g c) : Calls Tryz.prog 78 #[.pointer (some ⟨g, 0, none⟩)] w fun e w' => e = .returned (.tuple #[]) ∧ CurC w' g c.end_ ∧ Keep w.heap.size g w w' := by
  have N := Lib.hid (now_any g c w h)
  have H := Lib.hid h
  have E : Hid (c.end_ = (if endP c.left.head? then c.pass else if c.more then c.fail 7 else c)) := rfl
  have O : Hid (∀ w1, CurC w1 g c → Calls Tryz.prog 126 #[.pointer (some ⟨g, 0, none⟩), .bool (endP c.left.head?)] w1 fun e w' => e = .returned (.bool (endP c.left.head?)) ∧ CurC w' g (c.over (endP c.left.head?)) ∧ Keep w1.heap.size g w1 w') := fun w1 h1 => over_any g c _ w1 h1 (fun hb => end_head hb)
  have F : Hid (∀ ee w1, CurC w1 g c → _) := fun ee w1 h1 => failC_any g c ee w1 h1
  have M : Hid (∀ w1, CurC w1 g c → _) := fun w1 h1 => more_any g c w1 h1
  rw [E.out]
  clear h E
  generalize c.left.head? = o at *
  have A := Lib.hid (fun w => isEnd_any o w)
  generalize endP o = b at *
  cases b
  · cases hm : c.more
    · rw [hm] at M
      simp only [Bool.false_eq_true, if_false]
      clear hm
      go_enter Tryz.func78, Tryz.ntmps78
      go_wp2_with fail
      refine N.out.mono ?_
      rintro e w1 ⟨rfl, hb1⟩
      have H1 := Lib.hid (H.out.below hb1)
      have HB1 := Lib.hid hb1
      clear hb1 N
      go_wp2_with fail
      refine (A.out w1).mono ?_
      rintro e w2 ⟨rfl, hb2⟩
      have H2 := Lib.hid (H1.out.below hb2)
      have HB2 := Lib.hid (HB1.out.trans (hb2.mono HB1.out.size))
      clear hb2 H1 HB1
      go_wp2_with fail
      refine (O.out _ H2.out).mono ?_
      rintro e w3 ⟨rfl, h3, k3⟩
      have H3 : Hid (CurC w3 g c) := h3
      have K3 := Lib.hid (Keep.below_then HB2.out k3)
      clear h3 k3 O
      go_wp2_with fail
      refine (M.out _ H3.out).mono ?_
      rintro e w4 ⟨rfl, hb4⟩
      have H4 := Lib.hid (H3.out.below hb4)
      have K4 := Lib.hid (K3.out.then_below hb4)
      clear hb4
      go_wp2
      go_end0
      exact ⟨rfl, H4.out, K4.out⟩
    · rw [hm] at M
      simp only [Bool.false_eq_true, if_false, if_true]
      clear hm
      go_enter Tryz.func78, Tryz.ntmps78
      go_wp2_with fail
      refine N.out.mono ?_
      rintro e w1 ⟨rfl, hb1⟩
      have H1 := Lib.hid (H.out.below hb1)
      have HB1 := Lib.hid hb1
      clear hb1 N
      go_wp2_with fail
      refine (A.out w1).mono ?_
      rintro e w2 ⟨rfl, hb2⟩
      have H2 := Lib.hid (H1.out.below hb2)
      have HB2 := Lib.hid (HB1.out.trans (hb2.mono HB1.out.size))
      clear hb2 H1 HB1
      go_wp2_with fail
      refine (O.out _ H2.out).mono ?_
      rintro e w3 ⟨rfl, h3, k3⟩
      have H3 : Hid (CurC w3 g c) := h3
      have K3 := Lib.hid (Keep.below_then HB2.out k3)
      clear h3 k3 O
      go_wp2_with fail
      refine (M.out _ H3.out).mono ?_
      rintro e w4 ⟨rfl, hb4⟩
      have H4 := Lib.hid (H3.out.below hb4)
      have K4 := Lib.hid (K3.out.then_below hb4)
      clear hb4
      go_wp2_with fail
      refine (F.out _ _ H4.out).mono ?_
      rintro e w5 ⟨rfl, h5, k5⟩
      have H5 := Lib.hid h5
      have K5 := Lib.hid (K4.out.then_keep k5)
      clear h5 k5 F
      go_wp2
      go_end0
      exact ⟨rfl, H5.out, K5.out⟩
  · simp only [if_true]
    go_enter Tryz.func78, Tryz.ntmps78
    go_wp2_with fail
    refine N.out.mono ?_
    rintro e w1 ⟨rfl, hb1⟩
    have H1 := Lib.hid (H.out.below hb1)
    have HB1 := Lib.hid hb1
    clear hb1 N
    go_wp2_with fail
    refine (A.out w1).mono ?_
    rintro e w2 ⟨rfl, hb2⟩
    have H2 := Lib.hid (H1.out.below hb2)
    have HB2 := Lib.hid (HB1.out.trans (hb2.mono HB1.out.size))
    clear hb2 H1 HB1
    go_wp2_with fail
    refine (O.out _ H2.out).mono ?_
    rintro e w3 ⟨rfl, h3, k3⟩
    have H3 : Hid (CurC w3 g c.pass) := h3
    have K3 := Lib.hid (Keep.below_then HB2.out k3)
    clear h3 k3 O
    go_wp2
    go_end0
    exact ⟨rfl, H3.out, K3.out⟩
/-- A row of signs. -/
def Signs (w : World) (sb : Nat) (l : List ByteArray) : Prop := ∃ cs, Blk w sb 9 cs ∧ ∀ (k : Nat) (s : ByteArray), l[k]? = some s → cs[k]? = some (Value.string s)
theorem Signs.keep {w w' : World} {sb g : Nat} {l : List ByteArray} {t : TypeId} {cs : Array Value} (h : Signs w sb l) (hk : Keep w.heap.size g w w') (hg : Blk w g t cs) (ht : 9 ≠ t) : Signs w' sb l := by
  obtain ⟨cs', hb, r⟩ := h
  exact ⟨cs', hb.keep hk (blk_ne hb hg ht), r⟩
theorem Signs.cell {w : World} {sb : Nat} {l : List ByteArray} (h : Signs w sb l) {k : Nat} {s : ByteArray} (hk : l[k]? = some s) : w.cell? ⟨sb, k, none⟩ = some (.string s) := by
  obtain ⟨cs, hb, r⟩ := h
  exact (hb.cell k).trans (r k s hk)
theorem CurC.blk {w : World} {g : Nat} {c : Cu} (h : CurC w g c) : ∃ cs, Blk w g 116 cs := by obtain ⟨_, _, hb, _⟩ := h; exact ⟨_, hb⟩
set_option maxRecDepth 100000 in
theorem markC_any (g : Nat) (c : Cu) (l : List ByteArray) (sb cap : Nat) (w : World) (h : CurC w g c) (hs : Signs w sb l) (hl : l.length ≤ 1000) : Calls Tryz.prog 172 #[.pointer (some ⟨g, 0, none⟩), .slice (some ⟨sb, 0, none⟩) l.length cap] w fun e w' => e = .returned (.tuple #[]) ∧ CurC w' g (c.mark l) ∧ Keep w.heap.size g w w' := by
  have H := Lib.hid h
  have HS := Lib.hid hs
  clear h hs
  go_enter Tryz.func172, Tryz.ntmps172
  go_wp2
  go_loopw [8] (fun i wr => ∃ (k : Nat) (d : Cu), i = .int .i64 k ∧ k ≤ l.length ∧ CurC wr g d ∧ Keep w.heap.size g w wr ∧ Signs wr sb l ∧ Hid (d.mark (l.drop k) = c.mark l)) (fun i _ => l.length - (intOf i).toNat)
  case atStart => exact ⟨0, c, rfl, Nat.zero_le _, H.out, Keep.refl _ _ _, HS.out, rfl⟩
  case round =>
    obtain ⟨k, d, rfl, hk, hd, hkp, hsg, HM⟩ := hrel
    have HD := Lib.hid hd
    have HK := Lib.hid hkp
    by_cases hlt : k < l.length
    · have hlt' : (k : Int) < l.length := by omega
      have hk0 : (0 : Int) ≤ k := by omega
      obtain ⟨s, hks⟩ : ∃ s, l[k]? = some s := ⟨_, List.getElem?_eq_getElem hlt⟩
      have n0 := hsg.cell hks
      have HM2 : Hid (c.mark l = if d.isB s then (d.is s).mark (l.drop (k + 1)) else d.fail 7) := by
        show _ = _
        rw [← HM.out, List.drop_eq_getElem_cons hlt, (List.getElem?_eq_some_iff.1 hks).2, Cu.mark]
      have HSG := Lib.hid hsg
      have I := Lib.hid (isI_any g d s wr hd)
      have F : Hid (∀ w1, CurC w1 g (d.is s) → d.isB s = false → Calls Tryz.prog 80 #[.pointer (some ⟨g, 0, none⟩), .int .i64 7] w1 fun e w' => e = .returned (.tuple #[]) ∧ CurC w' g (d.fail 7) ∧ Keep w1.heap.size g w1 w') := fun w1 h1 hb => by
        have e : d.is s = d := by unfold Cu.is; rw [hb]; rfl
        rw [e] at h1
        exact failC_any g d 7 w1 h1
      obtain ⟨b, hb⟩ : ∃ b, d.isB s = b := ⟨_, rfl⟩
      rw [hb] at I HM2 F
      clear hks hd hkp hsg HM hb
      cases b
      · go_wp2_with fail
        refine I.out.mono ?_
        rintro e w1 ⟨rfl, h1, k1⟩
        have H1 := Lib.hid h1
        have K1 := Lib.hid (HK.out.then_keep k1)
        clear h1 k1 I n0
        go_wp2_with fail
        refine (F.out _ H1.out trivial).mono ?_
        rintro e w2 ⟨rfl, h2, k2⟩
        have H2 := Lib.hid h2
        have K2 := Lib.hid (K1.out.then_keep k2)
        clear h2 k2 F
        go_wp2
        refine bodyPost_ret (results_none rfl _ _ _) rfl ⟨rfl, ?_, K2.out⟩
        rw [HM2.out]
        exact H2.out
      · go_wp2_with fail
        refine I.out.mono ?_
        rintro e w1 ⟨rfl, h1, k1⟩
        have H1 := Lib.hid h1
        have K1 := Lib.hid (HK.out.then_keep k1)
        have S1 : Hid (Signs w1 sb l) := by
          obtain ⟨cs, hcs⟩ := HD.out.blk
          exact HSG.out.keep k1 hcs (by decide)
        clear h1 k1 I n0 HSG
        go_wp2
        go_roundw
        case rel => exact ⟨k + 1, d.is s, by go_num, by omega, H1.out, K1.out, S1.out, HM2.out.symm⟩
        case measure => simp [intOf]; omega
    · have hlt' : (l.length : Int) ≤ k := by omega
      have HM2 : Hid (c.mark l = d) := by show _ = _; rw [← HM.out, List.drop_eq_nil_of_le (by omega)]; rfl
      clear hd hkp hsg HM
      go_wp2
      go_end0
      refine ⟨rfl, ?_, HK.out⟩
      rw [HM2.out]
      exact HD.out
end Go.Proofs.YthiipgahbmoiiaaGreatDoor
namespace Go.Proofs.YthiipgahbmoiiaaGreatDoor

/-- A cursor that fits: few words, none too long. -/
structure Fit (c : Cu) : Prop where
  ok : c.Ok
  few : c.left.length ≤ 1000000
  txt : ∀ x ∈ c.left, x.t.size ≤ 300000
theorem Fit.pass {c : Cu} (h : Fit c) : Fit c.pass := ⟨h.ok.pass, by show c.left.tail.length ≤ _; have := h.few; rw [List.length_tail]; omega, fun x hx => h.txt x (List.mem_of_mem_tail hx)⟩
theorem Fit.fail {c : Cu} (h : Fit c) (e : Int) : Fit (c.fail e) := by
  refine ⟨h.ok.fail e, ?_, fun x hx => ?_⟩
  · unfold Cu.fail; split
    · exact h.few
    · simp
  · unfold Cu.fail at hx; split at hx
    · exact h.txt x hx
    · simp at hx
theorem Fit.over {c : Cu} (h : Fit c) (b : Bool) : Fit (c.over b) := by cases b; exact h; exact h.pass
theorem Fit.key {c : Cu} (h : Fit c) (s : ByteArray) : Fit (c.key s) := h.over _
theorem Fit.is {c : Cu} (h : Fit c) (s : ByteArray) : Fit (c.is s) := h.over _
theorem Fit.name {c : Cu} (h : Fit c) : Fit c.name := by unfold Cu.name; split; exact h.pass; exact h.fail _
theorem Fit.num {c : Cu} (h : Fit c) (a b : Int) : Fit (c.num a b) := by
  unfold Cu.num
  split
  · split
    · exact h.pass
    · exact h.fail _
  · exact h.fail _
theorem Fit.mark {c : Cu} (h : Fit c) : ∀ l, Fit (c.mark l) := fun l => by
  induction l generalizing c with
  | nil => exact h
  | cons s r ih =>
    unfold Cu.mark
    split
    · exact ih (h.is s)
    · exact h.fail _
theorem Fit.end_ {c : Cu} (h : Fit c) : Fit c.end_ := by
  unfold Cu.end_
  split
  · exact h.pass
  · split
    · exact h.fail _
    · exact h
theorem Fit.nameT {c : Cu} (h : Fit c) : c.nameT.size ≤ 300000 := by
  unfold Cu.nameT nameP
  cases hl : c.left with
  | nil => exact Nat.zero_le _
  | cons x l =>
    simp only [List.head?_cons]
    split
    · exact h.txt x (by rw [hl]; simp)
    · exact Nat.zero_le _
/-- No step makes the words that are left more. -/
theorem mp_pass_len (c : Cu) : c.pass.left.length ≤ c.left.length := by simp [Cu.pass]
theorem mp_fail_len (c : Cu) (e : Int) : (c.fail e).left.length ≤ c.left.length := by
  unfold Cu.fail; split
  · exact Nat.le_refl _
  · simp
theorem mp_over_len (c : Cu) (b : Bool) : (c.over b).left.length ≤ c.left.length := by cases b; exact Nat.le_refl _; exact mp_pass_len c
theorem mp_key_len (c : Cu) (s : ByteArray) : (c.key s).left.length ≤ c.left.length := mp_over_len _ _
theorem mp_is_len (c : Cu) (s : ByteArray) : (c.is s).left.length ≤ c.left.length := mp_over_len _ _
theorem mp_name_len (c : Cu) : c.name.left.length ≤ c.left.length := by unfold Cu.name; split; exact mp_pass_len c; exact mp_fail_len c _
theorem mp_num_len (c : Cu) (a b : Int) : (c.num a b).left.length ≤ c.left.length := by
  unfold Cu.num
  split
  · split
    · exact mp_pass_len c
    · exact mp_fail_len c _
  · exact mp_fail_len c _
theorem mp_mark_len (c : Cu) (l : List ByteArray) : (c.mark l).left.length ≤ c.left.length := by
  induction l generalizing c with
  | nil => exact Nat.le_refl _
  | cons s r ih =>
    unfold Cu.mark
    split
    · exact Nat.le_trans (ih _) (mp_is_len c s)
    · exact mp_fail_len c _
theorem mp_end_lt {c : Cu} (ho : c.Ok) (h : 0 < c.left.length) : c.end_.left.length < c.left.length := by
  have hf : c.fault = 0 := by
    by_cases hf : c.fault = 0
    · exact hf
    · have := ho.gone hf
      rw [this] at h; simp at h
  unfold Cu.end_
  split
  · simp only [Cu.pass, List.length_tail]; omega
  · have hm : c.more = true := by
      unfold Cu.more
      cases hl : c.left with
      | nil => rw [hl] at h; simp at h
      | cons x l => rfl
    rw [if_pos hm]
    unfold Cu.fail
    rw [if_neg (by rintro (h1 | h1); omega; exact h1 hf)]
    exact h
theorem mp_end_len (c : Cu) : c.end_.left.length ≤ c.left.length := by
  unfold Cu.end_
  split
  · exact mp_pass_len c
  · split
    · exact mp_fail_len c _
    · exact Nat.le_refl _
theorem more_pos {c : Cu} (h : c.more = true) : 0 < c.left.length := by
  unfold Cu.more at h
  cases hl : c.left with
  | nil => rw [hl] at h; simp at h
  | cons x l => simp
def Cu.keyedP (c : Cu) (s : ByteArray) : Cu := if c.keyB s then c.key s else (c.key s).fail 7
theorem Fit.keyedP {c : Cu} (h : Fit c) (s : ByteArray) : Fit (c.keyedP s) := by unfold Cu.keyedP; split; exact h.key s; exact (h.key s).fail 7
end Go.Proofs.YthiipgahbmoiiaaGreatDoor
