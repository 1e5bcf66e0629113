/-
  The document's cursor: names, numbers, ends, signs, and where it is broken. No condition beyond those that each theorem states.
  The document's reader of targets (package intarsiaref07): its state; a register, a block's number. Conditions: the library's table of powers holds what the text lays.
  The document's reader of targets: which word is an Op's name, plainly. No condition beyond those that each theorem states.
-/
import Derived.Test.YtbjmbahpcoanoaaGreatDoorPk40
import Derived.Test.YtbjmbahpcoanoaaGreatDoorPk23
import Derived.Test.YtbjmbahpcoanoaaGreatDoorPk29
namespace Go.Proofs.YtbjmbahpcoanoaaGreatDoor
open Go.RowKit

set_option maxRecDepth 100000 in
theorem nameR_any (g : Nat) (c : Cu) (w : World) (h : CurR w g c) (hok : c.Ok) : Calls Tryz.prog 130 #[.pointer (some ⟨g, 0, none⟩)] w fun e w' => e = .returned (.string c.nameT) ∧ CurR w' g c.name ∧ Keep w.heap.size g w w' := by
 have M := Lib.hid (moreR_any g c w h hok)
 have FL := Lib.hid (fun ee => failR_any g c ee w h hok)
 cases hle : c.left with
 | nil =>
  have hm : c.more = false := by simp [Cu.more, hle]
  have he : c.nameT = ⟨#[]⟩ := by simp [Cu.nameT, nameP, hle]
  have hn : c.name = c.fail 7 := by simp [Cu.name, nameP, hle]
  rw [hm] at M
  rw [he, hn]
  clear h hok hle hm he hn
  go_enter Tryz.func130, Tryz.ntmps130
  go_wp2_with fail
  refine M.out.mono ?_
  rintro e w1 ⟨rfl, rfl⟩
  go_wp2_with fail
  refine (FL.out 7).mono ?_
  rintro e w1 ⟨rfl, h1, k1⟩
  have H1 := Lib.hid h1
  have K1 := Lib.hid k1
  clear h1 k1
  go_wp2
  go_ret
  exact ⟨rfl, H1.out, K1.out⟩
 | cons x r =>
  have hm : c.more = true := by simp [Cu.more, hle]
  rw [hm] at M
  obtain ⟨hf, gg, o, cap, hb, hl, hmx, hr, hgg, n0, n1, n2, n3, n4⟩ := h.some_ hok hle
  have m0 : w.cell? ⟨g, 0, none⟩ = some (.slice (some ⟨gg, o, none⟩) (r.length + 1) cap) := hb.cell 0
  have f0 := hb.free 0
  have hp : (0 : Int) < r.length + 1 := by omega
  have P := CurR.pass_ hb hf hle hl hmx hr
  by_cases hk : x.k = 1
  · have he : c.nameT = x.t := by simp [Cu.nameT, nameP, hle, hk]
    have hn : c.name = c.pass := by simp [Cu.name, nameP, hle, hk]
    rw [he, hn]
    have q : (x.k != 1) = false := by simp [hk]
    clear he hn hk FL n2
    by_cases hc : cap = 1
    · obtain ⟨hr0, P1⟩ := P.1 hc
      have HP := Lib.hid P1
      subst hc hr0
      clear h hok hle hm hf hb hr n3 n4 P P1 hl
      go_enter Tryz.func130, Tryz.ntmps130
      go_wp2_with fail
      refine M.out.mono ?_
      rintro e w1 ⟨rfl, rfl⟩
      go_wp2
      go_ret
      exact ⟨rfl, (HP.out _).1, (HP.out _).2⟩
    · have HP := Lib.hid (P.2 hc)
      have hc1 : (1 : Int) ≤ cap := by omega
      clear h hok hle hm hf hb hr n3 n4 P
      go_enter Tryz.func130, Tryz.ntmps130
      go_wp2_with fail
      refine M.out.mono ?_
      rintro e w1 ⟨rfl, rfl⟩
      go_wp2
      go_ret
      exact ⟨rfl, HP.out.1, HP.out.2⟩
  · have he : c.nameT = ⟨#[]⟩ := by simp [Cu.nameT, nameP, hle, hk]
    have hn : c.name = c.fail 7 := by simp [Cu.name, nameP, hle, hk]
    rw [he, hn]
    have q : (x.k != 1) = true := by simp [hk]
    clear h hok hle hm hf hb hr he hn hk n1 n2 n3 n4 P
    go_enter Tryz.func130, Tryz.ntmps130
    go_wp2_with fail
    refine M.out.mono ?_
    rintro e w1 ⟨rfl, rfl⟩
    go_wp2_with fail
    refine (FL.out 7).mono ?_
    rintro e w1 ⟨rfl, h1, k1⟩
    have H1 := Lib.hid h1
    have K1 := Lib.hid k1
    clear h1 k1
    go_wp2
    go_ret
    exact ⟨rfl, H1.out, K1.out⟩
set_option maxHeartbeats 1000000 in
set_option maxRecDepth 100000 in
theorem numR_any (g : Nat) (c : Cu) (least most : Int) (w : World) (h : CurR w g c) (hok : c.Ok) : Calls Tryz.prog 35 #[.pointer (some ⟨g, 0, none⟩), .int .i64 least, .int .i64 most] w fun e w' => e = .returned (.int .i64 (c.numN least most)) ∧ CurR w' g (c.num least most) ∧ Keep w.heap.size g w w' := by
 have M := Lib.hid (moreR_any g c w h hok)
 have FL := Lib.hid (fun ee => failR_any g c ee w h hok)
 cases hle : c.left with
 | nil =>
  have hm : c.more = false := by simp [Cu.more, hle]
  have he : c.numN least most = 0 := by simp [Cu.numN, numP, hle]
  have hn : c.num least most = c.fail 7 := by simp [Cu.num, numP, hle]
  rw [hm] at M
  rw [he, hn]
  clear h hok hle hm he hn
  go_enter Tryz.func35, Tryz.ntmps35
  go_wp2_with fail
  refine M.out.mono ?_
  rintro e w1 ⟨rfl, rfl⟩
  go_wp2_with fail
  refine (FL.out 7).mono ?_
  rintro e w1 ⟨rfl, h1, k1⟩
  have H1 := Lib.hid h1
  have K1 := Lib.hid k1
  clear h1 k1
  go_wp2
  go_ret
  exact ⟨rfl, H1.out, K1.out⟩
 | cons x r =>
  have hm : c.more = true := by simp [Cu.more, hle]
  rw [hm] at M
  obtain ⟨hf, gg, o, cap, hb, hl, hmx, hr, hgg, n0, n1, n2, n3, n4⟩ := h.some_ hok hle
  have m0 : w.cell? ⟨g, 0, none⟩ = some (.slice (some ⟨gg, o, none⟩) (r.length + 1) cap) := hb.cell 0
  have f0 := hb.free 0
  have hp : (0 : Int) < r.length + 1 := by omega
  have P := CurR.pass_ hb hf hle hl hmx hr
  by_cases hk : x.k = 2
  · have q : (x.k != 2) = false := by simp [hk]
    by_cases h1 : x.n < least
    · have he : c.numN least most = 0 := by simp [Cu.numN, Cu.numFits, numP, hle, hk]; omega
      have hn : c.num least most = c.fail 3 := by simp [Cu.num, Cu.numFits, numP, hle, hk]; omega
      rw [he, hn]
      have q1 : decide (x.n < least) = true := decide_eq_true h1
      clear h hok hle hm hf hb hr he hn hk n1 n3 n4 P h1
      go_enter Tryz.func35, Tryz.ntmps35
      go_wp2_with fail
      refine M.out.mono ?_
      rintro e w1 ⟨rfl, rfl⟩
      go_wp2_with fail
      refine (FL.out 3).mono ?_
      rintro e w1 ⟨rfl, h1, k1⟩
      have H1 := Lib.hid h1
      have K1 := Lib.hid k1
      clear h1 k1
      go_wp2
      go_ret
      exact ⟨rfl, H1.out, K1.out⟩
    have q1 : decide (x.n < least) = false := decide_eq_false h1
    by_cases h2 : most < x.n
    · have he : c.numN least most = 0 := by simp [Cu.numN, Cu.numFits, numP, hle, hk]; omega
      have hn : c.num least most = c.fail 3 := by simp [Cu.num, Cu.numFits, numP, hle, hk]; omega
      rw [he, hn]
      have q2 : decide (most < x.n) = true := decide_eq_true h2
      clear h hok hle hm hf hb hr he hn hk n1 n3 n4 P h1 h2
      go_enter Tryz.func35, Tryz.ntmps35
      go_wp2_with fail
      refine M.out.mono ?_
      rintro e w1 ⟨rfl, rfl⟩
      go_wp2_with fail
      refine (FL.out 3).mono ?_
      rintro e w1 ⟨rfl, h1, k1⟩
      have H1 := Lib.hid h1
      have K1 := Lib.hid k1
      clear h1 k1
      go_wp2
      go_ret
      exact ⟨rfl, H1.out, K1.out⟩
    have q2 : decide (most < x.n) = false := decide_eq_false h2
    have he : c.numN least most = x.n := by simp [Cu.numN, Cu.numFits, numP, hle, hk]; omega
    have hn : c.num least most = c.pass := by simp [Cu.num, Cu.numFits, numP, hle, hk]; omega
    rw [he, hn]
    clear he hn hk FL n1 h1 h2
    by_cases hc : cap = 1
    · obtain ⟨hr0, P1⟩ := P.1 hc
      have HP := Lib.hid P1
      subst hc hr0
      clear h hok hle hm hf hb hr n3 n4 P P1 hl
      go_enter Tryz.func35, Tryz.ntmps35
      go_wp2_with fail
      refine M.out.mono ?_
      rintro e w1 ⟨rfl, rfl⟩
      go_wp2
      go_ret
      exact ⟨rfl, (HP.out _).1, (HP.out _).2⟩
    · have HP := Lib.hid (P.2 hc)
      have hc1 : (1 : Int) ≤ cap := by omega
      clear h hok hle hm hf hb hr n3 n4 P
      go_enter Tryz.func35, Tryz.ntmps35
      go_wp2_with fail
      refine M.out.mono ?_
      rintro e w1 ⟨rfl, rfl⟩
      go_wp2
      go_ret
      exact ⟨rfl, HP.out.1, HP.out.2⟩
  · have he : c.numN least most = 0 := by simp [Cu.numN, numP, hle, hk]
    have hn : c.num least most = c.fail 7 := by simp [Cu.num, numP, hle, hk]
    rw [he, hn]
    have q : (x.k != 2) = true := by simp [hk]
    clear h hok hle hm hf hb hr he hn hk n1 n2 n3 n4 P
    go_enter Tryz.func35, Tryz.ntmps35
    go_wp2_with fail
    refine M.out.mono ?_
    rintro e w1 ⟨rfl, rfl⟩
    go_wp2_with fail
    refine (FL.out 7).mono ?_
    rintro e w1 ⟨rfl, h1, k1⟩
    have H1 := Lib.hid h1
    have K1 := Lib.hid k1
    clear h1 k1
    go_wp2
    go_ret
    exact ⟨rfl, H1.out, K1.out⟩
set_option maxRecDepth 100000 in
theorem endR_any (g : Nat) (c : Cu) (w : World) (h : CurR w g c) (hok : c.Ok) : Calls Tryz.prog 36 #[.pointer (some ⟨g, 0, none⟩)] w fun e w' => e = .returned (.tuple #[]) ∧ CurR w' g c.end_ ∧ Keep w.heap.size g w w' := by
 have M := Lib.hid (moreR_any g c w h hok)
 have H := Lib.hid h
 cases hle : c.left with
 | nil =>
  have hm : c.more = false := by simp [Cu.more, hle]
  have hn : c.end_ = c := by simp [Cu.end_, endP, hle, hm]
  rw [hm] at M
  rw [hn]
  clear h hok hle hm hn
  go_enter Tryz.func36, Tryz.ntmps36
  go_wp2_with fail
  refine M.out.mono ?_
  rintro e w1 ⟨rfl, rfl⟩
  go_wp2
  go_end0
  exact ⟨rfl, H.out, Keep.refl _ _ _⟩
 | cons x r =>
  have hm : c.more = true := by simp [Cu.more, hle]
  rw [hm] at M
  have hek := end_kind (hok.kinds x (by rw [hle]; simp))
  have O := Lib.hid (fun b => overR_any g c b w h hok (fun _ => by rw [hle]; simp))
  have FL : Hid (∀ w1, CurR w1 g c → _) := fun w1 h1 => failR_any g c 7 w1 h1 hok
  obtain ⟨hf, gg, o, cap, hb, hl, hmx, hr, hgg, n0, n1, n2, n3, n4⟩ := h.some_ hok hle
  have m0 : w.cell? ⟨g, 0, none⟩ = some (.slice (some ⟨gg, o, none⟩) (r.length + 1) cap) := hb.cell 0
  have f0 := hb.free 0
  have hp : (0 : Int) < r.length + 1 := by omega
  have P := CurR.pass_ hb hf hle hl hmx hr
  by_cases hk : x.k = 4
  · have hn : c.end_ = c.pass := by simp [Cu.end_, endP, hle, hek, hk]
    rw [hn]
    have q : (x.k == 4) = true := by simp [hk]
    clear h hok hle hm hf hb hr hn hk n1 n2 n3 n4 P hek
    go_enter Tryz.func36, Tryz.ntmps36
    go_wp2_with fail
    refine M.out.mono ?_
    rintro e w1 ⟨rfl, rfl⟩
    go_wp2_with fail
    refine (O.out true).mono ?_
    rintro e w1 ⟨rfl, h1, k1⟩
    have H1 := Lib.hid h1
    have K1 := Lib.hid k1
    clear h1 k1
    go_wp2
    go_end0
    exact ⟨rfl, H1.out, K1.out⟩
  · have hn : c.end_ = c.fail 7 := by simp [Cu.end_, endP, hle, hek, hk, hm]
    rw [hn]
    have q : (x.k == 4) = false := by simp [hk]
    clear h hok hle hm hf hb hr hn hk n1 n2 n3 n4 P hek
    go_enter Tryz.func36, Tryz.ntmps36
    go_wp2_with fail
    refine M.out.mono ?_
    rintro e w1 ⟨rfl, rfl⟩
    go_wp2_with fail
    refine (O.out false).mono ?_
    rintro e w1 ⟨rfl, h1, k1⟩
    have H1 : Hid (CurR w1 g c) := h1
    have K1 := Lib.hid k1
    clear h1 k1
    go_wp2_with fail
    refine (FL.out _ H1.out).mono ?_
    rintro e w2 ⟨rfl, h2, k2⟩
    have H2 := Lib.hid h2
    have K2 := Lib.hid (K1.out.then_keep k2)
    clear h2 k2
    go_wp2
    go_end0
    exact ⟨rfl, H2.out, K2.out⟩
/-- What is broken stays so. -/
theorem mark_broken {c : Cu} (h : c.Ok) (hf : c.fault ≠ 0) : ∀ l : List ByteArray, c.mark l = c := by
 intro l
 cases l with
 | nil => rfl
 | cons s r =>
  have e : c.isB s = false := by unfold Cu.isB; rw [h.gone hf]; rfl
  unfold Cu.mark
  rw [e]
  exact fail_same (.inr hf)
theorem mark_step {c : Cu} (h : c.Ok) (s : ByteArray) (r : List ByteArray) : c.mark (s :: r) = (if c.isB s then c.is s else c.fail 7).mark r := by
 rw [Cu.mark]
 cases hb : c.isB s
 · simp only [Bool.false_eq_true, if_false]
   by_cases hf : c.fault = 0
   · rw [mark_broken (h.fail 7)]
     rw [fail_form (by decide) hf]
     show (7 : Int) ≠ 0
     decide
   · rw [fail_same (.inr hf), mark_broken h hf]
 · rfl
set_option maxRecDepth 100000 in
theorem markR_any (g : Nat) (c : Cu) (l : List ByteArray) (sb cap : Nat) (w : World) (h : CurR w g c) (hok : c.Ok) (hs : Signs w sb l) (hl : l.length ≤ 1000) : Calls Tryz.prog 131 #[.pointer (some ⟨g, 0, none⟩), .slice (some ⟨sb, 0, none⟩) l.length cap] w fun e w' => e = .returned (.tuple #[]) ∧ CurR w' g (c.mark l) ∧ Keep w.heap.size g w w' := by
 have H := Lib.hid h
 have HS := Lib.hid hs
 have HOK := Lib.hid hok
 clear h hs hok
 go_enter Tryz.func131, Tryz.ntmps131
 go_wp2
 go_loopw [4] (fun i wr => ∃ (k : Nat) (d : Cu), i = .int .i64 k ∧ k ≤ l.length ∧ CurR wr g d ∧ d.Ok ∧ Keep w.heap.size g w wr ∧ Signs wr sb l ∧ Hid (d.mark (l.drop k) = c.mark l)) (fun i _ => l.length - (intOf i).toNat)
 case atStart => exact ⟨0, c, rfl, Nat.zero_le _, H.out, HOK.out, Keep.refl _ _ _, HS.out, rfl⟩
 case round =>
  obtain ⟨k, d, rfl, hk, hd, hdo, hkp, hsg, HM⟩ := hrel
  have HD := Lib.hid hd
  have HDO := Lib.hid hdo
  have HK := Lib.hid hkp
  by_cases hlt : k < l.length
  · have hlt' : (k : Int) < l.length := by omega
    have hk0 : (0 : Int) ≤ k := by omega
    obtain ⟨s, hks⟩ : ∃ s, l[k]? = some s := ⟨_, List.getElem?_eq_getElem hlt⟩
    have n0 := hsg.cell hks
    have HM2 : Hid (c.mark l = (if d.isB s then d.is s else d.fail 7).mark (l.drop (k + 1))) := by
     show _ = _
     rw [← HM.out, List.drop_eq_getElem_cons hlt, (List.getElem?_eq_some_iff.1 hks).2, mark_step hdo]
    have HSG := Lib.hid hsg
    have I := Lib.hid (isR_any g d s wr hd hdo)
    have FL : Hid (∀ w1, CurR w1 g (d.is s) → d.isB s = false → Calls Tryz.prog 34 #[.pointer (some ⟨g, 0, none⟩), .int .i64 7] w1 fun e w' => e = .returned (.tuple #[]) ∧ CurR w' g (d.fail 7) ∧ Keep w1.heap.size g w1 w') := fun w1 h1 hb => by
     have e : d.is s = d := by unfold Cu.is; rw [hb]; rfl
     rw [e] at h1
     exact failR_any g d 7 w1 h1 HDO.out
    obtain ⟨b, hb⟩ : ∃ b, d.isB s = b := ⟨_, rfl⟩
    rw [hb] at I HM2 FL
    clear hks hd hkp hsg HM hb hdo
    cases b
    · go_wp2_with fail
      refine I.out.mono ?_
      rintro e w1 ⟨rfl, h1, k1⟩
      have H1 := Lib.hid h1
      have K1 := Lib.hid (HK.out.then_keep k1)
      have S1 : Hid (Signs w1 sb l) := by
       obtain ⟨cs, hcs⟩ := HD.out.blk
       exact HSG.out.keep k1 hcs (by decide)
      clear h1 k1 I n0 HSG
      go_wp2_with fail
      refine (FL.out _ H1.out trivial).mono ?_
      rintro e w2 ⟨rfl, h2, k2⟩
      have H2 := Lib.hid h2
      have K2 := Lib.hid (K1.out.then_keep k2)
      have S2 : Hid (Signs w2 sb l) := by
       obtain ⟨cs, hcs⟩ := H1.out.blk
       exact S1.out.keep k2 hcs (by decide)
      clear h2 k2 FL S1
      go_wp2
      go_roundw
      case rel => exact ⟨k + 1, d.fail 7, by go_num, by omega, H2.out, HDO.out.fail 7, K2.out, S2.out, HM2.out.symm⟩
      case measure => simp [intOf]; omega
    · go_wp2_with fail
      refine I.out.mono ?_
      rintro e w1 ⟨rfl, h1, k1⟩
      have H1 := Lib.hid h1
      have K1 := Lib.hid (HK.out.then_keep k1)
      have S1 : Hid (Signs w1 sb l) := by
       obtain ⟨cs, hcs⟩ := HD.out.blk
       exact HSG.out.keep k1 hcs (by decide)
      clear h1 k1 I n0 HSG
      go_wp2
      go_roundw
      case rel => exact ⟨k + 1, d.is s, by go_num, by omega, H1.out, HDO.out.is s, K1.out, S1.out, HM2.out.symm⟩
      case measure => simp [intOf]; omega
  · have hlt' : (l.length : Int) ≤ k := by omega
    have HM2 : Hid (c.mark l = d) := by show _ = _; rw [← HM.out, List.drop_eq_nil_of_le (by omega)]; rfl
    clear hd hkp hsg HM hdo
    go_wp2
    go_end0
    refine ⟨rfl, ?_, HK.out⟩
    rw [HM2.out]
    exact HD.out
set_option maxRecDepth 100000 in
theorem errR_any (g : Nat) (c : Cu) (w : World) (h : CurR w g c) (hok : c.Ok) : Calls Tryz.prog 39 #[.pointer (some ⟨g, 0, none⟩)] w fun e w' => e = .returned (.tuple #[.int .i64 c.eLine, .int .i64 c.eCol, .int .i64 c.eErr]) ∧ Below w.heap.size w w' := by
 by_cases hf : c.fault = 0
 · cases hle : c.left with
   | nil =>
    have E : Hid (c.eLine = 0 ∧ c.eCol = 0 ∧ c.eErr = 0) := by refine ⟨?_, ?_, ?_⟩ <;> simp [Cu.eLine, Cu.eCol, Cu.eErr, hf, hle]
    rw [E.out.1, E.out.2.1, E.out.2.2]
    rcases h.none_ hle with ⟨_, a, cap, m0, m1⟩ | ⟨hf', _⟩
    · clear h hok hf hle E
      go_enter Tryz.func39, Tryz.ntmps39
      go_wp2
      go_ret3
      exact ⟨rfl, Below.refl _ _⟩
    · exact absurd hf hf'
   | cons x r =>
    have E : Hid (c.eLine = x.l ∧ c.eCol = x.c ∧ c.eErr = 7) := by refine ⟨?_, ?_, ?_⟩ <;> simp [Cu.eLine, Cu.eCol, Cu.eErr, hf, hle]
    rw [E.out.1, E.out.2.1, E.out.2.2]
    obtain ⟨hf', gg, o, cap, hb, hl, hmx, hr, hgg, n0, n1, n2, n3, n4⟩ := h.some_ hok hle
    have m0 : w.cell? ⟨g, 0, none⟩ = some (.slice (some ⟨gg, o, none⟩) (r.length + 1) cap) := hb.cell 0
    have m1 : w.cell? ⟨g, 1, none⟩ = some (.int .i64 0) := hb.cell 1
    have hp : (0 : Int) < r.length + 1 := by omega
    clear h hok hf hle E hf' hb hr n0 n1 n2
    go_enter Tryz.func39, Tryz.ntmps39
    go_wp2_with fail
    go_quiet (fail)
    go_wp2
    go_ret3
    exact ⟨rfl, below_draws (Below.refl _ _) _⟩
 · have E : Hid (c.eLine = c.line ∧ c.eCol = c.col ∧ c.eErr = c.fault) := by refine ⟨?_, ?_, ?_⟩ <;> simp [Cu.eLine, Cu.eCol, Cu.eErr, hf]
   rw [E.out.1, E.out.2.1, E.out.2.2]
   obtain ⟨a, cap, L, hb, _⟩ := h
   have m1 : w.cell? ⟨g, 1, none⟩ = some (.int .i64 c.fault) := hb.cell 1
   have m2 : w.cell? ⟨g, 2, none⟩ = some (.int .i64 c.line) := hb.cell 2
   have m3 : w.cell? ⟨g, 3, none⟩ = some (.int .i64 c.col) := hb.cell 3
   have q : (c.fault != 0) = true := by simp [hf]
   clear hf E hb hok
   go_enter Tryz.func39, Tryz.ntmps39
   go_wp2_with fail
   go_quiet (fail)
   go_wp2
   go_ret3
   exact ⟨rfl, below_draws (Below.refl _ _) _⟩
end Go.Proofs.YtbjmbahpcoanoaaGreatDoor
namespace Go.Proofs.YtbjmbahpcoanoaaGreatDoor
open Go.RowKit

/-- The document's reader, in memory: a cursor that was made behind the world w0. -/
structure Rr (w0 w : World) (g : Nat) (c : Cu) : Prop where
 cur : CurR w g c
 fit : Fit c
 be : Below w0.heap.size w0 w
 hg : w0.heap.size ≤ g
theorem Rr.step {w0 w w' : World} {g : Nat} {c d : Cu} (h : Rr w0 w g c) (hc : CurR w' g d) (hf : Fit d) (hk : Keep w.heap.size g w w') : Rr w0 w' g d :=
 ⟨hc, hf, h.be.trans (hk.below h.be.size h.hg), h.hg⟩
theorem Rr.below {w0 w w' : World} {g : Nat} {c : Cu} (h : Rr w0 w g c) (hb : Below w.heap.size w w') : Rr w0 w' g c :=
 ⟨h.cur.below hb, h.fit, h.be.trans (hb.mono h.be.size), h.hg⟩
/-- What a step does: the reader has gone on, all else is kept. -/
def Did (w0 w : World) (g : Nat) (d : Cu) (w' : World) : Prop := Rr w0 w' g d ∧ Keep w.heap.size g w w'
theorem Rr.did {w0 w w' : World} {g : Nat} {c d : Cu} (h : Rr w0 w g c) (hc : CurR w' g d) (hf : Fit d) (hk : Keep w.heap.size g w w') : Did w0 w g d w' := ⟨h.step hc hf hk, hk⟩
theorem Rr.stay {w0 w w' : World} {g : Nat} {c : Cu} (h : Rr w0 w g c) (hb : Below w.heap.size w w') : Did w0 w g c w' := ⟨h.below hb, Keep.of_below hb g⟩
theorem Did.and {w0 w w1 w2 : World} {g : Nat} {c d : Cu} (h : Did w0 w g c w1) (k : Did w0 w1 g d w2) : Did w0 w g d w2 := ⟨k.1, h.2.then_keep k.2⟩
theorem rr_key {w0 w : World} {g : Nat} {c : Cu} (s : ByteArray) (h : Rr w0 w g c) : Calls Tryz.prog 33 #[.pointer (some ⟨g, 0, none⟩), .string s] w fun e w' => e = .returned (.bool (c.keyB s)) ∧ Did w0 w g (c.key s) w' :=
 (keyR_any g c s w h.cur h.fit.ok).mono fun _ _ ⟨h1, h2, h3⟩ => ⟨h1, h.did h2 (h.fit.key s) h3⟩
theorem rr_is {w0 w : World} {g : Nat} {c : Cu} (s : ByteArray) (h : Rr w0 w g c) : Calls Tryz.prog 127 #[.pointer (some ⟨g, 0, none⟩), .string s] w fun e w' => e = .returned (.bool (c.isB s)) ∧ Did w0 w g (c.is s) w' :=
 (isR_any g c s w h.cur h.fit.ok).mono fun _ _ ⟨h1, h2, h3⟩ => ⟨h1, h.did h2 (h.fit.is s) h3⟩
theorem rr_fail {w0 w : World} {g : Nat} {c : Cu} (n : Int) (h : Rr w0 w g c) : Calls Tryz.prog 34 #[.pointer (some ⟨g, 0, none⟩), .int .i64 n] w fun e w' => e = .returned (.tuple #[]) ∧ Did w0 w g (c.fail n) w' :=
 (failR_any g c n w h.cur h.fit.ok).mono fun _ _ ⟨h1, h2, h3⟩ => ⟨h1, h.did h2 (h.fit.fail n) h3⟩
theorem rr_name {w0 w : World} {g : Nat} {c : Cu} (h : Rr w0 w g c) : Calls Tryz.prog 130 #[.pointer (some ⟨g, 0, none⟩)] w fun e w' => e = .returned (.string c.nameT) ∧ Did w0 w g c.name w' :=
 (nameR_any g c w h.cur h.fit.ok).mono fun _ _ ⟨h1, h2, h3⟩ => ⟨h1, h.did h2 h.fit.name h3⟩
theorem rr_num {w0 w : World} {g : Nat} {c : Cu} (a b : Int) (h : Rr w0 w g c) : Calls Tryz.prog 35 #[.pointer (some ⟨g, 0, none⟩), .int .i64 a, .int .i64 b] w fun e w' => e = .returned (.int .i64 (c.numN a b)) ∧ Did w0 w g (c.num a b) w' :=
 (numR_any g c a b w h.cur h.fit.ok).mono fun _ _ ⟨h1, h2, h3⟩ => ⟨h1, h.did h2 (h.fit.num a b) h3⟩
theorem rr_end {w0 w : World} {g : Nat} {c : Cu} (h : Rr w0 w g c) : Calls Tryz.prog 36 #[.pointer (some ⟨g, 0, none⟩)] w fun e w' => e = .returned (.tuple #[]) ∧ Did w0 w g c.end_ w' :=
 (endR_any g c w h.cur h.fit.ok).mono fun _ _ ⟨h1, h2, h3⟩ => ⟨h1, h.did h2 h.fit.end_ h3⟩
theorem rr_ends {w0 w : World} {g : Nat} {c : Cu} (h : Rr w0 w g c) : Calls Tryz.prog 125 #[.pointer (some ⟨g, 0, none⟩)] w fun e w' => e = .returned (.bool c.ends) ∧ w = w' :=
 endsR_any g c w h.cur h.fit.ok
theorem rr_slot {w0 w : World} {g : Nat} {c : Cu} (h : Rr w0 w g c) (hP : PowW w0) : Calls Tryz.prog 129 #[.pointer (some ⟨g, 0, none⟩)] w fun e w' => e = .returned (.int .i64 (numI (slotT c.nameT))) ∧ Did w0 w g c w' :=
 (isSlot7_any g c w h.cur h.fit.ok (hP.below h.be)).mono fun _ _ ⟨h1, h2⟩ => ⟨h1, h.stay h2⟩
theorem rr_reg {w0 w : World} {g : Nat} {c : Cu} (h : Rr w0 w g c) (hP : PowW w0) : Calls Tryz.prog 126 #[.pointer (some ⟨g, 0, none⟩)] w fun e w' => e = .returned (.int .i64 c.regN) ∧ Did w0 w g c.regC w' := by
 have IS : Hid (Calls Tryz.prog 167 #[.pointer (some ⟨g, 0, none⟩)] w fun e w' => e = .returned (.int .i64 (numI (regT c.nameT))) ∧ Did w0 w g c w') := (isReg7_any g c w h.cur h.fit.ok (hP.below h.be)).mono fun _ _ ⟨h1, h2⟩ => ⟨h1, h.stay h2⟩
 have FL : Hid (∀ W, Rr w0 W g c → _) := fun W h => rr_fail 7 h
 have NM : Hid (∀ W, Rr w0 W g c → _) := fun W h => rr_name h
 have EN : Hid (c.regN = match regT c.nameT with | some n => (n : Int) | none => 0) := rfl
 have EC : Hid (c.regC = match regT c.nameT with | some _ => c.name | none => c.fail 7) := rfl
 clear h hP
 generalize c.regN = rn at *
 generalize c.regC = rc at *
 cases hr : regT c.nameT with
 | none =>
  rw [hr] at IS EN EC
  have IS1 : Hid (Calls Tryz.prog 167 #[.pointer (some ⟨g, 0, none⟩)] w fun e w' => e = .returned (.int .i64 (-1)) ∧ Did w0 w g c w') := IS.out
  clear hr IS NM
  go_enter Tryz.func126, Tryz.ntmps126
  go_wp2_with fail
  refine IS1.out.mono ?_
  rintro e w1 ⟨rfl, h1⟩
  have F1 := Lib.hid (FL.out w1 h1.1)
  have D1 := Lib.hid h1
  clear h1 FL IS1
  go_wp2_with fail
  refine F1.out.mono ?_
  rintro e w2 ⟨rfl, h2⟩
  have H2 := Lib.hid (D1.out.and h2)
  clear h2 F1
  go_wp2
  go_ret
  exact ⟨by rw [EN.out]; rfl, by rw [EC.out]; exact H2.out⟩
 | some n =>
  rw [hr] at IS EN EC
  have IS1 : Hid (Calls Tryz.prog 167 #[.pointer (some ⟨g, 0, none⟩)] w fun e w' => e = .returned (.int .i64 (n : Int)) ∧ Did w0 w g c w') := IS.out
  have hn : ¬ (n : Int) < 0 := by omega
  clear hr IS FL
  go_enter Tryz.func126, Tryz.ntmps126
  go_wp2_with fail
  refine IS1.out.mono ?_
  rintro e w1 ⟨rfl, h1⟩
  have F1 := Lib.hid (NM.out w1 h1.1)
  have D1 := Lib.hid h1
  clear h1 NM IS1
  go_wp2_with fail
  refine F1.out.mono ?_
  rintro e w2 ⟨rfl, h2⟩
  have H2 := Lib.hid (D1.out.and h2)
  clear h2 F1
  go_wp2
  go_ret
  exact ⟨by rw [EN.out]; rfl, by rw [EC.out]; exact H2.out⟩
theorem rr_to {w0 w : World} {g : Nat} {c : Cu} (h : Rr w0 w g c) : Calls Tryz.prog 128 #[.pointer (some ⟨g, 0, none⟩)] w fun e w' => e = .returned (.int .i64 (c.numN 0 199)) ∧ Did w0 w g (c.num 0 199) w' := by
 have NM := Lib.hid (rr_num 0 199 h)
 clear h
 go_enter Tryz.func128, Tryz.ntmps128
 go_wp2_with fail
 refine NM.out.mono ?_
 rintro e w1 ⟨rfl, h1⟩
 have H1 := Lib.hid h1
 clear h1 NM
 go_wp2
 go_ret
 exact ⟨rfl, H1.out⟩
end Go.Proofs.YtbjmbahpcoanoaaGreatDoor
namespace Go.Proofs.YtbjmbahpcoanoaaGreatDoor

theorem key_name {c : Cu} {s : ByteArray} (hs : s ≠ ⟨#[]⟩) : c.keyB s = decide (c.nameT = s) := by
 unfold Cu.keyB Cu.nameT nameP
 cases hl : c.left.head? with
 | none => simp [Ne.symm hs]
 | some x =>
  by_cases hk : x.k = 1
  · simp [hk]
  · simp [hk, Ne.symm hs]
theorem key_goes {c : Cu} {s : ByteArray} (h : c.keyB s = true) : c.key s = c.name := by
 have h2 : (nameP c.left.head?).2 = true := by
  unfold Cu.keyB at h
  simp only [Bool.and_eq_true] at h
  exact h.1
 unfold Cu.key Cu.name
 rw [h, if_pos h2]
 rfl
theorem opNm_some {o : Int} (h : 1 ≤ o ∧ o ≤ 11) : opNm o ≠ ⟨#[]⟩ := by
 have h2 : o = 1 ∨ o = 2 ∨ o = 3 ∨ o = 4 ∨ o = 5 ∨ o = 6 ∨ o = 7 ∨ o = 8 ∨ o = 9 ∨ o = 10 ∨ o = 11 := by omega
 rcases h2 with rfl | rfl | rfl | rfl | rfl | rfl | rfl | rfl | rfl | rfl | rfl <;> decide
theorem opT_names : ((List.range' 1 11).all fun o => decide (opT (opNameL.getD o ⟨#[]⟩) = o) && decide (slotT (opNameL.getD o ⟨#[]⟩) = none)) = true := by decide +kernel
theorem opT_hit {o : Nat} (h : 1 ≤ o ∧ o ≤ 11) : opT (opNm (o : Int)) = o ∧ slotT (opNm (o : Int)) = none := by
 have h1 := List.all_eq_true.1 opT_names o (by rw [List.mem_range'_1]; omega)
 simp only [Bool.and_eq_true, decide_eq_true_eq] at h1
 unfold opNm
 rw [Int.toNat_natCast]
 exact h1
theorem opT_none {s : ByteArray} (h : ∀ o : Nat, 1 ≤ o ∧ o ≤ 11 → ¬ s = opNm (o : Int)) : opT s = 0 := by
 unfold opT
 have h2 : (List.range' 1 11).find? (fun o => decide (opNameL.getD o ⟨#[]⟩ = s)) = none := by
  rw [List.find?_eq_none]
  intro o ho
  rw [List.mem_range'_1] at ho
  have := h o (by omega)
  unfold opNm at this
  rw [Int.toNat_natCast] at this
  simpa using fun e => this (Eq.symm e)
 rw [h2]
 rfl
/-- One word is one thing. -/
theorem key_other {c : Cu} {s t : ByteArray} (h : c.keyB s = true) (hst : s ≠ t) : c.keyB t = false := by
 unfold Cu.keyB at h ⊢
 simp only [Bool.and_eq_true, decide_eq_true_eq] at h
 rw [h.2, decide_eq_false hst, Bool.and_false]
theorem is_key {c : Cu} {s t : ByteArray} (h : c.isB s = true) : c.keyB t = false := by
 unfold Cu.isB at h
 unfold Cu.keyB nameP
 cases hl : c.left.head? with
 | none => rfl
 | some x =>
  rw [hl] at h
  by_cases hk : x.k = 1
  · simp [signP, hk] at h
  · simp [hk]
end Go.Proofs.YtbjmbahpcoanoaaGreatDoor
