/-
  The document's reader of targets: Parse (written by gen/pak.py). Conditions: the library's table of powers holds what the text lays.
-/
import Derived.Test.YtbjmbahpcoanoaaGreatDoorPk45
import Derived.Test.YtbjmbahpcoanoaaGreatDoorPk36
import Derived.Test.YtbjmbahpcoanoaaGreatDoorPk49
import Derived.Deep.RegionHeld3
namespace Go.Proofs.YtbjmbahpcoanoaaGreatDoor
open Go.RowKit

theorem rr_more {w0 w : World} {g : Nat} {c : Cu} (h : Rr w0 w g c) : Calls Tryz.prog 37 #[.pointer (some ⟨g, 0, none⟩)] w fun e w' => e = .returned (.bool c.more) ∧ w = w' :=
 moreR_any g c w h.cur h.fit.ok
theorem rr_err {w0 w : World} {g : Nat} {c : Cu} (h : Rr w0 w g c) : Calls Tryz.prog 39 #[.pointer (some ⟨g, 0, none⟩)] w fun e w' => e = .returned (.tuple #[.int .i64 c.eLine, .int .i64 c.eCol, .int .i64 c.eErr]) ∧ Below w.heap.size w w' :=
 errR_any g c w h.cur h.fit.ok
theorem err_zero {c : Cu} (h : c.eErr = 0) : c.fault = 0 := by
 unfold Cu.eErr at h
 by_cases hf : c.fault = 0
 · exact hf
 · rw [if_pos hf] at h; exact h
set_option maxRecDepth 100000 in
set_option maxHeartbeats 8000000 in
theorem parse7_any (s : ByteArray) (w : World) (hP : PowW w) (hz : s.size ≤ 100000) : Calls Tryz.prog 15 #[.string s] w fun e w' => ToldT s w w' e := by
 obtain ⟨i0, hi0, hz0, hz1, hz2⟩ := info_parts block_info
 have R0 : Hid (Blk (w.alloc (.cells #[.int .i64 0, .slice none 0 0] 24)) w.heap.size 24 #[.int .i64 0, .slice none 0 0]) := Blk.new w _ _
 have HB0 : Hid (Below w.heap.size w (w.alloc (.cells #[.int .i64 0, .slice none 0 0] 24))) := (Below.refl _ w).alloc (Nat.le_refl _) _
 have hlt : ¬ (262144 : Int) < s.size := by omega
 have FT := Lib.hid (start_fit s (by omega))
 have OV := Lib.hid (overR0_any s (w.alloc (.cells #[.int .i64 0, .slice none 0 0] 24)) hz)
 have TN : Hid (∀ w' e, prG s = noG → _ → Below w.heap.size w w' → ToldT s w w' e) := fun w' e h1 h2 h3 => told_none h1 h2 h3
 have HP : Hid (prE s = (startC s).tgC.eErr ∧ prL s = (if (startC s).tgC.eErr = 0 then 0 else (startC s).tgC.eLine) ∧ prC s = (if (startC s).tgC.eErr = 0 then 0 else (startC s).tgC.eCol) ∧ prG s = (if (startC s).tgC.eErr = 0 then (startC s).tgG else noG) ∧ ∀ b ∈ (startC s).tgG.blocks, BareB b) := by
  have hz9 : ¬ 262144 < s.size := by omega
  have e1 : prE s = (startC s).tgC.eErr := by unfold prE; rw [if_neg hz9]
  refine ⟨e1, ?_, ?_, ?_, bare_tg 200 0 _ [] (by simp)⟩
  · unfold prL; rw [if_neg hz9]
  · unfold prC; rw [if_neg hz9]
  · unfold prG; rw [e1]
 have HPW := Lib.hid hP
 clear hz hP
 generalize startC s = c0 at *
 go_enter Tryz.func15, Tryz.ntmps15
 go_wp2_with fail
 refine OV.out.mono ?_
 rintro e w1 ⟨g, rfl, hc1, hg1, hb1⟩
 have hbe1 : Below w.heap.size w w1 := HB0.out.trans (hb1.mono HB0.out.size)
 have RR1 : Hid (Rr w w1 g c0) := ⟨hc1, FT.out, hbe1, by have := HB0.out.size; omega⟩
 have R1 : Hid (Blk w1 w.heap.size 24 #[.int .i64 0, .slice none 0 0]) := R0.out.below hb1 R0.out.lt
 have B1 := Lib.hid (Rt.new RR1.out R1.out #[.int .i64 0, .slice none 0 0])
 have hwp : w.heap.size < w1.heap.size := R1.out.lt
 have hgp : g < w1.heap.size := by obtain ⟨ds, hds⟩ := hc1.blk; exact hds.lt
 clear hc1 hg1 hb1 hbe1 OV R0 HB0 FT
 have S1 : Hid (∀ W, Rr w W g c0 → _) := fun W hr => rr_key kTarget hr
 have S2 : Hid (∀ W, Rr w W g (c0.key kTarget) → _) := fun W hr => rr_fail 7 hr
 have S3 : Hid (∀ W, Rr w W g (c0.keyedP kTarget) → _) := fun W hr => rr_num 0 400 hr
 have S4 : Hid (∀ W, Rr w W g ((c0.keyedP kTarget).num 0 400) → _) := fun W hr => rr_end hr
 have MO : Hid (∀ (d : Cu) W, Rr w W g d → _) := fun d W hr => rr_more hr
 have ER : Hid (∀ (d : Cu) W, Rr w W g d → _) := fun d W hr => rr_err hr
 have HD : Hid (((c0.keyedP kTarget).num 0 400).end_ = c0.tgHead) := rfl
 have HK : Hid (c0.keyedP kTarget = if c0.keyB kTarget then c0.key kTarget else (c0.key kTarget).fail 7) := rfl
 have HG : Hid (c0.tgC = (tgGo 200 0 c0.tgHead []).1 ∧ c0.tgG = ⟨(c0.keyedP kTarget).numN 0 400, (tgGo 200 0 c0.tgHead []).2⟩) := ⟨rfl, rfl⟩
 rw [HD.out] at S4
 clear HD R1 RR1
 generalize c0.tgC = tC at *
 generalize c0.tgG = tG at *
 generalize c0.tgHead = k3 at *
 generalize (c0.keyedP kTarget).numN 0 400 = fr at *
 generalize (c0.keyedP kTarget).num 0 400 = k2 at *
 generalize c0.keyedP kTarget = k1 at *
 generalize c0.key kTarget = kk at *
 generalize hkb : c0.keyB kTarget = kb at *
 clear hkb
 unfold kTarget at S1
 go_wp2_with fail
 refine (S1.out _ B1.out.rr).mono ?_
 rintro e w2 ⟨rfl, h2⟩
 have B2 := Lib.hid (B1.out.did h2)
 clear h2 B1 S1
 generalize hpe : w1.heap.size = p at *
 clear hpe
 go_upto_if 20 with fail
 go_cut [] from 18 to 22 (fun W => Rt w W g p k1 [] (.slice none 0 0) #[.int .i64 0, .slice none 0 0] #[.int .i64 0, .slice none 0 0])
 case first =>
  cases kb
  · have hE := HK.out
    rw [if_neg (by decide)] at hE
    go_wp2_with fail
    refine (S2.out _ B2.out.rr).mono ?_
    rintro e w3 ⟨rfl, h3⟩
    have B3 := Lib.hid (B2.out.did h3)
    clear h3
    go_wp2
    go_meet
    rw [hE]
    exact B3.out
  · have hE := HK.out
    rw [if_pos rfl] at hE
    go_wp2
    go_meet
    rw [hE]
    exact B2.out
 case rest =>
 have B3 := Lib.hid hcut
 clear hcut B2 S2 HK
 go_wp2_with fail
 refine (S3.out _ B3.out.rr).mono ?_
 rintro e w4 ⟨rfl, h4⟩
 have B4 := Lib.hid (B3.out.did h4)
 have B4p : Hid (Rt w (w4.setCell ⟨p, 0, none⟩ (.int .i64 fr)) g p k2 [] (.slice none 0 0) #[.int .i64 0, .slice none 0 0] #[.int .i64 fr, .slice none 0 0]) := B4.out.put 0 (.int .i64 fr)
 have c0 : w4.cell? ⟨p, 0, none⟩ = some (.int .i64 0) := B4.out.b.cell 0
 have f0 := B4.out.b.free 0
 have hbl4 := B4.out.b.lt
 clear h4 B3 S3
 go_wp2_with fail
 refine (S4.out _ B4p.out.rr).mono ?_
 rintro e w5 ⟨rfl, h5⟩
 have B5 := Lib.hid (B4p.out.did h5)
 clear h5 B4 B4p S4 c0 f0 hbl4
 go_wp2
 go_loopg [8] 202 (fun gk v wr => ∃ (d : Cu) (es : List WB) (a : Option Addr) (cap n : Nat), v = .int .i64 n ∧ Hid (n = es.length) ∧ n + gk = 202 ∧ TgI k3 d n (es.map Prod.fst) ∧ Rt w wr g p d es (.slice a es.length cap) #[.int .i64 0, .slice none 0 0] #[.int .i64 fr, .slice a es.length cap])
 case atStart => exact ⟨k3, [], none, 0, 0, rfl, rfl, rfl, ⟨by omega, fun h => by omega, rfl, fun _ => rfl⟩, B5.out⟩
 case round =>
  obtain ⟨d, es, a, cap, n, rfl, HL, hg, hI, hB⟩ := hrel
  have HB := Lib.hid hB
  have HI := Lib.hid hI
  have M := Lib.hid (MO.out d _ hB.rr)
  clear hB hI B5
  by_cases h0 : n = 0
  · subst h0
    have HS : Hid (∀ b : Bb, _ → _) := fun b hb => HI.out.step HB.out.rr.fit (.inl rfl) (b := b) hb
    have hn9 := HI.out.few HB.out.rr.fit.ok (.inl rfl)
    have hes : es.length ≤ 200 := by have := HL.out; omega
    have BL : Hid (∀ W, Rr w W g d → _) := fun W hr => blockR_any 0 hr HPW.out
    rw [show ((0 : Nat) : Int) = 0 from rfl] at HS
    obtain ⟨gk, rfl⟩ : ∃ k, gk = k + 1 := ⟨gk - 1, by omega⟩
    clear M
    generalize d.rbC 0 = d2 at *
    generalize d.rbB 0 = bB at *
    have BD := Lib.hid HB.out.drew
    have c1 : wr.drew.cell? ⟨p, 1, none⟩ = some (.slice a es.length cap) := BD.out.b.cell 1
    have hblr := BD.out.b.lt
    go_upto_region 12 with fail
    refine wp_region_any (by kernel_rfl) ?_
    change wpAny _ _ _ _ _ _ _ wr.drew
    refine wpAny_take (i := 0) (v := ?vq4) (by simp only [List.getElem?_toArray, List.getElem?_cons_zero]; rfl) (by kernel_rfl) (by kernel_rfl) (by kernel_rfl) (by exact fun _ _ _ h => h) (Or.inl ⟨by rfl, ?yq4⟩) ?_
    case yq4 => (intro W9; go_simp; try (with_reducible rfl))
    try simp only [Act.put, List.setIfInBounds_toArray, List.set_cons_zero, List.set_cons_succ]
    refine wpAny_take (i := 2) (v := ?vq5) (by simp only [List.getElem?_toArray, List.getElem?_cons_succ, List.getElem?_cons_zero]; rfl) (by kernel_rfl) (by kernel_rfl) (by kernel_rfl) (by exact fun _ _ _ h => h) (Or.inl ⟨by rfl, ?yq5⟩) ?_
    case yq5 => (intro W9; go_simp; try (with_reducible rfl))
    try simp only [Act.put, List.setIfInBounds_toArray, List.set_cons_zero, List.set_cons_succ]
    refine wpAny_take (i := 3) (v := ?vq6) (by simp only [List.getElem?_toArray, List.getElem?_cons_succ, List.getElem?_cons_zero]; rfl) (by kernel_rfl) (by kernel_rfl) (by kernel_rfl) (by exact fun _ _ _ h => h) (Or.inl ⟨by rfl, ?yq6⟩) ?_
    case yq6 => (intro W9; go_simp; try (with_reducible rfl))
    try simp only [Act.put, List.setIfInBounds_toArray, List.set_cons_zero, List.set_cons_succ]
    refine wpAny_ready (rs := [1, 4]) (by kernel_rfl) (by simp) ?_
    refine AllReady.cons (by simp only [List.getElem?_toArray, List.getElem?_cons_succ, List.getElem?_cons_zero]; rfl) (fun K hK => ?_) (AllReady.cons (by simp only [List.getElem?_toArray, List.getElem?_cons_succ, List.getElem?_cons_zero]; rfl) (fun K hK => ?_) AllReady.nil)
    · go_simp
      refine hK _ _ ?_
      clear hK K
      try simp only [Act.put, List.setIfInBounds_toArray, List.set_cons_zero, List.set_cons_succ]
      refine wpAny_ready (rs := [4]) (by kernel_rfl) (by simp) ?_
      refine AllReady.cons (by simp only [List.getElem?_toArray, List.getElem?_cons_succ, List.getElem?_cons_zero]; rfl) (fun K hK => ?_) AllReady.nil
      go_simp
      go_at_call 38
      refine (BL.out _ BD.out.rr).mono ?_
      rintro e w5 ⟨b, xa, xk, rs2, cs2, rfl, hbb, hb⟩
      have T5 := Lib.hid (BD.out.block hb)
      have HS2 := Lib.hid (HS.out b hbb)
      have c5 : w5.cell? ⟨p, 1, none⟩ = some (.slice a es.length cap) := T5.out.1.b.cell 1
      have hbl5 := T5.out.1.b.lt
      clear hb hbb
      unfold blkC
      dsimp only
      refine hK _ _ ?_
      clear hK K
      try simp only [Act.put, List.setIfInBounds_toArray, List.set_cons_zero, List.set_cons_succ]
      refine wpAny_ready (rs := [5]) (by kernel_rfl) (by simp) ?_
      refine AllReady.cons (by simp only [List.getElem?_toArray, List.getElem?_cons_succ, List.getElem?_cons_zero]; rfl) (fun K hK => ?_) AllReady.nil
      go_simp
      refine hK _ _ ?_
      clear hK K
      try simp only [Act.put, List.setIfInBounds_toArray, List.set_cons_zero, List.set_cons_succ]
      have hsz5 := T5.out.1.rr.be.size
      refine wpAny_ready (rs := [6]) (by kernel_rfl) (by simp) ?_
      refine AllReady.cons (by simp only [List.getElem?_toArray, List.getElem?_cons_succ, List.getElem?_cons_zero]; rfl) (fun K hK => ?_) AllReady.nil
      refine step_append_lies _ rfl _ _ _ rfl w.heap.size 53 i0 _ 5 56 Tryz.underlying22 hi0 hz0 hz1 hz2 rfl (by omega) (.slice a es.length cap) es.length (es.flatMap wbC) rfl (World.ownsRow.alloc T5.out.1.row _) ⟨w5.heap.size, 0, none⟩ 1 1 (wbC (b, xa, xk)) rfl rfl (World.news_of_block (heap_alloc_new w5 _)) (wb_one (b, xa, xk)) (by omega) (by simp only [maxLen]; omega) (by omega) (by simp; omega) (w5.heap.size + 1) (by simp) ?_
      intro gg cap4 w7 hown4 hgrow hat hlt4
      have hB4 := Rt.growA T5.out.1 T5.out.2 hgrow hown4
      have q1 : w7.cell? ⟨p, 1, none⟩ = some (.slice a es.length cap) := hB4.b.cell 1
      have f1 : w7.frozen? ⟨p, 1, none⟩ = false := hB4.b.free 1
      have hbl7 := hB4.b.lt
      have B7 := Lib.hid (hB4.put 1 (.slice (some ⟨gg, 0, none⟩) (es.length + 1) cap4))
      clear hown4 hgrow hat hlt4 hB4 c5 hsz5 hbl5 T5
      refine hK _ _ ?_
      clear hK K
      try simp only [Act.put, List.setIfInBounds_toArray, List.set_cons_zero, List.set_cons_succ]
      refine wpAny_take (i := 7) (v := ?vq1) (by simp only [List.getElem?_toArray, List.getElem?_cons_succ, List.getElem?_cons_zero]; rfl) (by kernel_rfl) (by kernel_rfl) (by kernel_rfl) (by exact fun _ _ _ h => h) (Or.inl ⟨by rfl, ?yq1⟩) ?_
      case yq1 => (intro W9; go_simp; try (with_reducible rfl))
      try simp only [Act.put, List.setIfInBounds_toArray, List.set_cons_zero, List.set_cons_succ]
      refine wpAny_ready (rs := [8]) (by kernel_rfl) (by simp) ?_
      refine AllReady.cons (by simp only [List.getElem?_toArray, List.getElem?_cons_succ, List.getElem?_cons_zero]; rfl) (fun K hK => ?_) AllReady.nil
      go_simp
      refine hK _ _ ?_
      clear hK K
      try simp only [Act.put, List.setIfInBounds_toArray, List.set_cons_zero, List.set_cons_succ]
      refine wpAny_done (by kernel_rfl) ?_ _
      clear q1 f1
      go_wp2
      go_roundg gk
      case measure => omega
      case rel => exact ⟨d2, es ++ [(b, xa, xk)], some ⟨gg, 0, none⟩, cap4, 0 + 1, by go_num, by have h := HL.out; show _ + 1 = _; rw [List.length_append, List.length_singleton, ← h], by omega, by simpa using HS2.out, by simpa using B7.out⟩
    · go_simp
      go_at_call 38
      refine (BL.out _ BD.out.rr).mono ?_
      rintro e w5 ⟨b, xa, xk, rs2, cs2, rfl, hbb, hb⟩
      have T5 := Lib.hid (BD.out.block hb)
      have HS2 := Lib.hid (HS.out b hbb)
      have c5 : w5.cell? ⟨p, 1, none⟩ = some (.slice a es.length cap) := T5.out.1.b.cell 1
      have hbl5 := T5.out.1.b.lt
      clear hb hbb
      unfold blkC
      dsimp only
      refine hK _ _ ?_
      clear hK K
      try simp only [Act.put, List.setIfInBounds_toArray, List.set_cons_zero, List.set_cons_succ]
      refine wpAny_ready (rs := [1, 5]) (by kernel_rfl) (by simp) ?_
      refine AllReady.cons (by simp only [List.getElem?_toArray, List.getElem?_cons_succ, List.getElem?_cons_zero]; rfl) (fun K hK => ?_) (AllReady.cons (by simp only [List.getElem?_toArray, List.getElem?_cons_succ, List.getElem?_cons_zero]; rfl) (fun K hK => ?_) AllReady.nil)
      · go_simp
        refine hK _ _ ?_
        clear hK K
        try simp only [Act.put, List.setIfInBounds_toArray, List.set_cons_zero, List.set_cons_succ]
        refine wpAny_ready (rs := [5]) (by kernel_rfl) (by simp) ?_
        refine AllReady.cons (by simp only [List.getElem?_toArray, List.getElem?_cons_succ, List.getElem?_cons_zero]; rfl) (fun K hK => ?_) AllReady.nil
        go_simp
        refine hK _ _ ?_
        clear hK K
        try simp only [Act.put, List.setIfInBounds_toArray, List.set_cons_zero, List.set_cons_succ]
        have hsz5 := T5.out.1.rr.be.size
        refine wpAny_ready (rs := [6]) (by kernel_rfl) (by simp) ?_
        refine AllReady.cons (by simp only [List.getElem?_toArray, List.getElem?_cons_succ, List.getElem?_cons_zero]; rfl) (fun K hK => ?_) AllReady.nil
        refine step_append_lies _ rfl _ _ _ rfl w.heap.size 53 i0 _ 5 56 Tryz.underlying22 hi0 hz0 hz1 hz2 rfl (by omega) (.slice a es.length cap) es.length (es.flatMap wbC) rfl (World.ownsRow.alloc T5.out.1.row _) ⟨w5.heap.size, 0, none⟩ 1 1 (wbC (b, xa, xk)) rfl rfl (World.news_of_block (heap_alloc_new w5 _)) (wb_one (b, xa, xk)) (by omega) (by simp only [maxLen]; omega) (by omega) (by simp; omega) (w5.heap.size + 1) (by simp) ?_
        intro gg cap4 w7 hown4 hgrow hat hlt4
        have hB4 := Rt.growA T5.out.1 T5.out.2 hgrow hown4
        have q1 : w7.cell? ⟨p, 1, none⟩ = some (.slice a es.length cap) := hB4.b.cell 1
        have f1 : w7.frozen? ⟨p, 1, none⟩ = false := hB4.b.free 1
        have hbl7 := hB4.b.lt
        have B7 := Lib.hid (hB4.put 1 (.slice (some ⟨gg, 0, none⟩) (es.length + 1) cap4))
        clear hown4 hgrow hat hlt4 hB4 c5 hsz5 hbl5 T5
        refine hK _ _ ?_
        clear hK K
        try simp only [Act.put, List.setIfInBounds_toArray, List.set_cons_zero, List.set_cons_succ]
        refine wpAny_take (i := 7) (v := ?vq2) (by simp only [List.getElem?_toArray, List.getElem?_cons_succ, List.getElem?_cons_zero]; rfl) (by kernel_rfl) (by kernel_rfl) (by kernel_rfl) (by exact fun _ _ _ h => h) (Or.inl ⟨by rfl, ?yq2⟩) ?_
        case yq2 => (intro W9; go_simp; try (with_reducible rfl))
        try simp only [Act.put, List.setIfInBounds_toArray, List.set_cons_zero, List.set_cons_succ]
        refine wpAny_ready (rs := [8]) (by kernel_rfl) (by simp) ?_
        refine AllReady.cons (by simp only [List.getElem?_toArray, List.getElem?_cons_succ, List.getElem?_cons_zero]; rfl) (fun K hK => ?_) AllReady.nil
        go_simp
        refine hK _ _ ?_
        clear hK K
        try simp only [Act.put, List.setIfInBounds_toArray, List.set_cons_zero, List.set_cons_succ]
        refine wpAny_done (by kernel_rfl) ?_ _
        clear q1 f1
        go_wp2
        go_roundg gk
        case measure => omega
        case rel => exact ⟨d2, es ++ [(b, xa, xk)], some ⟨gg, 0, none⟩, cap4, 0 + 1, by go_num, by have h := HL.out; show _ + 1 = _; rw [List.length_append, List.length_singleton, ← h], by omega, by simpa using HS2.out, by simpa using B7.out⟩
      · go_simp
        refine hK _ _ ?_
        clear hK K
        try simp only [Act.put, List.setIfInBounds_toArray, List.set_cons_zero, List.set_cons_succ]
        refine wpAny_ready (rs := [1]) (by kernel_rfl) (by simp) ?_
        refine AllReady.cons (by simp only [List.getElem?_toArray, List.getElem?_cons_succ, List.getElem?_cons_zero]; rfl) (fun K hK => ?_) AllReady.nil
        go_simp
        refine hK _ _ ?_
        clear hK K
        try simp only [Act.put, List.setIfInBounds_toArray, List.set_cons_zero, List.set_cons_succ]
        have hsz5 := T5.out.1.rr.be.size
        refine wpAny_ready (rs := [6]) (by kernel_rfl) (by simp) ?_
        refine AllReady.cons (by simp only [List.getElem?_toArray, List.getElem?_cons_succ, List.getElem?_cons_zero]; rfl) (fun K hK => ?_) AllReady.nil
        refine step_append_lies _ rfl _ _ _ rfl w.heap.size 53 i0 _ 5 56 Tryz.underlying22 hi0 hz0 hz1 hz2 rfl (by omega) (.slice a es.length cap) es.length (es.flatMap wbC) rfl (World.ownsRow.alloc T5.out.1.row _) ⟨w5.heap.size, 0, none⟩ 1 1 (wbC (b, xa, xk)) rfl rfl (World.news_of_block (heap_alloc_new w5 _)) (wb_one (b, xa, xk)) (by omega) (by simp only [maxLen]; omega) (by omega) (by simp; omega) (w5.heap.size + 1) (by simp) ?_
        intro gg cap4 w7 hown4 hgrow hat hlt4
        have hB4 := Rt.growA T5.out.1 T5.out.2 hgrow hown4
        have q1 : w7.cell? ⟨p, 1, none⟩ = some (.slice a es.length cap) := hB4.b.cell 1
        have f1 : w7.frozen? ⟨p, 1, none⟩ = false := hB4.b.free 1
        have hbl7 := hB4.b.lt
        have B7 := Lib.hid (hB4.put 1 (.slice (some ⟨gg, 0, none⟩) (es.length + 1) cap4))
        clear hown4 hgrow hat hlt4 hB4 c5 hsz5 hbl5 T5
        refine hK _ _ ?_
        clear hK K
        try simp only [Act.put, List.setIfInBounds_toArray, List.set_cons_zero, List.set_cons_succ]
        refine wpAny_take (i := 7) (v := ?vq3) (by simp only [List.getElem?_toArray, List.getElem?_cons_succ, List.getElem?_cons_zero]; rfl) (by kernel_rfl) (by kernel_rfl) (by kernel_rfl) (by exact fun _ _ _ h => h) (Or.inl ⟨by rfl, ?yq3⟩) ?_
        case yq3 => (intro W9; go_simp; try (with_reducible rfl))
        try simp only [Act.put, List.setIfInBounds_toArray, List.set_cons_zero, List.set_cons_succ]
        refine wpAny_ready (rs := [8]) (by kernel_rfl) (by simp) ?_
        refine AllReady.cons (by simp only [List.getElem?_toArray, List.getElem?_cons_succ, List.getElem?_cons_zero]; rfl) (fun K hK => ?_) AllReady.nil
        go_simp
        refine hK _ _ ?_
        clear hK K
        try simp only [Act.put, List.setIfInBounds_toArray, List.set_cons_zero, List.set_cons_succ]
        refine wpAny_done (by kernel_rfl) ?_ _
        clear q1 f1
        go_wp2
        go_roundg gk
        case measure => omega
        case rel => exact ⟨d2, es ++ [(b, xa, xk)], some ⟨gg, 0, none⟩, cap4, 0 + 1, by go_num, by have h := HL.out; show _ + 1 = _; rw [List.length_append, List.length_singleton, ← h], by omega, by simpa using HS2.out, by simpa using B7.out⟩
  · have hnp : ¬ (n : Int) = 0 := by omega
    cases hm : d.more
    · have hno : ¬ (n = 0 ∨ d.more = true) := by rw [hm]; rintro (e | e); exact h0 e; cases e
      have HE := Lib.hid (HI.out.ends hno)
      have EV := Lib.hid (ER.out d _ HB.out.rr)
      have EZ : Hid (d.eErr = 0 → d.fault = 0) := fun h => err_zero h
      have HF := HB.out.rr.fit
      rw [hm] at M
      clear hno hm hg HI HF
      have hE1 := HE.out.1
      rw [HG.out.1, hE1, HG.out.2] at HP
      generalize d.eErr = E at *
      generalize d.eLine = EL at *
      generalize d.eCol = EC at *
      go_wp2_with fail
      refine M.out.mono ?_
      rintro e w6 ⟨rfl, rfl⟩
      clear M
      go_wp2_with fail
      refine EV.out.mono ?_
      rintro e w7 ⟨rfl, hb7⟩
      have HB7 := Lib.hid (HB.out.below hb7)
      clear EV hb7 HB
      have HB := HB7
      clear HB7
      have x0 : w7.cell? ⟨w.heap.size, 0, none⟩ = some (.int .i64 0) := HB.out.r.cell 0
      have x1 : w7.cell? ⟨w.heap.size, 1, none⟩ = some (.slice none 0 0) := HB.out.r.cell 1
      have f0 := HB.out.r.free 0
      have f1 := HB.out.r.free 1
      have u0 : w7.cell? ⟨p, 0, none⟩ = some (.int .i64 fr) := HB.out.b.cell 0
      have u1 : w7.cell? ⟨p, 1, none⟩ = some (.slice a es.length cap) := HB.out.b.cell 1
      cases hE : E != 0
      · have hE0 : E = 0 := by simpa using hE
        have HF := Lib.hid (EZ.out hE0)
        have HP2 := Lib.hid HP.out
        rw [hE0] at HP2
        clear HP TN hE0
        go_wp2
        (try simp only [Exit.inBlock, Exit.then])
        have hb := (HB.out.putR 0 (.int .i64 fr)).putR 1 (.slice a es.length cap)
        have hld := run_loadVar_row (P := Tryz.prog) _ w.heap.size 24 24 _ (0, 0) _ hb.r Tryz.underlying24 rfl target_size
        refine bodyPost_ret (v := .tuple #[.agg #[.int .i64 fr, .slice a es.length cap], .int .i64 0, .int .i64 0, .int .i64 0]) ?_ rfl ?_
        · rw [results_cell3 rfl]
          simp [asAddr, Result.andThen, hld]
        · obtain ⟨e1, e2, e3, e4, e5⟩ := HP2.out
          simp only [if_true] at e2 e3 e4
          have hbl := HE.out.2 HF.out
          rw [hbl] at e4 e5
          have hl : (es.map Prod.fst).length = es.length := List.length_map _
          have RT5 : RowsT _ w.heap.size es a cap := ⟨hb.row, hb.rows⟩
          obtain ⟨g1, g2⟩ := RT5.bls e5
          refine ⟨a, cap, ?_, ?_, hb.rr.be⟩
          · rw [e1, e2, e3, e4]
            unfold tgV tgC
            dsimp only
            rw [hl]
          · rw [e4]
            exact ⟨g1, g2⟩
      · have hE0 : ¬ E = 0 := by simpa using hE
        obtain ⟨e1, e2, e3, e4, _⟩ := HP.out
        rw [if_neg hE0] at e2 e3 e4
        rw [e1, e2, e3] at TN
        have TN1 := Lib.hid (fun w' e => TN.out w' e e4)
        clear HP TN hE0 e1 e2 e3 e4
        go_wp2
        (try simp only [Exit.inBlock, Exit.then])
        have hb := (HB.out.putR 0 (.int .i64 0)).putR 1 (.slice none 0 0)
        have hld := run_loadVar_row (P := Tryz.prog) _ w.heap.size 24 24 _ (0, 0) _ hb.r Tryz.underlying24 rfl target_size
        refine bodyPost_ret (v := .tuple #[.agg #[.int .i64 0, .slice none 0 0], .int .i64 EL, .int .i64 EC, .int .i64 E]) ?_ rfl ?_
        · rw [results_cell3 rfl]
          simp [asAddr, Result.andThen, hld]
        · exact TN1.out _ _ rfl hb.rr.be
    · rw [hm] at M
      have HS : Hid (∀ b : Bb, _ → _) := fun b hb => HI.out.step HB.out.rr.fit (.inr hm) (b := b) hb
      have hn9 := HI.out.few HB.out.rr.fit.ok (.inr hm)
      have hes : es.length ≤ 200 := by have := HL.out; omega
      have BL : Hid (∀ W, Rr w W g d → _) := fun W hr => blockR_any n hr HPW.out
      obtain ⟨gk, rfl⟩ : ∃ k, gk = k + 1 := ⟨gk - 1, by omega⟩
      clear hm
      generalize d.rbC n = d2 at *
      generalize d.rbB n = bB at *
      go_wp2_with fail
      refine M.out.mono ?_
      rintro e w6 ⟨rfl, rfl⟩
      clear M
      have BD := Lib.hid HB.out.drew
      have c1 : wr.drew.cell? ⟨p, 1, none⟩ = some (.slice a es.length cap) := BD.out.b.cell 1
      have hblr := BD.out.b.lt
      go_upto_region 12 with fail
      refine wp_region_any (by kernel_rfl) ?_
      change wpAny _ _ _ _ _ _ _ wr.drew
      refine wpAny_take (i := 0) (v := ?vq10) (by simp only [List.getElem?_toArray, List.getElem?_cons_zero]; rfl) (by kernel_rfl) (by kernel_rfl) (by kernel_rfl) (by exact fun _ _ _ h => h) (Or.inl ⟨by rfl, ?yq10⟩) ?_
      case yq10 => (intro W9; go_simp; try (with_reducible rfl))
      try simp only [Act.put, List.setIfInBounds_toArray, List.set_cons_zero, List.set_cons_succ]
      refine wpAny_take (i := 2) (v := ?vq11) (by simp only [List.getElem?_toArray, List.getElem?_cons_succ, List.getElem?_cons_zero]; rfl) (by kernel_rfl) (by kernel_rfl) (by kernel_rfl) (by exact fun _ _ _ h => h) (Or.inl ⟨by rfl, ?yq11⟩) ?_
      case yq11 => (intro W9; go_simp; try (with_reducible rfl))
      try simp only [Act.put, List.setIfInBounds_toArray, List.set_cons_zero, List.set_cons_succ]
      refine wpAny_take (i := 3) (v := ?vq12) (by simp only [List.getElem?_toArray, List.getElem?_cons_succ, List.getElem?_cons_zero]; rfl) (by kernel_rfl) (by kernel_rfl) (by kernel_rfl) (by exact fun _ _ _ h => h) (Or.inl ⟨by rfl, ?yq12⟩) ?_
      case yq12 => (intro W9; go_simp; try (with_reducible rfl))
      try simp only [Act.put, List.setIfInBounds_toArray, List.set_cons_zero, List.set_cons_succ]
      refine wpAny_ready (rs := [1, 4]) (by kernel_rfl) (by simp) ?_
      refine AllReady.cons (by simp only [List.getElem?_toArray, List.getElem?_cons_succ, List.getElem?_cons_zero]; rfl) (fun K hK => ?_) (AllReady.cons (by simp only [List.getElem?_toArray, List.getElem?_cons_succ, List.getElem?_cons_zero]; rfl) (fun K hK => ?_) AllReady.nil)
      · go_simp
        refine hK _ _ ?_
        clear hK K
        try simp only [Act.put, List.setIfInBounds_toArray, List.set_cons_zero, List.set_cons_succ]
        refine wpAny_ready (rs := [4]) (by kernel_rfl) (by simp) ?_
        refine AllReady.cons (by simp only [List.getElem?_toArray, List.getElem?_cons_succ, List.getElem?_cons_zero]; rfl) (fun K hK => ?_) AllReady.nil
        go_simp
        go_at_call 38
        refine (BL.out _ BD.out.rr).mono ?_
        rintro e w5 ⟨b, xa, xk, rs2, cs2, rfl, hbb, hb⟩
        have T5 := Lib.hid (BD.out.block hb)
        have HS2 := Lib.hid (HS.out b hbb)
        have c5 : w5.cell? ⟨p, 1, none⟩ = some (.slice a es.length cap) := T5.out.1.b.cell 1
        have hbl5 := T5.out.1.b.lt
        clear hb hbb
        unfold blkC
        dsimp only
        refine hK _ _ ?_
        clear hK K
        try simp only [Act.put, List.setIfInBounds_toArray, List.set_cons_zero, List.set_cons_succ]
        refine wpAny_ready (rs := [5]) (by kernel_rfl) (by simp) ?_
        refine AllReady.cons (by simp only [List.getElem?_toArray, List.getElem?_cons_succ, List.getElem?_cons_zero]; rfl) (fun K hK => ?_) AllReady.nil
        go_simp
        refine hK _ _ ?_
        clear hK K
        try simp only [Act.put, List.setIfInBounds_toArray, List.set_cons_zero, List.set_cons_succ]
        have hsz5 := T5.out.1.rr.be.size
        refine wpAny_ready (rs := [6]) (by kernel_rfl) (by simp) ?_
        refine AllReady.cons (by simp only [List.getElem?_toArray, List.getElem?_cons_succ, List.getElem?_cons_zero]; rfl) (fun K hK => ?_) AllReady.nil
        refine step_append_lies _ rfl _ _ _ rfl w.heap.size 53 i0 _ 5 56 Tryz.underlying22 hi0 hz0 hz1 hz2 rfl (by omega) (.slice a es.length cap) es.length (es.flatMap wbC) rfl (World.ownsRow.alloc T5.out.1.row _) ⟨w5.heap.size, 0, none⟩ 1 1 (wbC (b, xa, xk)) rfl rfl (World.news_of_block (heap_alloc_new w5 _)) (wb_one (b, xa, xk)) (by omega) (by simp only [maxLen]; omega) (by omega) (by simp; omega) (w5.heap.size + 1) (by simp) ?_
        intro gg cap4 w7 hown4 hgrow hat hlt4
        have hB4 := Rt.growA T5.out.1 T5.out.2 hgrow hown4
        have q1 : w7.cell? ⟨p, 1, none⟩ = some (.slice a es.length cap) := hB4.b.cell 1
        have f1 : w7.frozen? ⟨p, 1, none⟩ = false := hB4.b.free 1
        have hbl7 := hB4.b.lt
        have B7 := Lib.hid (hB4.put 1 (.slice (some ⟨gg, 0, none⟩) (es.length + 1) cap4))
        clear hown4 hgrow hat hlt4 hB4 c5 hsz5 hbl5 T5
        refine hK _ _ ?_
        clear hK K
        try simp only [Act.put, List.setIfInBounds_toArray, List.set_cons_zero, List.set_cons_succ]
        refine wpAny_take (i := 7) (v := ?vq7) (by simp only [List.getElem?_toArray, List.getElem?_cons_succ, List.getElem?_cons_zero]; rfl) (by kernel_rfl) (by kernel_rfl) (by kernel_rfl) (by exact fun _ _ _ h => h) (Or.inl ⟨by rfl, ?yq7⟩) ?_
        case yq7 => (intro W9; go_simp; try (with_reducible rfl))
        try simp only [Act.put, List.setIfInBounds_toArray, List.set_cons_zero, List.set_cons_succ]
        refine wpAny_ready (rs := [8]) (by kernel_rfl) (by simp) ?_
        refine AllReady.cons (by simp only [List.getElem?_toArray, List.getElem?_cons_succ, List.getElem?_cons_zero]; rfl) (fun K hK => ?_) AllReady.nil
        go_simp
        refine hK _ _ ?_
        clear hK K
        try simp only [Act.put, List.setIfInBounds_toArray, List.set_cons_zero, List.set_cons_succ]
        refine wpAny_done (by kernel_rfl) ?_ _
        clear q1 f1
        go_wp2
        go_roundg gk
        case measure => omega
        case rel => exact ⟨d2, es ++ [(b, xa, xk)], some ⟨gg, 0, none⟩, cap4, n + 1, by go_num, by have h := HL.out; show _ + 1 = _; rw [List.length_append, List.length_singleton, ← h], by omega, by simpa using HS2.out, by simpa using B7.out⟩
      · go_simp
        go_at_call 38
        refine (BL.out _ BD.out.rr).mono ?_
        rintro e w5 ⟨b, xa, xk, rs2, cs2, rfl, hbb, hb⟩
        have T5 := Lib.hid (BD.out.block hb)
        have HS2 := Lib.hid (HS.out b hbb)
        have c5 : w5.cell? ⟨p, 1, none⟩ = some (.slice a es.length cap) := T5.out.1.b.cell 1
        have hbl5 := T5.out.1.b.lt
        clear hb hbb
        unfold blkC
        dsimp only
        refine hK _ _ ?_
        clear hK K
        try simp only [Act.put, List.setIfInBounds_toArray, List.set_cons_zero, List.set_cons_succ]
        refine wpAny_ready (rs := [1, 5]) (by kernel_rfl) (by simp) ?_
        refine AllReady.cons (by simp only [List.getElem?_toArray, List.getElem?_cons_succ, List.getElem?_cons_zero]; rfl) (fun K hK => ?_) (AllReady.cons (by simp only [List.getElem?_toArray, List.getElem?_cons_succ, List.getElem?_cons_zero]; rfl) (fun K hK => ?_) AllReady.nil)
        · go_simp
          refine hK _ _ ?_
          clear hK K
          try simp only [Act.put, List.setIfInBounds_toArray, List.set_cons_zero, List.set_cons_succ]
          refine wpAny_ready (rs := [5]) (by kernel_rfl) (by simp) ?_
          refine AllReady.cons (by simp only [List.getElem?_toArray, List.getElem?_cons_succ, List.getElem?_cons_zero]; rfl) (fun K hK => ?_) AllReady.nil
          go_simp
          refine hK _ _ ?_
          clear hK K
          try simp only [Act.put, List.setIfInBounds_toArray, List.set_cons_zero, List.set_cons_succ]
          have hsz5 := T5.out.1.rr.be.size
          refine wpAny_ready (rs := [6]) (by kernel_rfl) (by simp) ?_
          refine AllReady.cons (by simp only [List.getElem?_toArray, List.getElem?_cons_succ, List.getElem?_cons_zero]; rfl) (fun K hK => ?_) AllReady.nil
          refine step_append_lies _ rfl _ _ _ rfl w.heap.size 53 i0 _ 5 56 Tryz.underlying22 hi0 hz0 hz1 hz2 rfl (by omega) (.slice a es.length cap) es.length (es.flatMap wbC) rfl (World.ownsRow.alloc T5.out.1.row _) ⟨w5.heap.size, 0, none⟩ 1 1 (wbC (b, xa, xk)) rfl rfl (World.news_of_block (heap_alloc_new w5 _)) (wb_one (b, xa, xk)) (by omega) (by simp only [maxLen]; omega) (by omega) (by simp; omega) (w5.heap.size + 1) (by simp) ?_
          intro gg cap4 w7 hown4 hgrow hat hlt4
          have hB4 := Rt.growA T5.out.1 T5.out.2 hgrow hown4
          have q1 : w7.cell? ⟨p, 1, none⟩ = some (.slice a es.length cap) := hB4.b.cell 1
          have f1 : w7.frozen? ⟨p, 1, none⟩ = false := hB4.b.free 1
          have hbl7 := hB4.b.lt
          have B7 := Lib.hid (hB4.put 1 (.slice (some ⟨gg, 0, none⟩) (es.length + 1) cap4))
          clear hown4 hgrow hat hlt4 hB4 c5 hsz5 hbl5 T5
          refine hK _ _ ?_
          clear hK K
          try simp only [Act.put, List.setIfInBounds_toArray, List.set_cons_zero, List.set_cons_succ]
          refine wpAny_take (i := 7) (v := ?vq8) (by simp only [List.getElem?_toArray, List.getElem?_cons_succ, List.getElem?_cons_zero]; rfl) (by kernel_rfl) (by kernel_rfl) (by kernel_rfl) (by exact fun _ _ _ h => h) (Or.inl ⟨by rfl, ?yq8⟩) ?_
          case yq8 => (intro W9; go_simp; try (with_reducible rfl))
          try simp only [Act.put, List.setIfInBounds_toArray, List.set_cons_zero, List.set_cons_succ]
          refine wpAny_ready (rs := [8]) (by kernel_rfl) (by simp) ?_
          refine AllReady.cons (by simp only [List.getElem?_toArray, List.getElem?_cons_succ, List.getElem?_cons_zero]; rfl) (fun K hK => ?_) AllReady.nil
          go_simp
          refine hK _ _ ?_
          clear hK K
          try simp only [Act.put, List.setIfInBounds_toArray, List.set_cons_zero, List.set_cons_succ]
          refine wpAny_done (by kernel_rfl) ?_ _
          clear q1 f1
          go_wp2
          go_roundg gk
          case measure => omega
          case rel => exact ⟨d2, es ++ [(b, xa, xk)], some ⟨gg, 0, none⟩, cap4, n + 1, by go_num, by have h := HL.out; show _ + 1 = _; rw [List.length_append, List.length_singleton, ← h], by omega, by simpa using HS2.out, by simpa using B7.out⟩
        · go_simp
          refine hK _ _ ?_
          clear hK K
          try simp only [Act.put, List.setIfInBounds_toArray, List.set_cons_zero, List.set_cons_succ]
          refine wpAny_ready (rs := [1]) (by kernel_rfl) (by simp) ?_
          refine AllReady.cons (by simp only [List.getElem?_toArray, List.getElem?_cons_succ, List.getElem?_cons_zero]; rfl) (fun K hK => ?_) AllReady.nil
          go_simp
          refine hK _ _ ?_
          clear hK K
          try simp only [Act.put, List.setIfInBounds_toArray, List.set_cons_zero, List.set_cons_succ]
          have hsz5 := T5.out.1.rr.be.size
          refine wpAny_ready (rs := [6]) (by kernel_rfl) (by simp) ?_
          refine AllReady.cons (by simp only [List.getElem?_toArray, List.getElem?_cons_succ, List.getElem?_cons_zero]; rfl) (fun K hK => ?_) AllReady.nil
          refine step_append_lies _ rfl _ _ _ rfl w.heap.size 53 i0 _ 5 56 Tryz.underlying22 hi0 hz0 hz1 hz2 rfl (by omega) (.slice a es.length cap) es.length (es.flatMap wbC) rfl (World.ownsRow.alloc T5.out.1.row _) ⟨w5.heap.size, 0, none⟩ 1 1 (wbC (b, xa, xk)) rfl rfl (World.news_of_block (heap_alloc_new w5 _)) (wb_one (b, xa, xk)) (by omega) (by simp only [maxLen]; omega) (by omega) (by simp; omega) (w5.heap.size + 1) (by simp) ?_
          intro gg cap4 w7 hown4 hgrow hat hlt4
          have hB4 := Rt.growA T5.out.1 T5.out.2 hgrow hown4
          have q1 : w7.cell? ⟨p, 1, none⟩ = some (.slice a es.length cap) := hB4.b.cell 1
          have f1 : w7.frozen? ⟨p, 1, none⟩ = false := hB4.b.free 1
          have hbl7 := hB4.b.lt
          have B7 := Lib.hid (hB4.put 1 (.slice (some ⟨gg, 0, none⟩) (es.length + 1) cap4))
          clear hown4 hgrow hat hlt4 hB4 c5 hsz5 hbl5 T5
          refine hK _ _ ?_
          clear hK K
          try simp only [Act.put, List.setIfInBounds_toArray, List.set_cons_zero, List.set_cons_succ]
          refine wpAny_take (i := 7) (v := ?vq9) (by simp only [List.getElem?_toArray, List.getElem?_cons_succ, List.getElem?_cons_zero]; rfl) (by kernel_rfl) (by kernel_rfl) (by kernel_rfl) (by exact fun _ _ _ h => h) (Or.inl ⟨by rfl, ?yq9⟩) ?_
          case yq9 => (intro W9; go_simp; try (with_reducible rfl))
          try simp only [Act.put, List.setIfInBounds_toArray, List.set_cons_zero, List.set_cons_succ]
          refine wpAny_ready (rs := [8]) (by kernel_rfl) (by simp) ?_
          refine AllReady.cons (by simp only [List.getElem?_toArray, List.getElem?_cons_succ, List.getElem?_cons_zero]; rfl) (fun K hK => ?_) AllReady.nil
          go_simp
          refine hK _ _ ?_
          clear hK K
          try simp only [Act.put, List.setIfInBounds_toArray, List.set_cons_zero, List.set_cons_succ]
          refine wpAny_done (by kernel_rfl) ?_ _
          clear q1 f1
          go_wp2
          go_roundg gk
          case measure => omega
          case rel => exact ⟨d2, es ++ [(b, xa, xk)], some ⟨gg, 0, none⟩, cap4, n + 1, by go_num, by have h := HL.out; show _ + 1 = _; rw [List.length_append, List.length_singleton, ← h], by omega, by simpa using HS2.out, by simpa using B7.out⟩
end Go.Proofs.YtbjmbahpcoanoaaGreatDoor
