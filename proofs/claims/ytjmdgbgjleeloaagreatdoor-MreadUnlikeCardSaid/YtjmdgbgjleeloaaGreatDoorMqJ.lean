/-
  MreadUnlike: the walk. Conditions: the library's tables, its errors, the Ops' names and parts hold what the text lays.
-/
import Derived.Test.YtjmdgbgjleeloaaGreatDoorPk40
import Derived.Test.YtjmdgbgjleeloaaGreatDoorMqI
import Derived.Test.YtjmdgbgjleeloaaGreatDoorMqE
namespace Go.Proofs.YtjmdgbgjleeloaaGreatDoor
open Go.RowKit

theorem part_one (s : ByteArray) (k : Nat) (h : k < s.size) : (s.extract k (k + 1)).size = 1 := by
  rw [ByteArray.size_extract]
  omega
theorem text_ne {s t : ByteArray} (h : s ≠ t) : (s.toList == t.toList) = false := by
  rw [beq_eq_false_iff_ne]
  rw [ByteArray.toList_eq, ByteArray.toList_eq]
  exact fun e => h (ByteArray.ext (Array.toList_inj.mp e))
/-- What is parsed of what is printed, with more between its lines. -/
theorem wideparse_any (t : Gg) (w : World) (hT : TabR w) (h : printE t = 0) (hn : linesN t.blocks ≤ 1200) : Calls Tryz.prog 14 #[.string (wideU (printS t).data.toList)] w fun e w' => ∃ (ba : Option Addr) (bc : Nat) (l c : Int), e = .returned (.tuple #[.agg #[.int .i64 t.frame, .slice ba t.blocks.length bc], .int .i64 l, .int .i64 c, .int .i64 0]) ∧ Hid (BlsW w' ba t.blocks ∧ (ba = none → bc = 0)) ∧ Below w.heap.size w w' :=
  (parse_any _ w hT).mono fun e w' ⟨ba, bc, h1, h2, h3⟩ => by
    obtain ⟨e1, e2, _, _⟩ := wide_told h hn
    rw [e1, e2] at h1
    have h4 := h2.out
    rw [e2] at h4
    exact ⟨ba, bc, _, _, h1, h4, h3⟩
set_option maxRecDepth 100000 in
set_option maxHeartbeats 8000000 in
theorem mreadUnlike_any (t : Gg) (ba : Option Addr) (bc : Nat) (u : Gg) (ca : Option Addr) (cc : Nat) (w : World) (hB : BlsW w ba t.blocks) (hC : BlsW w ca u.blocks) (htl : t.blocks.length ≤ 140737488355328) (htb : ∀ x ∈ t.blocks, x.ins.length ≤ 140737488355328 ∧ ∀ i ∈ x.ins, i.args.length ≤ 140737488355328) (hul : u.blocks.length ≤ 140737488355328) (hub : ∀ x ∈ u.blocks, x.ins.length ≤ 140737488355328 ∧ ∀ i ∈ x.ins, i.args.length ≤ 140737488355328) (hT : TabA w) :
    Calls Tryz.prog 7 #[tgV t ba bc, tgV u ca cc] w fun e w' => e = .returned (.bool true) ∧ Below w.heap.size w w' := by
  obtain ⟨A, hA⟩ : ∃ A, A = (w.alloc (.cells (tgC t ba bc) 24)).alloc (.cells (tgC u ca cc) 24) := ⟨_, rfl⟩
  have hw0 : Below w.heap.size w A := by rw [hA]; exact ((Below.refl _ w).alloc (Nat.le_refl _) _).alloc (by simp) _
  have HX : Hid (∀ W, Below A.heap.size A W → (W.cell? ⟨w.heap.size, 0, none⟩ = some (.int .i64 t.frame) ∧ W.cell? ⟨w.heap.size, 1, none⟩ = some (.slice ba t.blocks.length bc)) ∧ (W.cell? ⟨w.heap.size + 1, 0, none⟩ = some (.int .i64 u.frame) ∧ W.cell? ⟨w.heap.size + 1, 1, none⟩ = some (.slice ca u.blocks.length cc))) := fun W h => by
    have x1 : Blk A w.heap.size 24 (tgC t ba bc) := by rw [hA]; exact (Blk.new w _ _).alloc _
    have x2 : Blk A (w.heap.size + 1) 24 (tgC u ca cc) := by rw [hA]; exact new_two w _ _ _
    exact ⟨boxG (x1.below h x1.lt), boxG (x2.below h x2.lt)⟩
  have HW0 := Lib.hid hw0
  have HSA : Hid (A.heap.size = w.heap.size + 1 + 1) := by show _ = _; rw [hA]; simp
  replace hB := hB.below hw0
  replace hC := hC.below hw0
  replace hT := hT.below hw0
  have AW := Lib.hid (awake7_any A hT)
  have CT1 : Hid (∀ W, Below A.heap.size A W → Calls Tryz.prog 8 #[tgV t ba bc, .int .i64 600] W fun e w' => e = .returned (.int .i64 (cntB 0 t.blocks : Nat)) ∧ Below A.heap.size A w') := fun W h => (targetOf6_any t ba bc W htl htb (hB.below h)).mono fun e w' ⟨h1, h2⟩ => ⟨h1, h.trans (h2.mono h.size)⟩
  have CU1 : Hid (∀ W, Below A.heap.size A W → Calls Tryz.prog 8 #[tgV u ca cc, .int .i64 600] W fun e w' => e = .returned (.int .i64 (cntB 0 u.blocks : Nat)) ∧ Below A.heap.size A w') := fun W h => (targetOf6_any u ca cc W hul hub (hC.below h)).mono fun e w' ⟨h1, h2⟩ => ⟨h1, h.trans (h2.mono h.size)⟩
  have PR : Hid (FewL t.blocks → ∀ W, Below A.heap.size A W → _) := fun hf W h => print_any t ba bc W (hB.below h) (few_small hf) (hT.t.below h) (hT.r.pow.below h) (hT.r.names.below h)
  have PU : Hid (FewL u.blocks → ∀ W, Below A.heap.size A W → _) := fun hf W h => print_any u ca cc W (hC.below h) (few_small hf) (hT.t.below h) (hT.r.pow.below h) (hT.r.names.below h)
  have PV0 : Hid (FewL t.blocks → printE t = 0 → ∀ W, Below A.heap.size A W → _) := fun hf he W h => wideparse_any t W (hT.r.below h) he hf.n
  have WS0 : Hid (FewL t.blocks → printE t = 0 → (printS t).size ≤ 139316) := fun hf he => (wide_told he hf.n).2.2.2
  have UT : Hid (printE t = 0 → printE u = 0 → (printS t = printS u ↔ t = u)) := fun h1 h2 => unlike_text h1 h2
  have SD : Hid (FewL t.blocks → FewL u.blocks → ∀ (b : Bool), (b = true ↔ t = u) → ∀ W, Below A.heap.size A W → _) := fun hf hg b hb W h => sameTarget_dec t u ba ca bc cc W b hb (few_small hf) (few_small hg) (hB.below h) (hC.below h)
  have ST : Hid (FewL t.blocks → ∀ (b2 : Option Addr) (c2 : Nat) W, Below A.heap.size A W → BlsW W b2 t.blocks → _) := fun hf b2 c2 W h hB2 => sameTarget_same t ba b2 bc c2 W (few_small hf) (hB.below h) hB2
  have hcm := cnt_max htb
  have hcn := cnt_max hub
  have HF : Hid (cntB 0 t.blocks ≤ 600 → FewL t.blocks) := fun h => cnt_few h
  have HG : Hid (cntB 0 u.blocks ≤ 600 → FewL u.blocks) := fun h => cnt_few h
  clear hB hC htb hub hT
  generalize hN : cntB 0 t.blocks = N at *
  generalize hM : cntB 0 u.blocks = M at *
  clear hN hM
  obtain ⟨KS, hKS⟩ : ∃ KS : Int, KS = (N : Int) + (M : Int) := ⟨_, rfl⟩
  have hw : IntKind.i64.wrap ((N : Int) + (M : Int)) = KS := by rw [IntKind.wrap_i64, hKS]; omega
  have HKS := Lib.hid hKS
  clear hKS
  generalize hpe : printE t = pe at *
  generalize hps : printS t = ps at *
  generalize hqe : printE u = qe at *
  generalize hqs : printS u = qs at *
  clear hpe hps hqe hqs
  have ET : Hid (tgV t ba bc = .agg #[.int .i64 t.frame, .slice ba t.blocks.length bc]) := rfl
  have EU : Hid (tgV u ca cc = .agg #[.int .i64 u.frame, .slice ca u.blocks.length cc]) := rfl
  have ETC : Hid (tgC t ba bc = #[.int .i64 t.frame, .slice ba t.blocks.length bc]) := rfl
  have EUC : Hid (tgC u ca cc = #[.int .i64 u.frame, .slice ca u.blocks.length cc]) := rfl
  rw [ET.out] at CT1 PR ST SD
  rw [EU.out] at CU1 PU SD
  rw [ETC.out, EUC.out] at hA
  rw [ET.out, EU.out]
  have HS : Hid (∀ W, Below A.heap.size A W → Below A.heap.size A W ∧ (W.cell? ⟨w.heap.size, 0, none⟩ = some (.int .i64 t.frame) ∧ W.cell? ⟨w.heap.size, 1, none⟩ = some (.slice ba t.blocks.length bc)) ∧ (W.cell? ⟨w.heap.size + 1, 0, none⟩ = some (.int .i64 u.frame) ∧ W.cell? ⟨w.heap.size + 1, 1, none⟩ = some (.slice ca u.blocks.length cc))) := fun W hb => ⟨hb, HX.out W hb⟩
  clear ET EU ETC EUC hw0
  go_enter Tryz.func7, Tryz.ntmps7
  go_wp2_with fail
  rw [← hA]
  refine AW.out.mono ?_
  rintro e w1 ⟨rfl, hb1⟩
  clear AW hA
  go_upto_region 3 with fail
  have hbd := hb1.drew
  clear hb1
  go_cut [22] from 17 to 22 (fun v W => (∃ b, v = .bool b ∧ Hid (b = false → N ≤ 600 ∧ M ≤ 600)) ∧ Below A.heap.size A W)
  case first =>
    go_region_held3 (fun W => Below A.heap.size A W ∧ (W.cell? ⟨w.heap.size, 0, none⟩ = some (.int .i64 t.frame) ∧ W.cell? ⟨w.heap.size, 1, none⟩ = some (.slice ba t.blocks.length bc)) ∧ (W.cell? ⟨w.heap.size + 1, 0, none⟩ = some (.int .i64 u.frame) ∧ W.cell? ⟨w.heap.size + 1, 1, none⟩ = some (.slice ca u.blocks.length cc)))
      (first | (refine HS.out _ ?_; assumption))
      (first
        | (go_at_call 8; have hq := hb2; refine (CU1.out _ (by go_split_ands; assumption)).mono ?_; rintro e w3 ⟨rfl, hb3⟩)
        | (go_at_call 8; refine (CT1.out _ (by go_split_ands; assumption)).mono ?_; rintro e w2 ⟨rfl, hb2⟩))
    all_goals (
      rename_i hH
      go_wp2_with fail
      go_meet
      exact ⟨⟨_, rfl, fun h => by have := of_decide_eq_false h; have := HKS.out; omega⟩, hH.1⟩)
  case rest =>
  obtain ⟨⟨b, rfl, HBF⟩, hb1⟩ := hcut
  have HB3 := Lib.hid hb1
  clear hb1 hbd CT1 CU1 HS
  cases b
  case true =>
    go_wp2
    go_ret
    exact ⟨rfl, HW0.out.trans (HB3.out.mono HW0.out.size)⟩
  obtain ⟨hn6, hm6⟩ := HBF.out rfl
  have hf := HF.out hn6
  have hg := HG.out hm6
  obtain ⟨⟨t0, t1⟩, u0, u1⟩ := HX.out _ HB3.out
  have PR1 := Lib.hid (PR.out hf _ HB3.out)
  have PU1 := Lib.hid (PU.out hg)
  have PV1 := Lib.hid (PV0.out hf)
  have WS1 := Lib.hid (WS0.out hf)
  have SD0 := Lib.hid (SD.out hf hg)
  have ST1 := Lib.hid (ST.out hf)
  clear PR PU PV0 WS0 SD ST HF HG hf hg
  go_wp2_with fail
  refine PR1.out.mono ?_
  rintro e w4 ⟨rfl, hb4⟩
  have HB4 : Hid (Below A.heap.size A w4) := HB3.out.trans (hb4.mono HB3.out.size)
  have PU2 := Lib.hid (PU1.out _ HB4.out)
  clear hb4 PR1 HB3 PU1 t0 t1 u0 u1
  obtain ⟨⟨t0, t1⟩, u0, u1⟩ := HX.out _ HB4.out
  go_wp2_with fail
  refine PU2.out.mono ?_
  rintro e w5 ⟨rfl, hb5⟩
  have HB5 : Hid (Below A.heap.size A w5) := HB4.out.trans (hb5.mono HB4.out.size)
  clear hb5 PU2 HB4 t0 t1 u0 u1
  by_cases h1 : pe = 0
  case neg =>
    go_wp2
    go_ret
    exact ⟨rfl, HW0.out.trans (HB5.out.mono HW0.out.size)⟩
  by_cases h2 : qe = 0
  case neg =>
    go_wp2
    go_ret
    exact ⟨rfl, HW0.out.trans (HB5.out.mono HW0.out.size)⟩
  subst h1 h2
  have hzs := WS1.out rfl
  have HUT := Lib.hid (UT.out rfl rfl)
  have PV := Lib.hid (PV1.out rfl)
  clear WS1 UT PV1
  go_wp2
  go_loopw [9, 10] (fun v i wr => ∃ k : Nat, v = .string (wideU (ps.data.toList.take k)) ∧ i = .int .i64 k ∧ k ≤ ps.size ∧ wr = w5) (fun _ i _ => ps.size - (intOf i).toNat)
  case atStart => exact ⟨0, rfl, rfl, Nat.zero_le _, rfl⟩
  case round =>
    obtain ⟨k, rfl, rfl, hk, hw5⟩ := hrel
    have hw2 := hw5.symm
    subst hw2
    clear hw5
    have hwm := wide_max (ps.data.toList.take k)
    have htl2 : (ps.data.toList.take k).length ≤ 139316 := by rw [List.length_take]; omega
    by_cases hlt : k < ps.size
    · have hlt' : (k : Int) < ps.size := by omega
      have hk0 : (0 : Int) ≤ k := by omega
      have hxz := part_one ps k hlt
      have hg := get_eq ps k hlt
      by_cases h10 : (ps[k]'hlt).toNat = 10
      · have q10 : (((ps[k]'hlt).toNat : Int) == 10) = true := by simp [h10]
        have HWD := Lib.hid (wide_line ps k hlt (by rw [hg]; exact h10))
        clear hg h10
        generalize wideU (ps.data.toList.take k) = wd at *
        go_wp2
        go_roundw
        case rel => exact ⟨k + 1, by rw [← HWD.out], by go_num, by omega, trivial⟩
        case measure => simp [intOf]; omega
      · have q10 : (((ps[k]'hlt).toNat : Int) == 10) = false := by simp; omega
        have HWD := Lib.hid (wide_plain ps k hlt (by rw [hg]; exact h10))
        clear hg h10
        generalize wideU (ps.data.toList.take k) = wd at *
        go_wp2
        go_roundw
        case rel => exact ⟨k + 1, by rw [← HWD.out], by go_num, by omega, trivial⟩
        case measure => simp [intOf]; omega
    · have hke : k = ps.size := by omega
      have hlt' : ¬ (k : Int) < ps.size := by omega
      have hte : ps.data.toList.take k = ps.data.toList := by rw [hke]; exact List.take_of_length_le (by simp only [Array.length_toList]; exact Nat.le_refl _)
      have HBw := HB5
      rw [hte]
      clear hwm htl2 hke hte hlt HB5
      by_cases heq : t = u
      · have hpq := HUT.out.2 heq
        have SD1 := Lib.hid (SD0.out true ⟨fun _ => heq, fun _ => rfl⟩)
        have hss : (ps.toList == ps.toList) = true := by simp
        rw [← hpq]
        clear SD0 HUT heq hpq
        generalize wideU ps.data.toList = wd at *
        obtain ⟨⟨t0, t1⟩, u0, u1⟩ := HX.out _ HBw.out
        have CV := Lib.hid (PV.out _ HBw.out)
        clear t0 t1 u0 u1
        go_wp2_with fail
        refine CV.out.mono ?_
        rintro e w8 ⟨b8, c8, l8, k8, rfl, hB8, hb8⟩
        have HB8' : Hid (Below A.heap.size A w8) := HBw.out.trans (hb8.mono HBw.out.size)
        have V8 := Lib.hid (BxG.new w8 t.frame (.slice b8 t.blocks.length c8))
        have HB8 : Hid (Below A.heap.size A (bxG w8 t.frame (.slice b8 t.blocks.length c8))) := HB8'.out.trans (V8.out.be.mono HB8'.out.size)
        have hB8u : Hid (BlsW (bxG w8 t.frame (.slice b8 t.blocks.length c8)) b8 t.blocks) := hB8.out.1.below V8.out.be
        have hs8 : w.heap.size + 1 < w8.heap.size := by have := HB8'.out.size; have := HSA.out; omega
        have hs8b : w.heap.size < w8.heap.size := by omega
        obtain ⟨⟨t0, t1⟩, u0, u1⟩ := HX.out _ HB8'.out
        have C8 := Lib.hid (SD1.out _ HB8.out)
        have hU8 := bxG.eq_1 w8 t.frame (.slice b8 t.blocks.length c8)
        rw [hU8] at C8 HB8 hB8u V8
        clear hb8 CV HBw HB8' hB8 hU8
        go_wp2_with fail
        refine C8.out.mono ?_
        rintro e w9 ⟨rfl, hb9⟩
        have HB9 : Hid (Below A.heap.size A w9) := HB8.out.trans (hb9.mono HB8.out.size)
        have C9 := Lib.hid (ST1.out b8 c8 w9 HB9.out (hB8u.out.below hb9))
        obtain ⟨v0, v1⟩ := (V8.out.below hb9).cells
        clear t0 t1 u0 u1 hs8 hs8b
        obtain ⟨⟨t0, t1⟩, u0, u1⟩ := HX.out _ HB9.out
        clear hb9 C8 HB8 hB8u V8
        go_wp2_with fail
        refine C9.out.mono ?_
        rintro e wa ⟨rfl, hba⟩
        have HBa : Hid (Below A.heap.size A wa) := HB9.out.trans (hba.mono HB9.out.size)
        clear hba C9 HB9 t0 t1 u0 u1 v0 v1
        go_wp2
        go_ret
        exact ⟨rfl, HW0.out.trans (HBa.out.mono HW0.out.size)⟩
      · have hpq : ps ≠ qs := fun e => heq (HUT.out.1 e)
        have SD1 := Lib.hid (SD0.out false ⟨(fun h => by cases h), fun h => absurd h heq⟩)
        have hss := text_ne hpq
        clear SD0 HUT heq hpq
        generalize wideU ps.data.toList = wd at *
        obtain ⟨⟨t0, t1⟩, u0, u1⟩ := HX.out _ HBw.out
        have CV := Lib.hid (PV.out _ HBw.out)
        clear t0 t1 u0 u1
        go_wp2_with fail
        refine CV.out.mono ?_
        rintro e w8 ⟨b8, c8, l8, k8, rfl, hB8, hb8⟩
        have HB8' : Hid (Below A.heap.size A w8) := HBw.out.trans (hb8.mono HBw.out.size)
        have V8 := Lib.hid (BxG.new w8 t.frame (.slice b8 t.blocks.length c8))
        have HB8 : Hid (Below A.heap.size A (bxG w8 t.frame (.slice b8 t.blocks.length c8))) := HB8'.out.trans (V8.out.be.mono HB8'.out.size)
        have hB8u : Hid (BlsW (bxG w8 t.frame (.slice b8 t.blocks.length c8)) b8 t.blocks) := hB8.out.1.below V8.out.be
        have hs8 : w.heap.size + 1 < w8.heap.size := by have := HB8'.out.size; have := HSA.out; omega
        have hs8b : w.heap.size < w8.heap.size := by omega
        obtain ⟨⟨t0, t1⟩, u0, u1⟩ := HX.out _ HB8'.out
        have C8 := Lib.hid (SD1.out _ HB8.out)
        have hU8 := bxG.eq_1 w8 t.frame (.slice b8 t.blocks.length c8)
        rw [hU8] at C8 HB8 hB8u V8
        clear hb8 CV HBw HB8' hB8 hU8
        go_wp2_with fail
        refine C8.out.mono ?_
        rintro e w9 ⟨rfl, hb9⟩
        have HB9 : Hid (Below A.heap.size A w9) := HB8.out.trans (hb9.mono HB8.out.size)
        have C9 := Lib.hid (ST1.out b8 c8 w9 HB9.out (hB8u.out.below hb9))
        obtain ⟨v0, v1⟩ := (V8.out.below hb9).cells
        clear t0 t1 u0 u1 hs8 hs8b
        obtain ⟨⟨t0, t1⟩, u0, u1⟩ := HX.out _ HB9.out
        clear hb9 C8 HB8 hB8u V8
        go_wp2_with fail
        refine C9.out.mono ?_
        rintro e wa ⟨rfl, hba⟩
        have HBa : Hid (Below A.heap.size A wa) := HB9.out.trans (hba.mono HB9.out.size)
        clear hba C9 HB9 t0 t1 u0 u1 v0 v1
        go_wp2
        go_ret
        exact ⟨rfl, HW0.out.trans (HBa.out.mono HW0.out.size)⟩
end Go.Proofs.YtjmdgbgjleeloaaGreatDoor
