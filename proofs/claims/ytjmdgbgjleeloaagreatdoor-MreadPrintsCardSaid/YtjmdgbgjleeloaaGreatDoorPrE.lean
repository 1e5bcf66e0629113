/-
  The document's Print (package intarsiaref07; written by gen/pre.py). Conditions: the library's table of powers holds what the text lays.
-/
import Derived.Test.YtjmdgbgjleeloaaGreatDoorPrD
import Derived.Test.YtjmdgbgjleeloaaGreatDoorPrB
import Derived.Test.YtjmdgbgjleeloaaGreatDoorPrO
namespace Go.Proofs.YtjmdgbgjleeloaaGreatDoor
open Go.RowKit

theorem head_row (t : Gg) : rowB (headWo t) = ⟨#[116, 97, 114, 103, 101, 116, 32]⟩ ++ itS t.frame ++ ⟨#[10]⟩ := by
  refine bytes_eq ?_
  unfold headWo
  rw [lit_row _ (by simp)]
  simp only [ByteArray.data_append, Array.toList_append, List.flatMap_cons, List.flatMap_nil, Wo.b]
  simp
theorem open_row (k : Nat) : rowB (opWo k) = ⟨#[98, 108, 111, 99, 107, 32]⟩ ++ itS (k : Int) ++ ⟨#[10]⟩ := by
  refine bytes_eq ?_
  unfold opWo
  rw [lit_row _ (by simp)]
  simp only [ByteArray.data_append, Array.toList_append, List.flatMap_cons, List.flatMap_nil, Wo.b]
  simp
theorem row_few (p : Pt) (h : p.ok) : (rowL p.wo).length ≤ 600 := rowL_len _ (pt_words p h).1 (pt_words p h).2
theorem cvS (S : ByteArray) (W : World) : (convert 9 56 (.string S)).run Tryz.prog W = .ok (.slice (some ⟨W.heap.size, 0, none⟩) S.size (grownCap W S.size 0 5)) (Lib.bytesWorld W 5 S) :=
  Lib.run_convert_string_bytes (P := Tryz.prog) W 9 56 5 S (u := .string) Tryz.underlying9 Tryz.underlying56 Tryz.underlying5
set_option maxRecDepth 100000 in
set_option maxHeartbeats 8000000 in
theorem print7_any (t : Gg) (ba : Option Addr) (bc : Nat) (w : World) (hB : BlsW w ba t.blocks) (hS : SmallG t) (hP : PowW w) :
    Calls Tryz.prog 12 #[tgV t ba bc] w fun e w' => e = .returned (.tuple #[.string (printS t), .int .i64 (printE t)]) ∧ Below w.heap.size w w' := by
  obtain ⟨i0, hi0, hz0, hz1, hz2⟩ := info_parts byte_info
  obtain ⟨A, hA⟩ : ∃ A, A = w.alloc (.cells (tgC t ba bc) 24) := ⟨_, rfl⟩
  have hw0 : Below w.heap.size w A := by rw [hA]; exact (Below.refl _ w).alloc (Nat.le_refl _) _
  have HX : Hid (∀ W, Below A.heap.size A W → W.cell? ⟨w.heap.size, 0, none⟩ = some (.int .i64 t.frame) ∧ W.cell? ⟨w.heap.size, 1, none⟩ = some (.slice ba t.blocks.length bc)) := fun W h => by
    have x1 : Blk A w.heap.size 24 (tgC t ba bc) := by rw [hA]; exact Blk.new w _ _
    exact boxG (x1.below h x1.lt)
  have HW0 := Lib.hid hw0
  have HBA : Hid (∀ W, Below A.heap.size A W → BlsW W ba t.blocks) := fun W h => (hB.below hw0).below h
  have C := Lib.hid (can7_any t ba bc A (hB.below hw0) hS)
  have HPA : Hid (∀ W, Below A.heap.size A W → PowW W) := fun W h => (hP.below hw0).below h
  have IT : Hid (∀ (n : Int) W, R64 n → Below A.heap.size A W → Calls Tryz.prog 25 #[.int .i64 n] W fun e w' => e = .returned (.string (itS n)) ∧ Below W.heap.size W w') := fun n W hn h => itoaP_any n W (HPA.out W h) hn.1 hn.2
  have LI : Hid (∀ (x : Ii) (xa : Option Addr) (xc : Nat) W, ((1 ≤ x.op ∧ x.op ≤ 17 ∧ x.op ≠ 14) ∧ InsR x) → Below A.heap.size A W → Calls Tryz.prog 26 #[.agg #[.int .i64 x.op, .int .i64 x.dst, .int .i64 x.a, .int .i64 x.b, .int .i64 x.imm, .int .i64 x.callee, .slice xa x.args.length xc, .int .i64 x.many]] W fun e w' => e = .returned (.string (rowB (insWo x))) ∧ Below W.heap.size W w') := fun x xa xc W hx h => lineIns_any x xa xc W hx.1 hx.2 (HPA.out W h)
  have LE : Hid (∀ (x : Tt) W, TmR x → Below A.heap.size A W → Calls Tryz.prog 27 #[.agg #[.int .i64 x.kind, .int .i64 x.a, .int .i64 x.t0, .int .i64 x.t1]] W fun e w' => e = .returned (.string (rowB (tmWo x))) ∧ Below W.heap.size W w') := fun x W hx h => lineEnd_any x W hx (HPA.out W h)
  have ES : Hid (printS t = if canG t = true ∧ (gtxL t).length ≤ 262144 then ⟨(gtxL t).toArray⟩ else ⟨#[]⟩) := rfl
  have EE : Hid (printE t = if canG t = true then (if (gtxL t).length ≤ 262144 then 0 else 3) else 2) := rfl
  have ETC : Hid (tgC t ba bc = #[.int .i64 t.frame, .slice ba t.blocks.length bc]) := rfl
  unfold tgV at C ⊢
  rw [ETC.out] at hA C ⊢
  have x0 := HX.out A (Below.refl _ _)
  obtain ⟨t0, t1⟩ := x0
  clear hB hS hP hw0
  cases hc : canG t
  · have hs : printS t = ⟨#[]⟩ := by rw [ES.out, hc]; simp
    have he : printE t = 2 := by rw [EE.out, hc]; simp
    rw [hs, he]
    rw [hc] at C
    clear hs he hc
    go_enter Tryz.func12, Tryz.ntmps12
    go_upto_region 1 with fail
    rw [← hA]
    clear hA
    go_wp2_with fail
    refine C.out.mono ?_
    rintro e w1 ⟨rfl, hb1⟩
    have HB1 := Lib.hid (HW0.out.trans (hb1.mono HW0.out.size))
    clear hb1 C
    go_wp2
    go_ret2
    exact ⟨rfl, HB1.out⟩
  · have HCP := Lib.hid (can_parts hc)
    have hs : printS t = if (gtxL t).length ≤ 262144 then ⟨(gtxL t).toArray⟩ else ⟨#[]⟩ := by rw [ES.out, hc]; simp
    have he : printE t = if (gtxL t).length ≤ 262144 then 0 else 3 := by rw [EE.out, hc]; simp
    have HS := Lib.hid hs
    have HE := Lib.hid he
    have HOK : Hid (∀ b ∈ t.blocks, OkB b ∧ b.ins.length ≤ 4000) := fun b hb => ⟨can_okB (HCP.out.2.2 b hb), (HCP.out.2.2 b hb).few⟩
    rw [hc] at C
    have EH := Lib.hid (head_row t)
    have HFR : Hid (R64 t.frame) := by have := HCP.out.1; show R64 _; unfold R64; omega
    have hzf := itS_size t.frame HFR.out
    have E0 : Hid (linesL t (blsWo 0 (t.blocks.take 0)) = (rowB (headWo t)).data.toList) := by
      show _ = _
      rw [List.take_zero]
      simp [linesL, blsWo, rowL]
    rw [EH.out] at E0
    clear hs he hc ES EE
    generalize printS t = ps at *
    generalize printE t = pe at *
    generalize hq : itS t.frame = q at *
    have HQ := Lib.hid hq
    have hadd0 : ∀ w, (Op.stringOp .add ⟨#[116, 97, 114, 103, 101, 116, 32]⟩ q).run Tryz.prog w = .ok (.string (⟨#[116, 97, 114, 103, 101, 116, 32]⟩ ++ q)) w := fun w => run_string_add_sum w _ q (by show 7 + q.size ≤ _; omega)
    have hadd1 : ∀ w, (Op.stringOp .add (⟨#[116, 97, 114, 103, 101, 116, 32]⟩ ++ q) ⟨#[10]⟩).run Tryz.prog w = .ok (.string (⟨#[116, 97, 114, 103, 101, 116, 32]⟩ ++ q ++ ⟨#[10]⟩)) w := fun w => run_string_add_sum w _ _ (by rw [ByteArray.size_append]; show 7 + q.size + 1 ≤ _; omega)
    clear hq
    go_enter Tryz.func12, Tryz.ntmps12
    go_upto_region 1 with fail
    rw [← hA]
    clear hA
    go_wp2_with fail
    refine C.out.mono ?_
    rintro e w1 ⟨rfl, hb1⟩
    have HB1 := Lib.hid hb1
    clear t0 t1
    obtain ⟨t0, t1⟩ := HX.out w1 HB1.out
    clear hb1 C
    go_wp2_with fail
    refine (IT.out t.frame w1 HFR.out HB1.out).mono ?_
    rintro e w2 ⟨rfl, hb2⟩
    rw [HQ.out]
    have HB2 : Hid (Below A.heap.size A w2) := HB1.out.trans (hb2.mono HB1.out.size)
    have hs0 : (⟨#[116, 97, 114, 103, 101, 116, 32]⟩ ++ q ++ ⟨#[10]⟩ : ByteArray).size = 7 + q.size + 1 := by rw [ByteArray.size_append, ByteArray.size_append]; rfl
    have HO0 : Hid (OutW A (Lib.bytesWorld w2 5 (⟨#[116, 97, 114, 103, 101, 116, 32]⟩ ++ q ++ ⟨#[10]⟩)) (.slice (some ⟨w2.heap.size, 0, none⟩) (⟨#[116, 97, 114, 103, 101, 116, 32]⟩ ++ q ++ ⟨#[10]⟩ : ByteArray).size (grownCap w2 (⟨#[116, 97, 114, 103, 101, 116, 32]⟩ ++ q ++ ⟨#[10]⟩ : ByteArray).size 0 5)) (linesL t (blsWo 0 (t.blocks.take 0)))) := by
      show OutW _ _ _ _
      rw [E0.out]
      exact OutW.start HB2.out 5 _ (by rw [hs0]; simp only [maxLen]; omega)
    have hcv := cvS (⟨#[116, 97, 114, 103, 101, 116, 32]⟩ ++ q ++ ⟨#[10]⟩) w2
    have HLB0 : Hid ((linesL t (blsWo 0 (t.blocks.take 0))).length ≤ 1000 + 3000000 * 0) := by
      show _ ≤ _
      rw [E0.out, Array.length_toList]
      have : (⟨#[116, 97, 114, 103, 101, 116, 32]⟩ ++ q ++ ⟨#[10]⟩ : ByteArray).data.size = 7 + q.size + 1 := hs0
      omega
    clear hb2 t0 t1 hs0
    generalize Lib.bytesWorld w2 5 (⟨#[116, 97, 114, 103, 101, 116, 32]⟩ ++ q ++ ⟨#[10]⟩) = w3 at *
    generalize Value.slice (some ⟨w2.heap.size, 0, none⟩) (⟨#[116, 97, 114, 103, 101, 116, 32]⟩ ++ q ++ ⟨#[10]⟩ : ByteArray).size (grownCap w2 (⟨#[116, 97, 114, 103, 101, 116, 32]⟩ ++ q ++ ⟨#[10]⟩ : ByteArray).size 0 5) = v0 at *
    go_upto_region 4 with fail
    clear hcv hadd0 hadd1 hzf
    go_wp2
    go_loopw [4, 5] (fun v k wr => ∃ j : Nat, k = .int .i64 j ∧ j ≤ t.blocks.length ∧ OutW A wr v (linesL t (blsWo 0 (t.blocks.take j))) ∧ Hid ((linesL t (blsWo 0 (t.blocks.take j))).length ≤ 1000 + 3000000 * j)) (fun _ k _ => t.blocks.length - (intOf k).toNat)
    case atStart => exact ⟨0, rfl, Nat.zero_le _, HO0.out, HLB0⟩
    case round =>
      obtain ⟨j, rfl, hj, hO, hL⟩ := hrel
      clear HO0 HLB0
      have HO := Lib.hid hO
      have HL := Lib.hid hL
      clear hO hL
      obtain ⟨t0, t1⟩ := HX.out wr HO.out.be
      by_cases hlt : j < t.blocks.length
      case neg =>
        have e : j = t.blocks.length := by omega
        subst e
        have HG : Hid (linesL t (blsWo 0 (t.blocks.take t.blocks.length)) = gtxL t) := by show _ = _; rw [List.take_length]; rfl
        rw [HG.out] at HO
        obtain ⟨g, cap, hv, hg, ho⟩ := HO.out.row
        subst hv
        have hcb := run_convert_bytes_back (P := Tryz.prog) wr 56 9 5 ⟨g, 0, none⟩ cap (gtxL t) Tryz.underlying56 Tryz.underlying5 Tryz.underlying9 (fun k hk => by
          rw [Addr.add_lit, Nat.zero_add, ho.holds k (by omega)]
          simp [Lib.byteCells, List.getElem?_eq_getElem hk])
        have HBE := Lib.hid HO.out.be
        generalize gtxL t = G at *
        clear HO HL HG ho
        by_cases hle : G.length ≤ 262144
        · have hle' : ¬ (262144 : Int) < G.length := by omega
          have HPS : Hid (ps = ⟨G.toArray⟩) := by show ps = _; rw [HS.out, if_pos hle]
          have HPE : Hid (pe = 0) := by show pe = 0; rw [HE.out, if_pos hle]
          clear hle HS HE
          go_wp2
          go_ret2
          exact ⟨by rw [HPS.out, HPE.out]; rfl, HW0.out.trans (HBE.out.mono HW0.out.size)⟩
        · have hle' : (262144 : Int) < G.length := by omega
          have HPS : Hid (ps = ⟨#[]⟩) := by show ps = _; rw [HS.out, if_neg hle]
          have HPE : Hid (pe = 3) := by show pe = 3; rw [HE.out, if_neg hle]
          clear hle HS HE hcb
          go_wp2
          go_ret2
          exact ⟨by rw [HPS.out, HPE.out]; rfl, HW0.out.trans (HBE.out.mono HW0.out.size)⟩
      have hlt' : (j : Int) < t.blocks.length := by omega
      have hj0 : (0 : Int) ≤ j := by omega
      have hj2 : j < 200 := by have := HCP.out.2.1; omega
      obtain ⟨y, hy⟩ : ∃ y, t.blocks[j]? = some y := ⟨_, List.getElem?_eq_getElem hlt⟩
      obtain ⟨g, o, ya, yc, he, hg, hc⟩ := (HBA.out A (Below.refl _ _)) j y hy
      subst he
      have HBT : Hid (∀ W, Below A.heap.size A W → BlAt W g (o + j * 5) y ya yc) := fun W h => hc.below hg h
      have HBI : Hid (InsW A ya y.ins) := hc.ins
      have HSZ : Hid (∀ W, Below A.heap.size A W → A.heap.size ≤ W.heap.size) := fun W h => h.size
      have HGA := Lib.hid hg
      have HOB := Lib.hid (HOK.out y (List.mem_of_getElem? hy))
      have HNX : Hid (blsWo 0 (t.blocks.take (j + 1)) = blsWo 0 (t.blocks.take j) ++ blWo j y) := by
        show _ = _
        rw [List.take_add_one, hy, Option.toList_some, blsWo_snoc, List.length_take]
        rw [show 0 + min j t.blocks.length = j by omega]
      clear hy hc hg
      have HRJ : Hid (R64 (j : Int)) := by show R64 _; unfold R64; omega
      have hrow := row_few (.op j) HRJ.out
      have EO := Lib.hid (open_row j)
      have hzj := itS_size (j : Int) HRJ.out
      generalize hq : itS (j : Int) = p at *
      have HQ2 := Lib.hid hq
      have hadd0 : ∀ w, (Op.stringOp .add ⟨#[98, 108, 111, 99, 107, 32]⟩ p).run Tryz.prog w = .ok (.string (⟨#[98, 108, 111, 99, 107, 32]⟩ ++ p)) w := fun w => run_string_add_sum w _ p (by show 6 + p.size ≤ _; omega)
      have hadd1 : ∀ w, (Op.stringOp .add (⟨#[98, 108, 111, 99, 107, 32]⟩ ++ p) ⟨#[10]⟩).run Tryz.prog w = .ok (.string (⟨#[98, 108, 111, 99, 107, 32]⟩ ++ p ++ ⟨#[10]⟩)) w := fun w => run_string_add_sum w _ _ (by rw [ByteArray.size_append]; show 6 + p.size + 1 ≤ _; omega)
      obtain ⟨S, hS⟩ : ∃ S : ByteArray, S = ⟨#[98, 108, 111, 99, 107, 32]⟩ ++ p ++ ⟨#[10]⟩ := ⟨_, rfl⟩
      have HSL : Hid (S.data.toList = rowL (opWo j)) := by show _ = _; rw [hS, ← EO.out]; rfl
      have hSs : S.size ≤ 600 := by
        have e : S.size = S.data.toList.length := (Array.length_toList (xs := S.data)).symm
        rw [e, HSL.out]
        exact hrow
      have hSn : S.size = S.data.toList.length := (Array.length_toList (xs := S.data)).symm
      rw [← hS] at hadd1
      have HN0 : Hid (linesL t (blsWo 0 (t.blocks.take j)) ++ S.data.toList = linesL t (blsWo 0 (t.blocks.take j) ++ partWo j y 0)) := by
        show _ = _
        rw [HSL.out, ← linesL_snoc]
        rfl
      generalize hLL : linesL t (blsWo 0 (t.blocks.take j)) = L at *
      have hLn : L.length ≤ 1000 + 3000000 * j := HL.out
      clear hq hrow hzj hS hLL
      go_wp2_with fail
      refine (IT.out (j : Int) wr HRJ.out HO.out.be).mono ?_
      rintro e w5 ⟨rfl, hb5⟩
      rw [HQ2.out]
      have HO5 : Hid (OutW A (Lib.bytesWorld w5 5 S) _ L) := (HO.out.below hb5).below (Lib.bytesWorld_below w5 _ S)
      have hcv := cvS S w5
      have SRC := Lib.hid (src_bytes (P := Tryz.prog) w5 5 56 5 S (grownCap w5 S.size 0 5) Tryz.underlying56)
      clear hb5 t0 t1
      generalize Lib.bytesWorld w5 5 S = w6 at *
      generalize Value.slice (some ⟨w5.heap.size, 0, none⟩) S.size (grownCap w5 S.size 0 5) = x6 at *
      go_wp2_with (at_builtin; go_must (refine wpList_append_out w6 rfl _ _ 56 rfl HO5.out 5 i0 _ Tryz.underlying56 hi0 hz0 hz1 hz2 rfl rfl _ S.size S.data.toList rfl hSn SRC.out (by omega) ?_; intro v7 w7 hO7))
      have hO7 := hO7
      rw [HN0.out] at hO7
      have HO7 := Lib.hid hO7
      have HL7 : Hid ((linesL t (blsWo 0 (t.blocks.take j) ++ partWo j y 0)).length ≤ 2000 + 3000000 * j + 600 * 0) := by
        show _ ≤ _
        rw [← HN0.out, List.length_append]
        omega
      clear hO7 HN0 HSL HO5 SRC hcv hadd0 hadd1 hSs hSn hLn HO HL HQ2 EO
      generalize linesL t (blsWo 0 (t.blocks.take j)) = L0 at *
      go_loopw [4, 6] (fun v k wr => ∃ i : Nat, k = .int .i64 i ∧ i ≤ y.ins.length ∧ OutW A wr v (linesL t (blsWo 0 (t.blocks.take j) ++ partWo j y i)) ∧ Hid ((linesL t (blsWo 0 (t.blocks.take j) ++ partWo j y i)).length ≤ 2000 + 3000000 * j + 600 * i)) (fun _ k _ => y.ins.length - (intOf k).toNat)
      case atStart => exact ⟨0, rfl, Nat.zero_le _, HO7.out, HL7⟩
      case round =>
        obtain ⟨i, rfl, hi, hO, hL⟩ := hrel
        clear HO7 HL7
        have HO := Lib.hid hO
        have HL := Lib.hid hL
        clear hO hL
        obtain ⟨t0, t1⟩ := HX.out wr HO.out.be
        have hsz := HSZ.out wr HO.out.be
        have hgw : g < wr.heap.size := by have := HGA.out; omega
        have hi4 := HOB.out.2
        by_cases hlti : i < y.ins.length
        case neg =>
          have e : i = y.ins.length := by omega
          subst e
          have hbt := HBT.out wr HO.out.be
          have b0 := hbt.c0
          have b1 := hbt.c1
          have b2 := hbt.c2
          have b3 := hbt.c3
          have b4 := hbt.c4
          have HOX := Lib.hid HOB.out.1.tm
          have HNX2 : Hid (linesL t (blsWo 0 (t.blocks.take j) ++ partWo j y y.ins.length) ++ rowL (tmWo y.tm) = linesL t (blsWo 0 (t.blocks.take (j + 1)))) := by
            show _ = _
            rw [HNX.out, ← partWo_all, ← List.append_assoc, ← linesL_snoc]
          have hrow := row_few (.tm y.tm) HOX.out
          have HRW : Hid ((rowB (tmWo y.tm)).data.toList = rowL (tmWo y.tm)) := rfl
          have CI := Lib.hid (LE.out y.tm wr HOX.out HO.out.be)
          generalize hS : rowB (tmWo y.tm) = S at *
          have hSn : S.size = S.data.toList.length := (Array.length_toList (xs := S.data)).symm
          have hSs : S.size ≤ 600 := by rw [hSn, HRW.out]; exact hrow
          rw [← HRW.out] at HNX2
          generalize hLL : linesL t (blsWo 0 (t.blocks.take j) ++ partWo j y y.ins.length) = L at *
          have hLn : L.length ≤ 2000 + 3000000 * j + 600 * y.ins.length := HL.out
          clear hbt hrow HL hLL hS hi hlti
          go_wp2_with fail
          refine CI.out.mono ?_
          rintro e w5 ⟨rfl, hb5⟩
          have HO5 : Hid (OutW A (Lib.bytesWorld w5 5 S) _ L) := (HO.out.below hb5).below (Lib.bytesWorld_below w5 _ S)
          have hcv := cvS S w5
          have SRC := Lib.hid (src_bytes (P := Tryz.prog) w5 5 56 5 S (grownCap w5 S.size 0 5) Tryz.underlying56)
          clear hb5 t0 t1 b0 b1 b2 b3 b4 hsz hgw
          generalize Lib.bytesWorld w5 5 S = w6 at *
          generalize Value.slice (some ⟨w5.heap.size, 0, none⟩) S.size (grownCap w5 S.size 0 5) = x6 at *
          go_wp2_with (at_builtin; go_must (refine wpList_append_out w6 rfl _ _ 56 rfl HO5.out 5 i0 _ Tryz.underlying56 hi0 hz0 hz1 hz2 rfl rfl _ S.size S.data.toList rfl hSn SRC.out (by omega) ?_; intro v7 w7 hO7))
          rw [HNX2.out] at hO7
          have HO7 := Lib.hid hO7
          have HL7 : Hid ((linesL t (blsWo 0 (t.blocks.take (j + 1)))).length ≤ 1000 + 3000000 * (j + 1)) := by
            show _ ≤ _
            rw [← HNX2.out, List.length_append]
            omega
          clear hO7
          go_roundw
          case rel => exact ⟨j + 1, by go_num, by omega, HO7.out, HL7⟩
          case measure => simp [intOf]; omega
        have hlti' : (i : Int) < y.ins.length := by omega
        have hi0' : (0 : Int) ≤ i := by omega
        have hbt := HBT.out wr HO.out.be
        have b0 := hbt.c0
        obtain ⟨x, hx⟩ : ∃ x, y.ins[i]? = some x := ⟨_, List.getElem?_eq_getElem hlti⟩
        obtain ⟨g2, o2, xa, xc, he, hg2, hia⟩ := HBI.out i x hx
        subst he
        have hIA := hia.below hg2 HO.out.be
        have hgw2 : g2 < wr.heap.size := by omega
        have a0 := hIA.c0
        have a1 := hIA.c1
        have a2 := hIA.c2
        have a3 := hIA.c3
        have a4 := hIA.c4
        have a5 := hIA.c5
        have a6 := hIA.c6
        have a7 := hIA.c7
        have HOX := Lib.hid (HOB.out.1.ins x (List.mem_of_getElem? hx))
        have HNX2 : Hid (linesL t (blsWo 0 (t.blocks.take j) ++ partWo j y i) ++ rowL (insWo x) = linesL t (blsWo 0 (t.blocks.take j) ++ partWo j y (i + 1))) := by
          show _ = _
          rw [partWo_snoc j y i x hx, ← List.append_assoc, ← linesL_snoc]
        have hrow := row_few (.ins x none 0) HOX.out
        have HRW : Hid ((rowB (insWo x)).data.toList = rowL (insWo x)) := rfl
        have CI := Lib.hid (LI.out x xa xc wr HOX.out HO.out.be)
        generalize hS : rowB (insWo x) = S at *
        have hSn : S.size = S.data.toList.length := (Array.length_toList (xs := S.data)).symm
        have hSs : S.size ≤ 600 := by rw [hSn, HRW.out]; exact hrow
        rw [← HRW.out] at HNX2
        generalize hLL : linesL t (blsWo 0 (t.blocks.take j) ++ partWo j y i) = L at *
        have hLn : L.length ≤ 2000 + 3000000 * j + 600 * i := HL.out
        clear hbt hIA hia hx hrow HL hLL hS hg2
        go_wp2_with fail
        refine CI.out.mono ?_
        rintro e w5 ⟨rfl, hb5⟩
        have HO5 : Hid (OutW A (Lib.bytesWorld w5 5 S) _ L) := (HO.out.below hb5).below (Lib.bytesWorld_below w5 _ S)
        have hcv := cvS S w5
        have SRC := Lib.hid (src_bytes (P := Tryz.prog) w5 5 56 5 S (grownCap w5 S.size 0 5) Tryz.underlying56)
        clear hb5 t0 t1 a0 a1 a2 a3 a4 a5 a6 a7 b0 hsz hgw hgw2
        generalize Lib.bytesWorld w5 5 S = w6 at *
        generalize Value.slice (some ⟨w5.heap.size, 0, none⟩) S.size (grownCap w5 S.size 0 5) = x6 at *
        go_wp2_with (at_builtin; go_must (refine wpList_append_out w6 rfl _ _ 56 rfl HO5.out 5 i0 _ Tryz.underlying56 hi0 hz0 hz1 hz2 rfl rfl _ S.size S.data.toList rfl hSn SRC.out (by omega) ?_; intro v7 w7 hO7))
        rw [HNX2.out] at hO7
        have HO7 := Lib.hid hO7
        have HL7 : Hid ((linesL t (blsWo 0 (t.blocks.take j) ++ partWo j y (i + 1))).length ≤ 2000 + 3000000 * j + 600 * (i + 1)) := by
          show _ ≤ _
          rw [← HNX2.out, List.length_append]
          omega
        clear hO7
        go_roundw
        case rel => exact ⟨i + 1, by go_num, by omega, HO7.out, HL7⟩
        case measure => simp [intOf]; omega
end Go.Proofs.YtjmdgbgjleeloaaGreatDoor
