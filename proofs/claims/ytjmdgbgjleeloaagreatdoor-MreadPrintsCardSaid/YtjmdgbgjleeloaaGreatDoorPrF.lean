/-
  MreadPrints: the walk (written by gen/prf.py). Conditions: the library's tables, its errors, the Ops' names and parts hold what the text lays.
-/
import Derived.Test.YtjmdgbgjleeloaaGreatDoorPrE
import Derived.Test.YtjmdgbgjleeloaaGreatDoorQk8
import Derived.Test.YtjmdgbgjleeloaaGreatDoorMqT
import Derived.Test.YtjmdgbgjleeloaaGreatDoorMiV
import Derived.Deep.RegionHeld3
namespace Go.Proofs.YtjmdgbgjleeloaaGreatDoor
open Go.RowKit

set_option maxRecDepth 100000 in
set_option maxHeartbeats 8000000 in
theorem mreadPrints_any (t : Gg) (ba : Option Addr) (bc : Nat) (w : World) (hB : BlsW w ba t.blocks) (htl : t.blocks.length ≤ 140737488355328) (htb : ∀ x ∈ t.blocks, x.ins.length ≤ 140737488355328 ∧ ∀ i ∈ x.ins, i.args.length ≤ 140737488355328) (hT : TabA w) :
    Calls Tryz.prog 3 #[tgV t ba bc] w fun e w' => e = .returned (.bool true) ∧ Below w.heap.size w w' := by
  obtain ⟨A, hA⟩ : ∃ A, A = w.alloc (.cells (tgC t ba bc) 24) := ⟨_, rfl⟩
  have hw0 : Below w.heap.size w A := by rw [hA]; exact (Below.refl _ w).alloc (Nat.le_refl _) _
  have HX : Hid (∀ W, Below A.heap.size A W → W.cell? ⟨w.heap.size, 0, none⟩ = some (.int .i64 t.frame) ∧ W.cell? ⟨w.heap.size, 1, none⟩ = some (.slice ba t.blocks.length bc)) := fun W h => by
    have x1 : Blk A w.heap.size 24 (tgC t ba bc) := by rw [hA]; exact Blk.new w _ _
    exact boxG (x1.below h x1.lt)
  have HW0 := Lib.hid hw0
  have HSA : Hid (w.heap.size < A.heap.size) := by show _ < _; rw [hA]; simp
  have HBA : Hid (∀ W, Below A.heap.size A W → BlsW W ba t.blocks) := fun W h => (hB.below hw0).below h
  have HTA : Hid (∀ W, Below A.heap.size A W → TabA W) := fun W h => (hT.below hw0).below h
  have AW : Hid (∀ W, Below A.heap.size A W → Calls Tryz.prog 9 #[] W fun e w' => e = .returned (.bool true) ∧ Below W.heap.size W w') := fun W h => awake7_any W (HTA.out W h)
  have CT := Lib.hid (targetOf6_any t ba bc A htl htb (hB.below hw0))
  have LT : Hid (FewL t.blocks → ∀ W, Below A.heap.size A W → _) := fun hf W h => lentTarget_any t ba bc W (by have := hf.b; omega) (fun x hx => ⟨by have := (hf.i x hx).1; omega, fun y hy => by have := (hf.i x hx).2 y hy; omega⟩) (HBA.out W h)
  have KT : Hid (FewL t.blocks → ∀ (bg bk : Nat) (es : List BE) W, Below A.heap.size A W → LTg W 0 t bg bk es → _) := fun hf bg bk es W h hL => keptTarget_any t bg bk es 0 ba bc W (by have := hf.b; omega) (fun x hx => ⟨by have := (hf.i x hx).1; omega, fun y hy => by have := (hf.i x hx).2 y hy; omega⟩) hL (HBA.out W h)
  have SM : Hid (FewL t.blocks → SmallG t) := fun h => ⟨by have := h.b; omega, fun x hx => ⟨by have := (h.i x hx).1; omega, fun y hy => by have := (h.i x hx).2 y hy; omega⟩⟩
  have PR : Hid (FewL t.blocks → ∀ (b : Option Addr) (c : Nat) W, Below A.heap.size A W → BlsW W b t.blocks → _) := fun hf b c W h hb => print_any t b c W hb (SM.out hf) (HTA.out W h).t (HTA.out W h).r.pow (HTA.out W h).r.names
  have RP : Hid (FewL t.blocks → ∀ W, Below A.heap.size A W → _) := fun hf W h => print7_any t ba bc W (HBA.out W h) (SM.out hf) (HTA.out W h).r.pow
  have HF : Hid (cntB 0 t.blocks ≤ 600 → FewL t.blocks) := fun h => cnt_few h
  have ETC : Hid (∀ b c, tgC t b c = #[.int .i64 t.frame, .slice b t.blocks.length c]) := fun b c => rfl
  generalize printE t = pe at *
  generalize printS t = ps at *
  generalize cntB 0 t.blocks = N at *
  unfold tgV at CT LT KT PR RP ⊢
  simp only [ETC.out] at hA CT LT KT PR RP ⊢
  obtain ⟨t0, t1⟩ := HX.out A (Below.refl _ _)
  clear hB hT hw0 htl htb
  go_enter Tryz.func3, Tryz.ntmps3
  go_upto_region 1 with fail
  rw [← hA]
  clear hA
  go_wp2_with fail
  refine CT.out.mono ?_
  rintro e w1 ⟨rfl, hb1⟩
  have HB1 := Lib.hid hb1
  clear hb1 CT t0 t1
  by_cases hbig : (600 : Int) < N
  · go_wp2_with fail
    refine (AW.out w1 HB1.out).mono ?_
    rintro e w2 ⟨rfl, hb2⟩
    have HB2 : Hid (Below w.heap.size w w2) := HW0.out.trans ((HB1.out.trans (hb2.mono HB1.out.size)).mono HW0.out.size)
    clear hb2
    go_wp2
    go_ret
    exact ⟨rfl, HB2.out⟩
  have hfew := HF.out (by omega)
  have HFW := Lib.hid hfew
  clear hfew HF
  obtain ⟨t0, t1⟩ := HX.out w1 HB1.out
  go_wp2_with fail
  refine (LT.out HFW.out w1 HB1.out).mono ?_
  rintro e w3 ⟨bg, bk, es, rfl, hL, hb3⟩
  have HB3 : Hid (Below A.heap.size A w3) := HB1.out.trans (hb3.mono HB1.out.size)
  have HL3 : Hid (LTg w3 0 t bg bk es) := Lib.hid ⟨hL.same, hL.blocks.base (Nat.zero_le _)⟩
  clear hb3 hL t0 t1 LT
  go_wp2_with fail
  have hal := (Below.refl w3.heap.size w3).alloc (Nat.le_refl _) (.cells #[.int .i64 t.frame, .slice (some ⟨bg, 0, none⟩) t.blocks.length bk] 24)
  have HXI0 : Hid (Blk (w3.alloc (.cells #[.int .i64 t.frame, .slice (some ⟨bg, 0, none⟩) t.blocks.length bk] 24)) w3.heap.size 24 #[.int .i64 t.frame, .slice (some ⟨bg, 0, none⟩) t.blocks.length bk]) := Blk.new w3 _ _
  have HY : Hid (Below A.heap.size A (w3.alloc (.cells #[.int .i64 t.frame, .slice (some ⟨bg, 0, none⟩) t.blocks.length bk] 24))) := HB3.out.trans (hal.mono HB3.out.size)
  have HLY := Lib.hid (HL3.out.below hal)
  have hwA : w.heap.size < w3.heap.size := by have := HSA.out; have := HB3.out.size; omega
  clear hal HL3 HB3
  generalize w3.alloc (.cells #[.int .i64 t.frame, .slice (some ⟨bg, 0, none⟩) t.blocks.length bk] 24) = Y at *
  have hlY := HXI0.out.lt
  refine (PR.out HFW.out (some ⟨bg, 0, none⟩) bk Y HY.out HLY.out.bls).mono ?_
  rintro e w5 ⟨rfl, hb5⟩
  have HB5 : Hid (Below Y.heap.size Y w5) := hb5
  have HA5 : Hid (Below A.heap.size A w5) := HY.out.trans (hb5.mono HY.out.size)
  clear hb5 PR
  obtain ⟨t0, t1⟩ := HX.out w5 HA5.out
  go_wp2_with fail
  refine (RP.out HFW.out w5 HA5.out).mono ?_
  rintro e w6 ⟨rfl, hb6⟩
  have HB6 : Hid (Below Y.heap.size Y w6) := HB5.out.trans (hb6.mono HB5.out.size)
  have HA6 : Hid (Below A.heap.size A w6) := HA5.out.trans (hb6.mono HA5.out.size)
  clear hb6 RP t0 t1 HB5 HA5
  have hxi := HXI0.out.below HB6.out hlY
  have d0 : w6.cell? ⟨w3.heap.size, 0, none⟩ = some (.int .i64 t.frame) := hxi.cell 0
  have d1 : w6.cell? ⟨w3.heap.size, 1, none⟩ = some (.slice (some ⟨bg, 0, none⟩) t.blocks.length bk) := hxi.cell 1
  obtain ⟨t0, t1⟩ := HX.out w6 HA6.out
  go_wp2_with fail
  refine (KT.out HFW.out bg bk es w6 HA6.out (HLY.out.below HB6.out)).mono ?_
  rintro e w7 ⟨rfl, hb7⟩
  have HA7 : Hid (Below A.heap.size A w7) := HA6.out.trans (hb7.mono HA6.out.size)
  clear hb7 KT d0 d1 t0 t1 hxi
  go_wp2_with fail
  refine (AW.out w7 HA7.out).mono ?_
  rintro e w8 ⟨rfl, hb8⟩
  have HB8 : Hid (Below w.heap.size w w8) := HW0.out.trans ((HA7.out.trans (hb8.mono HA7.out.size)).mono HW0.out.size)
  clear hb8
  go_wp2
  go_ret
  exact ⟨rfl, HB8.out⟩
end Go.Proofs.YtjmdgbgjleeloaaGreatDoor
