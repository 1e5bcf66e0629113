/-
  Package mach's reader: rows of numbers, a whole machine are got off its cursor. No condition beyond those that each theorem states.
-/
import Derived.Test.YtfcnclnebnmdiaaMaQ
import Derived.Deep.LoopGhost
namespace Go.Proofs.Ytfcnclnebnmdiaa
open Go.RowKit

theorem nameT_bytes {c : Cu} (h : ¬ c.nameT = ⟨#[]⟩) : c.nameT.toList.isEmpty = false := by
  rw [List.isEmpty_eq_false_iff]
  intro e
  rw [ByteArray.toList_eq] at e
  have e2 : c.nameT.data = #[] := by simpa using e
  exact h (ByteArray.ext e2)
set_option maxHeartbeats 2000000 in
set_option maxRecDepth 100000 in
theorem numsM_any (q g : Nat) (c : Cu) (w : World) (hr : RdM w q g) (h : CurC w g c) (ho : c.Ok) (hl : c.left.length ≤ 1000000) :
    Calls Try.prog 35 #[.pointer (some ⟨q, 0, none⟩)] w fun e w' => ∃ a cap, e = .returned (.slice a (c.nums []).2.length cap) ∧ OwnM w' w.heap.size (.slice a (c.nums []).2.length cap) (c.nums []).2 ∧ CurC w' g (c.nums []).1 ∧ RdM w' q g ∧ Keep w.heap.size g w w' := by
  obtain ⟨i0, hi0, hz0, hz1, hz2⟩ := info_parts intM_info
  have H := Lib.hid h
  have R := Lib.hid hr
  have OK := Lib.hid ho
  have L := Lib.hid hl
  clear h hr ho hl
  go_enter Try.func35, Try.ntmps35
  go_wp2
  go_loopg [2] c.left.length (fun gk v wr => ∃ (d : Cu) (l : List Int) (a : Option Addr) (cap : Nat), v = .slice a l.length cap ∧ d.left.length ≤ gk ∧ l.length + d.left.length ≤ 1000000 ∧ d.Ok ∧ Hid (c.nums [] = d.nums l) ∧ OwnM wr w.heap.size v l ∧ CurC wr g d ∧ RdM wr q g ∧ Keep w.heap.size g w wr)
  case atStart => exact ⟨c, [], none, 0, rfl, Nat.le_refl _, by have := L.out; simp; omega, OK.out, rfl, World.ownsRow_nil _ _ _ _, H.out, R.out, Keep.refl _ _ _⟩
  case round =>
    obtain ⟨d, l, a, cap, rfl, hg, hlen, hok, HN, hO, hc, hq, hk⟩ := hrel
    have HO := Lib.hid hO
    have HC := Lib.hid hc
    have HR := Lib.hid hq
    have HK := Lib.hid hk
    have E := Lib.hid (ends_any g d wr hc)
    have m0 := hq.cell
    clear hO hc hq hk H R
    cases he : d.ends
    · rw [he] at E
      have P : Hid (∀ w1, CurC w1 g d → _) := fun w1 h1 => peek_any g d w1 h1
      by_cases hn : d.nameT = ⟨#[]⟩
      · rw [hn] at P
        have hgo : d.goes = true := by unfold Cu.goes; rw [he, hn]; decide
        have hless := left_num hok hgo 0 64
        have HS := Lib.hid (nums_step hok hgo l)
        have hok2 := hok.num 0 64
        have N : Hid (∀ w1, RdM w1 q g → CurC w1 g d → _) := fun w1 h1 h2 => numM_any q g d w1 h1 h2
        generalize d.num 0 64 = d2 at *
        generalize d.numN 0 64 = x at *
        clear he hn hgo hok
        cases gk with
        | zero => exfalso; omega
        | succ gk =>
          go_wp2_with fail
          refine E.out.mono ?_
          rintro e w1 ⟨rfl, hb1⟩
          have C1 := Lib.hid (HC.out.below hb1)
          have R1 := Lib.hid (HR.out.below hb1)
          have K1 := Lib.hid (HK.out.then_below hb1)
          have O1 : Hid (OwnM w1 w.heap.size (.slice a l.length cap) l) := own_keep HO.out ⟨hb1.size, fun k _ hk => hb1.block k hk⟩
          have m1 := R1.out.cell
          clear hb1 E HC HR HK HO m0
          go_wp2_with fail
          refine (P.out w1 C1.out).mono ?_
          rintro e w2 ⟨rfl, hb2⟩
          have C2 := Lib.hid (C1.out.below hb2)
          have R2 := Lib.hid (R1.out.below hb2)
          have K2 := Lib.hid (K1.out.then_below hb2)
          have O2 : Hid (OwnM w2 w.heap.size (.slice a l.length cap) l) := own_keep O1.out ⟨hb2.size, fun k _ hk => hb2.block k hk⟩
          clear hb2 P C1 R1 K1 O1 m1
          go_wp2_with fail
          refine (N.out w2 R2.out C2.out).mono ?_
          rintro e w3 ⟨rfl, h3, r3, k3⟩
          have C3 := Lib.hid h3
          have R3 := Lib.hid r3
          have K3 := Lib.hid (K2.out.then_keep k3)
          have O3 : Hid (OwnM w3 w.heap.size (.slice a l.length cap) l) := by
            obtain ⟨cs, hcs⟩ := C2.out.blk'
            exact O2.out.kept k3 hcs (by decide)
          clear h3 r3 k3 N C2 R2 K2 O2
          have hsz := K3.out.size
          go_wp2_with (at_builtin; go_must (refine wpList_append_lies _ rfl _ _ _ rfl w.heap.size 3 i0 _ 1 8 Try.underlying23 hi0 hz0 hz1 hz2 rfl (by omega) (.slice a l.length cap) l.length (l.map (Value.int .i64)) rfl (World.ownsRow.alloc O3.out _) ⟨w3.heap.size, 0, none⟩ 1 1 [.int .i64 x] rfl rfl (World.news_of_block (heap_alloc_new w3 _)) (by simp [Value.oneCell']) (by omega) (by simp only [maxLen]; omega) (by omega) (by simp; omega) (w3.heap.size + 1) (by simp) ?_; intro gg cap4 w4 hown4 hgrow hat hlt4))
          have O4 := Lib.hid (OwnM.more hown4)
          have hrow : ∀ k t cs, Blk (w3.alloc (.cells #[.int .i64 x] 3)) k t cs → 3 ≠ t → some k ≠ (Value.slice a l.length cap).ownBlock := fun k t cs hk ht => own_far (World.ownsRow.alloc O3.out _) hk ht
          have C4 : Hid (CurC w4 g d2) := (C3.out.below ((Below.refl _ _).alloc (Nat.le_refl _) _)).grown hgrow hrow
          have R4 : Hid (RdM w4 q g) := Blk.grown (Blk.alloc R3.out _) hgrow (hrow _ _ _ (Blk.alloc R3.out _) (by decide))
          have K4 : Hid (Keep w.heap.size g w w4) := (K3.out.trans (Keep.alloc hsz g _)).trans (Keep.grown hgrow (by simp; omega) (fun k hk => (O3.out.lt k hk).1) g)
          clear hown4 hgrow hat hlt4 hrow C3 R3 K3 O3
          go_wp2
          go_roundg gk
          case measure => omega
          case rel => exact ⟨d2, l ++ [x], some ⟨gg, 0, none⟩, cap4, by simp, by omega, by simp; omega, hok2, HN.out.trans HS.out, O4.out, C4.out, R4.out, K4.out⟩
      · have hgo : d.goes = false := by unfold Cu.goes; rw [decide_eq_false hn]; simp
        have HS := Lib.hid (nums_stop hgo l)
        have hn2 := nameT_bytes hn
        generalize d.nameT = nt at *
        clear he hgo hok
        go_wp2_with fail
        refine E.out.mono ?_
        rintro e w1 ⟨rfl, hb1⟩
        have C1 := Lib.hid (HC.out.below hb1)
        have R1 := Lib.hid (HR.out.below hb1)
        have K1 := Lib.hid (HK.out.then_below hb1)
        have O1 : Hid (OwnM w1 w.heap.size (.slice a l.length cap) l) := own_keep HO.out ⟨hb1.size, fun k _ hk => hb1.block k hk⟩
        have m1 := R1.out.cell
        clear hb1 E HC HR HK HO m0
        go_wp2_with fail
        refine (P.out w1 C1.out).mono ?_
        rintro e w2 ⟨rfl, hb2⟩
        have C2 := Lib.hid (C1.out.below hb2)
        have R2 := Lib.hid (R1.out.below hb2)
        have K2 := Lib.hid (K1.out.then_below hb2)
        have O2 : Hid (OwnM w2 w.heap.size (.slice a l.length cap) l) := own_keep O1.out ⟨hb2.size, fun k _ hk => hb2.block k hk⟩
        clear hb2 P C1 R1 K1 O1 m1
        go_wp2
        go_ret
        have HE := HN.out.trans HS.out
        rw [HE]
        exact ⟨a, cap, rfl, O2.out, C2.out, R2.out, K2.out⟩
    · rw [he] at E
      have hgo : d.goes = false := by unfold Cu.goes; rw [he]; rfl
      have HS := Lib.hid (nums_stop hgo l)
      clear he hgo hok
      go_wp2_with fail
      refine E.out.mono ?_
      rintro e w1 ⟨rfl, hb1⟩
      have C1 := Lib.hid (HC.out.below hb1)
      have R1 := Lib.hid (HR.out.below hb1)
      have K1 := Lib.hid (HK.out.then_below hb1)
      have O1 : Hid (OwnM w1 w.heap.size (.slice a l.length cap) l) := own_keep HO.out ⟨hb1.size, fun k _ hk => hb1.block k hk⟩
      clear hb1 E HC HR HK HO m0
      go_wp2
      go_ret
      have HE := HN.out.trans HS.out
      rw [HE]
      exact ⟨a, cap, rfl, O1.out, C1.out, R1.out, K1.out⟩
end Go.Proofs.Ytfcnclnebnmdiaa
