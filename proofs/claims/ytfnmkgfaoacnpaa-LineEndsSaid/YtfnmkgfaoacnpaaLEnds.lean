/-
  The walk of the statement LineEnds: it answers true and turns nothing that was there. No condition.
-/
import Derived.Test.YtfnmkgfaoacnpaaNoC
import Derived.Test.YtfnmkgfaoacnpaaGets
namespace Go.Proofs.Ytfnmkgfaoacnpaa
open Go.RowKit

set_option maxHeartbeats 2000000 in
set_option maxRecDepth 100000 in
theorem none_any (w : World) : Calls Try.prog 22 #[] w fun e w' => e = .returned (.bool true) ∧ Below w.heap.size w w' := by
  have E1 : Hid (Blk (w.alloc (.cells #[.slice none 0 0, .pointer none, .int .i64 0, .int .i64 0, .int .i64 0] 84)) w.heap.size 84 #[.slice none 0 0, .pointer none, .int .i64 0, .int .i64 0, .int .i64 0]) := Blk.new _ _ _
  go_enter Try.func22, Try.ntmps22
  go_wp2_with fail
  have X0 : Hid (∃ W : World, W = (w.alloc (.cells #[.slice none 0 0, .pointer none, .int .i64 0, .int .i64 0, .int .i64 0] 84)).alloc (.cells #[.pointer none, .pointer (some ⟨w.heap.size, 0, none⟩)] 39)) := ⟨_, rfl⟩
  have hz : (w.alloc (.cells #[.slice none 0 0, .pointer none, .int .i64 0, .int .i64 0, .int .i64 0] 84)).heap.size = w.heap.size + 1 := by simp
  have BL : Blk ((w.alloc (.cells #[.slice none 0 0, .pointer none, .int .i64 0, .int .i64 0, .int .i64 0] 84)).alloc (.cells #[.pointer none, .pointer (some ⟨w.heap.size, 0, none⟩)] 39)) (w.heap.size + 1) 39 #[.pointer none, .pointer (some ⟨w.heap.size, 0, none⟩)] := by
    have := Blk.new (w.alloc (.cells #[.slice none 0 0, .pointer none, .int .i64 0, .int .i64 0, .int .i64 0] 84)) 39 #[.pointer none, .pointer (some ⟨w.heap.size, 0, none⟩)]
    rw [hz] at this
    exact this
  have BC : Blk ((w.alloc (.cells #[.slice none 0 0, .pointer none, .int .i64 0, .int .i64 0, .int .i64 0] 84)).alloc (.cells #[.pointer none, .pointer (some ⟨w.heap.size, 0, none⟩)] 39)) w.heap.size 84 #[.slice none 0 0, .pointer none, .int .i64 0, .int .i64 0, .int .i64 0] := E1.out.alloc _
  have B0 : Hid (Below w.heap.size w ((w.alloc (.cells #[.slice none 0 0, .pointer none, .int .i64 0, .int .i64 0, .int .i64 0] 84)).alloc (.cells #[.pointer none, .pointer (some ⟨w.heap.size, 0, none⟩)] 39))) := ((Below.refl _ w).alloc (Nat.le_refl _) _).alloc (by simp) _
  generalize (w.alloc (.cells #[.slice none 0 0, .pointer none, .int .i64 0, .int .i64 0, .int .i64 0] 84)).alloc (.cells #[.pointer none, .pointer (some ⟨w.heap.size, 0, none⟩)] 39) = w0 at *
  have HL := Lib.hid BL
  have HC := Lib.hid BC
  clear BL BC X0 E1 hz
  go_loopw [2] (fun k wr => ∃ j : Nat, k = .int .i64 j ∧ j ≤ 2 ∧ Below w0.heap.size w0 wr) (fun k _ => 2 - (intOf k).toNat)
  case atStart => exact ⟨0, rfl, by omega, Below.refl _ _⟩
  case round =>
    obtain ⟨j, rfl, hj, hb⟩ := hrel
    have HB := Lib.hid hb
    by_cases hlt : j < 2
    · have hlt' : (j : Int) < 2 := by omega
      obtain ⟨p, hp, hn⟩ : ∃ p, wr.cell? ⟨w.heap.size + 1, j, none⟩ = some p ∧ NoC wr p := by
        have hl := HL.out.below hb HL.out.lt
        have hc := HC.out.below hb HC.out.lt
        rcases (show j = 0 ∨ j = 1 by omega) with rfl | rfl
        · exact ⟨_, (hl.cell 0).trans rfl, .inl rfl⟩
        · exact ⟨_, (hl.cell 1).trans rfl, .inr ⟨w.heap.size, rfl, hc⟩⟩
      have HN := Lib.hid hn
      clear hn hb
      go_wp2_with fail
      refine (mark_no p _ wr HN.out).mono ?_
      rintro e v1 ⟨rfl, hb⟩
      have N1 := Lib.hid (HN.out.below hb)
      have K1 := Lib.hid (HB.out.trans (hb.mono HB.out.size))
      clear hb HN HB
      go_wp2_with fail
      refine (end_no p v1 N1.out).mono ?_
      rintro e v2 ⟨rfl, hb⟩
      have N2 := Lib.hid (N1.out.below hb)
      have K2 := Lib.hid (K1.out.trans (hb.mono K1.out.size))
      clear hb N1 K1
      go_wp2_with fail
      refine (fail_no p 2 v2 N2.out).mono ?_
      rintro e v30 ⟨rfl, rfl⟩
      go_wp2_with fail
      refine (err_no p v2 N2.out).mono ?_
      rintro e v31 ⟨rfl, rfl⟩
      go_wp2_with fail
      refine (key_no p _ v2 N2.out).mono ?_
      rintro e v3 ⟨rfl, hb⟩
      have N3 := Lib.hid (N2.out.below hb)
      have K3 := Lib.hid (K2.out.trans (hb.mono K2.out.size))
      clear hb N2 K2
      go_wp2_with fail
      refine (is_no p _ v3 N3.out).mono ?_
      rintro e v4 ⟨rfl, hb⟩
      have N4 := Lib.hid (N3.out.below hb)
      have K4 := Lib.hid (K3.out.trans (hb.mono K3.out.size))
      clear hb N3 K3
      go_wp2_with fail
      refine (name_no p v4 N4.out).mono ?_
      rintro e v5 ⟨rfl, hb⟩
      have N5 := Lib.hid (N4.out.below hb)
      have K5 := Lib.hid (K4.out.trans (hb.mono K4.out.size))
      clear hb N4 K4
      go_wp2_with fail
      refine (num_no p 0 9 v5 N5.out).mono ?_
      rintro e v6 ⟨rfl, hb⟩
      have N6 := Lib.hid (N5.out.below hb)
      have K6 := Lib.hid (K5.out.trans (hb.mono K5.out.size))
      clear hb N5 K5
      go_wp2_with fail
      refine (more_no p v6 N6.out).mono ?_
      rintro e v7 ⟨rfl, hb⟩
      have N7 := Lib.hid (N6.out.below hb)
      have K7 := Lib.hid (K6.out.trans (hb.mono K6.out.size))
      clear hb N6 K6
      go_wp2_with fail
      refine (ends_no p v7 N7.out).mono ?_
      rintro e v8 ⟨rfl, hb⟩
      have N8 := Lib.hid (N7.out.below hb)
      have K8 := Lib.hid (K7.out.trans (hb.mono K7.out.size))
      clear hb N7 K7
      go_wp2_with fail
      refine (peek_no p v8 N8.out).mono ?_
      rintro e v9 ⟨rfl, hb⟩
      have N9 := Lib.hid (N8.out.below hb)
      have K9 := Lib.hid (K8.out.trans (hb.mono K8.out.size))
      clear hb N8 K8
      go_wp2
      go_roundw
      case rel => exact ⟨j + 1, by go_num, by omega, K9.out⟩
      case measure => simp [intOf]; omega
    · have hlt' : ¬ (j : Int) < 2 := by omega
      have hlt2 : (2 : Int) ≤ j := by omega
      go_wp2
      go_ret
      exact ⟨rfl, B0.out.trans (HB.out.mono B0.out.size)⟩
end Go.Proofs.Ytfnmkgfaoacnpaa
