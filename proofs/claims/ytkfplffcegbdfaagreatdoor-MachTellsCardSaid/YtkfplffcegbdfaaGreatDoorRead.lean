/-
  Read of package word, of a text of at most 100000 bytes, answers what the plain functions say and turns nothing that was there. No condition beyond those that each theorem states.
-/
import Derived.Test.YtkfplffcegbdfaaGreatDoorTake
import Derived.Test.YtkfplffcegbdfaaGreatDoorFine
import Derived.Lib.OthersKept
namespace Go.Proofs.YtkfplffcegbdfaaGreatDoor
open Go.RowKit

theorem clone_any (s : ByteArray) (w : World) (hz : s.size ≤ 100000) : Calls Tryz.prog 106 #[.string s] w fun e w' => e = .returned (.string s) ∧ Below w.heap.size w w' := by
  go_enter Tryz.func106, Tryz.ntmps106
  go_wp2_with fail
  refine (Tryz.stringslite_Clone s _ (by omega)).mono ?_
  rintro e w1 ⟨rfl, hb1⟩
  have B := Lib.hid hb1
  clear hb1
  go_wp2
  go_ret
  exact ⟨rfl, B.out⟩

theorem Lies.iterAt {w : World} {b g : Nat} {s : ByteArray} {σ : Rd} (h : Lies w b g s σ) {k : Nat} (hk : k < b) (hkg : g ≠ k) (t : ByteArray) (p : Nat) : Lies (w.iterAt k t p) b g s σ := by
  obtain ⟨a, c, hb, ho, hg, hs⟩ := h
  refine ⟨a, c, ?_, own_keep ho ⟨by rw [Lib.iterAt_size]; exact Nat.le_refl _, fun j hj _ => Lib.iterAt_other _ _ _ _ _ (by omega)⟩, hg, by rw [Lib.iterAt_size]; exact hs⟩
  unfold Blk
  rw [Lib.iterAt_other _ _ _ _ _ hkg]
  exact hb

set_option maxHeartbeats 2000000 in
set_option maxRecDepth 1000000 in
theorem read_any (s : ByteArray) (w : World) (hz : s.size ≤ 100000) :
    Calls Tryz.prog 70 #[.string s] w fun e w' => ∃ v, e = .returned (.tuple #[v, .int .i64 (readLine s), .int .i64 (readCol s), .int .i64 (readErr s)]) ∧
      w'.ownsRow w.heap.size 204 5 v (readWords s).length ((readWords s).flatMap flatW) ∧ Below w.heap.size w w' := by
  go_enter Tryz.func70, Tryz.ntmps70
  go_wp2_with (go_at_call 106; refine (clone_any s _ hz).mono ?_; rintro e w1 ⟨rfl, hb1⟩; have B := Lib.hid hb1; clear hb1)
  have hsz1 : w.heap.size ≤ w1.heap.size := B.out.size
  go_loopw [] (fun wr => ∃ (pos fuel : Nat) (σ : Rd), wr.heap[w1.heap.size + 1]? = some (.stringIter s pos) ∧ Lies wr (w1.heap.size + 2) w1.heap.size s σ ∧ Fine σ pos ∧ σ.f = 0 ∧ Below w.heap.size w wr ∧
      Hid (Rd.run s fuel pos σ = lastRd s) ∧ s.size ≤ pos + fuel ∧ pos ≤ s.size) (fun wr => s.size - wr.iterPos (w1.heap.size + 1))
  case atStart =>
    have h0 : ((w1.alloc (.cells (cellsR s startRd (.slice none 0 0)) 208)).iter s 0).heap[w1.heap.size + 1]? = some (.stringIter s 0) := by
      have := World.iter_heap (w1.alloc (.cells (cellsR s startRd (.slice none 0 0)) 208)) s 0
      simpa using this
    have h1 : Blk ((w1.alloc (.cells (cellsR s startRd (.slice none 0 0)) 208)).iter s 0) w1.heap.size 208 (cellsR s startRd (.slice none 0 0)) := (Blk.new w1 208 (cellsR s startRd (.slice none 0 0))).alloc _
    exact ⟨0, s.size, startRd, h0, ⟨none, 0, h1, World.ownsRow_nil _ _ _ _, by omega, by simp [World.iter]⟩, Fine.start, rfl, (B.out.alloc hsz1 _).alloc (by simp; omega) _, rfl, by omega, by omega⟩
  case round =>
    obtain ⟨pos, fuel, σ, hit, hL, hF, hf, hbw, HS, hfu, hps⟩ := hrel
    have hpos0 := iter_pos hit
    by_cases hp : pos < s.size
    · have hnx : ∀ ty, (Instr.next (.pointer (some ⟨w1.heap.size + 1, 0, none⟩)) true ty).run Tryz.prog wr = _ := fun ty => Lib.run_next_any_at wr (w1.heap.size + 1) s pos ty hit hp
      have hwd := wide_pos s pos hp
      have hrm := rune_max s pos
      have hwl := wide_le s pos hp
      obtain ⟨fuel, rfl⟩ : ∃ f', fuel = f' + 1 := ⟨fuel - 1, by omega⟩
      have hit2 := Lib.iterAt_heap wr (w1.heap.size + 1) s pos (pos + (Utf8.decode s pos).2) hit
      have hbw2 := Lib.below_iterAt hbw (k := w1.heap.size + 1) (by omega) s (pos + (Utf8.decode s pos).2)
      have hL2 := hL.iterAt (k := w1.heap.size + 1) (by omega) (by omega) s (pos + (Utf8.decode s pos).2)
      obtain ⟨W1, hW1⟩ : ∃ W1, W1 = wr.iterAt (w1.heap.size + 1) s (pos + (Utf8.decode s pos).2) := ⟨_, rfl⟩
      rw [← hW1] at hnx hit2 hbw2 hL2
      have T := Lib.hid (take_any w1.heap.size s σ pos ((Utf8.decode s pos).1 : Int) _ W1 hL2 hF hp hz ⟨by omega, by omega⟩)
      have HF := Lib.hid (fun hf => hF.next s ((Utf8.decode s pos).1 : Int) hf hwd)
      have HR : Hid (Rd.run s (fuel + 1) pos σ = if (σ.take s pos (Utf8.decode s pos).1).f = 0 then Rd.run s fuel (pos + (Utf8.decode s pos).2) ((σ.take s pos (Utf8.decode s pos).1).pass (Utf8.decode s pos).1) else σ.take s pos (Utf8.decode s pos).1) := by
        show _ = _
        rw [Rd.run, if_pos hp]
      have Hpos := Lib.hid hpos0
      have Hlt : Hid (w1.heap.size + 1 < W1.heap.size) := (Array.getElem?_eq_some_iff.1 hit2).1
      have Hit2 := Lib.hid hit2
      have Hbw2 := Lib.hid hbw2
      have hl1 := hF.line1
      have hl0 := hF.line0
      have hc1 := hF.col1
      have hc0 := hF.col0
      have TL : Hid (∀ hf : (σ.take s pos (Utf8.decode s pos).1).f = 0, (σ.take s pos (Utf8.decode s pos).1).line = σ.line ∧ (σ.take s pos (Utf8.decode s pos).1).col = σ.col) := fun hf => ⟨(Near.take hF s _ hf).line, (Near.take hF s _ hf).col⟩
      clear hW1 hit hbw hL hL2 hit2 hbw2 hpos0 hf hF
      go_wp2_with fail
      refine T.out.mono ?_
      rintro e w2 ⟨rfl, h2, k2⟩
      have m15 : w2.cell? ⟨w1.heap.size, 15, none⟩ = some (.int .i64 (σ.take s pos (Utf8.decode s pos).1).f) := by obtain ⟨a, c, hb, _⟩ := h2; exact hb.cell 15
      have m13 : w2.cell? ⟨w1.heap.size, 13, none⟩ = some (.int .i64 (σ.take s pos (Utf8.decode s pos).1).bl) := by obtain ⟨a, c, hb, _⟩ := h2; exact hb.cell 13
      have m14 : w2.cell? ⟨w1.heap.size, 14, none⟩ = some (.int .i64 (σ.take s pos (Utf8.decode s pos).1).bc) := by obtain ⟨a, c, hb, _⟩ := h2; exact hb.cell 14
      have H2 := Lib.hid h2
      have K2 := Lib.hid k2
      clear h2 k2 T
      generalize σ.take s pos (Utf8.decode s pos).1 = τ at *
      by_cases hq : τ.f = 0
      · have q : (τ.f != 0) = false := by simp [hq]
        have HQ := Lib.hid hq
        have P := Lib.hid (pass_any w1.heap.size s τ ((Utf8.decode s pos).1 : Int) _ w2 H2.out ⟨by have := (TL.out hq).1; omega, by have := (TL.out hq).1; omega⟩ ⟨by have := (TL.out hq).2; omega, by have := (TL.out hq).2; omega⟩)
        clear hq m13 m14
        go_wp2_with fail
        refine P.out.mono ?_
        rintro e w3 ⟨rfl, h3, k3⟩
        have hit3 : w3.heap[w1.heap.size + 1]? = some (.stringIter s (pos + (Utf8.decode s pos).2)) := by
          rw [k3.block _ (by omega) (by omega), K2.out.block _ (by omega) (by omega)]
          exact Hit2.out
        have H3 := Lib.hid h3
        have Hit3 := Lib.hid hit3
        have Hbw3 : Hid (Below w.heap.size w w3) := Hbw2.out.trans ((K2.out.trans k3).below (by omega) (by omega))
        clear h3 k3 hit3 P
        go_wp2
        go_roundw
        case rel =>
          refine ⟨pos + (Utf8.decode s pos).2, fuel, τ.pass (Utf8.decode s pos).1, Hit3.out, H3.out, HF.out HQ.out, by rw [pass_f]; exact HQ.out, Hbw3.out, ?_, by omega, by omega⟩
          show _ = _
          rw [← HS.out, HR.out, if_pos HQ.out]
        case measure =>
          rw [iter_pos Hit3.out, Hpos.out]
          omega
      · have q : (τ.f != 0) = true := by simp [hq]
        have HQ := Lib.hid hq
        have HE : Hid (lastRd s = τ) := by show _ = _; rw [← HS.out, HR.out, if_neg hq]
        have HB : Hid (Below w.heap.size w w2) := Hbw2.out.trans (K2.out.below (by omega) (by omega))
        clear hq
        go_wp2_with fail
        go_quiet (fail)
        go_wp2
        refine bodyPost_ret (v := .tuple #[.slice none 0 0, .int .i64 τ.bl, .int .i64 τ.bc, .int .i64 τ.f]) (by simp [results, Tryz.results70, go_sem]) rfl ⟨.slice none 0 0, ?_, ?_, below_draws HB.out _⟩
        · rw [readLine, readCol, readErr, HE.out, if_neg HQ.out, if_neg HQ.out]
        · have e : readWords s = [] := by rw [readWords, HE.out, if_neg HQ.out]
          rw [e]
          exact World.ownsRow_nil _ _ _ _
    · have hnx : ∀ ty, (Instr.next (.pointer (some ⟨w1.heap.size + 1, 0, none⟩)) true ty).run Tryz.prog wr = _ := fun ty => Lib.run_next_end_at wr (w1.heap.size + 1) s pos ty hit hp
      have HE : Hid (lastRd s = σ) := by show _ = _; rw [← HS.out, Rd.run_end s fuel pos σ hp]
      have SH := Lib.hid (shut_any w1.heap.size s σ s.size _ wr hL (by have := hF.words; omega) hF.frm0 (by have := hF.frm1; omega) (Nat.le_refl _))
      have m10 : wr.cell? ⟨w1.heap.size, 10, none⟩ = some (.string s) := by obtain ⟨a, c, hb, _⟩ := hL; exact hb.cell 10
      have Hbw := Lib.hid hbw
      have HQ := Lib.hid hf
      clear hit hL hF hf hbw HS hpos0
      go_wp2_with fail
      refine SH.out.mono ?_
      rintro e w2 ⟨rfl, h2, k2⟩
      have HB : Hid (Below w.heap.size w w2) := Hbw.out.trans (k2.below (by omega) (by omega))
      obtain ⟨a, c, hb, ho, hg, hs⟩ := h2
      have m11 : w2.cell? ⟨w1.heap.size, 11, none⟩ = some (.slice a (σ.shut s s.size).ws.length c) := hb.cell 11
      have HO := Lib.hid (own_base ho (base' := w.heap.size) (by omega))
      clear hb ho hg hs k2 SH
      have HW : Hid (readWords s = (σ.shut s s.size).ws) := by show _ = _; rw [readWords, HE.out, if_pos HQ.out]
      generalize σ.shut s s.size = τ at *
      go_wp2
      refine bodyPost_ret (v := .tuple #[.slice a τ.ws.length c, .int .i64 0, .int .i64 0, .int .i64 0]) (by simp [results, Tryz.results70, go_sem]) rfl ⟨.slice a τ.ws.length c, ?_, ?_, HB.out⟩
      · rw [readLine, readCol, readErr, HE.out, if_pos HQ.out, if_pos HQ.out, HQ.out]
      · rw [HW.out]
        exact HO.out
end Go.Proofs.YtkfplffcegbdfaaGreatDoor
