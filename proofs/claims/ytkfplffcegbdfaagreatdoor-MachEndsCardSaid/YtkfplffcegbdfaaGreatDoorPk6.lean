/-
  Read of package word, of a text of at most 300000 bytes, answers what the plain functions say and turns nothing that was there. No condition beyond those that each theorem states.
  A word's cells in a row that is owned; the chapter's two examples are read as it says. No condition beyond those that each theorem states.
  The document's rune at a place, as a plain function. No condition beyond those that each theorem states.
-/
import Derived.Test.YtkfplffcegbdfaaGreatDoorTake
import Derived.Test.YtkfplffcegbdfaaGreatDoorFine
import Derived.Lib.OthersKept
import Derived.Test.YtkfplffcegbdfaaGreatDoorPk1
namespace Go.Proofs.YtkfplffcegbdfaaGreatDoor
open Go.RowKit

theorem clone_any (s : ByteArray) (w : World) (hz : s.size ≤ 300000) : Calls Tryz.prog 106 #[.string s] w fun e w' => e = .returned (.string s) ∧ Below w.heap.size w w' := by
  go_enter Tryz.func106, Tryz.ntmps106
  go_wp2_with fail
  refine (Tryz.stringslite_Clone s _ (by omega)).mono ?_
  rintro e w1 ⟨rfl, hb1⟩
  have B := Lib.hid hb1
  clear hb1
  go_wp2
  go_ret
  exact ⟨rfl, B.out⟩

theorem Lies.iterAt {w : World} {b g : Nat} {s : ByteArray} {σ : Rd} (h : Lies w b g s σ) {k : Nat} (hk : k < b) (hkg : g ≠ k) (t : ByteArray) (p : Nat) : Lies (w.iterAt k t p) b g s σ := by
  obtain ⟨a, c, hb, ho, hg, hs⟩ := h
  refine ⟨a, c, ?_, own_keep ho ⟨by rw [Lib.iterAt_size]; exact Nat.le_refl _, fun j hj _ => Lib.iterAt_other _ _ _ _ _ (by omega)⟩, hg, by rw [Lib.iterAt_size]; exact hs⟩
  unfold Blk
  rw [Lib.iterAt_other _ _ _ _ _ hkg]
  exact hb

set_option maxHeartbeats 2000000 in
set_option maxRecDepth 1000000 in
theorem read_any (s : ByteArray) (w : World) (hz : s.size ≤ 300000) :
    Calls Tryz.prog 70 #[.string s] w fun e w' => ∃ v, e = .returned (.tuple #[v, .int .i64 (readLine s), .int .i64 (readCol s), .int .i64 (readErr s)]) ∧
      w'.ownsRow w.heap.size 204 5 v (readWords s).length ((readWords s).flatMap flatW) ∧ Below w.heap.size w w' := by
  go_enter Tryz.func70, Tryz.ntmps70
  go_wp2_with (go_at_call 106; refine (clone_any s _ hz).mono ?_; rintro e w1 ⟨rfl, hb1⟩; have B := Lib.hid hb1; clear hb1)
  have hsz1 : w.heap.size ≤ w1.heap.size := B.out.size
  go_loopw [] (fun wr => ∃ (pos fuel : Nat) (σ : Rd), wr.heap[w1.heap.size + 1]? = some (.stringIter s pos) ∧ Lies wr (w1.heap.size + 2) w1.heap.size s σ ∧ Fine σ pos ∧ σ.f = 0 ∧ Below w.heap.size w wr ∧
      Hid (Rd.run s fuel pos σ = lastRd s) ∧ s.size ≤ pos + fuel ∧ pos ≤ s.size) (fun wr => s.size - wr.iterPos (w1.heap.size + 1))
  case atStart =>
    have h0 : ((w1.alloc (.cells (cellsR s startRd (.slice none 0 0)) 208)).iter s 0).heap[w1.heap.size + 1]? = some (.stringIter s 0) := by
      have := World.iter_heap (w1.alloc (.cells (cellsR s startRd (.slice none 0 0)) 208)) s 0
      simpa using this
    have h1 : Blk ((w1.alloc (.cells (cellsR s startRd (.slice none 0 0)) 208)).iter s 0) w1.heap.size 208 (cellsR s startRd (.slice none 0 0)) := (Blk.new w1 208 (cellsR s startRd (.slice none 0 0))).alloc _
    exact ⟨0, s.size, startRd, h0, ⟨none, 0, h1, World.ownsRow_nil _ _ _ _, by omega, by simp [World.iter]⟩, Fine.start, rfl, (B.out.alloc hsz1 _).alloc (by simp; omega) _, rfl, by omega, by omega⟩
  case round =>
    obtain ⟨pos, fuel, σ, hit, hL, hF, hf, hbw, HS, hfu, hps⟩ := hrel
    have hpos0 := iter_pos hit
    by_cases hp : pos < s.size
    · have hnx : ∀ ty, (Instr.next (.pointer (some ⟨w1.heap.size + 1, 0, none⟩)) true ty).run Tryz.prog wr = _ := fun ty => Lib.run_next_any_at wr (w1.heap.size + 1) s pos ty hit hp
      have hwd := wide_pos s pos hp
      have hrm := rune_max s pos
      have hwl := wide_le s pos hp
      obtain ⟨fuel, rfl⟩ : ∃ f', fuel = f' + 1 := ⟨fuel - 1, by omega⟩
      have hit2 := Lib.iterAt_heap wr (w1.heap.size + 1) s pos (pos + (Utf8.decode s pos).2) hit
      have hbw2 := Lib.below_iterAt hbw (k := w1.heap.size + 1) (by omega) s (pos + (Utf8.decode s pos).2)
      have hL2 := hL.iterAt (k := w1.heap.size + 1) (by omega) (by omega) s (pos + (Utf8.decode s pos).2)
      obtain ⟨W1, hW1⟩ : ∃ W1, W1 = wr.iterAt (w1.heap.size + 1) s (pos + (Utf8.decode s pos).2) := ⟨_, rfl⟩
      rw [← hW1] at hnx hit2 hbw2 hL2
      have T := Lib.hid (take_any w1.heap.size s σ pos ((Utf8.decode s pos).1 : Int) _ W1 hL2 hF hp hz ⟨by omega, by omega⟩)
      have HF := Lib.hid (fun hf => hF.next s ((Utf8.decode s pos).1 : Int) hf hwd)
      have HR : Hid (Rd.run s (fuel + 1) pos σ = if (σ.take s pos (Utf8.decode s pos).1).f = 0 then Rd.run s fuel (pos + (Utf8.decode s pos).2) ((σ.take s pos (Utf8.decode s pos).1).pass (Utf8.decode s pos).1) else σ.take s pos (Utf8.decode s pos).1) := by
        show _ = _
        rw [Rd.run, if_pos hp]
      have Hpos := Lib.hid hpos0
      have Hlt : Hid (w1.heap.size + 1 < W1.heap.size) := (Array.getElem?_eq_some_iff.1 hit2).1
      have Hit2 := Lib.hid hit2
      have Hbw2 := Lib.hid hbw2
      have hl1 := hF.line1
      have hl0 := hF.line0
      have hc1 := hF.col1
      have hc0 := hF.col0
      have TL : Hid (∀ hf : (σ.take s pos (Utf8.decode s pos).1).f = 0, (σ.take s pos (Utf8.decode s pos).1).line = σ.line ∧ (σ.take s pos (Utf8.decode s pos).1).col = σ.col) := fun hf => ⟨(Near.take hF s _ hf).line, (Near.take hF s _ hf).col⟩
      clear hW1 hit hbw hL hL2 hit2 hbw2 hpos0 hf hF
      go_wp2_with fail
      refine T.out.mono ?_
      rintro e w2 ⟨rfl, h2, k2⟩
      have m15 : w2.cell? ⟨w1.heap.size, 15, none⟩ = some (.int .i64 (σ.take s pos (Utf8.decode s pos).1).f) := by obtain ⟨a, c, hb, _⟩ := h2; exact hb.cell 15
      have m13 : w2.cell? ⟨w1.heap.size, 13, none⟩ = some (.int .i64 (σ.take s pos (Utf8.decode s pos).1).bl) := by obtain ⟨a, c, hb, _⟩ := h2; exact hb.cell 13
      have m14 : w2.cell? ⟨w1.heap.size, 14, none⟩ = some (.int .i64 (σ.take s pos (Utf8.decode s pos).1).bc) := by obtain ⟨a, c, hb, _⟩ := h2; exact hb.cell 14
      have H2 := Lib.hid h2
      have K2 := Lib.hid k2
      clear h2 k2 T
      generalize σ.take s pos (Utf8.decode s pos).1 = τ at *
      by_cases hq : τ.f = 0
      · have q : (τ.f != 0) = false := by simp [hq]
        have HQ := Lib.hid hq
        have P := Lib.hid (pass_any w1.heap.size s τ ((Utf8.decode s pos).1 : Int) _ w2 H2.out ⟨by have := (TL.out hq).1; omega, by have := (TL.out hq).1; omega⟩ ⟨by have := (TL.out hq).2; omega, by have := (TL.out hq).2; omega⟩)
        clear hq m13 m14
        go_wp2_with fail
        refine P.out.mono ?_
        rintro e w3 ⟨rfl, h3, k3⟩
        have hit3 : w3.heap[w1.heap.size + 1]? = some (.stringIter s (pos + (Utf8.decode s pos).2)) := by
          rw [k3.block _ (by omega) (by omega), K2.out.block _ (by omega) (by omega)]
          exact Hit2.out
        have H3 := Lib.hid h3
        have Hit3 := Lib.hid hit3
        have Hbw3 : Hid (Below w.heap.size w w3) := Hbw2.out.trans ((K2.out.trans k3).below (by omega) (by omega))
        clear h3 k3 hit3 P
        go_wp2
        go_roundw
        case rel =>
          refine ⟨pos + (Utf8.decode s pos).2, fuel, τ.pass (Utf8.decode s pos).1, Hit3.out, H3.out, HF.out HQ.out, by rw [pass_f]; exact HQ.out, Hbw3.out, ?_, by omega, by omega⟩
          show _ = _
          rw [← HS.out, HR.out, if_pos HQ.out]
        case measure =>
          rw [iter_pos Hit3.out, Hpos.out]
          omega
      · have q : (τ.f != 0) = true := by simp [hq]
        have HQ := Lib.hid hq
        have HE : Hid (lastRd s = τ) := by show _ = _; rw [← HS.out, HR.out, if_neg hq]
        have HB : Hid (Below w.heap.size w w2) := Hbw2.out.trans (K2.out.below (by omega) (by omega))
        clear hq
        go_wp2_with fail
        go_quiet (fail)
        go_wp2
        refine bodyPost_ret (v := .tuple #[.slice none 0 0, .int .i64 τ.bl, .int .i64 τ.bc, .int .i64 τ.f]) (by simp [results, Tryz.results70, go_sem]) rfl ⟨.slice none 0 0, ?_, ?_, below_draws HB.out _⟩
        · rw [readLine, readCol, readErr, HE.out, if_neg HQ.out, if_neg HQ.out]
        · have e : readWords s = [] := by rw [readWords, HE.out, if_neg HQ.out]
          rw [e]
          exact World.ownsRow_nil _ _ _ _
    · have hnx : ∀ ty, (Instr.next (.pointer (some ⟨w1.heap.size + 1, 0, none⟩)) true ty).run Tryz.prog wr = _ := fun ty => Lib.run_next_end_at wr (w1.heap.size + 1) s pos ty hit hp
      have HE : Hid (lastRd s = σ) := by show _ = _; rw [← HS.out, Rd.run_end s fuel pos σ hp]
      have SH := Lib.hid (shut_any w1.heap.size s σ s.size _ wr hL (by have := hF.words; omega) hF.frm0 (by have := hF.frm1; omega) (Nat.le_refl _))
      have m10 : wr.cell? ⟨w1.heap.size, 10, none⟩ = some (.string s) := by obtain ⟨a, c, hb, _⟩ := hL; exact hb.cell 10
      have Hbw := Lib.hid hbw
      have HQ := Lib.hid hf
      clear hit hL hF hf hbw HS hpos0
      go_wp2_with fail
      refine SH.out.mono ?_
      rintro e w2 ⟨rfl, h2, k2⟩
      have HB : Hid (Below w.heap.size w w2) := Hbw.out.trans (k2.below (by omega) (by omega))
      obtain ⟨a, c, hb, ho, hg, hs⟩ := h2
      have m11 : w2.cell? ⟨w1.heap.size, 11, none⟩ = some (.slice a (σ.shut s s.size).ws.length c) := hb.cell 11
      have HO := Lib.hid (own_base ho (base' := w.heap.size) (by omega))
      clear hb ho hg hs k2 SH
      have HW : Hid (readWords s = (σ.shut s s.size).ws) := by show _ = _; rw [readWords, HE.out, if_pos HQ.out]
      generalize σ.shut s s.size = τ at *
      go_wp2
      refine bodyPost_ret (v := .tuple #[.slice a τ.ws.length c, .int .i64 0, .int .i64 0, .int .i64 0]) (by simp [results, Tryz.results70, go_sem]) rfl ⟨.slice a τ.ws.length c, ?_, ?_, HB.out⟩
      · rw [readLine, readCol, readErr, HE.out, if_pos HQ.out, if_pos HQ.out, HQ.out]
      · rw [HW.out]
        exact HO.out
end Go.Proofs.YtkfplffcegbdfaaGreatDoor
namespace Go.Proofs.YtkfplffcegbdfaaGreatDoor
open Go.RowKit
theorem flat_at (xs : List Wd) (k j : Nat) (hj : j < 5) : (xs.flatMap flatW)[k * 5 + j]? = (xs[k]?).bind (fun x => (flatW x)[j]?) := by
  induction xs generalizing k with
  | nil => simp
  | cons x xs ih =>
    cases k with
    | zero =>
      simp only [List.flatMap_cons, Nat.zero_mul, Nat.zero_add, List.getElem?_cons_zero, Option.bind_some]
      rw [List.getElem?_append_left (by simp [flatW]; omega)]
    | succ k =>
      have e : (k + 1) * 5 + j = (flatW x).length + (k * 5 + j) := by simp [flatW]; omega
      rw [List.flatMap_cons, e, List.getElem?_append_right (by omega), Nat.add_sub_cancel_left, ih k]
      simp
/-- A word's cells in a row that is owned. -/
theorem own_word {w : World} {B e g n cap : Nat} {xs : List Wd} (h : w.ownsRow B e 5 (.slice (some ⟨g, 0, none⟩) n cap) n (xs.flatMap flatW)) {k : Nat} {x : Wd} (hk : xs[k]? = some x) :
    w.cell? ⟨g, k * 5, none⟩ = some (.int .i64 x.k) ∧ w.cell? ⟨g, k * 5 + 1, none⟩ = some (.string x.t) ∧ w.cell? ⟨g, k * 5 + 2, none⟩ = some (.int .i64 x.n) ∧ w.cell? ⟨g, k * 5 + 3, none⟩ = some (.int .i64 x.l) ∧ w.cell? ⟨g, k * 5 + 4, none⟩ = some (.int .i64 x.c) := by
  have hc := fun j u hu => h.cells (g := g) rfl j u hu
  have ha : ∀ j, (⟨g, 0, none⟩ : Addr).add j = ⟨g, j, none⟩ := fun j => by unfold Addr.add; split <;> simp_all
  have f := fun j hj => flat_at xs k j hj
  simp only [hk, Option.bind_some] at f
  refine ⟨?_, ?_, ?_, ?_, ?_⟩
  · have := hc (k * 5) _ (f 0 (by omega)); rw [ha] at this; exact this
  · have := hc (k * 5 + 1) _ (f 1 (by omega)); rw [ha] at this; exact this
  · have := hc (k * 5 + 2) _ (f 2 (by omega)); rw [ha] at this; exact this
  · have := hc (k * 5 + 3) _ (f 3 (by omega)); rw [ha] at this; exact this
  · have := hc (k * 5 + 4) _ (f 4 (by omega)); rw [ha] at this; exact this
def ex1 : ByteArray := ⟨#[120, 49, 32, 61, 32, 45, 53, 32, 59, 32, 102, 105, 118, 101]⟩
def ex2 : ByteArray := ⟨#[97, 98, 226, 134, 146, 99]⟩
/-- The chapter's examples. -/
theorem ex1_reads : readErr ex1 = 0 ∧ (readWords ex1).map (fun x => (x.k, x.n)) = [(1, 0), (3, 0), (2, -5)] := by decide +kernel
theorem ex2_reads : readErr ex2 = 0 ∧ (readWords ex2).map (fun x => x.c) = [1, 3, 4] := by decide +kernel
theorem ex1_words : ∃ x0 x1 x2, readWords ex1 = [x0, x1, x2] ∧ x2.k = 2 ∧ x2.n = -5 := by
  have h := ex1_reads.2
  rcases hw : readWords ex1 with _ | ⟨x0, _ | ⟨x1, _ | ⟨x2, _ | ⟨x3, t⟩⟩⟩⟩ <;> rw [hw] at h <;> simp at h
  exact ⟨x0, x1, x2, rfl, h.2.2.1, h.2.2.2⟩
theorem ex2_words : ∃ x0 x1 x2, readWords ex2 = [x0, x1, x2] ∧ x1.c = 3 ∧ x2.c = 4 := by
  have h := ex2_reads.2
  rcases hw : readWords ex2 with _ | ⟨x0, _ | ⟨x1, _ | ⟨x2, _ | ⟨x3, t⟩⟩⟩⟩ <;> rw [hw] at h <;> simp at h
  exact ⟨x0, x1, x2, rfl, h.2.1, h.2.2⟩
theorem read_ex1 (w : World) : Calls Tryz.prog 70 #[.string ex1] w fun e w' => ∃ (g cap : Nat) (l c : Int), e = .returned (.tuple #[.slice (some ⟨g, 0, none⟩) 3 cap, .int .i64 l, .int .i64 c, .int .i64 0]) ∧
    w'.cell? ⟨g, 10, none⟩ = some (.int .i64 2) ∧ w'.cell? ⟨g, 12, none⟩ = some (.int .i64 (-5)) ∧ Below w.heap.size w w' ∧ g < w'.heap.size := by
  obtain ⟨x0, x1, x2, hx, hk, hn⟩ := ex1_words
  refine (read_any ex1 w (by decide)).mono ?_
  rintro e w' ⟨v, rfl, ho, hb⟩
  rw [hx] at ho
  obtain ⟨g, cap, rfl, _, hg⟩ := ho.form (by simp)
  have hc := own_word (k := 2) (x := x2) ho rfl
  rw [hk, hn] at hc
  exact ⟨g, cap, _, _, by rw [ex1_reads.1]; rfl, hc.1, hc.2.2.1, hb, hg⟩
theorem read_ex2 (w : World) : Calls Tryz.prog 70 #[.string ex2] w fun e w' => ∃ (g cap : Nat) (l c : Int), e = .returned (.tuple #[.slice (some ⟨g, 0, none⟩) 3 cap, .int .i64 l, .int .i64 c, .int .i64 0]) ∧
    w'.cell? ⟨g, 9, none⟩ = some (.int .i64 3) ∧ w'.cell? ⟨g, 14, none⟩ = some (.int .i64 4) ∧ Below w.heap.size w w' := by
  obtain ⟨x0, x1, x2, hx, hk, hn⟩ := ex2_words
  refine (read_any ex2 w (by decide)).mono ?_
  rintro e w' ⟨v, rfl, ho, hb⟩
  rw [hx] at ho
  obtain ⟨g, cap, rfl, _, hg⟩ := ho.form (by simp)
  have hc := own_word (k := 1) (x := x1) ho rfl
  have hd := own_word (k := 2) (x := x2) ho rfl
  rw [hk] at hc
  rw [hn] at hd
  exact ⟨g, cap, _, _, by rw [ex2_reads.1]; rfl, hc.2.2.2.2, hd.2.2.2.2, hb⟩
end Go.Proofs.YtkfplffcegbdfaaGreatDoor
namespace Go.Proofs.YtkfplffcegbdfaaGreatDoor
/-- The document's rune at a place, and its width; 0, 0: there is none. -/
def atP (s : ByteArray) (i : Nat) : Nat × Nat :=
  if i < s.size then (if (Utf8.decode s i).1 = 65533 ∧ (Utf8.decode s i).2 = 1 then (0, 0) else Utf8.decode s i) else (0, 0)
/-- A rune's value behind so many bytes more. -/
def accR (s : ByteArray) (i : Nat) (r0 : Int) : Nat → Int
  | 0 => r0
  | j + 1 => 64 * accR s i r0 j + ((s.get! (i + (j + 1))).toNat : Int) - 128
end Go.Proofs.YtkfplffcegbdfaaGreatDoor
