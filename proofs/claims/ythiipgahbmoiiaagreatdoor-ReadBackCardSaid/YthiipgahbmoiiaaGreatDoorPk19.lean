/-
  Read of package word, of a text of at most 300000 bytes, answers what the plain functions say and turns nothing that was there. No condition beyond those that each theorem states.
  A word's cells in a row that is owned; the chapter's two examples are read as it says. No condition beyond those that each theorem states.
  The document's rune at a place, as a plain function. No condition beyond those that each theorem states.
  What the document's rune at a place is, by the text's bytes. No condition beyond those that each theorem states.
  Plain functions for the document's runs of letters and digits, and for a number's value. No condition beyond those that each theorem states.
-/
import Derived.Test.YthiipgahbmoiiaaGreatDoorPk18
import Derived.Lib.OthersKept
import Derived.Test.YthiipgahbmoiiaaGreatDoorPk10
namespace Go.Proofs.YthiipgahbmoiiaaGreatDoor
open Go.RowKit

theorem clone_any (s : ByteArray) (w : World) (hz : s.size ≤ 300000) : Calls Tryz.prog 115 #[.string s] w fun e w' => e = .returned (.string s) ∧ Below w.heap.size w w' := by
  go_enter Tryz.func115, Tryz.ntmps115
  go_wp2_with fail
  refine (Tryz.stringslite_Clone s _ (by omega)).mono ?_
  rintro e w1 ⟨rfl, hb1⟩
  have B := Lib.hid hb1
  clear hb1
  go_wp2
  go_ret
  exact ⟨rfl, B.out⟩

theorem Lies.iterAt {w : World} {b g : Nat} {s : ByteArray} {σ : Rd} (h : Lies w b g s σ) {k : Nat} (hk : k < b) (hkg : g ≠ k) (t : ByteArray) (p : Nat) : Lies (w.iterAt k t p) b g s σ := by
  obtain ⟨a, c, hb, ho, hg, hs⟩ := h
  refine ⟨a, c, ?_, own_keep ho ⟨by rw [Lib.iterAt_size]; exact Nat.le_refl _, fun j hj _ => Lib.iterAt_other _ _ _ _ _ (by omega)⟩, hg, by rw [Lib.iterAt_size]; exact hs⟩
  unfold Blk
  rw [Lib.iterAt_other _ _ _ _ _ hkg]
  exact hb

set_option maxHeartbeats 2000000 in
set_option maxRecDepth 1000000 in
theorem read_any (s : ByteArray) (w : World) (hz : s.size ≤ 300000) :
    Calls Tryz.prog 74 #[.string s] w fun e w' => ∃ v, e = .returned (.tuple #[v, .int .i64 (readLine s), .int .i64 (readCol s), .int .i64 (readErr s)]) ∧
      w'.ownsRow w.heap.size 158 5 v (readWords s).length ((readWords s).flatMap flatW) ∧ Below w.heap.size w w' := by
  go_enter Tryz.func74, Tryz.ntmps74
  go_wp2_with (go_at_call 115; refine (clone_any s _ hz).mono ?_; rintro e w1 ⟨rfl, hb1⟩; have B := Lib.hid hb1; clear hb1)
  have hsz1 : w.heap.size ≤ w1.heap.size := B.out.size
  go_loopw [] (fun wr => ∃ (pos fuel : Nat) (σ : Rd), wr.heap[w1.heap.size + 1]? = some (.stringIter s pos) ∧ Lies wr (w1.heap.size + 2) w1.heap.size s σ ∧ Fine σ pos ∧ σ.f = 0 ∧ Below w.heap.size w wr ∧
      Hid (Rd.run s fuel pos σ = lastRd s) ∧ s.size ≤ pos + fuel ∧ pos ≤ s.size) (fun wr => s.size - wr.iterPos (w1.heap.size + 1))
  case atStart =>
    have h0 : ((w1.alloc (.cells (cellsR s startRd (.slice none 0 0)) 162)).iter s 0).heap[w1.heap.size + 1]? = some (.stringIter s 0) := by
      have := World.iter_heap (w1.alloc (.cells (cellsR s startRd (.slice none 0 0)) 162)) s 0
      simpa using this
    have h1 : Blk ((w1.alloc (.cells (cellsR s startRd (.slice none 0 0)) 162)).iter s 0) w1.heap.size 162 (cellsR s startRd (.slice none 0 0)) := (Blk.new w1 162 (cellsR s startRd (.slice none 0 0))).alloc _
    exact ⟨0, s.size, startRd, h0, ⟨none, 0, h1, World.ownsRow_nil _ _ _ _, by omega, by simp [World.iter]⟩, Fine.start, rfl, (B.out.alloc hsz1 _).alloc (by simp; omega) _, rfl, by omega, by omega⟩
  case round =>
    obtain ⟨pos, fuel, σ, hit, hL, hF, hf, hbw, HS, hfu, hps⟩ := hrel
    have hpos0 := iter_pos hit
    by_cases hp : pos < s.size
    · have hnx : ∀ ty, (Instr.next (.pointer (some ⟨w1.heap.size + 1, 0, none⟩)) true ty).run Tryz.prog wr = _ := fun ty => Lib.run_next_any_at wr (w1.heap.size + 1) s pos ty hit hp
      have hwd := wide_pos s pos hp
      have hrm := rune_max s pos
      have hwl := wide_le s pos hp
      obtain ⟨fuel, rfl⟩ : ∃ f', fuel = f' + 1 := ⟨fuel - 1, by omega⟩
      have hit2 := Lib.iterAt_heap wr (w1.heap.size + 1) s pos (pos + (Utf8.decode s pos).2) hit
      have hbw2 := Lib.below_iterAt hbw (k := w1.heap.size + 1) (by omega) s (pos + (Utf8.decode s pos).2)
      have hL2 := hL.iterAt (k := w1.heap.size + 1) (by omega) (by omega) s (pos + (Utf8.decode s pos).2)
      obtain ⟨W1, hW1⟩ : ∃ W1, W1 = wr.iterAt (w1.heap.size + 1) s (pos + (Utf8.decode s pos).2) := ⟨_, rfl⟩
      rw [← hW1] at hnx hit2 hbw2 hL2
      have T := Lib.hid (take_any w1.heap.size s σ pos ((Utf8.decode s pos).1 : Int) _ W1 hL2 hF hp hz ⟨by omega, by omega⟩)
      have HF := Lib.hid (fun hf => hF.next s ((Utf8.decode s pos).1 : Int) hf hwd)
      have HR : Hid (Rd.run s (fuel + 1) pos σ = if (σ.take s pos (Utf8.decode s pos).1).f = 0 then Rd.run s fuel (pos + (Utf8.decode s pos).2) ((σ.take s pos (Utf8.decode s pos).1).pass (Utf8.decode s pos).1) else σ.take s pos (Utf8.decode s pos).1) := by
        show _ = _
        rw [Rd.run, if_pos hp]
      have Hpos := Lib.hid hpos0
      have Hlt : Hid (w1.heap.size + 1 < W1.heap.size) := (Array.getElem?_eq_some_iff.1 hit2).1
      have Hit2 := Lib.hid hit2
      have Hbw2 := Lib.hid hbw2
      have hl1 := hF.line1
      have hl0 := hF.line0
      have hc1 := hF.col1
      have hc0 := hF.col0
      have TL : Hid (∀ hf : (σ.take s pos (Utf8.decode s pos).1).f = 0, (σ.take s pos (Utf8.decode s pos).1).line = σ.line ∧ (σ.take s pos (Utf8.decode s pos).1).col = σ.col) := fun hf => ⟨(Near.take hF s _ hf).line, (Near.take hF s _ hf).col⟩
      clear hW1 hit hbw hL hL2 hit2 hbw2 hpos0 hf hF
      go_wp2_with fail
      refine T.out.mono ?_
      rintro e w2 ⟨rfl, h2, k2⟩
      have m15 : w2.cell? ⟨w1.heap.size, 15, none⟩ = some (.int .i64 (σ.take s pos (Utf8.decode s pos).1).f) := by obtain ⟨a, c, hb, _⟩ := h2; exact hb.cell 15
      have m13 : w2.cell? ⟨w1.heap.size, 13, none⟩ = some (.int .i64 (σ.take s pos (Utf8.decode s pos).1).bl) := by obtain ⟨a, c, hb, _⟩ := h2; exact hb.cell 13
      have m14 : w2.cell? ⟨w1.heap.size, 14, none⟩ = some (.int .i64 (σ.take s pos (Utf8.decode s pos).1).bc) := by obtain ⟨a, c, hb, _⟩ := h2; exact hb.cell 14
      have H2 := Lib.hid h2
      have K2 := Lib.hid k2
      clear h2 k2 T
      generalize σ.take s pos (Utf8.decode s pos).1 = τ at *
      by_cases hq : τ.f = 0
      · have q : (τ.f != 0) = false := by simp [hq]
        have HQ := Lib.hid hq
        have P := Lib.hid (pass_any w1.heap.size s τ ((Utf8.decode s pos).1 : Int) _ w2 H2.out ⟨by have := (TL.out hq).1; omega, by have := (TL.out hq).1; omega⟩ ⟨by have := (TL.out hq).2; omega, by have := (TL.out hq).2; omega⟩)
        clear hq m13 m14
        go_wp2_with fail
        refine P.out.mono ?_
        rintro e w3 ⟨rfl, h3, k3⟩
        have hit3 : w3.heap[w1.heap.size + 1]? = some (.stringIter s (pos + (Utf8.decode s pos).2)) := by
          rw [k3.block _ (by omega) (by omega), K2.out.block _ (by omega) (by omega)]
          exact Hit2.out
        have H3 := Lib.hid h3
        have Hit3 := Lib.hid hit3
        have Hbw3 : Hid (Below w.heap.size w w3) := Hbw2.out.trans ((K2.out.trans k3).below (by omega) (by omega))
        clear h3 k3 hit3 P
        go_wp2
        go_roundw
        case rel =>
          refine ⟨pos + (Utf8.decode s pos).2, fuel, τ.pass (Utf8.decode s pos).1, Hit3.out, H3.out, HF.out HQ.out, by rw [pass_f]; exact HQ.out, Hbw3.out, ?_, by omega, by omega⟩
          show _ = _
          rw [← HS.out, HR.out, if_pos HQ.out]
        case measure =>
          rw [iter_pos Hit3.out, Hpos.out]
          omega
      · have q : (τ.f != 0) = true := by simp [hq]
        have HQ := Lib.hid hq
        have HE : Hid (lastRd s = τ) := by show _ = _; rw [← HS.out, HR.out, if_neg hq]
        have HB : Hid (Below w.heap.size w w2) := Hbw2.out.trans (K2.out.below (by omega) (by omega))
        clear hq
        go_wp2_with fail
        go_quiet (fail)
        go_wp2
        refine bodyPost_ret (v := .tuple #[.slice none 0 0, .int .i64 τ.bl, .int .i64 τ.bc, .int .i64 τ.f]) (by simp [results, Tryz.results74, go_sem]) rfl ⟨.slice none 0 0, ?_, ?_, below_draws HB.out _⟩
        · rw [readLine, readCol, readErr, HE.out, if_neg HQ.out, if_neg HQ.out]
        · have e : readWords s = [] := by rw [readWords, HE.out, if_neg HQ.out]
          rw [e]
          exact World.ownsRow_nil _ _ _ _
    · have hnx : ∀ ty, (Instr.next (.pointer (some ⟨w1.heap.size + 1, 0, none⟩)) true ty).run Tryz.prog wr = _ := fun ty => Lib.run_next_end_at wr (w1.heap.size + 1) s pos ty hit hp
      have HE : Hid (lastRd s = σ) := by show _ = _; rw [← HS.out, Rd.run_end s fuel pos σ hp]
      have SH := Lib.hid (shut_any w1.heap.size s σ s.size _ wr hL (by have := hF.words; omega) hF.frm0 (by have := hF.frm1; omega) (Nat.le_refl _))
      have m10 : wr.cell? ⟨w1.heap.size, 10, none⟩ = some (.string s) := by obtain ⟨a, c, hb, _⟩ := hL; exact hb.cell 10
      have Hbw := Lib.hid hbw
      have HQ := Lib.hid hf
      clear hit hL hF hf hbw HS hpos0
      go_wp2_with fail
      refine SH.out.mono ?_
      rintro e w2 ⟨rfl, h2, k2⟩
      have HB : Hid (Below w.heap.size w w2) := Hbw.out.trans (k2.below (by omega) (by omega))
      obtain ⟨a, c, hb, ho, hg, hs⟩ := h2
      have m11 : w2.cell? ⟨w1.heap.size, 11, none⟩ = some (.slice a (σ.shut s s.size).ws.length c) := hb.cell 11
      have HO := Lib.hid (own_base ho (base' := w.heap.size) (by omega))
      clear hb ho hg hs k2 SH
      have HW : Hid (readWords s = (σ.shut s s.size).ws) := by show _ = _; rw [readWords, HE.out, if_pos HQ.out]
      generalize σ.shut s s.size = τ at *
      go_wp2
      refine bodyPost_ret (v := .tuple #[.slice a τ.ws.length c, .int .i64 0, .int .i64 0, .int .i64 0]) (by simp [results, Tryz.results74, go_sem]) rfl ⟨.slice a τ.ws.length c, ?_, ?_, HB.out⟩
      · rw [readLine, readCol, readErr, HE.out, if_pos HQ.out, if_pos HQ.out, HQ.out]
      · rw [HW.out]
        exact HO.out
end Go.Proofs.YthiipgahbmoiiaaGreatDoor
namespace Go.Proofs.YthiipgahbmoiiaaGreatDoor
open Go.RowKit
theorem flat_at (xs : List Wd) (k j : Nat) (hj : j < 5) : (xs.flatMap flatW)[k * 5 + j]? = (xs[k]?).bind (fun x => (flatW x)[j]?) := by
  induction xs generalizing k with
  | nil => simp
  | cons x xs ih =>
    cases k with
    | zero =>
      simp only [List.flatMap_cons, Nat.zero_mul, Nat.zero_add, List.getElem?_cons_zero, Option.bind_some]
      rw [List.getElem?_append_left (by simp [flatW]; omega)]
    | succ k =>
      have e : (k + 1) * 5 + j = (flatW x).length + (k * 5 + j) := by simp [flatW]; omega
      rw [List.flatMap_cons, e, List.getElem?_append_right (by omega), Nat.add_sub_cancel_left, ih k]
      simp
/-- A word's cells in a row that is owned. -/
theorem own_word {w : World} {B e g n cap : Nat} {xs : List Wd} (h : w.ownsRow B e 5 (.slice (some ⟨g, 0, none⟩) n cap) n (xs.flatMap flatW)) {k : Nat} {x : Wd} (hk : xs[k]? = some x) :
    w.cell? ⟨g, k * 5, none⟩ = some (.int .i64 x.k) ∧ w.cell? ⟨g, k * 5 + 1, none⟩ = some (.string x.t) ∧ w.cell? ⟨g, k * 5 + 2, none⟩ = some (.int .i64 x.n) ∧ w.cell? ⟨g, k * 5 + 3, none⟩ = some (.int .i64 x.l) ∧ w.cell? ⟨g, k * 5 + 4, none⟩ = some (.int .i64 x.c) := by
  have hc := fun j u hu => h.cells (g := g) rfl j u hu
  have ha : ∀ j, (⟨g, 0, none⟩ : Addr).add j = ⟨g, j, none⟩ := fun j => by unfold Addr.add; split <;> simp_all
  have f := fun j hj => flat_at xs k j hj
  simp only [hk, Option.bind_some] at f
  refine ⟨?_, ?_, ?_, ?_, ?_⟩
  · have := hc (k * 5) _ (f 0 (by omega)); rw [ha] at this; exact this
  · have := hc (k * 5 + 1) _ (f 1 (by omega)); rw [ha] at this; exact this
  · have := hc (k * 5 + 2) _ (f 2 (by omega)); rw [ha] at this; exact this
  · have := hc (k * 5 + 3) _ (f 3 (by omega)); rw [ha] at this; exact this
  · have := hc (k * 5 + 4) _ (f 4 (by omega)); rw [ha] at this; exact this
def ex1 : ByteArray := ⟨#[120, 49, 32, 61, 32, 45, 53, 32, 59, 32, 102, 105, 118, 101]⟩
def ex2 : ByteArray := ⟨#[97, 98, 226, 134, 146, 99]⟩
/-- The chapter's examples. -/
theorem ex1_reads : readErr ex1 = 0 ∧ (readWords ex1).map (fun x => (x.k, x.n)) = [(1, 0), (3, 0), (2, -5)] := by decide +kernel
theorem ex2_reads : readErr ex2 = 0 ∧ (readWords ex2).map (fun x => x.c) = [1, 3, 4] := by decide +kernel
theorem ex1_words : ∃ x0 x1 x2, readWords ex1 = [x0, x1, x2] ∧ x2.k = 2 ∧ x2.n = -5 := by
  have h := ex1_reads.2
  rcases hw : readWords ex1 with _ | ⟨x0, _ | ⟨x1, _ | ⟨x2, _ | ⟨x3, t⟩⟩⟩⟩ <;> rw [hw] at h <;> simp at h
  exact ⟨x0, x1, x2, rfl, h.2.2.1, h.2.2.2⟩
theorem ex2_words : ∃ x0 x1 x2, readWords ex2 = [x0, x1, x2] ∧ x1.c = 3 ∧ x2.c = 4 := by
  have h := ex2_reads.2
  rcases hw : readWords ex2 with _ | ⟨x0, _ | ⟨x1, _ | ⟨x2, _ | ⟨x3, t⟩⟩⟩⟩ <;> rw [hw] at h <;> simp at h
  exact ⟨x0, x1, x2, rfl, h.2.1, h.2.2⟩
theorem read_ex1 (w : World) : Calls Tryz.prog 74 #[.string ex1] w fun e w' => ∃ (g cap : Nat) (l c : Int), e = .returned (.tuple #[.slice (some ⟨g, 0, none⟩) 3 cap, .int .i64 l, .int .i64 c, .int .i64 0]) ∧
    w'.cell? ⟨g, 10, none⟩ = some (.int .i64 2) ∧ w'.cell? ⟨g, 12, none⟩ = some (.int .i64 (-5)) ∧ Below w.heap.size w w' ∧ g < w'.heap.size := by
  obtain ⟨x0, x1, x2, hx, hk, hn⟩ := ex1_words
  refine (read_any ex1 w (by decide)).mono ?_
  rintro e w' ⟨v, rfl, ho, hb⟩
  rw [hx] at ho
  obtain ⟨g, cap, rfl, _, hg⟩ := ho.form (by simp)
  have hc := own_word (k := 2) (x := x2) ho rfl
  rw [hk, hn] at hc
  exact ⟨g, cap, _, _, by rw [ex1_reads.1]; rfl, hc.1, hc.2.2.1, hb, hg⟩
theorem read_ex2 (w : World) : Calls Tryz.prog 74 #[.string ex2] w fun e w' => ∃ (g cap : Nat) (l c : Int), e = .returned (.tuple #[.slice (some ⟨g, 0, none⟩) 3 cap, .int .i64 l, .int .i64 c, .int .i64 0]) ∧
    w'.cell? ⟨g, 9, none⟩ = some (.int .i64 3) ∧ w'.cell? ⟨g, 14, none⟩ = some (.int .i64 4) ∧ Below w.heap.size w w' := by
  obtain ⟨x0, x1, x2, hx, hk, hn⟩ := ex2_words
  refine (read_any ex2 w (by decide)).mono ?_
  rintro e w' ⟨v, rfl, ho, hb⟩
  rw [hx] at ho
  obtain ⟨g, cap, rfl, _, hg⟩ := ho.form (by simp)
  have hc := own_word (k := 1) (x := x1) ho rfl
  have hd := own_word (k := 2) (x := x2) ho rfl
  rw [hk] at hc
  rw [hn] at hd
  exact ⟨g, cap, _, _, by rw [ex2_reads.1]; rfl, hc.2.2.2.2, hd.2.2.2.2, hb⟩
end Go.Proofs.YthiipgahbmoiiaaGreatDoor
namespace Go.Proofs.YthiipgahbmoiiaaGreatDoor
/-- The document's rune at a place, and its width; 0, 0: there is none. -/
def atP (s : ByteArray) (i : Nat) : Nat × Nat :=
  if i < s.size then (if (Utf8.decode s i).1 = 65533 ∧ (Utf8.decode s i).2 = 1 then (0, 0) else Utf8.decode s i) else (0, 0)
/-- A rune's value behind so many bytes more. -/
def accR (s : ByteArray) (i : Nat) (r0 : Int) : Nat → Int
  | 0 => r0
  | j + 1 => 64 * accR s i r0 j + ((s.get! (i + (j + 1))).toNat : Int) - 128
end Go.Proofs.YthiipgahbmoiiaaGreatDoor
namespace Go.Proofs.YthiipgahbmoiiaaGreatDoor
/-- A byte that goes on. -/
def contB (s : ByteArray) (k : Nat) : Prop := 128 ≤ (s.get! k).toNat ∧ (s.get! k).toNat ≤ 191
instance (s : ByteArray) (k : Nat) : Decidable (contB s k) := by unfold contB; exact inferInstance
/-- What a run of bytes tells. -/
def okB (least r : Int) : Prop := least ≤ r ∧ r ≤ 1114111 ∧ ¬ (55296 ≤ r ∧ r ≤ 57343)
instance (least r : Int) : Decidable (okB least r) := by unfold okB; exact inferInstance
theorem accR_one (s : ByteArray) (i : Nat) (r0 : Int) : accR s i r0 1 = 64 * r0 + ((s.get! (i + 1)).toNat : Int) - 128 := rfl
theorem accR_two (s : ByteArray) (i : Nat) (r0 : Int) : accR s i r0 2 = 64 * (64 * r0 + ((s.get! (i + 1)).toNat : Int) - 128) + ((s.get! (i + 2)).toNat : Int) - 128 := rfl
theorem accR_three (s : ByteArray) (i : Nat) (r0 : Int) : accR s i r0 3 = 64 * (64 * (64 * r0 + ((s.get! (i + 1)).toNat : Int) - 128) + ((s.get! (i + 2)).toNat : Int) - 128) + ((s.get! (i + 3)).toNat : Int) - 128 := rfl
theorem atP_one (s : ByteArray) (i : Nat) (hi : i < s.size) (hb : (s.get! i).toNat < 128) : atP s i = ((s.get! i).toNat, 1) := by
  unfold atP
  rw [if_pos hi, Lib.decode_at]
  unfold Lib.decodeN
  rw [if_pos hb, if_neg (by omega)]
theorem atP_none (s : ByteArray) (i : Nat) (hb : 128 ≤ (s.get! i).toNat) (hb1 : (s.get! i).toNat < 192 ∨ 248 ≤ (s.get! i).toNat) : atP s i = (0, 0) := by
  unfold atP
  split
  · rw [Lib.decode_at]
    have : Lib.decodeN (s.size - i) (s.get! i).toNat (s.get! (i + 1)).toNat (s.get! (i + 2)).toNat (s.get! (i + 3)).toNat = (65533, 1) := by
      unfold Lib.decodeN
      rw [if_neg (by omega), if_neg (by omega), if_neg (by omega), if_neg (by omega)]
    rw [this, if_pos ⟨rfl, rfl⟩]
  · rfl
theorem pick_pair {c d e : Prop} [Decidable c] [Decidable d] [Decidable e] {x y : Nat × Nat} (hx : x ≠ (65533, 1)) (h : c ∧ d ↔ e) (hxy : c → d → x = y) :
    (if ((if c then (if d then x else (65533, 1)) else (65533, 1)).1 = 65533 ∧ (if c then (if d then x else (65533, 1)) else (65533, 1)).2 = 1) then ((0, 0) : Nat × Nat) else (if c then (if d then x else (65533, 1)) else (65533, 1))) = if e then y else (0, 0) := by
  by_cases hc : c
  · by_cases hd : d
    · have he := h.1 ⟨hc, hd⟩
      rw [if_pos hc, if_pos hd, if_pos he, if_neg (fun hh => hx (Prod.ext hh.1 hh.2))]
      exact hxy hc hd
    · have he : ¬ e := fun he => hd (h.2 he).2
      rw [if_pos hc, if_neg hd, if_neg he, if_pos ⟨rfl, rfl⟩]
  · have he : ¬ e := fun he => hc (h.2 he).1
    rw [if_neg hc, if_neg he, if_pos ⟨rfl, rfl⟩]
theorem atP_two (s : ByteArray) (i : Nat) (hb : 192 ≤ (s.get! i).toNat ∧ (s.get! i).toNat ≤ 223) :
    atP s i = if i + 2 ≤ s.size ∧ contB s (i + 1) ∧ okB 128 (accR s i ((s.get! i).toNat - 192) 1) then ((accR s i ((s.get! i).toNat - 192) 1).toNat, 2) else (0, 0) := by
  obtain ⟨hb0, hb1⟩ := hb
  have h1 := (s.get! (i + 1)).toNat_lt
  have h2 := (s.get! (i + 2)).toNat_lt
  have h3 := (s.get! (i + 3)).toNat_lt
  rw [accR_one]
  unfold atP
  rw [Lib.decode_at]
  unfold Lib.decodeN
  by_cases hi : i < s.size
  · rw [if_pos hi]
    rw [if_neg (show ¬ (s.get! i).toNat < 128 by omega)]
    rw [if_neg (show ¬ ((s.get! i).toNat / 16 = 14 ∧ _) by omega), if_neg (show ¬ ((s.get! i).toNat / 8 = 30 ∧ _) by omega)]
    exact pick_pair (by intro e; have := congrArg Prod.snd e; simp at this) (by unfold contB okB; generalize (s.get! i).toNat = b0 at *; generalize (s.get! (i + 1)).toNat = b1 at *; generalize (s.get! (i + 2)).toNat = b2 at *; generalize (s.get! (i + 3)).toNat = b3 at *; omega) (by generalize (s.get! i).toNat = b0 at *; generalize (s.get! (i + 1)).toNat = b1 at *; generalize (s.get! (i + 2)).toNat = b2 at *; generalize (s.get! (i + 3)).toNat = b3 at *; intro hc hd; apply Prod.ext <;> simp only; omega)
  · rw [if_neg hi, if_neg (by omega)]
theorem atP_three (s : ByteArray) (i : Nat) (hb : 224 ≤ (s.get! i).toNat ∧ (s.get! i).toNat ≤ 239) :
    atP s i = if i + 3 ≤ s.size ∧ contB s (i + 1) ∧ contB s (i + 2) ∧ okB 2048 (accR s i ((s.get! i).toNat - 224) 2) then ((accR s i ((s.get! i).toNat - 224) 2).toNat, 3) else (0, 0) := by
  obtain ⟨hb0, hb1⟩ := hb
  have h1 := (s.get! (i + 1)).toNat_lt
  have h2 := (s.get! (i + 2)).toNat_lt
  have h3 := (s.get! (i + 3)).toNat_lt
  rw [accR_two]
  unfold atP
  rw [Lib.decode_at]
  unfold Lib.decodeN
  by_cases hi : i < s.size
  · rw [if_pos hi]
    rw [if_neg (show ¬ (s.get! i).toNat < 128 by omega)]
    rw [if_neg (show ¬ ((s.get! i).toNat / 32 = 6 ∧ _) by omega)]
    rw [if_neg (show ¬ ((s.get! i).toNat / 8 = 30 ∧ _) by omega)]
    exact pick_pair (by intro e; have := congrArg Prod.snd e; simp at this) (by unfold contB okB; generalize (s.get! i).toNat = b0 at *; generalize (s.get! (i + 1)).toNat = b1 at *; generalize (s.get! (i + 2)).toNat = b2 at *; generalize (s.get! (i + 3)).toNat = b3 at *; omega) (by generalize (s.get! i).toNat = b0 at *; generalize (s.get! (i + 1)).toNat = b1 at *; generalize (s.get! (i + 2)).toNat = b2 at *; generalize (s.get! (i + 3)).toNat = b3 at *; intro hc hd; apply Prod.ext <;> simp only; omega)
  · rw [if_neg hi, if_neg (by omega)]
theorem atP_four (s : ByteArray) (i : Nat) (hb : 240 ≤ (s.get! i).toNat ∧ (s.get! i).toNat ≤ 247) :
    atP s i = if i + 4 ≤ s.size ∧ contB s (i + 1) ∧ contB s (i + 2) ∧ contB s (i + 3) ∧ okB 65536 (accR s i ((s.get! i).toNat - 240) 3) then ((accR s i ((s.get! i).toNat - 240) 3).toNat, 4) else (0, 0) := by
  obtain ⟨hb0, hb1⟩ := hb
  have h1 := (s.get! (i + 1)).toNat_lt
  have h2 := (s.get! (i + 2)).toNat_lt
  have h3 := (s.get! (i + 3)).toNat_lt
  rw [accR_three]
  unfold atP
  rw [Lib.decode_at]
  unfold Lib.decodeN
  by_cases hi : i < s.size
  · rw [if_pos hi]
    rw [if_neg (show ¬ (s.get! i).toNat < 128 by omega)]
    rw [if_neg (show ¬ ((s.get! i).toNat / 32 = 6 ∧ _) by omega), if_neg (show ¬ ((s.get! i).toNat / 16 = 14 ∧ _) by omega)]
    exact pick_pair (by intro e; have := congrArg Prod.snd e; simp at this) (by unfold contB okB; generalize (s.get! i).toNat = b0 at *; generalize (s.get! (i + 1)).toNat = b1 at *; generalize (s.get! (i + 2)).toNat = b2 at *; generalize (s.get! (i + 3)).toNat = b3 at *; omega) (by generalize (s.get! i).toNat = b0 at *; generalize (s.get! (i + 1)).toNat = b1 at *; generalize (s.get! (i + 2)).toNat = b2 at *; generalize (s.get! (i + 3)).toNat = b3 at *; intro hc hd; apply Prod.ext <;> simp only; omega)
  · rw [if_neg hi, if_neg (by omega)]
end Go.Proofs.YthiipgahbmoiiaaGreatDoor
namespace Go.Proofs.YthiipgahbmoiiaaGreatDoor
/-- Whether a run ends at a rune. -/
def stopB (dg : Bool) (r : Int) : Bool := !digitB r && (dg || !letterB r)
/-- Where a run ends, and how many runes it has. -/
def runEnd (s : ByteArray) (dg : Bool) : Nat → Nat → Nat → Nat × Nat
  | 0, i, n => (i, n)
  | f + 1, i, n =>
    if i < s.size then (if (atP s i).2 = 0 ∨ stopB dg (atP s i).1 = true then (i, n) else runEnd s dg f (i + (atP s i).2) (n + 1)) else (i, n)
def runTo (s : ByteArray) (dg : Bool) (i : Nat) : Nat × Nat := runEnd s dg s.size i 0
theorem runEnd_stop (s : ByteArray) (dg : Bool) (f i n : Nat) (h : i < s.size → (atP s i).2 = 0 ∨ stopB dg (atP s i).1 = true) : runEnd s dg f i n = (i, n) := by
  cases f with
  | zero => rfl
  | succ f =>
    rw [runEnd]
    split
    · rw [if_pos (h ‹_›)]
    · rfl
theorem atP_le (s : ByteArray) (i : Nat) (hi : i < s.size) : i + (atP s i).2 ≤ s.size := by
  unfold atP
  rw [if_pos hi]
  split
  · simp only; omega
  · rw [Lib.decode_at]
    generalize (s.get! i).toNat = b0 at *
    generalize (s.get! (i + 1)).toNat = b1 at *
    generalize (s.get! (i + 2)).toNat = b2 at *
    generalize (s.get! (i + 3)).toNat = b3 at *
    unfold Lib.decodeN
    repeat' split
    all_goals simp only
    all_goals omega
theorem runEnd_le (s : ByteArray) (dg : Bool) : ∀ (f i n : Nat), i ≤ s.size → i ≤ (runEnd s dg f i n).1 ∧ (runEnd s dg f i n).1 ≤ s.size ∧ n ≤ (runEnd s dg f i n).2 ∧ (runEnd s dg f i n).2 + i ≤ n + (runEnd s dg f i n).1 := by
  intro f
  induction f with
  | zero => intro i n hi; exact ⟨Nat.le_refl _, hi, Nat.le_refl _, by show n + i ≤ n + i; exact Nat.le_refl _⟩
  | succ f ih =>
    intro i n hi
    rw [runEnd]
    split
    · split
      · exact ⟨Nat.le_refl _, hi, Nat.le_refl _, by simp only; omega⟩
      · rename_i h1 h2
        have := ih (i + (atP s i).2) (n + 1) (atP_le s i h1)
        omega
    · exact ⟨Nat.le_refl _, hi, Nat.le_refl _, by simp only; omega⟩
theorem runTo_le (s : ByteArray) (dg : Bool) (i : Nat) (hi : i ≤ s.size) : i ≤ (runTo s dg i).1 ∧ (runTo s dg i).1 ≤ s.size ∧ (runTo s dg i).2 + i ≤ (runTo s dg i).1 := by
  have := runEnd_le s dg s.size i 0 hi
  unfold runTo
  omega
/-- Where a number's digits begin that begins at a place. -/
def headOf (s : ByteArray) (i : Nat) : Nat := if (s.get! i).toNat = 45 then i + 1 else i
/-- How many bytes a number has that begins at a place. -/
def numLen (s : ByteArray) (i : Nat) : Nat := if (runTo s true (headOf s i)).1 - headOf s i = 0 then 0 else (headOf s i - i) + ((runTo s true (headOf s i)).1 - headOf s i)
/-- The value of so many bytes, without the minus. -/
def valT (t : ByteArray) : Nat → Int
  | 0 => 0
  | k + 1 => if (t.get! k).toNat = 45 then valT t k else 10 * valT t k + ((t.get! k).toNat - 48)
/-- Digits, and perhaps a minus. -/
def Digs (t : ByteArray) : Prop := ∀ k, k < t.size → (t.get! k).toNat = 45 ∨ 48 ≤ (t.get! k).toNat ∧ (t.get! k).toNat ≤ 57
theorem valT_mono {t : ByteArray} (h : Digs t) (k : Nat) (hk : k < t.size) (h0 : 0 ≤ valT t k) : valT t k ≤ valT t (k + 1) := by
  rw [valT]
  have := h k hk
  split <;> omega
theorem valT_pos {t : ByteArray} (h : Digs t) : ∀ k, k ≤ t.size → 0 ≤ valT t k := by
  intro k
  induction k with
  | zero => intro _; exact Int.le_refl _
  | succ k ih =>
    intro hk
    have h1 := ih (by omega)
    have h2 := valT_mono h k (by omega) h1
    omega
theorem valT_le {t : ByteArray} (h : Digs t) : ∀ n k, k + n ≤ t.size → valT t k ≤ valT t (k + n) := by
  intro n
  induction n with
  | zero => intro k _; exact Int.le_refl _
  | succ n ih =>
    intro k hk
    have h1 := ih k (by omega)
    have h2 := valT_mono h (k + n) (by omega) (valT_pos h _ (by omega))
    have e : k + (n + 1) = k + n + 1 := by omega
    rw [e]
    omega
def valOk (t : ByteArray) : Bool := decide (valT t t.size ≤ 1099511627776)
def valN (t : ByteArray) : Int := if valOk t = true then (if (t.get! 0).toNat = 45 then -valT t t.size else valT t t.size) else 0
end Go.Proofs.YthiipgahbmoiiaaGreatDoor
