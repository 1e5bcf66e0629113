/-
  The walk of MachEnds. No condition beyond those that each theorem states.
-/
import Derived.Test.YtkfplffcegbdfaaGreatDoorMtL
import Derived.Test.YtkfplffcegbdfaaGreatDoorPk13
import Derived.Test.YtkfplffcegbdfaaGreatDoorMrS
import Derived.Deep.QuietTactic
import Derived.BigQuiet
import Derived.Deep.RegionHeld3
import Derived.Deep.CutRange
namespace Go.Proofs.YtkfplffcegbdfaaGreatDoor
open Go.RowKit

def endsM : Array Value := #[.int .i64 (-1), .int .i64 0, .int .i64 1, .int .i64 2, .int .i64 3, .int .i64 63, .int .i64 64, .int .i64 65]
theorem endsM_at {k : Nat} (h : k < 8) : ∃ v : Int, endsM[k]? = some (.int .i64 v) ∧ -1 ≤ v ∧ v ≤ 65 := by
  match k, h with
  | 0, _ => exact ⟨_, rfl, by omega, by omega⟩
  | 1, _ => exact ⟨_, rfl, by omega, by omega⟩
  | 2, _ => exact ⟨_, rfl, by omega, by omega⟩
  | 3, _ => exact ⟨_, rfl, by omega, by omega⟩
  | 4, _ => exact ⟨_, rfl, by omega, by omega⟩
  | 5, _ => exact ⟨_, rfl, by omega, by omega⟩
  | 6, _ => exact ⟨_, rfl, by omega, by omega⟩
  | 7, _ => exact ⟨_, rfl, by omega, by omega⟩
/-- Numbers of a literal. -/
theorem lit_ints {W : World} {g : Nat} {t : TypeId} {cs : Array Value} {l : List Int} (h : Blk W g t cs) (e : cs = (l.map (Value.int .i64)).toArray) : IntsW W (some ⟨g, 0, none⟩) l := IntsW.row h fun k x hx => by
  subst e
  rw [List.getElem?_toArray, List.getElem?_map, hx]
  rfl
theorem lit1 (W : World) (x : Int) : IntsW (W.alloc (.cells #[.int .i64 x] 3)) (some ⟨W.heap.size, 0, none⟩) [x] := lit_ints (Blk.new W _ _) rfl
theorem lit2 (W : World) (x y : Int) : IntsW (W.alloc (.cells #[.int .i64 x, .int .i64 y] 3)) (some ⟨W.heap.size, 0, none⟩) [x, y] := lit_ints (Blk.new W _ _) rfl
theorem ints_alloc {w : World} {a : Option Addr} {l : List Int} (h : IntsW w a l) (o : Obj) : IntsW (w.alloc o) a l := h.below ((Below.refl _ _).alloc (Nat.le_refl _) o)
theorem size_alloc (W : World) (o : Obj) : (W.alloc o).heap.size = W.heap.size + 1 := by simp
/-- The three machines of the first loop. -/
theorem ends_one (W : World) (a b c : Int) : Calls Tryz.prog 3 #[.agg #[.int .i64 a, .slice (some ⟨W.heap.size, 0, none⟩) 2 2, .int .i64 0, .slice (some ⟨W.heap.size + 1, 0, none⟩) 1 1], .int .i64 b, .int .i64 c, .int .i64 2]
    ((W.alloc (.cells #[.int .i64 b, .int .i64 c] 3)).alloc (.cells #[.int .i64 1] 3)) fun e w' => e = .returned (.bool true) ∧ Below W.heap.size W w' := by
  have h1 := ints_alloc (lit2 W b c) (.cells #[.int .i64 1] 3)
  have h2 := lit1 (W.alloc (.cells #[.int .i64 b, .int .i64 c] 3)) 1
  rw [size_alloc] at h2
  refine (machTells_any ⟨a, [b, c], 0, [1]⟩ (some ⟨W.heap.size, 0, none⟩) (some ⟨W.heap.size + 1, 0, none⟩) 2 1 b c 2 _ (by simp) (by simp) (by simp) (by simp) (by simp) ⟨h1, h2⟩).mono fun e w' ⟨h3, h4⟩ => ⟨h3, ?_⟩
  exact (((Below.refl _ W).alloc (Nat.le_refl _) _).alloc (by simp) _).trans (h4.mono (by simp; omega))
theorem ends_two (W : World) (a b c : Int) : Calls Tryz.prog 3 #[.agg #[.int .i64 64, .slice (some ⟨W.heap.size, 0, none⟩) 1 1, .int .i64 a, .slice (some ⟨W.heap.size + 1, 0, none⟩) 2 2], .int .i64 a, .int .i64 63, .int .i64 1]
    ((W.alloc (.cells #[.int .i64 1] 3)).alloc (.cells #[.int .i64 b, .int .i64 c] 3)) fun e w' => e = .returned (.bool true) ∧ Below W.heap.size W w' := by
  have h1 := ints_alloc (lit1 W 1) (.cells #[.int .i64 b, .int .i64 c] 3)
  have h2 := lit2 (W.alloc (.cells #[.int .i64 1] 3)) b c
  rw [size_alloc] at h2
  refine (machTells_any ⟨64, [1], a, [b, c]⟩ (some ⟨W.heap.size, 0, none⟩) (some ⟨W.heap.size + 1, 0, none⟩) 1 2 a 63 1 _ (by simp) (by simp) (by simp) (by simp) (by simp) ⟨h1, h2⟩).mono fun e w' ⟨h3, h4⟩ => ⟨h3, ?_⟩
  exact (((Below.refl _ W).alloc (Nat.le_refl _) _).alloc (by simp) _).trans (h4.mono (by simp; omega))
theorem ends_three (W : World) (a b c d : Int) : Calls Tryz.prog 3 #[.agg #[.int .i64 a, .slice none 0 0, .int .i64 b, .slice none 0 0], .int .i64 c, .int .i64 d, .int .i64 0] W fun e w' => e = .returned (.bool true) ∧ Below W.heap.size W w' :=
  machTells_any ⟨a, [], b, []⟩ none none 0 0 c d 0 W (by simp) (by simp) (by simp) (by simp) (by simp) ⟨IntsW.nil _ _, IntsW.nil _ _⟩
/-- Those of the second one: a row of n numbers, as arguments, all but one, or all, as saved registers. -/
theorem ends_args (W : World) (g n : Nat) (l : List Int) (hl : l.length = n) (hn : n ≤ 100) (h : IntsW W (some ⟨g, 0, none⟩) l) (b c d : Int) : Calls Tryz.prog 3 #[.agg #[.int .i64 64, .slice (some ⟨g, 0, none⟩) n n, .int .i64 0, .slice none 0 0], .int .i64 b, .int .i64 c, .int .i64 d] W fun e w' => e = .returned (.bool true) ∧ Below W.heap.size W w' := by
  subst hl
  exact machTells_any ⟨64, l, 0, []⟩ (some ⟨g, 0, none⟩) none l.length 0 b c d W (by show l.length ≤ _; omega) (by simp) (Nat.le_refl _) (by simp) (by simp) ⟨h, IntsW.nil _ _⟩
theorem ends_saved (W : World) (g n k : Nat) (l : List Int) (hl : l.length = n) (hk : k ≤ n) (hn : n ≤ 100) (h : IntsW W (some ⟨g, 0, none⟩) l) (a r b c d : Int) : Calls Tryz.prog 3 #[.agg #[.int .i64 a, .slice none 0 0, .int .i64 r, .slice (some ⟨g, 0, none⟩) k n], .int .i64 b, .int .i64 c, .int .i64 d] W fun e w' => e = .returned (.bool true) ∧ Below W.heap.size W w' := by
  have hk2 : (l.take k).length = k := by simp; omega
  have := machTells_any ⟨a, [], r, l.take k⟩ none (some ⟨g, 0, none⟩) 0 n b c d W (by simp) (by show (l.take k).length ≤ _; omega) (by simp) (by simp) (by simp) ⟨IntsW.nil _ _, ints_left' (m := l.drop k) (by rw [List.take_append_drop]; exact h)⟩
  unfold machV maxC at this
  rw [show (Mm.mk a [] r (l.take k)).saved.length = k from hk2] at this
  exact this
/-- The words that stand in a text's place. -/
def wordsC : Array Value := #[.string ⟨#[]⟩, .string ⟨#[120]⟩, .string ⟨#[97, 114, 103, 115]⟩, .string ⟨#[114, 101, 116]⟩, .string ⟨#[53]⟩, .string ⟨#[54, 52]⟩, .string ⟨#[54, 53]⟩, .string ⟨#[45, 49]⟩, .string ⟨#[61]⟩, .string ⟨#[10]⟩, .string ⟨#[51, 32, 51]⟩, .string ⟨#[48]⟩]
theorem wordsC_at {k : Nat} (h : k < 12) : ∃ s : ByteArray, wordsC[k]? = some (.string s) ∧ s.size ≤ 4 := by
  match k, h with
  | 0, _ => exact ⟨_, rfl, by decide⟩
  | 1, _ => exact ⟨_, rfl, by decide⟩
  | 2, _ => exact ⟨_, rfl, by decide⟩
  | 3, _ => exact ⟨_, rfl, by decide⟩
  | 4, _ => exact ⟨_, rfl, by decide⟩
  | 5, _ => exact ⟨_, rfl, by decide⟩
  | 6, _ => exact ⟨_, rfl, by decide⟩
  | 7, _ => exact ⟨_, rfl, by decide⟩
  | 8, _ => exact ⟨_, rfl, by decide⟩
  | 9, _ => exact ⟨_, rfl, by decide⟩
  | 10, _ => exact ⟨_, rfl, by decide⟩
  | 11, _ => exact ⟨_, rfl, by decide⟩
theorem row_store {w : World} {B g cap n m : Nat} {e : TypeId} {vals : List Value} (h : w.ownsRow B e 1 (.slice (some ⟨g, 0, none⟩) n cap) m vals) (i : Nat) (u : Value) : (w.setCell ⟨g, i, none⟩ u).ownsRow B e 1 (.slice (some ⟨g, 0, none⟩) n cap) m (vals.set i u) := by
  obtain ⟨h1, h2⟩ := h
  rcases h2 with ⟨h2, _⟩ | ⟨g2, cap2, cur2, e2, hB2, hh2, hle2, hmax2, hsz2, htk2⟩
  · cases h2
  injection e2 with e21 e22 e23
  injection e21 with e21
  injection e21 with e21
  subst e21
  subst e23
  subst e22
  refine ⟨by simpa using h1, .inr ⟨g, cap, cur2.setIfInBounds i u, rfl, hB2, Blk.put hh2 i _, hle2, hmax2, by simpa using hsz2, ?_⟩⟩
  rw [Array.toList_setIfInBounds, ← htk2, List.take_set]
theorem row_cell {w : World} {B g cap n m : Nat} {e : TypeId} {vals : List Value} (h : w.ownsRow B e 1 (.slice (some ⟨g, 0, none⟩) n cap) m vals) : (∀ (i : Nat) (x : Value), vals[i]? = some x → w.cell? ⟨g, i, none⟩ = some x) ∧ (∀ i, w.frozen? ⟨g, i, none⟩ = false) ∧ g < w.heap.size ∧ B ≤ g := by
  obtain ⟨h1, h2⟩ := h
  rcases h2 with ⟨h2, _⟩ | ⟨g2, cap2, cur2, e2, hB2, hh2, hle2, hmax2, hsz2, htk2⟩
  · cases h2
  injection e2 with e21 e22 e23
  injection e21 with e21
  injection e21 with e21
  subst e21
  refine ⟨fun i x hx => ?_, fun i => Blk.free hh2 i, (Array.getElem?_eq_some_iff.1 hh2).1, hB2⟩
  have hlt := (List.getElem?_eq_some_iff.1 hx).1
  rw [Blk.cell hh2, ← Array.getElem?_toList]
  rw [← htk2] at hx hlt
  rw [List.getElem?_take] at hx
  split at hx
  · exact hx
  · cases hx
theorem fill_set (a b : Value) (M i : Nat) (h : i < M) : (List.replicate i a ++ List.replicate (M - i) b).set i a = List.replicate (i + 1) a ++ List.replicate (M - (i + 1)) b := by
  obtain ⟨d, hd⟩ : ∃ d, M - i = d + 1 := ⟨M - i - 1, by omega⟩
  have hd2 : M - (i + 1) = d := by omega
  rw [hd, hd2, List.set_append_right _ _ (by simp), List.length_replicate, Nat.sub_self, List.replicate_succ, List.set_cons_zero, List.replicate_succ']
  simp
theorem byte_info : (Tryz.prog.info? 5).map (fun i => (i.zero, i.size, i.bytes)) = some (some (.int .u8 0), 1, 1) := by kernel_rfl
/-- A row of blanks as a text. -/
theorem conv_blanks (W : World) (g o n cap : Nat) (h : ∀ k, k < n → W.cell? ⟨g, o + k, none⟩ = some (.int .u8 32)) : (convert 43 9 (.slice (some ⟨g, o, none⟩) n cap)).run Tryz.prog W = .ok (.string ⟨(List.replicate n (32 : UInt8)).toArray⟩) W := by
  have := run_convert_bytes_back (P := Tryz.prog) W 43 9 5 ⟨g, o, none⟩ cap (List.replicate n (32 : UInt8)) Tryz.underlying43 Tryz.underlying5 Tryz.underlying9 (fun j hj => by
    have e : (⟨g, o, none⟩ : Addr).add j = ⟨g, o + j, none⟩ := by
      unfold Addr.add
      split <;> simp_all
    have hj' : j < n := by simpa using hj
    rw [e, h j hj']
    simp)
  rw [List.length_replicate] at this
  exact this
theorem mod_nat (n k : Nat) : (n : Int).tmod (k : Int) = ((n % k : Nat) : Int) := rfl
theorem div_nat (n k : Nat) : (n : Int).tdiv (k : Int) = ((n / k : Nat) : Int) := rfl
set_option maxHeartbeats 8000000 in
set_option maxRecDepth 100000 in
theorem ends5_any (w : World) : Calls Tryz.prog 4 #[] w fun e w' => e = .returned (.bool true) ∧ Below w.heap.size w w' := by
  have HB0 : Hid (Below w.heap.size w (w.alloc (.cells endsM 3))) := (Below.refl _ w).alloc (Nat.le_refl _) _
  have HE0 : Hid (Blk (w.alloc (.cells endsM 3)) w.heap.size 3 endsM) := Blk.new w _ _
  rw [show endsM = #[.int .i64 (-1), .int .i64 0, .int .i64 1, .int .i64 2, .int .i64 3, .int .i64 63, .int .i64 64, .int .i64 65] from rfl] at HB0 HE0
  go_enter Tryz.func4, Tryz.ntmps4
  go_wp2
  go_loopw [2] (fun k wr => ∃ n : Nat, k = .int .i64 n ∧ n ≤ 512 ∧ Blk wr w.heap.size 3 endsM ∧ Below w.heap.size w wr) (fun k _ => 512 - (intOf k).toNat)
  case atStart => exact ⟨0, rfl, by omega, HE0.out, HB0.out⟩
  case round =>
    obtain ⟨n, rfl, hn, hE, hB⟩ := hrel
    have HE := Lib.hid hE
    have HB := Lib.hid hB
    clear hE hB HE0 HB0
    by_cases hlt : n < 512
    · have hlt' : (n : Int) < 512 := by omega
      have hn0 : (0 : Int) ≤ n := by omega
      obtain ⟨a, ha, ha1, ha2⟩ := endsM_at (k := n % 8) (by omega)
      obtain ⟨b, hb, hb1, hb2⟩ := endsM_at (k := n / 8 % 8) (by omega)
      obtain ⟨c, hc, hc1, hc2⟩ := endsM_at (k := n / 64) (by omega)
      have ca := (HE.out.cell (n % 8)).trans ha
      have cb := (HE.out.cell (n / 8 % 8)).trans hb
      have cc := (HE.out.cell (n / 64)).trans hc
      have m1 : (n : Int).tmod 8 = ((n % 8 : Nat) : Int) := mod_nat n 8
      have m2 : (n : Int).tdiv 8 = ((n / 8 : Nat) : Int) := div_nat n 8
      have m3 : ((n / 8 : Nat) : Int).tmod 8 = ((n / 8 % 8 : Nat) : Int) := mod_nat (n / 8) 8
      have m4 : (n : Int).tdiv 64 = ((n / 64 : Nat) : Int) := div_nat n 64
      have p1 : (0 : Int) ≤ (n : Int) % 8 := by omega
      have p2 : (n : Int) % 8 < 8 := by omega
      have p3 : (0 : Int) ≤ (n : Int) / 8 % 8 := by omega
      have p4 : (n : Int) / 8 % 8 < 8 := by omega
      have p5 : (0 : Int) ≤ (n : Int) / 64 := by omega
      have p6 : (n : Int) / 64 < 8 := by omega
      have q1 : ((n : Int) % 8).toNat = n % 8 := by omega
      have q2 : ((n : Int) / 8 % 8).toNat = n / 8 % 8 := by omega
      have q3 : ((n : Int) / 64).toNat = n / 64 := by omega
      have wq1 : IntKind.i64.wrap ((n : Int) / 8) = (n : Int) / 8 := by rw [IntKind.wrap_i64]; omega
      have wq2 : IntKind.i64.wrap ((n : Int) / 64) = (n : Int) / 64 := by rw [IntKind.wrap_i64]; omega
      clear ha hb hc
      go_upto_region 5 with fail
      go_cut [3, 4, 5] from 25 to 40 (fun x y z wx => x = .int .i64 a ∧ y = .int .i64 b ∧ z = .int .i64 c ∧ Blk wx w.heap.size 3 endsM ∧ Below w.heap.size w wx)
      case first =>
        go_quiet (fail)
        go_wp2
        go_meet
        exact ⟨rfl, rfl, rfl, HE.out.drewN _, below_drewN HB.out _⟩
      case rest =>
        obtain ⟨rfl, rfl, rfl, hE, hB⟩ := hcut
        have HE2 := Lib.hid hE
        have HB2 := Lib.hid hB
        have D1 := Lib.hid (fun W => ends_one W a b c)
        have D2 := Lib.hid (fun W => ends_two W a b c)
        have D3 := Lib.hid (fun W => ends_three W a b c (a - 1))
        have wq : IntKind.i64.wrap (a - 1) = a - 1 := by rw [IntKind.wrap_i64]; omega
        clear hE hB HE HB ca cb cc m1 m2 m3 m4 p1 p2 p3 p4 p5 p6 q1 q2 q3 wq1 wq2
        go_wp2_with fail
        refine (D1.out _).mono ?_
        rintro e w1 ⟨rfl, hb1⟩
        have HE3 : Hid (Blk w1 w.heap.size 3 endsM) := HE2.out.below hb1 HE2.out.lt
        have HB3 : Hid (Below w.heap.size w w1) := HB2.out.trans (hb1.mono HB2.out.size)
        clear hb1 HE2 HB2
        go_wp2_with fail
        refine (D2.out _).mono ?_
        rintro e w2 ⟨rfl, hb2⟩
        have HE4 : Hid (Blk w2 w.heap.size 3 endsM) := HE3.out.below hb2 HE3.out.lt
        have HB4 : Hid (Below w.heap.size w w2) := HB3.out.trans (hb2.mono HB3.out.size)
        clear hb2 HE3 HB3
        go_wp2_with fail
        refine (D3.out _).mono ?_
        rintro e w3 ⟨rfl, hb3⟩
        have HE5 : Hid (Blk w3 w.heap.size 3 endsM) := HE4.out.below hb3 HE4.out.lt
        have HB5 : Hid (Below w.heap.size w w3) := HB4.out.trans (hb3.mono HB4.out.size)
        clear hb3 HE4 HB4
        go_wp2
        go_roundw
        case rel => exact ⟨n + 1, by go_num, by omega, HE5.out, HB5.out⟩
        case measure => simp [intOf]; omega
    · have hge : ¬ (n : Int) < 512 := by omega
      clear HE hlt
      go_wp2
      go_loopw [6] (fun k wr2 => ∃ n : Nat, k = .int .i64 n ∧ n ≤ 70 ∧ Below w.heap.size w wr2) (fun k _ => 70 - (intOf k).toNat)
      case atStart => exact ⟨0, rfl, by omega, HB.out⟩
      case round =>
        obtain ⟨n, rfl, hn2, hB⟩ := hrel
        clear HB
        have HB := Lib.hid hB
        clear hB
        by_cases hlt2 : n < 70
        · have hlt' : (n : Int) < 70 := by omega
          have hn0 : (0 : Int) ≤ n := by omega
          obtain ⟨i0, hi0, hz0, hz1, hz2⟩ := info_parts int_info
          go_wp2_with (at_make; go_must (refine wpList_make_full _ rfl _ _ _ rfl wr.heap.size 3 i0 _ 1 Tryz.underlying22 hi0 hz0 hz1 .i64 .i64 (n : Int) (n : Int) n rfl rfl rfl rfl (by rw [hz2]; omega) (by simp only [maxLen]; omega) (Nat.le_refl _) ?_; intro w1 hown1 hgrow1))
          have HZ1 : Hid (OwnI w1 wr.heap.size (.slice (some ⟨wr.heap.size, 0, none⟩) n n) (List.replicate n (0 : Int))) := own_zeros hown1 (by rw [Nat.mul_one]; exact (toList_madeCells_one (.int .i64 0) n).trans (by simp))
          have HW1 : Hid (Below w.heap.size w w1) := HB.out.grown hgrow1 HB.out.size (fun k hk => by cases hk)
          have HNB : Hid (w.heap.size ≤ wr.heap.size) := HB.out.size
          generalize wr.heap.size = N at HZ1 HNB ⊢
          clear hown1 hgrow1 HB
          go_loopw [8] (fun v wr3 => ∃ (i : Nat) (l : List Int), v = .int .i64 i ∧ i ≤ n ∧ l.length = n ∧ OwnI wr3 N (.slice (some ⟨N, 0, none⟩) n n) l ∧ Below w.heap.size w wr3) (fun v _ => n - (intOf v).toNat)
          case atStart => exact ⟨0, _, rfl, Nat.zero_le _, by simp, HZ1.out, HW1.out⟩
          case round =>
            obtain ⟨i, l, rfl, hi, hll, hZ, hW⟩ := hrel
            clear HZ1 HW1
            have HZ := Lib.hid hZ
            have HW := Lib.hid hW
            clear hZ hW
            by_cases hi2 : i < n
            · have hi3 : (i : Int) < n := by omega
              have hi0' : (0 : Int) ≤ i := by omega
              obtain ⟨hcell, hfroz, hgs2, hgB⟩ := own_cell HZ.out
              obtain ⟨x, hx⟩ : ∃ x, l[i]? = some x := ⟨_, List.getElem?_eq_getElem (by omega)⟩
              have d0 := hcell i x hx
              have f0 := hfroz i
              have HZ2 : Hid (OwnI (wr.setCell ⟨N, i, none⟩ (.int .i64 i)) N (.slice (some ⟨N, 0, none⟩) n n) (l.set i i)) := own_store HZ.out i _ (by omega)
              have HW2 : Hid (Below w.heap.size w (wr.setCell ⟨N, i, none⟩ (.int .i64 i))) := HW.out.setCell (p := ⟨N, i, none⟩) HNB.out _
              have hll2 : (l.set i (i : Int)).length = n := by simpa using hll
              clear hcell hfroz hx HZ HW
              go_wp2
              go_roundw
              case rel => exact ⟨i + 1, _, by go_num, by omega, hll2, HZ2.out, HW2.out⟩
              case measure => simp [intOf]; omega
            · have e : i = n := by omega
              subst e
              have HI : Hid (∀ W, Below wr.heap.size wr W → IntsW W (some ⟨N, 0, none⟩) l) := fun W h => (IntsW.own (n := l.length) (by have := HZ.out; unfold OwnI at this; rw [← hll] at this; exact this)).below h
              have hiz : (0 : Int) ≤ i := by omega
              have wq : IntKind.i64.wrap ((i : Int) - 1) = (i : Int) - 1 := by rw [IntKind.wrap_i64]; omega
              have hmx : max ((i : Int) - 1) 0 = ((i - 1 : Nat) : Int) := by omega
              have hk1 : ((i - 1 : Nat) : Int) ≤ i := by omega
              have hk0 : (0 : Int) ≤ ((i - 1 : Nat) : Int) := by omega
              have hkn : (((i - 1 : Nat) : Int)).toNat = i - 1 := by omega
              have D1 : Hid (∀ W, Below wr.heap.size wr W → Calls Tryz.prog 3 #[.agg #[.int .i64 64, .slice (some ⟨N, 0, none⟩) i i, .int .i64 0, .slice none 0 0], .int .i64 3, .int .i64 i, .int .i64 i] W fun e w' => e = .returned (.bool true) ∧ Below W.heap.size W w') := fun W h => ends_args W N i l hll (by omega) (HI.out W h) 3 i i
              have D2 : Hid (∀ W, Below wr.heap.size wr W → Calls Tryz.prog 3 #[.agg #[.int .i64 i, .slice none 0 0, .int .i64 ((i : Int) - 1), .slice (some ⟨N, 0, none⟩) (i - 1) i], .int .i64 i, .int .i64 ((i : Int) - 1), .int .i64 0] W fun e w' => e = .returned (.bool true) ∧ Below W.heap.size W w') := fun W h => ends_saved W N i (i - 1) l hll (by omega) (by omega) (HI.out W h) _ _ _ _ _
              have D3 : Hid (∀ W, Below wr.heap.size wr W → Calls Tryz.prog 3 #[.agg #[.int .i64 i, .slice none 0 0, .int .i64 0, .slice (some ⟨N, 0, none⟩) i i], .int .i64 i, .int .i64 i, .int .i64 0] W fun e w' => e = .returned (.bool true) ∧ Below W.heap.size W w') := fun W h => ends_saved W N i i l hll (Nat.le_refl _) (by omega) (HI.out W h) _ _ _ _ _
              clear HI hll HZ
              go_wp2_with fail
              refine (D1.out _ (Below.refl _ _)).mono ?_
              rintro e w5 ⟨rfl, hb5⟩
              have HK5 : Hid (Below wr.heap.size wr w5) := hb5
              clear hb5 D1
              go_wp2_with fail
              refine (D2.out _ HK5.out).mono ?_
              rintro e w6 ⟨rfl, hb6⟩
              have HK6 : Hid (Below wr.heap.size wr w6) := HK5.out.trans (hb6.mono HK5.out.size)
              clear hb6 D2 HK5
              go_wp2_with fail
              refine (D3.out _ HK6.out).mono ?_
              rintro e w7 ⟨rfl, hb7⟩
              have HK7 : Hid (Below w.heap.size w w7) := HW.out.trans ((HK6.out.trans (hb7.mono HK6.out.size)).mono HW.out.size)
              clear hb7 D3 HK6 HW
              go_wp2
              go_roundw
              case rel => exact ⟨i + 1, by go_num, by omega, HK7.out⟩
              case measure => simp [intOf]; omega
        · have hge2 : ¬ (n : Int) < 70 := by omega
          clear hlt2
          go_wp2
          have HWB0 : Hid (Blk (wr.alloc (.cells wordsC 9)) wr.heap.size 9 wordsC) := Blk.new wr _ _
          have HW0 : Hid (Below w.heap.size w (wr.alloc (.cells wordsC 9))) := HB.out.alloc HB.out.size _
          generalize wr.heap.size = WB at HWB0 ⊢
          go_loopw [11, 12] (fun f k wx => ∃ (i j : Nat), f = .int .i64 i ∧ k = .int .i64 j ∧ i ≤ 34 ∧ j ≤ 35 ∧ Blk wx WB 9 wordsC ∧ Below w.heap.size w wx) (fun _ k _ => 35 - (intOf k).toNat)
          case atStart => exact ⟨0, 0, rfl, rfl, by omega, by omega, HWB0.out, HW0.out⟩
          case round =>
            obtain ⟨i, j, rfl, rfl, hi, hj, hX, hW⟩ := hrel
            have HX := Lib.hid hX
            have HW := Lib.hid hW
            clear hX hW HWB0 HW0 HB
            have hj0 : (0 : Int) ≤ j := by omega
            by_cases hj1 : j < 34
            · have hj2 : (j : Int) < 34 := by omega
              have hj3 : (j : Int) ≤ 34 := by omega
              have hsz : j < (⟨#[109, 97, 99, 104, 105, 110, 101, 32, 52, 32, 97, 114, 103, 115, 32, 48, 32, 49, 32, 114, 101, 116, 32, 48, 32, 115, 97, 118, 101, 100, 32, 50, 32, 51]⟩ : ByteArray).size := by show j < 34; omega
              cases hby : ((((⟨#[109, 97, 99, 104, 105, 110, 101, 32, 52, 32, 97, 114, 103, 115, 32, 48, 32, 49, 32, 114, 101, 116, 32, 48, 32, 115, 97, 118, 101, 100, 32, 50, 32, 51]⟩ : ByteArray)[j]'hsz).toNat : Int) != 32)
              case true =>
                go_wp2
                go_roundw
                case rel => exact ⟨i, j + 1, rfl, by go_num, hi, by omega, HX.out, HW.out⟩
                case measure => simp [intOf]; omega
              case false =>
                go_wp2_with fail
                clear hby
                go_loopw [13] (fun v wy => ∃ p : Nat, v = .int .i64 p ∧ p ≤ 12 ∧ Blk wy WB 9 wordsC ∧ Below w.heap.size w wy) (fun v _ => 12 - (intOf v).toNat)
                case atStart => exact ⟨0, rfl, by omega, HX.out, HW.out⟩
                case round =>
                  obtain ⟨p, rfl, hp, hX, hW⟩ := hrel
                  clear HX HW
                  have HX := Lib.hid hX
                  have HW := Lib.hid hW
                  clear hX hW
                  have hi0 : (0 : Int) ≤ i := by omega
                  have hi1 : (i : Int) ≤ 34 := by omega
                  by_cases hp2 : p < 12
                  · have hp3 : (p : Int) < 12 := by omega
                    have hp0 : (0 : Int) ≤ p := by omega
                    obtain ⟨q, hq, hq4⟩ := wordsC_at hp2
                    have cq := (HX.out.cell p).trans hq
                    have s1 : ∀ w, (Op.stringOp .add ((⟨#[109, 97, 99, 104, 105, 110, 101, 32, 52, 32, 97, 114, 103, 115, 32, 48, 32, 49, 32, 114, 101, 116, 32, 48, 32, 115, 97, 118, 101, 100, 32, 50, 32, 51]⟩ : ByteArray).extract 0 i) q).run Tryz.prog w = .ok (.string ((⟨#[109, 97, 99, 104, 105, 110, 101, 32, 52, 32, 97, 114, 103, 115, 32, 48, 32, 49, 32, 114, 101, 116, 32, 48, 32, 115, 97, 118, 101, 100, 32, 50, 32, 51]⟩ : ByteArray).extract 0 i ++ q)) w := fun w => run_string_add_sum w _ _ (by rw [ByteArray.size_extract]; omega)
                    have s2 : ∀ w, (Op.stringOp .add ((⟨#[109, 97, 99, 104, 105, 110, 101, 32, 52, 32, 97, 114, 103, 115, 32, 48, 32, 49, 32, 114, 101, 116, 32, 48, 32, 115, 97, 118, 101, 100, 32, 50, 32, 51]⟩ : ByteArray).extract 0 i ++ q) ((⟨#[109, 97, 99, 104, 105, 110, 101, 32, 52, 32, 97, 114, 103, 115, 32, 48, 32, 49, 32, 114, 101, 116, 32, 48, 32, 115, 97, 118, 101, 100, 32, 50, 32, 51]⟩ : ByteArray).extract j 34)).run Tryz.prog w = .ok (.string ((⟨#[109, 97, 99, 104, 105, 110, 101, 32, 52, 32, 97, 114, 103, 115, 32, 48, 32, 49, 32, 114, 101, 116, 32, 48, 32, 115, 97, 118, 101, 100, 32, 50, 32, 51]⟩ : ByteArray).extract 0 i ++ q ++ (⟨#[109, 97, 99, 104, 105, 110, 101, 32, 52, 32, 97, 114, 103, 115, 32, 48, 32, 49, 32, 114, 101, 116, 32, 48, 32, 115, 97, 118, 101, 100, 32, 50, 32, 51]⟩ : ByteArray).extract j 34)) w := fun w => run_string_add_sum w _ _ (by rw [ByteArray.size_append, ByteArray.size_extract, ByteArray.size_extract]; omega)
                    have hb0 := (Below.refl wr.heap.size wr).drew
                    have HQ : Hid (∀ W, Below wr.heap.size wr W → Below wr.heap.size wr W ∧ W.cell? ⟨WB, p, none⟩ = some (.string q)) := fun W h => ⟨h, ((HX.out.below h HX.out.lt).cell p).trans hq⟩
                    have CR : Hid (∀ (s : ByteArray) W, s.size ≤ 1000 → Below wr.heap.size wr W → Calls Tryz.prog 23 #[.string s] W fun e w' => e = .returned (.bool true) ∧ Below wr.heap.size wr w') := fun s W hs h => (reads5_any s W (by omega)).mono fun e w' ⟨h1, h2⟩ => ⟨h1, h.trans (h2.mono h.size)⟩
                    clear hq
                    go_upto_region 28 with fail
                    go_region_held3 (fun W => Below wr.heap.size wr W ∧ W.cell? ⟨WB, p, none⟩ = some (.string q))
                      (first | (refine HQ.out _ ?_; assumption))
                      (first
                        | (go_at_call 23; refine (CR.out _ _ (by rw [ByteArray.size_append, ByteArray.size_append, ByteArray.size_extract, ByteArray.size_extract]; omega) (by go_split_ands; assumption)).mono ?_; rintro e w9 ⟨rfl, hb9⟩))
                    rename_i hH
                    clear hH CR HQ cq s1 s2
                    have HX9 : Hid (Blk w9 WB 9 wordsC) := HX.out.below hb9 HX.out.lt
                    have HW9 : Hid (Below w.heap.size w w9) := HW.out.trans (hb9.mono HW.out.size)
                    clear hb9 hb0
                    go_wp2
                    go_roundw
                    case rel => exact ⟨p + 1, by go_num, by omega, HX9.out, HW9.out⟩
                    case measure => simp [intOf]; omega
                  · have hp3 : ¬ (p : Int) < 12 := by omega
                    have hmn : min ((j : Int) + 1) 34 = (j : Int) + 1 := by omega
                    have hwj : IntKind.i64.wrap ((j : Int) + 1) = (j : Int) + 1 := by rw [IntKind.wrap_i64]; omega
                    go_wp2
                    go_roundw
                    case rel => exact ⟨j + 1, j + 1, by go_num, by go_num, by omega, by omega, HX.out, HW.out⟩
                    case measure => simp [intOf]; omega
            · by_cases hj4 : j ≤ 34
              · have hj5 : ¬ (j : Int) < 34 := by omega
                have hj3 : (j : Int) ≤ 34 := by omega
                go_wp2_with fail
                go_loopw [13] (fun v wy => ∃ p : Nat, v = .int .i64 p ∧ p ≤ 12 ∧ Blk wy WB 9 wordsC ∧ Below w.heap.size w wy) (fun v _ => 12 - (intOf v).toNat)
                case atStart => exact ⟨0, rfl, by omega, HX.out, HW.out⟩
                case round =>
                  obtain ⟨p, rfl, hp, hX, hW⟩ := hrel
                  clear HX HW
                  have HX := Lib.hid hX
                  have HW := Lib.hid hW
                  clear hX hW
                  have hi0 : (0 : Int) ≤ i := by omega
                  have hi1 : (i : Int) ≤ 34 := by omega
                  by_cases hp2 : p < 12
                  · have hp3 : (p : Int) < 12 := by omega
                    have hp0 : (0 : Int) ≤ p := by omega
                    obtain ⟨q, hq, hq4⟩ := wordsC_at hp2
                    have cq := (HX.out.cell p).trans hq
                    have s1 : ∀ w, (Op.stringOp .add ((⟨#[109, 97, 99, 104, 105, 110, 101, 32, 52, 32, 97, 114, 103, 115, 32, 48, 32, 49, 32, 114, 101, 116, 32, 48, 32, 115, 97, 118, 101, 100, 32, 50, 32, 51]⟩ : ByteArray).extract 0 i) q).run Tryz.prog w = .ok (.string ((⟨#[109, 97, 99, 104, 105, 110, 101, 32, 52, 32, 97, 114, 103, 115, 32, 48, 32, 49, 32, 114, 101, 116, 32, 48, 32, 115, 97, 118, 101, 100, 32, 50, 32, 51]⟩ : ByteArray).extract 0 i ++ q)) w := fun w => run_string_add_sum w _ _ (by rw [ByteArray.size_extract]; omega)
                    have s2 : ∀ w, (Op.stringOp .add ((⟨#[109, 97, 99, 104, 105, 110, 101, 32, 52, 32, 97, 114, 103, 115, 32, 48, 32, 49, 32, 114, 101, 116, 32, 48, 32, 115, 97, 118, 101, 100, 32, 50, 32, 51]⟩ : ByteArray).extract 0 i ++ q) ((⟨#[109, 97, 99, 104, 105, 110, 101, 32, 52, 32, 97, 114, 103, 115, 32, 48, 32, 49, 32, 114, 101, 116, 32, 48, 32, 115, 97, 118, 101, 100, 32, 50, 32, 51]⟩ : ByteArray).extract j 34)).run Tryz.prog w = .ok (.string ((⟨#[109, 97, 99, 104, 105, 110, 101, 32, 52, 32, 97, 114, 103, 115, 32, 48, 32, 49, 32, 114, 101, 116, 32, 48, 32, 115, 97, 118, 101, 100, 32, 50, 32, 51]⟩ : ByteArray).extract 0 i ++ q ++ (⟨#[109, 97, 99, 104, 105, 110, 101, 32, 52, 32, 97, 114, 103, 115, 32, 48, 32, 49, 32, 114, 101, 116, 32, 48, 32, 115, 97, 118, 101, 100, 32, 50, 32, 51]⟩ : ByteArray).extract j 34)) w := fun w => run_string_add_sum w _ _ (by rw [ByteArray.size_append, ByteArray.size_extract, ByteArray.size_extract]; omega)
                    have hb0 := (Below.refl wr.heap.size wr).drew
                    have HQ : Hid (∀ W, Below wr.heap.size wr W → Below wr.heap.size wr W ∧ W.cell? ⟨WB, p, none⟩ = some (.string q)) := fun W h => ⟨h, ((HX.out.below h HX.out.lt).cell p).trans hq⟩
                    have CR : Hid (∀ (s : ByteArray) W, s.size ≤ 1000 → Below wr.heap.size wr W → Calls Tryz.prog 23 #[.string s] W fun e w' => e = .returned (.bool true) ∧ Below wr.heap.size wr w') := fun s W hs h => (reads5_any s W (by omega)).mono fun e w' ⟨h1, h2⟩ => ⟨h1, h.trans (h2.mono h.size)⟩
                    clear hq
                    go_upto_region 28 with fail
                    go_region_held3 (fun W => Below wr.heap.size wr W ∧ W.cell? ⟨WB, p, none⟩ = some (.string q))
                      (first | (refine HQ.out _ ?_; assumption))
                      (first
                        | (go_at_call 23; refine (CR.out _ _ (by rw [ByteArray.size_append, ByteArray.size_append, ByteArray.size_extract, ByteArray.size_extract]; omega) (by go_split_ands; assumption)).mono ?_; rintro e w9 ⟨rfl, hb9⟩))
                    rename_i hH
                    clear hH CR HQ cq s1 s2
                    have HX9 : Hid (Blk w9 WB 9 wordsC) := HX.out.below hb9 HX.out.lt
                    have HW9 : Hid (Below w.heap.size w w9) := HW.out.trans (hb9.mono HW.out.size)
                    clear hb9 hb0
                    go_wp2
                    go_roundw
                    case rel => exact ⟨p + 1, by go_num, by omega, HX9.out, HW9.out⟩
                    case measure => simp [intOf]; omega
                  · have hp3 : ¬ (p : Int) < 12 := by omega
                    have hmn : min ((j : Int) + 1) 34 = 34 := by omega
                    have hwj : IntKind.i64.wrap ((j : Int) + 1) = (j : Int) + 1 := by rw [IntKind.wrap_i64]; omega
                    go_wp2
                    go_roundw
                    case rel => exact ⟨34, j + 1, by go_num, by go_num, by omega, by omega, HX.out, HW.out⟩
                    case measure => simp [intOf]; omega
              · have hj5 : ¬ (j : Int) ≤ 34 := by omega
                clear HX hj1 hj4
                obtain ⟨b0, hb0, hy0, hy1, hy2⟩ := info_parts byte_info
                obtain ⟨M, hM⟩ : ∃ M : Nat, M = 262145 := ⟨_, rfl⟩
                have HM : Hid (M = 262145) := hM
                have hM0 : (262145 : Int) = (M : Int) := by rw [hM]; rfl
                have HM0 := Lib.hid hM0
                clear hM hM0
                go_wp2_with (at_make; go_must (refine wpList_make_full _ rfl _ _ _ rfl wr.heap.size 5 b0 _ 1 Tryz.underlying43 hb0 hy0 hy1 .i64 .i64 262145 262145 M rfl rfl HM0.out HM0.out (by rw [hy2, HM.out]; decide) (by rw [HM.out]; decide) (Nat.le_refl _) ?_; intro w1 hown1 hgrow1))
                have HR1 : Hid (w1.ownsRow wr.heap.size 5 1 (.slice (some ⟨wr.heap.size, 0, none⟩) M M) M (List.replicate 0 (.int .u8 32) ++ List.replicate (M - 0) (.int .u8 0))) := by
                  have e : (madeCells (Value.int .u8 0).cells (M * 1)).toList = List.replicate 0 (.int .u8 32) ++ List.replicate (M - 0) (.int .u8 0) := by
                    rw [Nat.mul_one]
                    exact (toList_madeCells_one (.int .u8 0) M).trans (by simp)
                  show World.ownsRow _ _ _ _ _ _ _
                  rw [← e]
                  exact hown1
                have HW1 : Hid (Below w.heap.size w w1) := HW.out.grown hgrow1 HW.out.size (fun k hk => by cases hk)
                have HNB : Hid (w.heap.size ≤ wr.heap.size) := HW.out.size
                generalize wr.heap.size = NB at HR1 HNB ⊢
                clear hown1 hgrow1 HW
                go_loopw [15] (fun v wx => ∃ k : Nat, v = .int .i64 k ∧ k ≤ M ∧ wx.ownsRow NB 5 1 (.slice (some ⟨NB, 0, none⟩) M M) M (List.replicate k (.int .u8 32) ++ List.replicate (M - k) (.int .u8 0)) ∧ Below w.heap.size w wx) (fun v _ => M - (intOf v).toNat)
                case atStart => exact ⟨0, rfl, Nat.zero_le _, HR1.out, HW1.out⟩
                case round =>
                  obtain ⟨k, rfl, hk, hR, hW⟩ := hrel
                  clear HR1 HW1
                  have HR := Lib.hid hR
                  have HW := Lib.hid hW
                  clear hR hW
                  by_cases hk2 : k < M
                  · have hk3 : (k : Int) < M := by omega
                    have hk0 : (0 : Int) ≤ k := by omega
                    have hwk : IntKind.i64.wrap ((k : Int) + 1) = (k : Int) + 1 := by have := HM.out; rw [IntKind.wrap_i64]; omega
                    obtain ⟨hcell, hfroz, hgs2, hgB⟩ := row_cell HR.out
                    have d0 := hcell k (.int .u8 0) (by rw [List.getElem?_append_right (by simp), List.length_replicate, Nat.sub_self, List.getElem?_replicate, if_pos (by omega)])
                    have f0 := hfroz k
                    have HR2 : Hid ((wr.setCell ⟨NB, k, none⟩ (.int .u8 32)).ownsRow NB 5 1 (.slice (some ⟨NB, 0, none⟩) M M) M (List.replicate (k + 1) (.int .u8 32) ++ List.replicate (M - (k + 1)) (.int .u8 0))) := by
                      show World.ownsRow _ _ _ _ _ _ _
                      rw [← fill_set _ _ M k hk2]
                      exact row_store HR.out k _
                    have HW2 : Hid (Below w.heap.size w (wr.setCell ⟨NB, k, none⟩ (.int .u8 32))) := HW.out.setCell (p := ⟨NB, k, none⟩) HNB.out _
                    clear hcell hfroz HR HW
                    go_wp2
                    go_roundw
                    case rel => exact ⟨k + 1, by go_num, by omega, HR2.out, HW2.out⟩
                    case measure => simp [intOf]; omega
                  · have hk3 : ¬ (k : Int) < M := by omega
                    have HC : Hid (∀ i, i < M → wr.cell? ⟨NB, i, none⟩ = some (.int .u8 32)) := fun i hi => (row_cell HR.out).1 i _ (by rw [List.getElem?_append_left (by rw [List.length_replicate]; omega), List.getElem?_replicate, if_pos (by omega)])
                    have HLT : Hid (NB < wr.heap.size) := (row_cell HR.out).2.2.1
                    obtain ⟨S1, hS1, conv1⟩ : ∃ S1 : ByteArray, S1.data.toList = List.replicate M 32 ∧ (convert 43 9 (.slice (some ⟨NB, 0, none⟩) M M)).run Tryz.prog wr = .ok (.string S1) wr := ⟨_, by simp, conv_blanks wr NB 0 M M (fun i hi => by rw [Nat.zero_add]; exact HC.out i hi)⟩
                    have hz1 : S1.size = M := by
                      have := congrArg List.length hS1
                      simpa using this
                    have PL := Lib.hid (parse_long S1 wr (by rw [hz1, HM.out]; decide) (by rw [hz1, HM.out]; decide))
                    unfold machV maxC noM at PL
                    simp only [List.length_nil] at PL
                    clear hS1 hz1 HR
                    go_wp2_with fail
                    refine PL.out.mono ?_
                    rintro e w5 ⟨rfl, hb5⟩
                    clear PL conv1
                    have HB7 : Hid (Below wr.heap.size wr (w5.alloc (.cells #[.int .i64 0, .slice none 0 0, .int .i64 0, .slice none 0 0] 24))) := hb5.alloc hb5.size _
                    clear hb5
                    have hM1 : (1 : Int) ≤ M := by have := HM0.out; omega
                    go_upto_region 37 with fail
                    generalize w5.alloc (.cells #[.int .i64 0, .slice none 0 0, .int .i64 0, .slice none 0 0] 24) = W7 at HB7 ⊢
                    obtain ⟨S2, hS2, conv2⟩ : ∃ S2 : ByteArray, S2.data.toList = List.replicate (M - 1) 32 ∧ (convert 43 9 (.slice (some ⟨NB, 1, none⟩) (M - 1) (M - 1))).run Tryz.prog W7 = .ok (.string S2) W7 := ⟨_, by simp, conv_blanks W7 NB 1 (M - 1) (M - 1) (fun i hi => (HB7.out.cell HLT.out).trans (HC.out (1 + i) (by omega)))⟩
                    have PB := Lib.hid (parse_blank S2 (M - 1) hS2 (by rw [HM.out]; decide) W7)
                    simp only [machV, maxC, noM, List.length_nil] at PB
                    have HBW : Hid (Below w.heap.size w W7) := HW.out.trans (HB7.out.mono HW.out.size)
                    have hMn : ((M : Int) - 1).toNat = M - 1 := by omega
                    have hMq := HM.out
                    have hMa : 1 < M := by omega
                    have hMb : ¬ M = 1 := by omega
                    have hMc : ¬ (M : Int) = 1 := by omega
                    have hMd : (1 : Int) < M := by omega
                    have hMe : ¬ M ≤ 1 := by omega
                    have hMf : ¬ M - 1 = 0 := by omega
                    clear hMq
                    clear hS2 HC HLT HB7 HW
                    go_wp2_with fail
                    refine PB.out.mono ?_
                    rintro e w8 ⟨⟨xa, xc, ya, yc, rfl⟩, hb8⟩
                    have HB8 : Hid (Below w.heap.size w (w8.alloc (.cells #[.int .i64 0, .slice xa 0 xc, .int .i64 0, .slice ya 0 yc] 24))) := (HBW.out.trans (hb8.mono HBW.out.size)).alloc (HBW.out.trans (hb8.mono HBW.out.size)).size _
                    clear hb8 conv2 PB HBW
                    go_wp2_with fail
                    refine (reads5_any _ _ (by decide)).mono ?_
                    rintro e w9 ⟨rfl, hb9⟩
                    have HB9 : Hid (Below w.heap.size w w9) := HB8.out.trans (hb9.mono HB8.out.size)
                    clear hb9 HB8
                    go_wp2_with fail
                    refine (reads5_any _ _ (by decide)).mono ?_
                    rintro e w10 ⟨rfl, hb10⟩
                    have HB10 : Hid (Below w.heap.size w w10) := HB9.out.trans (hb10.mono HB9.out.size)
                    clear hb10 HB9
                    go_wp2_with fail
                    refine (awakeM_any _).mono ?_
                    rintro e w11 ⟨rfl, hb11⟩
                    have HB11 : Hid (Below w.heap.size w w11) := HB10.out.trans (hb11.mono HB10.out.size)
                    clear hb11 HB10
                    go_wp2
                    go_ret
                    exact ⟨rfl, HB11.out⟩
end Go.Proofs.YtkfplffcegbdfaaGreatDoor
