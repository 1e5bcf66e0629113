/-
  Package ir's sets of variables, as numbers: with more of them, whether they are in it. No condition beyond those that each theorem states.
-/
import Derived.Test.YthiipgahbmoiiaaGreatDoorPk4
import Derived.RegionTactic
import Derived.Laws.BitsAllLaws
import Derived.BigQuiet
import Derived.Deep.QuietTactic
import Derived.Deep.RegionWith
namespace Go.Proofs.YthiipgahbmoiiaaGreatDoor
open Go.RowKit

def setC (N : Nat) : Array Value := #[.int .u64 (wordM N 0), .int .u64 (wordM N 1), .int .u64 (wordM N 2), .int .u64 (wordM N 3)]
def setV (N : Nat) : Value := .agg (setC N)
theorem set_size : (Tryz.prog.info? 82).map (·.size) = some 4 := by kernel_rfl
theorem boxS {W : World} {g : Nat} {t : TypeId} {N : Nat} (h : Blk W g t (setC N)) :
    W.cell? ⟨g, 0, none⟩ = some (.int .u64 (wordM N 0)) ∧ W.cell? ⟨g, 1, none⟩ = some (.int .u64 (wordM N 1)) ∧ W.cell? ⟨g, 2, none⟩ = some (.int .u64 (wordM N 2)) ∧ W.cell? ⟨g, 3, none⟩ = some (.int .u64 (wordM N 3)) := ⟨h.cell 0, h.cell 1, h.cell 2, h.cell 3⟩
theorem boxF {W : World} {g : Nat} {t : TypeId} {cs : Array Value} (h : Blk W g t cs) :
    W.frozen? ⟨g, 0, none⟩ = false ∧ W.frozen? ⟨g, 1, none⟩ = false ∧ W.frozen? ⟨g, 2, none⟩ = false ∧ W.frozen? ⟨g, 3, none⟩ = false := ⟨h.free 0, h.free 1, h.free 2, h.free 3⟩
theorem wrap_pow (k : Nat) (h : k < 64) : IntKind.u64.wrap ((2 : Int) ^ k) = ((2 ^ k : Nat) : Int) := by
  have h1 : (2 : Nat) ^ k < 2 ^ 64 := Nat.pow_lt_pow_right (by decide) h
  rw [show ((2 : Int) ^ k) = ((2 ^ k : Nat) : Int) by simp, IntKind.wrap_u64]
  generalize (2 : Nat) ^ k = P at *
  omega
theorem bits_add (M u q : Nat) : bits .or .u64 (wordM M q : Int) (IntKind.u64.wrap ((2 : Int) ^ (u % 64))) = ((wordM M q ||| 2 ^ (u % 64) : Nat) : Int) := by
  rw [wrap_pow _ (Nat.mod_lt _ (by decide))]
  exact u64_or_nat _ _ (word_lt M q) (Nat.pow_lt_pow_right (by decide) (Nat.mod_lt _ (by decide)))
theorem setC_put {M u q : Nat} (hu : u ≠ 0) (hq : u / 64 = q) (h4 : q < 4) : (setC M).setIfInBounds q (.int .u64 (bits .or .u64 (wordM M q : Int) (IntKind.u64.wrap ((2 : Int) ^ (u % 64))))) = setC (addM M u) := by
  rw [bits_add]
  have hu' : (u : Int) ≠ 0 := by omega
  have h : q = 0 ∨ q = 1 ∨ q = 2 ∨ q = 3 := by omega
  unfold setC
  simp only [word_add hu', Int.toNat_natCast, hq]
  rcases h with rfl | rfl | rfl | rfl <;> simp
/-- A block of four cells that are laid one by one. -/
theorem blk_four {W : World} {g : Nat} {t : TypeId} {z : Array Value} (h : Blk W g t z) (hz : z.size = 4) (a b c d : Value) :
    Blk ((((W.setCell ⟨g, 0, none⟩ a).setCell ⟨g, 1, none⟩ b).setCell ⟨g, 2, none⟩ c).setCell ⟨g, 3, none⟩ d) g t #[a, b, c, d] := by
  have h4 := (((h.put 0 a).put 1 b).put 2 c).put 3 d
  have : (((z.setIfInBounds 0 a).setIfInBounds 1 b).setIfInBounds 2 c).setIfInBounds 3 d = #[a, b, c, d] := by
    obtain ⟨l⟩ := z
    match l, hz with
    | [x0, x1, x2, x3], _ => rfl
  rw [this] at h4
  exact h4
theorem below_four {B : Nat} {A W : World} {g : Nat} (h : Below B A W) (hg : B ≤ g) (a b c d : Value) : Below B A ((((W.setCell ⟨g, 0, none⟩ a).setCell ⟨g, 1, none⟩ b).setCell ⟨g, 2, none⟩ c).setCell ⟨g, 3, none⟩ d) :=
  ((((h.setCell hg _).setCell hg _).setCell hg _).setCell hg _)
set_option maxHeartbeats 2000000 in
set_option maxRecDepth 100000 in
theorem with_any (N : Nat) (l : List Int) (a : Option Addr) (c : Nat) (w : World) (hl : l.length ≤ 1000000) (hv : ∀ v ∈ l, 0 ≤ v ∧ v ≤ 200) (hI : IntsW w a l) :
    Calls Tryz.prog 97 #[setV N, .slice a l.length c] w fun e w' => e = .returned (setV (withM N l)) ∧ Below w.heap.size w w' := by
  have HI := Lib.hid hI
  clear hI
  unfold setV
  have HS0 : Hid (setC N = _) := setC.eq_1 N
  rw [HS0.out]
  go_enter Tryz.func97, Tryz.ntmps97
  go_wp2
  go_loopw [9] (fun k wr => ∃ (j M : Nat) (z : Array Value), k = .int .i64 j ∧ j ≤ l.length ∧ Hid (withM N l = withM M (l.drop j)) ∧ Blk wr w.heap.size 82 (setC M) ∧ Blk wr (w.heap.size + 1) 82 z ∧ z.size = 4 ∧ Below w.heap.size w wr) (fun k _ => l.length - (intOf k).toNat)
  case atStart =>
    have h1 := Blk.new (w.alloc (.cells (setC N) 82)) 82 #[.int .u64 0, .int .u64 0, .int .u64 0, .int .u64 0]
    rw [HS0.out] at h1
    have h2 : Below w.heap.size w (w.alloc (.cells (setC N) 82)) := (Below.refl _ w).alloc (Nat.le_refl _) _
    have h3 := h2.alloc h2.size (.cells #[.int .u64 0, .int .u64 0, .int .u64 0, .int .u64 0] 82)
    rw [HS0.out] at h3
    exact ⟨0, N, #[.int .u64 0, .int .u64 0, .int .u64 0, .int .u64 0], rfl, Nat.zero_le _, rfl, (Blk.new w _ _).alloc _, by simpa using h1, rfl, h3⟩
  case round =>
    obtain ⟨j, M, z, rfl, hj, HA, hX, hZ, hz, hB⟩ := hrel
    have HX2 := Lib.hid hX
    have HB := Lib.hid hB
    have HZ := Lib.hid hZ
    clear hX hB hZ
    by_cases hlt : j < l.length
    · have hlt' : (j : Int) < l.length := by omega
      have hj0 : (0 : Int) ≤ j := by omega
      obtain ⟨x, hx⟩ : ∃ x, l[j]? = some x := ⟨_, List.getElem?_eq_getElem hlt⟩
      obtain ⟨g, p, rfl, hg, h0⟩ := (HI.out.below HB.out) j x hx
      obtain ⟨hx0, hx1⟩ := hv x (List.mem_of_getElem? hx)
      have HD : Hid (withM N l = withM (addM M x) (l.drop (j + 1))) := by
        show _ = _
        rw [HA.out, List.drop_eq_getElem_cons hlt, (List.getElem?_eq_some_iff.1 hx).2]
        rfl
      clear hx HA
      cases hn : x != 0
      · have hx00 : x = 0 := by simpa using hn
        go_wp2
        go_roundw
        case rel => exact ⟨j + 1, M, z, by go_num, by omega, (by have := HD.out; rw [hx00] at this; exact this), HX2.out, HZ.out, hz, HB.out⟩
        case measure => simp [intOf]; omega
      · obtain ⟨u, rfl⟩ := Int.eq_ofNat_of_zero_le hx0
        have hu0 : u ≠ 0 := by simpa using hn
        obtain ⟨c0, c1, c2, c3⟩ := boxS HX2.out
        have hq : u / 64 = 0 ∨ u / 64 = 1 ∨ u / 64 = 2 ∨ u / 64 = 3 := by omega
        have hr : (u : Int).tmod 64 = ((u % 64 : Nat) : Int) := by rw [Int.tmod_eq_emod_of_nonneg (by omega)]; omega
        obtain ⟨f0, f1, f2, f3⟩ := boxF HX2.out
        rcases hq with hq | hq | hq | hq
        · have hd : (u : Int).tdiv 64 = 0 := by rw [Int.tdiv_eq_ediv_of_nonneg (by omega)]; omega
          have HN : Hid (Blk (wr.setCell ⟨w.heap.size, 0, none⟩ (.int .u64 (bits .or .u64 (wordM M 0 : Int) (IntKind.u64.wrap ((2 : Int) ^ (u % 64)))))) w.heap.size 82 (setC (addM M u))) := by
            have := HX2.out.put 0 (.int .u64 (bits .or .u64 (wordM M 0 : Int) (IntKind.u64.wrap ((2 : Int) ^ (u % 64)))))
            rw [setC_put hu0 hq (by omega)] at this
            exact this
          have HZ2 : Hid (Blk (wr.setCell ⟨w.heap.size, 0, none⟩ (.int .u64 (bits .or .u64 (wordM M 0 : Int) (IntKind.u64.wrap ((2 : Int) ^ (u % 64)))))) (w.heap.size + 1) 82 z) := HZ.out.far (by simp) _
          have HB2 : Hid (Below w.heap.size w (wr.setCell ⟨w.heap.size, 0, none⟩ (.int .u64 (bits .or .u64 (wordM M 0 : Int) (IntKind.u64.wrap ((2 : Int) ^ (u % 64))))))) := HB.out.setCell (Nat.le_refl _) _
          go_wp2
          go_region
          all_goals
            go_wp2
            go_roundw
            case rel => exact ⟨j + 1, addM M u, z, by go_num, by omega, HD, HN.out.drew, HZ2.out.drew, hz, HB2.out.drew⟩
            case measure => simp [intOf]; omega
        · have hd : (u : Int).tdiv 64 = 1 := by rw [Int.tdiv_eq_ediv_of_nonneg (by omega)]; omega
          have HN : Hid (Blk (wr.setCell ⟨w.heap.size, 1, none⟩ (.int .u64 (bits .or .u64 (wordM M 1 : Int) (IntKind.u64.wrap ((2 : Int) ^ (u % 64)))))) w.heap.size 82 (setC (addM M u))) := by
            have := HX2.out.put 1 (.int .u64 (bits .or .u64 (wordM M 1 : Int) (IntKind.u64.wrap ((2 : Int) ^ (u % 64)))))
            rw [setC_put hu0 hq (by omega)] at this
            exact this
          have HZ2 : Hid (Blk (wr.setCell ⟨w.heap.size, 1, none⟩ (.int .u64 (bits .or .u64 (wordM M 1 : Int) (IntKind.u64.wrap ((2 : Int) ^ (u % 64)))))) (w.heap.size + 1) 82 z) := HZ.out.far (by simp) _
          have HB2 : Hid (Below w.heap.size w (wr.setCell ⟨w.heap.size, 1, none⟩ (.int .u64 (bits .or .u64 (wordM M 1 : Int) (IntKind.u64.wrap ((2 : Int) ^ (u % 64))))))) := HB.out.setCell (Nat.le_refl _) _
          go_wp2
          go_region
          all_goals
            go_wp2
            go_roundw
            case rel => exact ⟨j + 1, addM M u, z, by go_num, by omega, HD, HN.out.drew, HZ2.out.drew, hz, HB2.out.drew⟩
            case measure => simp [intOf]; omega
        · have hd : (u : Int).tdiv 64 = 2 := by rw [Int.tdiv_eq_ediv_of_nonneg (by omega)]; omega
          have HN : Hid (Blk (wr.setCell ⟨w.heap.size, 2, none⟩ (.int .u64 (bits .or .u64 (wordM M 2 : Int) (IntKind.u64.wrap ((2 : Int) ^ (u % 64)))))) w.heap.size 82 (setC (addM M u))) := by
            have := HX2.out.put 2 (.int .u64 (bits .or .u64 (wordM M 2 : Int) (IntKind.u64.wrap ((2 : Int) ^ (u % 64)))))
            rw [setC_put hu0 hq (by omega)] at this
            exact this
          have HZ2 : Hid (Blk (wr.setCell ⟨w.heap.size, 2, none⟩ (.int .u64 (bits .or .u64 (wordM M 2 : Int) (IntKind.u64.wrap ((2 : Int) ^ (u % 64)))))) (w.heap.size + 1) 82 z) := HZ.out.far (by simp) _
          have HB2 : Hid (Below w.heap.size w (wr.setCell ⟨w.heap.size, 2, none⟩ (.int .u64 (bits .or .u64 (wordM M 2 : Int) (IntKind.u64.wrap ((2 : Int) ^ (u % 64))))))) := HB.out.setCell (Nat.le_refl _) _
          go_wp2
          go_region
          all_goals
            go_wp2
            go_roundw
            case rel => exact ⟨j + 1, addM M u, z, by go_num, by omega, HD, HN.out.drew, HZ2.out.drew, hz, HB2.out.drew⟩
            case measure => simp [intOf]; omega
        · have hd : (u : Int).tdiv 64 = 3 := by rw [Int.tdiv_eq_ediv_of_nonneg (by omega)]; omega
          have HN : Hid (Blk (wr.setCell ⟨w.heap.size, 3, none⟩ (.int .u64 (bits .or .u64 (wordM M 3 : Int) (IntKind.u64.wrap ((2 : Int) ^ (u % 64)))))) w.heap.size 82 (setC (addM M u))) := by
            have := HX2.out.put 3 (.int .u64 (bits .or .u64 (wordM M 3 : Int) (IntKind.u64.wrap ((2 : Int) ^ (u % 64)))))
            rw [setC_put hu0 hq (by omega)] at this
            exact this
          have HZ2 : Hid (Blk (wr.setCell ⟨w.heap.size, 3, none⟩ (.int .u64 (bits .or .u64 (wordM M 3 : Int) (IntKind.u64.wrap ((2 : Int) ^ (u % 64)))))) (w.heap.size + 1) 82 z) := HZ.out.far (by simp) _
          have HB2 : Hid (Below w.heap.size w (wr.setCell ⟨w.heap.size, 3, none⟩ (.int .u64 (bits .or .u64 (wordM M 3 : Int) (IntKind.u64.wrap ((2 : Int) ^ (u % 64))))))) := HB.out.setCell (Nat.le_refl _) _
          go_wp2
          go_region
          all_goals
            go_wp2
            go_roundw
            case rel => exact ⟨j + 1, addM M u, z, by go_num, by omega, HD, HN.out.drew, HZ2.out.drew, hz, HB2.out.drew⟩
            case measure => simp [intOf]; omega
    · have e : j = l.length := by omega
      subst e
      have HE : Hid (withM N l = M) := by
        show _ = _
        rw [HA.out]
        simp [withM]
      obtain ⟨c0, c1, c2, c3⟩ := boxS HX2.out
      obtain ⟨f0, f1, f2, f3⟩ := boxF HZ.out
      have z0 := HZ.out.cell 0
      have z1 := HZ.out.cell 1
      have z2 := HZ.out.cell 2
      have z3 := HZ.out.cell 3
      rw [Array.getElem?_eq_getElem (by omega)] at z0 z1 z2 z3
      go_wp2
      (try simp only [Exit.inBlock, Exit.then])
      refine bodyPost_ret (results_cell_row rfl _ _ (w.heap.size + 1) 82 _ (0, 0) _ (by simp) (blk_four HZ.out hz _ _ _ _) Tryz.underlying82 rfl set_size) rfl ?_
      exact ⟨by rw [HE.out]; rfl, below_four HB.out (by omega) _ _ _ _⟩
theorem set_eq {N M : Nat} (hN : N < 2 ^ 256) (hM : M < 2 ^ 256) : ((wordM N 0 : Int) == (wordM M 0 : Int) && (wordM N 1 : Int) == (wordM M 1 : Int) && (wordM N 2 : Int) == (wordM M 2 : Int) && (wordM N 3 : Int) == (wordM M 3 : Int)) = (N == M) := by
  by_cases h : N = M
  · subst h
    simp
  · have h1 : (N == M) = false := by simpa using h
    rw [h1]
    cases hx : ((wordM N 0 : Int) == (wordM M 0 : Int) && (wordM N 1 : Int) == (wordM M 1 : Int) && (wordM N 2 : Int) == (wordM M 2 : Int) && (wordM N 3 : Int) == (wordM M 3 : Int))
    · rfl
    · simp only [Bool.and_eq_true, beq_iff_eq] at hx
      obtain ⟨⟨⟨e0, e1⟩, e2⟩, e3⟩ := hx
      exact absurd (words_same hN hM (by omega) (by omega) (by omega) (by omega)) h
set_option maxHeartbeats 2000000 in
set_option maxRecDepth 100000 in
theorem has_any (N : Nat) (hN : N < 2 ^ 256) (l : List Int) (a : Option Addr) (c : Nat) (w : World) (hl : l.length ≤ 1000000) (hv : ∀ v ∈ l, 0 ≤ v ∧ v ≤ 200) (hI : IntsW w a l) :
    Calls Tryz.prog 100 #[setV N, .slice a l.length c] w fun e w' => e = .returned (.bool (hasM N l)) ∧ Below w.heap.size w w' := by
  have HQ := Lib.hid (fun W => eql_set (wordM (withM N l) 0) (wordM (withM N l) 1) (wordM (withM N l) 2) (wordM (withM N l) 3) (wordM N 0) (wordM N 1) (wordM N 2) (wordM N 3) W)
  have HE := Lib.hid (set_eq (with_lt (l := l) hN (fun v h => by have := hv v h; omega)) hN)
  have HX : Hid (Blk (w.alloc (.cells (setC N) 82)) w.heap.size 82 (setC N)) := Blk.new w _ _
  have HW : Hid (Below w.heap.size w (w.alloc (.cells (setC N) 82))) := (Below.refl _ w).alloc (Nat.le_refl _) _
  have HC := Lib.hid (with_any N l a c (w.alloc (.cells (setC N) 82)).drew hl hv (hI.below HW.out.drew))
  unfold setV at HC ⊢
  have HS0 : Hid (setC N = _) := setC.eq_1 N
  have HS1 : Hid (setC (withM N l) = _) := setC.eq_1 (withM N l)
  rw [HS1.out] at HC
  clear hI
  rw [HS0.out] at HC ⊢
  rw [HS0.out] at HX HW
  go_enter Tryz.func100, Tryz.ntmps100
  go_wp2
  go_region_with (go_at_call 97; refine HC.out.mono ?_; rintro e w1 ⟨rfl, hb⟩; have HX1 := Lib.hid (HX.out.drew.below hb HX.out.lt); have HW1 := Lib.hid (HW.out.drew.trans (hb.mono HW.out.size)); rw [← HS0.out] at HX1; obtain ⟨c0, c1, c2, c3⟩ := boxS HX1.out; have hq := HQ.out; clear hb)
  all_goals
    go_wp2
    go_ret
    exact ⟨by rw [HE.out]; rfl, HW1.out⟩
end Go.Proofs.YthiipgahbmoiiaaGreatDoor
