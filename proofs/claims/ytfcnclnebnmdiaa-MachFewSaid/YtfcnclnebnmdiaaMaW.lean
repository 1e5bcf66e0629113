/-
  Package mach's sets of registers: with more of them, whether they are in it; whether registers are unlike. No condition beyond those that each theorem states.
-/
import Derived.Test.YtfcnclnebnmdiaaMaB
import Derived.Laws.CopyOwn
import Derived.Deep.CutRange
import Derived.Laws.Tables
import Derived.Deep.RegionHeld3
import Derived.Deep.MidRow
namespace Go.Proofs.Ytfcnclnebnmdiaa
open Go.RowKit

theorem ma_zero : (Try.prog.info? 53).map (fun i => (i.zero, i.size)) = some (some (.agg (Array.replicate 64 (.bool false))), 64) := by kernel_rfl
theorem ma_zeroV (W : World) : (zeroValue 53).run Try.prog W = .ok (.agg (maC [])) W := by
  rw [maC_nil]
  exact (zero_of_info ma_zero).1 W
theorem maC_szS (S : List Int) : (Try.prog.info? 53).map (·.size) = some (maC S).size := by rw [maC_size]; exact ma_size
theorem Blk.row {w : World} {g : Nat} {t : TypeId} {cs : Array Value} (h : Blk w g t cs) (cs' : Array Value) : Blk (w.setRow g cs') g t cs' := setRow_heap w g cs cs' t (0, 0) h
theorem Blk.rowFar {w : World} {g k : Nat} {t : TypeId} {cs : Array Value} (h : Blk w g t cs) (hk : g ≠ k) (cs' : Array Value) : Blk (w.setRow k cs') g t cs := (setRow_other w k g cs' hk).trans h
theorem maC_store (S : List Int) (u : Nat) (hu : u < 64) : (maC S).setIfInBounds u (.bool true) = maC ((u : Int) :: S) := maC_put S hu
theorem range_of {w : World} {g : Nat} {t : TypeId} {cs : Array Value} (h : Blk w g t cs) : w.rangeAt g 0 cs.toList := fun j v hv => by
  rw [Nat.zero_add, h.cell]
  simpa using hv
set_option maxHeartbeats 2000000 in
set_option maxRecDepth 100000 in
theorem withR_any (S l : List Int) (a : Option Addr) (c : Nat) (w : World) (hl : l.length ≤ 1000000) (hv : ∀ r ∈ l, 0 ≤ r ∧ r < 64) (hI : IntsW w a l) :
    Calls Try.prog 45 #[maV S, .slice a l.length c] w fun e w' => e = .returned (maV (l ++ S)) ∧ Below w.heap.size w w' := by
  have HI := Lib.hid hI
  clear hI
  have hz := ma_zeroV
  unfold maV
  go_enter Try.func45, Try.ntmps45
  go_wp2
  go_loopw [9] (fun k wr => ∃ j : Nat, k = .int .i64 j ∧ j ≤ l.length ∧ Blk wr w.heap.size 53 (maC ((l.take j).reverse ++ S)) ∧ Blk wr (w.heap.size + 1) 53 (maC []) ∧ Below w.heap.size w wr) (fun k _ => l.length - (intOf k).toNat)
  case atStart =>
    have h1 := Blk.new (w.alloc (.cells (maC S) 53)) 53 (maC [])
    have h2 : Below w.heap.size w (w.alloc (.cells (maC S) 53)) := (Below.refl _ w).alloc (Nat.le_refl _) _
    exact ⟨0, rfl, Nat.zero_le _, (Blk.new w _ _).alloc _, by simpa using h1, h2.alloc h2.size _⟩
  case round =>
    obtain ⟨j, rfl, hj, hX, hZ, hB⟩ := hrel
    have HX := Lib.hid hX
    have HZ := Lib.hid hZ
    have HB := Lib.hid hB
    clear hX hZ hB
    by_cases hlt : j < l.length
    · have hlt' : (j : Int) < l.length := by omega
      have hj0 : (0 : Int) ≤ j := by omega
      obtain ⟨x, hx⟩ : ∃ x, l[j]? = some x := ⟨_, List.getElem?_eq_getElem hlt⟩
      obtain ⟨g, p, rfl, hg, h0⟩ := (HI.out.below HB.out) j x hx
      obtain ⟨hx0, hx1⟩ := hv x (List.mem_of_getElem? hx)
      obtain ⟨u, rfl⟩ := Int.eq_ofNat_of_zero_le hx0
      have hu : u < 64 := by omega
      have hT : Hid (maC ((l.take (j + 1)).reverse ++ S) = (maC ((l.take j).reverse ++ S)).setIfInBounds u (.bool true)) := by
        show _ = _
        rw [maC_put _ hu, List.take_add_one, hx]
        simp
      have cu := (HX.out.cell u).trans (maC_get _ hu)
      have fu := HX.out.free u
      have HX2 : Hid (Blk (wr.setCell ⟨w.heap.size, u, none⟩ (.bool true)) w.heap.size 53 (maC ((l.take (j + 1)).reverse ++ S))) := by
        have := HX.out.put u (.bool true)
        rw [← hT.out] at this
        exact this
      have HZ2 : Hid (Blk (wr.setCell ⟨w.heap.size, u, none⟩ (.bool true)) (w.heap.size + 1) 53 (maC [])) := HZ.out.far (by simp) _
      have HB2 : Hid (Below w.heap.size w (wr.setCell ⟨w.heap.size, u, none⟩ (.bool true))) := HB.out.setCell (Nat.le_refl _) _
      clear hx hT HX HZ
      go_wp2
      go_roundw
      case rel => exact ⟨j + 1, by go_num, by omega, HX2.out, HZ2.out, HB2.out⟩
      case measure => simp [intOf]; omega
    · have e : j = l.length := by omega
      subst e
      have HE : Hid (maC ((l.take l.length).reverse ++ S) = maC (l ++ S)) := by
        show _ = _
        rw [List.take_length, maC_fold]
      rw [HE.out] at HX
      clear hlt hj
      go_upto_region 6 with fail
      apply wp_region_lit
      refine wpList_load_row rfl 53 _ rfl w.heap.size rfl 53 (maC (l ++ S)) (0, 0) _ HX.out Try.underlying53 rfl (maC_szS _) ?_
      refine wpList_store_row rfl 53 _ _ rfl (w.heap.size + 1) (maC (l ++ S)) rfl rfl 53 _ HZ.out (maC_szS _) (by rw [maC_size, maC_size]) (maC_one _) ?_
      apply wpList_nil
      have HR : Hid (Blk (wr.setRow (w.heap.size + 1) (maC (l ++ S))) (w.heap.size + 1) 53 (maC (l ++ S))) := HZ.out.row _
      have HK : Hid (Below w.heap.size w (wr.setRow (w.heap.size + 1) (maC (l ++ S)))) := below_setRow HB.out (by omega) _
      clear HX HZ HB hz
      simp only [Exit.then]
      go_wp2
      (try simp only [Exit.then])
      refine bodyPost_ret (results_cell_row rfl _ _ (w.heap.size + 1) 53 _ (0, 0) _ (by rfl) HR.out Try.underlying53 rfl (maC_szS _)) rfl ?_
      exact ⟨rfl, HK.out⟩
set_option maxHeartbeats 2000000 in
set_option maxRecDepth 100000 in
theorem setOf_any (l : List Int) (a : Option Addr) (c : Nat) (w : World) (hl : l.length ≤ 1000000) (hv : ∀ r ∈ l, 0 ≤ r ∧ r < 64) (hI : IntsW w a l) :
    Calls Try.prog 28 #[.slice a l.length c] w fun e w' => e = .returned (maV l) ∧ Below w.heap.size w w' := by
  have hz := ma_zeroV
  have HX : Hid (Blk (w.alloc (.cells (maC []) 53)) w.heap.size 53 (maC [])) := Blk.new w _ _
  have HB : Hid (Below w.heap.size w (w.alloc (.cells (maC []) 53))) := (Below.refl _ w).alloc (Nat.le_refl _) _
  have HC := Lib.hid (withR_any [] l a c (w.alloc (.cells (maC []) 53)) hl hv (hI.below HB.out))
  unfold maV at HC ⊢
  rw [List.append_nil] at HC
  clear hI
  go_enter Try.func28, Try.ntmps28
  go_upto_region 1 with fail
  apply wp_region_lit
  refine wpList_build rfl 53 #[] rfl (by kernel_rfl) ?_
  rw [show ((Try.prog.built 53 (Array.map (fun (p : Nat × Operand) => (p.1, Act.eval _ p.2)) #[]).toList).getD #[]) = maC [] by kernel_rfl]
  simp only [Act.put, List.setIfInBounds_toArray, List.set_cons_zero, List.set_cons_succ]
  go_wp2_with fail
  refine HC.out.mono ?_
  rintro e w1 ⟨rfl, hb⟩
  rename_i K2 hK2
  dsimp only
  refine hK2 _ _ ?_
  have HX1 : Hid (Blk w1 w.heap.size 53 (maC [])) := HX.out.below hb HX.out.lt
  refine wpList_store_row rfl 53 _ _ rfl w.heap.size (maC l) rfl rfl 53 _ HX1.out (maC_szS _) (by rw [maC_size, maC_size]) (maC_one _) ?_
  apply wpList_nil
  have HR : Hid (Blk (w1.setRow w.heap.size (maC l)) w.heap.size 53 (maC l)) := HX1.out.row _
  have HK : Hid (Below w.heap.size w (w1.setRow w.heap.size (maC l))) := below_setRow (HB.out.trans (hb.mono HB.out.size)) (Nat.le_refl _) _
  clear HX HX1 HB hz hb hK2 K2 HC
  simp only [Exit.then]
  go_wp2
  (try simp only [Exit.then])
  refine bodyPost_ret (results_cell_row rfl _ _ w.heap.size 53 _ (0, 0) _ (by rfl) HR.out Try.underlying53 rfl (maC_szS _)) rfl ?_
  exact ⟨rfl, HK.out⟩
set_option maxHeartbeats 2000000 in
set_option maxRecDepth 100000 in
theorem hasR_any (S l : List Int) (a : Option Addr) (c : Nat) (w : World) (hl : l.length ≤ 1000000) (hv : ∀ r ∈ l, 0 ≤ r ∧ r < 64) (hI : IntsW w a l) :
    Calls Try.prog 29 #[maV S, .slice a l.length c] w fun e w' => e = .returned (.bool (inB S l)) ∧ Below w.heap.size w w' := by
  have HQ := Lib.hid (fun W => eql_ma (l ++ S) S W)
  rw [eql_in hv] at HQ
  have HX : Hid (Blk (w.alloc (.cells (maC S) 53)) w.heap.size 53 (maC S)) := Blk.new w _ _
  have HW : Hid (Below w.heap.size w (w.alloc (.cells (maC S) 53))) := (Below.refl _ w).alloc (Nat.le_refl _) _
  have HC : Hid (∀ w1, Below (w.alloc (.cells (maC S) 53)).heap.size (w.alloc (.cells (maC S) 53)) w1 → Calls Try.prog 45 #[.agg (maC S), .slice a l.length c] w1 fun e w' => e = .returned (.agg (maC (l ++ S))) ∧ Below (w.alloc (.cells (maC S) 53)).heap.size (w.alloc (.cells (maC S) 53)) w') := fun w1 h1 =>
    (withR_any S l a c w1 hl hv ((hI.below HW.out).below h1)).mono fun e w' ⟨h2, h3⟩ => ⟨h2, h1.trans (h3.mono h1.size)⟩
  unfold maV
  clear hI
  go_enter Try.func29, Try.ntmps29
  go_upto_region 1 with fail
  have hu := Try.underlying53
  have hi : (Try.prog.info? 53).map (·.size) = some (maC S).toList.length := by rw [Array.length_toList]; exact maC_szS S
  have R0 : Hid ((w.alloc (.cells (maC S) 53)).rangeAt w.heap.size 0 (maC S).toList) := range_of HX.out
  refine wp_region_held_drew (S := fun w' => Below (w.alloc (.cells (maC S) 53)).heap.size (w.alloc (.cells (maC S) 53)) w' ∧ w'.rangeAt w.heap.size 0 (maC S).toList) (by kernel_rfl) ?_ (fun hHeld => ?_)
  · exact ⟨(Below.refl _ _).drew, R0.out⟩
  refine wpAnyH_take (i := 0) (v := _) (by simp only [List.getElem?_toArray, List.getElem?_cons_zero]; rfl) (by kernel_rfl) (by kernel_rfl) (by kernel_rfl) (by exact fun _ _ _ h => h) (yieldsIf_load_mid (by rfl) _ _ rfl w.heap.size 0 rfl (maC S).toList _ (fun w' h => h.2) hu rfl hi) (by assumption) ?_
  try simp only [Act.put, List.setIfInBounds_toArray, List.set_cons_zero, List.set_cons_succ, Array.toArray_toList]
  refine wpAnyH_take (i := 1) (v := ?v2) (by simp only [List.getElem?_toArray, List.getElem?_cons_succ, List.getElem?_cons_zero]; rfl) (by kernel_rfl) (by kernel_rfl) (by kernel_rfl) (by exact fun _ _ _ h => h) (Or.inl ⟨by rfl, ?hy2⟩) (by assumption) ?_
  case hy2 => (intro w hSw; (try dsimp only at hSw); go_simp; try (with_reducible rfl))
  try simp only [Act.put, List.setIfInBounds_toArray, List.set_cons_zero, List.set_cons_succ]
  refine wpAnyH_take (i := 3) (v := _) (by simp only [List.getElem?_toArray, List.getElem?_cons_succ, List.getElem?_cons_zero]; rfl) (by kernel_rfl) (by kernel_rfl) (by kernel_rfl) (by exact fun _ _ _ h => h) (yieldsIf_load_mid (by rfl) _ _ rfl w.heap.size 0 rfl (maC S).toList _ (fun w' h => h.2) hu rfl hi) (by assumption) ?_
  try simp only [Act.put, List.setIfInBounds_toArray, List.set_cons_zero, List.set_cons_succ, Array.toArray_toList]
  refine wpAnyH_ready (rs := [2]) (by kernel_rfl) (by simp) ?_
  refine AllReadyH.cons (by simp only [List.getElem?_toArray, List.getElem?_cons_succ, List.getElem?_cons_zero]; rfl) (fun K hK => ?_) AllReadyH.nil
  go_simp
  go_at_call 45
  refine (HC.out _ (by go_split_ands; assumption)).mono ?_
  rintro e w7 ⟨rfl, hb7⟩
  (try go_wp2_with fail)
  refine hK.out _ _ ?_ (fun hHeld2 => ?_)
  · exact ⟨hb7, range_of (HX.out.below hb7 HX.out.lt)⟩
  clear hK K hHeld
  have hHeld := hHeld2
  clear hHeld2
  have hq := HQ.out
  try simp only [Act.put, List.setIfInBounds_toArray, List.set_cons_zero, List.set_cons_succ]
  refine wpAnyH_take (i := 4) (v := ?v4) (by simp only [List.getElem?_toArray, List.getElem?_cons_succ, List.getElem?_cons_zero]; rfl) (by kernel_rfl) (by kernel_rfl) (by kernel_rfl) (by exact fun _ _ _ h => h) (Or.inl ⟨by rfl, ?hy4⟩) (by assumption) ?_
  case hy4 => (intro w hSw; (try dsimp only at hSw); go_simp; try (with_reducible rfl))
  try simp only [Act.put, List.setIfInBounds_toArray, List.set_cons_zero, List.set_cons_succ]
  refine wpAnyH_take (i := 5) (v := ?v5) (by simp only [List.getElem?_toArray, List.getElem?_cons_succ, List.getElem?_cons_zero]; rfl) (by kernel_rfl) (by kernel_rfl) (by kernel_rfl) (by exact fun _ _ _ h => h) (Or.inl ⟨by rfl, ?hy5⟩) (by assumption) ?_
  case hy5 => (intro w hSw; (try dsimp only at hSw); go_simp; try (with_reducible rfl))
  try simp only [Act.put, List.setIfInBounds_toArray, List.set_cons_zero, List.set_cons_succ]
  refine wpAnyH_done (by kernel_rfl) ?_ _
  go_wp2
  go_ret
  exact ⟨rfl, HW.out.trans (hb7.mono HW.out.size)⟩
end Go.Proofs.Ytfcnclnebnmdiaa
