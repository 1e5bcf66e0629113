/-
  Whether registers are unlike, whether a machine is right. No condition beyond those that each theorem states.
-/
import Derived.Test.YtbjmbahpcoanoaaGreatDoorPk4
import Derived.Laws.CopyOwn
import Derived.Deep.CutRange
import Derived.Laws.Tables
import Derived.Deep.RegionHeld3
import Derived.Deep.MidRow
namespace Go.Proofs.YtbjmbahpcoanoaaGreatDoor
open Go.RowKit

set_option maxHeartbeats 1000000 in
set_option maxRecDepth 100000 in
theorem areRegs_any (m : Mm) (aa sa : Option Addr) (ac sc : Nat) (l : List Int) (a : Option Addr) (c : Nat) (w : World) (hl : l.length ≤ 140737488355328) (hI : IntsW w a l) :
    Calls Tryz.prog 81 #[machV m aa ac sa sc, .slice a l.length c] w fun e w' => e = .returned (.bool (l.all m.regB)) ∧ Below w.heap.size w w' := by
 have HB0 : Hid (Below w.heap.size w (w.alloc (.cells (maxC m aa ac sa sc) 39))) := (Below.refl _ w).alloc (Nat.le_refl _) _
 have HX0 : Hid (Blk (w.alloc (.cells (maxC m aa ac sa sc) 39)) w.heap.size 39 (maxC m aa ac sa sc)) := Blk.new w _ _
 have HI := Lib.hid hI
 clear hI
 have HM : Hid (maxC m aa ac sa sc = _) := maxC.eq_1 m aa ac sa sc
 unfold machV
 rw [HM.out] at HB0 HX0 ⊢
 go_enter Tryz.func81, Tryz.ntmps81
 go_wp2
 go_loopw [9] (fun k wr => ∃ j : Nat, k = .int .i64 j ∧ j ≤ l.length ∧ Hid (l.all m.regB = (l.drop j).all m.regB) ∧ Blk wr w.heap.size 39 (maxC m aa ac sa sc) ∧ Below w.heap.size w wr) (fun k _ => l.length - (intOf k).toNat)
 case atStart => exact ⟨0, rfl, Nat.zero_le _, rfl, by rw [HM.out]; exact HX0.out, HB0.out⟩
 case round =>
  obtain ⟨j, rfl, hj, HA, hX, hB⟩ := hrel
  have HX := Lib.hid hX
  have HB := Lib.hid hB
  clear hX hB HX0 HB0
  by_cases hlt : j < l.length
  · have hlt' : (j : Int) < l.length := by omega
    have hj0 : (0 : Int) ≤ j := by omega
    obtain ⟨x, hx⟩ : ∃ x, l[j]? = some x := ⟨_, List.getElem?_eq_getElem hlt⟩
    obtain ⟨g, o, rfl, hg, h0⟩ := (HI.out.below HB.out) j x hx
    have HD : Hid (l.all m.regB = (m.regB x && (l.drop (j + 1)).all m.regB)) := by
     show _ = _
     rw [HA.out, List.drop_eq_getElem_cons hlt, (List.getElem?_eq_some_iff.1 hx).2]
     rfl
    clear hx HA
    obtain ⟨c0, _, _, _⟩ := boxMa HX.out
    by_cases h1 : x < 0
    · go_wp2
      go_ret
      exact ⟨by rw [HD.out]; simp [Mm.regB]; intro h; omega, HB.out⟩
    · by_cases h2 : m.regs ≤ x
      · go_wp2
        go_ret
        exact ⟨by rw [HD.out]; simp [Mm.regB]; intro h h'; omega, HB.out⟩
      · have HE : Hid (l.all m.regB = (l.drop (j + 1)).all m.regB) := by
          show _ = _
          rw [HD.out]
          have : m.regB x = true := by simp [Mm.regB]; omega
          rw [this]
          rfl
        go_wp2
        go_roundw
        case rel => exact ⟨j + 1, by go_num, by omega, HE, HX.out, HB.out⟩
        case measure => simp [intOf]; omega
  · have e : j = l.length := by omega
    subst e
    go_wp2
    go_ret
    exact ⟨by rw [HA.out]; simp, HB.out⟩

set_option maxHeartbeats 1000000 in
set_option maxRecDepth 100000 in
theorem rise_any (l : List Int) (a : Option Addr) (c : Nat) (w : World) (hl : l.length ≤ 140737488355328) (hI : IntsW w a l) :
    Calls Tryz.prog 83 #[.slice a l.length c] w fun e w' => e = .returned (.bool (riseB l)) ∧ Below w.heap.size w w' := by
 have HI := Lib.hid hI
 clear hI
 go_enter Tryz.func83, Tryz.ntmps83
 go_wp2
 go_loopw [3] (fun k wr => ∃ i : Int, k = .int .i64 i ∧ 1 ≤ i ∧ (i ≤ l.length ∨ i = 1) ∧ Hid (riseB l = riseB (l.drop (i - 1).toNat)) ∧ Below w.heap.size w wr) (fun k _ => l.length + 1 - (intOf k).toNat)
 case atStart => exact ⟨1, rfl, Int.le_refl _, .inr rfl, rfl, Below.refl _ _⟩
 case round =>
  obtain ⟨i, rfl, hi1, hi2, HA, hB⟩ := hrel
  have HB := Lib.hid hB
  clear hB
  by_cases hlt : i < l.length
  · have hm0 : 0 ≤ i := by omega
    have hm1 : 0 ≤ i - 1 := by omega
    have hm2 : i - 1 < l.length := by omega
    have hbig : i ≤ 140737488355328 := by omega
    have hwr : IntKind.i64.wrap (i - 1) = i - 1 := by rw [IntKind.wrap_i64]; omega
    obtain ⟨x, hx⟩ : ∃ x, l[(i - 1).toNat]? = some x := ⟨_, List.getElem?_eq_getElem (by omega)⟩
    obtain ⟨y, hy⟩ : ∃ y, l[i.toNat]? = some y := ⟨_, List.getElem?_eq_getElem (by omega)⟩
    obtain ⟨g, o, rfl, hg, h0⟩ := (HI.out.below HB.out) _ x hx
    obtain ⟨g', o', e, _, h1⟩ := (HI.out.below HB.out) _ y hy
    simp only [Option.some.injEq, Addr.mk.injEq, and_true] at e
    obtain ⟨rfl, rfl⟩ := e
    rw [show (i - 1).toNat = i.toNat - 1 by omega] at h0
    have HD : Hid (riseB l = (decide (x < y) && riseB (l.drop (i + 1 - 1).toNat))) := by
     show _ = _
     have e1 : (i - 1).toNat < l.length := by omega
     have e2 : (i - 1).toNat + 1 = i.toNat := by omega
     have e3 : i.toNat < l.length := by omega
     have e4 : (i + 1 - 1).toNat = i.toNat := by omega
     rw [HA.out, e4, List.drop_eq_getElem_cons e1, (List.getElem?_eq_some_iff.1 hx).2, e2, List.drop_eq_getElem_cons e3, (List.getElem?_eq_some_iff.1 hy).2]
     rfl
    clear hx hy HA
    by_cases h2 : y ≤ x
    · go_wp2
      go_quiet (fail)
      go_wp2
      go_ret
      exact ⟨by rw [HD.out]; simp; intro h; omega, below_draws HB.out _⟩
    · have HE : Hid (riseB l = riseB (l.drop (i + 1 - 1).toNat)) := by
        show _ = _
        rw [HD.out]
        simp
        intro h
        omega
      go_wp2
      go_quiet (fail)
      go_wp2
      go_roundw
      case rel => exact ⟨i + 1, by go_num, by omega, by omega, HE, below_draws HB.out _⟩
      case measure => simp [intOf]; omega
  · have HE : Hid (riseB l = true) := by
      show _ = _
      rw [HA.out]
      have : (l.drop (i - 1).toNat).length ≤ 1 := by simp; omega
      match l.drop (i - 1).toNat, this with
      | [], _ => rfl
      | [_], _ => rfl
    go_wp2
    go_ret
    exact ⟨by rw [HE.out]; rfl, HB.out⟩
end Go.Proofs.YtbjmbahpcoanoaaGreatDoor
namespace Go.Proofs.YtbjmbahpcoanoaaGreatDoor
open Go.RowKit

theorem ma_zero : (Tryz.prog.info? 128).map (fun i => (i.zero, i.size)) = some (some (.agg (Array.replicate 64 (.bool false))), 64) := by kernel_rfl
theorem ma_zeroV (W : World) : (zeroValue 128).run Tryz.prog W = .ok (.agg (maC [])) W := by
 rw [maC_nil]
 exact (zero_of_info ma_zero).1 W
theorem maC_szS (S : List Int) : (Tryz.prog.info? 128).map (·.size) = some (maC S).size := by rw [maC_size]; exact ma_size
theorem Blk.row {w : World} {g : Nat} {t : TypeId} {cs : Array Value} (h : Blk w g t cs) (cs' : Array Value) : Blk (w.setRow g cs') g t cs' := setRow_heap w g cs cs' t (0, 0) h
theorem Blk.rowFar {w : World} {g k : Nat} {t : TypeId} {cs : Array Value} (h : Blk w g t cs) (hk : g ≠ k) (cs' : Array Value) : Blk (w.setRow k cs') g t cs := (setRow_other w k g cs' hk).trans h
theorem maC_store (S : List Int) (u : Nat) (hu : u < 64) : (maC S).setIfInBounds u (.bool true) = maC ((u : Int) :: S) := maC_put S hu
theorem range_of {w : World} {g : Nat} {t : TypeId} {cs : Array Value} (h : Blk w g t cs) : w.rangeAt g 0 cs.toList := fun j v hv => by
 rw [Nat.zero_add, h.cell]
 simpa using hv
set_option maxHeartbeats 2000000 in
set_option maxRecDepth 100000 in
theorem withR_any (S l : List Int) (a : Option Addr) (c : Nat) (w : World) (hl : l.length ≤ 1000000) (hv : ∀ r ∈ l, 0 ≤ r ∧ r < 64) (hI : IntsW w a l) :
    Calls Tryz.prog 133 #[maV S, .slice a l.length c] w fun e w' => e = .returned (maV (l ++ S)) ∧ Below w.heap.size w w' := by
 have HI := Lib.hid hI
 clear hI
 have hz := ma_zeroV
 unfold maV
 go_enter Tryz.func133, Tryz.ntmps133
 go_wp2
 go_loopw [9] (fun k wr => ∃ j : Nat, k = .int .i64 j ∧ j ≤ l.length ∧ Blk wr w.heap.size 128 (maC ((l.take j).reverse ++ S)) ∧ Blk wr (w.heap.size + 1) 128 (maC []) ∧ Below w.heap.size w wr) (fun k _ => l.length - (intOf k).toNat)
 case atStart =>
  have h1 := Blk.new (w.alloc (.cells (maC S) 128)) 128 (maC [])
  have h2 : Below w.heap.size w (w.alloc (.cells (maC S) 128)) := (Below.refl _ w).alloc (Nat.le_refl _) _
  exact ⟨0, rfl, Nat.zero_le _, (Blk.new w _ _).alloc _, by simpa using h1, h2.alloc h2.size _⟩
 case round =>
  obtain ⟨j, rfl, hj, hX, hZ, hB⟩ := hrel
  have HX := Lib.hid hX
  have HZ := Lib.hid hZ
  have HB := Lib.hid hB
  clear hX hZ hB
  by_cases hlt : j < l.length
  · have hlt' : (j : Int) < l.length := by omega
    have hj0 : (0 : Int) ≤ j := by omega
    obtain ⟨x, hx⟩ : ∃ x, l[j]? = some x := ⟨_, List.getElem?_eq_getElem hlt⟩
    obtain ⟨g, p, rfl, hg, h0⟩ := (HI.out.below HB.out) j x hx
    obtain ⟨hx0, hx1⟩ := hv x (List.mem_of_getElem? hx)
    obtain ⟨u, rfl⟩ := Int.eq_ofNat_of_zero_le hx0
    have hu : u < 64 := by omega
    have hT : Hid (maC ((l.take (j + 1)).reverse ++ S) = (maC ((l.take j).reverse ++ S)).setIfInBounds u (.bool true)) := by
     show _ = _
     rw [maC_put _ hu, List.take_add_one, hx]
     simp
    have cu := (HX.out.cell u).trans (maC_get _ hu)
    have fu := HX.out.free u
    have HX2 : Hid (Blk (wr.setCell ⟨w.heap.size, u, none⟩ (.bool true)) w.heap.size 128 (maC ((l.take (j + 1)).reverse ++ S))) := by
     have := HX.out.put u (.bool true)
     rw [← hT.out] at this
     exact this
    have HZ2 : Hid (Blk (wr.setCell ⟨w.heap.size, u, none⟩ (.bool true)) (w.heap.size + 1) 128 (maC [])) := HZ.out.far (by simp) _
    have HB2 : Hid (Below w.heap.size w (wr.setCell ⟨w.heap.size, u, none⟩ (.bool true))) := HB.out.setCell (Nat.le_refl _) _
    clear hx hT HX HZ
    go_wp2
    go_roundw
    case rel => exact ⟨j + 1, by go_num, by omega, HX2.out, HZ2.out, HB2.out⟩
    case measure => simp [intOf]; omega
  · have e : j = l.length := by omega
    subst e
    have HE : Hid (maC ((l.take l.length).reverse ++ S) = maC (l ++ S)) := by
     show _ = _
     rw [List.take_length, maC_fold]
    rw [HE.out] at HX
    clear hlt hj
    go_upto_region 6 with fail
    apply wp_region_lit
    refine wpList_load_row rfl 128 _ rfl w.heap.size rfl 128 (maC (l ++ S)) (0, 0) _ HX.out Tryz.underlying128 rfl (maC_szS _) ?_
    refine wpList_store_row rfl 128 _ _ rfl (w.heap.size + 1) (maC (l ++ S)) rfl rfl 128 _ HZ.out (maC_szS _) (by rw [maC_size, maC_size]) (maC_one _) ?_
    apply wpList_nil
    have HR : Hid (Blk (wr.setRow (w.heap.size + 1) (maC (l ++ S))) (w.heap.size + 1) 128 (maC (l ++ S))) := HZ.out.row _
    have HK : Hid (Below w.heap.size w (wr.setRow (w.heap.size + 1) (maC (l ++ S)))) := below_setRow HB.out (by omega) _
    clear HX HZ HB hz
    simp only [Exit.then]
    go_wp2
    (try simp only [Exit.then])
    refine bodyPost_ret (results_cell_row rfl _ _ (w.heap.size + 1) 128 _ (0, 0) _ (by rfl) HR.out Tryz.underlying128 rfl (maC_szS _)) rfl ?_
    exact ⟨rfl, HK.out⟩
set_option maxHeartbeats 2000000 in
set_option maxRecDepth 100000 in
theorem setOf_any (l : List Int) (a : Option Addr) (c : Nat) (w : World) (hl : l.length ≤ 1000000) (hv : ∀ r ∈ l, 0 ≤ r ∧ r < 64) (hI : IntsW w a l) :
    Calls Tryz.prog 84 #[.slice a l.length c] w fun e w' => e = .returned (maV l) ∧ Below w.heap.size w w' := by
 have hz := ma_zeroV
 have HX : Hid (Blk (w.alloc (.cells (maC []) 128)) w.heap.size 128 (maC [])) := Blk.new w _ _
 have HB : Hid (Below w.heap.size w (w.alloc (.cells (maC []) 128))) := (Below.refl _ w).alloc (Nat.le_refl _) _
 have HC := Lib.hid (withR_any [] l a c (w.alloc (.cells (maC []) 128)) hl hv (hI.below HB.out))
 unfold maV at HC ⊢
 rw [List.append_nil] at HC
 clear hI
 go_enter Tryz.func84, Tryz.ntmps84
 go_upto_region 1 with fail
 apply wp_region_lit
 refine wpList_build rfl 128 #[] rfl (by kernel_rfl) ?_
 rw [show ((Tryz.prog.built 128 (Array.map (fun (p : Nat × Operand) => (p.1, Act.eval _ p.2)) #[]).toList).getD #[]) = maC [] by kernel_rfl]
 simp only [Act.put, List.setIfInBounds_toArray, List.set_cons_zero, List.set_cons_succ]
 go_wp2_with fail
 refine HC.out.mono ?_
 rintro e w1 ⟨rfl, hb⟩
 rename_i K2 hK2
 dsimp only
 refine hK2 _ _ ?_
 have HX1 : Hid (Blk w1 w.heap.size 128 (maC [])) := HX.out.below hb HX.out.lt
 refine wpList_store_row rfl 128 _ _ rfl w.heap.size (maC l) rfl rfl 128 _ HX1.out (maC_szS _) (by rw [maC_size, maC_size]) (maC_one _) ?_
 apply wpList_nil
 have HR : Hid (Blk (w1.setRow w.heap.size (maC l)) w.heap.size 128 (maC l)) := HX1.out.row _
 have HK : Hid (Below w.heap.size w (w1.setRow w.heap.size (maC l))) := below_setRow (HB.out.trans (hb.mono HB.out.size)) (Nat.le_refl _) _
 clear HX HX1 HB hz hb hK2 K2 HC
 simp only [Exit.then]
 go_wp2
 (try simp only [Exit.then])
 refine bodyPost_ret (results_cell_row rfl _ _ w.heap.size 128 _ (0, 0) _ (by rfl) HR.out Tryz.underlying128 rfl (maC_szS _)) rfl ?_
 exact ⟨rfl, HK.out⟩
set_option maxHeartbeats 2000000 in
set_option maxRecDepth 100000 in
theorem hasR_any (S l : List Int) (a : Option Addr) (c : Nat) (w : World) (hl : l.length ≤ 1000000) (hv : ∀ r ∈ l, 0 ≤ r ∧ r < 64) (hI : IntsW w a l) :
    Calls Tryz.prog 85 #[maV S, .slice a l.length c] w fun e w' => e = .returned (.bool (inB S l)) ∧ Below w.heap.size w w' := by
 have HQ := Lib.hid (fun W => eql_ma (l ++ S) S W)
 rw [eql_in hv] at HQ
 have HX : Hid (Blk (w.alloc (.cells (maC S) 128)) w.heap.size 128 (maC S)) := Blk.new w _ _
 have HW : Hid (Below w.heap.size w (w.alloc (.cells (maC S) 128))) := (Below.refl _ w).alloc (Nat.le_refl _) _
 have HC : Hid (∀ w1, Below (w.alloc (.cells (maC S) 128)).heap.size (w.alloc (.cells (maC S) 128)) w1 → Calls Tryz.prog 133 #[.agg (maC S), .slice a l.length c] w1 fun e w' => e = .returned (.agg (maC (l ++ S))) ∧ Below (w.alloc (.cells (maC S) 128)).heap.size (w.alloc (.cells (maC S) 128)) w') := fun w1 h1 =>
  (withR_any S l a c w1 hl hv ((hI.below HW.out).below h1)).mono fun e w' ⟨h2, h3⟩ => ⟨h2, h1.trans (h3.mono h1.size)⟩
 unfold maV
 clear hI
 go_enter Tryz.func85, Tryz.ntmps85
 go_upto_region 1 with fail
 have hu := Tryz.underlying128
 have hi : (Tryz.prog.info? 128).map (·.size) = some (maC S).toList.length := by rw [Array.length_toList]; exact maC_szS S
 have R0 : Hid ((w.alloc (.cells (maC S) 128)).rangeAt w.heap.size 0 (maC S).toList) := range_of HX.out
 refine wp_region_held_drew (S := fun w' => Below (w.alloc (.cells (maC S) 128)).heap.size (w.alloc (.cells (maC S) 128)) w' ∧ w'.rangeAt w.heap.size 0 (maC S).toList) (by kernel_rfl) ?_ (fun hHeld => ?_)
 · exact ⟨(Below.refl _ _).drew, R0.out⟩
 refine wpAnyH_take (i := 0) (v := _) (by simp only [List.getElem?_toArray, List.getElem?_cons_zero]; rfl) (by kernel_rfl) (by kernel_rfl) (by kernel_rfl) (by exact fun _ _ _ h => h) (yieldsIf_load_mid (by rfl) _ _ rfl w.heap.size 0 rfl (maC S).toList _ (fun w' h => h.2) hu rfl hi) (by assumption) ?_
 try simp only [Act.put, List.setIfInBounds_toArray, List.set_cons_zero, List.set_cons_succ, Array.toArray_toList]
 refine wpAnyH_take (i := 1) (v := ?v2) (by simp only [List.getElem?_toArray, List.getElem?_cons_succ, List.getElem?_cons_zero]; rfl) (by kernel_rfl) (by kernel_rfl) (by kernel_rfl) (by exact fun _ _ _ h => h) (Or.inl ⟨by rfl, ?hy2⟩) (by assumption) ?_
 case hy2 => (intro w hSw; (try dsimp only at hSw); go_simp; try (with_reducible rfl))
 try simp only [Act.put, List.setIfInBounds_toArray, List.set_cons_zero, List.set_cons_succ]
 refine wpAnyH_take (i := 3) (v := _) (by simp only [List.getElem?_toArray, List.getElem?_cons_succ, List.getElem?_cons_zero]; rfl) (by kernel_rfl) (by kernel_rfl) (by kernel_rfl) (by exact fun _ _ _ h => h) (yieldsIf_load_mid (by rfl) _ _ rfl w.heap.size 0 rfl (maC S).toList _ (fun w' h => h.2) hu rfl hi) (by assumption) ?_
 try simp only [Act.put, List.setIfInBounds_toArray, List.set_cons_zero, List.set_cons_succ, Array.toArray_toList]
 refine wpAnyH_ready (rs := [2]) (by kernel_rfl) (by simp) ?_
 refine AllReadyH.cons (by simp only [List.getElem?_toArray, List.getElem?_cons_succ, List.getElem?_cons_zero]; rfl) (fun K hK => ?_) AllReadyH.nil
 go_simp
 go_at_call 133
 refine (HC.out _ (by go_split_ands; assumption)).mono ?_
 rintro e w7 ⟨rfl, hb7⟩
 (try go_wp2_with fail)
 refine hK.out _ _ ?_ (fun hHeld2 => ?_)
 · exact ⟨hb7, range_of (HX.out.below hb7 HX.out.lt)⟩
 clear hK K hHeld
 have hHeld := hHeld2
 clear hHeld2
 have hq := HQ.out
 try simp only [Act.put, List.setIfInBounds_toArray, List.set_cons_zero, List.set_cons_succ]
 refine wpAnyH_take (i := 4) (v := ?v4) (by simp only [List.getElem?_toArray, List.getElem?_cons_succ, List.getElem?_cons_zero]; rfl) (by kernel_rfl) (by kernel_rfl) (by kernel_rfl) (by exact fun _ _ _ h => h) (Or.inl ⟨by rfl, ?hy4⟩) (by assumption) ?_
 case hy4 => (intro w hSw; (try dsimp only at hSw); go_simp; try (with_reducible rfl))
 try simp only [Act.put, List.setIfInBounds_toArray, List.set_cons_zero, List.set_cons_succ]
 refine wpAnyH_take (i := 5) (v := ?v5) (by simp only [List.getElem?_toArray, List.getElem?_cons_succ, List.getElem?_cons_zero]; rfl) (by kernel_rfl) (by kernel_rfl) (by kernel_rfl) (by exact fun _ _ _ h => h) (Or.inl ⟨by rfl, ?hy5⟩) (by assumption) ?_
 case hy5 => (intro w hSw; (try dsimp only at hSw); go_simp; try (with_reducible rfl))
 try simp only [Act.put, List.setIfInBounds_toArray, List.set_cons_zero, List.set_cons_succ]
 refine wpAnyH_done (by kernel_rfl) ?_ _
 go_wp2
 go_ret
 exact ⟨rfl, HW.out.trans (hb7.mono HW.out.size)⟩
end Go.Proofs.YtbjmbahpcoanoaaGreatDoor
namespace Go.Proofs.YtbjmbahpcoanoaaGreatDoor
open Go.RowKit

theorem inB_one (S : List Int) (x : Int) : inB S [x] = S.contains x := by simp [inB]
set_option maxHeartbeats 2000000 in
set_option maxRecDepth 100000 in
theorem unlike_any (l : List Int) (a : Option Addr) (c : Nat) (w : World) (hl : l.length ≤ 1000000) (hv : ∀ r ∈ l, 0 ≤ r ∧ r < 64) (hI : IntsW w a l) :
    Calls Tryz.prog 82 #[.slice a l.length c] w fun e w' => e = .returned (.bool (unlikeB [] l)) ∧ Below w.heap.size w w' := by
 have HI := Lib.hid hI
 clear hI
 have hz := ma_zeroV
 go_enter Tryz.func82, Tryz.ntmps82
 go_wp2
 go_loopw [8] (fun k wr => ∃ (j : Nat) (S : List Int), k = .int .i64 j ∧ j ≤ l.length ∧ Hid (unlikeB [] l = unlikeB S (l.drop j)) ∧ Blk wr w.heap.size 128 (maC S) ∧ Below w.heap.size w wr) (fun k _ => l.length - (intOf k).toNat)
 case atStart => exact ⟨0, [], rfl, Nat.zero_le _, rfl, Blk.new w _ _, (Below.refl _ w).alloc (Nat.le_refl _) _⟩
 case round =>
  obtain ⟨j, S, rfl, hj, HA, hX, hB⟩ := hrel
  have HX := Lib.hid hX
  have HB := Lib.hid hB
  clear hX hB hz
  by_cases hlt : j < l.length
  · have hlt' : (j : Int) < l.length := by omega
    have hj0 : (0 : Int) ≤ j := by omega
    obtain ⟨x, hx⟩ : ∃ x, l[j]? = some x := ⟨_, List.getElem?_eq_getElem hlt⟩
    obtain ⟨g, p, rfl, hg, h0⟩ := (HI.out.below HB.out) j x hx
    have hv1 : ∀ r ∈ [x], 0 ≤ r ∧ r < 64 := fun r hr => by
     simp at hr
     rw [hr]
     exact hv x (List.mem_of_getElem? hx)
    have HD : Hid (unlikeB [] l = (!(S.contains x) && unlikeB (x :: S) (l.drop (j + 1)))) := by
     show _ = _
     rw [HA.out, List.drop_eq_getElem_cons hlt, (List.getElem?_eq_some_iff.1 hx).2]
     rfl
    clear hx HA
    have one : ∀ W : World, Hid (IntsW (W.alloc (.cells #[.int .i64 x] 3)) (some ⟨W.heap.size, 0, none⟩) [x]) := fun W => IntsW.row (Blk.new W _ _) (fun k y hy => by
     cases k with
     | zero => simpa using hy
     | succ k => simp at hy)
    have HH := Lib.hid (hasR_any S [x] _ 1 (wr.alloc (.cells #[.int .i64 x] 3)) (by simp) hv1 (one wr).out)
    rw [inB_one] at HH
    have HWi := Lib.hid (fun W => withR_any S [x] _ 1 (W.alloc (.cells #[.int .i64 x] 3)) (by simp) hv1 (one W).out)
    unfold maV at HH HWi
    have HB1 : Hid (Below wr.heap.size wr (wr.alloc (.cells #[.int .i64 x] 3))) := (Below.refl _ _).alloc (Nat.le_refl _) _
    go_upto_region 5 with fail
    apply wp_region_lit
    refine wpList_load_row rfl 128 _ rfl w.heap.size rfl 128 (maC S) (0, 0) _ HX.out Tryz.underlying128 rfl (maC_szS _) ?_
    simp only [Act.put, List.setIfInBounds_toArray, List.set_cons_zero, List.set_cons_succ]
    go_wp2_with fail
    refine HH.out.mono ?_
    rintro e w1 ⟨rfl, hb⟩
    have HB2 : Hid (Below wr.heap.size wr w1) := HB1.out.trans (hb.mono HB1.out.size)
    clear hb HH
    cases hc : S.contains x
    · rw [hc] at HD
      have HX2 : Hid (Blk w1 w.heap.size 128 (maC S)) := HX.out.below HB2.out HX.out.lt
      have HB3 : Hid (Below w.heap.size w w1) := HB.out.trans (HB2.out.mono HB.out.size)
      have HWj := Lib.hid (HWi.out w1)
      have HB4 : Hid (Below w1.heap.size w1 (w1.alloc (.cells #[.int .i64 x] 3))) := (Below.refl _ _).alloc (Nat.le_refl _) _
      clear HX HB HB1 HB2 HWi h0 hg
      go_upto_region 7 with fail
      apply wp_region_lit
      refine wpList_load_row rfl 128 _ rfl w.heap.size rfl 128 (maC S) (0, 0) _ HX2.out Tryz.underlying128 rfl (maC_szS _) ?_
      simp only [Act.put, List.setIfInBounds_toArray, List.set_cons_zero, List.set_cons_succ]
      go_wp2_with fail
      refine HWj.out.mono ?_
      rintro e w2 ⟨rfl, hb⟩
      have HB5 : Hid (Below w1.heap.size w1 w2) := HB4.out.trans (hb.mono HB4.out.size)
      have HX5 : Hid (Blk w2 w.heap.size 128 (maC S)) := HX2.out.below HB5.out HX2.out.lt
      have HR : Hid (Blk (w2.setRow w.heap.size (maC ([x] ++ S))) w.heap.size 128 (maC ([x] ++ S))) := HX5.out.row _
      have HK : Hid (Below w.heap.size w (w2.setRow w.heap.size (maC ([x] ++ S)))) := below_setRow (HB3.out.trans (HB5.out.mono HB3.out.size)) (Nat.le_refl _) _
      clear hb HWj HB4 HB3 HX2
      rename_i K2 hK2
      dsimp only
      refine hK2 _ _ ?_
      refine wpList_store_row rfl 128 _ _ rfl w.heap.size (maC ([x] ++ S)) rfl rfl 128 _ HX5.out (maC_szS _) (by rw [maC_size, maC_size]) (maC_one _) ?_
      apply wpList_nil
      clear hK2 K2 HX5 HB5
      generalize w2.setRow w.heap.size (maC ([x] ++ S)) = w3 at *
      simp only [Act.put]
      go_wp2
      go_roundw
      case rel => exact ⟨j + 1, [x] ++ S, by go_num, by omega, by have := HD.out; simpa [Hid] using this, HR.out, HK.out⟩
      case measure => simp [intOf]; omega
    · rw [hc] at HD
      go_wp2
      go_ret
      exact ⟨by rw [HD.out]; simp, HB.out.trans (HB2.out.mono HB.out.size)⟩
  · have e : j = l.length := by omega
    subst e
    have HE : Hid (unlikeB [] l = true) := by
     show _ = _
     rw [HA.out]
     simp [unlikeB]
    go_wp2
    go_ret
    exact ⟨by rw [HE.out]; rfl, HB.out⟩
end Go.Proofs.YtbjmbahpcoanoaaGreatDoor
