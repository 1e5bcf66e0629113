/-
  Rows of sets and of truths in memory; whether a truth is in a row; what blocks define. No condition beyond those that each theorem states.
  What each block defines, in a row. No condition beyond those that each theorem states.
-/
import Derived.Test.YthiipgahbmoiiaaGreatDoorPk47
namespace Go.Proofs.YthiipgahbmoiiaaGreatDoor
open Go.RowKit

def setsC (l : List Nat) : Array Value := Array.ofFn (n := l.length * 4) fun i => .int .u64 (wordM (l.getD (i.1 / 4) 0) (i.1 % 4))
theorem setsC_get {l : List Nat} {b : Nat} (hb : b < l.length) {j : Nat} (hj : j < 4) : (setsC l)[b * 4 + j]? = some (.int .u64 (wordM (l.getD b 0) j)) := by
  unfold setsC
  rw [Array.getElem?_ofFn, dif_pos (by omega)]
  have h1 : (b * 4 + j) / 4 = b := by omega
  have h2 : (b * 4 + j) % 4 = j := by omega
  simp only [h1, h2]
theorem setsC_set {l : List Nat} {b : Nat} (hb : b < l.length) (N : Nat) :
    ((((setsC l).setIfInBounds (b * 4) (.int .u64 (wordM N 0))).setIfInBounds (b * 4 + 1) (.int .u64 (wordM N 1))).setIfInBounds (b * 4 + 2) (.int .u64 (wordM N 2))).setIfInBounds (b * 4 + 3) (.int .u64 (wordM N 3)) = setsC (l.set b N) := by
  have hsz : (setsC l).size = l.length * 4 := by simp [setsC]
  apply Array.ext_getElem?
  intro i
  simp only [Array.getElem?_setIfInBounds, Array.size_setIfInBounds, hsz]
  unfold setsC
  simp only [Array.getElem?_ofFn, List.length_set]
  by_cases hi : i < l.length * 4
  · simp only [hi, dif_pos]
    by_cases hbi : i / 4 = b
    · have hq : (l.set b N).getD (i / 4) 0 = N := by
        rw [hbi, List.getD_eq_getElem?_getD, List.getElem?_set]
        simp [hb]
      rw [hq]
      have h4 : i = b * 4 ∨ i = b * 4 + 1 ∨ i = b * 4 + 2 ∨ i = b * 4 + 3 := by omega
      have hm : i % 4 = i - b * 4 := by omega
      rcases h4 with h | h | h | h
      · have n1 : ¬ b * 4 + 3 = i := by omega
        have n2 : ¬ b * 4 + 2 = i := by omega
        have n3 : ¬ b * 4 + 1 = i := by omega
        have n4 : b * 4 = i := by omega
        have : i % 4 = 0 := by omega
        rw [if_neg n1, if_neg n2, if_neg n3, if_pos n4, if_pos (by omega), this]
      · have n1 : ¬ b * 4 + 3 = i := by omega
        have n2 : ¬ b * 4 + 2 = i := by omega
        have n3 : b * 4 + 1 = i := by omega
        have : i % 4 = 1 := by omega
        rw [if_neg n1, if_neg n2, if_pos n3, if_pos (by omega), this]
      · have n1 : ¬ b * 4 + 3 = i := by omega
        have n2 : b * 4 + 2 = i := by omega
        have : i % 4 = 2 := by omega
        rw [if_neg n1, if_pos n2, if_pos (by omega), this]
      · have n1 : b * 4 + 3 = i := by omega
        have : i % 4 = 3 := by omega
        rw [if_pos n1, if_pos (by omega), this]
    · have hq : (l.set b N).getD (i / 4) 0 = l.getD (i / 4) 0 := by
        rw [List.getD_eq_getElem?_getD, List.getElem?_set, if_neg (fun e => hbi e.symm), ← List.getD_eq_getElem?_getD]
      rw [hq]
      have n1 : ¬ b * 4 + 3 = i := by omega
      have n2 : ¬ b * 4 + 2 = i := by omega
      have n3 : ¬ b * 4 + 1 = i := by omega
      have n4 : ¬ b * 4 = i := by omega
      simp only [n1, n2, n3, n4, if_false]
  · have n1 : ¬ b * 4 + 3 = i := by omega
    have n2 : ¬ b * 4 + 2 = i := by omega
    have n3 : ¬ b * 4 + 1 = i := by omega
    have n4 : ¬ b * 4 = i := by omega
    simp only [hi, n1, n2, n3, n4, if_false, dif_neg, not_false_eq_true]
theorem boxR {W : World} {g : Nat} {t : TypeId} {l : List Nat} {b : Nat} (h : Blk W g t (setsC l)) (hb : b < l.length) :
    W.cell? ⟨g, b * 4, none⟩ = some (.int .u64 (wordM (l.getD b 0) 0)) ∧ W.cell? ⟨g, b * 4 + 1, none⟩ = some (.int .u64 (wordM (l.getD b 0) 1)) ∧ W.cell? ⟨g, b * 4 + 2, none⟩ = some (.int .u64 (wordM (l.getD b 0) 2)) ∧ W.cell? ⟨g, b * 4 + 3, none⟩ = some (.int .u64 (wordM (l.getD b 0) 3)) :=
  ⟨(h.cell _).trans (setsC_get hb (j := 0) (by omega)), (h.cell _).trans (setsC_get hb (j := 1) (by omega)), (h.cell _).trans (setsC_get hb (j := 2) (by omega)), (h.cell _).trans (setsC_get hb (j := 3) (by omega))⟩
theorem boxRF {W : World} {g : Nat} {t : TypeId} {cs : Array Value} (h : Blk W g t cs) (b : Nat) :
    W.frozen? ⟨g, b * 4, none⟩ = false ∧ W.frozen? ⟨g, b * 4 + 1, none⟩ = false ∧ W.frozen? ⟨g, b * 4 + 2, none⟩ = false ∧ W.frozen? ⟨g, b * 4 + 3, none⟩ = false := ⟨h.free _, h.free _, h.free _, h.free _⟩
theorem blk_row {W : World} {g : Nat} {t : TypeId} {l : List Nat} {b : Nat} (h : Blk W g t (setsC l)) (hb : b < l.length) (N : Nat) :
    Blk ((((W.setCell ⟨g, b * 4, none⟩ (.int .u64 (wordM N 0))).setCell ⟨g, b * 4 + 1, none⟩ (.int .u64 (wordM N 1))).setCell ⟨g, b * 4 + 2, none⟩ (.int .u64 (wordM N 2))).setCell ⟨g, b * 4 + 3, none⟩ (.int .u64 (wordM N 3))) g t (setsC (l.set b N)) := by
  have h4 := (((h.put (b * 4) (.int .u64 (wordM N 0))).put (b * 4 + 1) (.int .u64 (wordM N 1))).put (b * 4 + 2) (.int .u64 (wordM N 2))).put (b * 4 + 3) (.int .u64 (wordM N 3))
  rw [setsC_set hb] at h4
  exact h4
theorem below_row {B : Nat} {A W : World} {g o : Nat} (h : Below B A W) (hg : B ≤ g) (a b c d : Value) : Below B A ((((W.setCell ⟨g, o, none⟩ a).setCell ⟨g, o + 1, none⟩ b).setCell ⟨g, o + 2, none⟩ c).setCell ⟨g, o + 3, none⟩ d) :=
  ((((h.setCell hg _).setCell hg _).setCell hg _).setCell hg _)
def truC (l : List Bool) : Array Value := (l.map Value.bool).toArray
theorem set_info : (Tryz.prog.info? 82).map (fun i => (i.zero, i.size, i.bytes)) = some (some (.agg #[.int .u64 0, .int .u64 0, .int .u64 0, .int .u64 0]), 4, 32) := by kernel_rfl
theorem bool_info : (Tryz.prog.info? 4).map (fun i => (i.zero, i.size, i.bytes)) = some (some (.bool false), 1, 1) := by kernel_rfl
theorem word_zero (j : Nat) : wordM 0 j = 0 := by unfold wordM; simp
/-- Sets, all empty. -/
theorem make_sets {n : Nat} (hn : n ≤ 1000000) (W : World) : (Instr.makeSlice 75 (.int .i64 n) (.int .i64 n)).run Tryz.prog W = .ok (.slice (some ⟨W.heap.size, 0, none⟩) n n) (W.alloc (.cells (setsC (List.replicate n 0)) 82)) := by
  obtain ⟨i, hi, hz, hs, hb⟩ := info_parts set_info
  have h := run_make (P := Tryz.prog) W 75 82 i _ Tryz.underlying75 hi hz .i64 .i64 (n : Int) (n : Int) (by omega) (Int.le_refl _) (by rw [hb]; omega) (by omega)
  rw [h, hs]
  simp only [Int.toNat_natCast]
  have e : madeCells (Value.agg #[.int .u64 0, .int .u64 0, .int .u64 0, .int .u64 0]).cells (n * 4) = setsC (List.replicate n 0) := by
    apply Array.ext_getElem?
    intro k
    unfold setsC madeCells
    simp only [Array.getElem?_ofFn, List.length_replicate, Array.getElem?_map, Array.getElem?_range]
    by_cases hk : k < n * 4
    · have hq : (List.replicate n 0).getD (k / 4) 0 = 0 := by
        rw [List.getD_eq_getElem?_getD, List.getElem?_replicate]
        split <;> rfl
      simp only [hk, dif_pos, if_true, Option.map_some, hq, word_zero]
      have h4 : k % 4 = 0 ∨ k % 4 = 1 ∨ k % 4 = 2 ∨ k % 4 = 3 := by omega
      have hc : (Value.agg #[.int .u64 0, .int .u64 0, .int .u64 0, .int .u64 0]).cells = #[.int .u64 0, .int .u64 0, .int .u64 0, .int .u64 0] := rfl
      rw [hc]
      rcases h4 with h | h | h | h <;> simp [h]
    · simp only [hk, dif_neg, if_false, Option.map_none, not_false_eq_true]
  rw [e]
/-- Truths, all false. -/
theorem make_truths {n : Nat} (hn : n ≤ 1000000) (W : World) : (Instr.makeSlice 76 (.int .i64 n) (.int .i64 n)).run Tryz.prog W = .ok (.slice (some ⟨W.heap.size, 0, none⟩) n n) (W.alloc (.cells (truC (List.replicate n false)) 4)) := by
  obtain ⟨i, hi, hz, hs, hb⟩ := info_parts bool_info
  have h := run_make (P := Tryz.prog) W 76 4 i _ Tryz.underlying76 hi hz .i64 .i64 (n : Int) (n : Int) (by omega) (Int.le_refl _) (by rw [hb]; omega) (by omega)
  rw [h, hs]
  simp only [Int.toNat_natCast, Nat.mul_one]
  have e : madeCells (Value.bool false).cells n = truC (List.replicate n false) := by
    have h1 := toList_madeCells_one (Value.bool false) n
    have h2 : (Value.bool false).cells = #[Value.bool false] := rfl
    rw [h2]
    apply Array.toList_inj.1
    rw [h1]
    unfold truC
    simp
  rw [e]
theorem truC_get {l : List Bool} {b : Nat} {x : Bool} (h : l[b]? = some x) : (truC l)[b]? = some (.bool x) := by
  unfold truC
  simp [h]
set_option maxHeartbeats 1000000 in
set_option maxRecDepth 100000 in
theorem index_any (l : List Bool) (g c : Nat) (w : World) (hl : l.length ≤ 1000000) (hB : Blk w g 4 (truC l)) :
    Calls Tryz.prog 99 #[.slice (some ⟨g, 0, none⟩) l.length c, .bool false] w fun e w' => (∃ n : Int, e = .returned (.int .i64 n) ∧ decide (0 ≤ n) = l.contains false) ∧ w = w' := by
  have HB := Lib.hid hB
  clear hB
  go_enter Tryz.func99, Tryz.ntmps99
  go_wp2
  go_loopw [8] (fun k wr => ∃ j : Nat, k = .int .i64 j ∧ j ≤ l.length ∧ Hid (l.contains false = (l.drop j).contains false) ∧ w = wr) (fun k _ => l.length - (intOf k).toNat)
  case atStart => exact ⟨0, rfl, Nat.zero_le _, rfl, rfl⟩
  case round =>
    obtain ⟨j, rfl, hj, HA, rfl⟩ := hrel
    by_cases hlt : j < l.length
    · have hlt' : (j : Int) < l.length := by omega
      have hj0 : (0 : Int) ≤ j := by omega
      obtain ⟨x, hx⟩ : ∃ x, l[j]? = some x := ⟨_, List.getElem?_eq_getElem hlt⟩
      have h0 : w.cell? ⟨g, j, none⟩ = some (.bool x) := (HB.out.cell j).trans (truC_get hx)
      have HD : Hid (l.contains false = (x == false || (l.drop (j + 1)).contains false)) := by
        show _ = _
        rw [HA.out, List.drop_eq_getElem_cons hlt, (List.getElem?_eq_some_iff.1 hx).2]
        cases x <;> simp
      clear hx HA
      cases x
      · go_wp2
        go_ret
        exact ⟨⟨j, rfl, by rw [HD.out]; simp⟩, rfl⟩
      · go_wp2
        go_roundw
        case rel => exact ⟨j + 1, by go_num, by omega, by have := HD.out; simpa [Hid] using this, trivial⟩
        case measure => simp [intOf]; omega
    · have e : j = l.length := by omega
      subst e
      go_wp2
      go_ret
      exact ⟨⟨-1, rfl, by rw [HA.out]; simp⟩, rfl⟩
set_option maxRecDepth 100000 in
theorem contains_any (l : List Bool) (g c : Nat) (w : World) (hl : l.length ≤ 1000000) (hB : Blk w g 4 (truC l)) :
    Calls Tryz.prog 49 #[.slice (some ⟨g, 0, none⟩) l.length c, .bool false] w fun e w' => e = .returned (.bool (l.contains false)) ∧ w = w' := by
  go_enter Tryz.func49, Tryz.ntmps49
  go_wp2_with fail
  refine (index_any l g c w hl hB).mono ?_
  rintro e w1 ⟨⟨n, rfl, hn⟩, rfl⟩
  have HN := Lib.hid hn
  clear hn
  go_wp2
  go_ret
  exact ⟨by rw [← HN.out]; rfl, rfl⟩
end Go.Proofs.YthiipgahbmoiiaaGreatDoor
namespace Go.Proofs.YthiipgahbmoiiaaGreatDoor
open Go.RowKit

/-- What blocks define, the first few done, the next one partly. -/
def defd (bs : List Bb) (j i : Nat) : List Nat := (List.range bs.length).map fun k => match bs[k]? with | none => 0 | some x => if k < j then withM 0 (defsL x) else if k = j then withM 0 ((defsL x).take i) else 0
theorem defd_length (bs : List Bb) (j i : Nat) : (defd bs j i).length = bs.length := by simp [defd]
theorem defd_zero (bs : List Bb) : defd bs 0 0 = List.replicate bs.length 0 := by
  apply List.ext_getElem?
  intro k
  unfold defd
  rw [List.getElem?_map, List.getElem?_replicate]
  by_cases hk : k < bs.length
  · rw [List.getElem?_range hk, if_pos hk]
    simp only [Option.map_some, List.getElem?_eq_getElem hk, Nat.not_lt_zero, if_false, List.take_zero]
    split <;> rfl
  · rw [if_neg hk, List.getElem?_eq_none (by simpa using hk)]
    rfl
theorem defd_at {bs : List Bb} {j : Nat} {x : Bb} (h : bs[j]? = some x) (i : Nat) : (defd bs j i).getD j 0 = withM 0 ((defsL x).take i) := by
  have hj := (List.getElem?_eq_some_iff.1 h).1
  unfold defd
  rw [List.getD_eq_getElem?_getD, List.getElem?_map, List.getElem?_range hj]
  simp [h]
theorem defd_next {bs : List Bb} {j i : Nat} {x : Bb} {y : Ii} (h : bs[j]? = some x) (hy : x.ins[i]? = some y) : (defd bs j i).set j (addM (withM 0 ((defsL x).take i)) y.dst) = defd bs j (i + 1) := by
  have hj := (List.getElem?_eq_some_iff.1 h).1
  apply List.ext_getElem?
  intro k
  rw [List.getElem?_set, defd_length]
  unfold defd
  rw [List.getElem?_map, List.getElem?_map]
  have hd : (defsL x)[i]? = some y.dst := by unfold defsL; rw [List.getElem?_map, hy]; rfl
  by_cases hk : j = k
  · subst hk
    rw [if_pos rfl, if_pos hj, List.getElem?_range hj]
    simp only [Option.map_some, h, Nat.lt_irrefl, if_false, if_true, Option.some.injEq]
    rw [List.take_add_one, hd]
    unfold withM
    rw [List.foldl_append]
    rfl
  · rw [if_neg hk]
    by_cases hkl : k < bs.length
    · rw [List.getElem?_range hkl]
      simp only [Option.map_some]
      have hk' : ¬ k = j := fun e => hk e.symm
      simp only [hk', if_false]
    · rw [List.getElem?_eq_none (by simpa using hkl)]
      rfl
theorem defd_done {bs : List Bb} {j : Nat} {x : Bb} (h : bs[j]? = some x) : defd bs j x.ins.length = defd bs (j + 1) 0 := by
  unfold defd
  apply List.map_congr_left
  intro k _
  split
  · rfl
  · rename_i y hy
    by_cases h1 : k < j
    · rw [if_pos h1, if_pos (by omega)]
    · by_cases h2 : k = j
      · subst h2
        rw [h] at hy
        have : x = y := Option.some.inj hy
        subst this
        rw [if_neg h1, if_pos rfl, if_pos (by omega), List.take_of_length_le (by simp [defsL])]
      · rw [if_neg h1, if_neg h2, if_neg (by omega)]
        split <;> simp [withM]
theorem defd_end (bs : List Bb) (b : Nat) (x : Bb) (h : bs[b]? = some x) : (defd bs bs.length 0).getD b 0 = withM 0 (defsL x) := by
  have hj := (List.getElem?_eq_some_iff.1 h).1
  unfold defd
  rw [List.getD_eq_getElem?_getD, List.getElem?_map, List.getElem?_range hj]
  simp only [Option.map_some, h, hj, if_true, Option.getD_some]
set_option maxHeartbeats 4000000 in
set_option maxRecDepth 100000 in
theorem defined_any (bs : List Bb) (ba : Option Addr) (bc : Nat) (w : World) (hl : bs.length ≤ 1000000) (hs : ∀ x ∈ bs, x.ins.length ≤ 1000000 ∧ ∀ i ∈ x.ins, 0 ≤ i.dst ∧ i.dst ≤ 200) (hI : BlsW w ba bs) :
    Calls Tryz.prog 94 #[.slice ba bs.length bc] w fun e w' => e = .returned (.slice (some ⟨w.heap.size, 0, none⟩) bs.length bs.length) ∧ Blk w' w.heap.size 82 (setsC (defd bs bs.length 0)) ∧ Below w.heap.size w w' := by
  have HI := Lib.hid hI
  have HS := Lib.hid hs
  clear hI hs
  have hmk := fun W => make_sets hl W
  have HZ0 : Hid (Blk (w.alloc (.cells (setsC (List.replicate bs.length 0)) 82)) w.heap.size 82 (setsC (defd bs 0 0))) := by
    show Blk _ _ _ _
    rw [defd_zero]
    exact Blk.new w _ _
  have HB0 : Hid (Below w.heap.size w (w.alloc (.cells (setsC (List.replicate bs.length 0)) 82))) := (Below.refl _ w).alloc (Nat.le_refl _) _
  go_enter Tryz.func94, Tryz.ntmps94
  go_wp2
  go_loopw [13] (fun k wr => ∃ j : Nat, k = .int .i64 j ∧ j ≤ bs.length ∧ Blk wr w.heap.size 82 (setsC (defd bs j 0)) ∧ Below w.heap.size w wr) (fun k _ => bs.length - (intOf k).toNat)
  case atStart => exact ⟨0, rfl, Nat.zero_le _, HZ0.out, HB0.out⟩
  case round =>
    obtain ⟨j, rfl, hj, hZ, hB⟩ := hrel
    have HZ := Lib.hid hZ
    have HB := Lib.hid hB
    clear hZ hB HZ0 HB0 hmk
    by_cases hlt : j < bs.length
    · have hlt' : (j : Int) < bs.length := by omega
      have hj0 : (0 : Int) ≤ j := by omega
      obtain ⟨x, hx⟩ : ∃ x, bs[j]? = some x := ⟨_, List.getElem?_eq_getElem hlt⟩
      obtain ⟨g, o, xa, xc, rfl, hg, hcw⟩ := HI.out j x hx
      have hc := hcw.below hg HB.out
      obtain ⟨hxl, hxd⟩ := HS.out x (List.mem_of_getElem? hx)
      have HXX := Lib.hid hx
      have HXD := Lib.hid hxd
      have HN := Lib.hid hcw.ins
      have c0 := hc.c0
      have c1 := hc.c1
      have c2 := hc.c2
      have c3 := hc.c3
      have c4 := hc.c4
      have HW2 : Hid (Below wr.heap.size wr (wr.alloc (.cells (blC x xa xc) 52))) := (Below.refl _ wr).alloc (Nat.le_refl _) _
      have HZ2 : Hid (Blk (wr.alloc (.cells (blC x xa xc) 52)) w.heap.size 82 (setsC (defd bs j 0))) := HZ.out.alloc _
      have HB2 : Hid (Below w.heap.size w (wr.alloc (.cells (blC x xa xc) 52))) := HB.out.trans (HW2.out.mono HB.out.size)
      clear hx hc hcw hxd HZ HB HW2
      go_wp2
      clear c0 c1 c2 c3 c4
      go_loopw [21] (fun k wr2 => ∃ i : Nat, k = .int .i64 i ∧ i ≤ x.ins.length ∧ Blk wr2 w.heap.size 82 (setsC (defd bs j i)) ∧ Below w.heap.size w wr2) (fun k _ => x.ins.length - (intOf k).toNat)
      case atStart => exact ⟨0, rfl, Nat.zero_le _, HZ2.out, HB2.out⟩
      case round =>
        obtain ⟨i, rfl, hi, hZ, hB⟩ := hrel
        have HZ := Lib.hid hZ
        have HB := Lib.hid hB
        clear hZ hB HZ2 HB2
        by_cases hlt2 : i < x.ins.length
        · have hlt2' : (i : Int) < x.ins.length := by omega
          have hi0 : (0 : Int) ≤ i := by omega
          obtain ⟨y, hy⟩ : ∃ y, x.ins[i]? = some y := ⟨_, List.getElem?_eq_getElem hlt2⟩
          obtain ⟨g2, o2, ya, yc, rfl, hg2, hc2⟩ := (HN.out.below HB.out) i y hy
          obtain ⟨hd0, hd1⟩ := HXD.out y (List.mem_of_getElem? hy)
          have HNX := Lib.hid (defd_next HXX.out hy)
          have h0 := hc2.c0
          have h1 := hc2.c1
          have h2 := hc2.c2
          have h3 := hc2.c3
          have h4 := hc2.c4
          have h5 := hc2.c5
          have h6 := hc2.c6
          have h7 := hc2.c7
          have HW3 : Hid (Below wr.heap.size wr (wr.alloc (.cells #[.int .i64 y.op, .int .i64 y.dst, .int .i64 y.a, .int .i64 y.b, .int .i64 y.imm, .int .i64 y.callee, .slice ya y.args.length yc, .int .i64 y.many] 45))) := (Below.refl _ wr).alloc (Nat.le_refl _) _
          have HZ3 : Hid (Blk (wr.alloc (.cells #[.int .i64 y.op, .int .i64 y.dst, .int .i64 y.a, .int .i64 y.b, .int .i64 y.imm, .int .i64 y.callee, .slice ya y.args.length yc, .int .i64 y.many] 45)) w.heap.size 82 (setsC (defd bs j i))) := HZ.out.alloc _
          have HB3 : Hid (Below w.heap.size w (wr.alloc (.cells #[.int .i64 y.op, .int .i64 y.dst, .int .i64 y.a, .int .i64 y.b, .int .i64 y.imm, .int .i64 y.callee, .slice ya y.args.length yc, .int .i64 y.many] 45))) := HB.out.trans (HW3.out.mono HB.out.size)
          have HY3 : Hid (Blk (wr.alloc (.cells #[.int .i64 y.op, .int .i64 y.dst, .int .i64 y.a, .int .i64 y.b, .int .i64 y.imm, .int .i64 y.callee, .slice ya y.args.length yc, .int .i64 y.many] 45)) wr.heap.size 45 (insC y ya yc)) := Blk.new wr _ _
          have HAT := Lib.hid (defd_at HXX.out i)
          have hlen := defd_length bs j i
          clear hy hc2 HZ HB HW3
          go_wp2
          clear h0 h1 h2 h3 h4 h5 h6 h7
          generalize (wr.alloc (.cells #[.int .i64 y.op, .int .i64 y.dst, .int .i64 y.a, .int .i64 y.b, .int .i64 y.imm, .int .i64 y.callee, .slice ya y.args.length yc, .int .i64 y.many] 45)) = W at *
          have HQ : Hid (wr.heap.size < W.heap.size) := HY3.out.lt
          have HQ2 : Hid (w.heap.size < W.heap.size) := HZ3.out.lt
          have HI1 : Hid (IntsW (W.drew.alloc (.cells #[.int .i64 y.dst] 3)) (some ⟨W.heap.size, 0, none⟩) [y.dst]) := IntsW.row (Blk.new W.drew _ _) (fun k x hx => by
            cases k with
            | zero => simpa using hx
            | succ k => simp at hx)
          have HBa : Hid (Below W.heap.size W (W.drew.alloc (.cells #[.int .i64 y.dst] 3))) := ((Below.refl _ W).drew).alloc (Nat.le_refl _) _
          have HC := Lib.hid (with_any (withM 0 ((defsL x).take i)) [y.dst] _ 1 _ (by simp) (fun v hv => by simp at hv; omega) HI1.out)
          have r := boxR HZ3.out (b := j) (by omega)
          rw [HAT.out] at r
          obtain ⟨m0, m1, m2, m3⟩ := r
          obtain ⟨n0, n1, n2, n3, n4, n5, n6, n7⟩ := box8 HY3.out
          obtain ⟨f0, f1, f2, f3⟩ := boxRF HZ3.out j
          clear n0 n2 n3 n4 n5 n6 n7
          unfold setV setC at HC
          have hq2 := HQ2.out
          have hq := HQ.out
          go_region_with (go_at_call 97; refine HC.out.mono ?_; rintro e w1 ⟨rfl, hb⟩; have hbb := HBa.out.trans (hb.mono HBa.out.size); have HZ4 : Hid (Blk w1 w.heap.size 82 (setsC (defd bs j i))) := HZ3.out.below hbb HQ2.out; have HB4 : Hid (Below w.heap.size w w1) := HB3.out.trans (hbb.mono HB3.out.size); obtain ⟨f0, f1, f2, f3⟩ := boxRF HZ4.out j; have r := boxR HZ4.out (b := j) (by omega); obtain ⟨k0, k1, k2, k3⟩ := r; have HQ4 : Hid (w.heap.size < w1.heap.size) := HZ4.out.lt; clear hb hbb)
          all_goals
            have HZ5 := Lib.hid (blk_row HZ4.out (b := j) (by omega) (withM (withM 0 ((defsL x).take i)) [y.dst]))
            rw [show (defd bs j i).set j (withM (withM 0 ((defsL x).take i)) [y.dst]) = defd bs j (i + 1) from HNX.out] at HZ5
            have HB5 := Lib.hid (below_row (g := w.heap.size) (o := j * 4) HB4.out (Nat.le_refl _) (.int .u64 (wordM (withM (withM 0 ((defsL x).take i)) [y.dst]) 0)) (.int .u64 (wordM (withM (withM 0 ((defsL x).take i)) [y.dst]) 1)) (.int .u64 (wordM (withM (withM 0 ((defsL x).take i)) [y.dst]) 2)) (.int .u64 (wordM (withM (withM 0 ((defsL x).take i)) [y.dst]) 3)))
            go_wp2
            go_roundw
            case rel => exact ⟨i + 1, by go_num, by omega, HZ5.out, HB5.out⟩
            case measure => simp [intOf]; omega
        · have e : i = x.ins.length := by omega
          subst e
          have HDN := Lib.hid (defd_done HXX.out)
          rw [HDN.out] at HZ
          go_wp2
          go_roundw
          case rel => exact ⟨j + 1, by go_num, by omega, HZ.out, HB.out⟩
          case measure => simp [intOf]; omega
    · have e : j = bs.length := by omega
      subst e
      go_wp2
      go_ret
      exact ⟨rfl, HZ.out, HB.out⟩
end Go.Proofs.YthiipgahbmoiiaaGreatDoor
