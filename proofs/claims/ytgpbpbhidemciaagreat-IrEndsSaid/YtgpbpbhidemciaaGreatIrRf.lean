/-
  The document's Vars. No condition beyond those that each theorem states.
-/
import Derived.Test.YtgpbpbhidemciaaGreatIrRe
namespace Go.Proofs.YtgpbpbhidemciaaGreat
open Go.RowKit

theorem allI_cons (i : Ii) (l : List Ii) : allI (i :: l) = readsL i ++ [definesN i] ++ allI l := by simp [allI]
theorem allB_cons (b : Bb) (l : List Bb) : allB (b :: l) = allI b.ins ++ needsL b.tm ++ allB l := by simp [allB]
theorem ins_vars_bit {l : List Ii} : ∀ {N : Nat}, (∀ i ∈ l, isInsB i = true) → ∀ v : Nat, v ≠ 0 → (insVarsM N l).testBit v = (N.testBit v || decide ((v : Int) ∈ allI l)) := by
  induction l with
  | nil => intro N _ v _; simp [insVarsM, allI]
  | cons i l ih =>
    intro N h v hv
    have hi := h i (by simp)
    obtain ⟨h1, h2, h3, h4⟩ := ins_parts hi
    have e : insVarsM N (i :: l) = insVarsM (withM (withM N [i.dst, i.a, i.b]) i.args) l := rfl
    have hd : definesN i = i.dst := if_pos hi
    have hv2 : (v : Int) ≠ 0 := by omega
    rw [e, ih (fun j hj => h j (by simp [hj])) v hv, with_bit (fun u hu => by have := h4 u hu; omega), with_bit (fun u hu => by simp at hu; omega), allI_cons, hd]
    rw [Bool.eq_iff_iff]
    simp only [Bool.or_eq_true, decide_eq_true_eq, List.mem_append, List.mem_cons, List.not_mem_nil, or_false, mem_reads hi]
    constructor
    · rintro (((h | ⟨_, h | h | h⟩) | ⟨_, h⟩) | h)
      · exact .inl h
      · exact .inr (.inl (.inr h))
      · exact .inr (.inl (.inl ⟨.inl h, hv2⟩))
      · exact .inr (.inl (.inl ⟨.inr (.inl h), hv2⟩))
      · exact .inr (.inl (.inl ⟨.inr (.inr h), hv2⟩))
      · exact .inr (.inr h)
    · rintro (h | (⟨h | h | h, _⟩ | h) | h)
      · exact .inl (.inl (.inl h))
      · exact .inl (.inl (.inr ⟨hv, .inr (.inl h)⟩))
      · exact .inl (.inl (.inr ⟨hv, .inr (.inr h)⟩))
      · exact .inl (.inr ⟨hv, h⟩)
      · exact .inl (.inl (.inr ⟨hv, .inl h⟩))
      · exact .inr h
theorem bl_vars_bit {l : List Bb} : ∀ {N : Nat}, (∀ x ∈ l, (∀ i ∈ x.ins, isInsB i = true) ∧ isTermB x.tm = true) → ∀ v : Nat, v ≠ 0 → (blVarsM N l).testBit v = (N.testBit v || decide ((v : Int) ∈ allB l)) := by
  induction l with
  | nil => intro N _ v _; simp [blVarsM, allB]
  | cons x l ih =>
    intro N h v hv
    obtain ⟨hi, ht⟩ := h x (by simp)
    have h1 := term_part ht
    have hv2 : (v : Int) ≠ 0 := by omega
    have e : blVarsM N (x :: l) = blVarsM (withM (insVarsM N x.ins) [x.tm.a]) l := rfl
    rw [e, ih (fun y hy => h y (by simp [hy])) v hv, with_bit (fun u hu => by simp at hu; omega), ins_vars_bit hi v hv, allB_cons]
    rw [Bool.eq_iff_iff]
    simp only [Bool.or_eq_true, decide_eq_true_eq, List.mem_append, List.mem_cons, List.not_mem_nil, or_false, mem_needs ht]
    constructor
    · rintro (((h | h) | ⟨_, h⟩) | h)
      · exact .inl h
      · exact .inr (.inl (.inl h))
      · exact .inr (.inl (.inr ⟨h, hv2⟩))
      · exact .inr (.inr h)
    · rintro (h | (h | ⟨h, _⟩) | h)
      · exact .inl (.inl (.inl h))
      · exact .inl (.inl (.inr h))
      · exact .inl (.inr ⟨hv, h⟩)
      · exact .inr h
theorem vars_bit {f : Ff} (h : shapeN f = 0) {v : Nat} (hv : v ≠ 0) : (blVarsM (withM 0 f.params) f.blocks).testBit v = decide ((v : Int) ∈ allL f) := by
  have h2 := (shape_is f).1 h
  rw [bl_vars_bit (fun x hx => shaped_ins h hx) v hv, with_bit (fun u hu => by have := shaped_params h2.2 u hu; omega)]
  rw [Bool.eq_iff_iff]
  simp only [Bool.or_eq_true, decide_eq_true_eq, allL, List.mem_append, Nat.zero_testBit, Bool.false_eq_true, false_or]
  constructor
  · rintro (⟨_, h⟩ | h)
    · exact .inl h
    · exact .inr h
  · rintro (h | h)
    · exact .inl ⟨hv, h⟩
    · exact .inr h
theorem list_next (N j : Nat) (hj : j ≠ 0) : listM N (j + 1) = listM N j ++ (if N.testBit j then [(j : Int)] else []) := by
  unfold listM
  rw [List.range_succ, List.filter_append, List.map_append]
  congr 1
  cases h : N.testBit j <;> simp [h, hj]
set_option maxHeartbeats 4000000 in
set_option maxRecDepth 100000 in
theorem rvars_any (f : Ff) (pa : Option Addr) (pc : Nat) (ba : Option Addr) (bc : Nat) (w : World) (hS : SmallF f) (hF : FnW w f pa pc ba bc) :
    Calls Tryz.prog 32 #[fnV f pa pc ba bc] w fun e w' => ∃ v, e = .returned v ∧ OwnI w' w.heap.size v (varsL f) ∧ Below w.heap.size w w' := by
  have HF := Lib.hid hF
  have HS := Lib.hid hS
  have HX0 : Hid (Blk (w.alloc (.cells (fnC f pa pc ba bc) 37)) w.heap.size 37 (fnC f pa pc ba bc)) := Blk.new w _ _
  have HW0 : Hid (Below w.heap.size w (w.alloc (.cells (fnC f pa pc ba bc) 37))) := (Below.refl _ w).alloc (Nat.le_refl _) _
  have HC := Lib.hid (rlong_any f pa pc ba bc (w.alloc (.cells (fnC f pa pc ba bc) 37)) hS (hF.below HW0.out))
  clear hF hS
  unfold fnV fnC at HC
  unfold fnV fnC
  go_enter Tryz.func32, Tryz.ntmps32
  go_wp2_with fail
  refine HC.out.mono ?_
  rintro e w1 ⟨rfl, hb1⟩
  have HX1 : Hid (Blk w1 w.heap.size 37 (fnC f pa pc ba bc)) := HX0.out.below hb1 HX0.out.lt
  have HB1 : Hid (Below w.heap.size w w1) := HW0.out.trans (hb1.mono HW0.out.size)
  clear hb1 HC HX0 HW0
  obtain ⟨c0, c1⟩ := box2 HX1.out
  cases hlg : isLongB f
  case true =>
    have HE : Hid (varsL f = []) := Lib.hid (if_neg (fun h => by have := ((shape_is f).1 h).1; rw [hlg] at this; cases this))
    go_wp2
    go_ret
    refine ⟨_, rfl, ?_, HB1.out⟩
    rw [HE.out]
    exact World.ownsRow_nil _ _ _ _
  have HC := Lib.hid (rshaped_any f pa pc ba bc w1 HS.out (HF.out.below HB1.out))
  unfold fnV fnC at HC
  go_wp2_with fail
  refine HC.out.mono ?_
  rintro e w2 ⟨rfl, hb1⟩
  have HX2 : Hid (Blk w2 w.heap.size 37 (fnC f pa pc ba bc)) := HX1.out.below hb1 HX1.out.lt
  have HB2 : Hid (Below w.heap.size w w2) := HB1.out.trans (hb1.mono HB1.out.size)
  clear hb1 HC HX1 HB1 c0 c1
  cases hsh : shapedB f
  case false =>
    have HE : Hid (varsL f = []) := Lib.hid (if_neg (fun h => by have := ((shape_is f).1 h).2; rw [hsh] at this; cases this))
    go_wp2
    go_ret
    refine ⟨_, rfl, ?_, HB2.out⟩
    rw [HE.out]
    exact World.ownsRow_nil _ _ _ _
  have hsp : shapeN f = 0 := (shape_is f).2 ⟨hlg, hsh⟩
  have HE : Hid (varsL f = listM (blVarsM (withM 0 f.params) f.blocks) 201) := Lib.hid (if_pos hsp)
  have HBIT : Hid (∀ v : Nat, v ≠ 0 → (blVarsM (withM 0 f.params) f.blocks).testBit v = decide ((v : Int) ∈ allL f)) := Lib.hid (fun v hv => vars_bit hsp hv)
  have HC := Lib.hid (rall_any f pa pc ba bc w2 hsp HS.out (HF.out.below HB2.out))
  unfold fnV fnC at HC
  clear hlg hsh hsp
  obtain ⟨c0, c1⟩ := box2 HX2.out
  go_wp2_with fail
  refine HC.out.mono ?_
  rintro e w3 ⟨v, rfl, ho, hb1⟩
  have hLl : (allL f).length ≤ 9223372036854775807 := by
    rcases ho.2 with ⟨_, h⟩ | ⟨_, _, _, _, _, _, h1, h2, _⟩
    · omega
    · simp only [maxLen] at h2; omega
  obtain ⟨la, lc, rfl, _, hli⟩ := OwnI.shape ho
  have HLI := Lib.hid hli
  have HB3 : Hid (Below w.heap.size w w3) := HB2.out.trans (hb1.mono HB2.out.size)
  clear hb1 HC HB2 c0 c1 HX2 ho hli
  generalize blVarsM (withM 0 f.params) f.blocks = N at HE HBIT
  generalize allL f = L at HLI HBIT hLl ⊢
  go_wp2
  go_loopw [4, 5] (fun v k wr => ∃ (n : Nat) (u : Value), u = v ∧ k = .int .i64 n ∧ 1 ≤ n ∧ n ≤ 201 ∧ OwnI wr w3.heap.size u (listM N n) ∧ Below w3.heap.size w3 wr) (fun _ k _ => 201 - (intOf k).toNat)
  case atStart =>
    refine ⟨1, _, rfl, rfl, by omega, by omega, ?_, Below.refl _ _⟩
    have e : listM N 1 = [] := by simp [listM]
    rw [e]
    exact World.ownsRow_nil _ _ _ _
  case round =>
    obtain ⟨n, v, rfl, rfl, hn1, hn2, hO, hB⟩ := hrel
    have HO := Lib.hid hO
    have HB := Lib.hid hB
    clear hO hB
    by_cases hlt : n ≤ 200
    · have hlt' : (n : Int) ≤ 200 := by omega
      go_wp2
      go_loopw [6, 7] (fun t k w4 => ∃ i : Nat, t = .bool (decide ((n : Int) ∈ L.take i)) ∧ k = .int .i64 i ∧ i ≤ L.length ∧ OwnI w4 w3.heap.size v (listM N n) ∧ Below w3.heap.size w3 w4) (fun _ k _ => L.length - (intOf k).toNat)
      case atStart => exact ⟨0, by simp, rfl, Nat.zero_le _, HO.out, HB.out⟩
      case round =>
        obtain ⟨i, rfl, rfl, hi, hO, hB⟩ := hrel
        clear HO HB
        have HO := Lib.hid hO
        have HB := Lib.hid hB
        clear hO hB
        by_cases hi2 : i < L.length
        · have hi3 : (i : Int) < L.length := by omega
          have hi0 : (0 : Int) ≤ i := by omega
          obtain ⟨z, hz⟩ : ∃ z, L[i]? = some z := ⟨_, List.getElem?_eq_getElem hi2⟩
          obtain ⟨g, o, rfl, hg, c0⟩ := (HLI.out.below HB.out) i z hz
          have HT : Hid (decide ((n : Int) ∈ L.take (i + 1)) = (decide ((n : Int) ∈ L.take i) || (z == (n : Int)))) := by
            show _ = _
            rw [List.take_add_one, hz, Bool.eq_iff_iff]
            simp only [Option.toList, List.mem_append, List.mem_singleton, decide_eq_true_eq, Bool.or_eq_true, beq_iff_eq]
            constructor
            · rintro (h | h)
              · exact .inl h
              · exact .inr h.symm
            · rintro (h | h)
              · exact .inl h
              · exact .inr h.symm
          generalize decide ((n : Int) ∈ L.take i) = b at HT ⊢
          clear hz
          cases b
          · go_wp2
            go_roundw
            case rel => exact ⟨i + 1, by rw [HT.out]; simp, by go_num, by omega, HO.out, HB.out⟩
            case measure => simp [intOf]; omega
          · go_wp2
            go_roundw
            case rel => exact ⟨i + 1, by rw [HT.out]; simp, by go_num, by omega, HO.out, HB.out⟩
            case measure => simp [intOf]; omega
        · have e : i = L.length := by omega
          subst e
          have hi3 : ¬ (L.length : Int) < L.length := by omega
          rw [List.take_length, ← HBIT.out n (by omega)]
          have HNX := Lib.hid (list_next N n (by omega))
          cases hbit : N.testBit n
          · rw [hbit] at HNX
            go_wp2
            go_roundw
            case rel => exact ⟨n + 1, _, rfl, by go_num, by omega, by omega, by have := HNX.out; simp at this; rw [this]; exact HO.out, HB.out⟩
            case measure => simp [intOf]; omega
          · rw [hbit] at HNX
            have hlf := listM_few N n
            have HO1 : Hid (OwnI (wr.alloc (.cells #[.int .i64 n] 3)) w3.heap.size v (listM N n)) := Lib.hid (World.ownsRow.alloc HO.out _)
            have HB1 : Hid (Below w3.heap.size w3 (wr.alloc (.cells #[.int .i64 n] 3))) := Lib.hid (HB.out.alloc HB.out.size _)
            have HI1 : Hid (IntsW (wr.alloc (.cells #[.int .i64 n] 3)) (some ⟨wr.heap.size, 0, none⟩) [(n : Int)]) := Lib.hid (IntsW.row (l := [(n : Int)]) (Blk.new wr 3 #[.int .i64 n]) (fun k x hx => by
              cases k with
              | zero => simpa using hx
              | succ k => simp at hx))
            go_wp2_with (at_builtin; go_must (refine wpList_append_ints rfl _ _ rfl w3.heap.size _ (listM N n) rfl HO1.out (some ⟨wr.heap.size, 0, none⟩) 1 [(n : Int)] rfl (by simp) HI1.out (by simp; omega) HB1.out.size ?_; intro v4 w4 hown4 hgrow4 hat4))
            have HB4 : Hid (Below w3.heap.size w3 w4) := (by exact HB1.out.grown hgrow4 HB1.out.size (fun k hk => (World.ownsRow.lt HO1.out k hk).1))
            have HO4 : Hid (OwnI w4 w3.heap.size v4 (listM N (n + 1))) := by
              show OwnI _ _ _ _
              have := HNX.out
              simp at this
              rw [this]
              exact hown4
            clear hown4 hgrow4 hat4
            go_roundw
            case rel => exact ⟨n + 1, _, rfl, by go_num, by omega, by omega, HO4.out, HB4.out⟩
            case measure => simp [intOf]; omega
    · have e : n = 201 := by omega
      subst e
      have hlt' : ¬ ((201 : Nat) : Int) ≤ 200 := by omega
      go_wp2
      go_ret
      refine ⟨_, rfl, ?_, HB3.out.trans (HB.out.mono HB3.out.size)⟩
      rw [HE.out]
      exact own_base HO.out HB3.out.size
end Go.Proofs.YtgpbpbhidemciaaGreat
