/-
  What the document says is read. No condition beyond those that each theorem states.
-/
import Derived.Test.YtgpbpbhidemciaaGreatIrPb
namespace Go.Proofs.YtgpbpbhidemciaaGreat
open Go.RowKit

theorem has_letters (o : Int) : inB (hasS o) 97 = opA o ∧ inB (hasS o) 98 = opB o ∧ (hasS o).size ≤ 1000 := by
  unfold hasS
  by_cases h1 : o = 1
  · subst h1; decide
  rw [if_neg h1]
  by_cases h2 : 2 ≤ o ∧ o ≤ 10
  · have ha : arithB o = true := by simp [arithB, h2.1, h2.2]
    rw [if_pos h2]
    refine ⟨?_, ?_, by decide⟩
    · rw [show inB ⟨#[100, 97, 98]⟩ 97 = true by decide]; simp [opA, ha]
    · rw [show inB ⟨#[100, 97, 98]⟩ 98 = true by decide]; simp [opB, ha]
  rw [if_neg h2]
  have ha : arithB o = false := by
    unfold arithB
    by_cases h : 2 ≤ o
    · have : ¬ o ≤ 10 := fun h' => h2 ⟨h, h'⟩
      simp [this]
    · simp [h]
  by_cases h11 : o = 11
  · subst h11; decide
  rw [if_neg h11]
  by_cases h12 : o = 12
  · subst h12; decide
  rw [if_neg h12]
  by_cases h13 : o = 13
  · subst h13; decide
  rw [if_neg h13]
  by_cases h14 : o = 14
  · subst h14; decide
  rw [if_neg h14]
  refine ⟨?_, ?_, by decide⟩
  · rw [show inB ⟨#[]⟩ 97 = false by decide]; simp [opA, ha, h11, h12, h14]
  · rw [show inB ⟨#[]⟩ 98 = false by decide]; simp [opB, ha, h12]
theorem var_ne {n : Int} (h : varB n = true) : (n != 0) = true := by
  simp only [varB, Bool.and_eq_true, decide_eq_true_eq] at h
  simp only [bne_iff_ne, ne_eq]
  omega
theorem given_vars {l : List Int} (h : l.all varB = true) : givenL l = l := by
  unfold givenL
  rw [List.filter_eq_self]
  intro x hx
  exact var_ne (List.all_eq_true.1 h x hx)
theorem reads_parts {x : Ii} (h : isInsB x = true) : readsL x = ((if opA x.op then [x.a] else []) ++ (if opB x.op then [x.b] else [])) ++ x.args := by
  have e : readsL x = ((if x.a != 0 then [x.a] else []) ++ (if x.b != 0 then [x.b] else [])) ++ givenL x.args := by
    unfold readsL
    rw [if_pos h]
    unfold givenL
    rw [List.filter_cons, List.filter_cons]
    split <;> split <;> rfl
  rw [e]
  unfold isInsB at h
  split at h
  · rename_i h13
    unfold isCallB at h
    simp only [Bool.and_eq_true, beq_iff_eq] at h
    obtain ⟨⟨⟨⟨⟨_, h1⟩, h2⟩, h3⟩, _⟩, _⟩ := h
    rw [given_vars h1, h2, h3, h13]
    rfl
  · unfold isOpB at h
    simp only [Bool.and_eq_true, List.isEmpty_iff] at h
    obtain ⟨⟨⟨⟨⟨⟨_, ha⟩, hb⟩, _⟩, _⟩, h1⟩, _⟩ := h
    rw [h1]
    have key : ∀ (b : Bool) (n : Int), fitsB b n = true → (if n != 0 then [n] else []) = if b then [n] else [] := by
      intro b n hf
      cases b
      · have : n = 0 := by simpa [fitsB] using hf
        subst this; rfl
      · rw [if_pos (var_ne (by simpa [fitsB] using hf))]; rfl
    rw [key _ _ ha, key _ _ hb]
    rfl
set_option maxHeartbeats 4000000 in
set_option maxRecDepth 100000 in
theorem rreads_any (x : Ii) (a : Option Addr) (c : Nat) (w : World) (hl : x.args.length ≤ 140737488355328) (hn : a = none → c = 0) (hI : IntsW w a x.args) :
    Calls Tryz.prog 18 #[insV x a c] w fun e w' => ∃ v, e = .returned v ∧ OwnI w' w.heap.size v (readsL x) ∧ Below w.heap.size w w' := by
  have HX : Hid (Blk (w.alloc (.cells (insC x a c) 25)) w.heap.size 25 (insC x a c)) := Blk.new w _ _
  have HW : Hid (Below w.heap.size w (w.alloc (.cells (insC x a c) 25))) := (Below.refl _ w).alloc (Nat.le_refl _) _
  have HC := Lib.hid (risIns_any x a c _ hl (hI.below HW.out))
  have HI := Lib.hid hI
  have HH := Lib.hid (fun W => rhas_any x.op W)
  obtain ⟨hA, hB, hz⟩ := has_letters x.op
  have QA := Lib.hid (fun W => rin_any (hasS x.op) 97 W hz)
  have QB := Lib.hid (fun W => rin_any (hasS x.op) 98 W hz)
  rw [hA] at QA
  rw [hB] at QB
  clear hI hA hB hz
  generalize hasS x.op = s at *
  have HP := Lib.hid (fun h => reads_parts (x := x) h)
  generalize opA x.op = pa at *
  generalize opB x.op = pb at *
  unfold insV at HC ⊢
  go_enter Tryz.func18, Tryz.ntmps18
  go_wp2_with fail
  refine HC.out.mono ?_
  rintro e w1 ⟨rfl, hb⟩
  have HX1 : Hid (Blk w1 w.heap.size 25 (insC x a c)) := HX.out.below hb HX.out.lt
  have HW1 : Hid (Below w.heap.size w w1) := HW.out.trans (hb.mono HW.out.size)
  have HS : Hid (w.heap.size < w1.heap.size) := Nat.lt_of_lt_of_le HX.out.lt hb.size
  clear hb HX HW HC
  obtain ⟨c0, c1, c2, c3, c4, c5, c6, c7⟩ := box8 HX1.out
  cases hi : isInsB x
  · have HE := Lib.hid (readsL.eq_1 x)
    rw [hi] at HE
    go_wp2
    go_ret
    refine ⟨_, rfl, ?_, HW1.out⟩
    rw [HE.out]
    exact World.ownsRow_nil _ _ _ _
  have HE := Lib.hid (HP.out hi)
  have hf := ins_few hi
  clear HP hi
  go_wp2_with fail
  refine (HH.out _).mono ?_
  rintro e w2 ⟨rfl, rfl⟩
  go_wp2_with fail
  refine (QA.out _).mono ?_
  rintro e w2 ⟨rfl, rfl⟩
  have HB0 : Hid (Below w1.heap.size w1 w1) := Below.refl _ _
  have HO0 : Hid (OwnI w1 w1.heap.size (.slice none 0 0) []) := World.ownsRow_nil _ _ _ _
  cases pa
  · go_wp2_with fail
    refine (HH.out _).mono ?_
    rintro e w2 ⟨rfl, rfl⟩
    go_wp2_with fail
    refine (QB.out _).mono ?_
    rintro e w2 ⟨rfl, rfl⟩
    cases pb
    · have HQ : Hid (Below w.heap.size w w1) := HW1.out.trans (HB0.out.mono (Nat.le_of_lt HS.out))
      have HU : Hid (w1.heap.size ≤ w1.heap.size) := HB0.out.size
      go_wp2_with (at_builtin; go_must (refine wpList_append_ints rfl _ _ rfl w1.heap.size _ [] rfl HO0.out a c x.args rfl hn (HI.out.below HQ.out) (by simp; omega) HU.out ?_; intro v9 W9 hown9 hgrow9 hat9))
      have HB9 : Hid (Below w.heap.size w W9) := HW1.out.trans ((HB0.out.grown hgrow9 HU.out (fun k hk => (HO0.out.lt k hk).1)).mono (Nat.le_of_lt HS.out))
      have HO9 := Lib.hid hown9
      clear hown9 hgrow9 hat9
      go_ret
      refine ⟨_, rfl, ?_, HB9.out⟩
      rw [HE.out]
      exact own_base HO9.out (Nat.le_of_lt HS.out)
    · have HI1 : Hid (IntsW (w1.alloc (.cells #[.int .i64 x.b] 3)) (some ⟨w1.heap.size, 0, none⟩) [x.b]) := IntsW.row (l := [x.b]) (Blk.new w1 3 #[.int .i64 x.b]) (fun k x hx => by
        cases k with
        | zero => simpa using hx
        | succ k => simp at hx)
      have HL1 : Hid (w1.heap.size ≤ (w1.alloc (.cells #[.int .i64 x.b] 3)).heap.size) := (HB0.out.alloc HB0.out.size (.cells #[.int .i64 x.b] 3)).size
      go_wp2_with (at_builtin; go_must (first | (refine wpList_append_ints rfl _ _ rfl w1.heap.size _ ([] ++ [x.b]) rfl HO1.out a c x.args rfl hn (HI.out.below (HW1.out.trans (HB1.out.mono (Nat.le_of_lt HS.out)))) (by simp; omega) HB1.out.size ?_; intro v9 W9 hown9 hgrow9 hat9) | (refine wpList_append_ints rfl _ _ rfl w1.heap.size _ [] rfl (World.ownsRow.alloc HO0.out _) (some ⟨w1.heap.size, 0, none⟩) 1 [x.b] rfl (by simp) HI1.out (by simp) HL1.out ?_; intro v1 W1 hown1 hgrow1 hat1; have HB1 : Hid (Below w1.heap.size w1 W1) := (by exact (HB0.out.alloc HB0.out.size _).grown hgrow1 HL1.out (fun k hk => (HO0.out.lt k hk).1)); have HO1 : Hid (OwnI W1 w1.heap.size v1 ([] ++ [x.b])) := (by exact hown1); clear hown1 hgrow1 hat1; have HX3 : Hid (Blk W1 w.heap.size 25 (insC x a c)) := (by exact HX1.out.below HB1.out HS.out); obtain ⟨c01, c11, c21, c31, c41, c51, c61, c71⟩ := box8 HX3.out)))
      have HB9 : Hid (Below w.heap.size w W9) := HW1.out.trans ((HB1.out.grown hgrow9 HB1.out.size (fun k hk => (HO1.out.lt k hk).1)).mono (Nat.le_of_lt HS.out))
      have HO9 := Lib.hid hown9
      clear hown9 hgrow9 hat9
      go_ret
      refine ⟨_, rfl, ?_, HB9.out⟩
      rw [HE.out]
      exact own_base HO9.out (Nat.le_of_lt HS.out)
  · have HI1 : Hid (IntsW (w1.alloc (.cells #[.int .i64 x.a] 3)) (some ⟨w1.heap.size, 0, none⟩) [x.a]) := IntsW.row (l := [x.a]) (Blk.new w1 3 #[.int .i64 x.a]) (fun k x hx => by
      cases k with
      | zero => simpa using hx
      | succ k => simp at hx)
    have HL1 : Hid (w1.heap.size ≤ (w1.alloc (.cells #[.int .i64 x.a] 3)).heap.size) := (HB0.out.alloc HB0.out.size (.cells #[.int .i64 x.a] 3)).size
    go_wp2_with (at_builtin; go_must (refine wpList_append_ints rfl _ _ rfl w1.heap.size _ [] rfl (World.ownsRow.alloc HO0.out _) (some ⟨w1.heap.size, 0, none⟩) 1 [x.a] rfl (by simp) HI1.out (by simp) HL1.out ?_; intro v1 W1 hown1 hgrow1 hat1; have HB1 : Hid (Below w1.heap.size w1 W1) := (by exact (HB0.out.alloc HB0.out.size _).grown hgrow1 HL1.out (fun k hk => (HO0.out.lt k hk).1)); have HO1 : Hid (OwnI W1 w1.heap.size v1 ([] ++ [x.a])) := (by exact hown1); clear hown1 hgrow1 hat1; have HX3 : Hid (Blk W1 w.heap.size 25 (insC x a c)) := (by exact HX1.out.below HB1.out HS.out); obtain ⟨c01, c11, c21, c31, c41, c51, c61, c71⟩ := box8 HX3.out))
    go_wp2_with fail
    refine (HH.out _).mono ?_
    rintro e w2 ⟨rfl, rfl⟩
    go_wp2_with fail
    refine (QB.out _).mono ?_
    rintro e w2 ⟨rfl, rfl⟩
    cases pb
    · have HQ : Hid (Below w.heap.size w W1) := HW1.out.trans (HB1.out.mono (Nat.le_of_lt HS.out))
      have HU : Hid (w1.heap.size ≤ W1.heap.size) := HB1.out.size
      go_wp2_with (at_builtin; go_must (refine wpList_append_ints rfl _ _ rfl w1.heap.size _ ([] ++ [x.a]) rfl HO1.out a c x.args rfl hn (HI.out.below HQ.out) (by simp; omega) HU.out ?_; intro v9 W9 hown9 hgrow9 hat9))
      have HB9 : Hid (Below w.heap.size w W9) := HW1.out.trans ((HB1.out.grown hgrow9 HU.out (fun k hk => (HO1.out.lt k hk).1)).mono (Nat.le_of_lt HS.out))
      have HO9 := Lib.hid hown9
      clear hown9 hgrow9 hat9
      go_ret
      refine ⟨_, rfl, ?_, HB9.out⟩
      rw [HE.out]
      exact own_base HO9.out (Nat.le_of_lt HS.out)
    · have HI2 : Hid (IntsW (W1.alloc (.cells #[.int .i64 x.b] 3)) (some ⟨W1.heap.size, 0, none⟩) [x.b]) := IntsW.row (l := [x.b]) (Blk.new W1 3 #[.int .i64 x.b]) (fun k x hx => by
        cases k with
        | zero => simpa using hx
        | succ k => simp at hx)
      have HL2 : Hid (w1.heap.size ≤ (W1.alloc (.cells #[.int .i64 x.b] 3)).heap.size) := (HB1.out.alloc HB1.out.size (.cells #[.int .i64 x.b] 3)).size
      go_wp2_with (at_builtin; go_must (first | (refine wpList_append_ints rfl _ _ rfl w1.heap.size _ (([] ++ [x.a]) ++ [x.b]) rfl HO2.out a c x.args rfl hn (HI.out.below (HW1.out.trans (HB2.out.mono (Nat.le_of_lt HS.out)))) (by simp; omega) HB2.out.size ?_; intro v9 W9 hown9 hgrow9 hat9) | (refine wpList_append_ints rfl _ _ rfl w1.heap.size _ ([] ++ [x.a]) rfl (World.ownsRow.alloc HO1.out _) (some ⟨W1.heap.size, 0, none⟩) 1 [x.b] rfl (by simp) HI2.out (by simp) HL2.out ?_; intro v2 W2 hown2 hgrow2 hat2; have HB2 : Hid (Below w1.heap.size w1 W2) := (by exact (HB1.out.alloc HB1.out.size _).grown hgrow2 HL2.out (fun k hk => (HO1.out.lt k hk).1)); have HO2 : Hid (OwnI W2 w1.heap.size v2 (([] ++ [x.a]) ++ [x.b])) := (by exact hown2); clear hown2 hgrow2 hat2; have HX4 : Hid (Blk W2 w.heap.size 25 (insC x a c)) := (by exact HX1.out.below HB2.out HS.out); obtain ⟨c02, c12, c22, c32, c42, c52, c62, c72⟩ := box8 HX4.out)))
      have HB9 : Hid (Below w.heap.size w W9) := HW1.out.trans ((HB2.out.grown hgrow9 HB2.out.size (fun k hk => (HO2.out.lt k hk).1)).mono (Nat.le_of_lt HS.out))
      have HO9 := Lib.hid hown9
      clear hown9 hgrow9 hat9
      go_ret
      refine ⟨_, rfl, ?_, HB9.out⟩
      rw [HE.out]
      exact own_base HO9.out (Nat.le_of_lt HS.out)
end Go.Proofs.YtgpbpbhidemciaaGreat
