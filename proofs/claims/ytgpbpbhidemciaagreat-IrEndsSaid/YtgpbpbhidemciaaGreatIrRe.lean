/-
  The document's all: every variable that stands in a function. No condition beyond those that each theorem states.
-/
import Derived.Test.YtgpbpbhidemciaaGreatIrRb
import Derived.Deep.RegionHeld3
namespace Go.Proofs.YtgpbpbhidemciaaGreat
open Go.RowKit

def allI (l : List Ii) : List Int := l.flatMap fun i => readsL i ++ [definesN i]
def allB (l : List Bb) : List Int := l.flatMap fun b => allI b.ins ++ needsL b.tm
def allL (f : Ff) : List Int := f.params ++ allB f.blocks
theorem step_append_ints {ops : Array Oper} {o : Oper} {a : Act} {w : World} {K : Act → World → Prop} {Q : Exit → Act → World → Prop} {E : Prop} (hgd : o.guard = none) (s x : Operand)
    (ho : o.op = .call { callee := .builtin .append, args := #[s, x], argTypes := #[22, 22] }) (base : Nat) (v : Value) (l0 : List Int) (hs : a.eval s = v) (hown : OwnI w base v l0)
    (sa : Option Addr) (c : Nat) (l : List Int) (hx : a.eval x = .slice sa l.length c) (hn : sa = none → c = 0) (hI : IntsW w sa l) (hb : l0.length + l.length ≤ 2000000) (hbase : base ≤ w.heap.size)
    (h : ∀ v' w', OwnI w' base v' (l0 ++ l) → w.grownBy w' v.ownBlock → K (a.put o.dst v') w') :
    if Region.wanted o (yielded ops a.tmps) = true then Oper.wp Tryz.prog o a w K Q else E := by
  have hw : Region.wanted o (yielded ops a.tmps) = true := by simp [Region.wanted, hgd]
  rw [if_pos hw]
  obtain ⟨i0, hi0, hz0, hz1, hz2⟩ := info_parts int_info
  cases sa with
  | none =>
    have hl : l = [] := by
      cases l with
      | nil => rfl
      | cons y l =>
        obtain ⟨g, p, h1, _⟩ := hI 0 y rfl
        cases h1
    subst hl
    rw [hn rfl] at hx
    have hr := run_append_owned_none (P := Tryz.prog) (w := w) base 22 o.type 3 i0 1 Tryz.underlying22 hi0 v l0.length _ hown
    unfold Oper.wp execOp
    simp only [ho, resolve, invoke, builtin, Sem.run_bind, Sem.run_pure, Result.andThen_ok, List.map_toArray, List.map_cons, List.map_nil, hs, hx, List.length_nil, hr]
    exact h v w (by simpa using hown) (grownBy_same _ _)
  | some ad =>
    obtain ⟨v', w', hr, h2, h3, _, h5⟩ := run_append_own_at (P := Tryz.prog) w base 22 o.type 3 i0 _ 1 8 Tryz.underlying22 hi0 hz0 hz1 hz2 rfl (by omega) v l0.length _ hown ad l.length c (l.map (Value.int .i64)) (by simp) (fun j u hu => by
      rw [List.getElem?_map, Option.map_eq_some_iff] at hu
      obtain ⟨y, hy, rfl⟩ := hu
      obtain ⟨g, p, h1, _, h4⟩ := hI j y hy
      simp only [Option.some.injEq] at h1
      subst h1
      have e : (⟨g, p, none⟩ : Addr).add j = ⟨g, p + j, none⟩ := by
        unfold Addr.add
        split <;> simp_all
      rw [e]
      exact h4) (fun u hu => by
      obtain ⟨y, _, rfl⟩ := List.mem_map.1 hu
      rfl) (by simp only [maxLen]; omega) (by omega) hbase
    unfold Oper.wp execOp
    simp only [ho, resolve, invoke, builtin, Sem.run_bind, Sem.run_pure, Result.andThen_ok, List.map_toArray, List.map_cons, List.map_nil, hs, hx, hr]
    refine h v' w' ?_ h3
    unfold OwnI
    rw [List.length_append, List.map_append]
    exact h2
theorem own_drew' {w : World} {b : Nat} {v : Value} {l : List Int} (h : OwnI w b v l) : OwnI w.drew b v l := h
theorem own_all {w w' : World} {b : Nat} {v : Value} {l : List Int} (h : OwnI w b v l) (h2 : Below w.heap.size w w') : OwnI w' b v l := own_keep h ⟨h2.size, fun k _ hk => h2.block k hk⟩
theorem reads_len' {x : Ii} (h : isInsB x = true) : (readsL x).length ≤ 10 := by
  have h1 := args_few h
  have h2 : (readsL x).length ≤ x.args.length + 2 := by
    unfold readsL
    rw [if_pos h]
    exact Nat.le_trans (List.length_filter_le _ _) (by simp)
  omega
theorem needs_len' (t : Tt) : (needsL t).length ≤ 1 := by
  unfold needsL
  split
  · exact List.length_filter_le _ _
  · simp
set_option maxHeartbeats 4000000 in
set_option maxRecDepth 100000 in
theorem rall_any (f : Ff) (pa : Option Addr) (pc : Nat) (ba : Option Addr) (bc : Nat) (w : World) (hsh : shapeN f = 0) (hS : SmallF f) (hF : FnW w f pa pc ba bc) :
    Calls Tryz.prog 64 #[fnV f pa pc ba bc] w fun e w' => ∃ v, e = .returned v ∧ OwnI w' w.heap.size v (allL f) ∧ Below w.heap.size w w' := by
  have HF := Lib.hid hF
  have HS := Lib.hid hS
  have HSH := Lib.hid hsh
  have hb := hS.b
  obtain ⟨hf1, hf2, hf3⟩ := shape_few hsh
  have HF3 := Lib.hid hf3
  have HX0 : Hid (Blk (w.alloc (.cells (fnC f pa pc ba bc) 37)) w.heap.size 37 (fnC f pa pc ba bc)) := Blk.new w _ _
  have HX1 : Hid (Blk ((w.alloc (.cells (fnC f pa pc ba bc) 37)).alloc (.cells #[] 3)) w.heap.size 37 (fnC f pa pc ba bc)) := HX0.out.alloc _
  have HB1 : Hid (Below w.heap.size w ((w.alloc (.cells (fnC f pa pc ba bc) 37)).alloc (.cells #[] 3))) := Lib.hid (((Below.refl _ w).alloc (Nat.le_refl _) _).alloc (by simp) _)
  have HO1 : Hid (OwnI ((w.alloc (.cells (fnC f pa pc ba bc) 37)).alloc (.cells #[] 3)) w.heap.size (.slice (some ⟨w.heap.size + 1, 0, none⟩) 0 0) []) := by
    have h := World.ownsRow_lit (base := w.heap.size) (e := 3) (size := 1) (w.alloc (.cells (fnC f pa pc ba bc) 37)) #[] 0 (by simp) (by simp [maxLen]) rfl
    have e : (w.alloc (.cells (fnC f pa pc ba bc) 37)).heap.size = w.heap.size + 1 := by simp
    rw [e] at h
    exact Lib.hid h
  clear hF hS hsh hf3
  unfold fnV fnC
  go_enter Tryz.func64, Tryz.ntmps64
  go_wp2_with (at_builtin; go_must (refine wpList_append_ints rfl _ _ rfl w.heap.size _ [] rfl HO1.out pa pc f.params rfl HF.out.pn (HF.out.params.below HB1.out) (by simp; omega) HB1.out.size ?_; intro v2 w2 hown2 hgrow2 hat2; have HB2 : Hid (Below w.heap.size w w2) := (by exact HB1.out.grown hgrow2 HB1.out.size (fun k hk => (World.ownsRow.lt HO1.out k hk).1)); have HX2 : Hid (Blk w2 w.heap.size 37 (fnC f pa pc ba bc)) := (by exact HX1.out.grown hgrow2 (own_far HO1.out HX1.out (by decide))); have HO2 := Lib.hid hown2; clear hown2 hgrow2 hat2))
  clear HX0 HX1 HB1 HO1
  go_loopw [3, 4] (fun v k wr => ∃ (j : Nat) (u : Value) (l : List Int), u = v ∧ k = .int .i64 j ∧ j ≤ f.blocks.length ∧ l.length ≤ 8 + j * 705 ∧ Hid (allL f = l ++ allB (f.blocks.drop j)) ∧ OwnI wr w.heap.size u l ∧ Blk wr w.heap.size 37 (fnC f pa pc ba bc) ∧ Below w.heap.size w wr) (fun _ k _ => f.blocks.length - (intOf k).toNat)
  case atStart => exact ⟨0, _, f.params, rfl, rfl, Nat.zero_le _, by omega, rfl, HO2.out, HX2.out, HB2.out⟩
  case round =>
    obtain ⟨j, v, l, rfl, rfl, hj, hll, HA, hO, hX, hB⟩ := hrel
    clear HX2 HB2 HO2
    have HB := Lib.hid hB
    have HX := Lib.hid hX
    have HO := Lib.hid hO
    clear hB hX hO
    obtain ⟨x0, x1⟩ := box2 HX.out
    by_cases hlt : j < f.blocks.length
    · have hlt' : (j : Int) < f.blocks.length := by omega
      have hj0 : (0 : Int) ≤ j := by omega
      obtain ⟨y, hy⟩ : ∃ y, f.blocks[j]? = some y := ⟨_, List.getElem?_eq_getElem hlt⟩
      obtain ⟨g, o, ya, yc, rfl, hg, hcw⟩ := HF.out.blocks j y hy
      have HNS := Lib.hid hcw
      have HG := Lib.hid hg
      have HYF := HF3.out y (List.mem_of_getElem? hy)
      have HYI := Lib.hid (HS.out.i y (List.mem_of_getElem? hy)).2
      have HYS := Lib.hid (shaped_ins HSH.out (List.mem_of_getElem? hy))
      have HD : Hid (allL f = l ++ (allI y.ins ++ needsL y.tm ++ allB (f.blocks.drop (j + 1)))) := by
        show _ = _
        rw [HA.out, List.drop_eq_getElem_cons hlt, (List.getElem?_eq_some_iff.1 hy).2]
        rfl
      have c0 := (hcw.below hg HB.out).c0
      clear hy HA hcw hg
      go_wp2
      go_loopw [3, 5] (fun v k wr => ∃ (i : Nat) (u : Value) (m : List Int), u = v ∧ k = .int .i64 i ∧ i ≤ y.ins.length ∧ m.length ≤ 8 + j * 705 + i * 11 ∧ Hid (allL f = m ++ (allI (y.ins.drop i) ++ needsL y.tm ++ allB (f.blocks.drop (j + 1)))) ∧ OwnI wr w.heap.size u m ∧ Blk wr w.heap.size 37 (fnC f pa pc (some ⟨g, o, none⟩) bc) ∧ Below w.heap.size w wr) (fun _ k _ => y.ins.length - (intOf k).toNat)
      case atStart => exact ⟨0, _, l, rfl, rfl, Nat.zero_le _, by omega, HD, HO.out, HX.out, HB.out⟩
      case round =>
        obtain ⟨i, v2, m, rfl, rfl, hi, hml, HE, hO, hX, hB⟩ := hrel
        clear HX HB HO x0 x1 c0 HD
        have HB := Lib.hid hB
        have HX := Lib.hid hX
        have HO := Lib.hid hO
        clear hB hX hO
        obtain ⟨x0, x1⟩ := box2 HX.out
        have HCC := Lib.hid (HNS.out.below HG.out HB.out)
        have c0 := HCC.out.c0
        by_cases hi2 : i < y.ins.length
        · have hi3 : (i : Int) < y.ins.length := by omega
          have hi0 : (0 : Int) ≤ i := by omega
          obtain ⟨z, hz⟩ : ∃ z, y.ins[i]? = some z := ⟨_, List.getElem?_eq_getElem hi2⟩
          obtain ⟨g1, o1, za, zc, he1, hg1, hzw⟩ := HNS.out.ins i z hz
          subst he1
          have hz1 := hzw.below hg1 HB.out
          have HAR := Lib.hid hzw.args
          have hzn := hzw.nil
          have HZL := HYI.out z (List.mem_of_getElem? hz)
          have HZS := HYS.out.1 z (List.mem_of_getElem? hz)
          have hrl := reads_len' HZS
          have HD2 : Hid (allL f = (m ++ readsL z ++ [definesN z]) ++ (allI (y.ins.drop (i + 1)) ++ needsL y.tm ++ allB (f.blocks.drop (j + 1)))) := by
            show _ = _
            rw [HE.out, List.drop_eq_getElem_cons hi2, (List.getElem?_eq_some_iff.1 hz).2]
            simp [allI]
          have d0 := hz1.c0
          have d1 := hz1.c1
          have d2 := hz1.c2
          have d3 := hz1.c3
          have d4 := hz1.c4
          have d5 := hz1.c5
          have d6 := hz1.c6
          have d7 := hz1.c7
          have K1 : Hid (Blk (wr.alloc (.cells (insC z za zc) 25)) wr.heap.size 25 (insC z za zc)) := Lib.hid (Blk.new wr _ _)
          have K2 : Hid (Blk (wr.alloc (.cells (insC z za zc) 25)) w.heap.size 37 (fnC f pa pc (some ⟨g, o, none⟩) bc)) := Lib.hid (HX.out.alloc _)
          have K3 : Hid (Below w.heap.size w (wr.alloc (.cells (insC z za zc) 25))) := Lib.hid (HB.out.alloc HB.out.size _)
          have K4 : Hid (OwnI (wr.alloc (.cells (insC z za zc) 25)) w.heap.size v2 m) := Lib.hid (World.ownsRow.alloc HO.out _)
          clear hz hz1 hzw HE
          go_wp2_with fail
          clear d0 d1 d2 d3 d4 d5 d6 d7
          change Code.wp _ _ _ _ (wr.alloc (.cells (insC z za zc) 25))
          generalize (wr.alloc (.cells (insC z za zc) 25)) = W2 at K1 K2 K3 K4 ⊢
          generalize wr.heap.size = I0 at K1 ⊢
          have CR : Hid (∀ W, Below w.heap.size w W → Calls Tryz.prog 18 #[insV z za zc] W fun e w' => ∃ v k, e = .returned (.slice v (readsL z).length k) ∧ (v = none → k = 0) ∧ IntsW w' v (readsL z) ∧ Below W.heap.size W w') := Lib.hid fun W h =>
            (rreads_any z za zc W (by omega) hzn (HAR.out.below h)).mono fun e w' ⟨v, he, ho, h2⟩ => by
              obtain ⟨a, c, rfl, hn, hi⟩ := OwnI.shape ho
              exact ⟨a, c, he, hn, hi, h2⟩
          have CD : Hid (∀ W, Below w.heap.size w W → Calls Tryz.prog 20 #[insV z za zc] W fun e w' => e = .returned (.int .i64 (definesN z)) ∧ Below W.heap.size W w') := Lib.hid fun W h =>
            rdefines_any z za zc W (by omega) (HAR.out.below h)
          unfold insV at CR CD
          generalize definesN z = dz at CD HD2
          generalize readsL z = rz at CR HD2 hrl
          obtain ⟨a0, a1, a2, a3, a4, a5, a6, a7⟩ := box8 K1.out
          go_region_held3 (fun w' => Blk w' I0 25 (insC z za zc) ∧ Blk w' w.heap.size 37 (fnC f pa pc (some ⟨g, o, none⟩) bc) ∧ Below w.heap.size w w' ∧ w'.cell? ⟨I0, 0, none⟩ = some (.int .i64 z.op) ∧ w'.cell? ⟨I0, 1, none⟩ = some (.int .i64 z.dst) ∧ w'.cell? ⟨I0, 2, none⟩ = some (.int .i64 z.a) ∧ w'.cell? ⟨I0, 3, none⟩ = some (.int .i64 z.b) ∧ w'.cell? ⟨I0, 4, none⟩ = some (.int .i64 z.imm) ∧ w'.cell? ⟨I0, 5, none⟩ = some (.int .i64 z.callee) ∧ w'.cell? ⟨I0, 6, none⟩ = some (.slice za z.args.length zc) ∧ w'.cell? ⟨I0, 7, none⟩ = some (.int .i64 z.many))
            (first
              | exact ⟨hk1, hk2, hk3, box8 hk1⟩
              | exact ⟨hk1.alloc _, hk2.alloc _, hk3.alloc hk3.size _, box8 (hk1.alloc _)⟩
              | exact ⟨K1.out.drew, K2.out.drew, K3.out.drew, a0, a1, a2, a3, a4, a5, a6, a7⟩)
            (first
              | (go_at_call 18; refine (CR.out _ (by go_split_ands; assumption)).mono ?_; rintro e w7 ⟨va, ca, rfl, hna, hia, hb7⟩; have hk1 := Blk.below K1.out.drew hb7 K1.out.lt; have hk2 := Blk.below K2.out.drew hb7 K2.out.lt; have hk3 := K3.out.drew.trans (hb7.mono K3.out.size); have hko := own_all (own_drew' K4.out) hb7)
              | (go_at_call 20; refine (CD.out _ (by go_split_ands; assumption)).mono ?_; rintro e w7 ⟨rfl, hb7⟩; have hkp := hko2; have hkq := hk1; have hkr := hk2; have hks := hk3; have hk1 := Blk.below hkq hb7 hkq.lt; have hk2 := Blk.below hkr hb7 hkr.lt; have hk3 := hks.trans (hb7.mono hks.size); have hko3 := own_all hkp hb7)
              | (refine step_append_ints rfl _ _ rfl w.heap.size _ (m ++ rz) rfl (World.ownsRow.alloc hko3 _) (some ⟨w7.heap.size, 0, none⟩) 1 [dz] rfl (by simp) (IntsW.row (l := [dz]) (Blk.new w7 3 #[.int .i64 dz]) (fun k x hx => by cases k with | zero => simpa using hx | succ k => simp at hx)) (by simp; omega) (by have := hk3.size; simp; omega) ?_; intro v9 w9 ho9 hg9; have hkq := hk1; have hkr := hk2; have hks := hk3; have hk1 := (hkq.alloc (.cells #[.int .i64 dz] 3)).grown hg9 (own_far hko3 hkq (by decide)); have hk2 := (hkr.alloc (.cells #[.int .i64 dz] 3)).grown hg9 (own_far hko3 hkr (by decide)); have hk3 := (hks.alloc hks.size (.cells #[.int .i64 dz] 3)).grown hg9 (by have := hks.size; simp; omega) (fun k hk => (World.ownsRow.lt hko3 k hk).1))
              | (refine step_append_ints rfl _ _ rfl w.heap.size _ m rfl hko va ca rz rfl hna hia (by omega) hk3.size ?_; intro v8 w8 hko2 hg8; have hkq := hk1; have hkr := hk2; have hks := hk3; have hk1 := hkq.grown hg8 (own_far hko hkq (by decide)); have hk2 := hkr.grown hg8 (own_far hko hkr (by decide)); have hk3 := hks.grown hg8 hks.size (fun k hk => (World.ownsRow.lt hko k hk).1)))
          have HO9 := Lib.hid ho9
          have HX9 := Lib.hid hk2
          have HB9 := Lib.hid hk3
          go_wp2
          go_roundw
          case rel => exact ⟨i + 1, _, _, rfl, by go_num, by omega, by simp; omega, HD2, HO9.out, HX9.out, HB9.out⟩
          case measure => simp [intOf]; omega
        · have e : i = y.ins.length := by omega
          have hi3 : ¬ (i : Int) < y.ins.length := by omega
          have HD2 : Hid (allL f = (m ++ needsL y.tm) ++ allB (f.blocks.drop (j + 1))) := by
            show _ = _
            rw [HE.out, e, List.drop_length]
            simp [allI]
          have c1 := HCC.out.c1
          have c2 := HCC.out.c2
          have c3 := HCC.out.c3
          have c4 := HCC.out.c4
          have HRT := Lib.hid (rneeds_any y.tm wr)
          have hnl := needs_len' y.tm
          unfold termV at HRT
          clear HE
          go_wp2_with fail
          refine HRT.out.mono ?_
          rintro e w3 ⟨vn, rfl, hon, hb3⟩
          obtain ⟨va, ca, rfl, hna, hia⟩ := OwnI.shape hon
          have HX3 := Lib.hid (HX.out.below hb3 HX.out.lt)
          have HB3 : Hid (Below w.heap.size w w3) := Lib.hid (HB.out.trans (hb3.mono HB.out.size))
          have HO3 : Hid (OwnI w3 w.heap.size v2 m) := Lib.hid (own_all HO.out hb3)
          have HI3 := Lib.hid hia
          clear hb3 HRT c1 c2 c3 c4 hon hia
          go_wp2_with (at_builtin; go_must (refine wpList_append_ints rfl _ _ rfl w.heap.size _ m rfl HO3.out va ca (needsL y.tm) rfl hna HI3.out (by omega) HB3.out.size ?_; intro v4 w4 hown4 hgrow4 hat4))
          have HB4 : Hid (Below w.heap.size w w4) := (by exact HB3.out.grown hgrow4 HB3.out.size (fun k hk => (World.ownsRow.lt HO3.out k hk).1))
          have HX4 : Hid (Blk w4 w.heap.size 37 (fnC f pa pc (some ⟨g, o, none⟩) bc)) := (by exact HX3.out.grown hgrow4 (own_far HO3.out HX3.out (by decide)))
          have HO4 := Lib.hid hown4
          clear hown4 hgrow4 hat4
          go_roundw
          case rel => exact ⟨j + 1, _, _, rfl, by go_num, by omega, by simp; omega, HD2, HO4.out, HX4.out, HB4.out⟩
          case measure => simp [intOf]; omega
    · have e : j = f.blocks.length := by omega
      have hlt' : ¬ (j : Int) < f.blocks.length := by omega
      go_wp2
      go_ret
      refine ⟨_, rfl, ?_, HB.out⟩
      rw [HA.out, e, List.drop_length]
      simpa [allB] using HO.out
end Go.Proofs.YtgpbpbhidemciaaGreat
