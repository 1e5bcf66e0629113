/-
  A text's words, as package line's cursor holds them: without the ends that it does not have. No condition beyond those that each theorem states.
-/
import Derived.Test.YthiipgahbmoiiaaGreatDoorPk14
import Derived.Deep.RegionHeld3
import Derived.Deep.AppendLies
import Derived.Deep.RegionWith
import Derived.Deep.Cut
namespace Go.Proofs.YthiipgahbmoiiaaGreatDoor
open Go.RowKit

/-- Word number k lies in five cells. -/
def CellsA (w : World) (a : Option Addr) (ws : List Wd) : Prop := ∀ k x, ws[k]? = some x → ∃ g, a = some ⟨g, 0, none⟩ ∧ g < w.heap.size ∧
  w.cell? ⟨g, k * 5, none⟩ = some (.int .i64 x.k) ∧ w.cell? ⟨g, k * 5 + 1, none⟩ = some (.string x.t) ∧ w.cell? ⟨g, k * 5 + 2, none⟩ = some (.int .i64 x.n) ∧ w.cell? ⟨g, k * 5 + 3, none⟩ = some (.int .i64 x.l) ∧ w.cell? ⟨g, k * 5 + 4, none⟩ = some (.int .i64 x.c)
def flatI (x : Wd) : List Value := [hasV x, .int .i64 x.l, .int .i64 x.c]
theorem item_info : (Tryz.prog.info? 122).map (fun i => (i.zero, i.size, i.bytes)) = some (some (.agg #[.nilIface, .int .i64 0, .int .i64 0]), 3, 32) := by kernel_rfl
def cellsO (o : Option Wd) : Array Value := #[hasO o, .int .i64 (lineO o), .int .i64 (colO o)]
theorem step_end {st : Option Wd × List Wd} {x : Wd} (h : endK x = true) : stepC st x = (some (st.1.getD x), st.2) := by simp [stepC, h]
theorem step_word {st : Option Wd × List Wd} {x : Wd} (h : endK x = false) : stepC st x = (none, (if st.2 = [] then [] else st.2 ++ st.1.toList) ++ [x]) := by simp [stepC, h]
theorem start_between (w : World) : Blk ((w.alloc (.cells #[.slice none 0 0] 111)).alloc (.cells #[.nilIface, .int .i64 0, .int .i64 0] 122)) (w.heap.size + 1) 122 (cellsO none) := by
  have h := Blk.new (w.alloc (.cells #[.slice none 0 0] 111)) 122 #[.nilIface, .int .i64 0, .int .i64 0]
  have e : (w.alloc (.cells #[.slice none 0 0] 111)).heap.size = w.heap.size + 1 := by simp
  rw [e] at h
  exact h
theorem bcell {W w1 : World} (hb : Below W.heap.size W w1) : (∀ b o, b < W.heap.size → w1.cell? ⟨b, o, none⟩ = W.cell? ⟨b, o, none⟩) ∧ (∀ b o, b < W.heap.size → w1.frozen? ⟨b, o, none⟩ = W.frozen? ⟨b, o, none⟩) :=
  ⟨fun b o h => hb.cell (p := ⟨b, o, none⟩) h, fun b o h => hb.frozen (p := ⟨b, o, none⟩) h⟩
/-- What lies there amid a round. -/
structure Mid (w0 w : World) (q : Nat) (x : Wd) (b : Option Addr) (cap : Nat) (lf : List Wd) (bt : Option Wd) : Prop where
  B : Blk w w0.heap.size 111 #[.slice b lf.length cap]
  T : Blk w (w0.heap.size + 1) 122 (cellsO bt)
  Q : Blk w q 122 (cellsO (some x))
  O : w.ownsRow (w0.heap.size + 2) 122 3 (.slice b lf.length cap) lf.length (lf.flatMap flatI)
  W : Below w0.heap.size w0 w
  q0 : w0.heap.size + 2 ≤ q
  nq : ∀ k, (Value.slice b lf.length cap).ownBlock = some k → k ≠ q
section
variable {w0 w w' : World} {q : Nat} {x : Wd} {b : Option Addr} {cap : Nat} {lf : List Wd} {bt : Option Wd}
theorem Mid.below (h : Mid w0 w q x b cap lf bt) (hb : Below w.heap.size w w') : Mid w0 w' q x b cap lf bt :=
  ⟨h.B.below hb h.B.lt, h.T.below hb h.T.lt, h.Q.below hb h.Q.lt, own_keep h.O ⟨hb.size, fun k _ hk => hb.block k hk⟩, h.W.trans (hb.mono h.W.size), h.q0, h.nq⟩
theorem own_off {base e size n : Nat} {v : Value} {xs : List Value} (h : w.ownsRow base e size v n xs) {k : Nat} (hk : k < base) : some k ≠ v.ownBlock := fun he => by have := (h.lt k he.symm).1; omega
theorem Mid.put (h : Mid w0 w q x b cap lf bt) (bt' : Option Wd) : Mid w0 (((w.setCell ⟨w0.heap.size + 1, 0, none⟩ (hasO bt')).setCell ⟨w0.heap.size + 1, 1, none⟩ (.int .i64 (lineO bt'))).setCell ⟨w0.heap.size + 1, 2, none⟩ (.int .i64 (colO bt'))) q x b cap lf bt' := by
  have hq := h.q0
  have ho : ∀ {w1 : World}, w1.ownsRow (w0.heap.size + 2) 122 3 (.slice b lf.length cap) lf.length (lf.flatMap flatI) → some (w0.heap.size + 1) ≠ (Value.slice b lf.length cap).ownBlock := fun h => own_off h (by omega)
  exact ⟨((h.B.far (by show w0.heap.size ≠ w0.heap.size + 1; omega) _).far (by show w0.heap.size ≠ w0.heap.size + 1; omega) _).far (by show w0.heap.size ≠ w0.heap.size + 1; omega) _, ((h.T.put 0 _).put 1 _).put 2 _, ((h.Q.far (by show q ≠ w0.heap.size + 1; omega) _).far (by show q ≠ w0.heap.size + 1; omega) _).far (by show q ≠ w0.heap.size + 1; omega) _,
    own_put (own_put (own_put h.O (p := ⟨w0.heap.size + 1, 0, none⟩) (ho h.O) _) (p := ⟨w0.heap.size + 1, 1, none⟩) (ho h.O) _) (p := ⟨w0.heap.size + 1, 2, none⟩) (ho h.O) _,
    ((h.W.setCell (p := ⟨w0.heap.size + 1, 0, none⟩) (by simp) _).setCell (p := ⟨w0.heap.size + 1, 1, none⟩) (by simp) _).setCell (p := ⟨w0.heap.size + 1, 2, none⟩) (by simp) _, h.q0, h.nq⟩
/-- The row with one word more, stored back. -/
theorem Mid.grow (h : Mid w0 w q x b cap lf bt) {o : Obj} {y : Wd} {gg cap' : Nat} (hown : w'.ownsRow (w0.heap.size + 2) 122 3 (.slice (some ⟨gg, 0, none⟩) (lf.length + 1) cap') (lf.length + 1) (lf.flatMap flatI ++ flatI y))
    (hgrow : (w.alloc o).grownBy w' (Value.slice b lf.length cap).ownBlock) (hat : (Value.slice b lf.length cap).ownBlock = some gg ∨ gg = w.heap.size + 1) :
    Mid w0 (w'.setCell ⟨w0.heap.size, 0, none⟩ (.slice (some ⟨gg, 0, none⟩) (lf.length + 1) cap')) q x (some ⟨gg, 0, none⟩) cap' (lf ++ [y]) bt := by
  have hq := h.q0
  have hlt := h.Q.lt
  have hsz := h.W.size
  have hB := (h.B.alloc o).grown hgrow (own_off h.O (by omega))
  have hT := (h.T.alloc o).grown hgrow (own_off h.O (by omega))
  have hQ := (h.Q.alloc o).grown hgrow (fun e => h.nq q e.symm rfl)
  have hO : w'.ownsRow (w0.heap.size + 2) 122 3 (.slice (some ⟨gg, 0, none⟩) (lf ++ [y]).length cap') (lf ++ [y]).length ((lf ++ [y]).flatMap flatI) := by
    rw [List.length_append, List.flatMap_append]
    simpa using hown
  refine ⟨?_, hT.far (by show w0.heap.size + 1 ≠ w0.heap.size; omega) _, hQ.far (by show q ≠ w0.heap.size; omega) _, own_put hO (p := ⟨w0.heap.size, 0, none⟩) (own_off hO (by show w0.heap.size < w0.heap.size + 2; omega)) _, ?_, h.q0, ?_⟩
  · have := hB.put 0 (.slice (some ⟨gg, 0, none⟩) (lf.length + 1) cap')
    rw [List.length_append]
    exact this
  · exact ((h.W.alloc hsz o).grown hgrow (by simp; omega) (fun k hk => by have := (h.O.lt k hk).1; omega)).setCell (p := ⟨w0.heap.size, 0, none⟩) (Nat.le_refl _) _
  · intro k hk
    simp [Value.ownBlock] at hk
    subst hk
    rcases hat with hat | hat
    · exact h.nq gg hat
    · omega
end
set_option maxHeartbeats 2000000 in
set_option maxRecDepth 100000 in
theorem words_any (ws : List Wd) (a : Option Addr) (cp : Nat) (w : World) (hC : CellsA w a ws) (hl : ws.length ≤ 300000) :
    Calls Tryz.prog 75 #[.slice a ws.length cp] w fun e w' => ∃ b cap, e = .returned (.agg #[.slice b (pruned ws).length cap]) ∧ w'.ownsRow w.heap.size 122 3 (.slice b (pruned ws).length cap) (pruned ws).length ((pruned ws).flatMap flatI) ∧ Below w.heap.size w w' := by
  obtain ⟨i0, hi0, hz0, hz1, hz2⟩ := info_parts item_info
  have HC := Lib.hid hC
  clear hC
  go_enter Tryz.func75, Tryz.ntmps75
  go_wp2
  go_loopw [9] (fun i wr => ∃ (k : Nat) (bt : Option Wd) (lf : List Wd) (b : Option Addr) (cap : Nat), i = .int .i64 k ∧ k ≤ ws.length ∧ Hid ((ws.drop k).foldl stepC (bt, lf) = ws.foldl stepC (none, [])) ∧ lf.length + (if bt.isSome then 1 else 0) ≤ k ∧
      Blk wr w.heap.size 111 #[.slice b lf.length cap] ∧ wr.ownsRow (w.heap.size + 2) 122 3 (.slice b lf.length cap) lf.length (lf.flatMap flatI) ∧ Blk wr (w.heap.size + 1) 122 (cellsO bt) ∧ Below w.heap.size w wr ∧ w.heap.size + 2 ≤ wr.heap.size) (fun i _ => ws.length - (intOf i).toNat)
  case atStart =>
    exact ⟨0, none, [], none, 0, rfl, Nat.zero_le _, rfl, by simp, (Blk.new w 111 #[.slice none 0 0]).alloc _, World.ownsRow_nil _ _ _ _, start_between w, ((Below.refl _ w).alloc (Nat.le_refl _) _).alloc (by simp) _, by simp⟩
  case round =>
    obtain ⟨k, bt, lf, b, cap, rfl, hk, HF, hlen, hB, hO, hT, hbw, hsz⟩ := hrel
    have HB := Lib.hid hB
    have HO := Lib.hid hO
    have HT := Lib.hid hT
    have HW := Lib.hid hbw
    clear hB hO hT hbw
    by_cases hlt : k < ws.length
    · have hlt' : (k : Int) < ws.length := by omega
      have hk0 : (0 : Int) ≤ k := by omega
      obtain ⟨x, hx⟩ : ∃ x, ws[k]? = some x := ⟨_, List.getElem?_eq_getElem hlt⟩
      obtain ⟨g, rfl, hg, h0, h1, h2, h3, h4⟩ := HC.out k x hx
      have hgw : g < wr.heap.size := by omega
      have n0 := (HW.out.cell (p := ⟨g, k * 5, none⟩) hg).trans h0
      have n1 := (HW.out.cell (p := ⟨g, k * 5 + 1, none⟩) hg).trans h1
      have n2 := (HW.out.cell (p := ⟨g, k * 5 + 2, none⟩) hg).trans h2
      have n3 := (HW.out.cell (p := ⟨g, k * 5 + 3, none⟩) hg).trans h3
      have n4 := (HW.out.cell (p := ⟨g, k * 5 + 4, none⟩) hg).trans h4
      have HF2 : Hid ((ws.drop (k + 1)).foldl stepC (stepC (bt, lf) x) = ws.foldl stepC (none, [])) := by
        show _ = _
        rw [← HF.out, List.drop_eq_getElem_cons hlt, (List.getElem?_eq_some_iff.1 hx).2]
        rfl
      clear h0 h1 h2 h3 h4 hx HF
      go_wp2_with fail
      clear n0 n1 n2 n3 n4
      obtain ⟨T, v, hv⟩ := has_iface x
      have HA : Hid (∀ W, Calls Tryz.prog 119 #[.agg #[.int .i64 x.k, .string x.t, .int .i64 x.n, .int .i64 x.l, .int .i64 x.c]] W fun e w' => e = .returned (.iface T v) ∧ Below W.heap.size W w') := fun W => by
        rw [← hv]
        exact held_any x W
      go_region_held3 (fun w' => w'.cell? ⟨wr.heap.size, 0, none⟩ = some (.int .i64 x.k) ∧ w'.cell? ⟨wr.heap.size, 1, none⟩ = some (.string x.t) ∧ w'.cell? ⟨wr.heap.size, 2, none⟩ = some (.int .i64 x.n) ∧ w'.cell? ⟨wr.heap.size, 3, none⟩ = some (.int .i64 x.l) ∧ w'.cell? ⟨wr.heap.size, 4, none⟩ = some (.int .i64 x.c))
        (first
          | (go_keep; done)
          | (refine ⟨?_, ?_, ?_, ?_, ?_⟩ <;> (rw [hc1 _ _ (by first | (simp; done) | (simp; omega))]; go_simp)))
        (first
          | (go_at_call 119; refine (HA.out _).mono ?_; rintro e w1 ⟨rfl, hb1⟩; obtain ⟨hc1, hf1⟩ := bcell hb1; have HB1 := Lib.hid hb1; have hz1 := hb1.size; simp at hz1; clear hb1))
      · obtain ⟨q, hq⟩ : ∃ q, q = w1.heap.size := ⟨_, rfl⟩
        have hmid : Mid w (w1.alloc (.cells #[.iface T v, .int .i64 x.l, .int .i64 x.c] 122)) q x b cap lf bt := by
          have hb2 : Below wr.heap.size wr (w1.alloc (.cells #[.iface T v, .int .i64 x.l, .int .i64 x.c] 122)) := (((Below.refl _ wr).alloc (Nat.le_refl _) _).drew.trans (HB1.out.mono (by simp))).alloc (by omega) _
          refine ⟨HB.out.below hb2 HB.out.lt, HT.out.below hb2 HT.out.lt, ?_, own_keep HO.out ⟨hb2.size, fun k _ hk => hb2.block k hk⟩, HW.out.trans (hb2.mono HW.out.size), by omega, fun k hk => by have := (HO.out.lt k hk).2; omega⟩
          unfold cellsO
          rw [show hasO (some x) = .iface T v from hv, hq]
          exact Blk.new w1 _ _
        rw [← hq]
        clear hc1 hf1 HB1 hz1 hq
        rename_i hHeld
        clear hHeld
        generalize (w1.alloc (.cells #[.iface T v, .int .i64 x.l, .int .i64 x.c] 122)) = w2 at *
        have HM := Lib.hid hmid
        have hqs := hmid.Q.lt
        have hqz := hmid.q0
        clear hmid HB HO HT HW HA
        have q0 : w2.cell? ⟨q, 0, none⟩ = some (.iface T v) := by rw [← hv]; exact HM.out.Q.cell 0
        have q1 : w2.cell? ⟨q, 1, none⟩ = some (.int .i64 x.l) := HM.out.Q.cell 1
        have q2 : w2.cell? ⟨q, 2, none⟩ = some (.int .i64 x.c) := HM.out.Q.cell 2
        have IE : Hid (∀ W, Calls Tryz.prog 120 #[.agg #[.iface T v, .int .i64 x.l, .int .i64 x.c]] W fun e w' => e = .returned (.bool (endK x)) ∧ Below W.heap.size W w') := fun W => by
          have := isEnd_any (some x) W
          unfold itemV at this
          rw [show hasO (some x) = .iface T v from hv] at this
          exact this
        cases hke : endK x
        · have HS := Lib.hid (step_word (st := (bt, lf)) hke)
          rw [hke] at IE
          clear hke
          go_wp2_with fail
          refine (IE.out _).mono ?_
          rintro e w3 ⟨rfl, hb3⟩
          have HM3 := Lib.hid (HM.out.below hb3)
          have hz3 := hb3.size
          clear hb3 IE HM q0 q1 q2
          cases bt with
          | none =>
            have c0 : w3.cell? ⟨w.heap.size + 1, 0, none⟩ = some .nilIface := HM3.out.T.cell 0
            have hnn := neq_nil_nil
            have l0 : w3.cell? ⟨w.heap.size, 0, none⟩ = some (.slice b (lf).length cap) := HM3.out.B.cell 0
            have z0 := HM3.out.B.free 0
            have q0 : w3.cell? ⟨q, 0, none⟩ = some (.iface T v) := by rw [← hv]; exact HM3.out.Q.cell 0
            have q1 : w3.cell? ⟨q, 1, none⟩ = some (.int .i64 x.l) := HM3.out.Q.cell 1
            have q2 : w3.cell? ⟨q, 2, none⟩ = some (.int .i64 x.c) := HM3.out.Q.cell 2
            have hne : some w.heap.size ≠ (Value.slice b (lf).length cap).ownBlock := own_off HM3.out.O (by omega)
            have hlw : w.heap.size < w3.heap.size := HM3.out.B.lt
            have hn1 : (lf).length ≤ 300000 := by simp at hlen ⊢; omega
            have hbl0 := HM3.out.q0
            have hbl1 := HM3.out.Q.lt
            go_upto_region 12 with (at_builtin; go_must (refine wpList_append_lies _ rfl _ _ _ rfl (w.heap.size + 2) 122 i0 _ 3 32 Tryz.underlying109 hi0 hz0 hz1 hz2 rfl (by omega) (.slice b (lf).length cap) (lf).length ((lf).flatMap flatI) rfl (World.ownsRow.alloc HM3.out.O _) ⟨w3.heap.size, 0, none⟩ 1 1 [.iface T v, .int .i64 x.l, .int .i64 x.c] rfl rfl (World.news_of_block (heap_alloc_new w3 _)) (by simp [Value.oneCell']) (by omega) (by simp only [maxLen]; omega) (by omega) (by simp; omega) (w3.heap.size + 1) (by simp) ?_; intro gg1 cp1 wg1 hown hgrow hat hlt2); go_must (have k0 : wg1.cell? ⟨w.heap.size, 0, none⟩ = some (.slice b (lf).length cap) := by (rw [hgrow.cell_far _ (by simp; omega) hne]; go_simp)); go_must (have kz : wg1.frozen? ⟨w.heap.size, 0, none⟩ = false := by (rw [hgrow.frozen_far _ (by simp; omega) hne]; go_simp)))
            have hown2 : wg1.ownsRow (w.heap.size + 2) 122 3 (.slice (some ⟨gg1, 0, none⟩) ((lf).length + 1) cp1) ((lf).length + 1) ((lf).flatMap flatI ++ flatI x) := by unfold flatI; rw [hv]; exact hown
            have HN1 := Lib.hid (HM3.out.grow hown2 hgrow hat)
            clear hown hown2 hgrow hat hlt2 hne hlw l0 z0 k0 kz hbl0 hbl1 hn1 q0 q1 q2 c0 HM3
            generalize (wg1.setCell ⟨w.heap.size, 0, none⟩ (.slice (some ⟨gg1, 0, none⟩) ((lf).length + 1) cp1)) = ws1 at *
            have e0 := HN1.out.T.cell 0
            have e1 := HN1.out.T.cell 1
            have e2 := HN1.out.T.cell 2
            have ez0 := HN1.out.T.free 0
            have ez1 := HN1.out.T.free 1
            have ez2 := HN1.out.T.free 2
            simp only [cellsO, List.getElem?_toArray, List.getElem?_cons_succ, List.getElem?_cons_zero] at e0 e1 e2
            have HZ : Hid (Mid w (((ws1.setCell ⟨w.heap.size + 1, 0, none⟩ .nilIface).setCell ⟨w.heap.size + 1, 1, none⟩ (.int .i64 0)).setCell ⟨w.heap.size + 1, 2, none⟩ (.int .i64 0)) q x (some ⟨gg1, 0, none⟩) cp1 (lf ++ [x]) none) := HN1.out.put none
            clear HN1
            go_wp2
            go_roundw
            case rel => exact ⟨k + 1, none, lf ++ [x], some ⟨gg1, 0, none⟩, cp1, by go_num, by omega, by (have hs := HS.out; rw [show (if lf = [] then [] else lf ++ (none : Option Wd).toList) = lf by by_cases h : lf = [] <;> simp [h]] at hs; rw [hs] at HF2; exact HF2), by simp at hlen ⊢; omega, by simpa using HZ.out.B, by simpa using HZ.out.O, HZ.out.T, HZ.out.W, by have := HZ.out.Q.lt; omega⟩
            case measure => simp [intOf]; omega
          | some y =>
            obtain ⟨Ty, vy, hvy⟩ := has_iface y
            have hnn := neq_has_nil
            cases lf with
            | nil =>
              have c0 : w3.cell? ⟨w.heap.size + 1, 0, none⟩ = some (.iface Ty vy) := by rw [← hvy]; exact HM3.out.T.cell 0
              have l0 : w3.cell? ⟨w.heap.size, 0, none⟩ = some (.slice b (([] : List Wd)).length cap) := HM3.out.B.cell 0
              have z0 := HM3.out.B.free 0
              have q0 : w3.cell? ⟨q, 0, none⟩ = some (.iface T v) := by rw [← hv]; exact HM3.out.Q.cell 0
              have q1 : w3.cell? ⟨q, 1, none⟩ = some (.int .i64 x.l) := HM3.out.Q.cell 1
              have q2 : w3.cell? ⟨q, 2, none⟩ = some (.int .i64 x.c) := HM3.out.Q.cell 2
              have hne : some w.heap.size ≠ (Value.slice b (([] : List Wd)).length cap).ownBlock := own_off HM3.out.O (by omega)
              have hlw : w.heap.size < w3.heap.size := HM3.out.B.lt
              have hn1 : (([] : List Wd)).length ≤ 300000 := by simp
              have hbl0 := HM3.out.q0
              have hbl1 := HM3.out.Q.lt
              go_upto_region 12 with (at_builtin; go_must (refine wpList_append_lies _ rfl _ _ _ rfl (w.heap.size + 2) 122 i0 _ 3 32 Tryz.underlying109 hi0 hz0 hz1 hz2 rfl (by omega) (.slice b (([] : List Wd)).length cap) (([] : List Wd)).length ((([] : List Wd)).flatMap flatI) rfl (World.ownsRow.alloc HM3.out.O _) ⟨w3.heap.size, 0, none⟩ 1 1 [.iface T v, .int .i64 x.l, .int .i64 x.c] rfl rfl (World.news_of_block (heap_alloc_new w3 _)) (by simp [Value.oneCell']) (by omega) (by simp only [maxLen]; omega) (by omega) (by simp; omega) (w3.heap.size + 1) (by simp) ?_; intro gg1 cp1 wg1 hown hgrow hat hlt2); go_must (have k0 : wg1.cell? ⟨w.heap.size, 0, none⟩ = some (.slice b (([] : List Wd)).length cap) := by (rw [hgrow.cell_far _ (by simp; omega) hne]; go_simp)); go_must (have kz : wg1.frozen? ⟨w.heap.size, 0, none⟩ = false := by (rw [hgrow.frozen_far _ (by simp; omega) hne]; go_simp)))
              have hown2 : wg1.ownsRow (w.heap.size + 2) 122 3 (.slice (some ⟨gg1, 0, none⟩) ((([] : List Wd)).length + 1) cp1) ((([] : List Wd)).length + 1) ((([] : List Wd)).flatMap flatI ++ flatI x) := by unfold flatI; rw [hv]; exact hown
              have HN1 := Lib.hid (HM3.out.grow hown2 hgrow hat)
              clear hown hown2 hgrow hat hlt2 hne hlw l0 z0 k0 kz hbl0 hbl1 hn1 q0 q1 q2 c0 HM3
              generalize (wg1.setCell ⟨w.heap.size, 0, none⟩ (.slice (some ⟨gg1, 0, none⟩) ((([] : List Wd)).length + 1) cp1)) = ws1 at *
              have e0 := HN1.out.T.cell 0
              have e1 := HN1.out.T.cell 1
              have e2 := HN1.out.T.cell 2
              have ez0 := HN1.out.T.free 0
              have ez1 := HN1.out.T.free 1
              have ez2 := HN1.out.T.free 2
              simp only [cellsO, List.getElem?_toArray, List.getElem?_cons_succ, List.getElem?_cons_zero] at e0 e1 e2
              have HZ : Hid (Mid w (((ws1.setCell ⟨w.heap.size + 1, 0, none⟩ .nilIface).setCell ⟨w.heap.size + 1, 1, none⟩ (.int .i64 0)).setCell ⟨w.heap.size + 1, 2, none⟩ (.int .i64 0)) q x (some ⟨gg1, 0, none⟩) cp1 ([x]) none) := HN1.out.put none
              clear HN1
              go_wp2
              go_roundw
              case rel => exact ⟨k + 1, none, [x], some ⟨gg1, 0, none⟩, cp1, by go_num, by omega, by (have hs := HS.out; simp at hs; rw [hs] at HF2; exact HF2), by simp, by simpa using HZ.out.B, by simpa using HZ.out.O, HZ.out.T, HZ.out.W, by have := HZ.out.Q.lt; omega⟩
              case measure => simp [intOf]; omega
            | cons z lf =>
              have hpos : (0 : Int) < lf.length + 1 := by omega
              have l0 : w3.cell? ⟨w.heap.size, 0, none⟩ = some (.slice b (z :: lf).length cap) := HM3.out.B.cell 0
              have z0 := HM3.out.B.free 0
              have c0 : w3.cell? ⟨w.heap.size + 1, 0, none⟩ = some (.iface Ty vy) := by rw [← hvy]; exact HM3.out.T.cell 0
              have c1 : w3.cell? ⟨w.heap.size + 1, 1, none⟩ = some (.int .i64 y.l) := HM3.out.T.cell 1
              have c2 : w3.cell? ⟨w.heap.size + 1, 2, none⟩ = some (.int .i64 y.c) := HM3.out.T.cell 2
              have hne : some w.heap.size ≠ (Value.slice b (z :: lf).length cap).ownBlock := own_off HM3.out.O (by omega)
              have hlw : w.heap.size < w3.heap.size := HM3.out.B.lt
              have hn1 : (z :: lf).length ≤ 300000 := by simp at hlen ⊢; omega
              have hbl0 := HM3.out.q0
              have hbl1 := HM3.out.Q.lt
              go_upto_region 11 with (at_builtin; go_must (refine wpList_append_lies _ rfl _ _ _ rfl (w.heap.size + 2) 122 i0 _ 3 32 Tryz.underlying109 hi0 hz0 hz1 hz2 rfl (by omega) (.slice b (z :: lf).length cap) (z :: lf).length ((z :: lf).flatMap flatI) rfl (World.ownsRow.alloc HM3.out.O _) ⟨w3.heap.size, 0, none⟩ 1 1 [.iface Ty vy, .int .i64 y.l, .int .i64 y.c] rfl rfl (World.news_of_block (heap_alloc_new w3 _)) (by simp [Value.oneCell']) (by omega) (by simp only [maxLen]; omega) (by omega) (by simp; omega) (w3.heap.size + 1) (by simp) ?_; intro gg1 cp1 wg1 hown hgrow hat hlt2); go_must (have k0 : wg1.cell? ⟨w.heap.size, 0, none⟩ = some (.slice b (z :: lf).length cap) := by (rw [hgrow.cell_far _ (by simp; omega) hne]; go_simp)); go_must (have kz : wg1.frozen? ⟨w.heap.size, 0, none⟩ = false := by (rw [hgrow.frozen_far _ (by simp; omega) hne]; go_simp)))
              have hown2 : wg1.ownsRow (w.heap.size + 2) 122 3 (.slice (some ⟨gg1, 0, none⟩) ((z :: lf).length + 1) cp1) ((z :: lf).length + 1) ((z :: lf).flatMap flatI ++ flatI y) := by unfold flatI; rw [hvy]; exact hown
              have HN1 := Lib.hid (HM3.out.grow hown2 hgrow hat)
              clear hown hown2 hgrow hat hlt2 hne hlw l0 z0 k0 kz hbl0 hbl1 hn1 c0 c1 c2 HM3
              generalize (wg1.setCell ⟨w.heap.size, 0, none⟩ (.slice (some ⟨gg1, 0, none⟩) ((z :: lf).length + 1) cp1)) = ws1 at *
              obtain ⟨L2, hL2⟩ : ∃ L2, z :: lf ++ [y] = L2 := ⟨_, rfl⟩
              rw [hL2] at HN1
              have hL2n : L2.length ≤ lf.length + 2 := by rw [← hL2]; simp
              have hL2m : lf.length + 2 ≤ L2.length := by rw [← hL2]; simp
              have hlen2 : lf.length + 2 ≤ k := by simpa using hlen
              have HL2 := Lib.hid hL2
              clear hL2
              have l0 : ws1.cell? ⟨w.heap.size, 0, none⟩ = some (.slice (some ⟨gg1, 0, none⟩) (L2).length cp1) := HN1.out.B.cell 0
              have z0 := HN1.out.B.free 0
              have q0 : ws1.cell? ⟨q, 0, none⟩ = some (.iface T v) := by rw [← hv]; exact HN1.out.Q.cell 0
              have q1 : ws1.cell? ⟨q, 1, none⟩ = some (.int .i64 x.l) := HN1.out.Q.cell 1
              have q2 : ws1.cell? ⟨q, 2, none⟩ = some (.int .i64 x.c) := HN1.out.Q.cell 2
              have hne : some w.heap.size ≠ (Value.slice (some ⟨gg1, 0, none⟩) (L2).length cp1).ownBlock := own_off HN1.out.O (by omega)
              have hlw : w.heap.size < ws1.heap.size := HN1.out.B.lt
              have hn1 : (L2).length ≤ 300000 := by omega
              have hbl0 := HN1.out.q0
              have hbl1 := HN1.out.Q.lt
              go_upto_region 12 with (at_builtin; go_must (refine wpList_append_lies _ rfl _ _ _ rfl (w.heap.size + 2) 122 i0 _ 3 32 Tryz.underlying109 hi0 hz0 hz1 hz2 rfl (by omega) (.slice (some ⟨gg1, 0, none⟩) (L2).length cp1) (L2).length ((L2).flatMap flatI) rfl (World.ownsRow.alloc HN1.out.O _) ⟨ws1.heap.size, 0, none⟩ 1 1 [.iface T v, .int .i64 x.l, .int .i64 x.c] rfl rfl (World.news_of_block (heap_alloc_new ws1 _)) (by simp [Value.oneCell']) (by omega) (by simp only [maxLen]; omega) (by omega) (by simp; omega) (ws1.heap.size + 1) (by simp) ?_; intro gg2 cp2 wg2 hown hgrow hat hlt2); go_must (have k0 : wg2.cell? ⟨w.heap.size, 0, none⟩ = some (.slice (some ⟨gg1, 0, none⟩) (L2).length cp1) := by (rw [hgrow.cell_far _ (by simp; omega) hne]; go_simp)); go_must (have kz : wg2.frozen? ⟨w.heap.size, 0, none⟩ = false := by (rw [hgrow.frozen_far _ (by simp; omega) hne]; go_simp)))
              have hown2 : wg2.ownsRow (w.heap.size + 2) 122 3 (.slice (some ⟨gg2, 0, none⟩) ((L2).length + 1) cp2) ((L2).length + 1) ((L2).flatMap flatI ++ flatI x) := by unfold flatI; rw [hv]; exact hown
              have HN2 := Lib.hid (HN1.out.grow hown2 hgrow hat)
              clear hown hown2 hgrow hat hlt2 hne hlw l0 z0 k0 kz hbl0 hbl1 hn1 q0 q1 q2 HN1
              generalize (wg2.setCell ⟨w.heap.size, 0, none⟩ (.slice (some ⟨gg2, 0, none⟩) ((L2).length + 1) cp2)) = ws2 at *
              have e0 := HN2.out.T.cell 0
              have e1 := HN2.out.T.cell 1
              have e2 := HN2.out.T.cell 2
              have ez0 := HN2.out.T.free 0
              have ez1 := HN2.out.T.free 1
              have ez2 := HN2.out.T.free 2
              simp only [cellsO, List.getElem?_toArray, List.getElem?_cons_succ, List.getElem?_cons_zero] at e0 e1 e2
              have HZ : Hid (Mid w (((ws2.setCell ⟨w.heap.size + 1, 0, none⟩ .nilIface).setCell ⟨w.heap.size + 1, 1, none⟩ (.int .i64 0)).setCell ⟨w.heap.size + 1, 2, none⟩ (.int .i64 0)) q x (some ⟨gg2, 0, none⟩) cp2 (L2 ++ [x]) none) := HN2.out.put none
              clear HN2
              go_wp2
              go_roundw
              case rel => exact ⟨k + 1, none, L2 ++ [x], some ⟨gg2, 0, none⟩, cp2, by go_num, by omega, by (have hs := HS.out; rw [if_neg (by simp), show z :: lf ++ (some y).toList = L2 from HL2.out] at hs; rw [hs] at HF2; exact HF2), by simp; omega, by simpa using HZ.out.B, by simpa using HZ.out.O, HZ.out.T, HZ.out.W, by have := HZ.out.Q.lt; omega⟩
              case measure => simp [intOf]; omega
        · have HS := Lib.hid (step_end (st := (bt, lf)) hke)
          rw [hke] at IE
          clear hke
          go_wp2_with fail
          refine (IE.out _).mono ?_
          rintro e w3 ⟨rfl, hb3⟩
          have HM3 := Lib.hid (HM.out.below hb3)
          have hz3 := hb3.size
          clear hb3 IE HM q0 q1 q2
          cases bt with
          | none =>
            have c0 : w3.cell? ⟨w.heap.size + 1, 0, none⟩ = some .nilIface := HM3.out.T.cell 0
            have c1 : w3.cell? ⟨w.heap.size + 1, 1, none⟩ = some (.int .i64 0) := HM3.out.T.cell 1
            have c2 : w3.cell? ⟨w.heap.size + 1, 2, none⟩ = some (.int .i64 0) := HM3.out.T.cell 2
            have f0 := HM3.out.T.free 0
            have f1 := HM3.out.T.free 1
            have f2 := HM3.out.T.free 2
            have q0 : w3.cell? ⟨q, 0, none⟩ = some (.iface T v) := by rw [← hv]; exact HM3.out.Q.cell 0
            have q1 : w3.cell? ⟨q, 1, none⟩ = some (.int .i64 x.l) := HM3.out.Q.cell 1
            have q2 : w3.cell? ⟨q, 2, none⟩ = some (.int .i64 x.c) := HM3.out.Q.cell 2
            have hen := eql_nil_nil
            have HM5 := Lib.hid (HM3.out.put (some x))
            have HM6 : Hid (Mid w (((w3.setCell ⟨w.heap.size + 1, 0, none⟩ (.iface T v)).setCell ⟨w.heap.size + 1, 1, none⟩ (.int .i64 x.l)).setCell ⟨w.heap.size + 1, 2, none⟩ (.int .i64 x.c)) q x b cap lf (some x)) := by
              have h := HM5.out
              rw [show hasO (some x) = .iface T v from hv] at h
              exact h
            clear HM5 HM3
            go_wp2
            go_roundw
            case rel => exact ⟨k + 1, some x, lf, b, cap, by go_num, by omega, by rw [HS.out] at HF2; exact HF2, by simp at hlen ⊢; omega, HM6.out.B, HM6.out.O, HM6.out.T, HM6.out.W, by have := HM6.out.Q.lt; omega⟩
            case measure => simp [intOf]; omega
          | some y =>
            obtain ⟨Ty, vy, hvy⟩ := has_iface y
            have c0 : w3.cell? ⟨w.heap.size + 1, 0, none⟩ = some (.iface Ty vy) := by rw [← hvy]; exact HM3.out.T.cell 0
            have hen := eql_has_nil
            go_wp2
            go_roundw
            case rel => exact ⟨k + 1, some y, lf, b, cap, by go_num, by omega, by rw [HS.out] at HF2; exact HF2, by simp at hlen ⊢; omega, HM3.out.B, HM3.out.O, HM3.out.T, HM3.out.W, by have := HM3.out.Q.lt; omega⟩
            case measure => simp [intOf]; omega
      · obtain ⟨q, hq⟩ : ∃ q, q = wr.heap.size + 1 := ⟨_, rfl⟩
        have hmid : Mid w (((w1.setCell ⟨wr.heap.size + 1, 0, none⟩ (.iface T v)).setCell ⟨wr.heap.size + 1, 1, none⟩ (.int .i64 x.l)).setCell ⟨wr.heap.size + 1, 2, none⟩ (.int .i64 x.c)) q x b cap lf bt := by
          have hb1 : Below wr.heap.size wr w1 := (((Below.refl _ wr).alloc (Nat.le_refl _) _).alloc (by simp) _).drew.trans (HB1.out.mono (by simp; omega))
          have hb2 := ((hb1.setCell (p := ⟨wr.heap.size + 1, 0, none⟩) (by simp) (.iface T v)).setCell (p := ⟨wr.heap.size + 1, 1, none⟩) (by simp) (.int .i64 x.l)).setCell (p := ⟨wr.heap.size + 1, 2, none⟩) (by simp) (.int .i64 x.c)
          have hQ : Blk w1 (wr.heap.size + 1) 122 #[.nilIface, .int .i64 0, .int .i64 0] := by
            have h := Blk.new (wr.alloc (.cells #[.int .i64 x.k, .string x.t, .int .i64 x.n, .int .i64 x.l, .int .i64 x.c] 158)) 122 #[.nilIface, .int .i64 0, .int .i64 0]
            have e : (wr.alloc (.cells #[.int .i64 x.k, .string x.t, .int .i64 x.n, .int .i64 x.l, .int .i64 x.c] 158)).heap.size = wr.heap.size + 1 := by simp
            rw [e] at h
            exact Blk.below h.drew HB1.out (by simp)
          refine ⟨HB.out.below hb2 HB.out.lt, HT.out.below hb2 HT.out.lt, ?_, own_keep HO.out ⟨hb2.size, fun k _ hk => hb2.block k hk⟩, HW.out.trans (hb2.mono HW.out.size), by omega, fun k hk => by have := (HO.out.lt k hk).2; omega⟩
          unfold cellsO
          rw [show hasO (some x) = .iface T v from hv, hq]
          exact ((hQ.put 0 _).put 1 _).put 2 _
        rename_i hHeld
        clear hHeld hc1 hf1 HB1 hz1
        generalize (((w1.setCell ⟨wr.heap.size + 1, 0, none⟩ (.iface T v)).setCell ⟨wr.heap.size + 1, 1, none⟩ (.int .i64 x.l)).setCell ⟨wr.heap.size + 1, 2, none⟩ (.int .i64 x.c)) = w2 at *
        rw [← hq]
        clear hq
        have HM := Lib.hid hmid
        have hqs := hmid.Q.lt
        have hqz := hmid.q0
        clear hmid HB HO HT HW HA
        have q0 : w2.cell? ⟨q, 0, none⟩ = some (.iface T v) := by rw [← hv]; exact HM.out.Q.cell 0
        have q1 : w2.cell? ⟨q, 1, none⟩ = some (.int .i64 x.l) := HM.out.Q.cell 1
        have q2 : w2.cell? ⟨q, 2, none⟩ = some (.int .i64 x.c) := HM.out.Q.cell 2
        have IE : Hid (∀ W, Calls Tryz.prog 120 #[.agg #[.iface T v, .int .i64 x.l, .int .i64 x.c]] W fun e w' => e = .returned (.bool (endK x)) ∧ Below W.heap.size W w') := fun W => by
          have := isEnd_any (some x) W
          unfold itemV at this
          rw [show hasO (some x) = .iface T v from hv] at this
          exact this
        cases hke : endK x
        · have HS := Lib.hid (step_word (st := (bt, lf)) hke)
          rw [hke] at IE
          clear hke
          go_wp2_with fail
          refine (IE.out _).mono ?_
          rintro e w3 ⟨rfl, hb3⟩
          have HM3 := Lib.hid (HM.out.below hb3)
          have hz3 := hb3.size
          clear hb3 IE HM q0 q1 q2
          cases bt with
          | none =>
            have c0 : w3.cell? ⟨w.heap.size + 1, 0, none⟩ = some .nilIface := HM3.out.T.cell 0
            have hnn := neq_nil_nil
            have l0 : w3.cell? ⟨w.heap.size, 0, none⟩ = some (.slice b (lf).length cap) := HM3.out.B.cell 0
            have z0 := HM3.out.B.free 0
            have q0 : w3.cell? ⟨q, 0, none⟩ = some (.iface T v) := by rw [← hv]; exact HM3.out.Q.cell 0
            have q1 : w3.cell? ⟨q, 1, none⟩ = some (.int .i64 x.l) := HM3.out.Q.cell 1
            have q2 : w3.cell? ⟨q, 2, none⟩ = some (.int .i64 x.c) := HM3.out.Q.cell 2
            have hne : some w.heap.size ≠ (Value.slice b (lf).length cap).ownBlock := own_off HM3.out.O (by omega)
            have hlw : w.heap.size < w3.heap.size := HM3.out.B.lt
            have hn1 : (lf).length ≤ 300000 := by simp at hlen ⊢; omega
            have hbl0 := HM3.out.q0
            have hbl1 := HM3.out.Q.lt
            go_upto_region 12 with (at_builtin; go_must (refine wpList_append_lies _ rfl _ _ _ rfl (w.heap.size + 2) 122 i0 _ 3 32 Tryz.underlying109 hi0 hz0 hz1 hz2 rfl (by omega) (.slice b (lf).length cap) (lf).length ((lf).flatMap flatI) rfl (World.ownsRow.alloc HM3.out.O _) ⟨w3.heap.size, 0, none⟩ 1 1 [.iface T v, .int .i64 x.l, .int .i64 x.c] rfl rfl (World.news_of_block (heap_alloc_new w3 _)) (by simp [Value.oneCell']) (by omega) (by simp only [maxLen]; omega) (by omega) (by simp; omega) (w3.heap.size + 1) (by simp) ?_; intro gg1 cp1 wg1 hown hgrow hat hlt2); go_must (have k0 : wg1.cell? ⟨w.heap.size, 0, none⟩ = some (.slice b (lf).length cap) := by (rw [hgrow.cell_far _ (by simp; omega) hne]; go_simp)); go_must (have kz : wg1.frozen? ⟨w.heap.size, 0, none⟩ = false := by (rw [hgrow.frozen_far _ (by simp; omega) hne]; go_simp)))
            have hown2 : wg1.ownsRow (w.heap.size + 2) 122 3 (.slice (some ⟨gg1, 0, none⟩) ((lf).length + 1) cp1) ((lf).length + 1) ((lf).flatMap flatI ++ flatI x) := by unfold flatI; rw [hv]; exact hown
            have HN1 := Lib.hid (HM3.out.grow hown2 hgrow hat)
            clear hown hown2 hgrow hat hlt2 hne hlw l0 z0 k0 kz hbl0 hbl1 hn1 q0 q1 q2 c0 HM3
            generalize (wg1.setCell ⟨w.heap.size, 0, none⟩ (.slice (some ⟨gg1, 0, none⟩) ((lf).length + 1) cp1)) = ws1 at *
            have e0 := HN1.out.T.cell 0
            have e1 := HN1.out.T.cell 1
            have e2 := HN1.out.T.cell 2
            have ez0 := HN1.out.T.free 0
            have ez1 := HN1.out.T.free 1
            have ez2 := HN1.out.T.free 2
            simp only [cellsO, List.getElem?_toArray, List.getElem?_cons_succ, List.getElem?_cons_zero] at e0 e1 e2
            have HZ : Hid (Mid w (((ws1.setCell ⟨w.heap.size + 1, 0, none⟩ .nilIface).setCell ⟨w.heap.size + 1, 1, none⟩ (.int .i64 0)).setCell ⟨w.heap.size + 1, 2, none⟩ (.int .i64 0)) q x (some ⟨gg1, 0, none⟩) cp1 (lf ++ [x]) none) := HN1.out.put none
            clear HN1
            go_wp2
            go_roundw
            case rel => exact ⟨k + 1, none, lf ++ [x], some ⟨gg1, 0, none⟩, cp1, by go_num, by omega, by (have hs := HS.out; rw [show (if lf = [] then [] else lf ++ (none : Option Wd).toList) = lf by by_cases h : lf = [] <;> simp [h]] at hs; rw [hs] at HF2; exact HF2), by simp at hlen ⊢; omega, by simpa using HZ.out.B, by simpa using HZ.out.O, HZ.out.T, HZ.out.W, by have := HZ.out.Q.lt; omega⟩
            case measure => simp [intOf]; omega
          | some y =>
            obtain ⟨Ty, vy, hvy⟩ := has_iface y
            have hnn := neq_has_nil
            cases lf with
            | nil =>
              have c0 : w3.cell? ⟨w.heap.size + 1, 0, none⟩ = some (.iface Ty vy) := by rw [← hvy]; exact HM3.out.T.cell 0
              have l0 : w3.cell? ⟨w.heap.size, 0, none⟩ = some (.slice b (([] : List Wd)).length cap) := HM3.out.B.cell 0
              have z0 := HM3.out.B.free 0
              have q0 : w3.cell? ⟨q, 0, none⟩ = some (.iface T v) := by rw [← hv]; exact HM3.out.Q.cell 0
              have q1 : w3.cell? ⟨q, 1, none⟩ = some (.int .i64 x.l) := HM3.out.Q.cell 1
              have q2 : w3.cell? ⟨q, 2, none⟩ = some (.int .i64 x.c) := HM3.out.Q.cell 2
              have hne : some w.heap.size ≠ (Value.slice b (([] : List Wd)).length cap).ownBlock := own_off HM3.out.O (by omega)
              have hlw : w.heap.size < w3.heap.size := HM3.out.B.lt
              have hn1 : (([] : List Wd)).length ≤ 300000 := by simp
              have hbl0 := HM3.out.q0
              have hbl1 := HM3.out.Q.lt
              go_upto_region 12 with (at_builtin; go_must (refine wpList_append_lies _ rfl _ _ _ rfl (w.heap.size + 2) 122 i0 _ 3 32 Tryz.underlying109 hi0 hz0 hz1 hz2 rfl (by omega) (.slice b (([] : List Wd)).length cap) (([] : List Wd)).length ((([] : List Wd)).flatMap flatI) rfl (World.ownsRow.alloc HM3.out.O _) ⟨w3.heap.size, 0, none⟩ 1 1 [.iface T v, .int .i64 x.l, .int .i64 x.c] rfl rfl (World.news_of_block (heap_alloc_new w3 _)) (by simp [Value.oneCell']) (by omega) (by simp only [maxLen]; omega) (by omega) (by simp; omega) (w3.heap.size + 1) (by simp) ?_; intro gg1 cp1 wg1 hown hgrow hat hlt2); go_must (have k0 : wg1.cell? ⟨w.heap.size, 0, none⟩ = some (.slice b (([] : List Wd)).length cap) := by (rw [hgrow.cell_far _ (by simp; omega) hne]; go_simp)); go_must (have kz : wg1.frozen? ⟨w.heap.size, 0, none⟩ = false := by (rw [hgrow.frozen_far _ (by simp; omega) hne]; go_simp)))
              have hown2 : wg1.ownsRow (w.heap.size + 2) 122 3 (.slice (some ⟨gg1, 0, none⟩) ((([] : List Wd)).length + 1) cp1) ((([] : List Wd)).length + 1) ((([] : List Wd)).flatMap flatI ++ flatI x) := by unfold flatI; rw [hv]; exact hown
              have HN1 := Lib.hid (HM3.out.grow hown2 hgrow hat)
              clear hown hown2 hgrow hat hlt2 hne hlw l0 z0 k0 kz hbl0 hbl1 hn1 q0 q1 q2 c0 HM3
              generalize (wg1.setCell ⟨w.heap.size, 0, none⟩ (.slice (some ⟨gg1, 0, none⟩) ((([] : List Wd)).length + 1) cp1)) = ws1 at *
              have e0 := HN1.out.T.cell 0
              have e1 := HN1.out.T.cell 1
              have e2 := HN1.out.T.cell 2
              have ez0 := HN1.out.T.free 0
              have ez1 := HN1.out.T.free 1
              have ez2 := HN1.out.T.free 2
              simp only [cellsO, List.getElem?_toArray, List.getElem?_cons_succ, List.getElem?_cons_zero] at e0 e1 e2
              have HZ : Hid (Mid w (((ws1.setCell ⟨w.heap.size + 1, 0, none⟩ .nilIface).setCell ⟨w.heap.size + 1, 1, none⟩ (.int .i64 0)).setCell ⟨w.heap.size + 1, 2, none⟩ (.int .i64 0)) q x (some ⟨gg1, 0, none⟩) cp1 ([x]) none) := HN1.out.put none
              clear HN1
              go_wp2
              go_roundw
              case rel => exact ⟨k + 1, none, [x], some ⟨gg1, 0, none⟩, cp1, by go_num, by omega, by (have hs := HS.out; simp at hs; rw [hs] at HF2; exact HF2), by simp, by simpa using HZ.out.B, by simpa using HZ.out.O, HZ.out.T, HZ.out.W, by have := HZ.out.Q.lt; omega⟩
              case measure => simp [intOf]; omega
            | cons z lf =>
              have hpos : (0 : Int) < lf.length + 1 := by omega
              have l0 : w3.cell? ⟨w.heap.size, 0, none⟩ = some (.slice b (z :: lf).length cap) := HM3.out.B.cell 0
              have z0 := HM3.out.B.free 0
              have c0 : w3.cell? ⟨w.heap.size + 1, 0, none⟩ = some (.iface Ty vy) := by rw [← hvy]; exact HM3.out.T.cell 0
              have c1 : w3.cell? ⟨w.heap.size + 1, 1, none⟩ = some (.int .i64 y.l) := HM3.out.T.cell 1
              have c2 : w3.cell? ⟨w.heap.size + 1, 2, none⟩ = some (.int .i64 y.c) := HM3.out.T.cell 2
              have hne : some w.heap.size ≠ (Value.slice b (z :: lf).length cap).ownBlock := own_off HM3.out.O (by omega)
              have hlw : w.heap.size < w3.heap.size := HM3.out.B.lt
              have hn1 : (z :: lf).length ≤ 300000 := by simp at hlen ⊢; omega
              have hbl0 := HM3.out.q0
              have hbl1 := HM3.out.Q.lt
              go_upto_region 11 with (at_builtin; go_must (refine wpList_append_lies _ rfl _ _ _ rfl (w.heap.size + 2) 122 i0 _ 3 32 Tryz.underlying109 hi0 hz0 hz1 hz2 rfl (by omega) (.slice b (z :: lf).length cap) (z :: lf).length ((z :: lf).flatMap flatI) rfl (World.ownsRow.alloc HM3.out.O _) ⟨w3.heap.size, 0, none⟩ 1 1 [.iface Ty vy, .int .i64 y.l, .int .i64 y.c] rfl rfl (World.news_of_block (heap_alloc_new w3 _)) (by simp [Value.oneCell']) (by omega) (by simp only [maxLen]; omega) (by omega) (by simp; omega) (w3.heap.size + 1) (by simp) ?_; intro gg1 cp1 wg1 hown hgrow hat hlt2); go_must (have k0 : wg1.cell? ⟨w.heap.size, 0, none⟩ = some (.slice b (z :: lf).length cap) := by (rw [hgrow.cell_far _ (by simp; omega) hne]; go_simp)); go_must (have kz : wg1.frozen? ⟨w.heap.size, 0, none⟩ = false := by (rw [hgrow.frozen_far _ (by simp; omega) hne]; go_simp)))
              have hown2 : wg1.ownsRow (w.heap.size + 2) 122 3 (.slice (some ⟨gg1, 0, none⟩) ((z :: lf).length + 1) cp1) ((z :: lf).length + 1) ((z :: lf).flatMap flatI ++ flatI y) := by unfold flatI; rw [hvy]; exact hown
              have HN1 := Lib.hid (HM3.out.grow hown2 hgrow hat)
              clear hown hown2 hgrow hat hlt2 hne hlw l0 z0 k0 kz hbl0 hbl1 hn1 c0 c1 c2 HM3
              generalize (wg1.setCell ⟨w.heap.size, 0, none⟩ (.slice (some ⟨gg1, 0, none⟩) ((z :: lf).length + 1) cp1)) = ws1 at *
              obtain ⟨L2, hL2⟩ : ∃ L2, z :: lf ++ [y] = L2 := ⟨_, rfl⟩
              rw [hL2] at HN1
              have hL2n : L2.length ≤ lf.length + 2 := by rw [← hL2]; simp
              have hL2m : lf.length + 2 ≤ L2.length := by rw [← hL2]; simp
              have hlen2 : lf.length + 2 ≤ k := by simpa using hlen
              have HL2 := Lib.hid hL2
              clear hL2
              have l0 : ws1.cell? ⟨w.heap.size, 0, none⟩ = some (.slice (some ⟨gg1, 0, none⟩) (L2).length cp1) := HN1.out.B.cell 0
              have z0 := HN1.out.B.free 0
              have q0 : ws1.cell? ⟨q, 0, none⟩ = some (.iface T v) := by rw [← hv]; exact HN1.out.Q.cell 0
              have q1 : ws1.cell? ⟨q, 1, none⟩ = some (.int .i64 x.l) := HN1.out.Q.cell 1
              have q2 : ws1.cell? ⟨q, 2, none⟩ = some (.int .i64 x.c) := HN1.out.Q.cell 2
              have hne : some w.heap.size ≠ (Value.slice (some ⟨gg1, 0, none⟩) (L2).length cp1).ownBlock := own_off HN1.out.O (by omega)
              have hlw : w.heap.size < ws1.heap.size := HN1.out.B.lt
              have hn1 : (L2).length ≤ 300000 := by omega
              have hbl0 := HN1.out.q0
              have hbl1 := HN1.out.Q.lt
              go_upto_region 12 with (at_builtin; go_must (refine wpList_append_lies _ rfl _ _ _ rfl (w.heap.size + 2) 122 i0 _ 3 32 Tryz.underlying109 hi0 hz0 hz1 hz2 rfl (by omega) (.slice (some ⟨gg1, 0, none⟩) (L2).length cp1) (L2).length ((L2).flatMap flatI) rfl (World.ownsRow.alloc HN1.out.O _) ⟨ws1.heap.size, 0, none⟩ 1 1 [.iface T v, .int .i64 x.l, .int .i64 x.c] rfl rfl (World.news_of_block (heap_alloc_new ws1 _)) (by simp [Value.oneCell']) (by omega) (by simp only [maxLen]; omega) (by omega) (by simp; omega) (ws1.heap.size + 1) (by simp) ?_; intro gg2 cp2 wg2 hown hgrow hat hlt2); go_must (have k0 : wg2.cell? ⟨w.heap.size, 0, none⟩ = some (.slice (some ⟨gg1, 0, none⟩) (L2).length cp1) := by (rw [hgrow.cell_far _ (by simp; omega) hne]; go_simp)); go_must (have kz : wg2.frozen? ⟨w.heap.size, 0, none⟩ = false := by (rw [hgrow.frozen_far _ (by simp; omega) hne]; go_simp)))
              have hown2 : wg2.ownsRow (w.heap.size + 2) 122 3 (.slice (some ⟨gg2, 0, none⟩) ((L2).length + 1) cp2) ((L2).length + 1) ((L2).flatMap flatI ++ flatI x) := by unfold flatI; rw [hv]; exact hown
              have HN2 := Lib.hid (HN1.out.grow hown2 hgrow hat)
              clear hown hown2 hgrow hat hlt2 hne hlw l0 z0 k0 kz hbl0 hbl1 hn1 q0 q1 q2 HN1
              generalize (wg2.setCell ⟨w.heap.size, 0, none⟩ (.slice (some ⟨gg2, 0, none⟩) ((L2).length + 1) cp2)) = ws2 at *
              have e0 := HN2.out.T.cell 0
              have e1 := HN2.out.T.cell 1
              have e2 := HN2.out.T.cell 2
              have ez0 := HN2.out.T.free 0
              have ez1 := HN2.out.T.free 1
              have ez2 := HN2.out.T.free 2
              simp only [cellsO, List.getElem?_toArray, List.getElem?_cons_succ, List.getElem?_cons_zero] at e0 e1 e2
              have HZ : Hid (Mid w (((ws2.setCell ⟨w.heap.size + 1, 0, none⟩ .nilIface).setCell ⟨w.heap.size + 1, 1, none⟩ (.int .i64 0)).setCell ⟨w.heap.size + 1, 2, none⟩ (.int .i64 0)) q x (some ⟨gg2, 0, none⟩) cp2 (L2 ++ [x]) none) := HN2.out.put none
              clear HN2
              go_wp2
              go_roundw
              case rel => exact ⟨k + 1, none, L2 ++ [x], some ⟨gg2, 0, none⟩, cp2, by go_num, by omega, by (have hs := HS.out; rw [if_neg (by simp), show z :: lf ++ (some y).toList = L2 from HL2.out] at hs; rw [hs] at HF2; exact HF2), by simp; omega, by simpa using HZ.out.B, by simpa using HZ.out.O, HZ.out.T, HZ.out.W, by have := HZ.out.Q.lt; omega⟩
              case measure => simp [intOf]; omega
        · have HS := Lib.hid (step_end (st := (bt, lf)) hke)
          rw [hke] at IE
          clear hke
          go_wp2_with fail
          refine (IE.out _).mono ?_
          rintro e w3 ⟨rfl, hb3⟩
          have HM3 := Lib.hid (HM.out.below hb3)
          have hz3 := hb3.size
          clear hb3 IE HM q0 q1 q2
          cases bt with
          | none =>
            have c0 : w3.cell? ⟨w.heap.size + 1, 0, none⟩ = some .nilIface := HM3.out.T.cell 0
            have c1 : w3.cell? ⟨w.heap.size + 1, 1, none⟩ = some (.int .i64 0) := HM3.out.T.cell 1
            have c2 : w3.cell? ⟨w.heap.size + 1, 2, none⟩ = some (.int .i64 0) := HM3.out.T.cell 2
            have f0 := HM3.out.T.free 0
            have f1 := HM3.out.T.free 1
            have f2 := HM3.out.T.free 2
            have q0 : w3.cell? ⟨q, 0, none⟩ = some (.iface T v) := by rw [← hv]; exact HM3.out.Q.cell 0
            have q1 : w3.cell? ⟨q, 1, none⟩ = some (.int .i64 x.l) := HM3.out.Q.cell 1
            have q2 : w3.cell? ⟨q, 2, none⟩ = some (.int .i64 x.c) := HM3.out.Q.cell 2
            have hen := eql_nil_nil
            have HM5 := Lib.hid (HM3.out.put (some x))
            have HM6 : Hid (Mid w (((w3.setCell ⟨w.heap.size + 1, 0, none⟩ (.iface T v)).setCell ⟨w.heap.size + 1, 1, none⟩ (.int .i64 x.l)).setCell ⟨w.heap.size + 1, 2, none⟩ (.int .i64 x.c)) q x b cap lf (some x)) := by
              have h := HM5.out
              rw [show hasO (some x) = .iface T v from hv] at h
              exact h
            clear HM5 HM3
            go_wp2
            go_roundw
            case rel => exact ⟨k + 1, some x, lf, b, cap, by go_num, by omega, by rw [HS.out] at HF2; exact HF2, by simp at hlen ⊢; omega, HM6.out.B, HM6.out.O, HM6.out.T, HM6.out.W, by have := HM6.out.Q.lt; omega⟩
            case measure => simp [intOf]; omega
          | some y =>
            obtain ⟨Ty, vy, hvy⟩ := has_iface y
            have c0 : w3.cell? ⟨w.heap.size + 1, 0, none⟩ = some (.iface Ty vy) := by rw [← hvy]; exact HM3.out.T.cell 0
            have hen := eql_has_nil
            go_wp2
            go_roundw
            case rel => exact ⟨k + 1, some y, lf, b, cap, by go_num, by omega, by rw [HS.out] at HF2; exact HF2, by simp at hlen ⊢; omega, HM3.out.B, HM3.out.O, HM3.out.T, HM3.out.W, by have := HM3.out.Q.lt; omega⟩
            case measure => simp [intOf]; omega
    · have hlt' : (ws.length : Int) ≤ k := by omega
      have HP : Hid (pruned ws = lf) := by
        show _ = _
        unfold pruned
        rw [← HF.out, List.drop_eq_nil_of_le (by omega)]
        rfl
      have c0 : wr.cell? ⟨w.heap.size, 0, none⟩ = some (.slice b lf.length cap) := HB.out.cell 0
      have z0 := HB.out.free 0
      have hB5 := HB.out.put 0 (.slice b lf.length cap)
      have HO5 : Hid ((wr.setCell ⟨w.heap.size, 0, none⟩ (.slice b lf.length cap)).ownsRow w.heap.size 122 3 (.slice b lf.length cap) lf.length (lf.flatMap flatI)) := own_put (own_base HO.out (by omega)) (p := ⟨w.heap.size, 0, none⟩) (own_off HO.out (by show w.heap.size < w.heap.size + 2; omega)) _
      have HW5 : Hid (Below w.heap.size w (wr.setCell ⟨w.heap.size, 0, none⟩ (.slice b lf.length cap))) := HW.out.setCell (p := ⟨w.heap.size, 0, none⟩) (Nat.le_refl _) _
      have k0 : (wr.setCell ⟨w.heap.size, 0, none⟩ (.slice b lf.length cap)).cell? ⟨w.heap.size, 0, none⟩ = some (.slice b lf.length cap) := (hB5.cell 0).trans rfl
      clear hB5 HF HB HO HT HW
      go_wp2
      generalize (wr.setCell ⟨w.heap.size, 0, none⟩ (.slice b lf.length cap)) = w5 at *
      refine bodyPost_ret (v := .agg #[.slice b lf.length cap]) (by simp [results, Tryz.results75, go_sem, k0]) rfl ⟨b, cap, by rw [HP.out], ?_, HW5.out⟩
      rw [HP.out]
      exact HO5.out
end Go.Proofs.YthiipgahbmoiiaaGreatDoor
