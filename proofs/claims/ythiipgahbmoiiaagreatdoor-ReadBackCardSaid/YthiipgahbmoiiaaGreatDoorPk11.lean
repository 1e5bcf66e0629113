/-
  The reader's step over a rune, its fault, and how a draft becomes a word, do in memory what the plain functions say. No condition beyond those that each theorem states.
-/
import Derived.Test.YthiipgahbmoiiaaGreatDoorPk10
import Derived.Deep.RegionHeld3
import Derived.Deep.RegionLaw
import Derived.Deep.AppendLies
import Derived.Lib.Hide
namespace Go.Proofs.YthiipgahbmoiiaaGreatDoor
open Go.RowKit

/-- The reader's cells. -/
def cellsR (s : ByteArray) (σ : Rd) (v : Value) : Array Value :=
  #[.int .i64 σ.line, .int .i64 σ.col, .int .i64 σ.w.k, .string σ.w.t, .int .i64 σ.w.n, .int .i64 σ.w.l, .int .i64 σ.w.c, .int .i64 σ.frm, .int .i64 σ.many, .bool σ.below,
    .string s, v, .bool σ.remark, .int .i64 σ.bl, .int .i64 σ.bc, .int .i64 σ.f]
def flatW (x : Wd) : List Value := [.int .i64 x.k, .string x.t, .int .i64 x.n, .int .i64 x.l, .int .i64 x.c]
/-- The reader lies in block g; its words' row from block b on. -/
def Lies (w : World) (b g : Nat) (s : ByteArray) (σ : Rd) : Prop :=
  ∃ a c, Blk w g 162 (cellsR s σ (.slice a σ.ws.length c)) ∧ w.ownsRow b 158 5 (.slice a σ.ws.length c) σ.ws.length (σ.ws.flatMap flatW) ∧ g < b ∧ b ≤ w.heap.size
theorem Lies.put {w : World} {b g : Nat} {s : ByteArray} {σ : Rd} (h : Lies w b g s σ) (σ' : Rd) (i : Nat) (u : Value) (hw : σ'.ws = σ.ws) (hc : ∀ v, (cellsR s σ v).setIfInBounds i u = cellsR s σ' v) :
    Lies (w.setCell ⟨g, i, none⟩ u) b g s σ' := by
  obtain ⟨a, c, hb, ho, hg, hs⟩ := h
  rw [← hw] at hb ho
  refine ⟨a, c, ?_, own_put ho (own_far ho hb (by decide)) u, hg, by simpa [World.setCell] using hs⟩
  have := hb.put i u
  rw [hc] at this
  exact this
theorem Lies.drewN {w : World} {b g : Nat} {s : ByteArray} {σ : Rd} (h : Lies w b g s σ) (n : Nat) : Lies (w.drewN n) b g s σ := h
theorem Lies.alloc {w : World} {b g : Nat} {s : ByteArray} {σ : Rd} (h : Lies w b g s σ) (o : Obj) : Lies (w.alloc o) b g s σ := by
  obtain ⟨a, c, hb, ho, hg, hs⟩ := h
  exact ⟨a, c, hb.alloc o, ho.alloc o, hg, by simp; omega⟩

theorem pass_any (g : Nat) (s : ByteArray) (σ : Rd) (r : Int) (b : Nat) (w : World) (h : Lies w b g s σ) (hl : 0 ≤ σ.line ∧ σ.line < 1000000) (hc : 0 ≤ σ.col ∧ σ.col < 1000000) :
    Calls Tryz.prog 117 #[.pointer (some ⟨g, 0, none⟩), .int .i32 r] w fun e w' => e = .returned (.tuple #[]) ∧ Lies w' b g s (σ.pass r) ∧ Keep b g w w' := by
  obtain ⟨a, c, hb, ho, hg, hs⟩ := id h
  obtain ⟨hl1, hl2⟩ := hl
  obtain ⟨hc1, hc2⟩ := hc
  have c0 : w.cell? ⟨g, 0, none⟩ = some (.int .i64 σ.line) := hb.cell 0
  have c1 : w.cell? ⟨g, 1, none⟩ = some (.int .i64 σ.col) := hb.cell 1
  have f0 := hb.free 0
  have f1 := hb.free 1
  by_cases hr : r = 10
  · have hr' : (r == 10) = true := by simp [hr]
    have e : σ.pass r = { σ with line := σ.line + 1, col := 1 } := if_pos hr
    have E := Lib.hid e
    clear e hr
    go_enter Tryz.func117, Tryz.ntmps117
    go_wp2
    go_end0
    refine ⟨rfl, ?_, ((Keep.put _ _ _ _ _).trans (Keep.put _ _ _ _ _)).trans (Keep.put _ _ _ _ _)⟩
    rw [E.out]
    exact ((h.put { σ with col := σ.col + 1 } 1 _ rfl (fun _ => rfl)).put { σ with col := σ.col + 1, line := σ.line + 1 } 0 _ rfl (fun _ => rfl)).put _ 1 _ rfl (fun _ => rfl)
  · have hr' : (r == 10) = false := by simp [hr]
    have e : σ.pass r = { σ with col := σ.col + 1 } := if_neg hr
    have E := Lib.hid e
    clear e hr
    go_enter Tryz.func117, Tryz.ntmps117
    go_wp2
    go_end0
    refine ⟨rfl, ?_, Keep.put _ _ _ _ _⟩
    rw [E.out]
    exact h.put _ 1 _ rfl (fun _ => rfl)

theorem fail_any (g : Nat) (s : ByteArray) (σ : Rd) (l cc ee : Int) (b : Nat) (w : World) (h : Lies w b g s σ) :
    Calls Tryz.prog 159 #[.pointer (some ⟨g, 0, none⟩), .agg #[.int .i64 l, .int .i64 cc], .int .i64 ee] w fun e w' => e = .returned (.tuple #[]) ∧ Lies w' b g s (σ.fail l cc ee) ∧ Keep b g w w' := by
  obtain ⟨a, c, hb, ho, hg, hs⟩ := id h
  have hlt := hb.lt
  have c0 : w.cell? ⟨g, 13, none⟩ = some (.int .i64 σ.bl) := hb.cell 13
  have c1 : w.cell? ⟨g, 14, none⟩ = some (.int .i64 σ.bc) := hb.cell 14
  have c2 : w.cell? ⟨g, 15, none⟩ = some (.int .i64 σ.f) := hb.cell 15
  have f0 := hb.free 13
  have f1 := hb.free 14
  have f2 := hb.free 15
  go_enter Tryz.func159, Tryz.ntmps159
  go_wp2
  go_end0
  refine ⟨rfl, ?_, (((Keep.put _ _ _ _ _).trans (Keep.put _ _ _ _ _)).trans (Keep.put _ _ _ _ _)).trans (Keep.alloc (by simp [World.setCell]; omega) _ _)⟩
  exact (((h.put { σ with bl := l } 13 _ rfl (fun _ => rfl)).put { σ with bl := l, bc := cc } 14 _ rfl (fun _ => rfl)).put (σ.fail l cc ee) 15 _ rfl (fun _ => rfl)).alloc _
  go_show

theorem word_info : (Tryz.prog.info? 158).map (fun i => (i.zero, i.size, i.bytes)) = some (some (.agg #[.int .i64 0, .string noText, .int .i64 0, .int .i64 0, .int .i64 0]), 5, 48) := by kernel_rfl

/-- The row with one word more, stored back. -/
theorem Lies.grow {w w2 : World} {b g : Nat} {s : ByteArray} {σ : Rd} {a : Option Addr} {c gg cap : Nat} {x : Wd} {o : Obj} (hb : Blk w g 162 (cellsR s { σ with w := x } (.slice a σ.ws.length c)))
    (hg : g < b) (hs : b ≤ w.heap.size) (hrow : ∀ k, (Value.slice a σ.ws.length c).ownBlock = some k → b ≤ k) (hne : some g ≠ (Value.slice a σ.ws.length c).ownBlock)
    (hgrow : (w.alloc o).drew.grownBy w2 (Value.slice a σ.ws.length c).ownBlock)
    (hown : w2.ownsRow b 158 5 (.slice (some ⟨gg, 0, none⟩) (σ.ws.length + 1) cap) (σ.ws.length + 1) (σ.ws.flatMap flatW ++ flatW x)) :
    Lies (w2.setCell ⟨g, 11, none⟩ (.slice (some ⟨gg, 0, none⟩) (σ.ws.length + 1) cap)) b g s { σ with w := x, ws := σ.ws ++ [x] } ∧
      Keep b g w (w2.setCell ⟨g, 11, none⟩ (.slice (some ⟨gg, 0, none⟩) (σ.ws.length + 1) cap)) := by
  have hb2 : Blk w2 g 162 _ := ((hb.alloc o).drew).grown hgrow hne
  have hsz : b ≤ (w.alloc o).drew.heap.size := by simp; omega
  refine ⟨⟨some ⟨gg, 0, none⟩, cap, ?_, ?_, hg, ?_⟩, (((Keep.alloc hs g o).trans (Keep.drew b g _)).trans (Keep.grown hgrow hsz hrow g)).trans (Keep.put b g w2 11 _)⟩
  · have := hb2.put 11 (.slice (some ⟨gg, 0, none⟩) (σ.ws.length + 1) cap)
    rw [List.length_append]
    exact this
  · have h2 := own_put hown (p := ⟨g, 11, none⟩) (own_far hown hb2 (by decide)) (.slice (some ⟨gg, 0, none⟩) (σ.ws.length + 1) cap)
    rw [List.length_append, List.flatMap_append]
    simpa using h2
  · have := hgrow.size
    simp only [World.setCell, Array.size_modify]
    omega

/-- The word that a draft becomes. -/
def Rd.done (s : ByteArray) (σ : Rd) (i : Int) : Wd := if σ.w.k = 4 then σ.w else { σ.w with t := cutText s σ.frm i }

set_option maxHeartbeats 2000000 in
set_option maxRecDepth 100000 in
theorem shut_some (g : Nat) (s : ByteArray) (σ : Rd) (i : Nat) (b : Nat) (w0 w : World) (hw : Keep b g w0 w) (h : Lies w b g s σ) (hk : σ.w.k ≠ 0) (hm : σ.ws.length ≤ 300000) (hf0 : 0 ≤ σ.frm) (hf1 : σ.frm ≤ i) (hi : i ≤ s.size) :
    Calls Tryz.prog 118 #[.pointer (some ⟨g, 0, none⟩), .int .i64 i] w fun e w' => e = .returned (.tuple #[]) ∧ Lies w' b g s (σ.shut s i) ∧ Keep b g w0 w' := by
  obtain ⟨i0, hi0, hz0, hz1, hz2⟩ := info_parts word_info
  obtain ⟨fr, hfr⟩ : ∃ fr : Nat, σ.frm = fr := ⟨σ.frm.toNat, by omega⟩
  have E : Hid (σ.shut s i = { ({ σ with w := σ.done s i } : Rd) with w := noWd, frm := 0, many := 0, below := false, ws := σ.ws ++ [σ.done s i] }) := by
    show _ = _
    unfold Rd.shut Rd.done
    rw [if_neg hk]
  obtain ⟨x, hx⟩ : ∃ x, x = σ.done s i := ⟨_, rfl⟩
  rw [← hx] at E
  by_cases hk4 : σ.w.k = 4
  · have hx1 : x = σ.w := by rw [hx]; exact if_pos hk4
    have k0 : (σ.w.k == 0) = false := by simp [hk]
    have k4 : (σ.w.k != 4) = false := by simp [hk4]
    have c2 : w.cell? ⟨g, 2, none⟩ = some (.int .i64 σ.w.k) := by obtain ⟨a, c, hb, _⟩ := h; exact hb.cell 2
    have Hh : Hid (Lies w b g s { σ with w := x }) := by rw [hx1]; exact h
    have Hw := Lib.hid hw
    clear h hw hk hk4 hfr hx1 hx
    go_enter Tryz.func118, Tryz.ntmps118
    go_wp2_with fail
    clear c2
    obtain ⟨a, c, hb, ho, hg, hs⟩ := id Hh.out
    have hlt := hb.lt
    have d2 : w.cell? ⟨g, 2, none⟩ = some (.int .i64 x.k) := hb.cell 2
    have d3 : w.cell? ⟨g, 3, none⟩ = some (.string x.t) := hb.cell 3
    have d4 : w.cell? ⟨g, 4, none⟩ = some (.int .i64 x.n) := hb.cell 4
    have d5 : w.cell? ⟨g, 5, none⟩ = some (.int .i64 x.l) := hb.cell 5
    have d6 : w.cell? ⟨g, 6, none⟩ = some (.int .i64 x.c) := hb.cell 6
    have d11 : w.cell? ⟨g, 11, none⟩ = some (.slice a σ.ws.length c) := hb.cell 11
    have e11 := hb.free 11
    have ho' : w.ownsRow b 158 5 (.slice a σ.ws.length c) σ.ws.length (σ.ws.flatMap flatW) := ho
    have hne : some g ≠ (Value.slice a σ.ws.length c).ownBlock := own_far ho hb (by decide)
    have Hb := Lib.hid hb
    clear hb ho Hh
    go_region_law
      ((refine step_append_lies _ (by rfl) _ _ _ (by rfl) b 158 i0 _ 5 48 Tryz.underlying106 hi0 hz0 hz1 hz2 rfl (by omega) _ σ.ws.length (σ.ws.flatMap flatW) (by rfl) ((ho'.alloc _).drew)
          ⟨w.heap.size, 0, none⟩ 1 1 (flatW x) (by rfl) (by rfl) (World.news_of_block (cs := #[.int .i64 x.k, .string x.t, .int .i64 x.n, .int .i64 x.l, .int .i64 x.c]) (t := 158) (fr := (0, 0)) (heap_alloc_new w _)) (by simp [Value.oneCell', flatW])
          (by omega) (by simp only [maxLen]; omega) (by omega) (by simp; omega) (w.heap.size + 1) (by simp) ?_; intro gg cap w2 hown2 hgrow hat hlt2; go_must (have k11 : w2.cell? ⟨g, 11, none⟩ = some (.slice a σ.ws.length c) := by (rw [hgrow.cell_far _ (by simp; omega) hne]; go_simp)); go_must (have l11 : w2.frozen? ⟨g, 11, none⟩ = false := by (rw [hgrow.frozen_far _ (by simp; omega) hne]; go_simp))))
    all_goals
      obtain ⟨h3, k3⟩ := Lies.grow Hb.out hg hs (fun k hk => (ho'.lt k hk).1) hne hgrow hown2
      have H3 := Lib.hid h3
      have K3 : Hid (Keep b g w0 _) := Hw.out.trans k3
      clear h3 k3 d2 d3 d4 d5 d6 d11 e11 hne ho' Hb hat hlt2 k11 l11 hgrow hown2 hlt hg hs Hw
      generalize (w2.setCell ⟨g, 11, none⟩ (.slice (some ⟨gg, 0, none⟩) (σ.ws.length + 1) cap)) = w3 at *
      obtain ⟨a3, c3, hb3, ho3, hg3, hs3⟩ := id H3.out
      have m2 := hb3.cell 2
      have m3 := hb3.cell 3
      have m4 := hb3.cell 4
      have m5 := hb3.cell 5
      have m6 := hb3.cell 6
      have m7 := hb3.cell 7
      have m8 := hb3.cell 8
      have m9 := hb3.cell 9
      simp only [cellsR, List.getElem?_toArray, List.getElem?_cons_succ, List.getElem?_cons_zero] at m2 m3 m4 m5 m6 m7 m8 m9
      have n2 := hb3.free 2
      have n3 := hb3.free 3
      have n4 := hb3.free 4
      have n5 := hb3.free 5
      have n6 := hb3.free 6
      have n7 := hb3.free 7
      have n8 := hb3.free 8
      have n9 := hb3.free 9
      clear hb3 ho3
      go_wp2
      go_end0
      refine ⟨rfl, ?_, ?_⟩
      · rw [E.out]
        exact ((((((((H3.out.put { σ with w := { x with k := 0 }, ws := σ.ws ++ [x] } 2 _ rfl (fun _ => rfl)).put { σ with w := { x with k := 0, t := noText }, ws := σ.ws ++ [x] } 3 _ rfl (fun _ => rfl)).put
          { σ with w := { x with k := 0, t := noText, n := 0 }, ws := σ.ws ++ [x] } 4 _ rfl (fun _ => rfl)).put { σ with w := { x with k := 0, t := noText, n := 0, l := 0 }, ws := σ.ws ++ [x] } 5 _ rfl (fun _ => rfl)).put
          { σ with w := noWd, ws := σ.ws ++ [x] } 6 _ rfl (fun _ => rfl)).put { σ with w := noWd, frm := 0, ws := σ.ws ++ [x] } 7 _ rfl (fun _ => rfl)).put
          { σ with w := noWd, frm := 0, many := 0, ws := σ.ws ++ [x] } 8 _ rfl (fun _ => rfl)).put { σ with w := noWd, frm := 0, many := 0, below := false, ws := σ.ws ++ [x] } 9 _ rfl (fun _ => rfl))
      · exact (((((((K3.out.trans (Keep.put _ _ _ _ _)).trans (Keep.put _ _ _ _ _)).trans (Keep.put _ _ _ _ _)).trans (Keep.put _ _ _ _ _)).trans (Keep.put _ _ _ _ _)).trans (Keep.put _ _ _ _ _)).trans (Keep.put _ _ _ _ _)).trans (Keep.put _ _ _ _ _)
  · have hx1 : x = { σ.w with t := s.extract fr i } := by rw [hx, Rd.done, if_neg hk4, cutText, hfr]; rfl
    have k0 : (σ.w.k == 0) = false := by simp [hk]
    have k4 : (σ.w.k != 4) = true := by simp [hk4]
    obtain ⟨a, c, hb, ho, hg, hs⟩ := id h
    have c2 : w.cell? ⟨g, 2, none⟩ = some (.int .i64 σ.w.k) := hb.cell 2
    have c3 : w.cell? ⟨g, 3, none⟩ = some (.string σ.w.t) := hb.cell 3
    have c7 : w.cell? ⟨g, 7, none⟩ = some (.int .i64 fr) := by rw [← hfr]; exact hb.cell 7
    have c10 : w.cell? ⟨g, 10, none⟩ = some (.string s) := hb.cell 10
    have f3 := hb.free 3
    have hfi : fr ≤ i := by omega
    have hfr0 : (0 : Int) ≤ fr := by omega
    have hfri : (fr : Int) ≤ i := by omega
    have hii : (i : Int) ≤ s.size := by omega
    have Hh : Hid (Lies (w.setCell ⟨g, 3, none⟩ (.string (s.extract fr i))).drew b g s { σ with w := x }) := by
      rw [hx1]
      exact h.put { σ with w := { σ.w with t := s.extract fr i } } 3 _ rfl (fun _ => rfl)
    have Hw : Hid (Keep b g w0 (w.setCell ⟨g, 3, none⟩ (.string (s.extract fr i))).drew) := (hw.trans (Keep.put b g w 3 _)).trans (Keep.drew b g _)
    clear h hw hk hk4 hfr hx1 hx hb ho
    go_enter Tryz.func118, Tryz.ntmps118
    go_wp2
    go_region
    go_wp2_with fail
    clear c2 c3 c7 c10 f3 hfi hfr0 hfri hii hg hs
    generalize (w.setCell ⟨g, 3, none⟩ (.string (s.extract fr i))).drew = w at *
    obtain ⟨a, c, hb, ho, hg, hs⟩ := id Hh.out
    have hlt := hb.lt
    have d2 : w.cell? ⟨g, 2, none⟩ = some (.int .i64 x.k) := hb.cell 2
    have d3 : w.cell? ⟨g, 3, none⟩ = some (.string x.t) := hb.cell 3
    have d4 : w.cell? ⟨g, 4, none⟩ = some (.int .i64 x.n) := hb.cell 4
    have d5 : w.cell? ⟨g, 5, none⟩ = some (.int .i64 x.l) := hb.cell 5
    have d6 : w.cell? ⟨g, 6, none⟩ = some (.int .i64 x.c) := hb.cell 6
    have d11 : w.cell? ⟨g, 11, none⟩ = some (.slice a σ.ws.length c) := hb.cell 11
    have e11 := hb.free 11
    have ho' : w.ownsRow b 158 5 (.slice a σ.ws.length c) σ.ws.length (σ.ws.flatMap flatW) := ho
    have hne : some g ≠ (Value.slice a σ.ws.length c).ownBlock := own_far ho hb (by decide)
    have Hb := Lib.hid hb
    clear hb ho Hh
    go_region_law
      ((refine step_append_lies _ (by rfl) _ _ _ (by rfl) b 158 i0 _ 5 48 Tryz.underlying106 hi0 hz0 hz1 hz2 rfl (by omega) _ σ.ws.length (σ.ws.flatMap flatW) (by rfl) ((ho'.alloc _).drew)
          ⟨w.heap.size, 0, none⟩ 1 1 (flatW x) (by rfl) (by rfl) (World.news_of_block (cs := #[.int .i64 x.k, .string x.t, .int .i64 x.n, .int .i64 x.l, .int .i64 x.c]) (t := 158) (fr := (0, 0)) (heap_alloc_new w _)) (by simp [Value.oneCell', flatW])
          (by omega) (by simp only [maxLen]; omega) (by omega) (by simp; omega) (w.heap.size + 1) (by simp) ?_; intro gg cap w2 hown2 hgrow hat hlt2; go_must (have k11 : w2.cell? ⟨g, 11, none⟩ = some (.slice a σ.ws.length c) := by (rw [hgrow.cell_far _ (by simp; omega) hne]; go_simp)); go_must (have l11 : w2.frozen? ⟨g, 11, none⟩ = false := by (rw [hgrow.frozen_far _ (by simp; omega) hne]; go_simp))))
    all_goals
      obtain ⟨h3, k3⟩ := Lies.grow Hb.out hg hs (fun k hk => (ho'.lt k hk).1) hne hgrow hown2
      have H3 := Lib.hid h3
      have K3 : Hid (Keep b g w0 _) := Hw.out.trans k3
      clear h3 k3 d2 d3 d4 d5 d6 d11 e11 hne ho' Hb hat hlt2 k11 l11 hgrow hown2 hlt hg hs Hw
      generalize (w2.setCell ⟨g, 11, none⟩ (.slice (some ⟨gg, 0, none⟩) (σ.ws.length + 1) cap)) = w3 at *
      obtain ⟨a3, c3, hb3, ho3, hg3, hs3⟩ := id H3.out
      have m2 := hb3.cell 2
      have m3 := hb3.cell 3
      have m4 := hb3.cell 4
      have m5 := hb3.cell 5
      have m6 := hb3.cell 6
      have m7 := hb3.cell 7
      have m8 := hb3.cell 8
      have m9 := hb3.cell 9
      simp only [cellsR, List.getElem?_toArray, List.getElem?_cons_succ, List.getElem?_cons_zero] at m2 m3 m4 m5 m6 m7 m8 m9
      have n2 := hb3.free 2
      have n3 := hb3.free 3
      have n4 := hb3.free 4
      have n5 := hb3.free 5
      have n6 := hb3.free 6
      have n7 := hb3.free 7
      have n8 := hb3.free 8
      have n9 := hb3.free 9
      clear hb3 ho3
      go_wp2
      go_end0
      refine ⟨rfl, ?_, ?_⟩
      · rw [E.out]
        exact ((((((((H3.out.put { σ with w := { x with k := 0 }, ws := σ.ws ++ [x] } 2 _ rfl (fun _ => rfl)).put { σ with w := { x with k := 0, t := noText }, ws := σ.ws ++ [x] } 3 _ rfl (fun _ => rfl)).put
          { σ with w := { x with k := 0, t := noText, n := 0 }, ws := σ.ws ++ [x] } 4 _ rfl (fun _ => rfl)).put { σ with w := { x with k := 0, t := noText, n := 0, l := 0 }, ws := σ.ws ++ [x] } 5 _ rfl (fun _ => rfl)).put
          { σ with w := noWd, ws := σ.ws ++ [x] } 6 _ rfl (fun _ => rfl)).put { σ with w := noWd, frm := 0, ws := σ.ws ++ [x] } 7 _ rfl (fun _ => rfl)).put
          { σ with w := noWd, frm := 0, many := 0, ws := σ.ws ++ [x] } 8 _ rfl (fun _ => rfl)).put { σ with w := noWd, frm := 0, many := 0, below := false, ws := σ.ws ++ [x] } 9 _ rfl (fun _ => rfl))
      · exact (((((((K3.out.trans (Keep.put _ _ _ _ _)).trans (Keep.put _ _ _ _ _)).trans (Keep.put _ _ _ _ _)).trans (Keep.put _ _ _ _ _)).trans (Keep.put _ _ _ _ _)).trans (Keep.put _ _ _ _ _)).trans (Keep.put _ _ _ _ _)).trans (Keep.put _ _ _ _ _)
end Go.Proofs.YthiipgahbmoiiaaGreatDoor
