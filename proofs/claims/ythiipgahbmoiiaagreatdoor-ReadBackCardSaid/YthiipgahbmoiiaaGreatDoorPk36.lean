/-
  Package read's params: variables up to the end of a line, none twice (written by gen/rdh.py). Conditions: the library's tables, its errors, and the Ops' names are there.
-/
import Derived.Test.YthiipgahbmoiiaaGreatDoorPk35
namespace Go.Proofs.YthiipgahbmoiiaaGreatDoor
open Go.RowKit

def pdC (c : Cu) (l : List Int) : Cu := if ((varT c.nameT : Nat) : Int) ∈ l then c.fail 7 else c
/-- Parameters, one behind the other: where the cursor is behind them, and which. -/
def parsGo : Nat → Cu → List Int → Cu × List Int
  | 0, c, l => (c, l)
  | f + 1, c, l => if c.anoB l.length then parsGo f (pdC (c.anoC l.length) l).vaC (l ++ [(pdC (c.anoC l.length) l).vaN]) else (c.anoC l.length, l)
def Cu.parsC (c : Cu) : Cu := (parsGo 9 c []).1
def Cu.parsL (c : Cu) : List Int := (parsGo 9 c []).2
theorem pars_step {f : Nat} {c : Cu} {l : List Int} (h : c.anoB l.length = true) : parsGo (f + 1) c l = parsGo f (pdC (c.anoC l.length) l).vaC (l ++ [(pdC (c.anoC l.length) l).vaN]) := by rw [parsGo, if_pos h]
theorem pars_stop {f : Nat} {c : Cu} {l : List Int} (h : c.anoB l.length = false) : parsGo (f + 1) c l = (c.anoC l.length, l) := by rw [parsGo, if_neg (by rw [h]; decide)]
theorem Fit.pdC {c : Cu} (h : Fit c) (l : List Int) : Fit (pdC c l) := by unfold Go.Proofs.YthiipgahbmoiiaaGreatDoor.pdC; split; exact h.fail 7; exact h
theorem vaN_in (c : Cu) : ∃ n : Nat, c.vaN = (n : Int) ∧ n ≤ 200 := ⟨varT c.nameT, rfl, varT_le _⟩
theorem zero_there : (List.range 201).map (fun i => Tryz.zeroCells167[i]?) = List.replicate 201 (some (Value.bool false)) := by kernel_rfl
theorem there_at {i : Nat} (h : i < 201) : Tryz.zeroCells167[i]? = some (.bool false) := by
  have h1 := congrArg (fun l => l[i]?) zero_there
  simp only [List.getElem?_map, List.getElem?_replicate, if_pos h] at h1
  rw [List.getElem?_range h] at h1
  simpa using h1
/-- The table of the variables that are there, the first box behind the world w. -/
def There (W : World) (p : Nat) (l : List Int) : Prop := ∃ cs, Blk W p 167 cs ∧ ∀ i : Nat, i < 201 → cs[i]? = some (.bool (decide ((i : Int) ∈ l)))
structure Pq (w0 w W : World) (q g : Nat) (c : Cu) (v : Value) (l m : List Int) : Prop where
  a : Ak w0 w W q g c v l
  t : There W w.heap.size m
section
variable {w0 w W W' w4 : World} {q g : Nat} {c d : Cu} {v : Value} {l m : List Int}
theorem There.cell {p : Nat} (h : There W p m) {i : Nat} (hi : i < 201) : W.cell? ⟨p, i, none⟩ = some (.bool (decide ((i : Int) ∈ m))) ∧ W.frozen? ⟨p, i, none⟩ = false ∧ p < W.heap.size := by
  obtain ⟨cs, h1, h2⟩ := h
  exact ⟨(h1.cell i).trans (h2 i hi), h1.free i, h1.lt⟩
theorem There.blk {p : Nat} (h : There W p m) : ∃ cs, Blk W p 167 cs := by obtain ⟨cs, h1, _⟩ := h; exact ⟨cs, h1⟩
theorem Pq.call (h : Pq w0 w W q g c v l m) (hw : Gone w0 W q g d W') : Pq w0 w W' q g d v l m := by
  obtain ⟨ds, hds⟩ := cur_blkQ h.a.rp.C
  obtain ⟨cs, h1, h2⟩ := h.t
  exact ⟨h.a.call hw, ⟨cs, Blk.keep h1 hw.2 (blk_ne h1 hds (by decide)), h2⟩⟩
theorem Pq.alloc (h : Pq w0 w W q g c v l m) (o : Obj) : Pq w0 w (W.alloc o) q g c v l m := by
  obtain ⟨cs, h1, h2⟩ := h.t
  exact ⟨h.a.alloc o, ⟨cs, h1.alloc o, h2⟩⟩
theorem Pq.new (h : Rq w0 w q g c) : Pq w0 w (w.alloc (.cells Tryz.zeroCells167 167)) q g c (.slice none 0 0) [] [] :=
  ⟨(Ak.new h).alloc _, ⟨_, Blk.new w _ _, fun i hi => by rw [there_at hi]; simp⟩⟩
theorem Pq.set (h : Pq w0 w W q g c v l m) {n : Nat} (hn : n < 201) : Pq w0 w (W.setCell ⟨w.heap.size, n, none⟩ (.bool true)) q g c v l (m ++ [(n : Int)]) := by
  obtain ⟨cs, h1, h2⟩ := h.t
  refine ⟨⟨⟨h.a.rp.C.keep (Keep.put _ _ _ _ _) h1 (by decide) (by decide), h.a.rp.R.far (p := ⟨w.heap.size, n, none⟩) (blk_ne h.a.rp.R h1 (by decide)) _, h.a.rp.be.setCell (p := ⟨w.heap.size, n, none⟩) h.a.le _, h.a.rp.hg, h.a.rp.fit⟩,
    own_put h.a.row (p := ⟨w.heap.size, n, none⟩) (own_ne h.a.row h1 (by decide)) _, h.a.k.trans ⟨rfl, rfl, rfl, by simp [World.setCell], fun k hk _ => Below.heap_setCell W ⟨w.heap.size, n, none⟩ _ k (by show k ≠ w.heap.size; omega)⟩, h.a.le⟩, ⟨_, h1.put n _, fun i hi => ?_⟩⟩
  rw [Array.getElem?_setIfInBounds]
  have hs : n < cs.size := (Array.getElem?_eq_some_iff.1 (h2 n hn)).1
  by_cases e : n = i
  · subst e
    rw [if_pos rfl, if_pos hs]
    simp
  · rw [if_neg e, h2 i hi]
    have : ((i : Int) ∈ m ++ [(n : Int)]) ↔ ((i : Int) ∈ m) := by
      rw [List.mem_append, List.mem_singleton]
      exact ⟨fun h => h.resolve_right (fun e2 => e (by omega)), Or.inl⟩
    simp only [this]
theorem Pq.grown {v2 : Value} {l2 : List Int} (h : Pq w0 w W q g c v l m) (hg : W.grownBy w4 v.ownBlock) (ho : OwnI w4 w.heap.size v2 l2) : Pq w0 w w4 q g c v2 l2 m := by
  obtain ⟨cs, h1, h2⟩ := h.t
  exact ⟨h.a.grown hg ho, ⟨cs, h1.grown hg (own_ne h.a.row h1 (by decide)), h2⟩⟩
end
set_option maxRecDepth 100000 in
set_option maxHeartbeats 8000000 in
theorem paramsQ_any (w0 w : World) (q g : Nat) (c : Cu) (hT : TabQ w0) (h : Rq w0 w q g c) :
    Calls Tryz.prog 77 #[.pointer (some ⟨q, 0, none⟩)] w fun e w' => ∃ (a : Option Addr) (k : Nat), e = .returned (.slice a c.parsL.length k) ∧ Ak w0 w w' q g c.parsC (.slice a c.parsL.length k) c.parsL := by
  have AN : Hid (∀ (d : Cu) (m : Nat) W, Rq w0 W q g d → _) := fun d m W h => anotherQ_any w0 W q g d m h
  have PK : Hid (∀ (d : Cu) W, Rq w0 W q g d → _) := fun d W h => peek_gone h
  have VO : Hid (∀ (d : Cu) W, Rq w0 W q g d → Calls Tryz.prog 123 #[.string d.nameT] W fun e w' => e = .returned (.int .i64 (varT d.nameT : Nat)) ∧ Gone w0 W q g d w') := fun d W h => gone_below h (variableOf_any d.nameT W (by have := h.fit.nameT; omega) (hT.pow.below h.be) (hT.errs.below h.be))
  have FL : Hid (∀ (d : Cu) W, Rq w0 W q g d → _) := fun d W h => fail_gone 7 h
  have VA : Hid (∀ (d : Cu) W, Rq w0 W q g d → _) := fun d W h => vaQ_any w0 W q g d hT h
  have P0 := Lib.hid (Pq.new h)
  have HR : Hid (c.parsC = (parsGo 9 c []).1 ∧ c.parsL = (parsGo 9 c []).2) := ⟨rfl, rfl⟩
  rw [HR.out.1, HR.out.2]
  clear h hT HR
  go_enter Tryz.func77, Tryz.ntmps77
  go_wp2
  go_loopg [2] 9 (fun gk v wr => ∃ (d : Cu) (l : List Int) (a : Option Addr) (cap : Nat), v = .slice a l.length cap ∧ Hid (l.length + gk = 9 ∧ l.length ≤ 8) ∧ Hid (parsGo 9 c [] = parsGo gk d l) ∧ Pq w0 w wr q g d (.slice a l.length cap) l l)
  case atStart => exact ⟨c, [], none, 0, rfl, ⟨rfl, by decide⟩, rfl, P0.out⟩
  case round =>
    obtain ⟨d, l, a, cap, rfl, HL, HN, hA⟩ := hrel
    obtain ⟨gk, rfl⟩ : ∃ k, gk = k + 1 := ⟨gk - 1, by have := HL.out; omega⟩
    have HA := Lib.hid hA
    have hok := hA.a.rp.fit.ok
    have m0 := hA.a.rp.cell
    have A := Lib.hid (AN.out d l.length wr hA.a.rp)
    clear hA P0
    cases hb : d.anoB l.length
    · have HS := Lib.hid (pars_stop (f := gk) hb)
      rw [hb] at A
      clear hb hok
      go_wp2_with fail
      refine A.out.mono ?_
      rintro e w1 ⟨rfl, h1⟩
      have HA1 := Lib.hid (HA.out.call h1)
      clear h1 A HA m0
      go_wp2
      go_ret
      have hE := HN.out.trans HS.out
      rw [hE]
      exact ⟨a, cap, rfl, HA1.out.a⟩
    · have HS := Lib.hid (pars_step (f := gk) hb)
      obtain ⟨hm, hc⟩ := ano_few hok hb
      rw [hb, hc] at A
      rw [hc] at HS
      have PK1 := Lib.hid (PK.out d)
      have VO1 := Lib.hid (VO.out d)
      have FL1 := Lib.hid (FL.out d)
      have hl8 : l.length < 8 := by have := HL.out; omega
      have HD : Hid (pdC d l = if ((varT d.nameT : Nat) : Int) ∈ l then d.fail 7 else d) := rfl
      have hvl := varT_le d.nameT
      clear hb hok hc AN PK VO FL hm
      generalize hvt : varT d.nameT = vt at *
      generalize d.nameT = nt at *
      clear hvt
      go_wp2_with fail
      refine A.out.mono ?_
      rintro e w1 ⟨rfl, h1⟩
      have HA1 := Lib.hid (HA.out.call h1)
      have m1 := HA1.out.a.rp.cell
      clear h1 A HA m0
      go_wp2_with fail
      refine (PK1.out _ HA1.out.a.rp).mono ?_
      rintro e w2 ⟨rfl, h2⟩
      have HA2 := Lib.hid (HA1.out.call h2)
      clear h2 PK1 HA1 m1
      go_wp2_with fail
      refine (VO1.out _ HA2.out.a.rp).mono ?_
      rintro e w3 ⟨rfl, h3⟩
      have HA3 := Lib.hid (HA2.out.call h3)
      have m3 := HA3.out.a.rp.cell
      clear h3 VO1 HA2
      obtain ⟨t3, ft3, ht3⟩ := HA3.out.t.cell (i := vt) (by omega)
      have hv0 : (0 : Int) ≤ vt := by omega
      have hv1 : (vt : Int) < 201 := by omega
      by_cases hin : ((vt : Nat) : Int) ∈ l
      · have hdd : pdC d l = d.fail 7 := HD.out.trans (if_pos hin)
        rw [hdd] at HS
        rw [decide_eq_true hin] at t3
        clear HD hdd hin
        generalize d.fail 7 = d2 at *
        go_wp2_with fail
        refine (FL1.out _ HA3.out.a.rp).mono ?_
        rintro e w4 ⟨rfl, h4⟩
        have HA4 := Lib.hid (HA3.out.call h4)
        have m4 := HA4.out.a.rp.cell
        clear h4 FL1 HA3 m3 t3 ft3 ht3
        obtain ⟨vn, hvn, hvn2⟩ := vaN_in d2
        have V := Lib.hid (VA.out d2)
        rw [hvn] at V HS
        clear VA hvn
        generalize d2.vaC = d3 at *
        go_wp2_with fail
        refine (V.out _ HA4.out.a.rp).mono ?_
        rintro e w8 ⟨rfl, h8⟩
        have HA8 := Lib.hid (HA4.out.call h8)
        clear h8 V HA4 m4 
        obtain ⟨t8, ft8, ht8⟩ := HA8.out.t.cell (i := vn) (by omega)
        have hn0 : (0 : Int) ≤ vn := by omega
        have hn1 : (vn : Int) < 201 := by omega
        have HA9 := Lib.hid (HA8.out.set (n := vn) (by omega))
        go_upto_region 7 with fail
        clear t8 ft8 ht8 HA8
        generalize w8.setCell ⟨w.heap.size, vn, none⟩ (.bool true) = W9 at *
        have hsz : w.heap.size ≤ W9.heap.size := HA9.out.a.k.size
        go_wp2_with (at_builtin; go_must (refine wpList_append_ints rfl _ _ rfl w.heap.size (.slice a l.length cap) l rfl (HA9.out.alloc (.cells #[.int .i64 vn] 3)).a.row (some ⟨W9.heap.size, 0, none⟩) 1 [(vn : Int)] rfl (fun e => by cases e) (one_int W9 vn) (by simp; omega) (by simp; omega) ?_; intro v4 w4 hown hgrow hrow; have HA4 := (HA9.out.alloc (.cells #[.int .i64 vn] 3)).grown hgrow hown))
        obtain ⟨gg, cap4, rfl, _, _⟩ := World.ownsRow.form hown (by simp)
        have H4 := Lib.hid HA4
        clear hown hgrow hrow HA4 HA9 hsz
        have e1 : (l ++ [(vn : Int)]).length = l.length + 1 := by simp
        go_wp2
        go_roundg gk
        case measure => omega
        case rel => exact ⟨d3, l ++ [(vn : Int)], some ⟨gg, 0, none⟩, cap4, rfl, ⟨by have := HL.out; rw [e1]; omega, by rw [e1]; omega⟩, HN.out.trans HS.out, H4.out⟩
      · have hdd : pdC d l = d := HD.out.trans (if_neg hin)
        rw [hdd] at HS
        rw [decide_eq_false hin] at t3
        clear HD hdd hin FL1
        generalize d = d2 at *
        obtain ⟨vn, hvn, hvn2⟩ := vaN_in d2
        have V := Lib.hid (VA.out d2)
        rw [hvn] at V HS
        clear VA hvn
        generalize d2.vaC = d3 at *
        go_wp2_with fail
        refine (V.out _ HA3.out.a.rp).mono ?_
        rintro e w8 ⟨rfl, h8⟩
        have HA8 := Lib.hid (HA3.out.call h8)
        clear h8 V HA3 m3 t3 ft3 ht3
        obtain ⟨t8, ft8, ht8⟩ := HA8.out.t.cell (i := vn) (by omega)
        have hn0 : (0 : Int) ≤ vn := by omega
        have hn1 : (vn : Int) < 201 := by omega
        have HA9 := Lib.hid (HA8.out.set (n := vn) (by omega))
        go_upto_region 7 with fail
        clear t8 ft8 ht8 HA8
        generalize w8.setCell ⟨w.heap.size, vn, none⟩ (.bool true) = W9 at *
        have hsz : w.heap.size ≤ W9.heap.size := HA9.out.a.k.size
        go_wp2_with (at_builtin; go_must (refine wpList_append_ints rfl _ _ rfl w.heap.size (.slice a l.length cap) l rfl (HA9.out.alloc (.cells #[.int .i64 vn] 3)).a.row (some ⟨W9.heap.size, 0, none⟩) 1 [(vn : Int)] rfl (fun e => by cases e) (one_int W9 vn) (by simp; omega) (by simp; omega) ?_; intro v4 w4 hown hgrow hrow; have HA4 := (HA9.out.alloc (.cells #[.int .i64 vn] 3)).grown hgrow hown))
        obtain ⟨gg, cap4, rfl, _, _⟩ := World.ownsRow.form hown (by simp)
        have H4 := Lib.hid HA4
        clear hown hgrow hrow HA4 HA9 hsz
        have e1 : (l ++ [(vn : Int)]).length = l.length + 1 := by simp
        go_wp2
        go_roundg gk
        case measure => omega
        case rel => exact ⟨d3, l ++ [(vn : Int)], some ⟨gg, 0, none⟩, cap4, rfl, ⟨by have := HL.out; rw [e1]; omega, by rw [e1]; omega⟩, HN.out.trans HS.out, H4.out⟩
end Go.Proofs.YthiipgahbmoiiaaGreatDoor
