/-
  Package mach's reader: a whole machine is got off its cursor. No condition beyond those that each theorem states.
-/
import Derived.Test.YtkfplffcegbdfaaGreatDoorMaP
import Derived.Test.YtkfplffcegbdfaaGreatDoorPk2
import Derived.Test.YtkfplffcegbdfaaGreatDoorCur5
import Derived.OwnWalk
import Derived.Deep.DeepMust
import Derived.Deep.RegionLaw
import Derived.Deep.LoopGhost
namespace Go.Proofs.YtkfplffcegbdfaaGreatDoor
open Go.RowKit

theorem intM_info : (Tryz.prog.info? 3).map (fun i => (i.zero, i.size, i.bytes)) = some (some (.int .i64 0), 1, 8) := by kernel_rfl
/-- Numbers that a call made. -/
def OwnM (w : World) (B : Nat) (v : Value) (l : List Int) : Prop := w.ownsRow B 3 1 v l.length (l.map (Value.int .i64))
theorem OwnM.more {w2 : World} {B gg cap : Nat} {l : List Int} {x : Int} (h : w2.ownsRow B 3 1 (.slice (some ⟨gg, 0, none⟩) (l.length + 1) cap) (l.length + 1) (l.map (Value.int .i64) ++ [.int .i64 x])) :
    OwnM w2 B (.slice (some ⟨gg, 0, none⟩) (l.length + 1) cap) (l ++ [x]) := by
  unfold OwnM
  rw [List.length_append, List.map_append]
  simpa using h
theorem OwnM.kept {w w' : World} {B g : Nat} {v : Value} {l : List Int} {t : TypeId} {cs : Array Value} (h : OwnM w B v l) (k : Keep w.heap.size g w w') (hg : Blk w g t cs) (ht : 3 ≠ t) : OwnM w' B v l := by
  have hf := own_far h hg ht
  obtain ⟨h1, h2⟩ := h
  refine ⟨h1, ?_⟩
  rcases h2 with h2 | ⟨q, cap, cur, rfl, hq, hh, r⟩
  · exact .inl h2
  · have hne : q ≠ g := fun e => hf (by simp [Value.ownBlock, e])
    exact .inr ⟨q, cap, cur, rfl, hq, by rw [k.block q (Array.getElem?_eq_some_iff.1 hh).1 hne]; exact hh, r⟩
theorem CurC.blk' {w : World} {g : Nat} {c : Cu} (h : CurC w g c) : ∃ cs, Blk w g 121 cs := by obtain ⟨_, _, hb, _⟩ := h; exact ⟨_, hb⟩
/-- A row of numbers grows: a cursor stays. -/
theorem CurC.grown {w w' : World} {g : Nat} {c : Cu} {row : Option Nat} (h : CurC w g c) (hb : w.grownBy w' row) (hr : ∀ k t cs, Blk w k t cs → 3 ≠ t → some k ≠ row) : CurC w' g c := by
  obtain ⟨a, cap, hc, hl, hm, hi⟩ := h
  refine ⟨a, cap, hc.grown hb (hr _ _ _ hc (by decide)), hl, hm, fun k x hx => ?_⟩
  obtain ⟨gg, o, cs, ha, hg, r⟩ := hi k x hx
  exact ⟨gg, o, cs, ha, hg.grown hb (hr _ _ _ hg (by decide)), r⟩
/-- A reader's box. -/
def RdM (w : World) (q g : Nat) : Prop := Blk w q 83 #[.pointer (some ⟨g, 0, none⟩)]
theorem RdM.cell {w : World} {q g : Nat} (h : RdM w q g) : w.cell? ⟨q, 0, none⟩ = some (.pointer (some ⟨g, 0, none⟩)) := (Blk.cell h 0).trans rfl
theorem RdM.keep {w w' : World} {q g : Nat} {c : Cu} (h : RdM w q g) (k : Keep w.heap.size g w w') (hc : CurC w g c) : RdM w' q g := by
  obtain ⟨cs, hcs⟩ := hc.blk'
  exact Blk.keep h k (blk_ne h hcs (by decide))
theorem RdM.below {w w' : World} {q g : Nat} (h : RdM w q g) (hb : Below w.heap.size w w') : RdM w' q g := Blk.below h hb h.lt
set_option maxRecDepth 100000 in
theorem keyM_any (q g : Nat) (c : Cu) (s : ByteArray) (w : World) (hr : RdM w q g) (h : CurC w g c) :
    Calls Tryz.prog 72 #[.pointer (some ⟨q, 0, none⟩), .string s] w fun e w' => e = .returned (.tuple #[]) ∧ CurC w' g (c.keyed s) ∧ RdM w' q g ∧ Keep w.heap.size g w w' := by
  have K : Hid (Calls Tryz.prog 112 #[.pointer (some ⟨g, 0, none⟩), .string s] w fun e w' => e = .returned (.bool (c.keyB s)) ∧ CurC w' g (c.key s) ∧ RdM w' q g ∧ Keep w.heap.size g w w') :=
    (key_any g c s w h).mono fun e w' ⟨h1, h2, h3⟩ => ⟨h1, h2, hr.keep h3 h, h3⟩
  have F : Hid (∀ w1, CurC w1 g (c.key s) → RdM w1 q g → Calls Tryz.prog 113 #[.pointer (some ⟨g, 0, none⟩), .int .i64 7] w1 fun e w' => e = .returned (.tuple #[]) ∧ CurC w' g ((c.key s).fail 7) ∧ RdM w' q g ∧ Keep w1.heap.size g w1 w') := fun w1 h1 hr1 =>
    (failC_any g _ 7 w1 h1).mono fun e w' ⟨a1, a2, a3⟩ => ⟨a1, a2, hr1.keep a3 h1, a3⟩
  have m0 := hr.cell
  have E : Hid (c.keyed s = if c.keyB s then c.key s else (c.key s).fail 7) := rfl
  clear h hr
  generalize c.keyed s = D at *
  generalize c.key s = c1 at *
  cases hb : c.keyB s
  · rw [hb] at K E
    clear hb
    go_enter Tryz.func72, Tryz.ntmps72
    go_wp2_with fail
    refine K.out.mono ?_
    rintro e w1 ⟨rfl, h1, r1, k1⟩
    have F1 := Lib.hid (F.out w1 h1 r1)
    have K1 := Lib.hid k1
    have m1 := r1.cell
    clear h1 r1 k1 F K m0
    go_wp2_with fail
    refine F1.out.mono ?_
    rintro e w2 ⟨rfl, h2, r2, k2⟩
    have H2 := Lib.hid h2
    have R2 := Lib.hid r2
    have K2 := Lib.hid (K1.out.then_keep k2)
    clear h2 r2 k2 F1
    go_wp2
    go_end0
    exact ⟨rfl, by rw [E.out]; exact H2.out, R2.out, K2.out⟩
  · rw [hb] at K E
    clear hb
    go_enter Tryz.func72, Tryz.ntmps72
    go_wp2_with fail
    refine K.out.mono ?_
    rintro e w1 ⟨rfl, h1, r1, k1⟩
    have H1 := Lib.hid h1
    have R1 := Lib.hid r1
    have K1 := Lib.hid k1
    clear h1 r1 k1 F K m0
    go_wp2
    go_end0
    exact ⟨rfl, by rw [E.out]; exact H1.out, R1.out, K1.out⟩
set_option maxRecDepth 100000 in
theorem numM_any (q g : Nat) (c : Cu) (w : World) (hr : RdM w q g) (h : CurC w g c) :
    Calls Tryz.prog 73 #[.pointer (some ⟨q, 0, none⟩)] w fun e w' => e = .returned (.int .i64 (c.numN 0 64)) ∧ CurC w' g (c.num 0 64) ∧ RdM w' q g ∧ Keep w.heap.size g w w' := by
  have K : Hid (Calls Tryz.prog 114 #[.pointer (some ⟨g, 0, none⟩), .int .i64 0, .int .i64 64] w fun e w' => e = .returned (.int .i64 (c.numN 0 64)) ∧ CurC w' g (c.num 0 64) ∧ RdM w' q g ∧ Keep w.heap.size g w w') :=
    (numC_any g c 0 64 w h).mono fun e w' ⟨h1, h2, h3⟩ => ⟨h1, h2, hr.keep h3 h, h3⟩
  have m0 := hr.cell
  clear h hr
  go_enter Tryz.func73, Tryz.ntmps73
  go_wp2_with fail
  refine K.out.mono ?_
  rintro e w1 ⟨rfl, h1, r1, k1⟩
  have H1 := Lib.hid h1
  have R1 := Lib.hid r1
  have K1 := Lib.hid k1
  clear h1 r1 k1 K m0
  go_wp2
  go_ret
  exact ⟨rfl, H1.out, R1.out, K1.out⟩
end Go.Proofs.YtkfplffcegbdfaaGreatDoor
namespace Go.Proofs.YtkfplffcegbdfaaGreatDoor
open Go.RowKit

theorem nameT_bytes {c : Cu} (h : ¬ c.nameT = ⟨#[]⟩) : c.nameT.toList.isEmpty = false := by
  rw [List.isEmpty_eq_false_iff]
  intro e
  rw [ByteArray.toList_eq] at e
  have e2 : c.nameT.data = #[] := by simpa using e
  exact h (ByteArray.ext e2)
set_option maxHeartbeats 2000000 in
set_option maxRecDepth 100000 in
theorem numsM_any (q g : Nat) (c : Cu) (w : World) (hr : RdM w q g) (h : CurC w g c) (ho : c.Ok) (hl : c.left.length ≤ 1000000) :
    Calls Tryz.prog 74 #[.pointer (some ⟨q, 0, none⟩)] w fun e w' => ∃ a cap, e = .returned (.slice a (c.nums []).2.length cap) ∧ OwnM w' w.heap.size (.slice a (c.nums []).2.length cap) (c.nums []).2 ∧ CurC w' g (c.nums []).1 ∧ RdM w' q g ∧ Keep w.heap.size g w w' := by
  obtain ⟨i0, hi0, hz0, hz1, hz2⟩ := info_parts intM_info
  have H := Lib.hid h
  have R := Lib.hid hr
  have OK := Lib.hid ho
  have L := Lib.hid hl
  clear h hr ho hl
  go_enter Tryz.func74, Tryz.ntmps74
  go_wp2
  go_loopg [2] c.left.length (fun gk v wr => ∃ (d : Cu) (l : List Int) (a : Option Addr) (cap : Nat), v = .slice a l.length cap ∧ d.left.length ≤ gk ∧ l.length + d.left.length ≤ 1000000 ∧ d.Ok ∧ Hid (c.nums [] = d.nums l) ∧ OwnM wr w.heap.size v l ∧ CurC wr g d ∧ RdM wr q g ∧ Keep w.heap.size g w wr)
  case atStart => exact ⟨c, [], none, 0, rfl, Nat.le_refl _, by have := L.out; simp; omega, OK.out, rfl, World.ownsRow_nil _ _ _ _, H.out, R.out, Keep.refl _ _ _⟩
  case round =>
    obtain ⟨d, l, a, cap, rfl, hg, hlen, hok, HN, hO, hc, hq, hk⟩ := hrel
    have HO := Lib.hid hO
    have HC := Lib.hid hc
    have HR := Lib.hid hq
    have HK := Lib.hid hk
    have E := Lib.hid (ends_any g d wr hc)
    have m0 := hq.cell
    clear hO hc hq hk H R
    cases he : d.ends
    · rw [he] at E
      have P : Hid (∀ w1, CurC w1 g d → _) := fun w1 h1 => peek_any g d w1 h1
      by_cases hn : d.nameT = ⟨#[]⟩
      · rw [hn] at P
        have hgo : d.goes = true := by unfold Cu.goes; rw [he, hn]; decide
        have hless := left_num hok hgo 0 64
        have HS := Lib.hid (nums_step hok hgo l)
        have hok2 := hok.num 0 64
        have N : Hid (∀ w1, RdM w1 q g → CurC w1 g d → _) := fun w1 h1 h2 => numM_any q g d w1 h1 h2
        generalize d.num 0 64 = d2 at *
        generalize d.numN 0 64 = x at *
        clear he hn hgo hok
        cases gk with
        | zero => exfalso; omega
        | succ gk =>
          go_wp2_with fail
          refine E.out.mono ?_
          rintro e w1 ⟨rfl, hb1⟩
          have C1 := Lib.hid (HC.out.below hb1)
          have R1 := Lib.hid (HR.out.below hb1)
          have K1 := Lib.hid (HK.out.then_below hb1)
          have O1 : Hid (OwnM w1 w.heap.size (.slice a l.length cap) l) := own_keep HO.out ⟨hb1.size, fun k _ hk => hb1.block k hk⟩
          have m1 := R1.out.cell
          clear hb1 E HC HR HK HO m0
          go_wp2_with fail
          refine (P.out w1 C1.out).mono ?_
          rintro e w2 ⟨rfl, hb2⟩
          have C2 := Lib.hid (C1.out.below hb2)
          have R2 := Lib.hid (R1.out.below hb2)
          have K2 := Lib.hid (K1.out.then_below hb2)
          have O2 : Hid (OwnM w2 w.heap.size (.slice a l.length cap) l) := own_keep O1.out ⟨hb2.size, fun k _ hk => hb2.block k hk⟩
          clear hb2 P C1 R1 K1 O1 m1
          go_wp2_with fail
          refine (N.out w2 R2.out C2.out).mono ?_
          rintro e w3 ⟨rfl, h3, r3, k3⟩
          have C3 := Lib.hid h3
          have R3 := Lib.hid r3
          have K3 := Lib.hid (K2.out.then_keep k3)
          have O3 : Hid (OwnM w3 w.heap.size (.slice a l.length cap) l) := by
            obtain ⟨cs, hcs⟩ := C2.out.blk'
            exact O2.out.kept k3 hcs (by decide)
          clear h3 r3 k3 N C2 R2 K2 O2
          have hsz := K3.out.size
          go_wp2_with (at_builtin; go_must (refine wpList_append_lies _ rfl _ _ _ rfl w.heap.size 3 i0 _ 1 8 Tryz.underlying22 hi0 hz0 hz1 hz2 rfl (by omega) (.slice a l.length cap) l.length (l.map (Value.int .i64)) rfl (World.ownsRow.alloc O3.out _) ⟨w3.heap.size, 0, none⟩ 1 1 [.int .i64 x] rfl rfl (World.news_of_block (heap_alloc_new w3 _)) (by simp [Value.oneCell']) (by omega) (by simp only [maxLen]; omega) (by omega) (by simp; omega) (w3.heap.size + 1) (by simp) ?_; intro gg cap4 w4 hown4 hgrow hat hlt4))
          have O4 := Lib.hid (OwnM.more hown4)
          have hrow : ∀ k t cs, Blk (w3.alloc (.cells #[.int .i64 x] 3)) k t cs → 3 ≠ t → some k ≠ (Value.slice a l.length cap).ownBlock := fun k t cs hk ht => own_far (World.ownsRow.alloc O3.out _) hk ht
          have C4 : Hid (CurC w4 g d2) := (C3.out.below ((Below.refl _ _).alloc (Nat.le_refl _) _)).grown hgrow hrow
          have R4 : Hid (RdM w4 q g) := Blk.grown (Blk.alloc R3.out _) hgrow (hrow _ _ _ (Blk.alloc R3.out _) (by decide))
          have K4 : Hid (Keep w.heap.size g w w4) := (K3.out.trans (Keep.alloc hsz g _)).trans (Keep.grown hgrow (by simp; omega) (fun k hk => (O3.out.lt k hk).1) g)
          clear hown4 hgrow hat hlt4 hrow C3 R3 K3 O3
          go_wp2
          go_roundg gk
          case measure => omega
          case rel => exact ⟨d2, l ++ [x], some ⟨gg, 0, none⟩, cap4, by simp, by omega, by simp; omega, hok2, HN.out.trans HS.out, O4.out, C4.out, R4.out, K4.out⟩
      · have hgo : d.goes = false := by unfold Cu.goes; rw [decide_eq_false hn]; simp
        have HS := Lib.hid (nums_stop hgo l)
        have hn2 := nameT_bytes hn
        generalize d.nameT = nt at *
        clear he hgo hok
        go_wp2_with fail
        refine E.out.mono ?_
        rintro e w1 ⟨rfl, hb1⟩
        have C1 := Lib.hid (HC.out.below hb1)
        have R1 := Lib.hid (HR.out.below hb1)
        have K1 := Lib.hid (HK.out.then_below hb1)
        have O1 : Hid (OwnM w1 w.heap.size (.slice a l.length cap) l) := own_keep HO.out ⟨hb1.size, fun k _ hk => hb1.block k hk⟩
        have m1 := R1.out.cell
        clear hb1 E HC HR HK HO m0
        go_wp2_with fail
        refine (P.out w1 C1.out).mono ?_
        rintro e w2 ⟨rfl, hb2⟩
        have C2 := Lib.hid (C1.out.below hb2)
        have R2 := Lib.hid (R1.out.below hb2)
        have K2 := Lib.hid (K1.out.then_below hb2)
        have O2 : Hid (OwnM w2 w.heap.size (.slice a l.length cap) l) := own_keep O1.out ⟨hb2.size, fun k _ hk => hb2.block k hk⟩
        clear hb2 P C1 R1 K1 O1 m1
        go_wp2
        go_ret
        have HE := HN.out.trans HS.out
        rw [HE]
        exact ⟨a, cap, rfl, O2.out, C2.out, R2.out, K2.out⟩
    · rw [he] at E
      have hgo : d.goes = false := by unfold Cu.goes; rw [he]; rfl
      have HS := Lib.hid (nums_stop hgo l)
      clear he hgo hok
      go_wp2_with fail
      refine E.out.mono ?_
      rintro e w1 ⟨rfl, hb1⟩
      have C1 := Lib.hid (HC.out.below hb1)
      have R1 := Lib.hid (HR.out.below hb1)
      have K1 := Lib.hid (HK.out.then_below hb1)
      have O1 : Hid (OwnM w1 w.heap.size (.slice a l.length cap) l) := own_keep HO.out ⟨hb1.size, fun k _ hk => hb1.block k hk⟩
      clear hb1 E HC HR HK HO m0
      go_wp2
      go_ret
      have HE := HN.out.trans HS.out
      rw [HE]
      exact ⟨a, cap, rfl, O1.out, C1.out, R1.out, K1.out⟩
end Go.Proofs.YtkfplffcegbdfaaGreatDoor
namespace Go.Proofs.YtkfplffcegbdfaaGreatDoor
open Go.RowKit

theorem Keep.putFar {b g : Nat} {w : World} {p : Addr} (hp : b ≤ p.block) (u : Value) : Keep b g w (w.setCell p u) :=
  ⟨rfl, rfl, rfl, by simp [World.setCell], fun k hk _ => Below.heap_setCell w p u k (by omega)⟩
/-- A machine that is being got: what is got of it, the rows that were made. -/
structure Ms (w w' : World) (q g : Nat) (c : Cu) (m : Mm) (aa : Option Addr) (ac : Nat) (sa : Option Addr) (sc : Nat) : Prop where
  C : CurC w' g c
  R : RdM w' q g
  B : Blk w' w.heap.size 24 (maxC m aa ac sa sc)
  A : OwnM w' w.heap.size (.slice aa m.args.length ac) m.args
  S : OwnM w' w.heap.size (.slice sa m.saved.length sc) m.saved
  K : Keep w.heap.size g w w'
section
variable {w w1 w2 : World} {q g : Nat} {c d : Cu} {m : Mm} {aa sa : Option Addr} {ac sc : Nat}
theorem Ms.call (h : Ms w w1 q g c m aa ac sa sc) (hc : CurC w2 g d) (hr : RdM w2 q g) (k : Keep w1.heap.size g w1 w2) : Ms w w2 q g d m aa ac sa sc := by
  obtain ⟨cs, hcs⟩ := h.C.blk'
  exact ⟨hc, hr, Blk.keep h.B k (blk_ne h.B hcs (by decide)), h.A.kept k hcs (by decide), h.S.kept k hcs (by decide), h.K.then_keep k⟩
theorem Ms.far (h : Ms w w1 q g c m aa ac sa sc) (u : Value) (j : Nat) : CurC (w1.setCell ⟨w.heap.size, j, none⟩ u) g c ∧ RdM (w1.setCell ⟨w.heap.size, j, none⟩ u) q g ∧ (∀ {v : Value} {l : List Int}, OwnM w1 w.heap.size v l → OwnM (w1.setCell ⟨w.heap.size, j, none⟩ u) w.heap.size v l) ∧ Keep w.heap.size g w (w1.setCell ⟨w.heap.size, j, none⟩ u) :=
  ⟨h.C.keep (Keep.put _ _ _ _ _) h.B (by decide) (by decide), Blk.far h.R (blk_ne h.R h.B (by decide)) u, fun ho => own_put ho (own_far ho h.B (by decide)) u, h.K.trans (Keep.putFar (p := ⟨w.heap.size, j, none⟩) (Nat.le_refl _) u)⟩
theorem Ms.put0 (h : Ms w w1 q g c m aa ac sa sc) (r : Int) : Ms w (w1.setCell ⟨w.heap.size, 0, none⟩ (.int .i64 r)) q g c { m with regs := r } aa ac sa sc := by
  obtain ⟨a, b, o, k⟩ := h.far (.int .i64 r) 0
  exact ⟨a, b, h.B.put 0 _, o h.A, o h.S, k⟩
theorem Ms.put2 (h : Ms w w1 q g c m aa ac sa sc) (r : Int) : Ms w (w1.setCell ⟨w.heap.size, 2, none⟩ (.int .i64 r)) q g c { m with ret := r } aa ac sa sc := by
  obtain ⟨a, b, o, k⟩ := h.far (.int .i64 r) 2
  exact ⟨a, b, h.B.put 2 _, o h.A, o h.S, k⟩
theorem Ms.put1 (h : Ms w w1 q g c m aa ac sa sc) {l : List Int} {xa : Option Addr} {xc : Nat} (ho : OwnM w1 w.heap.size (.slice xa l.length xc) l) : Ms w (w1.setCell ⟨w.heap.size, 1, none⟩ (.slice xa l.length xc)) q g c { m with args := l } xa xc sa sc := by
  obtain ⟨a, b, o, k⟩ := h.far (.slice xa l.length xc) 1
  exact ⟨a, b, h.B.put 1 _, o ho, o h.S, k⟩
theorem Ms.put3 (h : Ms w w1 q g c m aa ac sa sc) {l : List Int} {xa : Option Addr} {xc : Nat} (ho : OwnM w1 w.heap.size (.slice xa l.length xc) l) : Ms w (w1.setCell ⟨w.heap.size, 3, none⟩ (.slice xa l.length xc)) q g c { m with saved := l } aa ac xa xc := by
  obtain ⟨a, b, o, k⟩ := h.far (.slice xa l.length xc) 3
  exact ⟨a, b, h.B.put 3 _, o h.A, o ho, k⟩
theorem Ms.key (h : Ms w w1 q g c m aa ac sa sc) (s : ByteArray) : Calls Tryz.prog 72 #[.pointer (some ⟨q, 0, none⟩), .string s] w1 fun e w' => e = .returned (.tuple #[]) ∧ Ms w w' q g (c.keyed s) m aa ac sa sc :=
  (keyM_any q g c s w1 h.R h.C).mono fun _ _ ⟨h1, h2, h3, h4⟩ => ⟨h1, h.call h2 h3 h4⟩
theorem Ms.num (h : Ms w w1 q g c m aa ac sa sc) : Calls Tryz.prog 73 #[.pointer (some ⟨q, 0, none⟩)] w1 fun e w' => e = .returned (.int .i64 (c.numN 0 64)) ∧ Ms w w' q g (c.num 0 64) m aa ac sa sc :=
  (numM_any q g c w1 h.R h.C).mono fun _ _ ⟨h1, h2, h3, h4⟩ => ⟨h1, h.call h2 h3 h4⟩
theorem Ms.nums (h : Ms w w1 q g c m aa ac sa sc) (ho : c.Ok) (hl : c.left.length ≤ 1000000) : Calls Tryz.prog 74 #[.pointer (some ⟨q, 0, none⟩)] w1 fun e w' => ∃ xa xc, e = .returned (.slice xa (c.nums []).2.length xc) ∧ OwnM w' w.heap.size (.slice xa (c.nums []).2.length xc) (c.nums []).2 ∧ Ms w w' q g (c.nums []).1 m aa ac sa sc :=
  (numsM_any q g c w1 h.R h.C ho hl).mono fun _ _ ⟨xa, xc, h1, h2, h3, h4, h5⟩ => ⟨xa, xc, h1, own_base h2 h.K.size, h.call h3 h4 h5⟩
theorem Ms.cells (h : Ms w w1 q g c m aa ac sa sc) : (w1.cell? ⟨w.heap.size, 0, none⟩ = some (.int .i64 m.regs) ∧ w1.cell? ⟨w.heap.size, 1, none⟩ = some (.slice aa m.args.length ac) ∧ w1.cell? ⟨w.heap.size, 2, none⟩ = some (.int .i64 m.ret) ∧ w1.cell? ⟨w.heap.size, 3, none⟩ = some (.slice sa m.saved.length sc)) ∧
    (w1.frozen? ⟨w.heap.size, 0, none⟩ = false ∧ w1.frozen? ⟨w.heap.size, 1, none⟩ = false ∧ w1.frozen? ⟨w.heap.size, 2, none⟩ = false ∧ w1.frozen? ⟨w.heap.size, 3, none⟩ = false) :=
  ⟨boxMa h.B, h.B.free 0, h.B.free 1, h.B.free 2, h.B.free 3⟩
end
theorem blk_four' {W : World} {g : Nat} {t : TypeId} {z : Array Value} (h : Blk W g t z) (hz : z.size = 4) (a b c d : Value) :
    Blk ((((W.setCell ⟨g, 0, none⟩ a).setCell ⟨g, 1, none⟩ b).setCell ⟨g, 2, none⟩ c).setCell ⟨g, 3, none⟩ d) g t #[a, b, c, d] := by
  have h4 := (((h.put 0 a).put 1 b).put 2 c).put 3 d
  have : (((z.setIfInBounds 0 a).setIfInBounds 1 b).setIfInBounds 2 c).setIfInBounds 3 d = #[a, b, c, d] := by
    obtain ⟨l⟩ := z
    match l, hz with
    | [x0, x1, x2, x3], _ => rfl
  rw [this] at h4
  exact h4
theorem machine_size : (Tryz.prog.info? 24).map (·.size) = some 4 := by kernel_rfl
theorem got_cells (m : Mm) (aa sa : Option Addr) (ac sc : Nat) : (maxC m aa ac sa sc).size = 4 := rfl
set_option maxHeartbeats 4000000 in
set_option maxRecDepth 100000 in
theorem machineM_any (q g : Nat) (c : Cu) (w : World) (hr : RdM w q g) (h : CurC w g c) (ho : c.Ok) (hl : c.left.length ≤ 1000000) :
    Calls Tryz.prog 41 #[.pointer (some ⟨q, 0, none⟩)] w fun e w' => ∃ aa ac sa sc, e = .returned (machV (gotM c) aa ac sa sc) ∧ (OwnM w' w.heap.size (.slice aa (gotM c).args.length ac) (gotM c).args ∧ OwnM w' w.heap.size (.slice sa (gotM c).saved.length sc) (gotM c).saved) ∧ CurC w' g (mc9 c) ∧ RdM w' q g ∧ Keep w.heap.size g w w' := by
  have hb0 : Below w.heap.size w (w.alloc (.cells (maxC noM none 0 none 0) 24)) := (Below.refl _ w).alloc (Nat.le_refl _) _
  have M0 : Hid (Ms w (w.alloc (.cells (maxC noM none 0 none 0) 24)) q g c noM none 0 none 0) := ⟨h.below hb0, hr.below hb0, Blk.new w _ _, World.ownsRow_nil _ _ _ _, World.ownsRow_nil _ _ _ _, Keep.of_below hb0 g⟩
  have o3 := mc3_ok ho
  have o7 := mc7_ok ho
  have l3 : (mc3 c).left.length ≤ 1000000 := Nat.le_trans (left_mc3 c) hl
  have l7 : (mc7 c).left.length ≤ 1000000 := Nat.le_trans (left_mc7 c) hl
  have G : Hid (gotM c = ⟨(mc1 c).numN 0 64, ((mc3 c).nums []).2, (mc5 c).numN 0 64, ((mc7 c).nums []).2⟩) := rfl
  have E1 : Hid (c.keyed keyMa = mc1 c) := rfl
  have E2 : Hid ((mc1 c).num 0 64 = mc2 c) := rfl
  have E3 : Hid ((mc2 c).keyed keyAr = mc3 c) := rfl
  have E4 : Hid (((mc3 c).nums []).1 = mc4 c) := rfl
  have E5 : Hid ((mc4 c).keyed keyRe = mc5 c) := rfl
  have E6 : Hid ((mc5 c).num 0 64 = mc6 c) := rfl
  have E7 : Hid ((mc6 c).keyed keySa = mc7 c) := rfl
  have E8 : Hid (((mc7 c).nums []).1 = mc8 c) := rfl
  have E9 : Hid ((mc8 c).end_ = mc9 c) := rfl
  have K1 := Lib.hid (M0.out.key keyMa)
  rw [E1.out] at K1
  unfold keyMa at K1
  clear hb0 h hr ho hl
  rw [show maxC noM none 0 none 0 = #[.int .i64 0, .slice none 0 0, .int .i64 0, .slice none 0 0] from rfl] at M0 K1
  generalize gotM c = m9 at *
  generalize mc9 c = d9 at *
  have F1 : Hid (∀ w1 m aa ac sa sc, Ms w w1 q g (mc1 c) m aa ac sa sc → _) := fun w1 m aa ac sa sc hh => Ms.num hh
  have F2 : Hid (∀ w1 m aa ac sa sc, Ms w w1 q g (mc2 c) m aa ac sa sc → _) := fun w1 m aa ac sa sc hh => Ms.key hh keyAr
  have F3 : Hid (∀ w1 m aa ac sa sc, Ms w w1 q g (mc3 c) m aa ac sa sc → _) := fun w1 m aa ac sa sc hh => Ms.nums hh o3 l3
  have F4 : Hid (∀ w1 m aa ac sa sc, Ms w w1 q g (mc4 c) m aa ac sa sc → _) := fun w1 m aa ac sa sc hh => Ms.key hh keyRe
  have F5 : Hid (∀ w1 m aa ac sa sc, Ms w w1 q g (mc5 c) m aa ac sa sc → _) := fun w1 m aa ac sa sc hh => Ms.num hh
  have F6 : Hid (∀ w1 m aa ac sa sc, Ms w w1 q g (mc6 c) m aa ac sa sc → _) := fun w1 m aa ac sa sc hh => Ms.key hh keySa
  have F7 : Hid (∀ w1 m aa ac sa sc, Ms w w1 q g (mc7 c) m aa ac sa sc → _) := fun w1 m aa ac sa sc hh => Ms.nums hh o7 l7
  have F8 : Hid (∀ w1 m aa ac sa sc, Ms w w1 q g (mc8 c) m aa ac sa sc → _) := fun w1 m aa ac sa sc (hh : Ms w w1 q g (mc8 c) m aa ac sa sc) => endC_any g (mc8 c) w1 hh.C
  rw [E2.out] at F1
  rw [E3.out] at F2
  rw [E4.out] at F3
  rw [E5.out] at F4
  rw [E6.out] at F5
  rw [E7.out] at F6
  rw [E8.out] at F7
  rw [E9.out] at F8
  unfold keyAr at F2
  unfold keyRe at F4
  unfold keySa at F6
  clear E1 E2 E3 E4 E5 E6 E7 E8 E9 o3 o7 l3 l7
  generalize mc1 c = c1 at *
  generalize mc2 c = c2 at *
  generalize (mc3 c).nums [] = n3 at *
  generalize mc3 c = c3 at *
  generalize mc4 c = c4 at *
  generalize mc5 c = c5 at *
  generalize mc6 c = c6 at *
  generalize (mc7 c).nums [] = n7 at *
  generalize mc7 c = c7 at *
  generalize mc8 c = c8 at *
  go_enter Tryz.func41, Tryz.ntmps41
  go_wp2_with fail
  refine K1.out.mono ?_
  rintro e w1 ⟨rfl, h1⟩
  have M1 := Lib.hid h1
  clear h1 K1 M0
  go_wp2_with fail
  refine (F1.out _ _ _ _ _ _ M1.out).mono ?_
  rintro e w2 ⟨rfl, h2⟩
  have M2 := Lib.hid (Ms.put0 h2 (c1.numN 0 64))
  obtain ⟨⟨b0, _, _, _⟩, f0, _, _, _⟩ := h2.cells
  clear h2 M1 F1
  go_wp2_with fail
  refine (F2.out _ _ _ _ _ _ M2.out).mono ?_
  rintro e w3 ⟨rfl, h3⟩
  have M3 := Lib.hid h3
  clear h3 M2 F2 b0 f0
  go_wp2_with fail
  refine (F3.out _ _ _ _ _ _ M3.out).mono ?_
  rintro e w4 ⟨xa, xc, rfl, o4, h4⟩
  have M4 := Lib.hid (Ms.put1 h4 o4)
  obtain ⟨⟨_, b1, _, _⟩, _, f1, _, _⟩ := h4.cells
  clear h4 o4 M3 F3
  go_wp2_with fail
  refine (F4.out _ _ _ _ _ _ M4.out).mono ?_
  rintro e w5 ⟨rfl, h5⟩
  have M5 := Lib.hid h5
  clear h5 M4 F4 b1 f1
  go_wp2_with fail
  refine (F5.out _ _ _ _ _ _ M5.out).mono ?_
  rintro e w6 ⟨rfl, h6⟩
  have M6 := Lib.hid (Ms.put2 h6 (c5.numN 0 64))
  obtain ⟨⟨_, _, b2, _⟩, _, _, f2, _⟩ := h6.cells
  clear h6 M5 F5
  go_wp2_with fail
  refine (F6.out _ _ _ _ _ _ M6.out).mono ?_
  rintro e w7 ⟨rfl, h7⟩
  have M7 := Lib.hid h7
  clear h7 M6 F6 b2 f2
  go_wp2_with fail
  refine (F7.out _ _ _ _ _ _ M7.out).mono ?_
  rintro e w8 ⟨ya, yc, rfl, o8, h8⟩
  have M8 := Lib.hid (Ms.put3 h8 o8)
  obtain ⟨⟨_, _, _, b3⟩, _, _, _, f3⟩ := h8.cells
  have m8 := M8.out.R.cell
  clear h8 o8 M7 F7
  go_wp2_with fail
  refine (F8.out _ _ _ _ _ _ M8.out).mono ?_
  rintro e w9 ⟨rfl, h9, k9⟩
  have M9 := Lib.hid (M8.out.call h9 (M8.out.R.keep k9 M8.out.C) k9)
  clear h9 k9 M8 F8 b3 f3 m8
  obtain ⟨⟨b0, b1, b2, b3⟩, f0, f1, f2, f3⟩ := M9.out.cells
  go_wp2
  (try simp only [Exit.inBlock, Exit.then])
  have HB := blk_four' M9.out.B (by rfl) (.int .i64 (c1.numN 0 64)) (.slice xa n3.2.length xc) (.int .i64 (c5.numN 0 64)) (.slice ya n7.2.length yc)
  refine bodyPost_ret (results_cell_row rfl _ _ w.heap.size 24 _ (0, 0) _ (by simp) HB Tryz.underlying24 rfl machine_size) rfl ?_
  rw [G.out]
  have N1 := M9.out.put0 (c1.numN 0 64)
  have N2 := N1.put1 (l := n3.2) N1.A
  have N3 := N2.put2 (c5.numN 0 64)
  have M := N3.put3 (l := n7.2) N3.S
  exact ⟨xa, xc, ya, yc, rfl, ⟨M.A, M.S⟩, M.C, M.R, M.K⟩
end Go.Proofs.YtkfplffcegbdfaaGreatDoor
