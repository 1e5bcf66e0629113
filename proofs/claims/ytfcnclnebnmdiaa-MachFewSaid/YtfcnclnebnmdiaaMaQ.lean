/-
  Package mach's reader: keys, numbers, rows of numbers are got off its cursor. No condition beyond those that each theorem states.
-/
import Derived.Test.YtfcnclnebnmdiaaMaP
import Derived.Test.YtfcnclnebnmdiaaMaA
import Derived.Test.YtfcnclnebnmdiaaCur5
import Derived.OwnWalk
import Derived.Deep.DeepMust
import Derived.Deep.RegionLaw
namespace Go.Proofs.Ytfcnclnebnmdiaa
open Go.RowKit

theorem intM_info : (Try.prog.info? 3).map (fun i => (i.zero, i.size, i.bytes)) = some (some (.int .i64 0), 1, 8) := by kernel_rfl
/-- Numbers that a call made. -/
def OwnM (w : World) (B : Nat) (v : Value) (l : List Int) : Prop := w.ownsRow B 3 1 v l.length (l.map (Value.int .i64))
theorem OwnM.more {w2 : World} {B gg cap : Nat} {l : List Int} {x : Int} (h : w2.ownsRow B 3 1 (.slice (some ⟨gg, 0, none⟩) (l.length + 1) cap) (l.length + 1) (l.map (Value.int .i64) ++ [.int .i64 x])) :
    OwnM w2 B (.slice (some ⟨gg, 0, none⟩) (l.length + 1) cap) (l ++ [x]) := by
  unfold OwnM
  rw [List.length_append, List.map_append]
  simpa using h
theorem OwnM.kept {w w' : World} {B g : Nat} {v : Value} {l : List Int} {t : TypeId} {cs : Array Value} (h : OwnM w B v l) (k : Keep w.heap.size g w w') (hg : Blk w g t cs) (ht : 3 ≠ t) : OwnM w' B v l := by
  have hf := own_far h hg ht
  obtain ⟨h1, h2⟩ := h
  refine ⟨h1, ?_⟩
  rcases h2 with h2 | ⟨q, cap, cur, rfl, hq, hh, r⟩
  · exact .inl h2
  · have hne : q ≠ g := fun e => hf (by simp [Value.ownBlock, e])
    exact .inr ⟨q, cap, cur, rfl, hq, by rw [k.block q (Array.getElem?_eq_some_iff.1 hh).1 hne]; exact hh, r⟩
theorem CurC.blk' {w : World} {g : Nat} {c : Cu} (h : CurC w g c) : ∃ cs, Blk w g 70 cs := by obtain ⟨_, _, hb, _⟩ := h; exact ⟨_, hb⟩
/-- A row of numbers grows: a cursor stays. -/
theorem CurC.grown {w w' : World} {g : Nat} {c : Cu} {row : Option Nat} (h : CurC w g c) (hb : w.grownBy w' row) (hr : ∀ k t cs, Blk w k t cs → 3 ≠ t → some k ≠ row) : CurC w' g c := by
  obtain ⟨a, cap, hc, hl, hm, hi⟩ := h
  refine ⟨a, cap, hc.grown hb (hr _ _ _ hc (by decide)), hl, hm, fun k x hx => ?_⟩
  obtain ⟨gg, o, cs, ha, hg, r⟩ := hi k x hx
  exact ⟨gg, o, cs, ha, hg.grown hb (hr _ _ _ hg (by decide)), r⟩
/-- A reader's box. -/
def RdM (w : World) (q g : Nat) : Prop := Blk w q 41 #[.pointer (some ⟨g, 0, none⟩)]
theorem RdM.cell {w : World} {q g : Nat} (h : RdM w q g) : w.cell? ⟨q, 0, none⟩ = some (.pointer (some ⟨g, 0, none⟩)) := (Blk.cell h 0).trans rfl
theorem RdM.keep {w w' : World} {q g : Nat} {c : Cu} (h : RdM w q g) (k : Keep w.heap.size g w w') (hc : CurC w g c) : RdM w' q g := by
  obtain ⟨cs, hcs⟩ := hc.blk'
  exact Blk.keep h k (blk_ne h hcs (by decide))
theorem RdM.below {w w' : World} {q g : Nat} (h : RdM w q g) (hb : Below w.heap.size w w') : RdM w' q g := Blk.below h hb h.lt
set_option maxRecDepth 100000 in
theorem keyM_any (q g : Nat) (c : Cu) (s : ByteArray) (w : World) (hr : RdM w q g) (h : CurC w g c) :
    Calls Try.prog 33 #[.pointer (some ⟨q, 0, none⟩), .string s] w fun e w' => e = .returned (.tuple #[]) ∧ CurC w' g (c.keyed s) ∧ RdM w' q g ∧ Keep w.heap.size g w w' := by
  have K : Hid (Calls Try.prog 53 #[.pointer (some ⟨g, 0, none⟩), .string s] w fun e w' => e = .returned (.bool (c.keyB s)) ∧ CurC w' g (c.key s) ∧ RdM w' q g ∧ Keep w.heap.size g w w') :=
    (key_any g c s w h).mono fun e w' ⟨h1, h2, h3⟩ => ⟨h1, h2, hr.keep h3 h, h3⟩
  have F : Hid (∀ w1, CurC w1 g (c.key s) → RdM w1 q g → Calls Try.prog 54 #[.pointer (some ⟨g, 0, none⟩), .int .i64 7] w1 fun e w' => e = .returned (.tuple #[]) ∧ CurC w' g ((c.key s).fail 7) ∧ RdM w' q g ∧ Keep w1.heap.size g w1 w') := fun w1 h1 hr1 =>
    (failC_any g _ 7 w1 h1).mono fun e w' ⟨a1, a2, a3⟩ => ⟨a1, a2, hr1.keep a3 h1, a3⟩
  have m0 := hr.cell
  have E : Hid (c.keyed s = if c.keyB s then c.key s else (c.key s).fail 7) := rfl
  clear h hr
  generalize c.keyed s = D at *
  generalize c.key s = c1 at *
  cases hb : c.keyB s
  · rw [hb] at K E
    clear hb
    go_enter Try.func33, Try.ntmps33
    go_wp2_with fail
    refine K.out.mono ?_
    rintro e w1 ⟨rfl, h1, r1, k1⟩
    have F1 := Lib.hid (F.out w1 h1 r1)
    have K1 := Lib.hid k1
    have m1 := r1.cell
    clear h1 r1 k1 F K m0
    go_wp2_with fail
    refine F1.out.mono ?_
    rintro e w2 ⟨rfl, h2, r2, k2⟩
    have H2 := Lib.hid h2
    have R2 := Lib.hid r2
    have K2 := Lib.hid (K1.out.then_keep k2)
    clear h2 r2 k2 F1
    go_wp2
    go_end0
    exact ⟨rfl, by rw [E.out]; exact H2.out, R2.out, K2.out⟩
  · rw [hb] at K E
    clear hb
    go_enter Try.func33, Try.ntmps33
    go_wp2_with fail
    refine K.out.mono ?_
    rintro e w1 ⟨rfl, h1, r1, k1⟩
    have H1 := Lib.hid h1
    have R1 := Lib.hid r1
    have K1 := Lib.hid k1
    clear h1 r1 k1 F K m0
    go_wp2
    go_end0
    exact ⟨rfl, by rw [E.out]; exact H1.out, R1.out, K1.out⟩
set_option maxRecDepth 100000 in
theorem numM_any (q g : Nat) (c : Cu) (w : World) (hr : RdM w q g) (h : CurC w g c) :
    Calls Try.prog 34 #[.pointer (some ⟨q, 0, none⟩)] w fun e w' => e = .returned (.int .i64 (c.numN 0 64)) ∧ CurC w' g (c.num 0 64) ∧ RdM w' q g ∧ Keep w.heap.size g w w' := by
  have K : Hid (Calls Try.prog 55 #[.pointer (some ⟨g, 0, none⟩), .int .i64 0, .int .i64 64] w fun e w' => e = .returned (.int .i64 (c.numN 0 64)) ∧ CurC w' g (c.num 0 64) ∧ RdM w' q g ∧ Keep w.heap.size g w w') :=
    (numC_any g c 0 64 w h).mono fun e w' ⟨h1, h2, h3⟩ => ⟨h1, h2, hr.keep h3 h, h3⟩
  have m0 := hr.cell
  clear h hr
  go_enter Try.func34, Try.ntmps34
  go_wp2_with fail
  refine K.out.mono ?_
  rintro e w1 ⟨rfl, h1, r1, k1⟩
  have H1 := Lib.hid h1
  have R1 := Lib.hid r1
  have K1 := Lib.hid k1
  clear h1 r1 k1 K m0
  go_wp2
  go_ret
  exact ⟨rfl, H1.out, R1.out, K1.out⟩
end Go.Proofs.Ytfcnclnebnmdiaa
