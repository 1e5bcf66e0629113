/-
  The chapter's example of a target is told as it says. No condition beyond those that each theorem states.
-/
import Derived.Test.YtbckkmicdpjnaaaDoorMiE
import Derived.Test.YtbckkmicdpjnaaaDoorMiF
import Derived.Deep.RegionHeld3
namespace Go.Proofs.YtbckkmicdpjnaaaDoor
open Go.RowKit

def tMc : Mm := ⟨2, [1], 0, []⟩
def insPut : Ii := ⟨16, 0, 1, 0, 0, 0, [], 0⟩
def insGet (n : Int) : Ii := ⟨17, 0, 0, 0, n, 0, [], 0⟩
def trapT : Tt := ⟨4, 0, 0, 0⟩
def bA : Bb := ⟨[insPut, insGet 0], trapT⟩
def bC : Bb := ⟨[insGet 1], trapT⟩
theorem tells_ex : rightT tMc ⟨1, [bA]⟩ = 0 ∧ rightT tMc ⟨1, [bC]⟩ = 11 ∧ insertedT 16 = true := by decide +kernel
theorem tMc_size : (Tryd.prog.info? 24).map (·.size) = some 4 := by kernel_rfl
set_option maxRecDepth 100000 in
theorem two_any (w : World) : Calls Tryd.prog 6 #[] w fun e w' => ∃ g, e = .returned (.agg #[.int .i64 2, .slice (some ⟨g, 0, none⟩) 1 1, .int .i64 0, .slice none 0 0]) ∧ MaW w' tMc (some ⟨g, 0, none⟩) none ∧ Below w.heap.size w w' := by
  go_enter Tryd.func6, Tryd.ntmps6
  go_wp2
  (try simp only [Exit.inBlock, Exit.then])
  refine bodyPost_ret (results_cell_row rfl _ _ w.heap.size 24 _ (0, 0) _ (by simp) ((Blk.new w _ _).alloc _) Tryd.underlying24 rfl tMc_size) rfl ?_
  exact ⟨w.heap.size + 1, rfl, ⟨ints_one (blk_at _ _ (by simp)), IntsW.nil _ _⟩, ((Below.refl _ w).alloc (Nat.le_refl _) _).alloc (by simp) _⟩
theorem maW_alloc {w : World} {m : Mm} {aa sa : Option Addr} (h : MaW w m aa sa) (o : Obj) : MaW (w.alloc o) m aa sa := h.below ((Below.refl _ w).alloc (Nat.le_refl _) _)
theorem maW_drew {w : World} {m : Mm} {aa sa : Option Addr} (h : MaW w m aa sa) : MaW w.drew m aa sa := h.below (Below.refl _ w).drew
theorem belK_alloc {A w : World} {o : Obj} (h : Below A.heap.size A w) : Below A.heap.size A (w.alloc o) := h.alloc h.size o
theorem belK_drew {A w : World} (h : Below A.heap.size A w) : Below A.heap.size A w.drew := h.drew
theorem blkK_below {W w' : World} {g : Nat} {t : TypeId} {cs : Array Value} (h : Blk W g t cs) (hb : Below W.heap.size W w') : Blk w' g t cs := h.below hb h.lt
theorem bls_one {W : World} {g : Nat} {t : TypeId} {b : Bb} {ia : Option Addr} {ic : Nat} (h : Blk W g t (blC b ia ic)) (hn : ia = none → ic = 0) (hi : InsW W ia b.ins) : BlsW W (some ⟨g, 0, none⟩) [b] := fun k x hx => by
  cases k with
  | succ k => simp at hx
  | zero =>
    simp only [List.getElem?_cons_zero, Option.some.injEq] at hx
    subst hx
    exact ⟨g, 0, ia, ic, rfl, h.lt, ⟨h.cell 0, h.cell 1, h.cell 2, h.cell 3, h.cell 4, hn, hi⟩⟩
theorem ins_at {W : World} {g : Nat} {t : TypeId} {cs : Array Value} {x : Ii} {p : Nat} (h : Blk W g t cs) (hx : x.args = []) (hc : ∀ j, j < 8 → cs[p + j]? = #[Value.int .i64 x.op, .int .i64 x.dst, .int .i64 x.a, .int .i64 x.b, .int .i64 x.imm, .int .i64 x.callee, .slice none 0 0, .int .i64 x.many][j]?) : InAt W g p x none 0 :=
  ⟨(h.cell p).trans (hc 0 (by omega)), (h.cell _).trans (hc 1 (by omega)), (h.cell _).trans (hc 2 (by omega)), (h.cell _).trans (hc 3 (by omega)), (h.cell _).trans (hc 4 (by omega)), (h.cell _).trans (hc 5 (by omega)), (h.cell _).trans ((hc 6 (by omega)).trans (by rw [hx]; rfl)), (h.cell _).trans (hc 7 (by omega)), fun _ => rfl, by rw [hx]; exact IntsW.nil _ _⟩
def cellsP : Array Value := #[.int .i64 16, .int .i64 0, .int .i64 1, .int .i64 0, .int .i64 0, .int .i64 0, .slice none 0 0, .int .i64 0, .int .i64 17, .int .i64 0, .int .i64 0, .int .i64 0, .int .i64 0, .int .i64 0, .slice none 0 0, .int .i64 0]
def cellsQ : Array Value := #[.int .i64 17, .int .i64 0, .int .i64 0, .int .i64 0, .int .i64 1, .int .i64 0, .slice none 0 0, .int .i64 0]
def cellsB (g n : Nat) : Array Value := #[.slice (some ⟨g, 0, none⟩) n n, .int .i64 4, .int .i64 0, .int .i64 0, .int .i64 0]
theorem insP {W : World} {g : Nat} {t : TypeId} (h : Blk W g t cellsP) : InsW W (some ⟨g, 0, none⟩) bA.ins := fun k x hx => by
  match k, hx with
  | 0, hx =>
    have : insPut = x := by simpa [bA] using hx
    subst this
    exact ⟨g, 0, none, 0, rfl, h.lt, ins_at h rfl (fun j hj => by
      match j, hj with
      | 0, _ => rfl
      | 1, _ => rfl
      | 2, _ => rfl
      | 3, _ => rfl
      | 4, _ => rfl
      | 5, _ => rfl
      | 6, _ => rfl
      | 7, _ => rfl
      | j + 8, h => omega)⟩
  | 1, hx =>
    have : insGet 0 = x := by simpa [bA] using hx
    subst this
    exact ⟨g, 0, none, 0, rfl, h.lt, ins_at h rfl (fun j hj => by
      match j, hj with
      | 0, _ => rfl
      | 1, _ => rfl
      | 2, _ => rfl
      | 3, _ => rfl
      | 4, _ => rfl
      | 5, _ => rfl
      | 6, _ => rfl
      | 7, _ => rfl
      | j + 8, h => omega)⟩
  | k + 2, hx => simp [bA] at hx
theorem insQ {W : World} {g : Nat} {t : TypeId} (h : Blk W g t cellsQ) : InsW W (some ⟨g, 0, none⟩) bC.ins := fun k x hx => by
  match k, hx with
  | 0, hx =>
    have : insGet 1 = x := by simpa [bC] using hx
    subst this
    exact ⟨g, 0, none, 0, rfl, h.lt, ins_at h rfl (fun j hj => by
      match j, hj with
      | 0, _ => rfl
      | 1, _ => rfl
      | 2, _ => rfl
      | 3, _ => rfl
      | 4, _ => rfl
      | 5, _ => rfl
      | 6, _ => rfl
      | 7, _ => rfl
      | j + 8, h => omega)⟩
  | k + 1, hx => simp [bC] at hx
theorem boxK {W : World} {g : Nat} {t : TypeId} {r n : Nat} (h : Blk W g t (cellsB r n)) :
    W.cell? ⟨g, 0, none⟩ = some (.slice (some ⟨r, 0, none⟩) n n) ∧ W.cell? ⟨g, 1, none⟩ = some (.int .i64 4) ∧ W.cell? ⟨g, 2, none⟩ = some (.int .i64 0) ∧ W.cell? ⟨g, 3, none⟩ = some (.int .i64 0) ∧ W.cell? ⟨g, 4, none⟩ = some (.int .i64 0) :=
  ⟨h.cell 0, h.cell 1, h.cell 2, h.cell 3, h.cell 4⟩
/-- The example's rows and boxes. -/
structure ExW (w A : World) : Prop where
  p : Blk A w.heap.size 31 cellsP
  b : Blk A (w.heap.size + 1) 34 (cellsB w.heap.size 2)
  q : Blk A (w.heap.size + 1 + 1) 31 cellsQ
  c : Blk A (w.heap.size + 1 + 1 + 1) 34 (cellsB (w.heap.size + 1 + 1) 1)
  be : Below w.heap.size w A
def exA (w : World) : World := (((w.alloc (.cells cellsP 31)).alloc (.cells (cellsB w.heap.size 2) 34)).alloc (.cells cellsQ 31)).alloc (.cells (cellsB (w.heap.size + 1 + 1) 1) 34)
theorem exA_is (w : World) : ExW w (exA w) :=
  ⟨(((Blk.new w _ _).alloc _).alloc _).alloc _, ((blk_at _ _ (by simp)).alloc _).alloc _, (blk_at _ _ (by simp)).alloc _, blk_at _ _ (by simp), ((((Below.refl _ w).alloc (Nat.le_refl _) _).alloc (by simp) _).alloc (by simp; omega) _).alloc (by simp; omega) _⟩
theorem small_ex (b : Bb) (h : b.ins.length ≤ 2 ∧ ∀ i ∈ b.ins, i.args = []) : SmallG ⟨1, [b]⟩ := ⟨by simp, fun x hx => by
  simp only [List.mem_singleton] at hx
  subst hx
  exact ⟨by omega, fun i hi => by rw [h.2 i hi]; simp⟩⟩
set_option maxHeartbeats 4000000 in
set_option maxRecDepth 100000 in
theorem awakeT_any (w : World) (hT : TabW w) : Calls Tryd.prog 10 #[] w fun e w' => e = .returned (.bool true) ∧ Below w.heap.size w w' := by
  have HX := Lib.hid (exA_is w)
  have HB := Lib.hid HX.out.be
  have HT := Lib.hid (hT.below HB.out)
  have C2 : Hid (∀ W, Below (exA w).heap.size (exA w) W → Calls Tryd.prog 6 #[] W fun e w' => ∃ g, e = .returned (.agg #[.int .i64 2, .slice (some ⟨g, 0, none⟩) 1 1, .int .i64 0, .slice none 0 0]) ∧ Hid (MaW w' tMc (some ⟨g, 0, none⟩) none) ∧ Below (exA w).heap.size (exA w) w' ∧ Hid (Below W.heap.size W w')) := fun W h =>
    (two_any W).mono fun e w' ⟨g, h1, h2, h3⟩ => ⟨g, h1, h2, h.trans (h3.mono h.size), h3⟩
  have R1 : Hid (∀ W g g2, Below (exA w).heap.size (exA w) W → MaW W tMc (some ⟨g, 0, none⟩) none → Blk W g2 34 (cellsB w.heap.size 2) → Calls Tryd.prog 7 #[.agg #[.int .i64 2, .slice (some ⟨g, 0, none⟩) 1 1, .int .i64 0, .slice none 0 0], .agg #[.int .i64 1, .slice (some ⟨g2, 0, none⟩) 1 1]] W fun e w' => e = .returned (.int .i64 0) ∧ Below (exA w).heap.size (exA w) w' ∧ Hid (Below W.heap.size W w')) := fun W g g2 h hm hk => by
    have h9 := right_any tMc (some ⟨g, 0, none⟩) none 1 0 ⟨1, [bA]⟩ (some ⟨g2, 0, none⟩) 1 W (by decide) (by decide) hm (bls_one (b := bA) (ia := some ⟨w.heap.size, 0, none⟩) (ic := 2) hk (fun h => by cases h) (insP (HX.out.p.below h HX.out.p.lt))) (small_ex bA ⟨by decide, by decide⟩) (HT.out.below h)
    rw [tells_ex.1] at h9
    exact h9.mono fun e w' ⟨h1, h2⟩ => ⟨h1, h.trans (h2.mono h.size), h2⟩
  have R2 : Hid (∀ W g g2, Below (exA w).heap.size (exA w) W → MaW W tMc (some ⟨g, 0, none⟩) none → Blk W g2 34 (cellsB (w.heap.size + 1 + 1) 1) → Calls Tryd.prog 7 #[.agg #[.int .i64 2, .slice (some ⟨g, 0, none⟩) 1 1, .int .i64 0, .slice none 0 0], .agg #[.int .i64 1, .slice (some ⟨g2, 0, none⟩) 1 1]] W fun e w' => e = .returned (.int .i64 11) ∧ Below (exA w).heap.size (exA w) w') := fun W g g2 h hm hk => by
    have h9 := right_any tMc (some ⟨g, 0, none⟩) none 1 0 ⟨1, [bC]⟩ (some ⟨g2, 0, none⟩) 1 W (by decide) (by decide) hm (bls_one (b := bC) (ia := some ⟨w.heap.size + 1 + 1, 0, none⟩) (ic := 1) hk (fun h => by cases h) (insQ (HX.out.q.below h HX.out.q.lt))) (small_ex bC ⟨by decide, by decide⟩) (HT.out.below h)
    rw [tells_ex.2.1] at h9
    exact h9.mono fun e w' ⟨h1, h2⟩ => ⟨h1, h.trans (h2.mono h.size)⟩
  have CI : Hid (∀ W, Below (exA w).heap.size (exA w) W → Calls Tryd.prog 18 #[.int .i64 16] W fun e w' => e = .returned (.bool true) ∧ Below (exA w).heap.size (exA w) w') := fun W h =>
    (inserted_any 16 W).mono fun e w' ⟨h1, h2⟩ => ⟨by rw [h1, tells_ex.2.2], h2 ▸ h⟩
  have HZ : Hid (∀ W, Below (exA w).heap.size (exA w) W → Below (exA w).heap.size (exA w) W ∧ (W.cell? ⟨w.heap.size + 1, 0, none⟩ = some (.slice (some ⟨w.heap.size, 0, none⟩) 2 2) ∧ W.cell? ⟨w.heap.size + 1, 1, none⟩ = some (.int .i64 4) ∧ W.cell? ⟨w.heap.size + 1, 2, none⟩ = some (.int .i64 0) ∧ W.cell? ⟨w.heap.size + 1, 3, none⟩ = some (.int .i64 0) ∧ W.cell? ⟨w.heap.size + 1, 4, none⟩ = some (.int .i64 0)) ∧ (W.cell? ⟨w.heap.size + 1 + 1 + 1, 0, none⟩ = some (.slice (some ⟨w.heap.size + 1 + 1, 0, none⟩) 1 1) ∧ W.cell? ⟨w.heap.size + 1 + 1 + 1, 1, none⟩ = some (.int .i64 4) ∧ W.cell? ⟨w.heap.size + 1 + 1 + 1, 2, none⟩ = some (.int .i64 0) ∧ W.cell? ⟨w.heap.size + 1 + 1 + 1, 3, none⟩ = some (.int .i64 0) ∧ W.cell? ⟨w.heap.size + 1 + 1 + 1, 4, none⟩ = some (.int .i64 0))) := fun W h =>
    ⟨h, boxK (HX.out.b.below h HX.out.b.lt), boxK (HX.out.c.below h HX.out.c.lt)⟩
  have hb0 := (Below.refl (exA w).heap.size (exA w)).drew
  have hU := exA.eq_1 w
  unfold cellsP cellsQ cellsB at hU
  unfold cellsB at R1 R2
  clear hT HT HX
  go_enter Tryd.func10, Tryd.ntmps10
  go_upto_region 3 with fail
  rw [← hU]
  clear hU
  generalize exA w = A at *
  go_region_held3 (fun W => Below A.heap.size A W ∧ (W.cell? ⟨w.heap.size + 1, 0, none⟩ = some (.slice (some ⟨w.heap.size, 0, none⟩) 2 2) ∧ W.cell? ⟨w.heap.size + 1, 1, none⟩ = some (.int .i64 4) ∧ W.cell? ⟨w.heap.size + 1, 2, none⟩ = some (.int .i64 0) ∧ W.cell? ⟨w.heap.size + 1, 3, none⟩ = some (.int .i64 0) ∧ W.cell? ⟨w.heap.size + 1, 4, none⟩ = some (.int .i64 0)) ∧ (W.cell? ⟨w.heap.size + 1 + 1 + 1, 0, none⟩ = some (.slice (some ⟨w.heap.size + 1 + 1, 0, none⟩) 1 1) ∧ W.cell? ⟨w.heap.size + 1 + 1 + 1, 1, none⟩ = some (.int .i64 4) ∧ W.cell? ⟨w.heap.size + 1 + 1 + 1, 2, none⟩ = some (.int .i64 0) ∧ W.cell? ⟨w.heap.size + 1 + 1 + 1, 3, none⟩ = some (.int .i64 0) ∧ W.cell? ⟨w.heap.size + 1 + 1 + 1, 4, none⟩ = some (.int .i64 0)))
    (first | (refine HZ.out _ ?_; (repeat (first | with_reducible apply belK_alloc | with_reducible apply belK_drew)); (first | exact Below.refl _ _ | assumption)))
    (first
      | (go_at_call 18; refine (CI.out _ (by go_split_ands; assumption)).mono ?_; rintro e w11 ⟨rfl, hb11⟩)
      | (go_at_call 7; refine (R2.out _ g9 _ (by go_split_ands; assumption) (by (repeat (first | with_reducible apply maW_alloc | with_reducible apply maW_drew)); first | exact hm9.out | exact hm9.out.below hW9.out) (by (repeat (with_reducible apply Blk.drew)); first | exact Blk.new _ _ _ | (refine blkK_below ?_ hW9.out; (repeat (with_reducible apply Blk.drew)); exact Blk.new _ _ _))).mono ?_; rintro e w10 ⟨rfl, hb10⟩)
      | (go_at_call 6; have hq := hR1; refine (C2.out _ (by go_split_ands; assumption)).mono ?_; rintro e w9 ⟨g9, rfl, hm9, hb9, hW9⟩)
      | (go_at_call 7; refine (R1.out _ g7 _ (by go_split_ands; assumption) (by (repeat (first | with_reducible apply maW_alloc | with_reducible apply maW_drew)); first | exact hm7.out | exact hm7.out.below hW7.out) (by (repeat (with_reducible apply Blk.drew)); first | exact Blk.new _ _ _ | (refine blkK_below ?_ hW7.out; (repeat (with_reducible apply Blk.drew)); exact Blk.new _ _ _))).mono ?_; rintro e w8 ⟨rfl, hb8, hR1⟩)
      | (go_at_call 6; refine (C2.out _ (by go_split_ands; assumption)).mono ?_; rintro e w7 ⟨g7, rfl, hm7, hb7, hW7⟩))
  all_goals (
    go_wp2
    go_ret
    exact ⟨rfl, HB.out.trans (hb11.mono HB.out.size)⟩)
end Go.Proofs.YtbckkmicdpjnaaaDoor
