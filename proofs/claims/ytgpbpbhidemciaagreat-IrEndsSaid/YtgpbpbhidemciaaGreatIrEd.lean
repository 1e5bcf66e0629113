/-
  The walk of the statement IrEnds: all parts and functions about their ends are told as written by hand. No condition beyond those that each theorem states.
-/
import Derived.Test.YtgpbpbhidemciaaGreatIrEc
import Derived.Test.YtgpbpbhidemciaaGreatIrAw
import Derived.Test.YtgpbpbhidemciaaGreatIrEe
import Derived.Deep.RegionHeld3
import Derived.Deep.CutRange
namespace Go.Proofs.YtgpbpbhidemciaaGreat
open Go.RowKit

def endsC : Array Value := #[.int .i64 (-1), .int .i64 0, .int .i64 1, .int .i64 2, .int .i64 200, .int .i64 201, .int .i64 1099511627776, .int .i64 1099511627777, .int .i64 (-1099511627776), .int .i64 (-1099511627777)]
theorem endsC_at {k : Nat} (h : k < 10) : ∃ v : Int, endsC[k]? = some (.int .i64 v) := by
  have : k = 0 ∨ k = 1 ∨ k = 2 ∨ k = 3 ∨ k = 4 ∨ k = 5 ∨ k = 6 ∨ k = 7 ∨ k = 8 ∨ k = 9 := by omega
  rcases this with h | h | h | h | h | h | h | h | h | h <;> subst h <;> exact ⟨_, rfl⟩
/-- Numbers in a block of their own, or none. -/
def ArgZ (w : World) (a : Option Addr) (l : List Int) : Prop := l = [] ∨ ∃ g cs, a = some ⟨g, 0, none⟩ ∧ Blk w g 3 cs ∧ ∀ (k : Nat) (x : Int), l[k]? = some x → cs[k]? = some (Value.int .i64 x)
theorem ArgZ.ints {w : World} {a : Option Addr} {l : List Int} (h : ArgZ w a l) : IntsW w a l := by
  rcases h with rfl | ⟨g, cs, rfl, hb, hc⟩
  · exact IntsW.nil _ _
  · exact IntsW.row hb hc
/-- An instruction lies in box Y, another one in box X, the ends in block E. -/
structure SwI (w wx : World) (Y X E : Nat) (o : Ii) : Prop where
  some_ : ∃ (x : Ii) (a : Option Addr) (c : Nat), Blk wx Y 25 (insC x a c) ∧ ArgZ wx a x.args ∧ (a = none → c = 0) ∧ x.args.length ≤ 100
  ins : Blk wx X 25 (insC o none 0)
  ends : Blk wx E 3 endsC
  below : Below w.heap.size w wx
  ne : X ≠ Y
  le : w.heap.size ≤ Y
section
variable {w wx : World} {Y X E : Nat} {o : Ii}
theorem SwI.alloc (h : SwI w wx Y X E o) (ob : Obj) : SwI w (wx.alloc ob) Y X E o := by
  obtain ⟨x, a, c, h1, h2, h3, h4⟩ := h.some_
  refine ⟨⟨x, a, c, h1.alloc _, ?_, h3, h4⟩, h.ins.alloc _, h.ends.alloc _, h.below.alloc h.below.size _, h.ne, h.le⟩
  rcases h2 with h2 | ⟨g, cs, e, hb, hc⟩
  · exact .inl h2
  · exact .inr ⟨g, cs, e, hb.alloc _, hc⟩
theorem SwI.far (h : SwI w wx Y X E o) (j : Nat) (u : Value) : Blk (wx.setCell ⟨Y, j, none⟩ u) X 25 (insC o none 0) ∧ Blk (wx.setCell ⟨Y, j, none⟩ u) E 3 endsC ∧ Below w.heap.size w (wx.setCell ⟨Y, j, none⟩ u) ∧ ∀ {a : Option Addr} {l : List Int}, ArgZ wx a l → ArgZ (wx.setCell ⟨Y, j, none⟩ u) a l := by
  obtain ⟨x, a, c, h1, _, _, _⟩ := h.some_
  have hne : E ≠ Y := ir_ne' h.ends h1 (by decide)
  refine ⟨h.ins.far (p := ⟨Y, j, none⟩) h.ne _, h.ends.far (p := ⟨Y, j, none⟩) hne _, h.below.setCell (p := ⟨Y, j, none⟩) h.le _, fun h2 => ?_⟩
  rcases h2 with h2 | ⟨g, cs, e, hb, hc⟩
  · exact .inl h2
  · exact .inr ⟨g, cs, e, hb.far (p := ⟨Y, j, none⟩) (ir_ne' hb h1 (by decide)) _, hc⟩
theorem SwI.put (h : SwI w wx Y X E o) (j : Nat) (v : Int) (hj : j = 1 ∨ j = 2 ∨ j = 3 ∨ j = 4 ∨ j = 5 ∨ j = 7) : SwI w (wx.setCell ⟨Y, j, none⟩ (.int .i64 v)) Y X E o := by
  obtain ⟨f1, f2, f3, f4⟩ := h.far j (.int .i64 v)
  obtain ⟨x, a, c, h1, h2, h3, h4⟩ := h.some_
  have hp := h1.put j (.int .i64 v)
  refine ⟨?_, f1, f2, f3, h.ne, h.le⟩
  rcases hj with rfl | rfl | rfl | rfl | rfl | rfl
  · exact ⟨{ x with dst := v }, a, c, hp, f4 h2, h3, h4⟩
  · exact ⟨{ x with a := v }, a, c, hp, f4 h2, h3, h4⟩
  · exact ⟨{ x with b := v }, a, c, hp, f4 h2, h3, h4⟩
  · exact ⟨{ x with imm := v }, a, c, hp, f4 h2, h3, h4⟩
  · exact ⟨{ x with callee := v }, a, c, hp, f4 h2, h3, h4⟩
  · exact ⟨{ x with many := v }, a, c, hp, f4 h2, h3, h4⟩
theorem SwI.putArgs (h : SwI w wx Y X E o) {a' : Option Addr} {l : List Int} {c' : Nat} (hl : ArgZ wx a' l) (hn : a' = none → c' = 0) (hlen : l.length ≤ 100) : SwI w (wx.setCell ⟨Y, 6, none⟩ (.slice a' l.length c')) Y X E o := by
  obtain ⟨f1, f2, f3, f4⟩ := h.far 6 (.slice a' l.length c')
  obtain ⟨x, a, c, h1, h2, h3, h4⟩ := h.some_
  have hp := h1.put 6 (.slice a' l.length c')
  exact ⟨⟨{ x with args := l }, a', c', hp, f4 hl, hn, hlen⟩, f1, f2, f3, h.ne, h.le⟩
theorem SwI.putNew (h : SwI w wx Y X E o) {cs : Array Value} {l : List Int} {c : Nat} (hc : ∀ (k : Nat) (x : Int), l[k]? = some x → cs[k]? = some (Value.int .i64 x)) (hlen : l.length ≤ 100) :
    SwI w ((wx.setCell ⟨Y, 6, none⟩ (.slice (some ⟨wx.heap.size, 0, none⟩) l.length c)).alloc (.cells cs 3)) Y X E o := by
  obtain ⟨f1, f2, f3, _⟩ := h.far 6 (.slice (some ⟨wx.heap.size, 0, none⟩) l.length c)
  obtain ⟨x, a, c0, h1, h2, h3, h4⟩ := h.some_
  have hp := h1.put 6 (.slice (some ⟨wx.heap.size, 0, none⟩) l.length c)
  have hn := Blk.new (wx.setCell ⟨Y, 6, none⟩ (.slice (some ⟨wx.heap.size, 0, none⟩) l.length c)) 3 cs
  have hs : (wx.setCell ⟨Y, 6, none⟩ (.slice (some ⟨wx.heap.size, 0, none⟩) l.length c)).heap.size = wx.heap.size := by simp [World.setCell]
  rw [hs] at hn
  exact ⟨⟨{ x with args := l }, _, c, hp.alloc _, .inr ⟨wx.heap.size, cs, rfl, hn, hc⟩, (fun h => by cases h), hlen⟩, f1.alloc _, f2.alloc _, f3.alloc f3.size _, h.ne, h.le⟩
theorem good_list {cs : Array Value} {n : Nat} (h : Good 1 1 cs n) : ∃ l : List Int, l.length = n ∧ ∀ (k : Nat) (x : Int), l[k]? = some x → cs[k]? = some (Value.int .i64 x) := by
  have key : ∀ j, ∃ x : Int, j < n → cs[j]? = some (.int .i64 x) := fun j => by
    by_cases hj : j < n
    · obtain ⟨v, hv⟩ := (h j 0 hj (by omega)).2 (by omega)
      rw [Nat.mul_one, Nat.add_zero] at hv
      exact ⟨v, fun _ => hv⟩
    · exact ⟨0, fun h => absurd h hj⟩
  refine ⟨(List.range n).map fun j => (key j).choose, by simp, fun j x hx => ?_⟩
  rw [List.getElem?_map, Option.map_eq_some_iff] at hx
  obtain ⟨i, hi, rfl⟩ := hx
  obtain ⟨hj, hij⟩ := List.getElem?_eq_some_iff.1 hi
  rw [List.getElem_range] at hij
  subst hij
  exact (key j).choose_spec (by simpa using hj)
theorem SwI.cells (h : SwI w wx Y X E o) : (∀ j, j < 8 → ∃ u, wx.cell? ⟨Y, j, none⟩ = some u) ∧ ∀ j, wx.frozen? ⟨Y, j, none⟩ = false := by
  obtain ⟨x, a, c, h1, _, _, _⟩ := h.some_
  refine ⟨fun j hj => ?_, fun j => h1.free j⟩
  rw [h1.cell]
  have : (insC x a c).size = 8 := rfl
  exact ⟨_, Array.getElem?_eq_getElem (by omega)⟩
end
theorem tdiv_nat (n k : Nat) (_h : 0 < k) : (n : Int).tdiv k = ((n / k : Nat) : Int) := by
  rw [Int.tdiv_eq_ediv_of_nonneg (by omega)]
  simp
theorem tmod_nat (n k : Nat) : (n : Int).tmod k = ((n % k : Nat) : Int) := by
  rw [Int.tmod_eq_emod_of_nonneg (by omega)]
  simp
theorem bel_drew {A w : World} (h : Below A.heap.size A w) : Below A.heap.size A w.drew := h.drew
theorem bel_alloc {A w : World} (h : Below A.heap.size A w) (o : Obj) : Below A.heap.size A (w.alloc o) := h.alloc h.size o
set_option maxHeartbeats 40000000 in
set_option maxRecDepth 100000 in
theorem irEnds_any (w : World) : Calls Tryz.prog 3 #[] w fun e w' => e = .returned (.bool true) ∧ Below w.heap.size w w' := by
  have HE0 : Hid (Blk (w.alloc (.cells endsC 3)) w.heap.size 3 endsC) := Blk.new w _ _
  have HB0 : Hid (Below w.heap.size w (w.alloc (.cells endsC 3))) := (Below.refl _ w).alloc (Nat.le_refl _) _
  unfold endsC at HE0 HB0
  go_enter Tryz.func3, Tryz.ntmps3
  go_wp2
  go_loopw [2] (fun k wr => ∃ i : Int, k = .int .i64 i ∧ -1 ≤ i ∧ i ≤ 19 ∧ Blk wr w.heap.size 3 endsC ∧ Below w.heap.size w wr) (fun k _ => (19 - intOf k).toNat)
  case atStart => exact ⟨-1, rfl, Int.le_refl _, by omega, HE0.out, HB0.out⟩
  case round =>
    obtain ⟨i, rfl, hi0, hi1, hE, hB⟩ := hrel
    have HE := Lib.hid hE
    have HB := Lib.hid hB
    clear hE hB HE0 HB0
    by_cases hlt : i < 19
    · obtain ⟨w0, hw0⟩ : ∃ w0, w0 = wr := ⟨wr, rfl⟩
      subst hw0
      have hx1 : Hid (Blk (w0.alloc (.cells (insC ⟨i, 0, 0, 0, 0, 0, [], 0⟩ none 0) 25)) w0.heap.size 25 (insC ⟨i, 0, 0, 0, 0, 0, [], 0⟩ none 0)) := Blk.new w0 _ _
      have hb1 : Hid (Below w.heap.size w (w0.alloc (.cells (insC ⟨i, 0, 0, 0, 0, 0, [], 0⟩ none 0) 25))) := HB.out.alloc HB.out.size _
      have he1 : Hid (Blk (w0.alloc (.cells (insC ⟨i, 0, 0, 0, 0, 0, [], 0⟩ none 0) 25)) w.heap.size 3 endsC) := HE.out.alloc _
      unfold insC at hx1 hb1 he1
      simp only [List.length_nil] at hx1 hb1 he1
      go_wp2
      go_loopw [4] (fun k wr => ∃ n : Nat, k = .int .i64 n ∧ n ≤ 80 ∧ Blk wr w0.heap.size 25 (insC ⟨i, 0, 0, 0, 0, 0, [], 0⟩ none 0) ∧ Blk wr w.heap.size 3 endsC ∧ Below w.heap.size w wr) (fun k _ => 80 - (intOf k).toNat)
      case atStart => exact ⟨0, rfl, by omega, hx1.out, he1.out, hb1.out⟩
      case round =>
        obtain ⟨n, rfl, hn, hX, hE, hB⟩ := hrel
        have HX := Lib.hid hX
        have HE2 := Lib.hid hE
        have HB2 := Lib.hid hB
        clear hX hE hB hx1 he1 hb1 HE HB
        by_cases hlt2 : n < 80
        · have hlt' : (n : Int) < 80 := by omega
          have hn0 : (0 : Int) ≤ n := by omega
          obtain ⟨v, hv⟩ := endsC_at (k := n / 8) (by omega)
          have hd : (n : Int).tdiv 8 = ((n / 8 : Nat) : Int) := tdiv_nat n 8 (by omega)
          have hm : (n : Int).tmod 8 = ((n % 8 : Nat) : Int) := tmod_nat n 8
          have hd1 : ((n / 8 : Nat) : Int) < 10 := by omega
          have hd2 : (0 : Int) ≤ ((n / 8 : Nat) : Int) := by omega
          obtain ⟨c0, c1, c2, c3, c4, c5, c6, c7⟩ := box8 HX.out
          have hY : Hid (Blk (wr.alloc (.cells (insC ⟨i, 0, 0, 0, 0, 0, [], 0⟩ none 0) 25)) wr.heap.size 25 (insC ⟨i, 0, 0, 0, 0, 0, [], 0⟩ none 0)) := Blk.new wr _ _
          have hE3 : Hid (Blk (wr.alloc (.cells (insC ⟨i, 0, 0, 0, 0, 0, [], 0⟩ none 0) 25)) w.heap.size 3 endsC) := HE2.out.alloc _
          have hX3 : Hid (Blk (wr.alloc (.cells (insC ⟨i, 0, 0, 0, 0, 0, [], 0⟩ none 0) 25)) w0.heap.size 25 (insC ⟨i, 0, 0, 0, 0, 0, [], 0⟩ none 0)) := HX.out.alloc _
          have hB3 : Hid (Below w.heap.size w (wr.alloc (.cells (insC ⟨i, 0, 0, 0, 0, 0, [], 0⟩ none 0) 25))) := HB2.out.alloc HB2.out.size _
          have hne : w0.heap.size < wr.heap.size := HX.out.lt
          have hne2 : w.heap.size < wr.heap.size := HE2.out.lt
          simp only [List.length_nil] at c6
          have hE4 := Lib.hid (insC.eq_1 ⟨i, 0, 0, 0, 0, 0, [], 0⟩ none 0)
          rw [hE4.out] at hY hE3 hX3 hB3
          simp only [List.length_nil] at hY hE3 hX3 hB3
          go_upto_region 9 with fail
          go_cut [5] from 21 to 21 (fun v5 wx => v5 = .pointer (some ⟨wr.heap.size, 0, none⟩) ∧ wx = wr.alloc (.cells #[.int .i64 i, .int .i64 0, .int .i64 0, .int .i64 0, .int .i64 0, .int .i64 0, .slice none 0 0, .int .i64 0] 25))
          case first =>
            go_wp2
            go_meet
            exact ⟨rfl, rfl⟩
          case rest =>
            obtain ⟨rfl, rfl⟩ := hcut
            have hsz : (wr.alloc (.cells #[.int .i64 i, .int .i64 0, .int .i64 0, .int .i64 0, .int .i64 0, .int .i64 0, .slice none 0 0, .int .i64 0] 25)).heap.size = wr.heap.size + 1 := by simp
            generalize wr.alloc (.cells #[.int .i64 i, .int .i64 0, .int .i64 0, .int .i64 0, .int .i64 0, .int .i64 0, .slice none 0 0, .int .i64 0] 25) = W at hsz hY hE3 hX3 hB3 ⊢
            have hd3 : (n : Int) / 8 < 10 := by omega
            have hd4 : (0 : Int) ≤ (n : Int) / 8 := by omega
            have ce := (hE3.out.cell (n / 8)).trans hv
            have LW : Hid (W.heap.size = wr.heap.size + 1 ∧ w0.heap.size < W.heap.size ∧ w.heap.size < W.heap.size) := ⟨hsz, by omega, by omega⟩
            have S0 : Hid (SwI w W wr.heap.size w0.heap.size w.heap.size ⟨i, 0, 0, 0, 0, 0, [], 0⟩) := ⟨⟨⟨i, 0, 0, 0, 0, 0, [], 0⟩, none, 0, hY, .inl rfl, fun _ => rfl, by simp⟩, hX3, hE3, hB3, by omega, by omega⟩
            rename_i KK hKK
            refine hKK _ _ ?_
            go_step
            clear c0 c1 c2 c3 c4 c5 c6 c7 HX HE2 HB2 hE4 hX3 hE3 hB3
            go_cut [] from 21 to 134 (fun wx => SwI w wx wr.heap.size w0.heap.size w.heap.size ⟨i, 0, 0, 0, 0, 0, [], 0⟩)
            case first =>
              have hk : (n : Int) % 8 = 0 ∨ (n : Int) % 8 = 1 ∨ (n : Int) % 8 = 2 ∨ (n : Int) % 8 = 3 ∨ (n : Int) % 8 = 4 ∨ (n : Int) % 8 = 5 ∨ (n : Int) % 8 = 6 ∨ (n : Int) % 8 = 7 := by omega
              have y0 : W.cell? ⟨wr.heap.size, 0, none⟩ = some (.int .i64 i) := hY.out.cell 0
              have y1 : W.cell? ⟨wr.heap.size, 1, none⟩ = some (.int .i64 0) := hY.out.cell 1
              have y2 : W.cell? ⟨wr.heap.size, 2, none⟩ = some (.int .i64 0) := hY.out.cell 2
              have y3 : W.cell? ⟨wr.heap.size, 3, none⟩ = some (.int .i64 0) := hY.out.cell 3
              have y4 : W.cell? ⟨wr.heap.size, 4, none⟩ = some (.int .i64 0) := hY.out.cell 4
              have y5 : W.cell? ⟨wr.heap.size, 5, none⟩ = some (.int .i64 0) := hY.out.cell 5
              have y6 : W.cell? ⟨wr.heap.size, 6, none⟩ = some (.slice none 0 0) := hY.out.cell 6
              have y7 : W.cell? ⟨wr.heap.size, 7, none⟩ = some (.int .i64 0) := hY.out.cell 7
              have z0 := hY.out.free 0
              have z1 := hY.out.free 1
              have z2 := hY.out.free 2
              have z3 := hY.out.free 3
              have z4 := hY.out.free 4
              have z5 := hY.out.free 5
              have z6 := hY.out.free 6
              have z7 := hY.out.free 7
              clear hY
              rcases hk with hk | hk | hk | hk | hk | hk | hk | hk
              · go_wp2
                go_meet
                exact S0.out.put 1 v (by omega)
              · go_wp2
                go_meet
                exact (S0.out.put 1 1 (by omega)).put 2 v (by omega)
              · go_wp2
                go_meet
                exact ((S0.out.put 1 1 (by omega)).put 2 2 (by omega)).put 3 v (by omega)
              · go_wp2
                go_meet
                exact (S0.out.put 1 1 (by omega)).put 4 v (by omega)
              · go_wp2
                go_meet
                exact ((S0.out.put 2 1 (by omega)).put 3 v (by omega)).put 4 n (by omega)
              · go_wp2
                go_meet
                have := (S0.out.put 5 v (by omega)).putNew (cs := #[.int .i64 1, .int .i64 v]) (l := [1, v]) (c := 2) (fun k x hx => by
                  rcases k with _ | _ | k
                  · simpa using hx
                  · simpa using hx
                  · simp at hx) (by simp)
                have hs9 : (W.setCell ⟨wr.heap.size, 5, none⟩ (.int .i64 v)).heap.size = wr.heap.size + 1 := by rw [← hsz]; simp [World.setCell]
                rw [hs9] at this
                exact this
              · obtain ⟨cs, hg, hmk⟩ := make_ints (n := n / 8) (by omega)
                obtain ⟨l, hl, hl2⟩ := good_list hg
                rw [show ((n / 8 : Nat) : Int) = (n : Int) / 8 by omega] at hmk
                go_wp2
                go_meet
                have := ((S0.out.put 1 1 (by omega)).put 5 (99 + (n : Int) % 3) (by omega)).putNew (cs := cs) (l := l) (c := n / 8) hl2 (by omega)
                have hs9 : ((W.setCell ⟨wr.heap.size, 1, none⟩ (.int .i64 1)).setCell ⟨wr.heap.size, 5, none⟩ (.int .i64 (99 + (n : Int) % 3))).heap.size = wr.heap.size + 1 := by rw [← hsz]; simp [World.setCell]
                rw [hs9, hl] at this
                exact this
              · go_wp2
                go_meet
                exact ((S0.out.put 1 1 (by omega)).put 2 v (by omega)).put 7 ((n : Int) / 40) (by omega)
            case rest =>
              obtain ⟨x, xa, xc, hx1, hx2, hx3, hx4⟩ := hcut.some_
              have HC := Lib.hid hcut
              have HY := Lib.hid hx1
              have HV : Hid (endsC[n / 8]? = some (.int .i64 v)) := hv
              have CP : Hid (∀ (k e t0 t1 : Int) W, Below wc.heap.size wc W → Calls Tryz.prog 4 #[.agg #[.int .i64 x.op, .int .i64 x.dst, .int .i64 x.a, .int .i64 x.b, .int .i64 x.imm, .int .i64 x.callee, .slice xa x.args.length xc, .int .i64 x.many], .agg #[.int .i64 k, .int .i64 e, .int .i64 t0, .int .i64 t1]] W fun e w' => e = .returned (.bool true) ∧ Below wc.heap.size wc w') := fun k e t0 t1 W h =>
                (parts_any x xa xc ⟨k, e, t0, t1⟩ W (by omega) hx3 (hx2.ints.below h)).mono fun e w' ⟨h1, h2⟩ => ⟨h1, h.trans (h2.mono h.size)⟩
              have HS : Hid (∀ W, Below wc.heap.size wc W → Below wc.heap.size wc W ∧ W.cell? ⟨wr.heap.size, 0, none⟩ = some (.int .i64 x.op) ∧ W.cell? ⟨wr.heap.size, 1, none⟩ = some (.int .i64 x.dst) ∧ W.cell? ⟨wr.heap.size, 2, none⟩ = some (.int .i64 x.a) ∧ W.cell? ⟨wr.heap.size, 3, none⟩ = some (.int .i64 x.b) ∧ W.cell? ⟨wr.heap.size, 4, none⟩ = some (.int .i64 x.imm) ∧ W.cell? ⟨wr.heap.size, 5, none⟩ = some (.int .i64 x.callee) ∧ W.cell? ⟨wr.heap.size, 6, none⟩ = some (.slice xa x.args.length xc) ∧ W.cell? ⟨wr.heap.size, 7, none⟩ = some (.int .i64 x.many) ∧ W.cell? ⟨w.heap.size, n / 8, none⟩ = some (.int .i64 v)) := fun W h => by
                obtain ⟨a0, a1, a2, a3, a4, a5, a6, a7⟩ := box8 (HY.out.below h HY.out.lt)
                exact ⟨h, a0, a1, a2, a3, a4, a5, a6, a7, ((HC.out.ends.below h HC.out.ends.lt).cell (n / 8)).trans HV.out⟩
              have hb0 := (Below.refl wc.heap.size wc).drew
              have hwq : IntKind.i64.wrap ((n : Int) / 8) = (n : Int) / 8 := by rw [IntKind.wrap_i64]; omega
              have htn : ((n : Int) / 8).toNat = n / 8 := by omega
              have hd5 : (0 : Int) ≤ (n : Int) % 3 := by omega
              clear hcut hx1 hx2 hx3 hx4 S0 LW hsz ce hY hv
              rename_i K2 hK2
              refine hK2 _ _ ?_
              go_step
              refine wp_region_held_drew (S := fun W => Below wc.heap.size wc W ∧ W.cell? ⟨wr.heap.size, 0, none⟩ = some (.int .i64 x.op) ∧ W.cell? ⟨wr.heap.size, 1, none⟩ = some (.int .i64 x.dst) ∧ W.cell? ⟨wr.heap.size, 2, none⟩ = some (.int .i64 x.a) ∧ W.cell? ⟨wr.heap.size, 3, none⟩ = some (.int .i64 x.b) ∧ W.cell? ⟨wr.heap.size, 4, none⟩ = some (.int .i64 x.imm) ∧ W.cell? ⟨wr.heap.size, 5, none⟩ = some (.int .i64 x.callee) ∧ W.cell? ⟨wr.heap.size, 6, none⟩ = some (.slice xa x.args.length xc) ∧ W.cell? ⟨wr.heap.size, 7, none⟩ = some (.int .i64 x.many) ∧ W.cell? ⟨w.heap.size, n / 8, none⟩ = some (.int .i64 v)) (by kernel_rfl) ?_ (fun hHeld => ?_)
              · exact HS.out _ hb0
              refine wpAnyH_take (i := 0) (v := ?v0) (by simp only [List.getElem?_toArray, List.getElem?_cons_zero]; rfl) (by kernel_rfl) (by kernel_rfl) (by kernel_rfl) (by exact fun _ _ _ h => h) (Or.inl ⟨by rfl, ?y0⟩) (by assumption) ?_
              case y0 => (intro W9 hSw; (try dsimp only at hSw); go_simp; try (with_reducible rfl))
              try simp only [Act.put, List.setIfInBounds_toArray, List.set_cons_zero, List.set_cons_succ]
              refine wpAnyH_take (i := 1) (v := ?v1) (by simp only [List.getElem?_toArray, List.getElem?_cons_succ, List.getElem?_cons_zero]; rfl) (by kernel_rfl) (by kernel_rfl) (by kernel_rfl) (by exact fun _ _ _ h => h) (Or.inl ⟨by rfl, ?y1⟩) (by assumption) ?_
              case y1 => (intro W9 hSw; (try dsimp only at hSw); go_simp; try (with_reducible rfl))
              try simp only [Act.put, List.setIfInBounds_toArray, List.set_cons_zero, List.set_cons_succ]
              refine wpAnyH_take (i := 2) (v := ?v2) (by simp only [List.getElem?_toArray, List.getElem?_cons_succ, List.getElem?_cons_zero]; rfl) (by kernel_rfl) (by kernel_rfl) (by kernel_rfl) (by exact fun _ _ _ h => h) (Or.inl ⟨by rfl, ?y2⟩) (by assumption) ?_
              case y2 => (intro W9 hSw; (try dsimp only at hSw); go_simp; try (with_reducible rfl))
              try simp only [Act.put, List.setIfInBounds_toArray, List.set_cons_zero, List.set_cons_succ]
              refine wpAnyH_take (i := 3) (v := ?v3) (by simp only [List.getElem?_toArray, List.getElem?_cons_succ, List.getElem?_cons_zero]; rfl) (by kernel_rfl) (by kernel_rfl) (by kernel_rfl) (by exact fun _ _ _ h => h) (Or.inl ⟨by rfl, ?y3⟩) (by assumption) ?_
              case y3 => (intro W9 hSw; (try dsimp only at hSw); go_simp; try (with_reducible rfl))
              try simp only [Act.put, List.setIfInBounds_toArray, List.set_cons_zero, List.set_cons_succ]
              refine wpAnyH_take (i := 4) (v := ?v4) (by simp only [List.getElem?_toArray, List.getElem?_cons_succ, List.getElem?_cons_zero]; rfl) (by kernel_rfl) (by kernel_rfl) (by kernel_rfl) (by exact fun _ _ _ h => h) (Or.inl ⟨by rfl, ?y4⟩) (by assumption) ?_
              case y4 => (intro W9 hSw; (try dsimp only at hSw); go_simp; try (with_reducible rfl))
              try simp only [Act.put, List.setIfInBounds_toArray, List.set_cons_zero, List.set_cons_succ]
              refine wpAnyH_take (i := 5) (v := ?v5) (by simp only [List.getElem?_toArray, List.getElem?_cons_succ, List.getElem?_cons_zero]; rfl) (by kernel_rfl) (by kernel_rfl) (by kernel_rfl) (by exact fun _ _ _ h => h) (Or.inl ⟨by rfl, ?y5⟩) (by assumption) ?_
              case y5 => (intro W9 hSw; (try dsimp only at hSw); go_simp; try (with_reducible rfl))
              try simp only [Act.put, List.setIfInBounds_toArray, List.set_cons_zero, List.set_cons_succ]
              refine wpAnyH_take (i := 6) (v := ?v6) (by simp only [List.getElem?_toArray, List.getElem?_cons_succ, List.getElem?_cons_zero]; rfl) (by kernel_rfl) (by kernel_rfl) (by kernel_rfl) (by exact fun _ _ _ h => h) (Or.inl ⟨by rfl, ?y6⟩) (by assumption) ?_
              case y6 => (intro W9 hSw; (try dsimp only at hSw); go_simp; try (with_reducible rfl))
              try simp only [Act.put, List.setIfInBounds_toArray, List.set_cons_zero, List.set_cons_succ]
              refine wpAnyH_take (i := 7) (v := ?v7) (by simp only [List.getElem?_toArray, List.getElem?_cons_succ, List.getElem?_cons_zero]; rfl) (by kernel_rfl) (by kernel_rfl) (by kernel_rfl) (by exact fun _ _ _ h => h) (Or.inl ⟨by rfl, ?y7⟩) (by assumption) ?_
              case y7 => (intro W9 hSw; (try dsimp only at hSw); go_simp; try (with_reducible rfl))
              try simp only [Act.put, List.setIfInBounds_toArray, List.set_cons_zero, List.set_cons_succ]
              refine wpAnyH_take (i := 8) (v := ?v8) (by simp only [List.getElem?_toArray, List.getElem?_cons_succ, List.getElem?_cons_zero]; rfl) (by kernel_rfl) (by kernel_rfl) (by kernel_rfl) (by exact fun _ _ _ h => h) (Or.inl ⟨by rfl, ?y8⟩) (by assumption) ?_
              case y8 => (intro W9 hSw; (try dsimp only at hSw); go_simp; try (with_reducible rfl))
              try simp only [Act.put, List.setIfInBounds_toArray, List.set_cons_zero, List.set_cons_succ]
              refine wpAnyH_take (i := 9) (v := ?v9) (by simp only [List.getElem?_toArray, List.getElem?_cons_succ, List.getElem?_cons_zero]; rfl) (by kernel_rfl) (by kernel_rfl) (by kernel_rfl) (by exact fun _ _ _ h => h) (Or.inl ⟨by rfl, ?y9⟩) (by assumption) ?_
              case y9 => (intro W9 hSw; (try dsimp only at hSw); go_simp; try (with_reducible rfl))
              try simp only [Act.put, List.setIfInBounds_toArray, List.set_cons_zero, List.set_cons_succ]
              refine wpAnyH_take (i := 10) (v := ?v10) (by simp only [List.getElem?_toArray, List.getElem?_cons_succ, List.getElem?_cons_zero]; rfl) (by kernel_rfl) (by kernel_rfl) (by kernel_rfl) (by exact fun _ _ _ h => h) (Or.inl ⟨by rfl, ?y10⟩) (by assumption) ?_
              case y10 => (intro W9 hSw; (try dsimp only at hSw); go_simp; try (with_reducible rfl))
              try simp only [Act.put, List.setIfInBounds_toArray, List.set_cons_zero, List.set_cons_succ]
              refine wpAnyH_take (i := 11) (v := ?v11) (by simp only [List.getElem?_toArray, List.getElem?_cons_succ, List.getElem?_cons_zero]; rfl) (by kernel_rfl) (by kernel_rfl) (by kernel_rfl) (by exact fun _ _ _ h => h) (Or.inl ⟨by rfl, ?y11⟩) (by assumption) ?_
              case y11 => (intro W9 hSw; (try dsimp only at hSw); go_simp; try (with_reducible rfl))
              try simp only [Act.put, List.setIfInBounds_toArray, List.set_cons_zero, List.set_cons_succ]
              refine wpAnyH_take (i := 12) (v := ?v12) (by simp only [List.getElem?_toArray, List.getElem?_cons_succ, List.getElem?_cons_zero]; rfl) (by kernel_rfl) (by kernel_rfl) (by kernel_rfl) (by exact fun _ _ _ h => h) (Or.inl ⟨by rfl, ?y12⟩) (by assumption) ?_
              case y12 => (intro W9 hSw; (try dsimp only at hSw); go_simp; try (with_reducible rfl))
              try simp only [Act.put, List.setIfInBounds_toArray, List.set_cons_zero, List.set_cons_succ]
              refine wpAnyH_take (i := 13) (v := ?v13) (by simp only [List.getElem?_toArray, List.getElem?_cons_succ, List.getElem?_cons_zero]; rfl) (by kernel_rfl) (by kernel_rfl) (by kernel_rfl) (by exact fun _ _ _ h => h) (Or.inl ⟨by rfl, ?y13⟩) (by assumption) ?_
              case y13 => (intro W9 hSw; (try dsimp only at hSw); go_simp; try (with_reducible rfl))
              try simp only [Act.put, List.setIfInBounds_toArray, List.set_cons_zero, List.set_cons_succ]
              refine wpAnyH_ready (rs := [14]) (by kernel_rfl) (by simp) ?_
              refine AllReadyH.cons (by simp only [List.getElem?_toArray, List.getElem?_cons_succ, List.getElem?_cons_zero]; rfl) (fun K hK => ?_) AllReadyH.nil
              go_simp
              go_at_call 4
              refine (CP.out _ _ _ _ _ hb0).mono ?_
              rintro e w7 ⟨rfl, hb7⟩
              (try go_wp2_with fail)
              refine hK.out _ _ ?_ (fun hHeld2 => ?_)
              · exact HS.out _ hb7
              clear hK K hHeld
              have hHeld := hHeld2
              clear hHeld2
              try simp only [Act.put, List.setIfInBounds_toArray, List.set_cons_zero, List.set_cons_succ]
              refine wpAnyH_take (i := 15) (v := ?v15) (by simp only [List.getElem?_toArray, List.getElem?_cons_succ, List.getElem?_cons_zero]; rfl) (by kernel_rfl) (by kernel_rfl) (by kernel_rfl) (by exact fun _ _ _ h => h) (Or.inl ⟨by rfl, ?y15⟩) (by assumption) ?_
              case y15 => (intro W9 hSw; (try dsimp only at hSw); go_simp; try (with_reducible rfl))
              try simp only [Act.put, List.setIfInBounds_toArray, List.set_cons_zero, List.set_cons_succ]
              refine wpAnyH_take (i := 16) (v := ?v16) (by simp only [List.getElem?_toArray, List.getElem?_cons_succ, List.getElem?_cons_zero]; rfl) (by kernel_rfl) (by kernel_rfl) (by kernel_rfl) (by exact fun _ _ _ h => h) (Or.inl ⟨by rfl, ?y16⟩) (by assumption) ?_
              case y16 => (intro W9 hSw; (try dsimp only at hSw); go_simp; try (with_reducible rfl))
              try simp only [Act.put, List.setIfInBounds_toArray, List.set_cons_zero, List.set_cons_succ]
              refine wpAnyH_take (i := 17) (v := ?v17) (by simp only [List.getElem?_toArray, List.getElem?_cons_succ, List.getElem?_cons_zero]; rfl) (by kernel_rfl) (by kernel_rfl) (by kernel_rfl) (by exact fun _ _ _ h => h) (Or.inl ⟨by rfl, ?y17⟩) (by assumption) ?_
              case y17 => (intro W9 hSw; (try dsimp only at hSw); go_simp; try (with_reducible rfl))
              try simp only [Act.put, List.setIfInBounds_toArray, List.set_cons_zero, List.set_cons_succ]
              refine wpAnyH_take (i := 18) (v := ?v18) (by simp only [List.getElem?_toArray, List.getElem?_cons_succ, List.getElem?_cons_zero]; rfl) (by kernel_rfl) (by kernel_rfl) (by kernel_rfl) (by exact fun _ _ _ h => h) (Or.inl ⟨by rfl, ?y18⟩) (by assumption) ?_
              case y18 => (intro W9 hSw; (try dsimp only at hSw); go_simp; try (with_reducible rfl))
              try simp only [Act.put, List.setIfInBounds_toArray, List.set_cons_zero, List.set_cons_succ]
              refine wpAnyH_take (i := 19) (v := ?v19) (by simp only [List.getElem?_toArray, List.getElem?_cons_succ, List.getElem?_cons_zero]; rfl) (by kernel_rfl) (by kernel_rfl) (by kernel_rfl) (by exact fun _ _ _ h => h) (Or.inl ⟨by rfl, ?y19⟩) (by assumption) ?_
              case y19 => (intro W9 hSw; (try dsimp only at hSw); go_simp; try (with_reducible rfl))
              try simp only [Act.put, List.setIfInBounds_toArray, List.set_cons_zero, List.set_cons_succ]
              refine wpAnyH_take (i := 20) (v := ?v20) (by simp only [List.getElem?_toArray, List.getElem?_cons_succ, List.getElem?_cons_zero]; rfl) (by kernel_rfl) (by kernel_rfl) (by kernel_rfl) (by exact fun _ _ _ h => h) (Or.inl ⟨by rfl, ?y20⟩) (by assumption) ?_
              case y20 => (intro W9 hSw; (try dsimp only at hSw); go_simp; try (with_reducible rfl))
              try simp only [Act.put, List.setIfInBounds_toArray, List.set_cons_zero, List.set_cons_succ]
              refine wpAnyH_take (i := 21) (v := ?v21) (by simp only [List.getElem?_toArray, List.getElem?_cons_succ, List.getElem?_cons_zero]; rfl) (by kernel_rfl) (by kernel_rfl) (by kernel_rfl) (by exact fun _ _ _ h => h) (Or.inl ⟨by rfl, ?y21⟩) (by assumption) ?_
              case y21 => (intro W9 hSw; (try dsimp only at hSw); go_simp; try (with_reducible rfl))
              try simp only [Act.put, List.setIfInBounds_toArray, List.set_cons_zero, List.set_cons_succ]
              refine wpAnyH_take (i := 22) (v := ?v22) (by simp only [List.getElem?_toArray, List.getElem?_cons_succ, List.getElem?_cons_zero]; rfl) (by kernel_rfl) (by kernel_rfl) (by kernel_rfl) (by exact fun _ _ _ h => h) (Or.inl ⟨by rfl, ?y22⟩) (by assumption) ?_
              case y22 => (intro W9 hSw; (try dsimp only at hSw); go_simp; try (with_reducible rfl))
              try simp only [Act.put, List.setIfInBounds_toArray, List.set_cons_zero, List.set_cons_succ]
              refine wpAnyH_ready (rs := [23]) (by kernel_rfl) (by simp) ?_
              refine AllReadyH.cons (by simp only [List.getElem?_toArray, List.getElem?_cons_succ, List.getElem?_cons_zero]; rfl) (fun K hK => ?_) AllReadyH.nil
              go_simp
              go_at_call 4
              refine (CP.out _ _ _ _ _ hb7).mono ?_
              rintro e w8 ⟨rfl, hb8⟩
              (try go_wp2_with fail)
              refine hK.out _ _ ?_ (fun hHeld2 => ?_)
              · exact HS.out _ hb8
              clear hK K hHeld
              have hHeld := hHeld2
              clear hHeld2
              try simp only [Act.put, List.setIfInBounds_toArray, List.set_cons_zero, List.set_cons_succ]
              refine wpAnyH_take (i := 24) (v := ?v24) (by simp only [List.getElem?_toArray, List.getElem?_cons_succ, List.getElem?_cons_zero]; rfl) (by kernel_rfl) (by kernel_rfl) (by kernel_rfl) (by exact fun _ _ _ h => h) (Or.inl ⟨by rfl, ?y24⟩) (by assumption) ?_
              case y24 => (intro W9 hSw; (try dsimp only at hSw); go_simp; try (with_reducible rfl))
              try simp only [Act.put, List.setIfInBounds_toArray, List.set_cons_zero, List.set_cons_succ]
              refine wpAnyH_take (i := 25) (v := ?v25) (by simp only [List.getElem?_toArray, List.getElem?_cons_succ, List.getElem?_cons_zero]; rfl) (by kernel_rfl) (by kernel_rfl) (by kernel_rfl) (by exact fun _ _ _ h => h) (Or.inl ⟨by rfl, ?y25⟩) (by assumption) ?_
              case y25 => (intro W9 hSw; (try dsimp only at hSw); go_simp; try (with_reducible rfl))
              try simp only [Act.put, List.setIfInBounds_toArray, List.set_cons_zero, List.set_cons_succ]
              refine wpAnyH_done (by kernel_rfl) ?_ _
              have HC8 : Hid (Below wc.heap.size wc w8) := hb8
              clear hHeld hb8 hb7 HS CP HY HV
              go_wp2
              go_roundw
              case rel => exact ⟨n + 1, by go_num, by omega, HC.out.ins.below HC8.out HC.out.ins.lt, HC.out.ends.below HC8.out HC.out.ends.lt, HC.out.below.trans (HC8.out.mono HC.out.below.size)⟩
              case measure => simp [intOf]; omega
        · have hlt' : ¬ (n : Int) < 80 := by omega
          go_wp2
          go_roundw
          case rel => exact ⟨i + 1, by go_num, by omega, by omega, HE2.out, HB2.out⟩
          case measure => simp [intOf]; omega
    · go_wp2
      go_loopw [6] (fun k w3 => ∃ n : Nat, k = .int .i64 n ∧ n ≤ 400 ∧ Below w.heap.size w w3) (fun k _ => 400 - (intOf k).toNat)
      case atStart => exact ⟨0, rfl, by omega, HB.out⟩
      case round =>
        obtain ⟨n, rfl, hn, hB⟩ := hrel
        have HB := Lib.hid hB
        clear hB HE
        by_cases hlt2 : n < 400
        · have hlt' : (n : Int) < 400 := by omega
          have hn0 : (0 : Int) ≤ n := by omega
          go_wp2_with fail
          refine (set_any' _ _).mono ?_
          rintro e w2 ⟨rfl, hb2⟩
          have hR0 : Hid (Blk ((w2.alloc (.cells (insC (setI (1 + (n : Int) % 2)) none 0) 25)).alloc (.cells #[.slice (some ⟨w2.heap.size, 0, none⟩) 1 1, .int .i64 (1 + (n : Int) % 4), .int .i64 ((n : Int) % 3), .int .i64 ((n : Int) % 5 - 1), .int .i64 ((n : Int) / 5 % 4)] 34)) w2.heap.size 25 (insC (setI (1 + (n : Int) % 2)) none 0)) := (Blk.new w2 _ _).alloc _
          have hT0 : Hid (Blk ((w2.alloc (.cells (insC (setI (1 + (n : Int) % 2)) none 0) 25)).alloc (.cells #[.slice (some ⟨w2.heap.size, 0, none⟩) 1 1, .int .i64 (1 + (n : Int) % 4), .int .i64 ((n : Int) % 3), .int .i64 ((n : Int) % 5 - 1), .int .i64 ((n : Int) / 5 % 4)] 34)) (w2.heap.size + 1) 34 #[.slice (some ⟨w2.heap.size, 0, none⟩) 1 1, .int .i64 (1 + (n : Int) % 4), .int .i64 ((n : Int) % 3), .int .i64 ((n : Int) % 5 - 1), .int .i64 ((n : Int) / 5 % 4)]) := by
            have := Blk.new (w2.alloc (.cells (insC (setI (1 + (n : Int) % 2)) none 0) 25)) 34 #[.slice (some ⟨w2.heap.size, 0, none⟩) 1 1, .int .i64 (1 + (n : Int) % 4), .int .i64 ((n : Int) % 3), .int .i64 ((n : Int) % 5 - 1), .int .i64 ((n : Int) / 5 % 4)]
            rw [show (w2.alloc (.cells (insC (setI (1 + (n : Int) % 2)) none 0) 25)).heap.size = w2.heap.size + 1 by simp] at this
            exact this
          have hB0 : Hid (Below w.heap.size w ((w2.alloc (.cells (insC (setI (1 + (n : Int) % 2)) none 0) 25)).alloc (.cells #[.slice (some ⟨w2.heap.size, 0, none⟩) 1 1, .int .i64 (1 + (n : Int) % 4), .int .i64 ((n : Int) % 3), .int .i64 ((n : Int) % 5 - 1), .int .i64 ((n : Int) / 5 % 4)] 34))) := by
            have h1 : Below w.heap.size w w2 := HB.out.trans (hb2.mono HB.out.size)
            exact (h1.alloc h1.size _).alloc (h1.alloc h1.size _).size _
          have hIC : Hid (insC (setI (1 + (n : Int) % 2)) none 0 = #[.int .i64 1, .int .i64 (1 + (n : Int) % 2), .int .i64 0, .int .i64 0, .int .i64 0, .int .i64 0, .slice none 0 0, .int .i64 0]) := rfl
          rw [hIC.out] at hB0 hT0 hR0
          clear hb2 HB
          go_upto_region 44 with fail
          change Code.wp _ _ _ _ (World.alloc _ _)
          generalize (w2.alloc (.cells #[.int .i64 1, .int .i64 (1 + (n : Int) % 2), .int .i64 0, .int .i64 0, .int .i64 0, .int .i64 0, .slice none 0 0, .int .i64 0] 25)).alloc (.cells #[.slice (some ⟨w2.heap.size, 0, none⟩) 1 1, .int .i64 (1 + (n : Int) % 4), .int .i64 ((n : Int) % 3), .int .i64 ((n : Int) % 5 - 1), .int .i64 ((n : Int) / 5 % 4)] 34) = W0 at hB0 hT0 hR0 ⊢
          have HS : Hid (∀ W, Below W0.heap.size W0 W → Below W0.heap.size W0 W ∧ W.cell? ⟨w2.heap.size + 1, 0, none⟩ = some (.slice (some ⟨w2.heap.size, 0, none⟩) 1 1) ∧ W.cell? ⟨w2.heap.size + 1, 1, none⟩ = some (.int .i64 (1 + (n : Int) % 4)) ∧ W.cell? ⟨w2.heap.size + 1, 2, none⟩ = some (.int .i64 ((n : Int) % 3)) ∧ W.cell? ⟨w2.heap.size + 1, 3, none⟩ = some (.int .i64 ((n : Int) % 5 - 1)) ∧ W.cell? ⟨w2.heap.size + 1, 4, none⟩ = some (.int .i64 ((n : Int) / 5 % 4))) := fun W h => by
            have hb := hT0.out.below h hT0.out.lt
            exact ⟨h, hb.cell 0, hb.cell 1, hb.cell 2, hb.cell 3, hb.cell 4⟩
          have CP : Hid (∀ (v : Int) W, Below W0.heap.size W0 W → Calls Tryz.prog 5 #[.int .i64 v] W fun e w' => e = .returned (.agg #[.int .i64 1, .int .i64 v, .int .i64 0, .int .i64 0, .int .i64 0, .int .i64 0, .slice none 0 0, .int .i64 0]) ∧ Below W0.heap.size W0 w' ∧ Hid (Below W.heap.size W w')) := fun v W h =>
            (set_any' v W).mono fun e w' ⟨h1, h2⟩ => ⟨h1, h.trans (h2.mono h.size), h2⟩
          have hb0 := (Below.refl W0.heap.size W0).drew
          go_cut [8] from 158 to 188 (fun v8 wx => IsFull wx W0.heap.size v8 ∧ Below W0.heap.size W0 wx)
          case first =>
            refine wp_region_noPanic ?_
            refine wp_region_held_drew (S := (fun W => Below W0.heap.size W0 W ∧ W.cell? ⟨w2.heap.size + 1, 0, none⟩ = some (.slice (some ⟨w2.heap.size, 0, none⟩) 1 1) ∧ W.cell? ⟨w2.heap.size + 1, 1, none⟩ = some (.int .i64 (1 + (n : Int) % 4)) ∧ W.cell? ⟨w2.heap.size + 1, 2, none⟩ = some (.int .i64 ((n : Int) % 3)) ∧ W.cell? ⟨w2.heap.size + 1, 3, none⟩ = some (.int .i64 ((n : Int) % 5 - 1)) ∧ W.cell? ⟨w2.heap.size + 1, 4, none⟩ = some (.int .i64 ((n : Int) / 5 % 4)))) (by kernel_rfl) ?_ (fun hHeld => ?_)
            · exact HS.out _ hb0
            refine wpAnyH_take (i := 1) (v := ?vb1) (by simp only [List.getElem?_toArray, List.getElem?_cons_succ, List.getElem?_cons_zero]; rfl) (by kernel_rfl) (by kernel_rfl) (by kernel_rfl) (by exact fun _ _ _ h => h) (Or.inl ⟨by rfl, ?yb1⟩) (by assumption) ?_
            case yb1 => (intro W9 hSw; (try dsimp only at hSw); go_simp; try (with_reducible rfl))
            try simp only [Act.put, List.setIfInBounds_toArray, List.set_cons_zero, List.set_cons_succ]
            refine wpAnyH_take (i := 2) (v := ?vb2) (by simp only [List.getElem?_toArray, List.getElem?_cons_succ, List.getElem?_cons_zero]; rfl) (by kernel_rfl) (by kernel_rfl) (by kernel_rfl) (by exact fun _ _ _ h => h) (Or.inl ⟨by rfl, ?yb2⟩) (by assumption) ?_
            case yb2 => (intro W9 hSw; (try dsimp only at hSw); go_simp; try (with_reducible rfl))
            try simp only [Act.put, List.setIfInBounds_toArray, List.set_cons_zero, List.set_cons_succ]
            refine wpAnyH_take (i := 3) (v := ?vb3) (by simp only [List.getElem?_toArray, List.getElem?_cons_succ, List.getElem?_cons_zero]; rfl) (by kernel_rfl) (by kernel_rfl) (by kernel_rfl) (by exact fun _ _ _ h => h) (Or.inl ⟨by rfl, ?yb3⟩) (by assumption) ?_
            case yb3 => (intro W9 hSw; (try dsimp only at hSw); go_simp; try (with_reducible rfl))
            try simp only [Act.put, List.setIfInBounds_toArray, List.set_cons_zero, List.set_cons_succ]
            refine wpAnyH_take (i := 4) (v := ?vb4) (by simp only [List.getElem?_toArray, List.getElem?_cons_succ, List.getElem?_cons_zero]; rfl) (by kernel_rfl) (by kernel_rfl) (by kernel_rfl) (by exact fun _ _ _ h => h) (Or.inl ⟨by rfl, ?yb4⟩) (by assumption) ?_
            case yb4 => (intro W9 hSw; (try dsimp only at hSw); go_simp; try (with_reducible rfl))
            try simp only [Act.put, List.setIfInBounds_toArray, List.set_cons_zero, List.set_cons_succ]
            refine wpAnyH_take (i := 7) (v := ?vb7) (by simp only [List.getElem?_toArray, List.getElem?_cons_succ, List.getElem?_cons_zero]; rfl) (by kernel_rfl) (by kernel_rfl) (by kernel_rfl) (by exact fun _ _ _ h => h) (Or.inl ⟨by rfl, ?yb7⟩) (by assumption) ?_
            case yb7 => (intro W9 hSw; (try dsimp only at hSw); go_simp; try (with_reducible rfl))
            try simp only [Act.put, List.setIfInBounds_toArray, List.set_cons_zero, List.set_cons_succ]
            refine wpAnyH_take (i := 8) (v := ?vb8) (by simp only [List.getElem?_toArray, List.getElem?_cons_succ, List.getElem?_cons_zero]; rfl) (by kernel_rfl) (by kernel_rfl) (by kernel_rfl) (by exact fun _ _ _ h => h) (Or.inl ⟨by rfl, ?yb8⟩) (by assumption) ?_
            case yb8 => (intro W9 hSw; (try dsimp only at hSw); go_simp; try (with_reducible rfl))
            try simp only [Act.put, List.setIfInBounds_toArray, List.set_cons_zero, List.set_cons_succ]
            refine wpAnyH_take (i := 9) (v := ?vb9) (by simp only [List.getElem?_toArray, List.getElem?_cons_succ, List.getElem?_cons_zero]; rfl) (by kernel_rfl) (by kernel_rfl) (by kernel_rfl) (by exact fun _ _ _ h => h) (Or.inl ⟨by rfl, ?yb9⟩) (by assumption) ?_
            case yb9 => (intro W9 hSw; (try dsimp only at hSw); go_simp; try (with_reducible rfl))
            try simp only [Act.put, List.setIfInBounds_toArray, List.set_cons_zero, List.set_cons_succ]
            refine wpAnyH_take (i := 10) (v := ?vb10) (by simp only [List.getElem?_toArray, List.getElem?_cons_succ, List.getElem?_cons_zero]; rfl) (by kernel_rfl) (by kernel_rfl) (by kernel_rfl) (by exact fun _ _ _ h => h) (Or.inl ⟨by rfl, ?yb10⟩) (by assumption) ?_
            case yb10 => (intro W9 hSw; (try dsimp only at hSw); go_simp; try (with_reducible rfl))
            try simp only [Act.put, List.setIfInBounds_toArray, List.set_cons_zero, List.set_cons_succ]
            refine wpAnyH_take (i := 11) (v := ?vb11) (by simp only [List.getElem?_toArray, List.getElem?_cons_succ, List.getElem?_cons_zero]; rfl) (by kernel_rfl) (by kernel_rfl) (by kernel_rfl) (by exact fun _ _ _ h => h) (Or.inl ⟨by rfl, ?yb11⟩) (by assumption) ?_
            case yb11 => (intro W9 hSw; (try dsimp only at hSw); go_simp; try (with_reducible rfl))
            try simp only [Act.put, List.setIfInBounds_toArray, List.set_cons_zero, List.set_cons_succ]
            refine wpAnyH_take (i := 12) (v := ?vb12) (by simp only [List.getElem?_toArray, List.getElem?_cons_succ, List.getElem?_cons_zero]; rfl) (by kernel_rfl) (by kernel_rfl) (by kernel_rfl) (by exact fun _ _ _ h => h) (Or.inl ⟨by rfl, ?yb12⟩) (by assumption) ?_
            case yb12 => (intro W9 hSw; (try dsimp only at hSw); go_simp; try (with_reducible rfl))
            try simp only [Act.put, List.setIfInBounds_toArray, List.set_cons_zero, List.set_cons_succ]
            refine wpAnyH_take (i := 13) (v := ?vb13) (by simp only [List.getElem?_toArray, List.getElem?_cons_succ, List.getElem?_cons_zero]; rfl) (by kernel_rfl) (by kernel_rfl) (by kernel_rfl) (by exact fun _ _ _ h => h) (Or.inl ⟨by rfl, ?yb13⟩) (by assumption) ?_
            case yb13 => (intro W9 hSw; (try dsimp only at hSw); go_simp; try (with_reducible rfl))
            try simp only [Act.put, List.setIfInBounds_toArray, List.set_cons_zero, List.set_cons_succ]
            refine wpAnyH_take (i := 14) (v := ?vb14) (by simp only [List.getElem?_toArray, List.getElem?_cons_succ, List.getElem?_cons_zero]; rfl) (by kernel_rfl) (by kernel_rfl) (by kernel_rfl) (by exact fun _ _ _ h => h) (Or.inl ⟨by rfl, ?yb14⟩) (by assumption) ?_
            case yb14 => (intro W9 hSw; (try dsimp only at hSw); go_simp; try (with_reducible rfl))
            try simp only [Act.put, List.setIfInBounds_toArray, List.set_cons_zero, List.set_cons_succ]
            refine wpAnyH_take (i := 15) (v := ?vb15) (by simp only [List.getElem?_toArray, List.getElem?_cons_succ, List.getElem?_cons_zero]; rfl) (by kernel_rfl) (by kernel_rfl) (by kernel_rfl) (by exact fun _ _ _ h => h) (Or.inl ⟨by rfl, ?yb15⟩) (by assumption) ?_
            case yb15 => (intro W9 hSw; (try dsimp only at hSw); go_simp; try (with_reducible rfl))
            try simp only [Act.put, List.setIfInBounds_toArray, List.set_cons_zero, List.set_cons_succ]
            refine wpAnyH_take (i := 17) (v := ?vb17) (by simp only [List.getElem?_toArray, List.getElem?_cons_succ, List.getElem?_cons_zero]; rfl) (by kernel_rfl) (by kernel_rfl) (by kernel_rfl) (by exact fun _ _ _ h => h) (Or.inl ⟨by rfl, ?yb17⟩) (by assumption) ?_
            case yb17 => (intro W9 hSw; (try dsimp only at hSw); go_simp; try (with_reducible rfl))
            try simp only [Act.put, List.setIfInBounds_toArray, List.set_cons_zero, List.set_cons_succ]
            refine wpAnyH_take (i := 18) (v := ?vb18) (by simp only [List.getElem?_toArray, List.getElem?_cons_succ, List.getElem?_cons_zero]; rfl) (by kernel_rfl) (by kernel_rfl) (by kernel_rfl) (by exact fun _ _ _ h => h) (Or.inl ⟨by rfl, ?yb18⟩) (by assumption) ?_
            case yb18 => (intro W9 hSw; (try dsimp only at hSw); go_simp; try (with_reducible rfl))
            try simp only [Act.put, List.setIfInBounds_toArray, List.set_cons_zero, List.set_cons_succ]
            refine wpAnyH_take (i := 19) (v := ?vb19) (by simp only [List.getElem?_toArray, List.getElem?_cons_succ, List.getElem?_cons_zero]; rfl) (by kernel_rfl) (by kernel_rfl) (by kernel_rfl) (by exact fun _ _ _ h => h) (Or.inl ⟨by rfl, ?yb19⟩) (by assumption) ?_
            case yb19 => (intro W9 hSw; (try dsimp only at hSw); go_simp; try (with_reducible rfl))
            try simp only [Act.put, List.setIfInBounds_toArray, List.set_cons_zero, List.set_cons_succ]
            refine wpAnyH_take (i := 20) (v := ?vb20) (by simp only [List.getElem?_toArray, List.getElem?_cons_succ, List.getElem?_cons_zero]; rfl) (by kernel_rfl) (by kernel_rfl) (by kernel_rfl) (by exact fun _ _ _ h => h) (Or.inl ⟨by rfl, ?yb20⟩) (by assumption) ?_
            case yb20 => (intro W9 hSw; (try dsimp only at hSw); go_simp; try (with_reducible rfl))
            try simp only [Act.put, List.setIfInBounds_toArray, List.set_cons_zero, List.set_cons_succ]
            refine wpAnyH_take (i := 21) (v := ?vb21) (by simp only [List.getElem?_toArray, List.getElem?_cons_succ, List.getElem?_cons_zero]; rfl) (by kernel_rfl) (by kernel_rfl) (by kernel_rfl) (by exact fun _ _ _ h => h) (Or.inl ⟨by rfl, ?yb21⟩) (by assumption) ?_
            case yb21 => (intro W9 hSw; (try dsimp only at hSw); go_simp; try (with_reducible rfl))
            try simp only [Act.put, List.setIfInBounds_toArray, List.set_cons_zero, List.set_cons_succ]
            refine wpAnyH_take (i := 22) (v := ?vb22) (by simp only [List.getElem?_toArray, List.getElem?_cons_succ, List.getElem?_cons_zero]; rfl) (by kernel_rfl) (by kernel_rfl) (by kernel_rfl) (by exact fun _ _ _ h => h) (Or.inl ⟨by rfl, ?yb22⟩) (by assumption) ?_
            case yb22 => (intro W9 hSw; (try dsimp only at hSw); go_simp; try (with_reducible rfl))
            try simp only [Act.put, List.setIfInBounds_toArray, List.set_cons_zero, List.set_cons_succ]
            refine wpAnyH_take (i := 23) (v := ?vb23) (by simp only [List.getElem?_toArray, List.getElem?_cons_succ, List.getElem?_cons_zero]; rfl) (by kernel_rfl) (by kernel_rfl) (by kernel_rfl) (by exact fun _ _ _ h => h) (Or.inl ⟨by rfl, ?yb23⟩) (by assumption) ?_
            case yb23 => (intro W9 hSw; (try dsimp only at hSw); go_simp; try (with_reducible rfl))
            try simp only [Act.put, List.setIfInBounds_toArray, List.set_cons_zero, List.set_cons_succ]
            refine wpAnyH_take (i := 26) (v := ?vb26) (by simp only [List.getElem?_toArray, List.getElem?_cons_succ, List.getElem?_cons_zero]; rfl) (by kernel_rfl) (by kernel_rfl) (by kernel_rfl) (by exact fun _ _ _ h => h) (Or.inl ⟨by rfl, ?yb26⟩) (by assumption) ?_
            case yb26 => (intro W9 hSw; (try dsimp only at hSw); go_simp; try (with_reducible rfl))
            try simp only [Act.put, List.setIfInBounds_toArray, List.set_cons_zero, List.set_cons_succ]
            refine wpAnyH_take (i := 27) (v := ?vb27) (by simp only [List.getElem?_toArray, List.getElem?_cons_succ, List.getElem?_cons_zero]; rfl) (by kernel_rfl) (by kernel_rfl) (by kernel_rfl) (by exact fun _ _ _ h => h) (Or.inl ⟨by rfl, ?yb27⟩) (by assumption) ?_
            case yb27 => (intro W9 hSw; (try dsimp only at hSw); go_simp; try (with_reducible rfl))
            try simp only [Act.put, List.setIfInBounds_toArray, List.set_cons_zero, List.set_cons_succ]
            refine wpAnyH_facts (F44 w2.heap.size) (J44 W0) ⟨Nat.le_of_ble_eq_true rfl, ⟨_, rfl⟩, ⟨_, _, _, _, rfl⟩, ⟨_, _, _, _, rfl⟩, ⟨_, _, _, _, rfl⟩, ⟨_, rfl⟩, ⟨_, _, _, _, rfl⟩⟩ (by decide +kernel) (by decide +kernel) ⟨Fr.refl _ _, hHeld.1, ⟨by decide +kernel, fun h => absurd h (by decide +kernel), fun h => absurd h (by decide +kernel), fun h => absurd h (by decide +kernel), fun h => absurd h (by decide +kernel), fun h => absurd h (by decide +kernel), fun h => absurd h (by decide +kernel), fun h => absurd h (by decide +kernel), fun h => absurd h (by decide +kernel), fun h => absurd h (by decide +kernel), fun h => absurd h (by decide +kernel), fun h => absurd h (by decide +kernel), fun h => absurd h (by decide +kernel)⟩⟩ ?_ ?_ ?_
            · intro a0 hF l a' w' hsz hJ i hi
              obtain ⟨hFr, hB', hM⟩ := id hJ
              obtain ⟨hi1, hi2, hi3⟩ := ready_bits hsz hi
              have hU : i = 0 ∨ i = 5 ∨ i = 6 ∨ i = 16 ∨ i = 24 ∨ i = 25 ∨ i = 28 ∨ i = 29 ∨ i = 30 ∨ i = 31 ∨ i = 32 := by
                have hD : ¬ i ∈ [1, 2, 3, 4, 7, 8, 9, 10, 11, 12, 13, 14, 15, 17, 18, 19, 20, 21, 22, 23, 26, 27] := fun h => by have := hM.done i h; rw [hi2] at this; cases this
                simp only [List.mem_cons, List.not_mem_nil, or_false] at hD
                have hi4 : i < 33 := hi1
                omega
              clear hi hi1 hsz
              rcases hU with rfl | rfl | rfl | rfl | rfl | rfl | rfl | rfl | rfl | rfl | rfl
              · refine op_step (o := _) rfl (fun K hK => ?_)
                go_simp
                refine hK.out _ _ ?_
                exact hJ.put0 hF.size (StA.alloc _ _) (bel_alloc hB' _) ⟨3, _, rfl, Blk.new _ _ _⟩
              · obtain ⟨v, hv⟩ := hF.s162
                have fv : a'.tmps.getD 162 undef = .int .i64 v := (hFr.at (by decide)).trans hv
                refine op_step (o := _) rfl (fun K hK => ?_)
                go_simp
                refine (CP.out _ _ hB').mono ?_
                rintro e w7 ⟨rfl, hb7, hl7⟩
                (try go_wp2_with fail)
                refine hK.out _ _ ?_
                exact hJ.put5 hF.size (StA.below hl7.out) hb7 ⟨v, rfl⟩
              · have d5 : l[5]? = some true := hi3 _ rfl ⟨5, .data⟩ (by simp) rfl
                obtain ⟨v, hv⟩ := hM.p5 d5
                have fv : a'.tmps.getD 163 undef = .agg #[.int .i64 1, .int .i64 v, .int .i64 0, .int .i64 0, .int .i64 0, .int .i64 0, .slice none 0 0, .int .i64 0] := hv
                clear hv
                rw [Array.getD_eq_getD_getElem?] at fv
                refine op_step (o := _) rfl (fun K hK => ?_)
                go_simp
                refine hK.out _ _ ?_
                exact hJ.put6 hF.size (StA.alloc _ _) (bel_alloc hB' _) ⟨v, _, rfl, Blk.new _ _ _⟩
              · have d6 : l[6]? = some true := hi3 _ rfl ⟨6, .data⟩ (by simp) rfl
                obtain ⟨v, g, hy, hb⟩ := hM.p6 d6
                obtain ⟨k, p, b, c, h1⟩ := hF.s173
                have fv : a'.tmps.getD 173 undef = .agg #[.int .i64 k, .int .i64 p, .int .i64 b, .int .i64 c] := (hFr.at (by decide)).trans h1
                clear h1
                rw [Array.getD_eq_getD_getElem?] at fv hy
                refine op_step (o := _) rfl (fun K hK => ?_)
                go_simp
                refine hK.out _ _ ?_
                exact hJ.put16 hF.size (StA.refl _) hB' ⟨_, _, _, _, _, rfl, .inl ⟨v, g, rfl, hb⟩⟩
              · obtain ⟨v, hv⟩ := hF.s181
                have fv : a'.tmps.getD 181 undef = .int .i64 v := (hFr.at (by decide)).trans hv
                refine op_step (o := _) rfl (fun K hK => ?_)
                go_simp
                refine (CP.out _ _ hB').mono ?_
                rintro e w7 ⟨rfl, hb7, hl7⟩
                (try go_wp2_with fail)
                refine hK.out _ _ ?_
                exact hJ.put24 hF.size (StA.below hl7.out) hb7 ⟨v, rfl⟩
              · have d24 : l[24]? = some true := hi3 _ rfl ⟨24, .data⟩ (by simp) rfl
                obtain ⟨v, hv⟩ := hM.p24 d24
                have fv : a'.tmps.getD 182 undef = .agg #[.int .i64 1, .int .i64 v, .int .i64 0, .int .i64 0, .int .i64 0, .int .i64 0, .slice none 0 0, .int .i64 0] := hv
                clear hv
                rw [Array.getD_eq_getD_getElem?] at fv
                refine op_step (o := _) rfl (fun K hK => ?_)
                go_simp
                refine hK.out _ _ ?_
                exact hJ.put25 hF.size (StA.alloc _ _) (bel_alloc hB' _) ⟨v, _, rfl, Blk.new _ _ _⟩
              · have d25 : l[25]? = some true := hi3 _ rfl ⟨25, .data⟩ (by simp) rfl
                obtain ⟨v, g, hy, hb⟩ := hM.p25 d25
                obtain ⟨k, p, b, c, h1⟩ := hF.s185
                have fv : a'.tmps.getD 185 undef = .agg #[.int .i64 k, .int .i64 p, .int .i64 b, .int .i64 c] := (hFr.at (by decide)).trans h1
                clear h1
                rw [Array.getD_eq_getD_getElem?] at fv hy
                refine op_step (o := _) rfl (fun K hK => ?_)
                go_simp
                refine hK.out _ _ ?_
                exact hJ.put28 hF.size (StA.refl _) hB' ⟨_, _, _, _, _, rfl, .inl ⟨v, g, rfl, hb⟩⟩
              · have d16 : l[16]? = some true := hi3 _ rfl ⟨16, .data⟩ (by simp) rfl
                have d28 : l[28]? = some true := hi3 _ rfl ⟨28, .data⟩ (by simp) rfl
                obtain ⟨r0, k0, e0, f0, g0, y0, hr0⟩ := hM.p16 d16
                obtain ⟨r3, k3, e3, f3, g3, y3, hr3⟩ := hM.p28 d28
                obtain ⟨k175, p175, b175, c175, h175⟩ := hF.s175
                have fv175 : a'.tmps.getD 175 undef = .agg #[.slice (some ⟨w2.heap.size, 0, none⟩) 1 1, .int .i64 k175, .int .i64 p175, .int .i64 b175, .int .i64 c175] := (hFr.at (by decide)).trans h175
                clear h175
                obtain ⟨k179, p179, b179, c179, h179⟩ := hF.s179
                have fv179 : a'.tmps.getD 179 undef = .agg #[.slice none 0 0, .int .i64 k179, .int .i64 p179, .int .i64 b179, .int .i64 c179] := (hFr.at (by decide)).trans h179
                clear h179
                rw [Array.getD_eq_getD_getElem?] at fv175 fv179 y0 y3
                have hT9 := (hR0.out.below hB' hR0.out.lt)
                refine op_step (o := _) rfl (fun K hK => ?_)
                go_simp
                refine hK.out _ _ ?_
                exact hJ.put29 hF.size (StA.alloc _ _) (bel_alloc hB' _) ⟨_, _, _, _, _, _, _, _, _, _, _, _, _, _, _, _, _, _, _, _, _, rfl, Blk.new _ _ _, hr0.st (StF.alloc _ _), .inl ⟨_, _, rfl, hT9.alloc _⟩, .inr rfl, hr3.st (StF.alloc _ _)⟩
              · have d0 : l[0]? = some true := hi3 _ rfl ⟨0, .data⟩ (by simp) rfl
                have d29 : l[29]? = some true := hi3 _ rfl ⟨29, .data⟩ (by simp) rfl
                obtain ⟨p, g, y0, hb⟩ := hM.p0 d0
                have q29 := hM.p29 d29
                obtain ⟨gf, r0, r1, r2, r3, k0, a0', b0, c0, k1, a1, b1, c1, k2, a2, b2, c2, k3, a3, b3, c3, y29, hrest⟩ := id q29
                rw [y29] at q29
                clear hrest
                rw [Array.getD_eq_getD_getElem?] at y0 y29
                refine op_step (o := _) rfl (fun K hK => ?_)
                go_simp
                refine hK.out _ _ ?_
                exact hJ.put30 hF.size (StA.refl _) hB' ⟨_, _, rfl, ⟨p, g, rfl, hb⟩, q29⟩
              · refine op_step (o := _) rfl (fun K hK => ?_)
                go_simp
                refine hK.out _ _ ?_
                exact hJ.put31 hF.size (StA.alloc _ _) (bel_alloc hB' _) ⟨_, _, _, rfl, Blk.new _ _ _, hB'.size⟩ hi2
              · have d30 : l[30]? = some true := hi3 _ rfl ⟨30, .data⟩ (by simp) rfl
                have d31 : l[31]? = some true := hi3 _ rfl ⟨31, .data⟩ (by simp) rfl
                obtain ⟨r, s, y30, hpr, hfr⟩ := hM.p30 d30
                obtain ⟨p, gp, rfl, hpb⟩ := hpr
                have hfr2 := hfr
                obtain ⟨gf, r0, r1, r2, r3, k0, a0', b0, c0, k1, a1, b1, c1, k2, a2, b2, c2, k3, a3, b3, c3, rfl, hrest⟩ := hfr
                clear hrest
                obtain ⟨X, c, d, y31, hbx, hX⟩ := hM.p31 d31
                have c0 := hbx.cell 0
                have c1 := hbx.cell 1
                have f0 := hbx.free 0
                have f1 := hbx.free 1
                have hlt := hbx.lt
                simp only [List.getElem?_toArray, List.getElem?_cons_zero, List.getElem?_cons_succ] at c0 c1
                refine op_step (o := _) rfl (fun K hK => ?_)
                go_simp
                refine hK.out _ _ ?_
                exact ⟨hFr, (hB'.setCell (p := ⟨X, 0, none⟩) hX _).setCell (p := ⟨X, 1, none⟩) hX _, hM.put32 (StF.put hbx _ _) ⟨X, _, _, y31, (hbx.put 0 _).put 1 _, hX, IsPar.st ⟨p, gp, rfl, hpb⟩ (StF.put hbx _ _), hfr2.st (StF.put hbx _ _)⟩ d31⟩
            · exact fun a0 l a' w' hJ => HS.out _ hJ.2.1
            · intro l a' w' hsz hJ hr
              have hl := hJ.2.2.last (ready_all (by decide +kernel) hsz hr 32 (by decide))
              have hB' := hJ.2.1
              have he := hJ.1.eq
              unfold slots44 at he
              simp only [putsL] at he
              clear hJ hr hsz
              generalize a'.tmps.getD 8 undef = y8 at he hl
              generalize a'.tmps.getD 158 undef = y158 at he
              generalize a'.tmps.getD 163 undef = y163 at he
              generalize a'.tmps.getD 164 undef = y164 at he
              generalize a'.tmps.getD 174 undef = y174 at he
              generalize a'.tmps.getD 182 undef = y182 at he
              generalize a'.tmps.getD 183 undef = y183 at he
              generalize a'.tmps.getD 186 undef = y186 at he
              generalize a'.tmps.getD 187 undef = y187 at he
              generalize a'.tmps.getD 188 undef = y188 at he
              subst he
              simp only [Act.put, List.setIfInBounds_toArray, List.set_cons_zero, List.set_cons_succ]
              refine NoPanic.normal ?_
              go_wp2_with fail
              go_meet
              exact ⟨hl, hB'⟩
          case rest =>
            obtain ⟨hfull, hBc⟩ := hcut
            obtain ⟨X, r, s, rfl, hbx, hX, ⟨p, gp, rfl, hpb⟩, hfr⟩ := hfull
            obtain ⟨gf, l, rfl, hl4, hsm, hbl, hgf⟩ := four_blocks hfr
            have HB1 : Hid (Below w.heap.size w wc) := hB0.out.trans (hBc.mono hB0.out.size)
            have HX1 := Lib.hid hbx
            have HP1 := Lib.hid hpb
            have HL1 := Lib.hid hbl
            have HSM := Lib.hid hsm
            have hkn : (1 + (n : Int) % 4).toNat = 1 + n % 4 := by omega
            have hk0 : (0 : Int) ≤ 1 + (n : Int) % 4 := by omega
            have hk4 : 1 + (n : Int) % 4 ≤ 4 := by omega
            have c0 := hbx.cell 0
            have c1 := hbx.cell 1
            have hlt := hbx.lt
            simp only [List.getElem?_toArray, List.getElem?_cons_zero, List.getElem?_cons_succ] at c0 c1
            clear hBc hX hfr hsm hbl hbx hpb HS CP hb0 hR0 hT0 hB0
            have hbe : Below wc.heap.size wc ((wc.alloc (.cells #[.int .i64 ((n : Int) % 3), .int .i64 ((n : Int) / 3 % 3)] 3)).alloc (.cells #[.slice (some ⟨wc.heap.size, 0, none⟩) 2 2, .slice (some ⟨gf, 0, none⟩) (1 + n % 4) 4] 37)) := ((Below.refl _ wc).alloc (Nat.le_refl _) _).alloc (by simp) _
            have HQ : Hid (IntsW ((wc.alloc (.cells #[.int .i64 ((n : Int) % 3), .int .i64 ((n : Int) / 3 % 3)] 3)).alloc (.cells #[.slice (some ⟨wc.heap.size, 0, none⟩) 2 2, .slice (some ⟨gf, 0, none⟩) (1 + n % 4) 4] 37)) (some ⟨wc.heap.size, 0, none⟩) [(n : Int) % 3, (n : Int) / 3 % 3]) := IntsW.row ((Blk.new wc _ _).alloc _) (fun k x hx => by
              rcases k with _ | _ | k
              · simpa using hx
              · simpa using hx
              · simp at hx)
            have HY : Hid (Blk ((wc.alloc (.cells #[.int .i64 ((n : Int) % 3), .int .i64 ((n : Int) / 3 % 3)] 3)).alloc (.cells #[.slice (some ⟨wc.heap.size, 0, none⟩) 2 2, .slice (some ⟨gf, 0, none⟩) (1 + n % 4) 4] 37)) (wc.heap.size + 1) 37 #[.slice (some ⟨wc.heap.size, 0, none⟩) 2 2, .slice (some ⟨gf, 0, none⟩) (1 + n % 4) 4]) := by
              have := Blk.new (wc.alloc (.cells #[.int .i64 ((n : Int) % 3), .int .i64 ((n : Int) / 3 % 3)] 3)) 37 #[.slice (some ⟨wc.heap.size, 0, none⟩) 2 2, .slice (some ⟨gf, 0, none⟩) (1 + n % 4) 4]
              rw [show (wc.alloc (.cells #[.int .i64 ((n : Int) % 3), .int .i64 ((n : Int) / 3 % 3)] 3)).heap.size = wc.heap.size + 1 by simp] at this
              exact this
            have HBE := Lib.hid hbe
            have T1 := Lib.hid (tells_four hl4 HSM.out ((IntsW.row (l := [p]) HP1.out (fun k x hx => by
              rcases k with _ | k
              · simpa using hx
              · simp at hx)).below hbe) (bls_below HL1.out hbe))
            have T2 : Hid (∀ W, Below ((wc.alloc (.cells #[.int .i64 ((n : Int) % 3), .int .i64 ((n : Int) / 3 % 3)] 3)).alloc (.cells #[.slice (some ⟨wc.heap.size, 0, none⟩) 2 2, .slice (some ⟨gf, 0, none⟩) (1 + n % 4) 4] 37)).heap.size ((wc.alloc (.cells #[.int .i64 ((n : Int) % 3), .int .i64 ((n : Int) / 3 % 3)] 3)).alloc (.cells #[.slice (some ⟨wc.heap.size, 0, none⟩) 2 2, .slice (some ⟨gf, 0, none⟩) (1 + n % 4) 4] 37)) W → Calls Tryz.prog 6 #[.agg #[.slice (some ⟨wc.heap.size, 0, none⟩) 2 2, .slice (some ⟨gf, 0, none⟩) (1 + n % 4) 4]] W fun e w' => e = .returned (.bool true) ∧ Below W.heap.size W w') := fun W h =>
              tells_part hl4 (by omega) HSM.out (HQ.out.below h) (bls_below (bls_below HL1.out HBE.out) h)
            clear hbe
            go_wp2_with fail
            refine T1.out.mono ?_
            rintro e w3 ⟨rfl, hb3⟩
            have HY3 := HY.out.below hb3 HY.out.lt
            have d0 := HY3.cell 0
            have d1 := HY3.cell 1
            simp only [List.getElem?_toArray, List.getElem?_cons_zero, List.getElem?_cons_succ] at d0 d1
            have C2 := Lib.hid (T2.out w3 hb3)
            have HB3 : Hid (Below w.heap.size w w3) := (HB1.out.trans (HBE.out.mono HB1.out.size)).trans (hb3.mono (HB1.out.trans (HBE.out.mono HB1.out.size)).size)
            clear hb3 HY3 T1 T2 HQ HY HBE HB1 HX1 HP1 HL1 HSM c0 c1 hlt
            go_wp2_with fail
            refine C2.out.mono ?_
            rintro e w4 ⟨rfl, hb4⟩
            have HB4 : Hid (Below w.heap.size w w4) := HB3.out.trans (hb4.mono HB3.out.size)
            clear hb4 HB3 C2 d0 d1
            go_wp2
            go_roundw
            case rel => exact ⟨n + 1, by go_num, by omega, HB4.out⟩
            case measure => simp [intOf]; omega
        · have hge : ¬ (n : Int) < 400 := by omega
          go_wp2_with fail
          refine (long_any _).mono ?_
          rintro e w3 ⟨rfl, hb3⟩
          have HB3 : Hid (Below w.heap.size w w3) := HB.out.trans (hb3.mono HB.out.size)
          clear hb3
          go_wp2_with fail
          refine (awakeI_any _).mono ?_
          rintro e w4 ⟨rfl, hb4⟩
          have HB4 : Hid (Below w.heap.size w w4) := HB3.out.trans (hb4.mono HB3.out.size)
          clear hb4
          go_wp2
          go_ret
          exact ⟨rfl, HB4.out⟩
end Go.Proofs.YtgpbpbhidemciaaGreat
