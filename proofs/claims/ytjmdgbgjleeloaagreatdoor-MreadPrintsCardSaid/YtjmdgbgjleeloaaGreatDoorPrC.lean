/-
  The document's Can, plainly; its row of blocks in memory; its machine (package intarsiaref07). No condition beyond those that each theorem states.
-/
import Derived.Test.YtjmdgbgjleeloaaGreatDoorQk6
import Derived.Test.YtjmdgbgjleeloaaGreatDoorMiU
import Derived.Test.YtjmdgbgjleeloaaGreatDoorPk25
namespace Go.Proofs.YtjmdgbgjleeloaaGreatDoor
open Go.RowKit

theorem blErr_every9 {m : Mm} {fr nb : Int} : ∀ {l : List Bb}, blErr m fr nb l = 0 → ∀ b ∈ l, insErr m fr b.ins = 0 ∧ ofEndN m nb b.tm = 0
  | [], _ => by simp
  | b :: l, h => by
    unfold blErr at h
    by_cases h1 : insErr m fr b.ins = 0
    · rw [if_pos h1] at h
      by_cases h2 : ofEndN m nb b.tm = 0
      · rw [if_pos h2] at h
        intro c hc
        rcases List.mem_cons.1 hc with rfl | hc
        · exact ⟨h1, h2⟩
        · exact blErr_every9 h c hc
      · rw [if_neg h2] at h; exact absurd h h2
    · rw [if_neg h1] at h; exact absurd h h1
theorem insErr_every9 {m : Mm} {fr : Int} : ∀ {l : List Ii}, insErr m fr l = 0 → ∀ x ∈ l, ofInsN m fr x = 0
  | [], _ => by simp
  | x :: l, h => by
    unfold insErr at h
    by_cases h1 : ofInsN m fr x = 0
    · rw [if_pos h1] at h
      intro y hy
      rcases List.mem_cons.1 hy with rfl | hy
      · exact h1
      · exact insErr_every9 h y hy
    · rw [if_neg h1] at h; exact absurd h h1
/-- A machine that has all registers, in which this one is told. -/
def wideR (r : Int) : Mm := ⟨64, [0, 1, 2, 3, 4, 5, 6, 7], r, []⟩
theorem wideR_right {r : Int} (h : 0 ≤ r ∧ r < 64) : (wideR r).rightB = true := by
  refine (right_iff _).2 ⟨(by decide : (wideR 0).smallB = true), (by decide : (wideR 0).args.all (wideR 0).regB = true), ?_, rfl, (by decide : unlikeB [] [0, 1, 2, 3, 4, 5, 6, 7] = true), rfl, rfl⟩
  simp only [Mm.regB, Bool.and_eq_true, decide_eq_true_eq]
  exact h
def retOf (b : Bb) : Int := if b.tm.kind = 3 ∧ isRegT b.tm.a = true then b.tm.a else 0
theorem retOf_reg (b : Bb) : 0 ≤ retOf b ∧ retOf b < 64 := by
  unfold retOf
  split
  · rename_i h
    have := h.2
    unfold isRegT at this
    simp only [Bool.and_eq_true, decide_eq_true_eq] at this
    exact this
  · decide
def traps : List Bb := List.replicate 199 trapB
theorem traps_len : traps.length = 199 := List.length_replicate
theorem traps_mem {b : Bb} (h : b ∈ traps) : b = trapB := (List.mem_replicate.1 h).2
theorem traps_at {k : Nat} {y : Bb} (h : traps[k]? = some y) : y = trapB := traps_mem (List.mem_of_getElem? h)
def oneG (b : Bb) : Gg := ⟨400, b :: traps⟩
theorem one_len (b : Bb) : (oneG b).blocks.length = 200 := by show (b :: traps).length = 200; rw [List.length_cons, traps_len]
theorem one_mem {b c : Bb} (h : c ∈ (oneG b).blocks) : c = b ∨ c = trapB := by
  rcases List.mem_cons.1 (show c ∈ b :: traps from h) with h | h
  · exact .inl h
  · exact .inr (traps_mem h)
theorem trap_end (r nb : Int) (h : 1 ≤ nb) : ofEndN (wideR r) nb trapB.tm = 0 := by
  unfold ofEndN
  have h1 : isEndT trapB.tm = true := by decide
  have h2 : readsWellT (wideR r) trapB.tm = true := (by decide : belowB 64 [0] = true)
  have h3 : belowB nb [trapB.tm.t0, trapB.tm.t1] = true := by
    rw [below_iff]
    intro y hy
    simp only [trapB, List.mem_cons, List.not_mem_nil, or_false, or_self] at hy
    subst hy
    omega
  rw [h1, h2, h3]
  rfl
theorem end_one (b : Bb) : ofEndN (wideR (retOf b)) 200 b.tm = 0 ↔ ofEndN wideM 200 (wideB b).tm = 0 := by
  have hw : (wideB b).tm = if b.tm.kind = 3 ∧ isRegT b.tm.a = true then ⟨b.tm.kind, 0, b.tm.t0, b.tm.t1⟩ else b.tm := by unfold wideB; split <;> rfl
  rw [hw]
  unfold retOf
  by_cases h : b.tm.kind = 3 ∧ isRegT b.tm.a = true
  · rw [if_pos h, if_pos h]
    obtain ⟨hk, _⟩ := h
    have e1 : ∀ (r a : Int), a = r → ofEndN (wideR r) 200 ⟨3, a, b.tm.t0, b.tm.t1⟩ = (if (b.tm.t0 == 0 && b.tm.t1 == 0) = true then (if belowB 200 [b.tm.t0, b.tm.t1] = true then 0 else 9) else 2) := fun r a e => by
      subst e
      unfold ofEndN
      have h1 : isEndT ⟨3, a, b.tm.t0, b.tm.t1⟩ = (b.tm.t0 == 0 && b.tm.t1 == 0) := rfl
      have h2 : readsWellT (wideR a) ⟨3, a, b.tm.t0, b.tm.t1⟩ = true := by
        unfold readsWellT
        dsimp only
        rw [if_pos rfl]
        have : (wideR a).ret = a := rfl
        rw [this]
        simp
      rw [h1, h2, if_pos rfl]
    obtain ⟨ins, kind, a, t0, t1⟩ := b
    dsimp only at *
    subst hk
    rw [e1 a a rfl]
    rw [show wideM = wideR 0 from rfl, e1 0 0 rfl]
  · rw [if_neg h, if_neg h]
    exact Iff.rfl
theorem right_one (b : Bb) : rightT (wideR (retOf b)) (oneG b) = 0 ↔ CanB b := by
  have hlen := one_len b
  have hi : ∀ x : Ii, ofInsN (wideR (retOf b)) 400 x = ofInsN wideM 400 x := fun x => rfl
  unfold rightT
  rw [wideR_right (retOf_reg b), if_pos rfl, hlen]
  have hs : smallT (oneG b) = !(decide (4000 < b.ins.length)) := by
    have ha : ((oneG b).blocks.all fun b => !(decide (4000 < b.ins.length))) = !(decide (4000 < b.ins.length)) := by
      show (b :: traps).all _ = _
      have ht : (traps.all fun b => !(decide (4000 < b.ins.length))) = true := List.all_eq_true.2 (fun c hc => by rw [traps_mem hc]; rfl)
      rw [List.all_cons, ht, Bool.and_true]
    unfold smallT
    rw [hlen, ha]
    rfl
  rw [hs]
  by_cases h4 : 4000 < b.ins.length
  · rw [decide_eq_true h4]
    constructor
    · intro h; cases h
    · intro h; have := h.few; omega
  · rw [decide_eq_false h4, Bool.not_false, if_pos rfl]
    constructor
    · intro h
      obtain ⟨g1, g2⟩ := blErr_every9 h b (List.mem_cons_self)
      exact ⟨fun x hx => by rw [← hi x]; exact insErr_every9 g1 x hx, (end_one b).1 g2, by omega⟩
    · intro h
      refine bl_none (fun c hc => ?_)
      rcases one_mem hc with rfl | rfl
      · exact ⟨fun x hx => by rw [show (oneG c).frame = 400 from rfl, hi x]; exact h.ins x hx, (end_one c).2 h.tm⟩
      · exact ⟨by simp [trapB], trap_end _ _ (by decide)⟩
/-- Which blocks, so far, can be written. -/
theorem can_iff (t : Gg) : canG t = true ↔ (0 ≤ t.frame ∧ t.frame ≤ 400) ∧ (0 < t.blocks.length ∧ t.blocks.length ≤ 200) ∧ ∀ b ∈ t.blocks, CanB b :=
  ⟨can_parts, fun h => can_intro h.1 h.2.1 h.2.2⟩
/-- Its row of blocks: the first one, traps, what is nought still. -/
def zB : WB := (⟨[], ⟨0, 0, 0, 0⟩⟩, none, 0)
def tB : WB := (trapB, none, 0)
def allE (i : Nat) (x : WB) (j : Nat) : WB := if j = 0 then x else if j < i then tB else zB
def AllC (cs : Array Value) (i : Nat) (x : WB) : Prop := ∀ j r, j < 200 → r < 5 → cs[j * 5 + r]? = (wbC (allE i x j))[r]?
def AllW (W : World) (g i : Nat) (x : WB) : Prop := ∃ cs, Blk W g 53 cs ∧ AllC cs i x
theorem five {r : Nat} (h : r < 5) : r = 0 ∨ r = 1 ∨ r = 2 ∨ r = 3 ∨ r = 4 := by omega
theorem at_place {cs : Array Value} {j r : Nat} {v u : Value} (h : cs[j * 5 + r]? = some u) : (cs.setIfInBounds (j * 5 + r) v)[j * 5 + r]? = some v := by
  rw [Array.getElem?_setIfInBounds_self, if_pos (Array.getElem?_eq_some_iff.1 h).1]
theorem AllW.trap {W : World} {g i : Nat} {x : WB} (h : AllW W g i x) (h0 : 1 ≤ i) (h1 : i < 200) : AllW (W.setCell ⟨g, i * 5 + 1, none⟩ (.int .i64 4)) g (i + 1) x := by
  obtain ⟨cs, hb, hc⟩ := h
  refine ⟨_, hb.put (i * 5 + 1) (.int .i64 4), fun j r hj hr => ?_⟩
  have h2 := hc j r hj hr
  by_cases he : i * 5 + 1 = j * 5 + r
  · have e1 : j = i := by omega
    have e2 : r = 1 := by omega
    subst e1 e2
    have h3 : cs[j * 5 + 1]? = some (.int .i64 0) := by
      rw [h2]
      unfold allE
      rw [if_neg (by omega), if_neg (by omega)]
      rfl
    rw [at_place h3]
    unfold allE
    rw [if_neg (by omega), if_pos (by omega)]
    rfl
  · rw [Array.getElem?_setIfInBounds_ne he, h2]
    unfold allE
    by_cases e0 : j = 0
    · rw [if_pos e0, if_pos e0]
    · rw [if_neg e0, if_neg e0]
      by_cases e1 : j < i
      · rw [if_pos e1, if_pos (by omega)]
      · rw [if_neg e1]
        by_cases e2 : j < i + 1
        · rw [if_pos e2]
          have e3 : j = i := by omega
          have e4 : r ≠ 1 := fun e => he (by omega)
          rcases five hr with rfl | rfl | rfl | rfl | rfl
          · rfl
          · exact absurd rfl e4
          · rfl
          · rfl
          · rfl
        · rw [if_neg e2]
/-- Its first block, put in. -/
def first5 (W : World) (g : Nat) (y : WB) : World := ((((W.setCell ⟨g, 0, none⟩ (.slice y.2.1 y.1.ins.length y.2.2)).setCell ⟨g, 1, none⟩ (.int .i64 y.1.tm.kind)).setCell ⟨g, 2, none⟩ (.int .i64 y.1.tm.a)).setCell ⟨g, 3, none⟩ (.int .i64 y.1.tm.t0)).setCell ⟨g, 4, none⟩ (.int .i64 y.1.tm.t1)
theorem AllW.first {W : World} {g i : Nat} {x : WB} (h : AllW W g i x) (y : WB) : AllW (first5 W g y) g i y := by
  obtain ⟨cs, hb, hc⟩ := h
  refine ⟨_, ((((hb.put 0 _).put 1 _).put 2 _).put 3 _).put 4 _, fun j r hj hr => ?_⟩
  have hz : ∀ k, k < 5 → k < cs.size := fun k hk => by
    have h9 := hc 0 k (by omega) hk
    have h8 : (wbC (allE i x 0))[k]? = some ((wbC (allE i x 0))[k]'(by rw [wb_len]; exact hk)) := List.getElem?_eq_getElem _
    rw [Nat.zero_mul, Nat.zero_add, h8] at h9
    exact (Array.getElem?_eq_some_iff.1 h9).1
  have z0 := hz 0 (by omega)
  have z1 := hz 1 (by omega)
  have z2 := hz 2 (by omega)
  have z3 := hz 3 (by omega)
  have z4 := hz 4 (by omega)
  by_cases e0 : j = 0
  · subst e0
    have ea : allE i y 0 = y := by unfold allE; rw [if_pos rfl]
    rw [ea]
    rcases five hr with rfl | rfl | rfl | rfl | rfl <;> simp [z0, z1, z2, z3, z4, wbC]
  · have h2 := hc j r hj hr
    have ea : allE i y j = allE i x j := by unfold allE; rw [if_neg e0, if_neg e0]
    rw [ea, ← h2]
    have n0 : ¬ 0 = j * 5 + r := by omega
    have n1 : ¬ 1 = j * 5 + r := by omega
    have n2 : ¬ 2 = j * 5 + r := by omega
    have n3 : ¬ 3 = j * 5 + r := by omega
    have n4 : ¬ 4 = j * 5 + r := by omega
    rw [Array.getElem?_setIfInBounds_ne n4, Array.getElem?_setIfInBounds_ne n3, Array.getElem?_setIfInBounds_ne n2, Array.getElem?_setIfInBounds_ne n1, Array.getElem?_setIfInBounds_ne n0]
theorem AllW.below {W W' : World} {g i : Nat} {x : WB} (h : AllW W g i x) (hb : Below W.heap.size W W') : AllW W' g i x := by
  obtain ⟨cs, h1, h2⟩ := h
  exact ⟨cs, h1.below hb h1.lt, h2⟩
theorem AllW.lt {W : World} {g i : Nat} {x : WB} (h : AllW W g i x) : g < W.heap.size := by obtain ⟨cs, h1, _⟩ := h; exact h1.lt
theorem AllW.cell {W : World} {g i : Nat} {x : WB} (h : AllW W g i x) {j r : Nat} (hj : j < 200) (hr : r < 5) : W.cell? ⟨g, j * 5 + r, none⟩ = (wbC (allE i x j))[r]? ∧ W.frozen? ⟨g, j * 5 + r, none⟩ = false := by
  obtain ⟨cs, h1, h2⟩ := h
  exact ⟨(h1.cell _).trans (h2 j r hj hr), h1.free _⟩
theorem AllW.bls {W : World} {g : Nat} {x : WB} (h : AllW W g 200 x) (hn : x.2.1 = none → x.2.2 = 0) (hi : InsW W x.2.1 x.1.ins) : BlsW W (some ⟨g, 0, none⟩) (oneG x.1).blocks := fun k y hk => by
  have hlt := (List.getElem?_eq_some_iff.1 hk).1
  have hl := one_len x.1
  have hc : ∀ r, r < 5 → W.cell? ⟨g, k * 5 + r, none⟩ = (wbC (allE 200 x k))[r]? := fun r hr => (h.cell (by omega) hr).1
  refine ⟨g, 0, (allE 200 x k).2.1, (allE 200 x k).2.2, rfl, h.lt, ?_⟩
  have hy : y = (allE 200 x k).1 := by
    cases k with
    | zero =>
      have hk : some x.1 = some y := hk
      rw [← Option.some.inj hk]
      rfl
    | succ k =>
      have hk : traps[k]? = some y := hk
      unfold allE
      rw [if_neg (by omega), if_pos (by omega)]
      exact traps_at hk
  have hin : ((allE 200 x k).2.1 = none → (allE 200 x k).2.2 = 0) ∧ InsW W (allE 200 x k).2.1 (allE 200 x k).1.ins := by
    unfold allE
    by_cases e0 : k = 0
    · rw [if_pos e0]; exact ⟨hn, hi⟩
    · rw [if_neg e0, if_pos (by omega)]
      exact ⟨fun _ => rfl, fun q z hz => by simp [tB, trapB] at hz⟩
  rw [hy, Nat.zero_add]
  exact ⟨hc 0 (by omega), hc 1 (by omega), hc 2 (by omega), hc 3 (by omega), hc 4 (by omega), hin.1, hin.2⟩
/-- The row, made. -/
theorem make_all : ∃ cs, AllC cs 1 zB ∧ ∀ W : World, (Instr.makeSlice 22 (.int .i64 200) (.int .i64 200)).run Tryz.prog W = .ok (.slice (some ⟨W.heap.size, 0, none⟩) 200 200) (W.alloc (.cells cs 53)) := by
  obtain ⟨i, hi, hz, hs, hb⟩ := info_parts block_info
  have h := fun W => run_make (P := Tryz.prog) W 22 53 i _ Tryz.underlying22 hi hz .i64 .i64 (200 : Int) (200 : Int) (by omega) (Int.le_refl _) (by rw [hb]; decide) (by decide)
  rw [hs] at h
  refine ⟨_, fun j r hj hr => ?_, h⟩
  have ea : allE 1 zB j = zB := by
    unfold allE
    by_cases e0 : j = 0
    · rw [if_pos e0]
    · rw [if_neg e0, if_neg (by omega)]
  have hlt : j * 5 + r < 200 * 5 := by omega
  have hm : (j * 5 + r) % 5 = r := by omega
  rw [ea]
  show (madeCells #[.slice none 0 0, .int .i64 0, .int .i64 0, .int .i64 0, .int .i64 0] (200 * 5))[j * 5 + r]? = _
  unfold madeCells
  rw [Array.getElem?_map, Array.getElem?_range, if_pos hlt]
  simp only [Option.map_some]
  have hz : (#[Value.slice none 0 0, .int .i64 0, .int .i64 0, .int .i64 0, .int .i64 0] : Array Value).size = 5 := rfl
  simp only [hz, hm]
  rcases five hr with rfl | rfl | rfl | rfl | rfl <;> rfl
end Go.Proofs.YtjmdgbgjleeloaaGreatDoor
