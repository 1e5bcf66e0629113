/-
  MreadLines: targets that are made in memory, block by block, move by move. No condition beyond those that each theorem states.
  MreadLines: the targets of the great loops, in memory. No condition beyond those that each theorem states.
-/
import Derived.Test.YtbjmbahpcoanoaaGreatDoorPk38
import Derived.Test.YtbjmbahpcoanoaaGreatDoorPk9
namespace Go.Proofs.YtbjmbahpcoanoaaGreatDoor
open Go.RowKit

/-- A row of n parts of s cells each, each told. -/
def RowV (s : Nat) (f : Nat → Nat → Value) (cs : Array Value) (n : Nat) : Prop := ∀ j r, j < n → r < s → cs[j * s + r]? = some (f j r)
theorem RowV.put {s n j r : Nat} {f : Nat → Nat → Value} {cs : Array Value} (h : RowV s f cs n) (hj : j < n) (hr : r < s) (v : Value) : RowV s (fun a b => if a = j ∧ b = r then v else f a b) (cs.setIfInBounds (j * s + r) v) n := by
 intro a b ha hb
 have h1 := h a b ha hb
 rw [Array.getElem?_setIfInBounds]
 by_cases he : j * s + r = a * s + b
 · obtain ⟨e1, e2⟩ := place_one hr hb he
   subst e1 e2
   have hlt : j * s + r < cs.size := (Array.getElem?_eq_some_iff.1 h1).1
   rw [if_pos rfl, if_pos hlt]
   simp
 · rw [if_neg he]
   have hn : ¬ (a = j ∧ b = r) := by rintro ⟨e1, e2⟩; subst e1 e2; exact he rfl
   simp only [hn, if_false]
   exact h1
theorem RowV.eq {s n : Nat} {f g : Nat → Nat → Value} {cs : Array Value} (h : RowV s f cs n) (e : ∀ j r, j < n → r < s → f j r = g j r) : RowV s g cs n := fun j r hj hr => by rw [h j r hj hr, e j r hj hr]
theorem made_row (s n : Nat) (z : Array Value) (hz : z.size = s) (g : Nat → Value) (h : ∀ r, r < s → z[r]? = some (g r)) : RowV s (fun _ r => g r) (madeCells z (n * s)) n := by
 intro j r hj hr
 have hlt : j * s + r < n * s := by
  have := Nat.mul_le_mul_right s (show j + 1 ≤ n by omega)
  rw [Nat.add_mul] at this
  omega
 have hm : (j * s + r) % s = r := by rw [Nat.mul_comm, Nat.mul_add_mod]; exact Nat.mod_eq_of_lt hr
 have e : (madeCells z (n * s))[j * s + r]? = z[r]? := by
  unfold madeCells
  rw [Array.getElem?_map, Array.getElem?_range, if_pos hlt]
  simp only [Option.map_some, hz, hm]
  rw [Array.getElem?_eq_getElem (by omega)]
  simp [hz, hr]
 rw [e]
 exact h r hr
/-- Moves so far; blocks so far. -/
def fI (k j r : Nat) : Value := if r = 6 then .slice none 0 0 else if r = 0 ∧ j < k then .int .i64 15 else .int .i64 0
def fT (k j r : Nat) : Value := if r = 0 then .slice none 0 0 else if r = 1 ∧ j < k then .int .i64 4 else .int .i64 0
def fB (Gs : List Nat) (j r : Nat) : Value := match Gs[j]? with
 | some G => if r = 0 then .slice (some ⟨G, 0, none⟩) 3000 3000 else if r = 1 then .int .i64 4 else .int .i64 0
 | none => if r = 0 then .slice none 0 0 else .int .i64 0
theorem make_insV {n : Nat} (hn : n ≤ 1000000) : ∃ cs, RowV 8 (fI 0) cs n ∧ ∀ W : World, (Instr.makeSlice 47 (.int .i64 n) (.int .i64 n)).run Tryz.prog W = .ok (.slice (some ⟨W.heap.size, 0, none⟩) n n) (W.alloc (.cells cs 46)) := by
 obtain ⟨i, hi, hz, hs, hb⟩ := info_parts ins_info
 have h := fun W => run_make (P := Tryz.prog) W 47 46 i _ Tryz.underlying47 hi hz .i64 .i64 (n : Int) (n : Int) (by omega) (Int.le_refl _) (by rw [hb]; omega) (by omega)
 rw [hs] at h
 simp only [Int.toNat_natCast] at h
 refine ⟨_, (made_row 8 n _ rfl (fun r => fI 0 0 r) (fun r hr => ?_)).eq (fun j r _ _ => by simp [fI]), h⟩
 have h8 : r = 0 ∨ r = 1 ∨ r = 2 ∨ r = 3 ∨ r = 4 ∨ r = 5 ∨ r = 6 ∨ r = 7 := by omega
 rcases h8 with h | h | h | h | h | h | h | h <;> subst h <;> rfl
theorem make_blocksV {n : Nat} (hn : n ≤ 1000000) : ∃ cs, RowV 5 (fT 0) cs n ∧ ∀ W : World, (Instr.makeSlice 22 (.int .i64 n) (.int .i64 n)).run Tryz.prog W = .ok (.slice (some ⟨W.heap.size, 0, none⟩) n n) (W.alloc (.cells cs 53)) := by
 obtain ⟨i, hi, hz, hs, hb⟩ := info_parts block_info
 have h := fun W => run_make (P := Tryz.prog) W 22 53 i _ Tryz.underlying22 hi hz .i64 .i64 (n : Int) (n : Int) (by omega) (Int.le_refl _) (by rw [hb]; omega) (by omega)
 rw [hs] at h
 simp only [Int.toNat_natCast] at h
 refine ⟨_, (made_row 5 n _ rfl (fun r => fT 0 0 r) (fun r hr => ?_)).eq (fun j r _ _ => by simp [fT]), h⟩
 have h5 : r = 0 ∨ r = 1 ∨ r = 2 ∨ r = 3 ∨ r = 4 := by omega
 rcases h5 with h | h | h | h | h <;> subst h <;> rfl
/-- A move is written. -/
def set8 (cs : Array Value) (k : Nat) : Array Value := (((((((cs.setIfInBounds (k * 8) (.int .i64 15)).setIfInBounds (k * 8 + 1) (.int .i64 0)).setIfInBounds (k * 8 + 2) (.int .i64 0)).setIfInBounds (k * 8 + 3) (.int .i64 0)).setIfInBounds (k * 8 + 4) (.int .i64 0)).setIfInBounds (k * 8 + 5) (.int .i64 0)).setIfInBounds (k * 8 + 6) (.slice none 0 0)).setIfInBounds (k * 8 + 7) (.int .i64 0)
theorem RowV.move {cs : Array Value} {n k : Nat} (h : RowV 8 (fI k) cs n) (hk : k < n) : RowV 8 (fI (k + 1)) (set8 cs k) n := by
 have h8 := (((((((h.put (j := k) (r := 0) hk (by omega) (.int .i64 15)).put (j := k) (r := 1) hk (by omega) (.int .i64 0)).put (j := k) (r := 2) hk (by omega) (.int .i64 0)).put (j := k) (r := 3) hk (by omega) (.int .i64 0)).put (j := k) (r := 4) hk (by omega) (.int .i64 0)).put (j := k) (r := 5) hk (by omega) (.int .i64 0)).put (j := k) (r := 6) hk (by omega) (.slice none 0 0)).put (j := k) (r := 7) hk (by omega) (.int .i64 0)
 refine RowV.eq h8 (fun j r hj hr => ?_)
 have hr8 : r = 0 ∨ r = 1 ∨ r = 2 ∨ r = 3 ∨ r = 4 ∨ r = 5 ∨ r = 6 ∨ r = 7 := by omega
 by_cases hjk : j = k
 · subst hjk
   rcases hr8 with h | h | h | h | h | h | h | h <;> subst h <;> simp [fI]
 · have h1 : (j < k + 1) = (j < k) := by simp; omega
   rcases hr8 with h | h | h | h | h | h | h | h <;> subst h <;> simp [fI, hjk, h1]
def set4 (cs : Array Value) (k : Nat) : Array Value := (((cs.setIfInBounds (k * 5 + 1) (.int .i64 4)).setIfInBounds (k * 5 + 2) (.int .i64 0)).setIfInBounds (k * 5 + 3) (.int .i64 0)).setIfInBounds (k * 5 + 4) (.int .i64 0)
theorem RowV.trap {cs : Array Value} {n k : Nat} (h : RowV 5 (fT k) cs n) (hk : k < n) : RowV 5 (fT (k + 1)) (set4 cs k) n := by
 have h4 := (((h.put (j := k) (r := 1) hk (by omega) (.int .i64 4)).put (j := k) (r := 2) hk (by omega) (.int .i64 0)).put (j := k) (r := 3) hk (by omega) (.int .i64 0)).put (j := k) (r := 4) hk (by omega) (.int .i64 0)
 refine RowV.eq h4 (fun j r hj hr => ?_)
 have hr5 : r = 0 ∨ r = 1 ∨ r = 2 ∨ r = 3 ∨ r = 4 := by omega
 by_cases hjk : j = k
 · subst hjk
   rcases hr5 with h | h | h | h | h <;> subst h <;> simp [fT]
 · have h1 : (j < k + 1) = (j < k) := by simp; omega
   rcases hr5 with h | h | h | h | h <;> subst h <;> simp [fT, hjk, h1]
def set5 (cs : Array Value) (k G : Nat) : Array Value := ((((cs.setIfInBounds (k * 5) (.slice (some ⟨G, 0, none⟩) 3000 3000)).setIfInBounds (k * 5 + 1) (.int .i64 4)).setIfInBounds (k * 5 + 2) (.int .i64 0)).setIfInBounds (k * 5 + 3) (.int .i64 0)).setIfInBounds (k * 5 + 4) (.int .i64 0)
theorem RowV.block {cs : Array Value} {n : Nat} {Gs : List Nat} (h : RowV 5 (fB Gs) cs n) (hk : Gs.length < n) (G : Nat) : RowV 5 (fB (Gs ++ [G])) (set5 cs Gs.length G) n := by
 have h5 := ((((h.put (j := Gs.length) (r := 0) hk (by omega) (.slice (some ⟨G, 0, none⟩) 3000 3000)).put (j := Gs.length) (r := 1) hk (by omega) (.int .i64 4)).put (j := Gs.length) (r := 2) hk (by omega) (.int .i64 0)).put (j := Gs.length) (r := 3) hk (by omega) (.int .i64 0)).put (j := Gs.length) (r := 4) hk (by omega) (.int .i64 0)
 refine RowV.eq h5 (fun j r hj hr => ?_)
 have hr5 : r = 0 ∨ r = 1 ∨ r = 2 ∨ r = 3 ∨ r = 4 := by omega
 by_cases hjk : j = Gs.length
 · subst hjk
   rcases hr5 with h | h | h | h | h <;> subst h <;> simp [fB]
 · have e : (Gs ++ [G])[j]? = Gs[j]? := by
     by_cases h1 : j < Gs.length
     · exact List.getElem?_append_left h1
     · rw [List.getElem?_append_right (by omega), List.getElem?_eq_none (l := Gs) (by omega), List.getElem?_eq_none (by simp; omega)]
   rcases hr5 with h | h | h | h | h <;> subst h <;> simp [fB, hjk, e]
theorem fT_fB : ∀ j r, fT 0 j r = fB [] j r := fun j r => by simp [fT, fB]
/-- Moves, in memory. -/
theorem moves_ins {w : World} {g n : Nat} {t : TypeId} {cs : Array Value} (hb : Blk w g t cs) (h : RowV 8 (fI n) cs n) : InsW w (some ⟨g, 0, none⟩) (List.replicate n mvI) := by
 intro j x hx
 rw [List.getElem?_replicate] at hx
 by_cases hj : j < n
 · rw [if_pos hj] at hx
   obtain rfl : mvI = x := Option.some.inj hx
   have hc : ∀ r, r < 8 → w.cell? ⟨g, j * 8 + r, none⟩ = some (fI n j r) := fun r hr => (hb.cell _).trans (h j r hj hr)
   have h0 := hc 0 (by omega)
   rw [show fI n j 0 = .int .i64 15 by simp [fI, hj]] at h0
   exact ⟨g, 0, none, 0, rfl, hb.lt, by rw [Nat.zero_add]; exact ⟨h0, hc 1 (by omega), hc 2 (by omega), hc 3 (by omega), hc 4 (by omega), hc 5 (by omega), hc 6 (by omega), hc 7 (by omega), fun _ => rfl, IntsW.nil _ _⟩⟩
 · rw [if_neg hj] at hx; cases hx
/-- Blocks without moves, in memory. -/
theorem traps_bls {w : World} {g n : Nat} {t : TypeId} {cs : Array Value} (hb : Blk w g t cs) (h : RowV 5 (fT n) cs n) : BlsW w (some ⟨g, 0, none⟩) (List.replicate n (mvB 0)) := by
 intro j x hx
 rw [List.getElem?_replicate] at hx
 by_cases hj : j < n
 · rw [if_pos hj] at hx
   obtain rfl : mvB 0 = x := Option.some.inj hx
   have hc : ∀ r, r < 5 → w.cell? ⟨g, j * 5 + r, none⟩ = some (fT n j r) := fun r hr => (hb.cell _).trans (h j r hj hr)
   have h1 := hc 1 (by omega)
   rw [show fT n j 1 = .int .i64 4 by simp [fT, hj]] at h1
   exact ⟨g, 0, none, 0, rfl, hb.lt, by rw [Nat.zero_add]; exact ⟨hc 0 (by omega), h1, hc 2 (by omega), hc 3 (by omega), hc 4 (by omega), fun _ => rfl, fun k y hy => by simp [mvB] at hy⟩⟩
 · rw [if_neg hj] at hx; cases hx
/-- One block of moves, in memory. -/
theorem one_bls {w : World} {K G m : Nat} {t t' : TypeId} {cs : Array Value} (hk : Blk w K t #[.slice (some ⟨G, 0, none⟩) m m, .int .i64 4, .int .i64 0, .int .i64 0, .int .i64 0]) (hb : Blk w G t' cs) (h : RowV 8 (fI m) cs m) : BlsW w (some ⟨K, 0, none⟩) [mvB m] := by
 intro j x hx
 have hj : j = 0 := by
  have := (List.getElem?_eq_some_iff.1 hx).1
  simp at this
  omega
 subst hj
 obtain rfl : mvB m = x := by simpa using hx
 have hl : (mvB m).ins.length = m := List.length_replicate
 refine ⟨K, 0, some ⟨G, 0, none⟩, m, rfl, hk.lt, ⟨(hk.cell 0).trans ?_, hk.cell 1, hk.cell 2, hk.cell 3, hk.cell 4, fun e => by simp at e, moves_ins hb h⟩⟩
 rw [hl]; rfl
/-- The great target, in memory. -/
theorem great_bls {w : World} {H : Nat} {t : TypeId} {cs : Array Value} {Gs : List Nat} (hb : Blk w H t cs) (h : RowV 5 (fB Gs) cs 10) (hl : Gs.length = 10) (hg : ∀ G ∈ Gs, ∃ ds, Blk w G 46 ds ∧ RowV 8 (fI 3000) ds 3000) : BlsW w (some ⟨H, 0, none⟩) bgG.blocks := by
 intro j x hx
 have hx : (List.replicate 10 (mvB 3000))[j]? = some x := hx
 rw [List.getElem?_replicate] at hx
 by_cases hj : j < 10
 · rw [if_pos hj] at hx
   obtain rfl : mvB 3000 = x := Option.some.inj hx
   obtain ⟨G, hG⟩ : ∃ G, Gs[j]? = some G := ⟨_, List.getElem?_eq_getElem (by omega)⟩
   obtain ⟨ds, hd, hr⟩ := hg G (List.mem_of_getElem? hG)
   have hc : ∀ r, r < 5 → w.cell? ⟨H, j * 5 + r, none⟩ = some (fB Gs j r) := fun r hr => (hb.cell _).trans (h j r hj hr)
   have hf : ∀ r, fB Gs j r = if r = 0 then .slice (some ⟨G, 0, none⟩) 3000 3000 else if r = 1 then .int .i64 4 else .int .i64 0 := fun r => by unfold fB; rw [hG]
   simp only [hf] at hc
   have hlen : (mvB 3000).ins.length = 3000 := List.length_replicate
   refine ⟨H, 0, some ⟨G, 0, none⟩, 3000, rfl, hb.lt, ?_⟩
   rw [Nat.zero_add]
   refine ⟨(hc 0 (by omega)).trans ?_, hc 1 (by omega), hc 2 (by omega), hc 3 (by omega), hc 4 (by omega), fun e => by simp at e, moves_ins hd hr⟩
   rw [hlen]; rfl
 · rw [if_neg hj] at hx; cases hx
end Go.Proofs.YtbjmbahpcoanoaaGreatDoor
namespace Go.Proofs.YtbjmbahpcoanoaaGreatDoor
open Go.RowKit

def tpC : Array Value := #[.int .i64 4, .int .i64 0, .int .i64 0, .int .i64 0]
def kbC (G m : Nat) : Array Value := #[.slice (some ⟨G, 0, none⟩) m m, .int .i64 4, .int .i64 0, .int .i64 0, .int .i64 0]
/-- The trap's box, the first one behind the world w. -/
structure Mn (w W : World) : Prop where
 be : Below w.heap.size w W
 t : Blk W w.heap.size 51 tpC
/-- A target of n blocks, kw of them with their ends; one of one block of m instructions, ki of them moves. -/
structure Mk (w W : World) (P H n kw O K G m ki : Nat) : Prop where
 mn : Mn w W
 wb : Blk W P 24 #[.int .i64 0, .slice (some ⟨H, 0, none⟩) n n]
 wr : ∃ cs, Blk W H 53 cs ∧ RowV 5 (fT kw) cs n
 ob : Blk W O 24 #[.int .i64 ((n : Int) + 200), .slice (some ⟨K, 0, none⟩) 1 1]
 kb : Blk W K 53 (kbC G m)
 gr : ∃ cs, Blk W G 46 cs ∧ RowV 8 (fI ki) cs m
 hk : H ≠ K
 bh : w.heap.size < H
 bg : w.heap.size < G
/-- Two boxes of unlike types are two. -/
theorem two_boxes {w : World} {g g' : Nat} {t t' : TypeId} {cs cs' : Array Value} (h : Blk w g t cs) (h' : Blk w g' t' cs') (ht : t ≠ t') : g ≠ g' := fun e => by
 subst e
 have := h.symm.trans h'
 injection this with this
 injection this with _ h2 _
 exact ht h2
section
variable {w W W' : World} {P H n kw O K G m ki : Nat}
theorem Mn.below (h : Mn w W) (hb : Below W.heap.size W W') : Mn w W' := ⟨h.be.trans (hb.mono h.be.size), h.t.below hb h.t.lt⟩
theorem Mn.put {X : Nat} (h : Mn w W) (hX : w.heap.size < X) (j : Nat) (u : Value) : Mn w (W.setCell ⟨X, j, none⟩ u) :=
 ⟨h.be.setCell (p := ⟨X, j, none⟩) (Nat.le_of_lt hX) u, h.t.far (p := ⟨X, j, none⟩) (by show w.heap.size ≠ X; omega) u⟩
theorem Mk.below (h : Mk w W P H n kw O K G m ki) (hb : Below W.heap.size W W') : Mk w W' P H n kw O K G m ki := by
 obtain ⟨cs, h1, h2⟩ := h.wr
 obtain ⟨ds, g1, g2⟩ := h.gr
 exact ⟨h.mn.below hb, h.wb.below hb h.wb.lt, ⟨cs, h1.below hb h1.lt, h2⟩, h.ob.below hb h.ob.lt, h.kb.below hb h.kb.lt, ⟨ds, g1.below hb g1.lt, g2⟩, h.hk, h.bh, h.bg⟩
def w4 (W : World) (H k : Nat) : World := (((W.setCell ⟨H, k * 5 + 1, none⟩ (.int .i64 4)).setCell ⟨H, k * 5 + 2, none⟩ (.int .i64 0)).setCell ⟨H, k * 5 + 3, none⟩ (.int .i64 0)).setCell ⟨H, k * 5 + 4, none⟩ (.int .i64 0)
def w8 (W : World) (G k : Nat) : World := (((((((W.setCell ⟨G, k * 8, none⟩ (.int .i64 15)).setCell ⟨G, k * 8 + 1, none⟩ (.int .i64 0)).setCell ⟨G, k * 8 + 2, none⟩ (.int .i64 0)).setCell ⟨G, k * 8 + 3, none⟩ (.int .i64 0)).setCell ⟨G, k * 8 + 4, none⟩ (.int .i64 0)).setCell ⟨G, k * 8 + 5, none⟩ (.int .i64 0)).setCell ⟨G, k * 8 + 6, none⟩ (.slice none 0 0)).setCell ⟨G, k * 8 + 7, none⟩ (.int .i64 0)
def w5 (W : World) (H k G : Nat) : World := ((((W.setCell ⟨H, k * 5, none⟩ (.slice (some ⟨G, 0, none⟩) 3000 3000)).setCell ⟨H, k * 5 + 1, none⟩ (.int .i64 4)).setCell ⟨H, k * 5 + 2, none⟩ (.int .i64 0)).setCell ⟨H, k * 5 + 3, none⟩ (.int .i64 0)).setCell ⟨H, k * 5 + 4, none⟩ (.int .i64 0)
theorem w4_far {g : Nat} {t : TypeId} {cs : Array Value} (h : Blk W g t cs) (hg : g ≠ H) (k : Nat) : Blk (w4 W H k) g t cs :=
 (((h.far (p := ⟨H, k * 5 + 1, none⟩) hg _).far (p := ⟨H, k * 5 + 2, none⟩) hg _).far (p := ⟨H, k * 5 + 3, none⟩) hg _).far (p := ⟨H, k * 5 + 4, none⟩) hg _
theorem w5_far {g : Nat} {t : TypeId} {cs : Array Value} (h : Blk W g t cs) (hg : g ≠ H) (k G : Nat) : Blk (w5 W H k G) g t cs :=
 ((((h.far (p := ⟨H, k * 5, none⟩) hg _).far (p := ⟨H, k * 5 + 1, none⟩) hg _).far (p := ⟨H, k * 5 + 2, none⟩) hg _).far (p := ⟨H, k * 5 + 3, none⟩) hg _).far (p := ⟨H, k * 5 + 4, none⟩) hg _
theorem w8_far {g : Nat} {t : TypeId} {cs : Array Value} (h : Blk W g t cs) (hg : g ≠ G) (k : Nat) : Blk (w8 W G k) g t cs :=
 (((((((h.far (p := ⟨G, k * 8, none⟩) hg _).far (p := ⟨G, k * 8 + 1, none⟩) hg _).far (p := ⟨G, k * 8 + 2, none⟩) hg _).far (p := ⟨G, k * 8 + 3, none⟩) hg _).far (p := ⟨G, k * 8 + 4, none⟩) hg _).far (p := ⟨G, k * 8 + 5, none⟩) hg _).far (p := ⟨G, k * 8 + 6, none⟩) hg _).far (p := ⟨G, k * 8 + 7, none⟩) hg _
theorem w4_put {cs : Array Value} (h : Blk W H 53 cs) (k : Nat) : Blk (w4 W H k) H 53 (set4 cs k) := (((h.put _ _).put _ _).put _ _).put _ _
theorem w5_put {cs : Array Value} (h : Blk W H 53 cs) (k G : Nat) : Blk (w5 W H k G) H 53 (set5 cs k G) := ((((h.put _ _).put _ _).put _ _).put _ _).put _ _
theorem w8_put {cs : Array Value} (h : Blk W G 46 cs) (k : Nat) : Blk (w8 W G k) G 46 (set8 cs k) := (((((((h.put _ _).put _ _).put _ _).put _ _).put _ _).put _ _).put _ _).put _ _
theorem Mn.w4 (h : Mn w W) (hX : w.heap.size < H) (k : Nat) : Mn w (w4 W H k) := (((h.put hX _ _).put hX _ _).put hX _ _).put hX _ _
theorem Mn.w5 (h : Mn w W) (hX : w.heap.size < H) (k G : Nat) : Mn w (w5 W H k G) := ((((h.put hX _ _).put hX _ _).put hX _ _).put hX _ _).put hX _ _
theorem Mn.w8 (h : Mn w W) (hX : w.heap.size < G) (k : Nat) : Mn w (w8 W G k) := (((((((h.put hX _ _).put hX _ _).put hX _ _).put hX _ _).put hX _ _).put hX _ _).put hX _ _).put hX _ _
theorem Mk.trap (h : Mk w W P H n kw O K G m ki) (hk : kw < n) : Mk w (Go.Proofs.YtbjmbahpcoanoaaGreatDoor.w4 W H kw) P H n (kw + 1) O K G m ki := by
 obtain ⟨cs, h1, h2⟩ := h.wr
 obtain ⟨ds, g1, g2⟩ := h.gr
 exact ⟨h.mn.w4 h.bh kw, w4_far h.wb (two_boxes h.wb h1 (by decide)) kw, ⟨_, w4_put h1 kw, h2.trap hk⟩, w4_far h.ob (two_boxes h.ob h1 (by decide)) kw, w4_far h.kb h.hk.symm kw, ⟨ds, w4_far g1 (two_boxes g1 h1 (by decide)) kw, g2⟩, h.hk, h.bh, h.bg⟩
theorem Mk.move (h : Mk w W P H n kw O K G m ki) (hk : ki < m) : Mk w (Go.Proofs.YtbjmbahpcoanoaaGreatDoor.w8 W G ki) P H n kw O K G m (ki + 1) := by
 obtain ⟨cs, h1, h2⟩ := h.wr
 obtain ⟨ds, g1, g2⟩ := h.gr
 exact ⟨h.mn.w8 h.bg ki, w8_far h.wb (two_boxes h.wb g1 (by decide)) ki, ⟨cs, w8_far h1 (two_boxes h1 g1 (by decide)) ki, h2⟩, w8_far h.ob (two_boxes h.ob g1 (by decide)) ki, w8_far h.kb (two_boxes h.kb g1 (by decide)) ki, ⟨_, w8_put g1 ki, g2.move hk⟩, h.hk, h.bh, h.bg⟩
/-- What a block's end's cells hold, what an instruction's. -/
theorem Mk.atB (h : Mk w W P H n kw O K G m ki) {j r : Nat} (hj : j < n) (hr : r < 5) : W.cell? ⟨H, j * 5 + r, none⟩ = some (fT kw j r) := by
 obtain ⟨cs, h1, h2⟩ := h.wr
 exact (h1.cell _).trans (h2 j r hj hr)
theorem Mk.atI (h : Mk w W P H n kw O K G m ki) {j r : Nat} (hj : j < m) (hr : r < 8) : W.cell? ⟨G, j * 8 + r, none⟩ = some (fI ki j r) := by
 obtain ⟨cs, h1, h2⟩ := h.gr
 exact (h1.cell _).trans (h2 j r hj hr)
theorem Mk.freeB (h : Mk w W P H n kw O K G m ki) (j : Nat) : W.frozen? ⟨H, j, none⟩ = false ∧ H < W.heap.size := by
 obtain ⟨cs, h1, _⟩ := h.wr
 exact ⟨h1.free j, h1.lt⟩
theorem Mk.freeI (h : Mk w W P H n kw O K G m ki) (j : Nat) : W.frozen? ⟨G, j, none⟩ = false ∧ G < W.heap.size := by
 obtain ⟨cs, h1, _⟩ := h.gr
 exact ⟨h1.free j, h1.lt⟩
theorem Mk.wide (h : Mk w W P H n n O K G m m) : BlsW W (some ⟨H, 0, none⟩) (List.replicate n (mvB 0)) := by
 obtain ⟨cs, h1, h2⟩ := h.wr
 exact traps_bls h1 h2
theorem Mk.one (h : Mk w W P H n n O K G m m) : BlsW W (some ⟨K, 0, none⟩) [mvB m] := by
 obtain ⟨cs, h1, h2⟩ := h.gr
 exact one_bls h.kb h1 h2
end
/-- The great target: some blocks are made, of the last one some moves. -/
structure Gt (w W : World) (P H : Nat) (Gs : List Nat) (k : Nat) : Prop where
 mn : Mn w W
 wb : Blk W P 24 #[.int .i64 0, .slice (some ⟨H, 0, none⟩) 10 10]
 wr : ∃ cs, Blk W H 53 cs ∧ RowV 5 (fB Gs) cs 10
 gr : ∀ j G, Gs[j]? = some G → ∃ ds, Blk W G 46 ds ∧ RowV 8 (fI (if j + 1 = Gs.length then k else 3000)) ds 3000
 nd : Gs.Nodup
 bg : ∀ G ∈ Gs, w.heap.size < G
 bh : w.heap.size < H
section
variable {w W W' : World} {P H k : Nat} {Gs : List Nat}
theorem Gt.below (h : Gt w W P H Gs k) (hb : Below W.heap.size W W') : Gt w W' P H Gs k := by
 obtain ⟨cs, h1, h2⟩ := h.wr
 refine ⟨h.mn.below hb, h.wb.below hb h.wb.lt, ⟨cs, h1.below hb h1.lt, h2⟩, fun j G hj => ?_, h.nd, h.bg, h.bh⟩
 obtain ⟨ds, g1, g2⟩ := h.gr j G hj
 exact ⟨ds, g1.below hb g1.lt, g2⟩
/-- One more block. -/
theorem w5_size (W : World) (H k G : Nat) : (w5 W H k G).heap.size = W.heap.size := by unfold w5; simp [World.setCell]
theorem Gt.block (h : Gt w W P H Gs 3000) (hl : Gs.length < 10) {ds : Array Value} (hr : RowV 8 (fI 0) ds 3000) : Gt w ((Go.Proofs.YtbjmbahpcoanoaaGreatDoor.w5 W H Gs.length W.heap.size).alloc (.cells ds 46)).drew P H (Gs ++ [W.heap.size]) 0 := by
 obtain ⟨cs, h1, h2⟩ := h.wr
 have hlt : ∀ g ∈ Gs, g < W.heap.size := fun g hg => by
  obtain ⟨j, hj, e⟩ := List.getElem_of_mem hg
  obtain ⟨ds, g1, _⟩ := h.gr j g (by rw [List.getElem?_eq_getElem hj, e])
  exact g1.lt
 have hbG : w.heap.size < W.heap.size := h.mn.t.lt
 have hd : Blk ((Go.Proofs.YtbjmbahpcoanoaaGreatDoor.w5 W H Gs.length W.heap.size).alloc (.cells ds 46)).drew W.heap.size 46 ds := by
  have := Blk.new (Go.Proofs.YtbjmbahpcoanoaaGreatDoor.w5 W H Gs.length W.heap.size) 46 ds
  rw [w5_size] at this
  exact this
 refine ⟨(h.mn.w5 h.bh _ _).below ((Below.refl _ _).alloc (Nat.le_refl _) _).drew, (w5_far h.wb (two_boxes h.wb h1 (by decide)) _ _).alloc _, ⟨_, (w5_put h1 _ _).alloc _, h2.block hl _⟩, fun j g hj => ?_, ?_, fun g hg => ?_, h.bh⟩
 · by_cases hjl : j < Gs.length
   · rw [List.getElem?_append_left hjl] at hj
     obtain ⟨es, g1, g2⟩ := h.gr j g hj
     refine ⟨es, (w5_far g1 (two_boxes g1 h1 (by decide)) _ _).alloc _, ?_⟩
     rw [List.length_append, List.length_singleton, if_neg (by omega)]
     split at g2 <;> exact g2
   · have hj2 : j = Gs.length := by
       have := (List.getElem?_eq_some_iff.1 hj).1
       rw [List.length_append, List.length_singleton] at this
       omega
     subst hj2
     have : g = W.heap.size := by simpa using hj.symm
     subst this
     refine ⟨ds, hd, ?_⟩
     rw [List.length_append, List.length_singleton, if_pos rfl]
     exact hr
 · rw [List.nodup_append]
   refine ⟨h.nd, by simp, fun a ha b hb => ?_⟩
   rw [List.mem_singleton] at hb
   have := hlt a ha
   omega
 · rcases List.mem_append.1 hg with hg | hg
   · exact h.bg g hg
   · rw [List.mem_singleton] at hg; subst hg; exact hbG
/-- One more move, in the last block. -/
theorem Gt.move {G : Nat} (h : Gt w W P H (Gs ++ [G]) k) (hk : k < 3000) : Gt w (Go.Proofs.YtbjmbahpcoanoaaGreatDoor.w8 W G k) P H (Gs ++ [G]) (k + 1) := by
 obtain ⟨cs, h1, h2⟩ := h.wr
 obtain ⟨ds, d1, d2⟩ := h.gr Gs.length G (by simp)
 rw [List.length_append, List.length_singleton, if_pos rfl] at d2
 have hn := h.nd
 rw [List.nodup_append] at hn
 have hbG := h.bg G (by simp)
 refine ⟨h.mn.w8 hbG k, w8_far h.wb (two_boxes h.wb d1 (by decide)) k, ⟨cs, w8_far h1 (two_boxes h1 d1 (by decide)) k, h2⟩, fun j g hj => ?_, h.nd, h.bg, h.bh⟩
 by_cases hjl : j < Gs.length
 · have hj' := hj
   rw [List.getElem?_append_left hjl] at hj'
   obtain ⟨es, g1, g2⟩ := h.gr j g hj
   have hne : g ≠ G := hn.2.2 g (List.mem_of_getElem? hj') G (by simp)
   refine ⟨es, w8_far g1 hne k, ?_⟩
   rw [List.length_append, List.length_singleton, if_neg (by omega)] at g2 ⊢
   exact g2
 · have hj2 : j = Gs.length := by
     have := (List.getElem?_eq_some_iff.1 hj).1
     rw [List.length_append, List.length_singleton] at this
     omega
   subst hj2
   have : g = G := by simpa using hj.symm
   subst this
   refine ⟨_, w8_put d1 k, ?_⟩
   rw [List.length_append, List.length_singleton, if_pos rfl]
   exact d2.move hk
theorem Gt.great (h : Gt w W P H Gs 3000) (hl : Gs.length = 10) : BlsW W (some ⟨H, 0, none⟩) bgG.blocks := by
 obtain ⟨cs, h1, h2⟩ := h.wr
 refine great_bls h1 h2 hl (fun G hG => ?_)
 obtain ⟨j, hj, e⟩ := List.getElem_of_mem hG
 obtain ⟨ds, g1, g2⟩ := h.gr j G (by rw [List.getElem?_eq_getElem hj, e])
 refine ⟨ds, g1, ?_⟩
 split at g2 <;> exact g2
theorem Gt.cellsB (h : Gt w W P H Gs k) {j : Nat} (hj : j < 10) : ∀ r, r < 5 → W.cell? ⟨H, j * 5 + r, none⟩ = some (fB Gs j r) := fun r hr => by
 obtain ⟨cs, h1, h2⟩ := h.wr
 exact (h1.cell _).trans (h2 j r hj hr)
theorem Gt.freeB (h : Gt w W P H Gs k) (j : Nat) : W.frozen? ⟨H, j, none⟩ = false ∧ H < W.heap.size := by
 obtain ⟨cs, h1, _⟩ := h.wr
 exact ⟨h1.free j, h1.lt⟩
theorem Gt.last {G : Nat} (h : Gt w W P H (Gs ++ [G]) k) {j : Nat} (hj : j < 3000) : (∀ r, r < 8 → W.cell? ⟨G, j * 8 + r, none⟩ = some (fI k j r)) ∧ (∀ i, W.frozen? ⟨G, i, none⟩ = false) ∧ G < W.heap.size := by
 obtain ⟨ds, d1, d2⟩ := h.gr Gs.length G (by simp)
 rw [List.length_append, List.length_singleton, if_pos rfl] at d2
 exact ⟨fun r hr => (d1.cell _).trans (d2 j r hj hr), fun i => d1.free i, d1.lt⟩
end
end Go.Proofs.YtbjmbahpcoanoaaGreatDoor
