/-
  Package mread's value: the instruction behind an arrow to the left. Conditions: the library's tables, its errors, and the Ops' names are there.
-/
import Derived.Test.YtbjmbahpcoanoaaGreatDoorPk23
import Derived.Test.YtbjmbahpcoanoaaGreatDoorPk26
import Derived.Laws.ResultCell
namespace Go.Proofs.YtbjmbahpcoanoaaGreatDoor
open Go.RowKit

theorem ne_of_beq_false {a b : Int} (h : (a == b) = false) : a ≠ b := by simpa using h
/-- The instruction that is told: its box B. -/
structure Vw (w0 w W : World) (q g : Nat) (c : Cu) (cs : Array Value) : Prop where
 rp : Rp w0 W q g c
 b : Blk W w.heap.size 46 cs
 k : Keep w.heap.size g w W
 le : w0.heap.size ≤ w.heap.size
section
variable {w0 w W W' : World} {q g : Nat} {c d : Cu} {cs : Array Value}
theorem Vw.call (h : Vw w0 w W q g c cs) (hw : Went w0 W q g d W') : Vw w0 w W' q g d cs := by
 obtain ⟨ds, hds⟩ := cur_blk h.rp.C
 exact ⟨hw.1, Blk.keep h.b hw.2 (blk_ne h.b hds (by decide)), h.k.then_keep hw.2, h.le⟩
theorem Vw.put (h : Vw w0 w W q g c cs) (j : Nat) (u : Value) : Vw w0 w (W.setCell ⟨w.heap.size, j, none⟩ u) q g c (cs.setIfInBounds j u) :=
 ⟨⟨h.rp.C.keep (Keep.put _ _ _ _ _) h.b (by decide) (by decide), h.rp.R.far (p := ⟨w.heap.size, j, none⟩) (blk_ne h.rp.R h.b (by decide)) u, h.rp.be.setCell (p := ⟨w.heap.size, j, none⟩) h.le u, h.rp.hg, h.rp.fit⟩, h.b.put j u,
  h.k.trans ⟨rfl, rfl, rfl, by simp [World.setCell], fun k hk _ => Below.heap_setCell W ⟨w.heap.size, j, none⟩ u k (by show k ≠ w.heap.size; omega)⟩, h.le⟩
theorem Vw.new (h : Rp w0 w q g c) : Vw w0 w (w.alloc (.cells #[.int .i64 0, .int .i64 0, .int .i64 0, .int .i64 0, .int .i64 0, .int .i64 0, .slice none 0 0, .int .i64 0] 46)) q g c #[.int .i64 0, .int .i64 0, .int .i64 0, .int .i64 0, .int .i64 0, .int .i64 0, .slice none 0 0, .int .i64 0] :=
 ⟨h.below ((Below.refl _ _).alloc (Nat.le_refl _) _), Blk.new w _ _, Keep.alloc (Nat.le_refl _) g _, h.be.size⟩
end
def zI : Array Value := #[.int .i64 0, .int .i64 0, .int .i64 0, .int .i64 0, .int .i64 0, .int .i64 0, .slice none 0 0, .int .i64 0]
/-- What is told of it, and where the cursor is behind it. -/
def immLo : Int := -1099511627776
def immHi : Int := 1099511627776
def Cu.valC (c : Cu) : Cu :=
 if c.slotB then c.slotC
 else if opT c.nameT = 0 then c.regC
 else if opT c.nameT = 1 then c.name.num (-1099511627776) 1099511627776
 else if opT c.nameT = 11 then c.name.regC.num (-1099511627776) 1099511627776
 else c.name.regC.regC
def Cu.valI (c : Cu) (dst : Int) : Ii :=
 if c.slotB then ⟨17, dst, 0, 0, c.slotN, 0, [], 0⟩
 else if opT c.nameT = 0 then ⟨15, dst, c.regN, 0, 0, 0, [], 0⟩
 else if opT c.nameT = 1 then ⟨1, dst, 0, 0, c.name.numN (-1099511627776) 1099511627776, 0, [], 0⟩
 else if opT c.nameT = 11 then ⟨11, dst, c.name.regN, 0, c.name.regC.numN (-1099511627776) 1099511627776, 0, [], 0⟩
 else ⟨(opT c.nameT : Nat), dst, c.name.regN, c.name.regC.regN, 0, 0, [], 0⟩
theorem Fit.valC {c : Cu} (h : Fit c) : Fit c.valC := by
 unfold Cu.valC
 repeat' split
 · exact h.slotC
 · exact h.regC
 · exact h.name.num _ _
 · exact h.name.regC.num _ _
 · exact h.name.regC.regC
set_option maxRecDepth 100000 in
set_option maxHeartbeats 8000000 in
theorem valueP_any (w0 w : World) (q g : Nat) (c : Cu) (dst : Int) (hT : TabR w0) (h : Rp w0 w q g c) :
    Calls Tryz.prog 164 #[.pointer (some ⟨q, 0, none⟩), .int .i64 dst] w fun e w' => e = .returned (insV (c.valI dst) none 0) ∧ Went w0 w q g c.valC w' := by
 have V0 := Lib.hid (Vw.new h)
 have S := Lib.hid (slotP_any w0 _ q g c hT V0.out.rp)
 have P : Hid (∀ W d, Rp w0 W q g d → Calls Tryz.prog 185 #[.pointer (some ⟨g, 0, none⟩)] W fun e w' => e = .returned (.string d.nameT) ∧ Went w0 W q g d w') := fun W d h1 => went_below h1 (peek_any g d W h1.C)
 have O : Hid (∀ W d, Rp w0 W q g d → Calls Tryz.prog 190 #[.string d.nameT] W fun e w' => e = .returned (.int .i64 (opT d.nameT : Nat)) ∧ W = w') := fun W d h1 => opOf_any d.nameT W (hT.names.below h1.be)
 have NM : Hid (∀ W d, Rp w0 W q g d → Calls Tryz.prog 186 #[.pointer (some ⟨g, 0, none⟩)] W fun e w' => e = .returned (.string d.nameT) ∧ Went w0 W q g d.name w') := fun W d h1 => went_call h1 h1.fit.name (nameC_any g d W h1.C)
 have R : Hid (∀ W d, Rp w0 W q g d → _) := fun W d h1 => regP_any w0 W q g d hT h1
 have IM : Hid (∀ W d, Rp w0 W q g d → _) := fun W d h1 => immP_any w0 W q g d h1
 clear h
 cases hs : c.slotB
 case true =>
  have HC : Hid (c.valC = c.slotC) := by show c.valC = _; unfold Cu.valC; rw [if_pos hs]
  have HI : Hid (c.valI dst = ⟨17, dst, 0, 0, c.slotN, 0, [], 0⟩) := by show c.valI dst = _; unfold Cu.valI; rw [if_pos hs]
  rw [hs] at S
  clear hs P O NM R IM
  generalize c.valC = D at *
  generalize c.valI dst = x at *
  generalize c.slotC = c1 at *
  generalize c.slotN = n at *
  go_enter Tryz.func164, Tryz.ntmps164
  go_wp2_with fail
  refine S.out.mono ?_
  rintro e w1 ⟨rfl, h1⟩
  have V1 := Lib.hid (V0.out.call h1)
  obtain ⟨b0, b1, b2, b3, b4, b5, b6, b7⟩ : (w1.cell? ⟨w.heap.size, 0, none⟩ = some (.int .i64 0)) ∧ (w1.cell? ⟨w.heap.size, 1, none⟩ = some (.int .i64 0)) ∧ (w1.cell? ⟨w.heap.size, 2, none⟩ = some (.int .i64 0)) ∧ (w1.cell? ⟨w.heap.size, 3, none⟩ = some (.int .i64 0)) ∧ (w1.cell? ⟨w.heap.size, 4, none⟩ = some (.int .i64 0)) ∧ (w1.cell? ⟨w.heap.size, 5, none⟩ = some (.int .i64 0)) ∧ (w1.cell? ⟨w.heap.size, 6, none⟩ = some (.slice none 0 0)) ∧ (w1.cell? ⟨w.heap.size, 7, none⟩ = some (.int .i64 0)) :=
   ⟨V1.out.b.cell 0, V1.out.b.cell 1, V1.out.b.cell 2, V1.out.b.cell 3, V1.out.b.cell 4, V1.out.b.cell 5, V1.out.b.cell 6, V1.out.b.cell 7⟩
  have z0 := V1.out.b.free 0
  have z1 := V1.out.b.free 1
  have z2 := V1.out.b.free 2
  have z3 := V1.out.b.free 3
  have z4 := V1.out.b.free 4
  have z5 := V1.out.b.free 5
  have z6 := V1.out.b.free 6
  have z7 := V1.out.b.free 7
  clear h1 S V0
  go_wp2
  (try simp only [Exit.inBlock, Exit.then])
  have V9 := (((((((V1.out.put 0 (.int .i64 17)).put 1 (.int .i64 dst)).put 2 (.int .i64 0)).put 3 (.int .i64 0)).put 4 (.int .i64 n)).put 5 (.int .i64 0)).put 6 (.slice none 0 0)).put 7 (.int .i64 0)
  refine bodyPost_ret (results_cell_row rfl _ _ w.heap.size 46 _ (0, 0) _ (by simp) V9.b Tryz.underlying46 rfl ins_size) rfl ?_
  exact ⟨by rw [HI.out]; rfl, by rw [HC.out]; exact ⟨V9.rp, V9.k⟩⟩
 case false =>
  have HSC : Hid (c.slotC = c) := by show c.slotC = c; unfold Cu.slotC; rw [if_neg (by rw [hs]; decide)]
  have hs' : ¬ c.slotB = true := by rw [hs]; decide
  rw [hs, HSC.out] at S
  obtain ⟨o, ho⟩ : ∃ o : Int, o = ((opT c.nameT : Nat) : Int) := ⟨_, rfl⟩
  have O1 : Hid (∀ W, Rp w0 W q g c → Calls Tryz.prog 190 #[.string c.nameT] W fun e w' => e = .returned (.int .i64 o) ∧ W = w') := fun W h1 => by rw [ho]; exact O.out W c h1
  have P1 := Lib.hid (fun W => P.out W c)
  have NM1 := Lib.hid (fun W => NM.out W c)
  have R1 := Lib.hid (fun W => R.out W c)
  clear O P NM
  have HO := Lib.hid ho
  clear ho hs
  have hall : (o == 0) = true ∨ ((o == 0) = false ∧ (o == 1) = true) ∨ ((o == 0) = false ∧ (o == 1) = false ∧ (o == 11) = true) ∨ ((o == 0) = false ∧ (o == 1) = false ∧ (o == 11) = false) := by
   cases o == 0 <;> cases o == 1 <;> cases o == 11 <;> simp
  rcases hall with h0 | ⟨h0, h1⟩ | ⟨h0, h1, h2⟩ | ⟨h0, h1, h2⟩
  · have k0 : opT c.nameT = 0 := by have := HO.out; have := eq_of_beq h0; omega
    have HC : Hid (c.valC = c.regC) := by show c.valC = _; unfold Cu.valC; rw [if_neg hs', if_pos k0]
    have HI : Hid (c.valI dst = ⟨15, dst, c.regN, 0, 0, 0, [], 0⟩) := by show c.valI dst = _; unfold Cu.valI; rw [if_neg hs', if_pos k0]
    clear k0 hs' HO HSC
    generalize c.valC = D at *
    generalize c.valI dst = x at *
    have RR := Lib.hid (fun W => R1.out W)
    clear R R1 IM NM1
    generalize c.regC = d1 at *
    generalize c.regN = n1 at *
    generalize c.nameT = nt at *
    go_enter Tryz.func164, Tryz.ntmps164
    go_wp2_with fail
    refine S.out.mono ?_
    rintro e w1 ⟨rfl, h1⟩
    have V1 := Lib.hid (V0.out.call h1)
    clear h1
    have m1 := V1.out.rp.cell
    clear S V0
    go_wp2_with fail
    refine (P1.out w1 V1.out.rp).mono ?_
    rintro e w2 ⟨rfl, h2⟩
    have V2 := Lib.hid (V1.out.call h2)
    clear h2
    clear P1 V1 m1
    go_wp2_with fail
    refine (O1.out w2 V2.out.rp).mono ?_
    rintro e w9 ⟨rfl, rfl⟩
    clear O1
    go_wp2_with fail
    refine (RR.out w2 V2.out.rp).mono ?_
    rintro e w3 ⟨rfl, h3⟩
    have V3 := Lib.hid (V2.out.call h3)
    clear h3
    obtain ⟨b0, b1, b2, b3, b4, b5, b6, b7⟩ : (w3.cell? ⟨w.heap.size, 0, none⟩ = some (.int .i64 0)) ∧ (w3.cell? ⟨w.heap.size, 1, none⟩ = some (.int .i64 0)) ∧ (w3.cell? ⟨w.heap.size, 2, none⟩ = some (.int .i64 0)) ∧ (w3.cell? ⟨w.heap.size, 3, none⟩ = some (.int .i64 0)) ∧ (w3.cell? ⟨w.heap.size, 4, none⟩ = some (.int .i64 0)) ∧ (w3.cell? ⟨w.heap.size, 5, none⟩ = some (.int .i64 0)) ∧ (w3.cell? ⟨w.heap.size, 6, none⟩ = some (.slice none 0 0)) ∧ (w3.cell? ⟨w.heap.size, 7, none⟩ = some (.int .i64 0)) :=
     ⟨V3.out.b.cell 0, V3.out.b.cell 1, V3.out.b.cell 2, V3.out.b.cell 3, V3.out.b.cell 4, V3.out.b.cell 5, V3.out.b.cell 6, V3.out.b.cell 7⟩
    have z0 := V3.out.b.free 0
    have z1 := V3.out.b.free 1
    have z2 := V3.out.b.free 2
    have z3 := V3.out.b.free 3
    have z4 := V3.out.b.free 4
    have z5 := V3.out.b.free 5
    have z6 := V3.out.b.free 6
    have z7 := V3.out.b.free 7
    clear V2 RR
    go_wp2
    (try simp only [Exit.inBlock, Exit.then])
    have V9 := ((((((((V3.out.put 0 (.int .i64 15)).put 1 (.int .i64 dst)).put 2 (.int .i64 n1)).put 3 (.int .i64 0)).put 4 (.int .i64 0)).put 5 (.int .i64 0)).put 6 (.slice none 0 0)).put 7 (.int .i64 0))
    refine bodyPost_ret (results_cell_row rfl _ _ w.heap.size 46 _ (0, 0) _ (by simp) V9.b Tryz.underlying46 rfl ins_size) rfl ?_
    exact ⟨by rw [HI.out]; rfl, by rw [HC.out]; exact ⟨V9.rp, V9.k⟩⟩
  · have k0 : ¬ opT c.nameT = 0 := by have := HO.out; have := ne_of_beq_false h0; omega
    have k1 : opT c.nameT = 1 := by have := HO.out; have := eq_of_beq h1; omega
    have ko : o = 1 := eq_of_beq h1
    have HC : Hid (c.valC = c.name.num (-1099511627776) 1099511627776) := by show c.valC = _; unfold Cu.valC; rw [if_neg hs', if_neg k0, if_pos k1]
    have HI : Hid (c.valI dst = ⟨o, dst, 0, 0, c.name.numN (-1099511627776) 1099511627776, 0, [], 0⟩) := by show c.valI dst = _; unfold Cu.valI; rw [if_neg hs', if_neg k0, if_pos k1]; rw [ko]
    clear k0 k1 ko hs' HO HSC
    generalize c.valC = D at *
    generalize c.valI dst = x at *
    have I1 := Lib.hid (fun W => IM.out W c.name)
    clear R R1 IM
    generalize c.name.numN (-1099511627776) 1099511627776 = n1 at *
    generalize c.name.num (-1099511627776) 1099511627776 = d2 at *
    generalize c.name = d1 at *
    generalize c.nameT = nt at *
    go_enter Tryz.func164, Tryz.ntmps164
    go_wp2_with fail
    refine S.out.mono ?_
    rintro e w1 ⟨rfl, h1⟩
    have V1 := Lib.hid (V0.out.call h1)
    clear h1
    have m1 := V1.out.rp.cell
    clear S V0
    go_wp2_with fail
    refine (P1.out w1 V1.out.rp).mono ?_
    rintro e w2 ⟨rfl, h2⟩
    have V2 := Lib.hid (V1.out.call h2)
    clear h2
    clear P1 V1 m1
    go_wp2_with fail
    refine (O1.out w2 V2.out.rp).mono ?_
    rintro e w9 ⟨rfl, rfl⟩
    clear O1
    have m2 := V2.out.rp.cell
    go_wp2_with fail
    refine (NM1.out w2 V2.out.rp).mono ?_
    rintro e w3 ⟨rfl, h3⟩
    have V3 := Lib.hid (V2.out.call h3)
    clear h3
    clear NM1 V2 m2
    go_wp2_with fail
    refine (I1.out w3 V3.out.rp).mono ?_
    rintro e w4 ⟨rfl, h4⟩
    have V4 := Lib.hid (V3.out.call h4)
    clear h4
    obtain ⟨b0, b1, b2, b3, b4, b5, b6, b7⟩ : (w4.cell? ⟨w.heap.size, 0, none⟩ = some (.int .i64 0)) ∧ (w4.cell? ⟨w.heap.size, 1, none⟩ = some (.int .i64 0)) ∧ (w4.cell? ⟨w.heap.size, 2, none⟩ = some (.int .i64 0)) ∧ (w4.cell? ⟨w.heap.size, 3, none⟩ = some (.int .i64 0)) ∧ (w4.cell? ⟨w.heap.size, 4, none⟩ = some (.int .i64 0)) ∧ (w4.cell? ⟨w.heap.size, 5, none⟩ = some (.int .i64 0)) ∧ (w4.cell? ⟨w.heap.size, 6, none⟩ = some (.slice none 0 0)) ∧ (w4.cell? ⟨w.heap.size, 7, none⟩ = some (.int .i64 0)) :=
     ⟨V4.out.b.cell 0, V4.out.b.cell 1, V4.out.b.cell 2, V4.out.b.cell 3, V4.out.b.cell 4, V4.out.b.cell 5, V4.out.b.cell 6, V4.out.b.cell 7⟩
    have z0 := V4.out.b.free 0
    have z1 := V4.out.b.free 1
    have z2 := V4.out.b.free 2
    have z3 := V4.out.b.free 3
    have z4 := V4.out.b.free 4
    have z5 := V4.out.b.free 5
    have z6 := V4.out.b.free 6
    have z7 := V4.out.b.free 7
    clear V3 I1
    go_wp2
    (try simp only [Exit.inBlock, Exit.then])
    have V9 := ((((((((V4.out.put 0 (.int .i64 o)).put 1 (.int .i64 dst)).put 2 (.int .i64 0)).put 3 (.int .i64 0)).put 4 (.int .i64 n1)).put 5 (.int .i64 0)).put 6 (.slice none 0 0)).put 7 (.int .i64 0))
    refine bodyPost_ret (results_cell_row rfl _ _ w.heap.size 46 _ (0, 0) _ (by simp) V9.b Tryz.underlying46 rfl ins_size) rfl ?_
    exact ⟨by rw [HI.out]; rfl, by rw [HC.out]; exact ⟨V9.rp, V9.k⟩⟩
  · have k0 : ¬ opT c.nameT = 0 := by have := HO.out; have := ne_of_beq_false h0; omega
    have k1 : ¬ opT c.nameT = 1 := by have := HO.out; have := ne_of_beq_false h1; omega
    have k2 : opT c.nameT = 11 := by have := HO.out; have := eq_of_beq h2; omega
    have ko : o = 11 := eq_of_beq h2
    have HC : Hid (c.valC = c.name.regC.num (-1099511627776) 1099511627776) := by show c.valC = _; unfold Cu.valC; rw [if_neg hs', if_neg k0, if_neg k1, if_pos k2]
    have HI : Hid (c.valI dst = ⟨o, dst, c.name.regN, 0, c.name.regC.numN (-1099511627776) 1099511627776, 0, [], 0⟩) := by show c.valI dst = _; unfold Cu.valI; rw [if_neg hs', if_neg k0, if_neg k1, if_pos k2]; rw [ko]
    clear k0 k1 k2 ko hs' HO HSC
    generalize c.valC = D at *
    generalize c.valI dst = x at *
    have RR := Lib.hid (fun W => R.out W c.name)
    have I1 := Lib.hid (fun W => IM.out W c.name.regC)
    clear R R1 IM
    generalize c.name.regC.numN (-1099511627776) 1099511627776 = n2 at *
    generalize c.name.regC.num (-1099511627776) 1099511627776 = d3 at *
    generalize c.name.regC = d2 at *
    generalize c.name.regN = n1 at *
    generalize c.name = d1 at *
    generalize c.nameT = nt at *
    go_enter Tryz.func164, Tryz.ntmps164
    go_wp2_with fail
    refine S.out.mono ?_
    rintro e w1 ⟨rfl, h1⟩
    have V1 := Lib.hid (V0.out.call h1)
    clear h1
    have m1 := V1.out.rp.cell
    clear S V0
    go_wp2_with fail
    refine (P1.out w1 V1.out.rp).mono ?_
    rintro e w2 ⟨rfl, h2⟩
    have V2 := Lib.hid (V1.out.call h2)
    clear h2
    clear P1 V1 m1
    go_wp2_with fail
    refine (O1.out w2 V2.out.rp).mono ?_
    rintro e w9 ⟨rfl, rfl⟩
    clear O1
    have m2 := V2.out.rp.cell
    go_wp2_with fail
    refine (NM1.out w2 V2.out.rp).mono ?_
    rintro e w3 ⟨rfl, h3⟩
    have V3 := Lib.hid (V2.out.call h3)
    clear h3
    clear NM1 V2 m2
    go_wp2_with fail
    refine (RR.out w3 V3.out.rp).mono ?_
    rintro e w4 ⟨rfl, h4⟩
    have V4 := Lib.hid (V3.out.call h4)
    clear h4
    go_wp2_with fail
    refine (I1.out w4 V4.out.rp).mono ?_
    rintro e w5 ⟨rfl, h5⟩
    have V5 := Lib.hid (V4.out.call h5)
    clear h5
    obtain ⟨b0, b1, b2, b3, b4, b5, b6, b7⟩ : (w5.cell? ⟨w.heap.size, 0, none⟩ = some (.int .i64 0)) ∧ (w5.cell? ⟨w.heap.size, 1, none⟩ = some (.int .i64 0)) ∧ (w5.cell? ⟨w.heap.size, 2, none⟩ = some (.int .i64 0)) ∧ (w5.cell? ⟨w.heap.size, 3, none⟩ = some (.int .i64 0)) ∧ (w5.cell? ⟨w.heap.size, 4, none⟩ = some (.int .i64 0)) ∧ (w5.cell? ⟨w.heap.size, 5, none⟩ = some (.int .i64 0)) ∧ (w5.cell? ⟨w.heap.size, 6, none⟩ = some (.slice none 0 0)) ∧ (w5.cell? ⟨w.heap.size, 7, none⟩ = some (.int .i64 0)) :=
     ⟨V5.out.b.cell 0, V5.out.b.cell 1, V5.out.b.cell 2, V5.out.b.cell 3, V5.out.b.cell 4, V5.out.b.cell 5, V5.out.b.cell 6, V5.out.b.cell 7⟩
    have z0 := V5.out.b.free 0
    have z1 := V5.out.b.free 1
    have z2 := V5.out.b.free 2
    have z3 := V5.out.b.free 3
    have z4 := V5.out.b.free 4
    have z5 := V5.out.b.free 5
    have z6 := V5.out.b.free 6
    have z7 := V5.out.b.free 7
    clear V3 V4 I1 RR
    go_wp2
    (try simp only [Exit.inBlock, Exit.then])
    have V9 := ((((((((V5.out.put 0 (.int .i64 o)).put 1 (.int .i64 dst)).put 2 (.int .i64 n1)).put 3 (.int .i64 0)).put 4 (.int .i64 n2)).put 5 (.int .i64 0)).put 6 (.slice none 0 0)).put 7 (.int .i64 0))
    refine bodyPost_ret (results_cell_row rfl _ _ w.heap.size 46 _ (0, 0) _ (by simp) V9.b Tryz.underlying46 rfl ins_size) rfl ?_
    exact ⟨by rw [HI.out]; rfl, by rw [HC.out]; exact ⟨V9.rp, V9.k⟩⟩
  · have k0 : ¬ opT c.nameT = 0 := by have := HO.out; have := ne_of_beq_false h0; omega
    have k1 : ¬ opT c.nameT = 1 := by have := HO.out; have := ne_of_beq_false h1; omega
    have k2 : ¬ opT c.nameT = 11 := by have := HO.out; have := ne_of_beq_false h2; omega
    have HC : Hid (c.valC = c.name.regC.regC) := by show c.valC = _; unfold Cu.valC; rw [if_neg hs', if_neg k0, if_neg k1, if_neg k2]
    have HI : Hid (c.valI dst = ⟨o, dst, c.name.regN, c.name.regC.regN, 0, 0, [], 0⟩) := by show c.valI dst = _; unfold Cu.valI; rw [if_neg hs', if_neg k0, if_neg k1, if_neg k2]; rw [HO.out]
    clear k0 k1 k2 hs' HO HSC
    generalize c.valC = D at *
    generalize c.valI dst = x at *
    have RR := Lib.hid (fun W => R.out W c.name)
    have RQ := Lib.hid (fun W => R.out W c.name.regC)
    clear R R1 IM
    generalize c.name.regC.regN = n2 at *
    generalize c.name.regC.regC = d3 at *
    generalize c.name.regC = d2 at *
    generalize c.name.regN = n1 at *
    generalize c.name = d1 at *
    generalize c.nameT = nt at *
    go_enter Tryz.func164, Tryz.ntmps164
    go_wp2_with fail
    refine S.out.mono ?_
    rintro e w1 ⟨rfl, h1⟩
    have V1 := Lib.hid (V0.out.call h1)
    clear h1
    have m1 := V1.out.rp.cell
    clear S V0
    go_wp2_with fail
    refine (P1.out w1 V1.out.rp).mono ?_
    rintro e w2 ⟨rfl, h2⟩
    have V2 := Lib.hid (V1.out.call h2)
    clear h2
    clear P1 V1 m1
    go_wp2_with fail
    refine (O1.out w2 V2.out.rp).mono ?_
    rintro e w9 ⟨rfl, rfl⟩
    clear O1
    have m2 := V2.out.rp.cell
    go_wp2_with fail
    refine (NM1.out w2 V2.out.rp).mono ?_
    rintro e w3 ⟨rfl, h3⟩
    have V3 := Lib.hid (V2.out.call h3)
    clear h3
    clear NM1 V2 m2
    go_wp2_with fail
    refine (RR.out w3 V3.out.rp).mono ?_
    rintro e w4 ⟨rfl, h4⟩
    have V4 := Lib.hid (V3.out.call h4)
    clear h4
    go_wp2_with fail
    refine (RQ.out w4 V4.out.rp).mono ?_
    rintro e w5 ⟨rfl, h5⟩
    have V5 := Lib.hid (V4.out.call h5)
    clear h5
    obtain ⟨b0, b1, b2, b3, b4, b5, b6, b7⟩ : (w5.cell? ⟨w.heap.size, 0, none⟩ = some (.int .i64 0)) ∧ (w5.cell? ⟨w.heap.size, 1, none⟩ = some (.int .i64 0)) ∧ (w5.cell? ⟨w.heap.size, 2, none⟩ = some (.int .i64 0)) ∧ (w5.cell? ⟨w.heap.size, 3, none⟩ = some (.int .i64 0)) ∧ (w5.cell? ⟨w.heap.size, 4, none⟩ = some (.int .i64 0)) ∧ (w5.cell? ⟨w.heap.size, 5, none⟩ = some (.int .i64 0)) ∧ (w5.cell? ⟨w.heap.size, 6, none⟩ = some (.slice none 0 0)) ∧ (w5.cell? ⟨w.heap.size, 7, none⟩ = some (.int .i64 0)) :=
     ⟨V5.out.b.cell 0, V5.out.b.cell 1, V5.out.b.cell 2, V5.out.b.cell 3, V5.out.b.cell 4, V5.out.b.cell 5, V5.out.b.cell 6, V5.out.b.cell 7⟩
    have z0 := V5.out.b.free 0
    have z1 := V5.out.b.free 1
    have z2 := V5.out.b.free 2
    have z3 := V5.out.b.free 3
    have z4 := V5.out.b.free 4
    have z5 := V5.out.b.free 5
    have z6 := V5.out.b.free 6
    have z7 := V5.out.b.free 7
    clear V3 V4 RR RQ
    go_wp2
    (try simp only [Exit.inBlock, Exit.then])
    have V9 := ((((((((V5.out.put 0 (.int .i64 o)).put 1 (.int .i64 dst)).put 2 (.int .i64 n1)).put 3 (.int .i64 n2)).put 4 (.int .i64 0)).put 5 (.int .i64 0)).put 6 (.slice none 0 0)).put 7 (.int .i64 0))
    refine bodyPost_ret (results_cell_row rfl _ _ w.heap.size 46 _ (0, 0) _ (by simp) V9.b Tryz.underlying46 rfl ins_size) rfl ?_
    exact ⟨by rw [HI.out]; rfl, by rw [HC.out]; exact ⟨V9.rp, V9.k⟩⟩
end Go.Proofs.YtbjmbahpcoanoaaGreatDoor
