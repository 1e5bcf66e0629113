/-
  The document's reader of targets: a line: its state, its first path. Conditions: as each theorem states.
  The document's reader of blocks, of a target, plainly: a cursor that broke stays where it is. No condition beyond those that each theorem states.
  The document's reader of targets: a block's state, a target's state, in memory. Conditions: as each theorem states.
-/
import Derived.Test.YtbjmbahpcoanoaaGreatDoorPk42
import Derived.Test.YtbjmbahpcoanoaaGreatDoorPk41
import Derived.Test.YtbjmbahpcoanoaaGreatDoorPk31
import Derived.Test.YtbjmbahpcoanoaaGreatDoorPk35
namespace Go.Proofs.YtbjmbahpcoanoaaGreatDoor
open Go.RowKit

/-- The reader, and the two results' boxes, the first ones behind the world w. -/
structure Rl (w0 w W : World) (g : Nat) (c : Cu) (cs ds : Array Value) : Prop where
 rr : Rr w0 W g c
 b : Blk W w.heap.size 46 cs
 e : Blk W (w.heap.size + 1) 51 ds
 k : Keep w.heap.size g w W
 lt : g < w.heap.size
def zT : Array Value := #[.int .i64 0, .int .i64 0, .int .i64 0, .int .i64 0]
theorem Rl.new {w0 w : World} {g : Nat} {c : Cu} (h : Rr w0 w g c) : Rl w0 w ((w.alloc (.cells zI 46)).alloc (.cells zT 51)) g c zI zT := by
 obtain ⟨ds, hds⟩ := h.cur.blk
 exact ⟨h.below (((Below.refl _ _).alloc (Nat.le_refl _) _).alloc (by simp) _), (Blk.new w _ _).alloc _, new_two w _ _ _, (Keep.alloc (Nat.le_refl _) g _).trans (Keep.alloc (by simp) g _), hds.lt⟩
theorem Rl.did {w0 w W W' : World} {g : Nat} {c d : Cu} {cs ds : Array Value} (h : Rl w0 w W g c cs ds) (hd : Did w0 W g d W') : Rl w0 w W' g d cs ds :=
 ⟨hd.1, Blk.keep h.b hd.2 (by have := h.lt; omega), Blk.keep h.e hd.2 (by have := h.lt; omega), h.k.then_keep hd.2, h.lt⟩
theorem Rl.far {w0 w W : World} {g : Nat} {c : Cu} {cs ds : Array Value} (h : Rl w0 w W g c cs ds) (hw : w0.heap.size ≤ w.heap.size) (i : Nat) (u : Value) : Rl w0 w (W.setCell ⟨w.heap.size, i, none⟩ u) g c (cs.setIfInBounds i u) ds :=
 ⟨h.rr.put h.b (Nat.le_refl _) hw i u, h.b.put i u, h.e.far (p := ⟨w.heap.size, i, none⟩) (by show w.heap.size + 1 ≠ w.heap.size; omega) u, h.k.trans ⟨rfl, rfl, rfl, by simp [World.setCell], fun k hk _ => Below.heap_setCell W ⟨w.heap.size, i, none⟩ u k (by show k ≠ w.heap.size; omega)⟩, h.lt⟩
theorem Rr.putT {w0 w W : World} {g p : Nat} {c : Cu} {cs : Array Value} (h : Rr w0 W g c) (hb : Blk W p 51 cs) (hp : w.heap.size ≤ p) (hw : w0.heap.size ≤ w.heap.size) (i : Nat) (u : Value) : Rr w0 (W.setCell ⟨p, i, none⟩ u) g c :=
 ⟨h.cur.keep (Keep.put W.heap.size p W i u) hb (by decide) (by decide), h.fit, h.be.setCell (p := ⟨p, i, none⟩) (Nat.le_trans hw hp) u, h.hg⟩
theorem Rl.tar {w0 w W : World} {g : Nat} {c : Cu} {cs ds : Array Value} (h : Rl w0 w W g c cs ds) (hw : w0.heap.size ≤ w.heap.size) (i : Nat) (u : Value) : Rl w0 w (W.setCell ⟨w.heap.size + 1, i, none⟩ u) g c cs (ds.setIfInBounds i u) :=
 ⟨h.rr.putT h.e (Nat.le_succ _) hw i u, h.b.far (p := ⟨w.heap.size + 1, i, none⟩) (by show w.heap.size ≠ w.heap.size + 1; omega) u, h.e.put i u, h.k.trans ⟨rfl, rfl, rfl, by simp [World.setCell], fun k hk _ => Below.heap_setCell W ⟨w.heap.size + 1, i, none⟩ u k (by show k ≠ w.heap.size + 1; omega)⟩, h.lt⟩
theorem Rl.put8 {w0 w W : World} {g : Nat} {c : Cu} {ds : Array Value} (h : Rl w0 w W g c (#[.int .i64 0, .int .i64 0, .int .i64 0, .int .i64 0, .int .i64 0, .int .i64 0, .slice none 0 0, .int .i64 0] : Array Value) ds) (hw : w0.heap.size ≤ w.heap.size) (x : Ii) : Rl w0 w (put8 W w.heap.size x) g c (insC x none 0) ds := by
 have h8 := ((((((((h.far hw 0 (.int .i64 x.op)).far hw 1 (.int .i64 x.dst)).far hw 2 (.int .i64 x.a)).far hw 3 (.int .i64 x.b)).far hw 4 (.int .i64 x.imm)).far hw 5 (.int .i64 x.callee)).far hw 6 (.slice none x.args.length 0)).far hw 7 (.int .i64 x.many))
 have e : (((((((((#[.int .i64 0, .int .i64 0, .int .i64 0, .int .i64 0, .int .i64 0, .int .i64 0, .slice none 0 0, .int .i64 0] : Array Value).setIfInBounds 0 (.int .i64 x.op)).setIfInBounds 1 (.int .i64 x.dst)).setIfInBounds 2 (.int .i64 x.a)).setIfInBounds 3 (.int .i64 x.b)).setIfInBounds 4 (.int .i64 x.imm)).setIfInBounds 5 (.int .i64 x.callee)).setIfInBounds 6 (.slice none x.args.length 0)).setIfInBounds 7 (.int .i64 x.many)) = insC x none 0 := by simp [insC]
 rw [e] at h8
 exact h8
def put4 (W : World) (p : Nat) (t : Tt) : World := (((W.setCell ⟨p, 0, none⟩ (.int .i64 t.kind)).setCell ⟨p, 1, none⟩ (.int .i64 t.a)).setCell ⟨p, 2, none⟩ (.int .i64 t.t0)).setCell ⟨p, 3, none⟩ (.int .i64 t.t1)
theorem Rl.put4 {w0 w W : World} {g : Nat} {c : Cu} {cs : Array Value} (h : Rl w0 w W g c cs (#[.int .i64 0, .int .i64 0, .int .i64 0, .int .i64 0] : Array Value)) (hw : w0.heap.size ≤ w.heap.size) (t : Tt) : Rl w0 w (put4 W (w.heap.size + 1) t) g c cs #[.int .i64 t.kind, .int .i64 t.a, .int .i64 t.t0, .int .i64 t.t1] := by
 have h8 := ((((h.tar hw 0 (.int .i64 t.kind)).tar hw 1 (.int .i64 t.a)).tar hw 2 (.int .i64 t.t0)).tar hw 3 (.int .i64 t.t1))
 have e : (((((#[.int .i64 0, .int .i64 0, .int .i64 0, .int .i64 0] : Array Value).setIfInBounds 0 (.int .i64 t.kind)).setIfInBounds 1 (.int .i64 t.a)).setIfInBounds 2 (.int .i64 t.t0)).setIfInBounds 3 (.int .i64 t.t1)) = #[.int .i64 t.kind, .int .i64 t.a, .int .i64 t.t0, .int .i64 t.t1] := by simp
 rw [e] at h8
 exact h8
theorem results_cells2 {fn : Func} {p q v : Tmp} {ty tz : TypeId} (h : fn.results = #[.cell p ty, .cell q tz, .tmp v]) (tmps : Array Value) (P : Program) (w : World) :
    (results fn tmps).run P w =
      ((asAddr (tmps.getD p undef)).run P w).andThen fun a w₁ => ((loadVar ty a).run P w₁).andThen fun y w₂ => ((asAddr (tmps.getD q undef)).run P w₂).andThen fun b w₃ => ((loadVar tz b).run P w₃).andThen fun z w₄ => .ok (.tuple #[y, z, tmps.getD v undef]) w₄ := by
 simp only [results, h]
 simp [Sem.run_bind, Result.andThen]
theorem term4_size : (Tryz.prog.info? 51).map (·.size) = some 4 := by kernel_rfl
theorem line_results : Tryz.f79.results = #[.cell 2 46, .cell 3 51, .tmp 4] := by kernel_rfl
set_option maxRecDepth 100000 in
set_option maxHeartbeats 4000000 in
theorem line_trap {w0 w : World} {g : Nat} {c : Cu} (h : Rr w0 w g c) (kk : c.keyB kTr = true) : Calls Tryz.prog 79 #[.pointer (some ⟨g, 0, none⟩)] w fun e w' => e = .returned (.tuple #[insV ⟨0, 0, 0, 0, 0, 0, [], 0⟩ none 0, termV ⟨4, 0, 0, 0⟩, .bool true]) ∧ Did w0 w g (c.key kTr) w' := by
 have V0 := Lib.hid (Rl.new h)
 have HW0 : Hid (w0.heap.size ≤ w.heap.size) := h.be.size
 have KY : Hid (∀ (s : ByteArray) W, Rr w0 W g c → _) := fun s W h => rr_key s h
 have SZ : Hid (zI = #[.int .i64 0, .int .i64 0, .int .i64 0, .int .i64 0, .int .i64 0, .int .i64 0, .slice none 0 0, .int .i64 0] ∧ zT = #[.int .i64 0, .int .i64 0, .int .i64 0, .int .i64 0]) := ⟨rfl, rfl⟩
 rw [SZ.out.1, SZ.out.2] at V0
 unfold kTr at kk ⊢
 clear h
 go_enter Tryz.func79, Tryz.ntmps79
 go_upto_region 1 with fail
 generalize (w.alloc (.cells #[.int .i64 0, .int .i64 0, .int .i64 0, .int .i64 0, .int .i64 0, .int .i64 0, .slice none 0 0, .int .i64 0] 46)).alloc (.cells #[.int .i64 0, .int .i64 0, .int .i64 0, .int .i64 0] 51) = W1 at *
 go_wp2_with fail
 refine (KY.out ⟨#[116, 114, 97, 112]⟩ W1 V0.out.rr).mono ?_
 rintro e w2 ⟨rfl, hd⟩
 have V2 := Lib.hid (V0.out.did hd)
 rw [kk]
 clear hd V0 kk
 have y0 : w2.cell? ⟨w.heap.size, 0, none⟩ = some (.int .i64 0) := V2.out.b.cell 0
 have y1 : w2.cell? ⟨w.heap.size, 1, none⟩ = some (.int .i64 0) := V2.out.b.cell 1
 have y2 : w2.cell? ⟨w.heap.size, 2, none⟩ = some (.int .i64 0) := V2.out.b.cell 2
 have y3 : w2.cell? ⟨w.heap.size, 3, none⟩ = some (.int .i64 0) := V2.out.b.cell 3
 have y4 : w2.cell? ⟨w.heap.size, 4, none⟩ = some (.int .i64 0) := V2.out.b.cell 4
 have y5 : w2.cell? ⟨w.heap.size, 5, none⟩ = some (.int .i64 0) := V2.out.b.cell 5
 have y6 : w2.cell? ⟨w.heap.size, 6, none⟩ = some (.slice none 0 0) := V2.out.b.cell 6
 have y7 : w2.cell? ⟨w.heap.size, 7, none⟩ = some (.int .i64 0) := V2.out.b.cell 7
 have z0 := V2.out.b.free 0
 have z1 := V2.out.b.free 1
 have z2 := V2.out.b.free 2
 have z3 := V2.out.b.free 3
 have z4 := V2.out.b.free 4
 have z5 := V2.out.b.free 5
 have z6 := V2.out.b.free 6
 have z7 := V2.out.b.free 7
 have p0 : w2.cell? ⟨w.heap.size + 1, 0, none⟩ = some (.int .i64 0) := V2.out.e.cell 0
 have p1 : w2.cell? ⟨w.heap.size + 1, 1, none⟩ = some (.int .i64 0) := V2.out.e.cell 1
 have p2 : w2.cell? ⟨w.heap.size + 1, 2, none⟩ = some (.int .i64 0) := V2.out.e.cell 2
 have p3 : w2.cell? ⟨w.heap.size + 1, 3, none⟩ = some (.int .i64 0) := V2.out.e.cell 3
 have q0 := V2.out.e.free 0
 have q1 := V2.out.e.free 1
 have q2 := V2.out.e.free 2
 have q3 := V2.out.e.free 3
 go_wp2
 (try simp only [Exit.inBlock, Exit.then])
 have hend := (V2.out.put8 HW0.out ⟨0, 0, 0, 0, 0, 0, [], 0⟩).put4 HW0.out ⟨4, 0, 0, 0⟩
 have l1 := run_loadVar_row (P := Tryz.prog) _ w.heap.size 46 46 _ (0, 0) _ hend.b Tryz.underlying46 rfl ins8_size
 have l2 := run_loadVar_row (P := Tryz.prog) _ (w.heap.size + 1) 51 51 _ (0, 0) _ hend.e Tryz.underlying51 rfl term4_size
 unfold Go.Proofs.YtbjmbahpcoanoaaGreatDoor.put4 Go.Proofs.YtbjmbahpcoanoaaGreatDoor.put8 at l1 l2
 dsimp only [List.length_nil] at l1 l2
 refine bodyPost_ret (v := .tuple #[insV ⟨0, 0, 0, 0, 0, 0, [], 0⟩ none 0, termV ⟨4, 0, 0, 0⟩, .bool true]) ?_ rfl ⟨rfl, hend.rr, hend.k⟩
 rw [results_cells2 line_results]
 simp [asAddr, Result.andThen, l1, l2, insV, insC, termV]
end Go.Proofs.YtbjmbahpcoanoaaGreatDoor
namespace Go.Proofs.YtbjmbahpcoanoaaGreatDoor

theorem more_none {c : Cu} (h : c.more = false) : c.left = [] := by
 unfold Cu.more at h
 cases hl : c.left with
 | nil => rfl
 | cons x l => rw [hl] at h; simp at h
theorem none_more {c : Cu} (h : c.left = []) : c.more = false := by unfold Cu.more; rw [h]; rfl
theorem fail_left (c : Cu) (e : Int) (h : c.left = []) : (c.fail e).left = [] := by
 unfold Cu.fail; split
 · exact h
 · rfl
theorem fail_fault (c : Cu) {e : Int} (he : e ≠ 0) : (c.fail e).fault ≠ 0 := by
 unfold Cu.fail; split
 · rename_i h
   rcases h with h | h
   · exact absurd h he
   · exact h
 · exact he
theorem fail_two (c : Cu) {a : Int} (b : Int) (ha : a ≠ 0) : (c.fail a).fail b = c.fail a := fail_same (.inr (fail_fault c ha))
theorem numT_void {p : ByteArray} (hp : 0 < p.size) (n : Nat) : numT p n ⟨#[]⟩ = none := by
 unfold numT
 rw [List.find?_eq_none]
 intro k _ h
 have h1 := congrArg ByteArray.size (of_decide_eq_true h)
 rw [ByteArray.size_append] at h1
 have h2 : (⟨#[]⟩ : ByteArray).size = 0 := rfl
 omega
theorem opT_empty : opT ⟨#[]⟩ = 0 := opT_none fun o ho h => opNm_some (o := (o : Int)) (by omega) h.symm
section
variable {c : Cu} (h : c.left = [])
include h
theorem e_key (s : ByteArray) : c.keyB s = false := by unfold Cu.keyB; rw [h]; rfl
theorem e_is (s : ByteArray) : c.isB s = false := by unfold Cu.isB; rw [h]; rfl
theorem e_name : c.nameT = ⟨#[]⟩ := by unfold Cu.nameT; rw [h]; rfl
theorem e_num (a b : Int) : c.num a b = c.fail 7 := by unfold Cu.num; rw [h]; rfl
theorem e_mark (s : ByteArray) : c.mark [s] = c.fail 7 := by unfold Cu.mark; rw [if_neg (by rw [e_is h]; decide)]
theorem e_end : c.end_ = c := by unfold Cu.end_ Cu.more; rw [h]; rfl
theorem e_reg : c.regC = c.fail 7 := by unfold Cu.regC regT; rw [e_name h, numT_void (by decide)]
theorem e_slot : c.slotB = false := by unfold Cu.slotB slotT; rw [e_name h, numT_void (by decide)]; rfl
theorem none_part : c.partC = c.fail 7 ∧ ∃ x, c.partP = .inl x := by
 have h1 := fail_left c 7 h
 have hm : (c.fail 7).mark [sAl] = c.fail 7 := (e_mark h1 _).trans (fail_two c 7 (by decide))
 have hk : ∀ s, ¬ c.keyB s = true := fun s => by rw [e_key h]; decide
 have hs : ¬ c.slotB = true := by rw [e_slot h]; decide
 have hi : ∀ s, ¬ c.isB s = true := fun s => by rw [e_is h]; decide
 have hj : ∀ s, ¬ (c.fail 7).isB s = true := fun s => by rw [e_is h1]; decide
 constructor
 · unfold Cu.partC
   rw [if_neg (hk _), if_neg (hk _), if_neg (hk _), if_neg (hk _), if_neg (hi _), if_neg hs, e_reg h, if_neg (hj _), hm]
   unfold Cu.valC
   rw [if_neg (by rw [e_slot h1]; decide), e_name h1, if_pos opT_empty, e_reg h1]
   exact fail_two c 7 (by decide)
 · unfold Cu.partP
   rw [if_neg (hk _), if_neg (hk _), if_neg (hk _), if_neg (hk _), if_neg (hi _), if_neg hs, e_reg h, if_neg (hj _)]
   exact ⟨_, rfl⟩
end
theorem end_goes {c : Cu} {t : Tt} (hp : c.partP = .inr t) : c.more = true := by
 cases hm : c.more
 · obtain ⟨x, hx⟩ := (none_part (more_none hm)).2
   rw [hx] at hp; cases hp
 · rfl
theorem longC_none {c : Cu} (h : c.left = []) (n : Nat) : (c.longC n).end_ = c.fail 7 := by
 have h2 := (none_part h).1
 unfold Cu.longC
 split
 · rw [h2, fail_two c 3 (by decide)]; exact e_end (fail_left c 7 h)
 · rw [h2]; exact e_end (fail_left c 7 h)
/-- How far a cursor that is not broken is. -/
def Cu.wt (c : Cu) : Nat := c.left.length + if c.fault = 0 then 1 else 0
theorem wt_len (c : Cu) : c.left.length ≤ c.wt ∧ c.wt ≤ c.left.length + 1 := by unfold Cu.wt; split <;> omega
theorem wt_less {d : Cu} (hF : Fit d) (h0 : d.fault = 0) (n : Nat) : (d.longC n).end_.wt < d.wt := by
 have hd : d.wt = d.left.length + 1 := by unfold Cu.wt; rw [if_pos h0]
 cases hm : d.more
 · have hl := more_none hm
   rw [longC_none hl, hd, hl]
   unfold Cu.wt
   rw [if_neg (fail_fault d (by decide)), fail_left d 7 hl]
   decide
 · have h1 := line_less (hF.longC n).ok (mp_longC_len d n) hm
   have := (wt_len (d.longC n).end_).2
   omega
/-- A block's lines so far. -/
def BkI (k d : Cu) (l : List Ii) : Prop := (k.blk []).1 = (d.blk l).1 ∧ (d.fault = 0 → k.blk [] = d.blk l)
theorem BkI.step {k d : Cu} {l : List Ii} (h : BkI k d l) (hF : Fit d) (h0 : d.fault = 0) {x : Ii} (hp : d.partP = .inl x) : BkI k (d.longC l.length).end_ (l ++ [x]) := by
 cases hm : d.more
 · have hl := more_none hm
   have h1 : (d.longC l.length).end_ = d.fail 7 := longC_none hl _
   rw [h1]
   have hmf := none_more (fail_left d 7 hl)
   refine ⟨?_, fun hf => absurd hf (fail_fault d (by decide))⟩
   rw [h.1, blk_none hm, blk_none hmf]
   exact (fail_two d 7 (by decide)).symm
 · have hb := blk_ins hF hm hp l
   exact ⟨by rw [h.1, hb], fun _ => by rw [h.2 h0, hb]⟩
theorem gone_more {c : Cu} (ho : c.Ok) (hf : c.fault ≠ 0) : c.more = false := none_more (ho.gone hf)
theorem more_fault {c : Cu} (ho : c.Ok) (hm : c.more = true) : c.fault = 0 := by
 by_cases hf : c.fault = 0
 · exact hf
 · rw [gone_more ho hf] at hm; cases hm
theorem gone_blk {c : Cu} (ho : c.Ok) (hf : c.fault ≠ 0) (l : List Ii) : (c.blk l).1 = c := by
 rw [blk_none (gone_more ho hf)]
 exact fail_same (.inr hf)
theorem gone_head {c : Cu} (ho : c.Ok) (hf : c.fault ≠ 0) (n : Int) : c.headC n = c := by
 have hl := ho.gone hf
 have h1 : c.keyedP kBlock = c := by
  unfold Cu.keyedP
  rw [if_neg (by rw [e_key hl]; decide), key_off (e_key hl _)]
  exact fail_same (.inr hf)
 unfold Cu.headC
 rw [h1, e_num hl, fail_same (.inr hf)]
 exact e_end hl
theorem BkI.over {k d : Cu} {l : List Ii} (h : BkI k d l) (ho : d.Ok) (hf : d.fault ≠ 0) : (k.blk []).1 = d := h.1.trans (gone_blk ho hf l)
theorem BkI.ends {k d : Cu} {l : List Ii} {t : Tt} (h : BkI k d l) (h0 : d.fault = 0) (hp : d.partP = .inr t) : k.blk [] = (d.partC.end_, ⟨l, t⟩) := by
 rw [h.2 h0, blk_end (end_goes hp) hp]
/-- A block of a number, as the document's reader goes over it. -/
def Cu.rb (c : Cu) (n : Int) : Cu := if n = 200 then c.fail 3 else c
theorem Fit.rb {c : Cu} (h : Fit c) (n : Int) : Fit (c.rb n) := by unfold Cu.rb; split; exact h.fail 3; exact h
def Cu.rbC (c : Cu) (n : Int) : Cu := (((c.rb n).headC n).blk []).1
def Cu.rbB (c : Cu) (n : Int) : Bb := (((c.rb n).headC n).blk []).2
theorem blkGo_fit : ∀ (f : Nat) (c : Cu) (l : List Ii), Fit c → Fit (blkGo f c l).1 := by
 intro f
 induction f with
 | zero => intro c l h; exact h.fail 7
 | succ f ih =>
  intro c l h
  rw [blkGo]
  split
  · split
    · exact h.partC.end_
    · exact ih _ _ (h.longC _).end_
  · exact h.fail 7
theorem Fit.rbC {c : Cu} (h : Fit c) (n : Int) : Fit (c.rbC n) := blkGo_fit _ _ _ ((h.rb n).headC n)
theorem gone_rbC {c : Cu} (ho : c.Ok) (hf : c.fault ≠ 0) (n : Int) : c.rbC n = c := by
 have hr : c.rb n = c := by unfold Cu.rb; split; exact fail_same (.inr hf); rfl
 unfold Cu.rbC
 rw [hr, gone_head ho hf, gone_blk ho hf]
/-- A target's blocks so far. -/
def TgI (k d : Cu) (n : Nat) (l : List Bb) : Prop := n ≤ 201 ∧ (n = 201 → d.fault ≠ 0) ∧ (tgGo 200 0 k []).1 = (tgGo (200 - n) n d l).1 ∧ (d.fault = 0 → tgGo 200 0 k [] = tgGo (200 - n) n d l)
theorem TgI.few {k d : Cu} {n : Nat} {l : List Bb} (h : TgI k d n l) (ho : d.Ok) (hg : n = 0 ∨ d.more = true) : n ≤ 200 := by
 by_cases e : n = 201
 · have := gone_more ho (h.2.1 e)
   rcases hg with hg | hg
   · omega
   · rw [this] at hg; cases hg
 · have := h.1; omega
theorem TgI.step {k d : Cu} {n : Nat} {l : List Bb} (h : TgI k d n l) (ho : Fit d) (hg : n = 0 ∨ d.more = true) {b : Bb} (hb : (d.rbC n).fault = 0 → b = d.rbB n) : TgI k (d.rbC n) (n + 1) (l ++ [b]) := by
 have hn := h.few ho.ok hg
 have hX : Fit (d.rbC n) := ho.rbC n
 have h0 : (d.rbC n).fault = 0 → d.fault = 0 := fun hf => by
  by_cases e : d.fault = 0
  · exact e
  · rw [gone_rbC ho.ok e] at hf; exact absurd hf e
 by_cases h2 : n = 200
 · subst h2
   have hr : d.rb ((200 : Nat) : Int) = d.fail 3 := by unfold Cu.rb; rw [if_pos (by rfl)]
   have hF3 : Fit (d.fail 3) := ho.fail 3
   have h3 : d.rbC ((200 : Nat) : Int) = d.fail 3 := by
    unfold Cu.rbC
    rw [hr, gone_head hF3.ok (fail_fault d (by decide)), gone_blk hF3.ok (fail_fault d (by decide))]
   rw [h3]
   refine ⟨by omega, fun _ => fail_fault d (by decide), ?_, fun hf => absurd hf (fail_fault d (by decide))⟩
   have hs : ¬ (200 + 1 = 0 ∨ (d.fail 3).more = true) := by
    rw [gone_more hF3.ok (fail_fault d (by decide))]
    rintro (e | e)
    · omega
    · cases e
   rw [h.2.2.1, show 200 - 200 = 0 from rfl, tg_full hg, tg_stop hs]
 · have hr : d.rb (n : Int) = d := by unfold Cu.rb; rw [if_neg (by omega)]
   have hC : d.rbC n = ((d.headC n).blk []).1 := by unfold Cu.rbC; rw [hr]
   have hB : d.rbB n = ((d.headC n).blk []).2 := by unfold Cu.rbB; rw [hr]
   obtain ⟨f, hf⟩ : ∃ f, 200 - n = f + 1 := ⟨200 - n - 1, by omega⟩
   have hf2 : 200 - (n + 1) = f := by omega
   have hstep : tgGo (200 - n) n d l = tgGo f (n + 1) (d.rbC n) (l ++ [d.rbB n]) := by rw [hf, tg_step hg, hC, hB]
   unfold TgI
   rw [hf2]
   refine ⟨by omega, fun e => by omega, ?_, fun hx => ?_⟩
   · rw [h.2.2.1, hstep]
     by_cases e : (d.rbC n).fault = 0
     · rw [hb e]
     · have hs : ¬ (n + 1 = 0 ∨ (d.rbC n).more = true) := by
         rw [gone_more hX.ok e]
         rintro (e | e)
         · omega
         · cases e
       rw [tg_stop hs, tg_stop hs]
   · rw [h.2.2.2 (h0 hx), hstep, hb hx]
theorem TgI.ends {k d : Cu} {n : Nat} {l : List Bb} (h : TgI k d n l) (hg : ¬ (n = 0 ∨ d.more = true)) : (tgGo 200 0 k []).1 = d ∧ (d.fault = 0 → (tgGo 200 0 k []).2 = l) := by
 refine ⟨by rw [h.2.2.1, tg_stop hg], fun e => by rw [h.2.2.2 e, tg_stop hg]⟩
end Go.Proofs.YtbjmbahpcoanoaaGreatDoor
namespace Go.Proofs.YtbjmbahpcoanoaaGreatDoor
open Go.RowKit

theorem CurR.grownI {w w' : World} {g : Nat} {c : Cu} {row : Option Nat} (h : CurR w g c) (hb : w.grownBy w' row) (hr : ∀ k t cs, Blk w k t cs → 46 ≠ t → some k ≠ row) : CurR w' g c := by
 obtain ⟨a, cap, L, hc, hf, hl, hm, hi⟩ := h
 refine ⟨a, cap, L, hc.grown hb (hr _ _ _ hc (by decide)), hf, hl, hm, fun k x hx => ?_⟩
 obtain ⟨gg, o, cs, ha, hg, r⟩ := hi k x hx
 exact ⟨gg, o, cs, ha, hg.grown hb (hr _ _ _ hg (by decide)), r⟩
theorem CurR.grownB {w w' : World} {g : Nat} {c : Cu} {row : Option Nat} (h : CurR w g c) (hb : w.grownBy w' row) (hr : ∀ k t cs, Blk w k t cs → 53 ≠ t → some k ≠ row) : CurR w' g c := by
 obtain ⟨a, cap, L, hc, hf, hl, hm, hi⟩ := h
 refine ⟨a, cap, L, hc.grown hb (hr _ _ _ hc (by decide)), hf, hl, hm, fun k x hx => ?_⟩
 obtain ⟨gg, o, cs, ha, hg, r⟩ := hi k x hx
 exact ⟨gg, o, cs, ha, hg.grown hb (hr _ _ _ hg (by decide)), r⟩
theorem CurR.e {w : World} {g : Nat} {c : Cu} (h : CurR w g c) : w.cell? ⟨g, 1, none⟩ = some (.int .i64 c.fault) := by
 obtain ⟨_, _, _, hb, _⟩ := h
 exact hb.cell 1
/-- A block that is being read: the result's box and its own, the first two behind the world w; its row. -/
structure Rb (w0 w W : World) (g : Nat) (c : Cu) (l : List Ii) (v : Value) (rs cs : Array Value) : Prop where
 rr : Rr w0 W g c
 r : Blk W w.heap.size 53 rs
 b : Blk W (w.heap.size + 1) 53 cs
 row : W.ownsRow w.heap.size 46 8 v l.length (l.flatMap inC)
 k : Keep w.heap.size g w W
 le : w0.heap.size ≤ w.heap.size
 lt : g < w.heap.size
section
variable {w0 w W W' w4 : World} {g : Nat} {c d : Cu} {l : List Ii} {v : Value} {rs cs : Array Value}
theorem Rb.e (h : Rb w0 w W g c l v rs cs) : W.cell? ⟨g, 1, none⟩ = some (.int .i64 c.fault) := h.rr.cur.e
theorem Rb.did (h : Rb w0 w W g c l v rs cs) (hd : Did w0 W g d W') : Rb w0 w W' g d l v rs cs := by
 obtain ⟨ds, hds⟩ := h.rr.cur.blk
 exact ⟨hd.1, Blk.keep h.r hd.2 (by have := h.lt; omega), Blk.keep h.b hd.2 (by have := h.lt; omega), own_kept h.row hd.2 hds (by decide), h.k.then_keep hd.2, h.le, h.lt⟩
theorem Rb.below (h : Rb w0 w W g c l v rs cs) (hb : Below W.heap.size W W') : Rb w0 w W' g c l v rs cs :=
 ⟨h.rr.below hb, h.r.below hb h.r.lt, h.b.below hb h.b.lt, own_keep h.row ⟨hb.size, fun k _ hk => hb.block k hk⟩, h.k.then_below hb, h.le, h.lt⟩
theorem Rb.alloc (h : Rb w0 w W g c l v rs cs) (o : Obj) : Rb w0 w (W.alloc o) g c l v rs cs := h.below ((Below.refl _ _).alloc (Nat.le_refl _) _)
theorem Rb.drew (h : Rb w0 w W g c l v rs cs) : Rb w0 w W.drew g c l v rs cs := h.below ((Below.refl _ _).drew)
theorem Rr.putB {p : Nat} {xs : Array Value} (h : Rr w0 W g c) (hb : Blk W p 53 xs) (hp : w0.heap.size ≤ p) (i : Nat) (u : Value) : Rr w0 (W.setCell ⟨p, i, none⟩ u) g c :=
 ⟨h.cur.keep (Keep.put W.heap.size p W i u) hb (by decide) (by decide), h.fit, h.be.setCell (p := ⟨p, i, none⟩) hp u, h.hg⟩
theorem Rb.put (h : Rb w0 w W g c l v rs cs) (j : Nat) (u : Value) : Rb w0 w (W.setCell ⟨w.heap.size + 1, j, none⟩ u) g c l v rs (cs.setIfInBounds j u) :=
 ⟨h.rr.putB h.b (Nat.le_succ_of_le h.le) j u, h.r.far (p := ⟨w.heap.size + 1, j, none⟩) (by show w.heap.size ≠ w.heap.size + 1; omega) u, h.b.put j u,
  own_put h.row (p := ⟨w.heap.size + 1, j, none⟩) (own_ne h.row h.b (by decide)) u,
  h.k.trans ⟨rfl, rfl, rfl, by simp [World.setCell], fun k hk _ => Below.heap_setCell W ⟨w.heap.size + 1, j, none⟩ u k (by show k ≠ w.heap.size + 1; omega)⟩, h.le, h.lt⟩
theorem Rb.putR (h : Rb w0 w W g c l v rs cs) (j : Nat) (u : Value) : Rb w0 w (W.setCell ⟨w.heap.size, j, none⟩ u) g c l v (rs.setIfInBounds j u) cs :=
 ⟨h.rr.putB h.r h.le j u, h.r.put j u, h.b.far (p := ⟨w.heap.size, j, none⟩) (by show w.heap.size + 1 ≠ w.heap.size; omega) u,
  own_put h.row (p := ⟨w.heap.size, j, none⟩) (own_ne h.row h.r (by decide)) u,
  h.k.trans ⟨rfl, rfl, rfl, by simp [World.setCell], fun k hk _ => Below.heap_setCell W ⟨w.heap.size, j, none⟩ u k (by show k ≠ w.heap.size; omega)⟩, h.le, h.lt⟩
theorem Rb.new (h : Rr w0 w g c) (rs cs : Array Value) : Rb w0 w ((w.alloc (.cells rs 53)).alloc (.cells cs 53)) g c [] (.slice none 0 0) rs cs := by
 obtain ⟨ds, hds⟩ := h.cur.blk
 exact ⟨h.below (((Below.refl _ _).alloc (Nat.le_refl _) _).alloc (by simp) _), (Blk.new w _ _).alloc _, new_two w _ _ _, World.ownsRow_nil _ _ _ _, (Keep.alloc (Nat.le_refl _) g _).trans (Keep.alloc (by simp) g _), h.be.size, hds.lt⟩
theorem Rb.grown {v2 : Value} {x : Ii} (h : Rb w0 w W g c l v rs cs) (hg : W.grownBy w4 v.ownBlock) (ho : w4.ownsRow w.heap.size 46 8 v2 (l.length + 1) (l.flatMap inC ++ inC x)) : Rb w0 w w4 g c (l ++ [x]) v2 rs cs := by
 have hr : ∀ k t cs, Blk W k t cs → 46 ≠ t → some k ≠ v.ownBlock := fun k t cs hk ht => own_ne h.row hk ht
 refine ⟨⟨h.rr.cur.grownI hg hr, h.rr.fit, h.rr.be.grown hg h.rr.be.size (fun k hk => Nat.le_trans h.le (h.row.lt k hk).1), h.rr.hg⟩, h.r.grown hg (hr _ _ _ h.r (by decide)), h.b.grown hg (hr _ _ _ h.b (by decide)), ?_, h.k.trans (Keep.grown hg h.k.size (fun k hk => (h.row.lt k hk).1) g), h.le, h.lt⟩
 rw [List.flatMap_append, List.length_append]
 simpa using ho
theorem Rb.growA {o : Obj} {x : Ii} {a : Option Addr} {gg cap cap2 : Nat} (h : Rb w0 w W g c l (.slice a l.length cap) rs cs) (hg : (W.alloc o).grownBy w4 (Value.slice a l.length cap).ownBlock) (ho : w4.ownsRow w.heap.size 46 8 (.slice (some ⟨gg, 0, none⟩) (l.length + 1) cap2) (l.length + 1) (l.flatMap inC ++ inC x)) :
    Rb w0 w w4 g c (l ++ [x]) (.slice (some ⟨gg, 0, none⟩) (l.length + 1) cap2) rs cs := (h.alloc o).grown hg ho
end
/-- A target that is being read: the result's box, the first behind the world w; its own, in p; its blocks' row, the rows of each. -/
structure Rt (w W : World) (g p : Nat) (c : Cu) (es : List WB) (v : Value) (rs cs : Array Value) : Prop where
 rr : Rr w W g c
 r : Blk W w.heap.size 24 rs
 b : Blk W p 24 cs
 row : W.ownsRow w.heap.size 53 5 v es.length (es.flatMap wbC)
 rows : ∀ e ∈ es, OwnB W w.heap.size e
 lt : w.heap.size < p
section
variable {w0 w W W' w4 : World} {g p : Nat} {c d : Cu} {es : List WB} {v : Value} {rs cs : Array Value}
theorem Rt.did (h : Rt w W g p c es v rs cs) (hd : Did w W g d W') : Rt w W' g p d es v rs cs := by
 obtain ⟨ds, hds⟩ := h.rr.cur.blk
 exact ⟨hd.1, Blk.keep h.r hd.2 (blk_ne h.r hds (by decide)), Blk.keep h.b hd.2 (blk_ne h.b hds (by decide)), own_kept h.row hd.2 hds (by decide), fun e he => own_kept (h.rows e he) hd.2 hds (by decide), h.lt⟩
theorem Rt.below (h : Rt w W g p c es v rs cs) (hb : Below W.heap.size W W') : Rt w W' g p c es v rs cs :=
 ⟨h.rr.below hb, h.r.below hb h.r.lt, h.b.below hb h.b.lt, own_keep h.row ⟨hb.size, fun k _ hk => hb.block k hk⟩, fun e he => own_keep (h.rows e he) ⟨hb.size, fun k _ hk => hb.block k hk⟩, h.lt⟩
theorem Rt.alloc (h : Rt w W g p c es v rs cs) (o : Obj) : Rt w (W.alloc o) g p c es v rs cs := h.below ((Below.refl _ _).alloc (Nat.le_refl _) _)
theorem Rt.drew (h : Rt w W g p c es v rs cs) : Rt w W.drew g p c es v rs cs := h.below ((Below.refl _ _).drew)
theorem Rr.putG {q : Nat} {xs : Array Value} (h : Rr w0 W g c) (hb : Blk W q 24 xs) (hp : w0.heap.size ≤ q) (i : Nat) (u : Value) : Rr w0 (W.setCell ⟨q, i, none⟩ u) g c :=
 ⟨h.cur.keep (Keep.put W.heap.size q W i u) hb (by decide) (by decide), h.fit, h.be.setCell (p := ⟨q, i, none⟩) hp u, h.hg⟩
theorem Rt.put (h : Rt w W g p c es v rs cs) (j : Nat) (u : Value) : Rt w (W.setCell ⟨p, j, none⟩ u) g p c es v rs (cs.setIfInBounds j u) :=
 ⟨h.rr.putG h.b (Nat.le_of_lt h.lt) j u, h.r.far (p := ⟨p, j, none⟩) (by have := h.lt; show w.heap.size ≠ p; omega) u, h.b.put j u,
  own_put h.row (p := ⟨p, j, none⟩) (own_ne h.row h.b (by decide)) u, fun e he => own_put (h.rows e he) (p := ⟨p, j, none⟩) (own_ne (h.rows e he) h.b (by decide)) u, h.lt⟩
theorem Rt.putR (h : Rt w W g p c es v rs cs) (j : Nat) (u : Value) : Rt w (W.setCell ⟨w.heap.size, j, none⟩ u) g p c es v (rs.setIfInBounds j u) cs :=
 ⟨h.rr.putG h.r (Nat.le_refl _) j u, h.r.put j u, h.b.far (p := ⟨w.heap.size, j, none⟩) (by have := h.lt; show p ≠ w.heap.size; omega) u,
  own_put h.row (p := ⟨w.heap.size, j, none⟩) (own_ne h.row h.r (by decide)) u, fun e he => own_put (h.rows e he) (p := ⟨w.heap.size, j, none⟩) (own_ne (h.rows e he) h.r (by decide)) u, h.lt⟩
theorem Rt.new (h : Rr w W g c) (hr : Blk W w.heap.size 24 rs) (cs : Array Value) : Rt w (W.alloc (.cells cs 24)) g W.heap.size c [] (.slice none 0 0) rs cs :=
 ⟨h.below ((Below.refl _ _).alloc (Nat.le_refl _) _), hr.alloc _, Blk.new W _ _, World.ownsRow_nil _ _ _ _, (by simp), hr.lt⟩
theorem Rt.grown {v2 : Value} {x : WB} (h : Rt w W g p c es v rs cs) (hx : OwnB W w.heap.size x) (hg : W.grownBy w4 v.ownBlock) (ho : w4.ownsRow w.heap.size 53 5 v2 (es.length + 1) (es.flatMap wbC ++ wbC x)) : Rt w w4 g p c (es ++ [x]) v2 rs cs := by
 have hr : ∀ k t cs, Blk W k t cs → 53 ≠ t → some k ≠ v.ownBlock := fun k t cs hk ht => own_ne h.row hk ht
 have hI : ∀ k cs, Blk W k 46 cs → some k ≠ v.ownBlock := fun k cs hk => hr k _ cs hk (by decide)
 refine ⟨⟨h.rr.cur.grownB hg hr, h.rr.fit, h.rr.be.grown hg h.rr.be.size (fun k hk => (h.row.lt k hk).1), h.rr.hg⟩, h.r.grown hg (hr _ _ _ h.r (by decide)), h.b.grown hg (hr _ _ _ h.b (by decide)), ?_, fun e he => ?_, h.lt⟩
 · rw [List.flatMap_append, List.length_append]
   simpa using ho
 · rcases List.mem_append.1 he with he | he
   · exact own_grown (h.rows e he) hg hI
   · rw [List.mem_singleton] at he
     subst he
     exact own_grown hx hg hI
theorem Rt.growA {o : Obj} {x : WB} {a : Option Addr} {gg cap cap2 : Nat} (h : Rt w W g p c es (.slice a es.length cap) rs cs) (hx : OwnB W w.heap.size x) (hg : (W.alloc o).grownBy w4 (Value.slice a es.length cap).ownBlock) (ho : w4.ownsRow w.heap.size 53 5 (.slice (some ⟨gg, 0, none⟩) (es.length + 1) cap2) (es.length + 1) (es.flatMap wbC ++ wbC x)) :
    Rt w w4 g p c (es ++ [x]) (.slice (some ⟨gg, 0, none⟩) (es.length + 1) cap2) rs cs := (h.alloc o).grown (own_keep hx ⟨by simp, fun k _ hk => Below.heap_alloc W o k hk⟩) hg ho
theorem Rt.block {b : Bb} {a : Option Addr} {n : Nat} {rs2 cs2 : Array Value} (h : Rt w W g p c es v rs cs) (hb : Rb w W W' g d b.ins (.slice a b.ins.length n) rs2 cs2) : Rt w W' g p d es v rs cs ∧ OwnB W' w.heap.size (b, a, n) :=
 ⟨h.did ⟨hb.rr, hb.k⟩, mp_own_base hb.row h.rr.be.size⟩
end
end Go.Proofs.YtbjmbahpcoanoaaGreatDoor
