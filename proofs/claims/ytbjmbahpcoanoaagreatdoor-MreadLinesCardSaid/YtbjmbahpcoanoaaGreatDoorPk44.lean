/-
  The document's reader of targets: a line, its paths (written by gen/pah.py). Conditions: the library's table of powers holds what the text lays.
-/
import Derived.Test.YtbjmbahpcoanoaaGreatDoorPk43
import Derived.Test.YtbjmbahpcoanoaaGreatDoorPk28
namespace Go.Proofs.YtbjmbahpcoanoaaGreatDoor
open Go.RowKit

theorem Rl.off {w0 w W : World} {g p : Nat} {c : Cu} {cs ds xs : Array Value} {T : TypeId} (h : Rl w0 w W g c cs ds) (hb : Blk W p T xs) (h1 : 121 ≠ T) (h2 : 119 ≠ T) (hp : w.heap.size + 1 < p) (hw : w0.heap.size ≤ w.heap.size) (i : Nat) (u : Value) : Rl w0 w (W.setCell ⟨p, i, none⟩ u) g c cs ds :=
 ⟨⟨h.rr.cur.keep (Keep.put W.heap.size p W i u) hb h1 h2, h.rr.fit, h.rr.be.setCell (p := ⟨p, i, none⟩) (by show w0.heap.size ≤ p; omega) u, h.rr.hg⟩, h.b.far (p := ⟨p, i, none⟩) (by show w.heap.size ≠ p; omega) u, h.e.far (p := ⟨p, i, none⟩) (by show w.heap.size + 1 ≠ p; omega) u, h.k.trans ⟨rfl, rfl, rfl, by simp [World.setCell], fun k hk _ => Below.heap_setCell W ⟨p, i, none⟩ u k (by show k ≠ p; omega)⟩, h.lt⟩
theorem Rl.alloc {w0 w W : World} {g : Nat} {c : Cu} {cs ds : Array Value} (h : Rl w0 w W g c cs ds) (o : Obj) : Rl w0 w (W.alloc o) g c cs ds :=
 h.did (h.rr.stay ((Below.refl _ _).alloc (Nat.le_refl _) o))
section
variable {w0 w : World} {g : Nat} {c : Cu} {s : ByteArray}
theorem rkey_miss (h : Rr w0 w g c) (hb : c.keyB s = false) : Calls Tryz.prog 33 #[.pointer (some ⟨g, 0, none⟩), .string s] w fun e w' => e = .returned (.bool false) ∧ Did w0 w g c w' := by
 have := rr_key s h
 rw [hb, key_off hb] at this
 exact this
theorem rkey_hit (h : Rr w0 w g c) (hb : c.keyB s = true) : Calls Tryz.prog 33 #[.pointer (some ⟨g, 0, none⟩), .string s] w fun e w' => e = .returned (.bool true) ∧ Did w0 w g (c.key s) w' := by
 have := rr_key s h
 rw [hb] at this
 exact this
theorem ris_miss (h : Rr w0 w g c) (hb : c.isB s = false) : Calls Tryz.prog 127 #[.pointer (some ⟨g, 0, none⟩), .string s] w fun e w' => e = .returned (.bool false) ∧ Did w0 w g c w' := by
 have := rr_is s h
 rw [hb, is_off hb] at this
 exact this
theorem ris_hit (h : Rr w0 w g c) (hb : c.isB s = true) : Calls Tryz.prog 127 #[.pointer (some ⟨g, 0, none⟩), .string s] w fun e w' => e = .returned (.bool true) ∧ Did w0 w g (c.is s) w' := by
 have := rr_is s h
 rw [hb] at this
 exact this
theorem rslot_miss (h : Rr w0 w g c) (hP : PowW w0) (hb : c.slotB = false) : Calls Tryz.prog 129 #[.pointer (some ⟨g, 0, none⟩)] w fun e w' => e = .returned (.int .i64 (-1)) ∧ Did w0 w g c w' := by
 have := rr_slot h hP
 unfold Cu.slotB at hb
 cases hs : slotT c.nameT with
 | none => rw [hs] at this; exact this
 | some n => rw [hs] at hb; cases hb
theorem rslot_hit (h : Rr w0 w g c) (hP : PowW w0) (hb : c.slotB = true) : Calls Tryz.prog 129 #[.pointer (some ⟨g, 0, none⟩)] w fun e w' => e = .returned (.int .i64 c.slotN) ∧ Did w0 w g c w' := by
 have := rr_slot h hP
 unfold Cu.slotB at hb
 unfold Cu.slotN
 cases hs : slotT c.nameT with
 | none => rw [hs] at hb; cases hb
 | some n => rw [hs] at this; exact this
theorem rslot_name (h : Rr w0 w g c) (hb : c.slotB = true) : Calls Tryz.prog 130 #[.pointer (some ⟨g, 0, none⟩)] w fun e w' => e = .returned (.string c.nameT) ∧ Did w0 w g c.slotC w' := by
 have := rr_name h
 unfold Cu.slotC
 rw [if_pos hb]
 exact this
theorem rr_mark (h : Rr w0 w g c) : Calls Tryz.prog 131 #[.pointer (some ⟨g, 0, none⟩), .slice (some ⟨w.heap.size, 0, none⟩) 1 1] (w.alloc (.cells #[.string ⟨#[226, 134, 144]⟩] 9)) fun e w' => e = .returned (.tuple #[]) ∧ Did w0 w g (c.mark [⟨#[226, 134, 144]⟩]) w' := by
 have hb : Below w.heap.size w (w.alloc (.cells #[.string ⟨#[226, 134, 144]⟩] 9)) := (Below.refl _ _).alloc (Nat.le_refl _) _
 have h1 := h.below hb
 exact (markR_any g c [⟨#[226, 134, 144]⟩] w.heap.size 1 _ h1.cur h1.fit.ok ⟨_, Blk.new w _ _, fun k s hs => by
  rcases k with _ | k
  · simpa using hs
  · simp at hs⟩ (by simp)).mono fun e w' ⟨g1, g2, g3⟩ => ⟨g1, h1.step g2 (h.fit.mark _) g3, (Keep.of_below hb g).then_keep g3⟩
end
theorem Rl.zero {w0 w W : World} {g : Nat} {c : Cu} (h : Rl w0 w W g c #[.int .i64 0, .int .i64 0, .int .i64 0, .int .i64 0, .int .i64 0, .int .i64 0, .slice none 0 0, .int .i64 0] #[.int .i64 0, .int .i64 0, .int .i64 0, .int .i64 0]) :
    (W.cell? ⟨w.heap.size, 0, none⟩ = some (.int .i64 0) ∧ W.cell? ⟨w.heap.size, 1, none⟩ = some (.int .i64 0) ∧ W.cell? ⟨w.heap.size, 2, none⟩ = some (.int .i64 0) ∧ W.cell? ⟨w.heap.size, 3, none⟩ = some (.int .i64 0) ∧ W.cell? ⟨w.heap.size, 4, none⟩ = some (.int .i64 0) ∧ W.cell? ⟨w.heap.size, 5, none⟩ = some (.int .i64 0) ∧ W.cell? ⟨w.heap.size, 6, none⟩ = some (.slice none 0 0) ∧ W.cell? ⟨w.heap.size, 7, none⟩ = some (.int .i64 0)) ∧ (W.frozen? ⟨w.heap.size, 0, none⟩ = false ∧ W.frozen? ⟨w.heap.size, 1, none⟩ = false ∧ W.frozen? ⟨w.heap.size, 2, none⟩ = false ∧ W.frozen? ⟨w.heap.size, 3, none⟩ = false ∧ W.frozen? ⟨w.heap.size, 4, none⟩ = false ∧ W.frozen? ⟨w.heap.size, 5, none⟩ = false ∧ W.frozen? ⟨w.heap.size, 6, none⟩ = false ∧ W.frozen? ⟨w.heap.size, 7, none⟩ = false) ∧
    (W.cell? ⟨w.heap.size + 1, 0, none⟩ = some (.int .i64 0) ∧ W.cell? ⟨w.heap.size + 1, 1, none⟩ = some (.int .i64 0) ∧ W.cell? ⟨w.heap.size + 1, 2, none⟩ = some (.int .i64 0) ∧ W.cell? ⟨w.heap.size + 1, 3, none⟩ = some (.int .i64 0)) ∧ W.frozen? ⟨w.heap.size + 1, 0, none⟩ = false ∧ W.frozen? ⟨w.heap.size + 1, 1, none⟩ = false ∧ W.frozen? ⟨w.heap.size + 1, 2, none⟩ = false ∧ W.frozen? ⟨w.heap.size + 1, 3, none⟩ = false :=
 ⟨⟨h.b.cell 0, h.b.cell 1, h.b.cell 2, h.b.cell 3, h.b.cell 4, h.b.cell 5, h.b.cell 6, h.b.cell 7⟩, ⟨h.b.free 0, h.b.free 1, h.b.free 2, h.b.free 3, h.b.free 4, h.b.free 5, h.b.free 6, h.b.free 7⟩, ⟨h.e.cell 0, h.e.cell 1, h.e.cell 2, h.e.cell 3⟩, h.e.free 0, h.e.free 1, h.e.free 2, h.e.free 3⟩
theorem insV_bare {x : Ii} (hx : x.args = []) : insV x none 0 = .agg #[.int .i64 x.op, .int .i64 x.dst, .int .i64 x.a, .int .i64 x.b, .int .i64 x.imm, .int .i64 x.callee, .slice none 0 0, .int .i64 x.many] := by unfold insV; rw [hx]; rfl
theorem slotN_pos (c : Cu) : 0 ≤ c.slotN := Int.natCast_nonneg _
set_option maxRecDepth 100000 in
set_option maxHeartbeats 8000000 in
theorem line_retend {w0 w : World} {g : Nat} {c : Cu} (h : Rr w0 w g c) (k0 : c.keyB ⟨#[116, 114, 97, 112]⟩ = false) (kk : c.keyB ⟨#[114, 101, 116, 117, 114, 110]⟩ = true) (ke : (Cu.ends (Cu.key c ⟨#[114, 101, 116, 117, 114, 110]⟩)) = true) :
    Calls Tryz.prog 79 #[.pointer (some ⟨g, 0, none⟩)] w fun e w' => e = .returned (.tuple #[insV ⟨0, 0, 0, 0, 0, 0, [], 0⟩ none 0, termV ⟨3, -1, 0, 0⟩, .bool true]) ∧ Did w0 w g (Cu.key c ⟨#[114, 101, 116, 117, 114, 110]⟩) w' := by
 have V0 := Lib.hid (Rl.new h)
 have HW0 : Hid (w0.heap.size ≤ w.heap.size) := h.be.size
 have hgl : g < w.heap.size := V0.out.lt
 have SZ : Hid (zI = #[.int .i64 0, .int .i64 0, .int .i64 0, .int .i64 0, .int .i64 0, .int .i64 0, .slice none 0 0, .int .i64 0] ∧ zT = #[.int .i64 0, .int .i64 0, .int .i64 0, .int .i64 0]) := ⟨rfl, rfl⟩
 rw [SZ.out.1, SZ.out.2] at V0
 have M0 : Hid (∀ W, Rr w0 W g c → _) := fun W hr => rkey_miss hr k0
 have S1 : Hid (∀ W, Rr w0 W g c → _) := fun W hr => rkey_hit hr kk
 have S3 : Hid (∀ W, Rr w0 W g (Cu.key c ⟨#[114, 101, 116, 117, 114, 110]⟩) → Calls Tryz.prog 125 #[.pointer (some ⟨g, 0, none⟩)] W fun e w' => e = .returned (.bool true) ∧ W = w') := fun W hr => (rr_ends hr).mono fun _ _ ⟨h1, h2⟩ => ⟨h1.trans (by rw [ke]), h2⟩
 clear h k0 kk ke
 generalize (Cu.key c ⟨#[114, 101, 116, 117, 114, 110]⟩) = d1 at *
 go_enter Tryz.func79, Tryz.ntmps79
 go_upto_region 1 with fail
 generalize (w.alloc (.cells #[.int .i64 0, .int .i64 0, .int .i64 0, .int .i64 0, .int .i64 0, .int .i64 0, .slice none 0 0, .int .i64 0] 46)).alloc (.cells #[.int .i64 0, .int .i64 0, .int .i64 0, .int .i64 0] 51) = w0a at *
 go_wp2_with fail
 refine (M0.out _ V0.out.rr).mono ?_
 rintro e w1 ⟨rfl, h1⟩
 have V1 := Lib.hid (V0.out.did h1)
 clear h1 V0 M0
 go_wp2_with fail
 refine (S1.out _ V1.out.rr).mono ?_
 rintro e w2 ⟨rfl, h2⟩
 have V2 := Lib.hid (V1.out.did h2)
 clear h2 V1 S1
 have B2x : Hid (Blk (w2.alloc (.cells #[.int .i64 3, .int .i64 (-1), .int .i64 0, .int .i64 0] 51)) w2.heap.size 51 #[.int .i64 3, .int .i64 (-1), .int .i64 0, .int .i64 0]) := Blk.new w2 _ _
 have hbl : w.heap.size + 1 < w2.heap.size := V2.out.e.lt
 have V2x := Lib.hid (V2.out.alloc (.cells #[.int .i64 3, .int .i64 (-1), .int .i64 0, .int .i64 0] 51))
 clear V2
 go_wp2_with fail
 refine (S3.out _ V2x.out.rr).mono ?_
 rintro e w3 ⟨rfl, hw3⟩
 have V3 : Hid (Rl w0 w w3 g d1 #[.int .i64 0, .int .i64 0, .int .i64 0, .int .i64 0, .int .i64 0, .int .i64 0, .slice none 0 0, .int .i64 0] #[.int .i64 0, .int .i64 0, .int .i64 0, .int .i64 0]) := by rw [← hw3]; exact V2x.out
 have B3 : Hid (Blk w3 w2.heap.size 51 #[.int .i64 3, .int .i64 (-1), .int .i64 0, .int .i64 0]) := by rw [← hw3]; exact B2x.out
 clear hw3 V2x B2x S3
 go_upto_region 7 with fail
 refine wp_region_any (by kernel_rfl) ?_
 change wpAny _ _ _ _ _ _ _ w3.drew
 have VD := Lib.hid (V3.out.did (V3.out.rr.stay (Below.refl _ _).drew))
 have BD : Hid (Blk w3.drew w2.heap.size 51 #[.int .i64 3, .int .i64 (-1), .int .i64 0, .int .i64 0]) := B3.out.drew
 have hbd := BD.out.lt
 clear V3 B3
 generalize w3.drew = WD at *
 obtain ⟨⟨y0, y1, y2, y3, y4, y5, y6, y7⟩, ⟨z0, z1, z2, z3, z4, z5, z6, z7⟩, ⟨p0, p1, p2, p3⟩, q0, q1, q2, q3⟩ := VD.out.zero
 have u0 : WD.cell? ⟨w2.heap.size, 0, none⟩ = some (.int .i64 3) := BD.out.cell 0
 have u1 : WD.cell? ⟨w2.heap.size, 1, none⟩ = some (.int .i64 (-1)) := BD.out.cell 1
 have u2 : WD.cell? ⟨w2.heap.size, 2, none⟩ = some (.int .i64 0) := BD.out.cell 2
 have u3 : WD.cell? ⟨w2.heap.size, 3, none⟩ = some (.int .i64 0) := BD.out.cell 3
 refine wpAny_take (i := 0) (v := ?vq1) (by simp only [List.getElem?_toArray, List.getElem?_cons_zero]; rfl) (by kernel_rfl) (by kernel_rfl) (by kernel_rfl) (by exact fun _ _ _ h => h) (Or.inl ⟨by rfl, ?yq1⟩) ?_
 case yq1 => (intro W9; go_simp; try (with_reducible rfl))
 try simp only [Act.put, List.setIfInBounds_toArray, List.set_cons_zero, List.set_cons_succ]
 refine wpAny_ready (rs := [1, 2]) (by kernel_rfl) (by simp) ?_
 refine AllReady.cons (by simp only [List.getElem?_toArray, List.getElem?_cons_succ, List.getElem?_cons_zero]; rfl) (fun K hK => ?_) (AllReady.cons (by simp only [List.getElem?_toArray, List.getElem?_cons_succ, List.getElem?_cons_zero]; rfl) (fun K hK => ?_) AllReady.nil)
 · go_simp
   refine hK _ _ ?_
   clear hK K
   try simp only [Act.put, List.setIfInBounds_toArray, List.set_cons_zero, List.set_cons_succ]
   refine wpAny_ready (rs := [2]) (by kernel_rfl) (by simp) ?_
   refine AllReady.cons (by simp only [List.getElem?_toArray, List.getElem?_cons_succ, List.getElem?_cons_zero]; rfl) (fun K hK => ?_) AllReady.nil
   go_simp
   refine hK _ _ ?_
   clear hK K
   try simp only [Act.put, List.setIfInBounds_toArray, List.set_cons_zero, List.set_cons_succ]
   refine wpAny_ready (rs := [3]) (by kernel_rfl) (by simp) ?_
   refine AllReady.cons (by simp only [List.getElem?_toArray, List.getElem?_cons_succ, List.getElem?_cons_zero]; rfl) (fun K hK => ?_) AllReady.nil
   go_simp
   refine hK _ _ ?_
   clear hK K
   try simp only [Act.put, List.setIfInBounds_toArray, List.set_cons_zero, List.set_cons_succ]
   refine wpAny_ready (rs := [4]) (by kernel_rfl) (by simp) ?_
   refine AllReady.cons (by simp only [List.getElem?_toArray, List.getElem?_cons_succ, List.getElem?_cons_zero]; rfl) (fun K hK => ?_) AllReady.nil
   go_simp
   refine hK _ _ ?_
   clear hK K
   try simp only [Act.put, List.setIfInBounds_toArray, List.set_cons_zero, List.set_cons_succ]
   refine wpAny_done (by kernel_rfl) ?_ _
   go_wp2
   (try simp only [Exit.inBlock, Exit.then])
   have hend := (VD.out.put8 HW0.out ⟨0, 0, 0, 0, 0, 0, [], 0⟩).put4 HW0.out ⟨3, -1, 0, 0⟩
   have l1 := run_loadVar_row (P := Tryz.prog) _ w.heap.size 46 46 _ (0, 0) _ hend.b Tryz.underlying46 rfl ins8_size
   have l2 := run_loadVar_row (P := Tryz.prog) _ (w.heap.size + 1) 51 51 _ (0, 0) _ hend.e Tryz.underlying51 rfl term4_size
   unfold Go.Proofs.YtbjmbahpcoanoaaGreatDoor.put4 Go.Proofs.YtbjmbahpcoanoaaGreatDoor.put8 at l1 l2
   dsimp only [List.length_nil] at l1 l2
   refine bodyPost_ret (v := .tuple #[insV ⟨0, 0, 0, 0, 0, 0, [], 0⟩ none 0, termV ⟨3, -1, 0, 0⟩, .bool true]) ?_ rfl ⟨rfl, hend.rr, hend.k⟩
   rw [results_cells2 line_results]
   simp [asAddr, Result.andThen, l1, l2, insV, insC, termV]
 · go_simp
   refine hK _ _ ?_
   clear hK K
   try simp only [Act.put, List.setIfInBounds_toArray, List.set_cons_zero, List.set_cons_succ]
   refine wpAny_ready (rs := [1]) (by kernel_rfl) (by simp) ?_
   refine AllReady.cons (by simp only [List.getElem?_toArray, List.getElem?_cons_succ, List.getElem?_cons_zero]; rfl) (fun K hK => ?_) AllReady.nil
   go_simp
   refine hK _ _ ?_
   clear hK K
   try simp only [Act.put, List.setIfInBounds_toArray, List.set_cons_zero, List.set_cons_succ]
   refine wpAny_ready (rs := [3]) (by kernel_rfl) (by simp) ?_
   refine AllReady.cons (by simp only [List.getElem?_toArray, List.getElem?_cons_succ, List.getElem?_cons_zero]; rfl) (fun K hK => ?_) AllReady.nil
   go_simp
   refine hK _ _ ?_
   clear hK K
   try simp only [Act.put, List.setIfInBounds_toArray, List.set_cons_zero, List.set_cons_succ]
   refine wpAny_ready (rs := [4]) (by kernel_rfl) (by simp) ?_
   refine AllReady.cons (by simp only [List.getElem?_toArray, List.getElem?_cons_succ, List.getElem?_cons_zero]; rfl) (fun K hK => ?_) AllReady.nil
   go_simp
   refine hK _ _ ?_
   clear hK K
   try simp only [Act.put, List.setIfInBounds_toArray, List.set_cons_zero, List.set_cons_succ]
   refine wpAny_done (by kernel_rfl) ?_ _
   go_wp2
   (try simp only [Exit.inBlock, Exit.then])
   have hend := (VD.out.put8 HW0.out ⟨0, 0, 0, 0, 0, 0, [], 0⟩).put4 HW0.out ⟨3, -1, 0, 0⟩
   have l1 := run_loadVar_row (P := Tryz.prog) _ w.heap.size 46 46 _ (0, 0) _ hend.b Tryz.underlying46 rfl ins8_size
   have l2 := run_loadVar_row (P := Tryz.prog) _ (w.heap.size + 1) 51 51 _ (0, 0) _ hend.e Tryz.underlying51 rfl term4_size
   unfold Go.Proofs.YtbjmbahpcoanoaaGreatDoor.put4 Go.Proofs.YtbjmbahpcoanoaaGreatDoor.put8 at l1 l2
   dsimp only [List.length_nil] at l1 l2
   refine bodyPost_ret (v := .tuple #[insV ⟨0, 0, 0, 0, 0, 0, [], 0⟩ none 0, termV ⟨3, -1, 0, 0⟩, .bool true]) ?_ rfl ⟨rfl, hend.rr, hend.k⟩
   rw [results_cells2 line_results]
   simp [asAddr, Result.andThen, l1, l2, insV, insC, termV]
set_option maxRecDepth 100000 in
set_option maxHeartbeats 8000000 in
theorem line_return {w0 w : World} {g : Nat} {c : Cu} (h : Rr w0 w g c) (hP : PowW w0) (k0 : c.keyB ⟨#[116, 114, 97, 112]⟩ = false) (kk : c.keyB ⟨#[114, 101, 116, 117, 114, 110]⟩ = true) (ke : (Cu.ends (Cu.key c ⟨#[114, 101, 116, 117, 114, 110]⟩)) = false) :
    Calls Tryz.prog 79 #[.pointer (some ⟨g, 0, none⟩)] w fun e w' => e = .returned (.tuple #[insV ⟨0, 0, 0, 0, 0, 0, [], 0⟩ none 0, termV ⟨3, (Cu.regN (Cu.key c ⟨#[114, 101, 116, 117, 114, 110]⟩)), 0, 0⟩, .bool true]) ∧ Did w0 w g (Cu.regC (Cu.key c ⟨#[114, 101, 116, 117, 114, 110]⟩)) w' := by
 have V0 := Lib.hid (Rl.new h)
 have HW0 : Hid (w0.heap.size ≤ w.heap.size) := h.be.size
 have hgl : g < w.heap.size := V0.out.lt
 have SZ : Hid (zI = #[.int .i64 0, .int .i64 0, .int .i64 0, .int .i64 0, .int .i64 0, .int .i64 0, .slice none 0 0, .int .i64 0] ∧ zT = #[.int .i64 0, .int .i64 0, .int .i64 0, .int .i64 0]) := ⟨rfl, rfl⟩
 rw [SZ.out.1, SZ.out.2] at V0
 have M0 : Hid (∀ W, Rr w0 W g c → _) := fun W hr => rkey_miss hr k0
 have S1 : Hid (∀ W, Rr w0 W g c → _) := fun W hr => rkey_hit hr kk
 have S3 : Hid (∀ W, Rr w0 W g (Cu.key c ⟨#[114, 101, 116, 117, 114, 110]⟩) → Calls Tryz.prog 125 #[.pointer (some ⟨g, 0, none⟩)] W fun e w' => e = .returned (.bool false) ∧ W = w') := fun W hr => (rr_ends hr).mono fun _ _ ⟨h1, h2⟩ => ⟨h1.trans (by rw [ke]), h2⟩
 have S4 : Hid (∀ W, Rr w0 W g (Cu.key c ⟨#[114, 101, 116, 117, 114, 110]⟩) → _) := fun W hr => rr_reg hr hP
 clear h k0 kk ke hP
 generalize (Cu.regN (Cu.key c ⟨#[114, 101, 116, 117, 114, 110]⟩)) = n4 at *
 generalize (Cu.regC (Cu.key c ⟨#[114, 101, 116, 117, 114, 110]⟩)) = d4 at *
 generalize (Cu.key c ⟨#[114, 101, 116, 117, 114, 110]⟩) = d1 at *
 go_enter Tryz.func79, Tryz.ntmps79
 go_upto_region 1 with fail
 generalize (w.alloc (.cells #[.int .i64 0, .int .i64 0, .int .i64 0, .int .i64 0, .int .i64 0, .int .i64 0, .slice none 0 0, .int .i64 0] 46)).alloc (.cells #[.int .i64 0, .int .i64 0, .int .i64 0, .int .i64 0] 51) = w0a at *
 go_wp2_with fail
 refine (M0.out _ V0.out.rr).mono ?_
 rintro e w1 ⟨rfl, h1⟩
 have V1 := Lib.hid (V0.out.did h1)
 clear h1 V0 M0
 go_wp2_with fail
 refine (S1.out _ V1.out.rr).mono ?_
 rintro e w2 ⟨rfl, h2⟩
 have V2 := Lib.hid (V1.out.did h2)
 clear h2 V1 S1
 have B2x : Hid (Blk (w2.alloc (.cells #[.int .i64 3, .int .i64 (-1), .int .i64 0, .int .i64 0] 51)) w2.heap.size 51 #[.int .i64 3, .int .i64 (-1), .int .i64 0, .int .i64 0]) := Blk.new w2 _ _
 have hbl : w.heap.size + 1 < w2.heap.size := V2.out.e.lt
 have V2x := Lib.hid (V2.out.alloc (.cells #[.int .i64 3, .int .i64 (-1), .int .i64 0, .int .i64 0] 51))
 clear V2
 go_wp2_with fail
 refine (S3.out _ V2x.out.rr).mono ?_
 rintro e w3 ⟨rfl, hw3⟩
 have V3 : Hid (Rl w0 w w3 g d1 #[.int .i64 0, .int .i64 0, .int .i64 0, .int .i64 0, .int .i64 0, .int .i64 0, .slice none 0 0, .int .i64 0] #[.int .i64 0, .int .i64 0, .int .i64 0, .int .i64 0]) := by rw [← hw3]; exact V2x.out
 have B3 : Hid (Blk w3 w2.heap.size 51 #[.int .i64 3, .int .i64 (-1), .int .i64 0, .int .i64 0]) := by rw [← hw3]; exact B2x.out
 clear hw3 V2x B2x S3
 go_wp2_with fail
 refine (S4.out _ V3.out.rr).mono ?_
 rintro e w4 ⟨rfl, h4⟩
 have V4 := Lib.hid (V3.out.did h4)
 have B4 : Hid (Blk w4 w2.heap.size 51 #[.int .i64 3, .int .i64 (-1), .int .i64 0, .int .i64 0]) := Blk.keep B3.out h4.2 (by omega)
 clear h4 V3 S4 B3
 have x4 : w4.cell? ⟨w2.heap.size, 1, none⟩ = some (.int .i64 (-1)) := B4.out.cell 1
 have f4 := B4.out.free 1
 have hb4 := B4.out.lt
 have V4x := Lib.hid (V4.out.off B4.out (by decide) (by decide) hbl HW0.out 1 (.int .i64 n4))
 have B4x : Hid (Blk (w4.setCell ⟨w2.heap.size, 1, none⟩ (.int .i64 n4)) w2.heap.size 51 #[.int .i64 3, .int .i64 n4, .int .i64 0, .int .i64 0]) := B4.out.put 1 _
 clear V4 B4
 go_upto_region 7 with fail
 clear x4 f4 hb4
 generalize (w4.setCell ⟨w2.heap.size, 1, none⟩ (.int .i64 n4)) = WE at *
 refine wp_region_any (by kernel_rfl) ?_
 change wpAny _ _ _ _ _ _ _ WE.drew
 have VD := Lib.hid (V4x.out.did (V4x.out.rr.stay (Below.refl _ _).drew))
 have BD : Hid (Blk WE.drew w2.heap.size 51 #[.int .i64 3, .int .i64 n4, .int .i64 0, .int .i64 0]) := B4x.out.drew
 have hbd := BD.out.lt
 clear V4x B4x
 generalize WE.drew = WD at *
 obtain ⟨⟨y0, y1, y2, y3, y4, y5, y6, y7⟩, ⟨z0, z1, z2, z3, z4, z5, z6, z7⟩, ⟨p0, p1, p2, p3⟩, q0, q1, q2, q3⟩ := VD.out.zero
 have u0 : WD.cell? ⟨w2.heap.size, 0, none⟩ = some (.int .i64 3) := BD.out.cell 0
 have u1 : WD.cell? ⟨w2.heap.size, 1, none⟩ = some (.int .i64 n4) := BD.out.cell 1
 have u2 : WD.cell? ⟨w2.heap.size, 2, none⟩ = some (.int .i64 0) := BD.out.cell 2
 have u3 : WD.cell? ⟨w2.heap.size, 3, none⟩ = some (.int .i64 0) := BD.out.cell 3
 refine wpAny_take (i := 0) (v := ?vq2) (by simp only [List.getElem?_toArray, List.getElem?_cons_zero]; rfl) (by kernel_rfl) (by kernel_rfl) (by kernel_rfl) (by exact fun _ _ _ h => h) (Or.inl ⟨by rfl, ?yq2⟩) ?_
 case yq2 => (intro W9; go_simp; try (with_reducible rfl))
 try simp only [Act.put, List.setIfInBounds_toArray, List.set_cons_zero, List.set_cons_succ]
 refine wpAny_ready (rs := [1, 2]) (by kernel_rfl) (by simp) ?_
 refine AllReady.cons (by simp only [List.getElem?_toArray, List.getElem?_cons_succ, List.getElem?_cons_zero]; rfl) (fun K hK => ?_) (AllReady.cons (by simp only [List.getElem?_toArray, List.getElem?_cons_succ, List.getElem?_cons_zero]; rfl) (fun K hK => ?_) AllReady.nil)
 · go_simp
   refine hK _ _ ?_
   clear hK K
   try simp only [Act.put, List.setIfInBounds_toArray, List.set_cons_zero, List.set_cons_succ]
   refine wpAny_ready (rs := [2]) (by kernel_rfl) (by simp) ?_
   refine AllReady.cons (by simp only [List.getElem?_toArray, List.getElem?_cons_succ, List.getElem?_cons_zero]; rfl) (fun K hK => ?_) AllReady.nil
   go_simp
   refine hK _ _ ?_
   clear hK K
   try simp only [Act.put, List.setIfInBounds_toArray, List.set_cons_zero, List.set_cons_succ]
   refine wpAny_ready (rs := [3]) (by kernel_rfl) (by simp) ?_
   refine AllReady.cons (by simp only [List.getElem?_toArray, List.getElem?_cons_succ, List.getElem?_cons_zero]; rfl) (fun K hK => ?_) AllReady.nil
   go_simp
   refine hK _ _ ?_
   clear hK K
   try simp only [Act.put, List.setIfInBounds_toArray, List.set_cons_zero, List.set_cons_succ]
   refine wpAny_ready (rs := [4]) (by kernel_rfl) (by simp) ?_
   refine AllReady.cons (by simp only [List.getElem?_toArray, List.getElem?_cons_succ, List.getElem?_cons_zero]; rfl) (fun K hK => ?_) AllReady.nil
   go_simp
   refine hK _ _ ?_
   clear hK K
   try simp only [Act.put, List.setIfInBounds_toArray, List.set_cons_zero, List.set_cons_succ]
   refine wpAny_done (by kernel_rfl) ?_ _
   go_wp2
   (try simp only [Exit.inBlock, Exit.then])
   have hend := (VD.out.put8 HW0.out ⟨0, 0, 0, 0, 0, 0, [], 0⟩).put4 HW0.out ⟨3, n4, 0, 0⟩
   have l1 := run_loadVar_row (P := Tryz.prog) _ w.heap.size 46 46 _ (0, 0) _ hend.b Tryz.underlying46 rfl ins8_size
   have l2 := run_loadVar_row (P := Tryz.prog) _ (w.heap.size + 1) 51 51 _ (0, 0) _ hend.e Tryz.underlying51 rfl term4_size
   unfold Go.Proofs.YtbjmbahpcoanoaaGreatDoor.put4 Go.Proofs.YtbjmbahpcoanoaaGreatDoor.put8 at l1 l2
   dsimp only [List.length_nil] at l1 l2
   refine bodyPost_ret (v := .tuple #[insV ⟨0, 0, 0, 0, 0, 0, [], 0⟩ none 0, termV ⟨3, n4, 0, 0⟩, .bool true]) ?_ rfl ⟨rfl, hend.rr, hend.k⟩
   rw [results_cells2 line_results]
   simp [asAddr, Result.andThen, l1, l2, insV, insC, termV]
 · go_simp
   refine hK _ _ ?_
   clear hK K
   try simp only [Act.put, List.setIfInBounds_toArray, List.set_cons_zero, List.set_cons_succ]
   refine wpAny_ready (rs := [1]) (by kernel_rfl) (by simp) ?_
   refine AllReady.cons (by simp only [List.getElem?_toArray, List.getElem?_cons_succ, List.getElem?_cons_zero]; rfl) (fun K hK => ?_) AllReady.nil
   go_simp
   refine hK _ _ ?_
   clear hK K
   try simp only [Act.put, List.setIfInBounds_toArray, List.set_cons_zero, List.set_cons_succ]
   refine wpAny_ready (rs := [3]) (by kernel_rfl) (by simp) ?_
   refine AllReady.cons (by simp only [List.getElem?_toArray, List.getElem?_cons_succ, List.getElem?_cons_zero]; rfl) (fun K hK => ?_) AllReady.nil
   go_simp
   refine hK _ _ ?_
   clear hK K
   try simp only [Act.put, List.setIfInBounds_toArray, List.set_cons_zero, List.set_cons_succ]
   refine wpAny_ready (rs := [4]) (by kernel_rfl) (by simp) ?_
   refine AllReady.cons (by simp only [List.getElem?_toArray, List.getElem?_cons_succ, List.getElem?_cons_zero]; rfl) (fun K hK => ?_) AllReady.nil
   go_simp
   refine hK _ _ ?_
   clear hK K
   try simp only [Act.put, List.setIfInBounds_toArray, List.set_cons_zero, List.set_cons_succ]
   refine wpAny_done (by kernel_rfl) ?_ _
   go_wp2
   (try simp only [Exit.inBlock, Exit.then])
   have hend := (VD.out.put8 HW0.out ⟨0, 0, 0, 0, 0, 0, [], 0⟩).put4 HW0.out ⟨3, n4, 0, 0⟩
   have l1 := run_loadVar_row (P := Tryz.prog) _ w.heap.size 46 46 _ (0, 0) _ hend.b Tryz.underlying46 rfl ins8_size
   have l2 := run_loadVar_row (P := Tryz.prog) _ (w.heap.size + 1) 51 51 _ (0, 0) _ hend.e Tryz.underlying51 rfl term4_size
   unfold Go.Proofs.YtbjmbahpcoanoaaGreatDoor.put4 Go.Proofs.YtbjmbahpcoanoaaGreatDoor.put8 at l1 l2
   dsimp only [List.length_nil] at l1 l2
   refine bodyPost_ret (v := .tuple #[insV ⟨0, 0, 0, 0, 0, 0, [], 0⟩ none 0, termV ⟨3, n4, 0, 0⟩, .bool true]) ?_ rfl ⟨rfl, hend.rr, hend.k⟩
   rw [results_cells2 line_results]
   simp [asAddr, Result.andThen, l1, l2, insV, insC, termV]
set_option maxRecDepth 100000 in
set_option maxHeartbeats 8000000 in
theorem line_jump {w0 w : World} {g : Nat} {c : Cu} (h : Rr w0 w g c) (k0 : c.keyB ⟨#[116, 114, 97, 112]⟩ = false) (k1 : c.keyB ⟨#[114, 101, 116, 117, 114, 110]⟩ = false) (kk : c.isB ⟨#[226, 134, 146]⟩ = true) :
    Calls Tryz.prog 79 #[.pointer (some ⟨g, 0, none⟩)] w fun e w' => e = .returned (.tuple #[insV ⟨0, 0, 0, 0, 0, 0, [], 0⟩ none 0, termV ⟨1, 0, (Cu.numN (Cu.is c ⟨#[226, 134, 146]⟩) 0 199), 0⟩, .bool true]) ∧ Did w0 w g (Cu.num (Cu.is c ⟨#[226, 134, 146]⟩) 0 199) w' := by
 have V0 := Lib.hid (Rl.new h)
 have HW0 : Hid (w0.heap.size ≤ w.heap.size) := h.be.size
 have hgl : g < w.heap.size := V0.out.lt
 have SZ : Hid (zI = #[.int .i64 0, .int .i64 0, .int .i64 0, .int .i64 0, .int .i64 0, .int .i64 0, .slice none 0 0, .int .i64 0] ∧ zT = #[.int .i64 0, .int .i64 0, .int .i64 0, .int .i64 0]) := ⟨rfl, rfl⟩
 rw [SZ.out.1, SZ.out.2] at V0
 have M0 : Hid (∀ W, Rr w0 W g c → _) := fun W hr => rkey_miss hr k0
 have M1 : Hid (∀ W, Rr w0 W g c → _) := fun W hr => rkey_miss hr k1
 have S1 : Hid (∀ W, Rr w0 W g c → _) := fun W hr => ris_hit hr kk
 have S2 : Hid (∀ W, Rr w0 W g (Cu.is c ⟨#[226, 134, 146]⟩) → _) := fun W hr => rr_to hr
 clear h k0 k1 kk
 generalize (Cu.numN (Cu.is c ⟨#[226, 134, 146]⟩) 0 199) = n2 at *
 generalize (Cu.num (Cu.is c ⟨#[226, 134, 146]⟩) 0 199) = d2 at *
 generalize (Cu.is c ⟨#[226, 134, 146]⟩) = d1 at *
 go_enter Tryz.func79, Tryz.ntmps79
 go_upto_region 1 with fail
 generalize (w.alloc (.cells #[.int .i64 0, .int .i64 0, .int .i64 0, .int .i64 0, .int .i64 0, .int .i64 0, .slice none 0 0, .int .i64 0] 46)).alloc (.cells #[.int .i64 0, .int .i64 0, .int .i64 0, .int .i64 0] 51) = w0a at *
 go_wp2_with fail
 refine (M0.out _ V0.out.rr).mono ?_
 rintro e w1 ⟨rfl, h1⟩
 have V1 := Lib.hid (V0.out.did h1)
 clear h1 V0 M0
 go_wp2_with fail
 refine (M1.out _ V1.out.rr).mono ?_
 rintro e w2 ⟨rfl, h2⟩
 have V2 := Lib.hid (V1.out.did h2)
 clear h2 V1 M1
 go_wp2_with fail
 refine (S1.out _ V2.out.rr).mono ?_
 rintro e w3 ⟨rfl, h3⟩
 have V3 := Lib.hid (V2.out.did h3)
 clear h3 V2 S1
 go_wp2_with fail
 refine (S2.out _ V3.out.rr).mono ?_
 rintro e w4 ⟨rfl, h4⟩
 have V4 := Lib.hid (V3.out.did h4)
 clear h4 V3 S2
 obtain ⟨⟨y0, y1, y2, y3, y4, y5, y6, y7⟩, ⟨z0, z1, z2, z3, z4, z5, z6, z7⟩, ⟨p0, p1, p2, p3⟩, q0, q1, q2, q3⟩ := V4.out.zero
 go_wp2
 (try simp only [Exit.inBlock, Exit.then])
 have hend := (V4.out.put8 HW0.out ⟨0, 0, 0, 0, 0, 0, [], 0⟩).put4 HW0.out ⟨1, 0, n2, 0⟩
 have l1 := run_loadVar_row (P := Tryz.prog) _ w.heap.size 46 46 _ (0, 0) _ hend.b Tryz.underlying46 rfl ins8_size
 have l2 := run_loadVar_row (P := Tryz.prog) _ (w.heap.size + 1) 51 51 _ (0, 0) _ hend.e Tryz.underlying51 rfl term4_size
 unfold Go.Proofs.YtbjmbahpcoanoaaGreatDoor.put4 Go.Proofs.YtbjmbahpcoanoaaGreatDoor.put8 at l1 l2
 dsimp only [List.length_nil] at l1 l2
 refine bodyPost_ret (v := .tuple #[insV ⟨0, 0, 0, 0, 0, 0, [], 0⟩ none 0, termV ⟨1, 0, n2, 0⟩, .bool true]) ?_ rfl ⟨rfl, hend.rr, hend.k⟩
 rw [results_cells2 line_results]
 simp [asAddr, Result.andThen, l1, l2, insV, insC, termV]
set_option maxRecDepth 100000 in
set_option maxHeartbeats 8000000 in
theorem line_store {w0 w : World} {g : Nat} {c : Cu} (h : Rr w0 w g c) (hP : PowW w0) (k0 : c.keyB ⟨#[116, 114, 97, 112]⟩ = false) (k1 : c.keyB ⟨#[114, 101, 116, 117, 114, 110]⟩ = false) (k2 : c.isB ⟨#[226, 134, 146]⟩ = false) (kk : c.keyB ⟨#[115, 116, 111, 114, 101]⟩ = true) :
    Calls Tryz.prog 79 #[.pointer (some ⟨g, 0, none⟩)] w fun e w' => e = .returned (.tuple #[insV ⟨12, 0, (Cu.regN (Cu.key c ⟨#[115, 116, 111, 114, 101]⟩)), (Cu.regN (Cu.num (Cu.regC (Cu.key c ⟨#[115, 116, 111, 114, 101]⟩)) (-1099511627776) 1099511627776)), (Cu.numN (Cu.regC (Cu.key c ⟨#[115, 116, 111, 114, 101]⟩)) (-1099511627776) 1099511627776), 0, [], 0⟩ none 0, termV ⟨0, 0, 0, 0⟩, .bool false]) ∧ Did w0 w g (Cu.regC (Cu.num (Cu.regC (Cu.key c ⟨#[115, 116, 111, 114, 101]⟩)) (-1099511627776) 1099511627776)) w' := by
 have V0 := Lib.hid (Rl.new h)
 have HW0 : Hid (w0.heap.size ≤ w.heap.size) := h.be.size
 have hgl : g < w.heap.size := V0.out.lt
 have SZ : Hid (zI = #[.int .i64 0, .int .i64 0, .int .i64 0, .int .i64 0, .int .i64 0, .int .i64 0, .slice none 0 0, .int .i64 0] ∧ zT = #[.int .i64 0, .int .i64 0, .int .i64 0, .int .i64 0]) := ⟨rfl, rfl⟩
 rw [SZ.out.1, SZ.out.2] at V0
 have M0 : Hid (∀ W, Rr w0 W g c → _) := fun W hr => rkey_miss hr k0
 have M1 : Hid (∀ W, Rr w0 W g c → _) := fun W hr => rkey_miss hr k1
 have M2 : Hid (∀ W, Rr w0 W g c → _) := fun W hr => ris_miss hr k2
 have S1 : Hid (∀ W, Rr w0 W g c → _) := fun W hr => rkey_hit hr kk
 have S2 : Hid (∀ W, Rr w0 W g (Cu.key c ⟨#[115, 116, 111, 114, 101]⟩) → _) := fun W hr => rr_reg hr hP
 have S4 : Hid (∀ W, Rr w0 W g (Cu.regC (Cu.key c ⟨#[115, 116, 111, 114, 101]⟩)) → _) := fun W hr => rr_num (-1099511627776) 1099511627776 hr
 have S6 : Hid (∀ W, Rr w0 W g (Cu.num (Cu.regC (Cu.key c ⟨#[115, 116, 111, 114, 101]⟩)) (-1099511627776) 1099511627776) → _) := fun W hr => rr_reg hr hP
 clear h k0 k1 k2 kk hP
 generalize (Cu.regN (Cu.num (Cu.regC (Cu.key c ⟨#[115, 116, 111, 114, 101]⟩)) (-1099511627776) 1099511627776)) = n6 at *
 generalize (Cu.regC (Cu.num (Cu.regC (Cu.key c ⟨#[115, 116, 111, 114, 101]⟩)) (-1099511627776) 1099511627776)) = d6 at *
 generalize (Cu.numN (Cu.regC (Cu.key c ⟨#[115, 116, 111, 114, 101]⟩)) (-1099511627776) 1099511627776) = n4 at *
 generalize (Cu.num (Cu.regC (Cu.key c ⟨#[115, 116, 111, 114, 101]⟩)) (-1099511627776) 1099511627776) = d4 at *
 generalize (Cu.regN (Cu.key c ⟨#[115, 116, 111, 114, 101]⟩)) = n2 at *
 generalize (Cu.regC (Cu.key c ⟨#[115, 116, 111, 114, 101]⟩)) = d2 at *
 generalize (Cu.key c ⟨#[115, 116, 111, 114, 101]⟩) = d1 at *
 go_enter Tryz.func79, Tryz.ntmps79
 go_upto_region 1 with fail
 generalize (w.alloc (.cells #[.int .i64 0, .int .i64 0, .int .i64 0, .int .i64 0, .int .i64 0, .int .i64 0, .slice none 0 0, .int .i64 0] 46)).alloc (.cells #[.int .i64 0, .int .i64 0, .int .i64 0, .int .i64 0] 51) = w0a at *
 go_wp2_with fail
 refine (M0.out _ V0.out.rr).mono ?_
 rintro e w1 ⟨rfl, h1⟩
 have V1 := Lib.hid (V0.out.did h1)
 clear h1 V0 M0
 go_wp2_with fail
 refine (M1.out _ V1.out.rr).mono ?_
 rintro e w2 ⟨rfl, h2⟩
 have V2 := Lib.hid (V1.out.did h2)
 clear h2 V1 M1
 go_wp2_with fail
 refine (M2.out _ V2.out.rr).mono ?_
 rintro e w3 ⟨rfl, h3⟩
 have V3 := Lib.hid (V2.out.did h3)
 clear h3 V2 M2
 go_wp2_with fail
 refine (S1.out _ V3.out.rr).mono ?_
 rintro e w4 ⟨rfl, h4⟩
 have V4 := Lib.hid (V3.out.did h4)
 clear h4 V3 S1
 go_wp2_with fail
 refine (S2.out _ V4.out.rr).mono ?_
 rintro e w5 ⟨rfl, h5⟩
 have V5 := Lib.hid (V4.out.did h5)
 clear h5 V4 S2
 have B5x : Hid (Blk (w5.alloc (.cells #[.int .i64 12, .int .i64 0, .int .i64 n2, .int .i64 0, .int .i64 0, .int .i64 0, .slice none 0 0, .int .i64 0] 46)) w5.heap.size 46 #[.int .i64 12, .int .i64 0, .int .i64 n2, .int .i64 0, .int .i64 0, .int .i64 0, .slice none 0 0, .int .i64 0]) := Blk.new w5 _ _
 have hbl : w.heap.size + 1 < w5.heap.size := V5.out.e.lt
 have V5x := Lib.hid (V5.out.alloc (.cells #[.int .i64 12, .int .i64 0, .int .i64 n2, .int .i64 0, .int .i64 0, .int .i64 0, .slice none 0 0, .int .i64 0] 46))
 clear V5
 go_wp2_with fail
 refine (S4.out _ V5x.out.rr).mono ?_
 rintro e w6 ⟨rfl, h6⟩
 have V6 := Lib.hid (V5x.out.did h6)
 have B6 : Hid (Blk w6 w5.heap.size 46 #[.int .i64 12, .int .i64 0, .int .i64 n2, .int .i64 0, .int .i64 0, .int .i64 0, .slice none 0 0, .int .i64 0]) := Blk.keep B5x.out h6.2 (by omega)
 clear h6 V5x S4 B5x
 have x6 : w6.cell? ⟨w5.heap.size, 4, none⟩ = some (.int .i64 0) := B6.out.cell 4
 have f6 := B6.out.free 4
 have hb6 := B6.out.lt
 have V6x := Lib.hid (V6.out.off B6.out (by decide) (by decide) hbl HW0.out 4 (.int .i64 n4))
 have B6x : Hid (Blk (w6.setCell ⟨w5.heap.size, 4, none⟩ (.int .i64 n4)) w5.heap.size 46 #[.int .i64 12, .int .i64 0, .int .i64 n2, .int .i64 0, .int .i64 n4, .int .i64 0, .slice none 0 0, .int .i64 0]) := B6.out.put 4 _
 clear V6 B6
 go_wp2_with fail
 refine (S6.out _ V6x.out.rr).mono ?_
 rintro e w7 ⟨rfl, h7⟩
 have V7 := Lib.hid (V6x.out.did h7)
 have B7 : Hid (Blk w7 w5.heap.size 46 #[.int .i64 12, .int .i64 0, .int .i64 n2, .int .i64 0, .int .i64 n4, .int .i64 0, .slice none 0 0, .int .i64 0]) := Blk.keep B6x.out h7.2 (by omega)
 clear h7 V6x S6 B6x x6 f6 hb6
 have x7 : w7.cell? ⟨w5.heap.size, 3, none⟩ = some (.int .i64 0) := B7.out.cell 3
 have f7 := B7.out.free 3
 have hb7 := B7.out.lt
 have V7x := Lib.hid (V7.out.off B7.out (by decide) (by decide) hbl HW0.out 3 (.int .i64 n6))
 have B7x : Hid (Blk (w7.setCell ⟨w5.heap.size, 3, none⟩ (.int .i64 n6)) w5.heap.size 46 #[.int .i64 12, .int .i64 0, .int .i64 n2, .int .i64 n6, .int .i64 n4, .int .i64 0, .slice none 0 0, .int .i64 0]) := B7.out.put 3 _
 clear V7 B7
 go_upto_region 14 with fail
 clear x7 f7 hb7
 generalize (w7.setCell ⟨w5.heap.size, 3, none⟩ (.int .i64 n6)) = WE at *
 obtain ⟨⟨y0, y1, y2, y3, y4, y5, y6, y7⟩, ⟨z0, z1, z2, z3, z4, z5, z6, z7⟩, ⟨p0, p1, p2, p3⟩, q0, q1, q2, q3⟩ := V7x.out.zero
 have u0 : WE.cell? ⟨w5.heap.size, 0, none⟩ = some (.int .i64 12) := B7x.out.cell 0
 have u1 : WE.cell? ⟨w5.heap.size, 1, none⟩ = some (.int .i64 0) := B7x.out.cell 1
 have u2 : WE.cell? ⟨w5.heap.size, 2, none⟩ = some (.int .i64 n2) := B7x.out.cell 2
 have u3 : WE.cell? ⟨w5.heap.size, 3, none⟩ = some (.int .i64 n6) := B7x.out.cell 3
 have u4 : WE.cell? ⟨w5.heap.size, 4, none⟩ = some (.int .i64 n4) := B7x.out.cell 4
 have u5 : WE.cell? ⟨w5.heap.size, 5, none⟩ = some (.int .i64 0) := B7x.out.cell 5
 have u6 : WE.cell? ⟨w5.heap.size, 6, none⟩ = some (.slice none 0 0) := B7x.out.cell 6
 have u7 : WE.cell? ⟨w5.heap.size, 7, none⟩ = some (.int .i64 0) := B7x.out.cell 7
 go_wp2
 (try simp only [Exit.inBlock, Exit.then])
 have hend := (V7x.out.put8 HW0.out ⟨12, 0, n2, n6, n4, 0, [], 0⟩).put4 HW0.out ⟨0, 0, 0, 0⟩
 have l1 := run_loadVar_row (P := Tryz.prog) _ w.heap.size 46 46 _ (0, 0) _ hend.b Tryz.underlying46 rfl ins8_size
 have l2 := run_loadVar_row (P := Tryz.prog) _ (w.heap.size + 1) 51 51 _ (0, 0) _ hend.e Tryz.underlying51 rfl term4_size
 unfold Go.Proofs.YtbjmbahpcoanoaaGreatDoor.put4 Go.Proofs.YtbjmbahpcoanoaaGreatDoor.put8 at l1 l2
 dsimp only [List.length_nil] at l1 l2
 refine bodyPost_ret (v := .tuple #[insV ⟨12, 0, n2, n6, n4, 0, [], 0⟩ none 0, termV ⟨0, 0, 0, 0⟩, .bool false]) ?_ rfl ⟨rfl, hend.rr, hend.k⟩
 rw [results_cells2 line_results]
 simp [asAddr, Result.andThen, l1, l2, insV, insC, termV]
set_option maxRecDepth 100000 in
set_option maxHeartbeats 8000000 in
theorem line_call {w0 w : World} {g : Nat} {c : Cu} (h : Rr w0 w g c) (k0 : c.keyB ⟨#[116, 114, 97, 112]⟩ = false) (k1 : c.keyB ⟨#[114, 101, 116, 117, 114, 110]⟩ = false) (k2 : c.isB ⟨#[226, 134, 146]⟩ = false) (k3 : c.keyB ⟨#[115, 116, 111, 114, 101]⟩ = false) (kk : c.keyB ⟨#[99, 97, 108, 108]⟩ = true) :
    Calls Tryz.prog 79 #[.pointer (some ⟨g, 0, none⟩)] w fun e w' => e = .returned (.tuple #[insV ⟨13, 0, 0, 0, 0, (Cu.numN (Cu.key c ⟨#[99, 97, 108, 108]⟩) 0 99), [], (Cu.numN (Cu.num (Cu.key c ⟨#[99, 97, 108, 108]⟩) 0 99) 0 8)⟩ none 0, termV ⟨0, 0, 0, 0⟩, .bool false]) ∧ Did w0 w g (Cu.num (Cu.num (Cu.key c ⟨#[99, 97, 108, 108]⟩) 0 99) 0 8) w' := by
 have V0 := Lib.hid (Rl.new h)
 have HW0 : Hid (w0.heap.size ≤ w.heap.size) := h.be.size
 have hgl : g < w.heap.size := V0.out.lt
 have SZ : Hid (zI = #[.int .i64 0, .int .i64 0, .int .i64 0, .int .i64 0, .int .i64 0, .int .i64 0, .slice none 0 0, .int .i64 0] ∧ zT = #[.int .i64 0, .int .i64 0, .int .i64 0, .int .i64 0]) := ⟨rfl, rfl⟩
 rw [SZ.out.1, SZ.out.2] at V0
 have M0 : Hid (∀ W, Rr w0 W g c → _) := fun W hr => rkey_miss hr k0
 have M1 : Hid (∀ W, Rr w0 W g c → _) := fun W hr => rkey_miss hr k1
 have M2 : Hid (∀ W, Rr w0 W g c → _) := fun W hr => ris_miss hr k2
 have M3 : Hid (∀ W, Rr w0 W g c → _) := fun W hr => rkey_miss hr k3
 have S1 : Hid (∀ W, Rr w0 W g c → _) := fun W hr => rkey_hit hr kk
 have S2 : Hid (∀ W, Rr w0 W g (Cu.key c ⟨#[99, 97, 108, 108]⟩) → _) := fun W hr => rr_num 0 99 hr
 have S4 : Hid (∀ W, Rr w0 W g (Cu.num (Cu.key c ⟨#[99, 97, 108, 108]⟩) 0 99) → _) := fun W hr => rr_num 0 8 hr
 clear h k0 k1 k2 k3 kk
 generalize (Cu.numN (Cu.num (Cu.key c ⟨#[99, 97, 108, 108]⟩) 0 99) 0 8) = n4 at *
 generalize (Cu.num (Cu.num (Cu.key c ⟨#[99, 97, 108, 108]⟩) 0 99) 0 8) = d4 at *
 generalize (Cu.numN (Cu.key c ⟨#[99, 97, 108, 108]⟩) 0 99) = n2 at *
 generalize (Cu.num (Cu.key c ⟨#[99, 97, 108, 108]⟩) 0 99) = d2 at *
 generalize (Cu.key c ⟨#[99, 97, 108, 108]⟩) = d1 at *
 go_enter Tryz.func79, Tryz.ntmps79
 go_upto_region 1 with fail
 generalize (w.alloc (.cells #[.int .i64 0, .int .i64 0, .int .i64 0, .int .i64 0, .int .i64 0, .int .i64 0, .slice none 0 0, .int .i64 0] 46)).alloc (.cells #[.int .i64 0, .int .i64 0, .int .i64 0, .int .i64 0] 51) = w0a at *
 go_wp2_with fail
 refine (M0.out _ V0.out.rr).mono ?_
 rintro e w1 ⟨rfl, h1⟩
 have V1 := Lib.hid (V0.out.did h1)
 clear h1 V0 M0
 go_wp2_with fail
 refine (M1.out _ V1.out.rr).mono ?_
 rintro e w2 ⟨rfl, h2⟩
 have V2 := Lib.hid (V1.out.did h2)
 clear h2 V1 M1
 go_wp2_with fail
 refine (M2.out _ V2.out.rr).mono ?_
 rintro e w3 ⟨rfl, h3⟩
 have V3 := Lib.hid (V2.out.did h3)
 clear h3 V2 M2
 go_wp2_with fail
 refine (M3.out _ V3.out.rr).mono ?_
 rintro e w4 ⟨rfl, h4⟩
 have V4 := Lib.hid (V3.out.did h4)
 clear h4 V3 M3
 go_wp2_with fail
 refine (S1.out _ V4.out.rr).mono ?_
 rintro e w5 ⟨rfl, h5⟩
 have V5 := Lib.hid (V4.out.did h5)
 clear h5 V4 S1
 go_wp2_with fail
 refine (S2.out _ V5.out.rr).mono ?_
 rintro e w6 ⟨rfl, h6⟩
 have V6 := Lib.hid (V5.out.did h6)
 clear h6 V5 S2
 have B6x : Hid (Blk (w6.alloc (.cells #[.int .i64 13, .int .i64 0, .int .i64 0, .int .i64 0, .int .i64 0, .int .i64 n2, .slice none 0 0, .int .i64 0] 46)) w6.heap.size 46 #[.int .i64 13, .int .i64 0, .int .i64 0, .int .i64 0, .int .i64 0, .int .i64 n2, .slice none 0 0, .int .i64 0]) := Blk.new w6 _ _
 have hbl : w.heap.size + 1 < w6.heap.size := V6.out.e.lt
 have V6x := Lib.hid (V6.out.alloc (.cells #[.int .i64 13, .int .i64 0, .int .i64 0, .int .i64 0, .int .i64 0, .int .i64 n2, .slice none 0 0, .int .i64 0] 46))
 clear V6
 go_wp2_with fail
 refine (S4.out _ V6x.out.rr).mono ?_
 rintro e w7 ⟨rfl, h7⟩
 have V7 := Lib.hid (V6x.out.did h7)
 have B7 : Hid (Blk w7 w6.heap.size 46 #[.int .i64 13, .int .i64 0, .int .i64 0, .int .i64 0, .int .i64 0, .int .i64 n2, .slice none 0 0, .int .i64 0]) := Blk.keep B6x.out h7.2 (by omega)
 clear h7 V6x S4 B6x
 have x7 : w7.cell? ⟨w6.heap.size, 7, none⟩ = some (.int .i64 0) := B7.out.cell 7
 have f7 := B7.out.free 7
 have hb7 := B7.out.lt
 have V7x := Lib.hid (V7.out.off B7.out (by decide) (by decide) hbl HW0.out 7 (.int .i64 n4))
 have B7x : Hid (Blk (w7.setCell ⟨w6.heap.size, 7, none⟩ (.int .i64 n4)) w6.heap.size 46 #[.int .i64 13, .int .i64 0, .int .i64 0, .int .i64 0, .int .i64 0, .int .i64 n2, .slice none 0 0, .int .i64 n4]) := B7.out.put 7 _
 clear V7 B7
 go_upto_region 18 with fail
 clear x7 f7 hb7
 generalize (w7.setCell ⟨w6.heap.size, 7, none⟩ (.int .i64 n4)) = WE at *
 obtain ⟨⟨y0, y1, y2, y3, y4, y5, y6, y7⟩, ⟨z0, z1, z2, z3, z4, z5, z6, z7⟩, ⟨p0, p1, p2, p3⟩, q0, q1, q2, q3⟩ := V7x.out.zero
 have u0 : WE.cell? ⟨w6.heap.size, 0, none⟩ = some (.int .i64 13) := B7x.out.cell 0
 have u1 : WE.cell? ⟨w6.heap.size, 1, none⟩ = some (.int .i64 0) := B7x.out.cell 1
 have u2 : WE.cell? ⟨w6.heap.size, 2, none⟩ = some (.int .i64 0) := B7x.out.cell 2
 have u3 : WE.cell? ⟨w6.heap.size, 3, none⟩ = some (.int .i64 0) := B7x.out.cell 3
 have u4 : WE.cell? ⟨w6.heap.size, 4, none⟩ = some (.int .i64 0) := B7x.out.cell 4
 have u5 : WE.cell? ⟨w6.heap.size, 5, none⟩ = some (.int .i64 n2) := B7x.out.cell 5
 have u6 : WE.cell? ⟨w6.heap.size, 6, none⟩ = some (.slice none 0 0) := B7x.out.cell 6
 have u7 : WE.cell? ⟨w6.heap.size, 7, none⟩ = some (.int .i64 n4) := B7x.out.cell 7
 go_wp2
 (try simp only [Exit.inBlock, Exit.then])
 have hend := (V7x.out.put8 HW0.out ⟨13, 0, 0, 0, 0, n2, [], n4⟩).put4 HW0.out ⟨0, 0, 0, 0⟩
 have l1 := run_loadVar_row (P := Tryz.prog) _ w.heap.size 46 46 _ (0, 0) _ hend.b Tryz.underlying46 rfl ins8_size
 have l2 := run_loadVar_row (P := Tryz.prog) _ (w.heap.size + 1) 51 51 _ (0, 0) _ hend.e Tryz.underlying51 rfl term4_size
 unfold Go.Proofs.YtbjmbahpcoanoaaGreatDoor.put4 Go.Proofs.YtbjmbahpcoanoaaGreatDoor.put8 at l1 l2
 dsimp only [List.length_nil] at l1 l2
 refine bodyPost_ret (v := .tuple #[insV ⟨13, 0, 0, 0, 0, n2, [], n4⟩ none 0, termV ⟨0, 0, 0, 0⟩, .bool false]) ?_ rfl ⟨rfl, hend.rr, hend.k⟩
 rw [results_cells2 line_results]
 simp [asAddr, Result.andThen, l1, l2, insV, insC, termV]
set_option maxRecDepth 100000 in
set_option maxHeartbeats 8000000 in
theorem line_put {w0 w : World} {g : Nat} {c : Cu} (h : Rr w0 w g c) (hP : PowW w0) (k0 : c.keyB ⟨#[116, 114, 97, 112]⟩ = false) (k1 : c.keyB ⟨#[114, 101, 116, 117, 114, 110]⟩ = false) (k2 : c.isB ⟨#[226, 134, 146]⟩ = false) (k3 : c.keyB ⟨#[115, 116, 111, 114, 101]⟩ = false) (k4 : c.keyB ⟨#[99, 97, 108, 108]⟩ = false) (kk : c.slotB = true) :
    Calls Tryz.prog 79 #[.pointer (some ⟨g, 0, none⟩)] w fun e w' => e = .returned (.tuple #[insV ⟨16, 0, (Cu.regN (Cu.mark (Cu.slotC c) [⟨#[226, 134, 144]⟩])), 0, c.slotN, 0, [], 0⟩ none 0, termV ⟨0, 0, 0, 0⟩, .bool false]) ∧ Did w0 w g (Cu.regC (Cu.mark (Cu.slotC c) [⟨#[226, 134, 144]⟩])) w' := by
 have V0 := Lib.hid (Rl.new h)
 have HW0 : Hid (w0.heap.size ≤ w.heap.size) := h.be.size
 have hgl : g < w.heap.size := V0.out.lt
 have SZ : Hid (zI = #[.int .i64 0, .int .i64 0, .int .i64 0, .int .i64 0, .int .i64 0, .int .i64 0, .slice none 0 0, .int .i64 0] ∧ zT = #[.int .i64 0, .int .i64 0, .int .i64 0, .int .i64 0]) := ⟨rfl, rfl⟩
 rw [SZ.out.1, SZ.out.2] at V0
 have M0 : Hid (∀ W, Rr w0 W g c → _) := fun W hr => rkey_miss hr k0
 have M1 : Hid (∀ W, Rr w0 W g c → _) := fun W hr => rkey_miss hr k1
 have M2 : Hid (∀ W, Rr w0 W g c → _) := fun W hr => ris_miss hr k2
 have M3 : Hid (∀ W, Rr w0 W g c → _) := fun W hr => rkey_miss hr k3
 have M4 : Hid (∀ W, Rr w0 W g c → _) := fun W hr => rkey_miss hr k4
 have S1 : Hid (∀ W, Rr w0 W g c → _) := fun W hr => rslot_hit hr hP kk
 have S2 : Hid (∀ W, Rr w0 W g c → _) := fun W hr => rslot_name hr kk
 have S3 : Hid (∀ W, Rr w0 W g (Cu.slotC c) → _) := fun W hr => rr_mark hr
 have S4 : Hid (∀ W, Rr w0 W g (Cu.mark (Cu.slotC c) [⟨#[226, 134, 144]⟩]) → _) := fun W hr => rr_reg hr hP
 have hsn := slotN_pos c
 clear h k0 k1 k2 k3 k4 kk hP
 generalize (Cu.regN (Cu.mark (Cu.slotC c) [⟨#[226, 134, 144]⟩])) = n4 at *
 generalize (Cu.regC (Cu.mark (Cu.slotC c) [⟨#[226, 134, 144]⟩])) = d4 at *
 generalize (Cu.mark (Cu.slotC c) [⟨#[226, 134, 144]⟩]) = d3 at *
 generalize (Cu.slotC c) = d2 at *
 generalize c.slotN = n1 at *
 go_enter Tryz.func79, Tryz.ntmps79
 go_upto_region 1 with fail
 generalize (w.alloc (.cells #[.int .i64 0, .int .i64 0, .int .i64 0, .int .i64 0, .int .i64 0, .int .i64 0, .slice none 0 0, .int .i64 0] 46)).alloc (.cells #[.int .i64 0, .int .i64 0, .int .i64 0, .int .i64 0] 51) = w0a at *
 go_wp2_with fail
 refine (M0.out _ V0.out.rr).mono ?_
 rintro e w1 ⟨rfl, h1⟩
 have V1 := Lib.hid (V0.out.did h1)
 clear h1 V0 M0
 go_wp2_with fail
 refine (M1.out _ V1.out.rr).mono ?_
 rintro e w2 ⟨rfl, h2⟩
 have V2 := Lib.hid (V1.out.did h2)
 clear h2 V1 M1
 go_wp2_with fail
 refine (M2.out _ V2.out.rr).mono ?_
 rintro e w3 ⟨rfl, h3⟩
 have V3 := Lib.hid (V2.out.did h3)
 clear h3 V2 M2
 go_wp2_with fail
 refine (M3.out _ V3.out.rr).mono ?_
 rintro e w4 ⟨rfl, h4⟩
 have V4 := Lib.hid (V3.out.did h4)
 clear h4 V3 M3
 go_wp2_with fail
 refine (M4.out _ V4.out.rr).mono ?_
 rintro e w5 ⟨rfl, h5⟩
 have V5 := Lib.hid (V4.out.did h5)
 clear h5 V4 M4
 go_wp2_with fail
 refine (S1.out _ V5.out.rr).mono ?_
 rintro e w6 ⟨rfl, h6⟩
 have V6 := Lib.hid (V5.out.did h6)
 clear h6 V5 S1
 go_wp2_with fail
 refine (S2.out _ V6.out.rr).mono ?_
 rintro e w7 ⟨rfl, h7⟩
 have V7 := Lib.hid (V6.out.did h7)
 clear h7 V6 S2
 go_wp2_with fail
 refine (S3.out _ V7.out.rr).mono ?_
 rintro e w8 ⟨rfl, h8⟩
 have V8 := Lib.hid (V7.out.did h8)
 clear h8 V7 S3
 go_wp2_with fail
 refine (S4.out _ V8.out.rr).mono ?_
 rintro e w9 ⟨rfl, h9⟩
 have V9 := Lib.hid (V8.out.did h9)
 clear h9 V8 S4
 obtain ⟨⟨y0, y1, y2, y3, y4, y5, y6, y7⟩, ⟨z0, z1, z2, z3, z4, z5, z6, z7⟩, ⟨p0, p1, p2, p3⟩, q0, q1, q2, q3⟩ := V9.out.zero
 go_wp2
 (try simp only [Exit.inBlock, Exit.then])
 have hend := (V9.out.put8 HW0.out ⟨16, 0, n4, 0, n1, 0, [], 0⟩).put4 HW0.out ⟨0, 0, 0, 0⟩
 have l1 := run_loadVar_row (P := Tryz.prog) _ w.heap.size 46 46 _ (0, 0) _ hend.b Tryz.underlying46 rfl ins8_size
 have l2 := run_loadVar_row (P := Tryz.prog) _ (w.heap.size + 1) 51 51 _ (0, 0) _ hend.e Tryz.underlying51 rfl term4_size
 unfold Go.Proofs.YtbjmbahpcoanoaaGreatDoor.put4 Go.Proofs.YtbjmbahpcoanoaaGreatDoor.put8 at l1 l2
 dsimp only [List.length_nil] at l1 l2
 refine bodyPost_ret (v := .tuple #[insV ⟨16, 0, n4, 0, n1, 0, [], 0⟩ none 0, termV ⟨0, 0, 0, 0⟩, .bool false]) ?_ rfl ⟨rfl, hend.rr, hend.k⟩
 rw [results_cells2 line_results]
 simp [asAddr, Result.andThen, l1, l2, insV, insC, termV]
set_option maxRecDepth 100000 in
set_option maxHeartbeats 8000000 in
theorem line_branch {w0 w : World} {g : Nat} {c : Cu} (h : Rr w0 w g c) (hP : PowW w0) (k0 : c.keyB ⟨#[116, 114, 97, 112]⟩ = false) (k1 : c.keyB ⟨#[114, 101, 116, 117, 114, 110]⟩ = false) (k2 : c.isB ⟨#[226, 134, 146]⟩ = false) (k3 : c.keyB ⟨#[115, 116, 111, 114, 101]⟩ = false) (k4 : c.keyB ⟨#[99, 97, 108, 108]⟩ = false) (k5 : c.slotB = false) (kk : (Cu.regC c).isB ⟨#[226, 134, 146]⟩ = true) :
    Calls Tryz.prog 79 #[.pointer (some ⟨g, 0, none⟩)] w fun e w' => e = .returned (.tuple #[insV ⟨0, 0, 0, 0, 0, 0, [], 0⟩ none 0, termV ⟨2, (Cu.regN c), (Cu.numN (Cu.is (Cu.regC c) ⟨#[226, 134, 146]⟩) 0 199), (Cu.numN (Cu.num (Cu.is (Cu.regC c) ⟨#[226, 134, 146]⟩) 0 199) 0 199)⟩, .bool true]) ∧ Did w0 w g (Cu.num (Cu.num (Cu.is (Cu.regC c) ⟨#[226, 134, 146]⟩) 0 199) 0 199) w' := by
 have V0 := Lib.hid (Rl.new h)
 have HW0 : Hid (w0.heap.size ≤ w.heap.size) := h.be.size
 have hgl : g < w.heap.size := V0.out.lt
 have SZ : Hid (zI = #[.int .i64 0, .int .i64 0, .int .i64 0, .int .i64 0, .int .i64 0, .int .i64 0, .slice none 0 0, .int .i64 0] ∧ zT = #[.int .i64 0, .int .i64 0, .int .i64 0, .int .i64 0]) := ⟨rfl, rfl⟩
 rw [SZ.out.1, SZ.out.2] at V0
 have M0 : Hid (∀ W, Rr w0 W g c → _) := fun W hr => rkey_miss hr k0
 have M1 : Hid (∀ W, Rr w0 W g c → _) := fun W hr => rkey_miss hr k1
 have M2 : Hid (∀ W, Rr w0 W g c → _) := fun W hr => ris_miss hr k2
 have M3 : Hid (∀ W, Rr w0 W g c → _) := fun W hr => rkey_miss hr k3
 have M4 : Hid (∀ W, Rr w0 W g c → _) := fun W hr => rkey_miss hr k4
 have M5 : Hid (∀ W, Rr w0 W g c → _) := fun W hr => rslot_miss hr hP k5
 have S1 : Hid (∀ W, Rr w0 W g c → _) := fun W hr => rr_reg hr hP
 have S2 : Hid (∀ W, Rr w0 W g (Cu.regC c) → _) := fun W hr => ris_hit hr kk
 have S4 : Hid (∀ W, Rr w0 W g (Cu.is (Cu.regC c) ⟨#[226, 134, 146]⟩) → _) := fun W hr => rr_to hr
 have S6 : Hid (∀ W, Rr w0 W g (Cu.num (Cu.is (Cu.regC c) ⟨#[226, 134, 146]⟩) 0 199) → _) := fun W hr => rr_to hr
 clear h k0 k1 k2 k3 k4 k5 kk hP
 generalize (Cu.numN (Cu.num (Cu.is (Cu.regC c) ⟨#[226, 134, 146]⟩) 0 199) 0 199) = n6 at *
 generalize (Cu.num (Cu.num (Cu.is (Cu.regC c) ⟨#[226, 134, 146]⟩) 0 199) 0 199) = d6 at *
 generalize (Cu.numN (Cu.is (Cu.regC c) ⟨#[226, 134, 146]⟩) 0 199) = n4 at *
 generalize (Cu.num (Cu.is (Cu.regC c) ⟨#[226, 134, 146]⟩) 0 199) = d4 at *
 generalize (Cu.is (Cu.regC c) ⟨#[226, 134, 146]⟩) = d2 at *
 generalize (Cu.regN c) = n1 at *
 generalize (Cu.regC c) = d1 at *
 go_enter Tryz.func79, Tryz.ntmps79
 go_upto_region 1 with fail
 generalize (w.alloc (.cells #[.int .i64 0, .int .i64 0, .int .i64 0, .int .i64 0, .int .i64 0, .int .i64 0, .slice none 0 0, .int .i64 0] 46)).alloc (.cells #[.int .i64 0, .int .i64 0, .int .i64 0, .int .i64 0] 51) = w0a at *
 go_wp2_with fail
 refine (M0.out _ V0.out.rr).mono ?_
 rintro e w1 ⟨rfl, h1⟩
 have V1 := Lib.hid (V0.out.did h1)
 clear h1 V0 M0
 go_wp2_with fail
 refine (M1.out _ V1.out.rr).mono ?_
 rintro e w2 ⟨rfl, h2⟩
 have V2 := Lib.hid (V1.out.did h2)
 clear h2 V1 M1
 go_wp2_with fail
 refine (M2.out _ V2.out.rr).mono ?_
 rintro e w3 ⟨rfl, h3⟩
 have V3 := Lib.hid (V2.out.did h3)
 clear h3 V2 M2
 go_wp2_with fail
 refine (M3.out _ V3.out.rr).mono ?_
 rintro e w4 ⟨rfl, h4⟩
 have V4 := Lib.hid (V3.out.did h4)
 clear h4 V3 M3
 go_wp2_with fail
 refine (M4.out _ V4.out.rr).mono ?_
 rintro e w5 ⟨rfl, h5⟩
 have V5 := Lib.hid (V4.out.did h5)
 clear h5 V4 M4
 go_wp2_with fail
 refine (M5.out _ V5.out.rr).mono ?_
 rintro e w6 ⟨rfl, h6⟩
 have V6 := Lib.hid (V5.out.did h6)
 clear h6 V5 M5
 go_wp2_with fail
 refine (S1.out _ V6.out.rr).mono ?_
 rintro e w7 ⟨rfl, h7⟩
 have V7 := Lib.hid (V6.out.did h7)
 clear h7 V6 S1
 go_wp2_with fail
 refine (S2.out _ V7.out.rr).mono ?_
 rintro e w8 ⟨rfl, h8⟩
 have V8 := Lib.hid (V7.out.did h8)
 clear h8 V7 S2
 have B8x : Hid (Blk (w8.alloc (.cells #[.int .i64 2, .int .i64 n1, .int .i64 0, .int .i64 0] 51)) w8.heap.size 51 #[.int .i64 2, .int .i64 n1, .int .i64 0, .int .i64 0]) := Blk.new w8 _ _
 have hbl : w.heap.size + 1 < w8.heap.size := V8.out.e.lt
 have V8x := Lib.hid (V8.out.alloc (.cells #[.int .i64 2, .int .i64 n1, .int .i64 0, .int .i64 0] 51))
 clear V8
 go_wp2_with fail
 refine (S4.out _ V8x.out.rr).mono ?_
 rintro e w9 ⟨rfl, h9⟩
 have V9 := Lib.hid (V8x.out.did h9)
 have B9 : Hid (Blk w9 w8.heap.size 51 #[.int .i64 2, .int .i64 n1, .int .i64 0, .int .i64 0]) := Blk.keep B8x.out h9.2 (by omega)
 clear h9 V8x S4 B8x
 have x9 : w9.cell? ⟨w8.heap.size, 2, none⟩ = some (.int .i64 0) := B9.out.cell 2
 have f9 := B9.out.free 2
 have hb9 := B9.out.lt
 have V9x := Lib.hid (V9.out.off B9.out (by decide) (by decide) hbl HW0.out 2 (.int .i64 n4))
 have B9x : Hid (Blk (w9.setCell ⟨w8.heap.size, 2, none⟩ (.int .i64 n4)) w8.heap.size 51 #[.int .i64 2, .int .i64 n1, .int .i64 n4, .int .i64 0]) := B9.out.put 2 _
 clear V9 B9
 go_wp2_with fail
 refine (S6.out _ V9x.out.rr).mono ?_
 rintro e w10 ⟨rfl, h10⟩
 have V10 := Lib.hid (V9x.out.did h10)
 have B10 : Hid (Blk w10 w8.heap.size 51 #[.int .i64 2, .int .i64 n1, .int .i64 n4, .int .i64 0]) := Blk.keep B9x.out h10.2 (by omega)
 clear h10 V9x S6 B9x x9 f9 hb9
 have x10 : w10.cell? ⟨w8.heap.size, 3, none⟩ = some (.int .i64 0) := B10.out.cell 3
 have f10 := B10.out.free 3
 have hb10 := B10.out.lt
 have V10x := Lib.hid (V10.out.off B10.out (by decide) (by decide) hbl HW0.out 3 (.int .i64 n6))
 have B10x : Hid (Blk (w10.setCell ⟨w8.heap.size, 3, none⟩ (.int .i64 n6)) w8.heap.size 51 #[.int .i64 2, .int .i64 n1, .int .i64 n4, .int .i64 n6]) := B10.out.put 3 _
 clear V10 B10
 go_upto_region 29 with fail
 clear x10 f10 hb10
 generalize (w10.setCell ⟨w8.heap.size, 3, none⟩ (.int .i64 n6)) = WE at *
 refine wp_region_any (by kernel_rfl) ?_
 change wpAny _ _ _ _ _ _ _ WE.drew
 have VD := Lib.hid (V10x.out.did (V10x.out.rr.stay (Below.refl _ _).drew))
 have BD : Hid (Blk WE.drew w8.heap.size 51 #[.int .i64 2, .int .i64 n1, .int .i64 n4, .int .i64 n6]) := B10x.out.drew
 have hbd := BD.out.lt
 clear V10x B10x
 generalize WE.drew = WD at *
 obtain ⟨⟨y0, y1, y2, y3, y4, y5, y6, y7⟩, ⟨z0, z1, z2, z3, z4, z5, z6, z7⟩, ⟨p0, p1, p2, p3⟩, q0, q1, q2, q3⟩ := VD.out.zero
 have u0 : WD.cell? ⟨w8.heap.size, 0, none⟩ = some (.int .i64 2) := BD.out.cell 0
 have u1 : WD.cell? ⟨w8.heap.size, 1, none⟩ = some (.int .i64 n1) := BD.out.cell 1
 have u2 : WD.cell? ⟨w8.heap.size, 2, none⟩ = some (.int .i64 n4) := BD.out.cell 2
 have u3 : WD.cell? ⟨w8.heap.size, 3, none⟩ = some (.int .i64 n6) := BD.out.cell 3
 refine wpAny_take (i := 0) (v := ?vq3) (by simp only [List.getElem?_toArray, List.getElem?_cons_zero]; rfl) (by kernel_rfl) (by kernel_rfl) (by kernel_rfl) (by exact fun _ _ _ h => h) (Or.inl ⟨by rfl, ?yq3⟩) ?_
 case yq3 => (intro W9; go_simp; try (with_reducible rfl))
 try simp only [Act.put, List.setIfInBounds_toArray, List.set_cons_zero, List.set_cons_succ]
 refine wpAny_ready (rs := [1, 2]) (by kernel_rfl) (by simp) ?_
 refine AllReady.cons (by simp only [List.getElem?_toArray, List.getElem?_cons_succ, List.getElem?_cons_zero]; rfl) (fun K hK => ?_) (AllReady.cons (by simp only [List.getElem?_toArray, List.getElem?_cons_succ, List.getElem?_cons_zero]; rfl) (fun K hK => ?_) AllReady.nil)
 · go_simp
   refine hK _ _ ?_
   clear hK K
   try simp only [Act.put, List.setIfInBounds_toArray, List.set_cons_zero, List.set_cons_succ]
   refine wpAny_ready (rs := [2]) (by kernel_rfl) (by simp) ?_
   refine AllReady.cons (by simp only [List.getElem?_toArray, List.getElem?_cons_succ, List.getElem?_cons_zero]; rfl) (fun K hK => ?_) AllReady.nil
   go_simp
   refine hK _ _ ?_
   clear hK K
   try simp only [Act.put, List.setIfInBounds_toArray, List.set_cons_zero, List.set_cons_succ]
   refine wpAny_ready (rs := [3]) (by kernel_rfl) (by simp) ?_
   refine AllReady.cons (by simp only [List.getElem?_toArray, List.getElem?_cons_succ, List.getElem?_cons_zero]; rfl) (fun K hK => ?_) AllReady.nil
   go_simp
   refine hK _ _ ?_
   clear hK K
   try simp only [Act.put, List.setIfInBounds_toArray, List.set_cons_zero, List.set_cons_succ]
   refine wpAny_ready (rs := [4]) (by kernel_rfl) (by simp) ?_
   refine AllReady.cons (by simp only [List.getElem?_toArray, List.getElem?_cons_succ, List.getElem?_cons_zero]; rfl) (fun K hK => ?_) AllReady.nil
   go_simp
   refine hK _ _ ?_
   clear hK K
   try simp only [Act.put, List.setIfInBounds_toArray, List.set_cons_zero, List.set_cons_succ]
   refine wpAny_done (by kernel_rfl) ?_ _
   go_wp2
   (try simp only [Exit.inBlock, Exit.then])
   have hend := (VD.out.put8 HW0.out ⟨0, 0, 0, 0, 0, 0, [], 0⟩).put4 HW0.out ⟨2, n1, n4, n6⟩
   have l1 := run_loadVar_row (P := Tryz.prog) _ w.heap.size 46 46 _ (0, 0) _ hend.b Tryz.underlying46 rfl ins8_size
   have l2 := run_loadVar_row (P := Tryz.prog) _ (w.heap.size + 1) 51 51 _ (0, 0) _ hend.e Tryz.underlying51 rfl term4_size
   unfold Go.Proofs.YtbjmbahpcoanoaaGreatDoor.put4 Go.Proofs.YtbjmbahpcoanoaaGreatDoor.put8 at l1 l2
   dsimp only [List.length_nil] at l1 l2
   refine bodyPost_ret (v := .tuple #[insV ⟨0, 0, 0, 0, 0, 0, [], 0⟩ none 0, termV ⟨2, n1, n4, n6⟩, .bool true]) ?_ rfl ⟨rfl, hend.rr, hend.k⟩
   rw [results_cells2 line_results]
   simp [asAddr, Result.andThen, l1, l2, insV, insC, termV]
 · go_simp
   refine hK _ _ ?_
   clear hK K
   try simp only [Act.put, List.setIfInBounds_toArray, List.set_cons_zero, List.set_cons_succ]
   refine wpAny_ready (rs := [1]) (by kernel_rfl) (by simp) ?_
   refine AllReady.cons (by simp only [List.getElem?_toArray, List.getElem?_cons_succ, List.getElem?_cons_zero]; rfl) (fun K hK => ?_) AllReady.nil
   go_simp
   refine hK _ _ ?_
   clear hK K
   try simp only [Act.put, List.setIfInBounds_toArray, List.set_cons_zero, List.set_cons_succ]
   refine wpAny_ready (rs := [3]) (by kernel_rfl) (by simp) ?_
   refine AllReady.cons (by simp only [List.getElem?_toArray, List.getElem?_cons_succ, List.getElem?_cons_zero]; rfl) (fun K hK => ?_) AllReady.nil
   go_simp
   refine hK _ _ ?_
   clear hK K
   try simp only [Act.put, List.setIfInBounds_toArray, List.set_cons_zero, List.set_cons_succ]
   refine wpAny_ready (rs := [4]) (by kernel_rfl) (by simp) ?_
   refine AllReady.cons (by simp only [List.getElem?_toArray, List.getElem?_cons_succ, List.getElem?_cons_zero]; rfl) (fun K hK => ?_) AllReady.nil
   go_simp
   refine hK _ _ ?_
   clear hK K
   try simp only [Act.put, List.setIfInBounds_toArray, List.set_cons_zero, List.set_cons_succ]
   refine wpAny_done (by kernel_rfl) ?_ _
   go_wp2
   (try simp only [Exit.inBlock, Exit.then])
   have hend := (VD.out.put8 HW0.out ⟨0, 0, 0, 0, 0, 0, [], 0⟩).put4 HW0.out ⟨2, n1, n4, n6⟩
   have l1 := run_loadVar_row (P := Tryz.prog) _ w.heap.size 46 46 _ (0, 0) _ hend.b Tryz.underlying46 rfl ins8_size
   have l2 := run_loadVar_row (P := Tryz.prog) _ (w.heap.size + 1) 51 51 _ (0, 0) _ hend.e Tryz.underlying51 rfl term4_size
   unfold Go.Proofs.YtbjmbahpcoanoaaGreatDoor.put4 Go.Proofs.YtbjmbahpcoanoaaGreatDoor.put8 at l1 l2
   dsimp only [List.length_nil] at l1 l2
   refine bodyPost_ret (v := .tuple #[insV ⟨0, 0, 0, 0, 0, 0, [], 0⟩ none 0, termV ⟨2, n1, n4, n6⟩, .bool true]) ?_ rfl ⟨rfl, hend.rr, hend.k⟩
   rw [results_cells2 line_results]
   simp [asAddr, Result.andThen, l1, l2, insV, insC, termV]
set_option maxRecDepth 100000 in
set_option maxHeartbeats 8000000 in
theorem line_value {w0 w : World} {g : Nat} {c : Cu} (h : Rr w0 w g c) (hP : PowW w0) (k0 : c.keyB ⟨#[116, 114, 97, 112]⟩ = false) (k1 : c.keyB ⟨#[114, 101, 116, 117, 114, 110]⟩ = false) (k2 : c.isB ⟨#[226, 134, 146]⟩ = false) (k3 : c.keyB ⟨#[115, 116, 111, 114, 101]⟩ = false) (k4 : c.keyB ⟨#[99, 97, 108, 108]⟩ = false) (k5 : c.slotB = false) (kk : (Cu.regC c).isB ⟨#[226, 134, 146]⟩ = false) :
    Calls Tryz.prog 79 #[.pointer (some ⟨g, 0, none⟩)] w fun e w' => e = .returned (.tuple #[insV (Cu.valI (Cu.mark (Cu.regC c) [⟨#[226, 134, 144]⟩]) (Cu.regN c)) none 0, termV ⟨0, 0, 0, 0⟩, .bool false]) ∧ Did w0 w g (Cu.valC (Cu.mark (Cu.regC c) [⟨#[226, 134, 144]⟩])) w' := by
 have V0 := Lib.hid (Rl.new h)
 have HW0 : Hid (w0.heap.size ≤ w.heap.size) := h.be.size
 have hgl : g < w.heap.size := V0.out.lt
 have SZ : Hid (zI = #[.int .i64 0, .int .i64 0, .int .i64 0, .int .i64 0, .int .i64 0, .int .i64 0, .slice none 0 0, .int .i64 0] ∧ zT = #[.int .i64 0, .int .i64 0, .int .i64 0, .int .i64 0]) := ⟨rfl, rfl⟩
 rw [SZ.out.1, SZ.out.2] at V0
 have M0 : Hid (∀ W, Rr w0 W g c → _) := fun W hr => rkey_miss hr k0
 have M1 : Hid (∀ W, Rr w0 W g c → _) := fun W hr => rkey_miss hr k1
 have M2 : Hid (∀ W, Rr w0 W g c → _) := fun W hr => ris_miss hr k2
 have M3 : Hid (∀ W, Rr w0 W g c → _) := fun W hr => rkey_miss hr k3
 have M4 : Hid (∀ W, Rr w0 W g c → _) := fun W hr => rkey_miss hr k4
 have M5 : Hid (∀ W, Rr w0 W g c → _) := fun W hr => rslot_miss hr hP k5
 have S1 : Hid (∀ W, Rr w0 W g c → _) := fun W hr => rr_reg hr hP
 have S2 : Hid (∀ W, Rr w0 W g (Cu.regC c) → _) := fun W hr => ris_miss hr kk
 have S3 : Hid (∀ W, Rr w0 W g (Cu.regC c) → _) := fun W hr => rr_mark hr
 have S4 : Hid (∀ W, Rr w0 W g (Cu.mark (Cu.regC c) [⟨#[226, 134, 144]⟩]) → _) := fun W hr => rr_right (Cu.regN c) hr hP
 clear h k0 k1 k2 k3 k4 k5 kk hP
 have hxa := valI_args (Cu.mark (Cu.regC c) [⟨#[226, 134, 144]⟩]) (Cu.regN c)
 generalize (Cu.valI (Cu.mark (Cu.regC c) [⟨#[226, 134, 144]⟩]) (Cu.regN c)) = x at *
 obtain ⟨xo, xd, xa, xb, xi, xc, xl, xm⟩ := x
 obtain rfl : xl = [] := hxa
 have SV : insV ⟨xo, xd, xa, xb, xi, xc, [], xm⟩ none 0 = .agg #[.int .i64 xo, .int .i64 xd, .int .i64 xa, .int .i64 xb, .int .i64 xi, .int .i64 xc, .slice none 0 0, .int .i64 xm] := rfl
 generalize (Cu.valC (Cu.mark (Cu.regC c) [⟨#[226, 134, 144]⟩])) = d4 at *
 generalize (Cu.mark (Cu.regC c) [⟨#[226, 134, 144]⟩]) = d3 at *
 generalize (Cu.regN c) = n1 at *
 generalize (Cu.regC c) = d1 at *
 go_enter Tryz.func79, Tryz.ntmps79
 go_upto_region 1 with fail
 generalize (w.alloc (.cells #[.int .i64 0, .int .i64 0, .int .i64 0, .int .i64 0, .int .i64 0, .int .i64 0, .slice none 0 0, .int .i64 0] 46)).alloc (.cells #[.int .i64 0, .int .i64 0, .int .i64 0, .int .i64 0] 51) = w0a at *
 go_wp2_with fail
 refine (M0.out _ V0.out.rr).mono ?_
 rintro e w1 ⟨rfl, h1⟩
 have V1 := Lib.hid (V0.out.did h1)
 clear h1 V0 M0
 go_wp2_with fail
 refine (M1.out _ V1.out.rr).mono ?_
 rintro e w2 ⟨rfl, h2⟩
 have V2 := Lib.hid (V1.out.did h2)
 clear h2 V1 M1
 go_wp2_with fail
 refine (M2.out _ V2.out.rr).mono ?_
 rintro e w3 ⟨rfl, h3⟩
 have V3 := Lib.hid (V2.out.did h3)
 clear h3 V2 M2
 go_wp2_with fail
 refine (M3.out _ V3.out.rr).mono ?_
 rintro e w4 ⟨rfl, h4⟩
 have V4 := Lib.hid (V3.out.did h4)
 clear h4 V3 M3
 go_wp2_with fail
 refine (M4.out _ V4.out.rr).mono ?_
 rintro e w5 ⟨rfl, h5⟩
 have V5 := Lib.hid (V4.out.did h5)
 clear h5 V4 M4
 go_wp2_with fail
 refine (M5.out _ V5.out.rr).mono ?_
 rintro e w6 ⟨rfl, h6⟩
 have V6 := Lib.hid (V5.out.did h6)
 clear h6 V5 M5
 go_wp2_with fail
 refine (S1.out _ V6.out.rr).mono ?_
 rintro e w7 ⟨rfl, h7⟩
 have V7 := Lib.hid (V6.out.did h7)
 clear h7 V6 S1
 go_wp2_with fail
 refine (S2.out _ V7.out.rr).mono ?_
 rintro e w8 ⟨rfl, h8⟩
 have V8 := Lib.hid (V7.out.did h8)
 clear h8 V7 S2
 go_wp2_with fail
 refine (S3.out _ V8.out.rr).mono ?_
 rintro e w9 ⟨rfl, h9⟩
 have V9 := Lib.hid (V8.out.did h9)
 clear h9 V8 S3
 go_wp2_with fail
 refine (S4.out _ V9.out.rr).mono ?_
 rintro e w10 ⟨rfl, h10⟩
 have V10 := Lib.hid (V9.out.did h10)
 clear h10 V9 S4
 obtain ⟨⟨y0, y1, y2, y3, y4, y5, y6, y7⟩, ⟨z0, z1, z2, z3, z4, z5, z6, z7⟩, ⟨p0, p1, p2, p3⟩, q0, q1, q2, q3⟩ := V10.out.zero
 rw [SV]
 go_wp2
 (try simp only [Exit.inBlock, Exit.then])
 have hend := (V10.out.put8 HW0.out ⟨xo, xd, xa, xb, xi, xc, [], xm⟩).put4 HW0.out ⟨0, 0, 0, 0⟩
 have l1 := run_loadVar_row (P := Tryz.prog) _ w.heap.size 46 46 _ (0, 0) _ hend.b Tryz.underlying46 rfl ins8_size
 have l2 := run_loadVar_row (P := Tryz.prog) _ (w.heap.size + 1) 51 51 _ (0, 0) _ hend.e Tryz.underlying51 rfl term4_size
 unfold Go.Proofs.YtbjmbahpcoanoaaGreatDoor.put4 Go.Proofs.YtbjmbahpcoanoaaGreatDoor.put8 at l1 l2
 dsimp only [List.length_nil] at l1 l2
 refine bodyPost_ret (v := .tuple #[insV ⟨xo, xd, xa, xb, xi, xc, [], xm⟩ none 0, termV ⟨0, 0, 0, 0⟩, .bool false]) ?_ rfl ⟨rfl, hend.rr, hend.k⟩
 rw [results_cells2 line_results]
 simp [asAddr, Result.andThen, l1, l2, insV, insC, termV]
end Go.Proofs.YtbjmbahpcoanoaaGreatDoor
