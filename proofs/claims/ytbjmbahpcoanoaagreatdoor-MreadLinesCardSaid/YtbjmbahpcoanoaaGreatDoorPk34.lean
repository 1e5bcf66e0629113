/-
  Package mread's textOf: the text of a target's lines, or one that is longer than a text may be. Conditions: the library's tables and the Ops' names hold what the text lays.
  Package mread's canBeWritten and Print. Conditions: the library's tables, the Ops' names and parts hold what the text lays.
  What a target without an error has, plainly. No condition beyond those that each theorem states.
-/
import Derived.Test.YtbjmbahpcoanoaaGreatDoorPk33
import Derived.Test.YtbjmbahpcoanoaaGreatDoorPk9
import Derived.Lib.FrozenHead
import Derived.Test.YtbjmbahpcoanoaaGreatDoorPk30
import Derived.Deep.RegionHeld3
import Derived.Test.YtbjmbahpcoanoaaGreatDoorPk4
namespace Go.Proofs.YtbjmbahpcoanoaaGreatDoor
open Go.RowKit Go.Shelf
attribute [local go_sem] Oper.semAt_some

def headWo (t : Gg) : List Wo := [.tx ⟨#[116, 97, 114, 103, 101, 116]⟩, .nm t.frame]
def rowL (l : List Wo) : List UInt8 := (rowB l).data.toList
def linesL (t : Gg) (ls : List (List Wo)) : List UInt8 := rowL (headWo t) ++ ls.flatMap rowL
/-- A target's text. -/
def gtxL (t : Gg) : List UInt8 := linesL t (blsWo 0 t.blocks)
theorem linesL_snoc (t : Gg) (ls : List (List Wo)) (l : List Wo) : linesL t (ls ++ [l]) = linesL t ls ++ rowL l := by simp [linesL]
theorem keeps_below {W W' : World} (h : Below W.heap.size W W') : KeepsOthers W W' := ⟨h.size, fun k _ hk _ => (h.block k (Array.getElem?_eq_some_iff.1 hk).1).trans hk⟩
theorem keeps_others {W W' : World} {b : Nat} {cs : Array Value} {t : TypeId} {fz : Nat × Nat} {e : TypeId} (hs : W.heap.size ≤ W'.heap.size) (hb : W.heap[b]? = some (Obj.cells cs t fz)) (h : Lib.OthersKept e (some b) W W') : KeepsOthers W W' :=
 ⟨hs, fun k o hk ho => h k o hk (fun e => by cases e; rw [hb] at hk; cases hk; cases ho) (fun c fz e => by subst e; cases ho)⟩
theorem kpB_below {n₀ : Nat} {W W' : World} (hn : n₀ ≤ W.heap.size) (h : Below W.heap.size W W') : KpB n₀ W W' := ⟨h.size, fun k _ _ hk _ _ => (h.block k (Array.getElem?_eq_some_iff.1 hk).1).trans hk, h.mono hn⟩
theorem kpB_others {n₀ : Nat} {W W' : World} {b : Nat} {cs : Array Value} {fz : Nat × Nat} (hb : W.heap[b]? = some (Obj.cells cs 83 fz)) (hB : Below n₀ W W') (h : Lib.OthersKept 5 (some b) W W') : KpB n₀ W W' :=
 ⟨hB.size, fun k cs t hk h1 h2 => h k _ hk (fun e => by cases e; rw [hb] at hk; cases hk; exact h1 rfl) (fun c fz e => by cases e; exact h2 rfl), hB⟩
/-- The builder in box b holds these bytes. -/
def BuL (n₀ b : Nat) (l : List UInt8) (W : World) : Prop := Lib.BuilderAt 83 5 n₀ b (.pointer (some ⟨b, 0, none⟩)) (Lib.byteCells l) W
theorem BuL.heap {n₀ b : Nat} {l : List UInt8} {W : World} (h : BuL n₀ b l W) : ∃ cs, W.heap[b]? = some (Obj.cells cs 83 (0, 0)) := by
 obtain ⟨_, v, hb, _⟩ := h
 exact ⟨_, hb⟩
theorem BuL.own {n₀ b : Nat} {l : List UInt8} {W W' : World} {row : Option Nat} (h : BuL n₀ b l W) (hg : W.grownBy W' row) (hr : ∀ r, row = some r → ∃ o : Obj, W.heap[r]? = some o ∧ o.isCells = false) : BuL n₀ b l W' := by
 have key : ∀ (k : Nat) (cs : Array Value) (t : TypeId) (fz : Nat × Nat), W.heap[k]? = some (Obj.cells cs t fz) → W'.heap[k]? = some (Obj.cells cs t fz) := fun k cs t fz hk =>
  (hg.block k (Array.getElem?_eq_some_iff.1 hk).1 (fun e => by
    obtain ⟨o, ho, hc⟩ := hr k e.symm
    rw [hk] at ho
    cases ho
    cases hc)).trans hk
 obtain ⟨hB, v, hb, ho, hne⟩ := h
 refine ⟨hB, v, key _ _ _ _ hb, ?_, hne⟩
 obtain ⟨h1, h2⟩ := ho
 refine ⟨h1, ?_⟩
 rcases h2 with h2 | ⟨g, cap, cur, e, hBg, hh, r⟩
 · exact .inl h2
 · exact .inr ⟨g, cap, cur, e, hBg, key _ _ _ _ hh, r⟩
theorem BuL.below {n₀ b : Nat} {l : List UInt8} {W W' : World} (h : BuL n₀ b l W) (hb : Below W.heap.size W W') : BuL n₀ b l W' := by
 have key : ∀ (k : Nat) (cs : Array Value) (t : TypeId) (fz : Nat × Nat), W.heap[k]? = some (Obj.cells cs t fz) → W'.heap[k]? = some (Obj.cells cs t fz) := fun k cs t fz hk =>
  (hb.block k (Array.getElem?_eq_some_iff.1 hk).1).trans hk
 obtain ⟨hB, v, hb, ho, hne⟩ := h
 refine ⟨hB, v, key _ _ _ _ hb, ?_, hne⟩
 obtain ⟨h1, h2⟩ := ho
 refine ⟨h1, ?_⟩
 rcases h2 with h2 | ⟨g, cap, cur, e, hBg, hh, r⟩
 · exact .inl h2
 · exact .inr ⟨g, cap, cur, e, hBg, key _ _ _ _ hh, r⟩
/-- A text that was told: the target's, or one that is too long. -/
def TextIs (t : Gg) (s : ByteArray) : Prop := (s.data.toList = gtxL t ∧ (gtxL t).length ≤ 262144) ∨ (262144 < s.size ∧ 262144 < (gtxL t).length)
theorem rowL_len (l : List Wo) (hl : l.length ≤ 10) (hx : ∀ x ∈ l, x.ok) : (rowL l).length ≤ 600 := by
 have h1 := joinB_len (l.map Wo.b) 50 (fun y hy => by obtain ⟨z, hz, rfl⟩ := List.mem_map.1 hy; exact Wo.len (hx z hz))
 have h2 : (rowL l).length = (Lib.join ((l.map Wo.b).map (·.data.toList)) [32]).length + 1 := by
  unfold rowL rowB joinB
  rw [Array.length_toList]
  show (_ ++ _ : ByteArray).size = _
  rw [ByteArray.size_append]
  show (Lib.join _ _).toArray.size + 1 = _
  rw [List.size_toArray]
 rw [h2]
 rw [List.length_map] at h1
 have : l.length * (50 + 1) ≤ 10 * 51 := Nat.mul_le_mul hl (Nat.le_refl _)
 omega
theorem pt_words (p : Pt) (h : p.ok) : p.wo.length ≤ 10 ∧ ∀ y ∈ p.wo, y.ok := by
 cases p with
 | op n =>
  refine ⟨by simp [Pt.wo], fun y hy => ?_⟩
  simp only [Pt.wo, List.mem_cons, List.not_mem_nil, or_false] at hy
  rcases hy with rfl | rfl
  · show _ ≤ 50; decide
  · exact h
 | ins x a c =>
  refine ⟨?_, ins_words x h.2⟩
  show (insWo x).length ≤ 10
  unfold insWo
  repeat' split
  all_goals simp
 | tm t =>
  refine ⟨?_, tm_words t h⟩
  show (tmWo t).length ≤ 10
  unfold tmWo
  repeat' split
  all_goals simp
theorem rowB_size (l : List Wo) : (rowB l).size = (rowL l).length := by
 unfold rowL
 rw [Array.length_toList]
 rfl
set_option maxRecDepth 100000 in
set_option maxHeartbeats 8000000 in
theorem textOf_any (t : Gg) (ba : Option Addr) (bc : Nat) (w : World) (hB : BlsW w ba t.blocks) (hok : ∀ b ∈ t.blocks, OkB b) (hfew : t.blocks.length ≤ 1000000) (hfr : R64 t.frame) (hP : PowW w) (hN : NamesW w) :
    Calls Tryz.prog 23 #[tgV t ba bc] w fun e w' => ∃ s, (e = .returned (.string s) ∧ TextIs t s) ∧ Below w.heap.size w w' := by
 have HB := Lib.hid hB
 have HOK := Lib.hid hok
 have HP := Lib.hid hP
 have HN := Lib.hid hN
 have HFR := Lib.hid hfr
 have HB0 : Hid (Below w.heap.size w ((w.alloc (.cells (tgC t ba bc) 24)).alloc (.cells #[.pointer none, .slice none 0 0] 83))) := ((Below.refl _ w).alloc (Nat.le_refl _) _).alloc (by simp) _
 have R : Hid (∀ W, Below w.heap.size w W → Calls Tryz.prog 53 #[.slice (some ⟨W.heap.size, 0, none⟩) 2 2] (W.alloc (.cells #[.iface 9 (.string ⟨#[116, 97, 114, 103, 101, 116]⟩), .iface 3 (.int .i64 t.frame)] 20)) fun e w' => e = .returned (.string (rowB (headWo t))) ∧ Below W.heap.size W w') := fun W hb =>
  row_lit (headWo t) W _ (Below.refl _ _) (by simp [headWo]) (by simp [headWo]) (fun y hy => by
   simp only [headWo, List.mem_cons, List.not_mem_nil, or_false] at hy
   rcases hy with rfl | rfl
   · show _ ≤ 50; decide
   · exact hfr) (hP.below hb)
 have R0 := Lib.hid (R.out _ HB0.out)
 have HE : Hid (Below w.heap.size w ((w.alloc (.cells (tgC t ba bc) 24)).alloc (.cells #[.pointer none, .slice none 0 0] 83))) := HB0.out
 have ST := Lib.hid (tgC.eq_1 t ba bc)
 rw [ST.out] at R0 HB0
 simp only [szA] at R0
 unfold tgV
 rw [ST.out]
 clear hB hok hP hN hfr HE
 refine (callsIn_wide (n := 5)).1 ?_
 refine callsIn_of_wp_marks Tryz.func23 rfl trivial ?_ rfl
 simp only [Tryz.ntmps23, List.size_toArray, List.length_cons, List.length_nil, Nat.reduceAdd, Nat.reduceSub, Array.replicate_succ, Array.replicate_zero, List.push_toArray, List.append_toArray, List.nil_append, List.cons_append]
 gi_wp2_with (refine ⟨trivial, ?_⟩; gi_at_call 53; refine (callsIn_wide.2 R0.out).mono ?_; rintro e w1 ⟨rfl, hb1⟩)
 have hb1' : Below ((w.alloc (.cells #[.int .i64 t.frame, .slice ba t.blocks.length bc] 24)).alloc (.cells #[.pointer none, .slice none 0 0] 83)).heap.size ((w.alloc (.cells #[.int .i64 t.frame, .slice ba t.blocks.length bc] 24)).alloc (.cells #[.pointer none, .slice none 0 0] 83)) w1 := by
  simp only [szA]
  exact hb1
 have hBW1 : Below w.heap.size w w1 := HB0.out.trans (hb1'.mono HB0.out.size)
 have hbx := ((Blk.new w 24 #[.int .i64 t.frame, .slice ba t.blocks.length bc]).alloc (.cells #[.pointer none, .slice none 0 0] 83)).below hb1' ((Blk.new w _ _).alloc _).lt
 have hbu : Lib.IsBuilder 83 5 w.heap.size (w.heap.size + 1) [] w1 := by
  have h1 := (blk_at (W := w.alloc (.cells #[.int .i64 t.frame, .slice ba t.blocks.length bc] 24)) (g := w.heap.size + 1) 83 #[.pointer none, .slice none 0 0] (by simp))
  exact .inl ⟨by omega, .slice none 0 0, h1.below hb1' h1.lt, World.ownsRow_nil _ _ _ _, by simp [Value.ownBlock]⟩
 have hlen : (rowB (headWo t)).size ≤ 600 := by
  have := rowL_len (headWo t) (by simp [headWo]) (fun y hy => by
   simp only [headWo, List.mem_cons, List.not_mem_nil, or_false] at hy
   rcases hy with rfl | rfl
   · show _ ≤ 50; decide
   · exact HFR.out)
  unfold rowL at this
  rw [Array.length_toList] at this
  exact this
 have S := Lib.hid (string_any w.heap.size (w.heap.size + 1) [] (rowB (headWo t)) w1 hbu (by simp; omega) hBW1.size)
 have HBX := Lib.hid hbx
 have HBW1 := Lib.hid hBW1
 have HLN := Lib.hid hlen
 clear hb1 hb1' hbx hbu hBW1 hlen R R0 HB0
 gi_wp2_with (refine ⟨trivial, ?_⟩; gi_at_call 52; refine (callsIn_wide.2 S.out).mono ?_)
 rintro e w2 ⟨rfl, hbu2, hb2, hk2⟩
 have hbx2 : Blk w2 w.heap.size 24 #[.int .i64 t.frame, .slice ba t.blocks.length bc] := hk2 _ _ HBX.out (by simp) (fun c fz e => by cases e)
 have HBU2 : Hid (BuL w.heap.size (w.heap.size + 1) (rowL (headWo t)) w2) := hbu2
 have HBW2 : Hid (Below w.heap.size w w2) := HBW1.out.trans hb2
 have x0 : w2.cell? ⟨w.heap.size, 0, none⟩ = some (.int .i64 t.frame) := hbx2.cell 0
 have x1 : w2.cell? ⟨w.heap.size, 1, none⟩ = some (.slice ba t.blocks.length bc) := hbx2.cell 1
 clear hbu2 hb2 hk2 hbx2 S HBX HBW1
 gi_wp2_with (refine ⟨trivial, ?_⟩; gi_at_call 54; refine (callsIn_wide.2 (lines_any _ _ _ _)).mono ?_; rintro e w3 ⟨rfl, rfl⟩)
 clear x0 x1
 have HBW3 : Hid (Below w.heap.size w (w2.alloc (.cells #[.slice ba t.blocks.length bc] 22))) := HBW2.out.alloc HBW2.out.size _
 have hsz3 : w.heap.size ≤ (w2.alloc (.cells #[.slice ba t.blocks.length bc] 22)).heap.size := HBW3.out.size
 have hbl : Blk (w2.alloc (.cells #[.slice ba t.blocks.length bc] 22)) w2.heap.size 22 #[.slice ba t.blocks.length bc] := Blk.new w2 _ _
 have hbu3 : BuL w.heap.size (w.heap.size + 1) (rowL (headWo t)) (w2.alloc (.cells #[.slice ba t.blocks.length bc] 22)) := HBU2.out.below ((Below.refl _ _).alloc (Nat.le_refl _) _)
 have HLN2 : Hid ((rowL (headWo t)).length ≤ 600) := by
  show (rowL (headWo t)).length ≤ 600
  unfold rowL
  rw [Array.length_toList]
  exact HLN.out
 clear HBU2
 generalize hW3 : w2.alloc (.cells #[.slice ba t.blocks.length bc] 22) = w3 at *
 clear hW3
 refine wpIn_rangeFunc_ownF (α := PtO) rfl (by omega) (gf := 97) (lb := #[.pointer (some ⟨w2.heap.size, 0, none⟩)]) rfl trivial (enters_of Tryz.func97 (by kernel_rfl) rfl)
  (lines_stops Fence.wide _ trivial rfl (by omega) w2.heap.size t.blocks ba bc w w3 HB.out HOK.out hfew HBW3.out hbl) (fun h k => h.trans k) (KpB.put hsz3) (Below.refl _ _) (fun _ => rfl)
  (fun pre W => (BuL w.heap.size (w.heap.size + 1) (linesL t (woL pre)) W ∧ (linesL t (woL pre)).length ≤ 262144) ∧ Below w.heap.size w W)
  (fun c pre W => (c = .exit 0 ∧ BuL w.heap.size (w.heap.size + 1) (linesL t (woL pre)) W ∧ 262144 < (linesL t (woL pre)).length) ∧ Below w.heap.size w W)
  (OwnFrom.and (Own.from (fun s A B row hs hg hr => ⟨hs.1.own hg hr, hs.2⟩) _) (ownFrom_below (Nat.le_refl _) hsz3))
  (fun c => OwnFrom.and (Own.from (fun s A B row hs hg hr => ⟨hs.1, hs.2.1.own hg hr, hs.2.2⟩) _) (ownFrom_below (Nat.le_refl _) hsz3))
  ⟨⟨by simpa [linesL, woL] using hbu3, by have := HLN2.out; simp [linesL, woL]; omega⟩, HBW3.out⟩
  (fun x => { tmps := #[.agg #[.int .i64 t.frame, .slice ba t.blocks.length bc], .pointer (some ⟨w.heap.size, 0, none⟩), .string ⟨#[]⟩, .pointer (some ⟨w.heap.size + 1, 0, none⟩), x.1.v, .iface 9 (.string ⟨#[116, 97, 114, 103, 101, 116]⟩), .pointer (some ⟨w.heap.size, 0, none⟩), .int .i64 t.frame, .iface 3 (.int .i64 t.frame), .slice (some ⟨w.heap.size + 1 + 1, 0, none⟩) 2 2, .string (rowB (headWo t)), .tuple #[.int .i64 (rowB (headWo t)).size, .nilIface], .pointer (some ⟨w.heap.size, 1, none⟩), .slice ba t.blocks.length bc, .func (.func 97) #[] #[.pointer (some ⟨w2.heap.size, 0, none⟩)], x.1.v, undef, undef, undef, undef, undef, undef], defers := [] }) ?assign ?body ?done ?stop
 case assign =>
  intro l x W K hK
  gi_wp2
  exact hK
 case body =>
  rintro l pre x W ⟨⟨hbu, hle⟩, hBW⟩ hpl
  have HBU := Lib.hid hbu
  have HBW := Lib.hid hBW
  have R := Lib.hid (rowOf_any x.1 W x.2 (HP.out.below hBW) (HN.out.below hBW))
  obtain ⟨hw1, hw2⟩ := pt_words x.1 x.2
  have hrl := rowL_len x.1.wo hw1 hw2
  have HSN : Hid (linesL t (woL (pre ++ [x])) = linesL t (woL pre) ++ rowL x.1.wo) := by
   show linesL _ _ = _
   rw [woL_snoc, linesL_snoc]
  have hb9 : 1 ≤ 5 - 1 - 1 := by omega
  clear hbu hBW hw1 hw2 hbl hbu3 hpl
  gi_wp2_with (refine ⟨trivial, ?_⟩; gi_at_call 55; refine (CallsIn.inRound l (callsIn_wide.2 R.out)).mono ?_)
  rintro e W1 ⟨rfl, hb1⟩
  have hbu1 := HBU.out.below hb1
  have HBW1 : Hid (Below w.heap.size w W1) := HBW.out.trans (hb1.mono HBW.out.size)
  have HKO1 := Lib.hid (keeps_below hb1)
  have HKP1 := Lib.hid (kpB_below HBW.out.size hb1)
  have S := Lib.hid (string_any w.heap.size (w.heap.size + 1) (Lib.byteCells (linesL t (woL pre))) (rowB x.1.wo) W1 (.inr hbu1) (by rw [rowB_size]; simp [Lib.byteCells]; omega) HBW1.out.size)
  obtain ⟨cs1, hcs1⟩ := hbu1.heap
  have HC1 := Lib.hid hcs1
  clear hb1 hbu1 R HBU hcs1
  gi_wp2_with (refine ⟨trivial, ?_⟩; gi_at_call 52; refine (CallsIn.inRound l (callsIn_wide.2 S.out)).mono ?_)
  rintro e W2 ⟨rfl, hbu2, hb2, hk2⟩
  have HBU2 : Hid (BuL w.heap.size (w.heap.size + 1) (linesL t (woL (pre ++ [x]))) W2) := by
   show BuL _ _ _ _
   rw [HSN.out]
   have : Lib.byteCells (linesL t (woL pre) ++ rowL x.1.wo) = Lib.byteCells (linesL t (woL pre)) ++ Lib.strCells (rowB x.1.wo) := by simp [Lib.byteCells, Lib.strCells, rowL]
   unfold BuL
   rw [this]
   exact hbu2
  have HBW2 : Hid (Below w.heap.size w W2) := HBW1.out.trans hb2
  have HKO2 : Hid (KeepsOthers W W2) := HKO1.out.trans (keeps_others hb2.size HC1.out hk2)
  have HKP2 : Hid (KpB w.heap.size W W2) := HKP1.out.trans (kpB_others HC1.out hb2 hk2)
  have LN := Lib.hid (Tryz.Builder_Len w.heap.size (w.heap.size + 1) _ W2 (.inr HBU2.out))
  have HLL : Hid ((Lib.byteCells (linesL t (woL (pre ++ [x])))).length = (linesL t (woL (pre ++ [x]))).length) := by
   show List.length _ = _
   simp [Lib.byteCells]
  rw [HLL.out] at LN
  have HML : Hid ((linesL t (woL (pre ++ [x]))).length ≤ 262144 + 600) := by
   show List.length _ ≤ _
   rw [HSN.out, List.length_append]
   omega
  clear hbu2 hb2 hk2 S HKO1 HKP1 HC1 HSN HLL hle hrl HBW1 HBW
  have hml := HML.out
  obtain ⟨m, hm⟩ : ∃ m, m = (linesL t (woL (pre ++ [x]))).length := ⟨_, rfl⟩
  have HM := Lib.hid hm
  rw [← hm] at LN hml
  clear hm
  by_cases hgt : 262144 < m
  · have hgt' : (262144 : Int) < m := by omega
    gi_wp2_with (refine ⟨trivial, ?_⟩; gi_at_call 56; refine (CallsIn.inRound l (callsIn_wide.2 LN.out)).mono ?_; rintro e W3 ⟨rfl, rfl⟩)
    exact ⟨HKO2.out, ⟨rfl, HBU2.out, by rw [← HM.out]; exact hgt⟩, HBW2.out⟩
  · have hgt' : ¬ (262144 : Int) < m := by omega
    gi_wp2_with (refine ⟨trivial, ?_⟩; gi_at_call 56; refine (CallsIn.inRound l (callsIn_wide.2 LN.out)).mono ?_; rintro e W3 ⟨rfl, rfl⟩)
    exact ⟨HKO2.out, HKP2.out, ⟨HBU2.out, by rw [← HM.out]; omega⟩, HBW2.out⟩
 case done =>
  rintro D ys W hD hys ⟨⟨hbu, hle⟩, hBW⟩ hKD
  have hys2 : linesL t (woL ys) = gtxL t := by unfold gtxL; rw [hys]
  rw [hys2] at hbu hle
  have hlen := hle
  have HBW := Lib.hid hBW
  obtain ⟨cs1, hcs1⟩ := hbu.heap
  have HC1 := Lib.hid hcs1
  have HKD := Lib.hid hKD
  have HD : Hid (w.heap.size ≤ D) := by
   show w.heap.size ≤ D
   omega
  have S := Lib.hid (Tryz.Builder_String_any_k w.heap.size (w.heap.size + 1) (gtxL t) W (.inr (Lib.BuilderAtF.of hbu)) hBW.size)
  have HLE := Lib.hid hlen
  clear hbl hbu3 hbu hBW hKD hcs1 hlen hD
  gi_wp2_with (refine ⟨trivial, ?_⟩; gi_at_call 57; refine (callsIn_wide.2 S.out).mono ?_)
  rintro e W4 ⟨rfl, _, hb4, hk4⟩
  have hK4 : W4.heap[D]? = some (.deferred (some [])) := hk4 D _ HKD.out (fun e => by cases e; have h1 := HKD.out; rw [HC1.out] at h1; cases h1) (fun c fz e => by cases e)
  have HK4 := Lib.hid hK4
  have HB4 : Hid (Below w.heap.size w W4) := HBW.out.trans hb4
  clear hK4 hb4 hk4
  gi_wp2
  refine ⟨by simp, .inl ⟨_, _, rfl, run_takeDeferred HK4.out, ?_⟩⟩
  exact ⟨_, results_tmp rfl _ _ _, ⟨_, ⟨rfl, .inl ⟨rfl, HLE.out⟩⟩, HB4.out.trans (belowK_b (w := w) (Nat.le_refl _) W4 D _ _ HD.out HK4.out rfl rfl)⟩⟩
 case stop =>
  rintro D c pre W hD hpre ⟨⟨rfl, hbu, hgt⟩, hBW⟩ hKD
  have hlen : 262144 < (linesL t (woL pre)).length ∧ 262144 < (gtxL t).length := by
   obtain ⟨r, hr⟩ := hpre
   refine ⟨hgt, ?_⟩
   unfold gtxL
   rw [← hr]
   unfold linesL at *
   rw [List.flatMap_append]
   simp only [List.length_append] at *
   omega
  have HBW := Lib.hid hBW
  obtain ⟨cs1, hcs1⟩ := hbu.heap
  have HC1 := Lib.hid hcs1
  have HKD := Lib.hid hKD
  have HD : Hid (w.heap.size ≤ D) := by
   show w.heap.size ≤ D
   omega
  have S := Lib.hid (Tryz.Builder_String_any_k w.heap.size (w.heap.size + 1) (linesL t (woL pre)) W (.inr (Lib.BuilderAtF.of hbu)) hBW.size)
  have HLE := Lib.hid hlen
  clear hbl hbu3 hbu hBW hKD hcs1 hlen hD
  gi_wp2_with (refine ⟨trivial, ?_⟩; gi_at_call 57; refine (callsIn_wide.2 S.out).mono ?_)
  rintro e W4 ⟨rfl, _, hb4, hk4⟩
  have hK4 : W4.heap[D]? = some (.deferred (some [])) := hk4 D _ HKD.out (fun e => by cases e; have h1 := HKD.out; rw [HC1.out] at h1; cases h1) (fun c fz e => by cases e)
  have HK4 := Lib.hid hK4
  have HB4 : Hid (Below w.heap.size w W4) := HBW.out.trans hb4
  clear hK4 hb4 hk4
  gi_wp2
  refine ⟨by simp, .inl ⟨_, _, rfl, run_takeDeferred HK4.out, ?_⟩⟩
  exact ⟨_, results_tmp rfl _ _ _, ⟨_, ⟨rfl, .inr ⟨by show _ < (List.toArray _).size; rw [List.size_toArray]; exact HLE.out.1, HLE.out.2⟩⟩, HB4.out.trans (belowK_b (w := w) (Nat.le_refl _) W4 D _ _ HD.out HK4.out rfl rfl)⟩⟩
end Go.Proofs.YtbjmbahpcoanoaaGreatDoor
namespace Go.Proofs.YtbjmbahpcoanoaaGreatDoor
open Go.RowKit

def canG (t : Gg) : Bool := decide (0 ≤ t.frame) && decide (t.frame ≤ 400) && decide (0 < t.blocks.length) && decide (t.blocks.length ≤ 200) && (rightT wideM (wideG t) == 0)
theorem wide_small {t : Gg} (h : SmallG t) (h2 : t.blocks.length ≤ 200) : SmallG (wideG t) := by
 refine ⟨by unfold wideG; simp; omega, fun x hx => ?_⟩
 unfold wideG at hx
 simp only [List.mem_append, List.mem_map, List.mem_replicate] at hx
 rcases hx with ⟨b, hb, rfl⟩ | ⟨_, rfl⟩
 · have := h.i b hb
   unfold wideB
   split
   · exact this
   · exact this
 · exact ⟨by simp [trapB], fun i hi => by simp [trapB] at hi⟩
theorem belP_alloc {A w : World} {o : Obj} (h : Below A.heap.size A w) : Below A.heap.size A (w.alloc o) := h.alloc h.size o
theorem belP_drew {A w : World} (h : Below A.heap.size A w) : Below A.heap.size A w.drew := h.drew
set_option maxRecDepth 100000 in
set_option maxHeartbeats 8000000 in
theorem can_any (t : Gg) (ba : Option Addr) (bc : Nat) (w : World) (hB : BlsW w ba t.blocks) (hS : SmallG t) (hT : TabW w) :
    Calls Tryz.prog 22 #[tgV t ba bc] w fun e w' => e = .returned (.bool (canG t)) ∧ Below w.heap.size w w' := by
 have HBL := Lib.hid hB
 have HSM := Lib.hid hS
 have HTW := Lib.hid hT
 have hlen := hS.b
 have hb0 : Below w.heap.size w (w.alloc (.cells (tgC t ba bc) 24)) := (Below.refl _ w).alloc (Nat.le_refl _) _
 have HB0 := Lib.hid hb0
 have HX0 : Hid (Blk (w.alloc (.cells (tgC t ba bc) 24)) w.heap.size 24 (tgC t ba bc)) := Blk.new w _ _
 have HQ : Hid (canG t = (decide (0 ≤ t.frame) && decide (t.frame ≤ 400) && decide (0 < t.blocks.length) && decide (t.blocks.length ≤ 200) && (rightT wideM (wideG t) == 0))) := rfl
 have ST := Lib.hid (tgC.eq_1 t ba bc)
 rw [ST.out] at HB0 HX0
 unfold tgV
 rw [ST.out]
 clear hB hS hT hb0
 by_cases h1 : t.frame < 0
 · have hq : canG t = false := by rw [HQ.out, decide_eq_false (by omega)]; rfl
   rw [hq]
   clear hq
   go_enter Tryz.func22, Tryz.ntmps22
   go_wp2
   go_ret
   exact ⟨rfl, HB0.out⟩
 by_cases h2 : 400 < t.frame
 · have hq : canG t = false := by rw [HQ.out, decide_eq_false (p := t.frame ≤ 400) (by omega)]; simp
   rw [hq]
   clear hq
   go_enter Tryz.func22, Tryz.ntmps22
   go_wp2
   go_ret
   exact ⟨rfl, HB0.out⟩
 by_cases h3 : t.blocks.length = 0
 · have hq : canG t = false := by rw [HQ.out, decide_eq_false (p := 0 < t.blocks.length) (by omega)]; simp
   rw [hq]
   clear hq
   generalize hn : t.blocks.length = n at *
   subst h3
   go_enter Tryz.func22, Tryz.ntmps22
   go_wp2
   go_ret
   exact ⟨rfl, HB0.out⟩
 have h30 : ((t.blocks.length : Int) == 0) = false := beq_eq_false_iff_ne.2 (by omega)
 by_cases h4 : 200 < t.blocks.length
 · have hq : canG t = false := by rw [HQ.out, decide_eq_false (p := t.blocks.length ≤ 200) (by omega)]; simp
   rw [hq]
   clear hq
   have h4' : (200 : Int) < t.blocks.length := by omega
   go_enter Tryz.func22, Tryz.ntmps22
   go_wp2
   go_ret
   exact ⟨rfl, HB0.out⟩
 have h4' : ¬ (200 : Int) < t.blocks.length := by omega
 have hq : canG t = (rightT wideM (wideG t) == 0) := by rw [HQ.out, decide_eq_true (p := 0 ≤ t.frame) (by omega), decide_eq_true (p := t.frame ≤ 400) (by omega), decide_eq_true (p := 0 < t.blocks.length) (by omega), decide_eq_true (p := t.blocks.length ≤ 200) (by omega)]; simp
 rw [hq]
 clear hq HQ
 obtain ⟨A, hA⟩ : ∃ A, A = w.alloc (.cells #[.int .i64 t.frame, .slice ba t.blocks.length bc] 24) := ⟨_, rfl⟩
 have WI : Hid (∀ W, Below A.heap.size A W → Calls Tryz.prog 50 #[] W fun e w' => ∃ a c, e = .returned (machV wideM a c none 0) ∧ Hid (MaW w' wideM a none) ∧ Below A.heap.size A w' ∧ Hid (Below W.heap.size W w')) := fun W h => (widest_any W).mono fun e w' ⟨⟨a, c, g1, g2⟩, g3⟩ => ⟨a, c, g1, g2, h.trans (g3.mono h.size), g3⟩
 have WN : Hid (∀ W, Below A.heap.size A W → Calls Tryz.prog 51 #[.agg #[.int .i64 t.frame, .slice ba t.blocks.length bc]] W fun e w' => ∃ a c, e = .returned (tgV (wideG t) a c) ∧ Hid (BlsW w' a (wideG t).blocks) ∧ Below A.heap.size A w' ∧ Hid (Below W.heap.size W w')) := fun W h => by
  have hw : Below w.heap.size w W := (hA ▸ HB0.out).trans (h.mono (by rw [hA]; exact HB0.out.size))
  have h5 := widened_any t ba bc W (HBL.out.below hw) (by omega) (fun b hb => (HSM.out.i b hb).1)
  unfold tgV at h5
  rw [ST.out] at h5
  exact h5.mono fun e w' ⟨⟨a, c, g1, g2⟩, g3⟩ => ⟨a, c, g1, g2, h.trans (g3.mono h.size), g3⟩
 have RG : Hid (∀ (W : World) (a : Option Addr) (c : Nat) (b : Option Addr) (d : Nat), Below A.heap.size A W → MaW W wideM a none → BlsW W b (wideG t).blocks → Calls Tryz.prog 19 #[machV wideM a c none 0, tgV (wideG t) b d] W fun e w' => e = .returned (.int .i64 (rightT wideM (wideG t))) ∧ Below A.heap.size A w') := fun W a c b d h g1 g2 => by
  have hw : Below w.heap.size w W := (hA ▸ HB0.out).trans (h.mono (by rw [hA]; exact HB0.out.size))
  exact (right_any wideM a none c 0 (wideG t) b d W (by decide) (by decide) g1 g2 (wide_small HSM.out (by omega)) (HTW.out.below hw)).mono fun e w' ⟨g3, g4⟩ => ⟨g3, h.trans (g4.mono h.size)⟩
 have HZ : Hid (∀ W, Below A.heap.size A W → Below A.heap.size A W ∧ W.cell? ⟨w.heap.size, 0, none⟩ = some (.int .i64 t.frame) ∧ W.cell? ⟨w.heap.size, 1, none⟩ = some (.slice ba t.blocks.length bc)) := fun W h => by
  have hx := (hA ▸ HX0.out : Blk A w.heap.size 24 #[.int .i64 t.frame, .slice ba t.blocks.length bc])
  exact ⟨h, (hx.below h hx.lt).cell 0, (hx.below h hx.lt).cell 1⟩
 have HBA : Hid (Below w.heap.size w A) := hA ▸ HB0.out
 unfold machV at WI RG
 rw [show maxC wideM = fun a c b d => #[.int .i64 64, .slice a 8 c, .int .i64 0, .slice b 0 d] from rfl] at WI RG
 obtain ⟨G, hG⟩ : ∃ G, G = wideG t := ⟨_, rfl⟩
 unfold tgV tgC at WN RG
 rw [← hG] at WN RG ⊢
 generalize rightT wideM G = q at *
 clear hG ST HX0
 go_enter Tryz.func22, Tryz.ntmps22
 go_upto_region 3 with fail
 rw [← hA]
 clear hA HB0
 have hbd : Below A.heap.size A A.drew := (Below.refl _ _).drew
 go_region_held3 (fun W => Below A.heap.size A W ∧ W.cell? ⟨w.heap.size, 0, none⟩ = some (.int .i64 t.frame) ∧ W.cell? ⟨w.heap.size, 1, none⟩ = some (.slice ba t.blocks.length bc))
  (first | (refine HZ.out _ ?_; (repeat (first | with_reducible apply belP_alloc | with_reducible apply belP_drew)); (first | exact Below.refl _ _ | assumption)))
  (first
    | (go_at_call 50; refine (WI.out _ (by go_split_ands; assumption)).mono ?_; rintro e w21 ⟨va, vc, rfl, hM21, hb21, hW21⟩)
    | (go_at_call 51; refine (WN.out _ (by go_split_ands; assumption)).mono ?_; rintro e w22 ⟨vb, vd, rfl, hG22, hb22, hW22⟩)
    | (go_at_call 19; (first | refine (RG.out _ _ _ _ _ hb22 (hM21.out.below hW22.out) hG22.out).mono ?_ | refine (RG.out _ _ _ _ _ hb21 hM21.out (hG22.out.below hW21.out)).mono ?_); rintro e w23 ⟨rfl, hb23⟩))
 all_goals (
  go_wp2
  go_ret
  exact ⟨rfl, HBA.out.trans (hb23.mono HBA.out.size)⟩)
end Go.Proofs.YtbjmbahpcoanoaaGreatDoor
namespace Go.Proofs.YtbjmbahpcoanoaaGreatDoor

theorem ins_right {m : Mm} {fr : Int} {x : Ii} (h : ofInsN m fr x = 0) : isInsT m x = true ∧ belowB m.regs [x.dst, x.a, x.b] = true ∧ (hasB x.op 48 = true → belowB fr [x.imm] = true) := by
 unfold ofInsN at h
 by_cases h1 : isInsT m x = true
 · rw [if_pos h1] at h
   by_cases h2 : belowB m.regs [x.dst, x.a, x.b] = true
   · rw [if_pos h2] at h
     refine ⟨h1, h2, fun h3 => ?_⟩
     cases h4 : belowB fr [x.imm]
     · rw [h3, h4] at h
       exact absurd h (by decide)
     · rfl
   · rw [if_neg h2] at h
     exact absurd h (by decide)
 · rw [if_neg h1] at h
   exact absurd h (by decide)
theorem end_right {m : Mm} {nb : Int} {t : Tt} (h : ofEndN m nb t = 0) : isEndT t = true ∧ readsWellT m t = true ∧ belowB nb [t.t0, t.t1] = true := by
 unfold ofEndN at h
 by_cases h1 : isEndT t = true
 · rw [if_pos h1] at h
   by_cases h2 : readsWellT m t = true
   · rw [if_pos h2] at h
     by_cases h3 : belowB nb [t.t0, t.t1] = true
     · exact ⟨h1, h2, h3⟩
     · rw [if_neg h3] at h; exact absurd h (by decide)
   · rw [if_neg h2] at h; exact absurd h (by decide)
 · rw [if_neg h1] at h; exact absurd h (by decide)
theorem insErr_all {m : Mm} {fr : Int} : ∀ {l : List Ii}, insErr m fr l = 0 → ∀ x ∈ l, ofInsN m fr x = 0
 | [], _, x, hx => by simp at hx
 | y :: l, h, x, hx => by
  unfold insErr at h
  by_cases h1 : ofInsN m fr y = 0
  · rw [if_pos h1] at h
    rcases List.mem_cons.1 hx with rfl | hx
    · exact h1
    · exact insErr_all h x hx
  · rw [if_neg h1] at h; exact absurd h h1
theorem blErr_all {m : Mm} {fr nb : Int} : ∀ {l : List Bb}, blErr m fr nb l = 0 → ∀ b ∈ l, insErr m fr b.ins = 0 ∧ ofEndN m nb b.tm = 0
 | [], _, x, hx => by simp at hx
 | y :: l, h, x, hx => by
  unfold blErr at h
  by_cases h1 : insErr m fr y.ins = 0
  · rw [if_pos h1] at h
    by_cases h2 : ofEndN m nb y.tm = 0
    · rw [if_pos h2] at h
      rcases List.mem_cons.1 hx with rfl | hx
      · exact ⟨h1, h2⟩
      · exact blErr_all h x hx
    · rw [if_neg h2] at h; exact absurd h h2
  · rw [if_neg h1] at h; exact absurd h h1
theorem right_parts0 {m : Mm} {t : Gg} (h : rightT m t = 0) : m.rightB = true ∧ smallT t = true ∧ blErr m t.frame t.blocks.length t.blocks = 0 := by
 unfold rightT at h
 by_cases h1 : m.rightB = true
 · rw [if_pos h1] at h
   by_cases h2 : smallT t = true
   · rw [if_pos h2] at h
     exact ⟨h1, h2, h⟩
   · rw [if_neg h2] at h; exact absurd h (by decide)
 · rw [if_neg h1] at h; exact absurd h (by decide)
end Go.Proofs.YtbjmbahpcoanoaaGreatDoor
