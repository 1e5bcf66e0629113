/-
  Instructions that are lent: copies with marks behind their ends. No condition beyond those that each theorem states.
-/
import Derived.Test.YthiipgahbmoiiaaGreatDoorPk1
import Derived.Test.YthiipgahbmoiiaaGreatDoorPk29
namespace Go.Proofs.YthiipgahbmoiiaaGreatDoor
open Go.RowKit

/-- Blocks of a kind are as they were. -/
def KeepT (w w' : World) (t : TypeId) : Prop := ∀ (b : Nat) (cs : Array Value), w.heap[b]? = some (.cells cs t (0, 0)) → w'.heap[b]? = some (.cells cs t (0, 0))
theorem KeepT.below {w w' : World} (h : Below w.heap.size w w') (t : TypeId) : KeepT w w' t := fun b _ hb => (h.block b (Array.getElem?_eq_some_iff.1 hb).1).trans hb
theorem KeepT.trans {w w1 w2 : World} {t : TypeId} (h : KeepT w w1 t) (h2 : KeepT w1 w2 t) : KeepT w w2 t := fun b cs hb => h2 b cs (h b cs hb)
theorem KeepT.drew (w : World) (t : TypeId) : KeepT w w.drew t := fun _ _ h => h
theorem KeepT.alloc (w : World) (o : Obj) (t : TypeId) : KeepT w (w.alloc o) t := fun b _ hb => (Below.heap_alloc w o b (Array.getElem?_eq_some_iff.1 hb).1).trans hb
/-- A store into a block of another kind. -/
theorem KeepT.far {w : World} {g : Nat} {e t : TypeId} {cs : Array Value} (h : Blk w g e cs) (ht : e ≠ t) (i : Nat) (u : Value) : KeepT w (w.setCell ⟨g, i, none⟩ u) t := fun b cs2 hb => by
  have hne : b ≠ g := by
    intro he
    subst he
    unfold Blk at h
    rw [h] at hb
    injection hb with hb
    injection hb with _ hb _
    exact ht hb
  exact (Below.heap_setCell w ⟨g, i, none⟩ u b hne).trans hb
/-- An append to a row of another kind. -/
theorem KeepT.grown {w w' : World} {B : Nat} {e t : TypeId} {size n : Nat} {v : Value} {xs : List Value} (ho : w.ownsRow B e size v n xs) (hg : w.grownBy w' v.ownBlock) (ht : e ≠ t) : KeepT w w' t := fun b cs hb =>
  (hg.block b (Array.getElem?_eq_some_iff.1 hb).1 (own_far ho (show Blk w b t cs from hb) ht)).trans hb
theorem own_keepT {w w' : World} {B : Nat} {e : TypeId} {size n : Nat} {v : Value} {xs : List Value} (h : w.ownsRow B e size v n xs) (hk : KeepT w w' e) : w'.ownsRow B e size v n xs := by
  obtain ⟨h1, h2⟩ := h
  refine ⟨h1, ?_⟩
  rcases h2 with h2 | ⟨g, cap, cur, hv, hB, hh, r⟩
  · exact .inl h2
  · exact .inr ⟨g, cap, cur, hv, hB, hk _ _ hh, r⟩
theorem OwnI.keepT {w w' : World} {B : Nat} {v : Value} {l : List Int} (h : OwnI w B v l) (hk : KeepT w w' 3) : OwnI w' B v l := own_keepT h hk
/-- Rows of fixed size: the cells of one. -/
theorem flat_cell {α : Type} (f : α → List Value) (n : Nat) (hf : ∀ x, (f x).length = n) : ∀ (l : List α) (k : Nat) (x : α) (j : Nat), l[k]? = some x → j < n → (l.flatMap f)[k * n + j]? = (f x)[j]?
  | [], k, x, j, h, _ => by simp at h
  | y :: l, 0, x, j, h, hj => by
    simp only [List.getElem?_cons_zero, Option.some.injEq] at h
    subst h
    rw [List.flatMap_cons, Nat.zero_mul, Nat.zero_add, List.getElem?_append_left (by rw [hf]; exact hj)]
  | y :: l, k + 1, x, j, h, hj => by
    rw [List.getElem?_cons_succ] at h
    rw [List.flatMap_cons, List.getElem?_append_right (by rw [hf, Nat.succ_mul]; omega), hf, show (k + 1) * n + j - n = k * n + j by rw [Nat.succ_mul]; omega]
    exact flat_cell f n hf l k x j h hj
theorem flat_long {α : Type} (f : α → List Value) (n : Nat) (hf : ∀ x, (f x).length = n) : ∀ (l : List α), (l.flatMap f).length = l.length * n
  | [] => by simp
  | y :: l => by rw [List.flatMap_cons, List.length_append, hf, flat_long f n hf l, List.length_cons, Nat.succ_mul]; omega

/-- An instruction, and where its arguments lie. -/
abbrev IE := Ii × Option Addr × Nat
def ieC (e : IE) : List Value := [.int .i64 e.1.op, .int .i64 e.1.dst, .int .i64 e.1.a, .int .i64 e.1.b, .int .i64 e.1.imm, .int .i64 e.1.callee, .slice e.2.1 e.1.args.length e.2.2, .int .i64 e.1.many]
theorem ie_len (e : IE) : (ieC e).length = 8 := rfl
theorem ie_ins (x : Ii) (a : Option Addr) (c : Nat) : insC x a c = (ieC (x, a, c)).toArray := rfl
def markI (j : Nat) : Ii := ⟨0, 0, 0, 0, 1000003 * (1 + 7) + (j : Int), 0, [], 0⟩
def markE (j : Nat) : IE := (markI j, none, 0)
def marksE (j : Nat) : List IE := (List.range j).map markE
theorem marksE_len (j : Nat) : (marksE j).length = j := by simp [marksE]
theorem marksE_more (j : Nat) : marksE (j + 1) = marksE j ++ [markE j] := by simp [marksE, List.range_succ]
/-- Its arguments are lent. -/
def ArgL (w : World) (B : Nat) (e : IE) : Prop := ∃ g, e.2.1 = some ⟨g, 0, none⟩ ∧ e.1.args.length + 12 ≤ e.2.2 ∧ e.2.2 ≤ maxLen ∧ OwnI w B (.slice (some ⟨g, 0, none⟩) (e.1.args.length + 12) e.2.2) (e.1.args ++ markL 1 12)
theorem ArgL.keepT {w w' : World} {B : Nat} {e : IE} (h : ArgL w B e) (hk : KeepT w w' 3) : ArgL w' B e := by
  obtain ⟨g, h1, h2, h3, h4⟩ := h
  exact ⟨g, h1, h2, h3, h4.keepT hk⟩
theorem ArgL.base {w : World} {B B' : Nat} {e : IE} (h : ArgL w B e) (hB : B' ≤ B) : ArgL w B' e := by
  obtain ⟨g, h1, h2, h3, h4⟩ := h
  exact ⟨g, h1, h2, h3, own_base h4 hB⟩
def RowE (w : World) (B : Nat) (v : Value) (es : List IE) : Prop := w.ownsRow B 45 8 v es.length (es.flatMap ieC)
theorem row_seat {w : World} {B : Nat} {v : Value} {es : List IE} (h : RowE w B v es) (hl : 0 < es.length) : ∃ g cap, v = .slice (some ⟨g, 0, none⟩) es.length cap ∧ es.length ≤ cap ∧ cap ≤ maxLen := by
  rcases h.2 with ⟨_, h1⟩ | ⟨g, cap, cur, hv, _, _, h2, h3, _⟩
  · omega
  · exact ⟨g, cap, hv, h2, h3⟩
/-- A row of instructions that is lent. -/
structure LRow (w : World) (B g cap : Nat) (es : List IE) : Prop where
  row : RowE w B (.slice (some ⟨g, 0, none⟩) (es.length + 12) cap) (es ++ marksE 12)
  args : ∀ e ∈ es, ArgL w B e
  room : es.length + 12 ≤ cap ∧ cap ≤ maxLen
theorem LRow.keepT {w w' : World} {B g cap : Nat} {es : List IE} (h : LRow w B g cap es) (h1 : KeepT w w' 3) (h2 : KeepT w w' 45) : LRow w' B g cap es :=
  ⟨own_keepT h.row h2, fun e he => (h.args e he).keepT h1, h.room⟩
theorem LRow.base {w : World} {B B' g cap : Nat} {es : List IE} (h : LRow w B g cap es) (hB : B' ≤ B) : LRow w B' g cap es := ⟨own_base h.row hB, fun e he => (h.args e he).base hB, h.room⟩
theorem ins_size : (Tryz.prog.info? 45).map (·.size) = some 8 := by kernel_rfl
theorem ins_info : (Tryz.prog.info? 45).map (fun i => (i.zero, i.size, i.bytes)) = some (some (.agg #[.int .i64 0, .int .i64 0, .int .i64 0, .int .i64 0, .int .i64 0, .int .i64 0, .slice none 0 0, .int .i64 0]), 8, 80) := by kernel_rfl
/-- Cells stored one behind the other. -/
def putAll (w : World) (R : Nat) : Nat → List Value → World
  | _, [] => w
  | i, v :: l => putAll (w.setCell ⟨R, i, none⟩ v) R (i + 1) l
theorem putAll_blk {R : Nat} {e : TypeId} : ∀ (l : List Value) (w : World) (cs : Array Value) (i : Nat), Blk w R e cs → cs.size = i + l.length → Blk (putAll w R i l) R e (cs.toList.take i ++ l).toArray
  | [], w, cs, i, h, hs => by
    rw [List.append_nil, List.take_of_length_le (by rw [Array.length_toList, hs]; simp)]
    exact h
  | v :: l, w, cs, i, h, hs => by
    have h2 := putAll_blk l (w.setCell ⟨R, i, none⟩ v) (cs.setIfInBounds i v) (i + 1) (h.put i v) (by rw [Array.size_setIfInBounds, hs, List.length_cons]; omega)
    have hi : i < cs.toList.length := by rw [Array.length_toList, hs, List.length_cons]; omega
    have e2 : (cs.setIfInBounds i v).toList.take (i + 1) = cs.toList.take i ++ [v] := by
      rw [Array.toList_setIfInBounds, List.take_add_one, List.take_set_of_le (Nat.le_refl i), List.getElem?_set_self hi]
      rfl
    rw [e2, List.append_assoc] at h2
    exact h2
theorem putAll_keep {R : Nat} {e t : TypeId} (ht : e ≠ t) : ∀ (l : List Value) (w : World) (cs : Array Value) (i : Nat), Blk w R e cs → KeepT w (putAll w R i l) t
  | [], _, _, _, _ => fun _ _ h => h
  | v :: l, _, _, i, h => (KeepT.far h ht i v).trans (putAll_keep ht l _ _ (i + 1) (h.put i v))
theorem putAll_below {R b : Nat} (hb : b ≤ R) : ∀ (l : List Value) (w : World) (i : Nat), Below b w (putAll w R i l)
  | [], _, _ => Below.refl _ _
  | v :: l, w, i => ((Below.refl b w).setCell (p := ⟨R, i, none⟩) hb v).trans (putAll_below hb l _ (i + 1))
/-- A store into a block, and a whole one into another of the same kind. -/
theorem put_all {w : World} {X R : Nat} {e : TypeId} {cx cr : Array Value} (hX : Blk w X e cx) (hR : Blk w R e cr) (hne : R ≠ X) (k : Nat) (u : Value) (l : List Value) (hs : cr.size = l.length) :
    Blk (putAll (w.setCell ⟨X, k, none⟩ u) R 0 l) R e l.toArray ∧ (∀ t, e ≠ t → KeepT w (putAll (w.setCell ⟨X, k, none⟩ u) R 0 l) t) ∧ (∀ b, b ≤ X → b ≤ R → Below b w (putAll (w.setCell ⟨X, k, none⟩ u) R 0 l)) := by
  have h9 := hR.far (p := ⟨X, k, none⟩) hne u
  refine ⟨?_, fun t ht => ?_, fun b hb1 hb2 => ?_⟩
  · have h := putAll_blk l _ cr 0 h9 (by omega)
    rw [List.take_zero, List.nil_append] at h
    exact h
  · exact (KeepT.far hX ht k u).trans (putAll_keep ht l _ _ 0 h9)
  · exact ((Below.refl b w).setCell (p := ⟨X, k, none⟩) hb1 u).trans (putAll_below hb2 l _ 0)
set_option maxHeartbeats 1000000 in
set_option maxRecDepth 100000 in
theorem lentIns_any (x : Ii) (a : Option Addr) (c : Nat) (w : World) (hl : x.args.length ≤ 2000) (hn : a = none → c = 0) (hI : IntsW w a x.args) :
    Calls Tryz.prog 143 #[insV x a c] w fun e w' => ∃ g cap, e = .returned (insV x (some ⟨g, 0, none⟩) cap) ∧ ArgL w' w.heap.size (x, some ⟨g, 0, none⟩, cap) ∧ Below w.heap.size w w' := by
  have HX : Hid (Blk ((w.alloc (.cells (insC x a c) 45)).alloc (.cells #[.int .i64 0, .int .i64 0, .int .i64 0, .int .i64 0, .int .i64 0, .int .i64 0, .slice none 0 0, .int .i64 0] 45)) w.heap.size 45 (insC x a c)) := Lib.hid ((Blk.new w _ _).alloc _)
  have HR : Hid (Blk ((w.alloc (.cells (insC x a c) 45)).alloc (.cells #[.int .i64 0, .int .i64 0, .int .i64 0, .int .i64 0, .int .i64 0, .int .i64 0, .slice none 0 0, .int .i64 0] 45)) (w.heap.size + 1) 45 #[.int .i64 0, .int .i64 0, .int .i64 0, .int .i64 0, .int .i64 0, .int .i64 0, .slice none 0 0, .int .i64 0]) := by
    have h := Blk.new (w.alloc (.cells (insC x a c) 45)) 45 #[.int .i64 0, .int .i64 0, .int .i64 0, .int .i64 0, .int .i64 0, .int .i64 0, .slice none 0 0, .int .i64 0]
    have e : (w.alloc (.cells (insC x a c) 45)).heap.size = w.heap.size + 1 := by simp
    rw [e] at h
    exact Lib.hid h
  have HW : Hid (Below w.heap.size w ((w.alloc (.cells (insC x a c) 45)).alloc (.cells #[.int .i64 0, .int .i64 0, .int .i64 0, .int .i64 0, .int .i64 0, .int .i64 0, .slice none 0 0, .int .i64 0] 45))) := Lib.hid (((Below.refl _ w).alloc (Nat.le_refl _) _).alloc (by simp) _)
  have HC := Lib.hid (lentInts_any x.args a c _ (by omega) hn (hI.below HW.out))
  clear hI
  unfold insV
  go_enter Tryz.func143, Tryz.ntmps143
  go_wp2_with fail
  refine HC.out.mono ?_
  rintro e w1 ⟨g, cap, rfl, h1, h2, ho, hb⟩
  have HX1 := Lib.hid (HX.out.below hb HX.out.lt)
  have HR1 := Lib.hid (HR.out.below hb HR.out.lt)
  have HW1 : Hid (Below w.heap.size w w1) := Lib.hid (HW.out.trans (hb.mono HW.out.size))
  have HO1 := Lib.hid (own_base ho HW.out.size)
  clear hb ho HX HR HW HC
  obtain ⟨c0, c1, c2, c3, c4, c5, c6, c7⟩ := box8 HX1.out
  have f6 : w1.frozen? ⟨w.heap.size, 6, none⟩ = false := HX1.out.free 6
  generalize hR0 : w.heap.size + 1 = R0 at HR1 ⊢
  have hne : R0 ≠ w.heap.size := by omega
  have d0 := HR1.out.cell 0
  have d1 := HR1.out.cell 1
  have d2 := HR1.out.cell 2
  have d3 := HR1.out.cell 3
  have d4 := HR1.out.cell 4
  have d5 := HR1.out.cell 5
  have d6 := HR1.out.cell 6
  have d7 := HR1.out.cell 7
  have g0 := HR1.out.free 0
  have g1 := HR1.out.free 1
  have g2 := HR1.out.free 2
  have g3 := HR1.out.free 3
  have g4 := HR1.out.free 4
  have g5 := HR1.out.free 5
  have g6 := HR1.out.free 6
  have g7 := HR1.out.free 7
  simp at d0 d1 d2 d3 d4 d5 d6 d7
  go_wp2
  obtain ⟨hR9, hK9, hB9⟩ := put_all HX1.out HR1.out hne 6 (.slice (some ⟨g, 0, none⟩) x.args.length cap) (ieC (x, some ⟨g, 0, none⟩, cap)) rfl
  have hO9 := OwnI.keepT HO1.out (hK9 3 (by decide))
  have hW9 := HW1.out.trans (hB9 w.heap.size (Nat.le_refl _) (by omega))
  clear hK9 hB9
  change bodyPost _ _ _ _ _ (putAll (w1.setCell ⟨w.heap.size, 6, none⟩ (.slice (some ⟨g, 0, none⟩) x.args.length cap)) R0 0 (ieC (x, some ⟨g, 0, none⟩, cap)))
  generalize putAll (w1.setCell ⟨w.heap.size, 6, none⟩ (.slice (some ⟨g, 0, none⟩) x.args.length cap)) R0 0 (ieC (x, some ⟨g, 0, none⟩, cap)) = W9 at hR9 hO9 hW9 ⊢
  obtain ⟨k0, k1, k2, k3, k4, k5, k6, k7⟩ := box8 (x := x) hR9
  clear d0 d1 d2 d3 d4 d5 d6 d7 g0 g1 g2 g3 g4 g5 g6 g7 c0 c1 c2 c3 c4 c5 c6 c7
  refine bodyPost_ret (results_cell_row rfl _ _ R0 45 _ (0, 0) _ (by simp) hR9 Tryz.underlying45 rfl ins_size) rfl ?_
  exact ⟨g, cap, rfl, ⟨g, rfl, h1, h2, hO9⟩, hW9⟩
set_option maxHeartbeats 1000000 in
set_option maxRecDepth 100000 in
theorem markIns_any (j : Nat) (w : World) (hj : j ≤ 2000) : Calls Tryz.prog 144 #[.int .i64 1, .int .i64 j] w fun e w' => e = .returned (insV (markI j) none 0) ∧ Below w.heap.size w w' := by
  go_enter Tryz.func144, Tryz.ntmps144
  go_wp2_with fail
  refine (mark_any 1 j _ (by omega) (by omega) (by omega) (by omega)).mono ?_
  rintro e w3 ⟨rfl, rfl⟩
  generalize hy : 1000003 * (1 + 7) + (j : Int) = y
  have HY := Lib.hid hy
  clear hy
  go_wp2
  refine bodyPost_ret (results_cell_row rfl _ _ w.heap.size 45 _ (0, 0) _ (by simp) (Blk.new w _ _) Tryz.underlying45 rfl ins_size) rfl ?_
  exact ⟨by rw [← HY.out]; rfl, (Below.refl _ w).alloc (Nat.le_refl _) _⟩
theorem marks_one (es : List IE) (j : Nat) : (es ++ marksE j).length = es.length + j := by rw [List.length_append, marksE_len]
theorem ie_one (e : IE) : ∀ u ∈ ieC e, u.oneCell' = true := fun u hu => by
  simp only [ieC, List.mem_cons, List.not_mem_nil, or_false] at hu
  rcases hu with rfl | rfl | rfl | rfl | rfl | rfl | rfl | rfl <;> rfl
theorem new_two (w : World) (o : Obj) (t : TypeId) (cs : Array Value) : Blk ((w.alloc o).alloc (.cells cs t)) (w.heap.size + 1) t cs := by
  have h := Blk.new (w.alloc o) t cs
  have e : (w.alloc o).heap.size = w.heap.size + 1 := by simp
  rw [e] at h
  exact h
set_option maxHeartbeats 4000000 in
set_option maxRecDepth 100000 in
theorem lentRow_any (l : List Ii) (a : Option Addr) (c : Nat) (w : World) (hl : l.length ≤ 2000) (hl2 : ∀ x ∈ l, x.args.length ≤ 2000) (hI : InsW w a l) :
    Calls Tryz.prog 101 #[.slice a l.length c] w fun e w' => ∃ (g cap : Nat) (es : List IE), e = .returned (.slice (some ⟨g, 0, none⟩) l.length cap) ∧ es.map Prod.fst = l ∧ LRow w' w.heap.size g cap es ∧ Below w.heap.size w w' := by
  obtain ⟨i0, hi0, hz0, hz1, hz2⟩ := info_parts ins_info
  have HI := Lib.hid hI
  have HL2 := Lib.hid hl2
  clear hI hl2
  have hm : (0 : Int) ≤ (l.length : Int) + 12 := by omega
  go_enter Tryz.func101, Tryz.ntmps101
  go_wp2_with (at_make; go_must (refine wpList_make_own _ rfl _ _ _ rfl w.heap.size 45 i0 _ 8 Tryz.underlying46 hi0 hz0 hz1 .i64 .i64 ((l.length : Int) + 12) (l.length + 12) rfl rfl (by omega) (by rw [hz2]; omega) (by simp only [maxLen]; omega) (Nat.le_refl _) ?_; intro w1 hown1 hgrow1; have HB1 : Hid (Below w.heap.size w w1) := (by exact (Below.refl _ w).grown hgrow1 (Nat.le_refl _) (fun k hk => by cases hk))))
  have HO1 := Lib.hid hown1
  clear hown1 hgrow1
  go_loopw [3, 4] (fun v k wr => ∃ (j : Nat) (es : List IE) (u : Value), u = v ∧ k = .int .i64 j ∧ j ≤ l.length ∧ es.map Prod.fst = l.take j ∧ RowE wr w.heap.size v es ∧ (∀ e ∈ es, ArgL wr w.heap.size e) ∧ Below w.heap.size w wr) (fun _ k _ => l.length - (intOf k).toNat)
  case atStart => exact ⟨0, [], _, rfl, rfl, Nat.zero_le _, rfl, HO1.out, (fun e he => by cases he), HB1.out⟩
  case round =>
    obtain ⟨j, es, v, rfl, rfl, hj, hes, hO, hA, hB⟩ := hrel
    clear HO1 HB1
    have HO := Lib.hid hO
    have HA := Lib.hid hA
    have HB := Lib.hid hB
    have HES := Lib.hid hes
    have hel : es.length = j := by
      have := congrArg List.length hes
      rw [List.length_map, List.length_take] at this
      omega
    clear hO hA hB hes
    by_cases hlt : j < l.length
    · have hlt' : (j : Int) < l.length := by omega
      have hj0 : (0 : Int) ≤ j := by omega
      obtain ⟨x, hx⟩ : ∃ x, l[j]? = some x := ⟨_, List.getElem?_eq_getElem hlt⟩
      obtain ⟨g, o, ia, ic, rfl, hg, hc⟩ := (HI.out.below HB.out) j x hx
      have c0 := hc.c0
      have c1 := hc.c1
      have c2 := hc.c2
      have c3 := hc.c3
      have c4 := hc.c4
      have c5 := hc.c5
      have c6 := hc.c6
      have c7 := hc.c7
      have HX := Lib.hid hx
      have HC := Lib.hid (lentIns_any x ia ic wr (HL2.out x (List.mem_of_getElem? hx)) hc.nil hc.args)
      unfold insV at HC
      clear hc hx
      go_wp2_with fail
      refine HC.out.mono ?_
      rintro e w3 ⟨gi, ci, rfl, hai, hb3⟩
      have HA3 := Lib.hid (hai.base HB.out.size)
      have HK3 := Lib.hid (KeepT.below hb3 3)
      have HO3 : Hid (RowE ((w3.alloc (.cells (insC x (some ⟨gi, 0, none⟩) ci) 45)).alloc (.cells (insC x (some ⟨gi, 0, none⟩) ci) 45)) w.heap.size v es) := Lib.hid (World.ownsRow.alloc (World.ownsRow.alloc (own_keepT HO.out (KeepT.below hb3 _)) _) _)
      have HB3 : Hid (Below w.heap.size w ((w3.alloc (.cells (insC x (some ⟨gi, 0, none⟩) ci) 45)).alloc (.cells (insC x (some ⟨gi, 0, none⟩) ci) 45))) := Lib.hid (((HB.out.trans (hb3.mono HB.out.size)).alloc (Nat.le_trans HB.out.size hb3.size) _).alloc (by have := Nat.le_trans HB.out.size hb3.size; simp; omega) _)
      clear hb3 hai HC c0 c1 c2 c3 c4 c5 c6 c7
      go_wp2_with (at_builtin; go_must (refine wpList_append_lies _ rfl _ _ _ rfl w.heap.size 45 i0 _ 8 80 Tryz.underlying46 hi0 hz0 hz1 hz2 rfl (by omega) v es.length (es.flatMap ieC) rfl HO3.out ⟨w3.heap.size + 1, 0, none⟩ 1 1 (ieC (x, some ⟨gi, 0, none⟩, ci)) rfl rfl (World.news_of_block (new_two w3 _ _ _)) (ie_one _) (by omega) (by simp only [maxLen]; omega) (by omega) HB3.out.size _ rfl ?_; intro gg gcap w4 hown4 hgrow4 hat4 hlt4))
      have HK4 : Hid (KeepT w3 w4 3) := Lib.hid (((KeepT.alloc w3 _ _).trans (KeepT.alloc _ _ _)).trans (KeepT.grown HO3.out hgrow4 (by decide)))
      have HB4 : Hid (Below w.heap.size w w4) := Lib.hid (HB3.out.grown hgrow4 HB3.out.size (fun k hk => (World.ownsRow.lt HO3.out k hk).1))
      have HO4 : Hid (RowE w4 w.heap.size (.slice (some ⟨gg, 0, none⟩) (j + 1) gcap) (es ++ [(x, some ⟨gi, 0, none⟩, ci)])) := by
        show World.ownsRow _ _ _ _ _ _ _
        rw [List.length_append, List.flatMap_append, ← hel]
        exact hown4
      have HA4 : Hid (∀ e ∈ es ++ [(x, some ⟨gi, 0, none⟩, ci)], ArgL w4 w.heap.size e) := Lib.hid fun e he => by
        rcases List.mem_append.1 he with he | he
        · exact ((HA.out e he).keepT HK3.out).keepT HK4.out
        · rw [List.mem_singleton] at he
          subst he
          exact HA3.out.keepT HK4.out
      clear hown4 hgrow4 hat4 hlt4
      go_roundw
      case rel => exact ⟨j + 1, _, _, rfl, by go_num, by omega, by rw [List.map_append, HES.out, List.take_add_one, HX.out]; rfl, HO4.out, HA4.out, HB4.out⟩
      case measure => simp [intOf]; omega
    · have e : j = l.length := by omega
      rw [e, List.take_length] at HES
      have hlt' : ¬ (j : Int) < l.length := by omega
      go_wp2
      go_loopw [3, 6] (fun v k wr => ∃ (i : Nat) (u : Value), u = v ∧ k = .int .i64 i ∧ i ≤ 12 ∧ RowE wr w.heap.size v (es ++ marksE i) ∧ (∀ e ∈ es, ArgL wr w.heap.size e) ∧ Below w.heap.size w wr) (fun _ k _ => 12 - (intOf k).toNat)
      case atStart => exact ⟨0, _, rfl, rfl, Nat.zero_le _, by simpa [marksE] using HO.out, HA.out, HB.out⟩
      case round =>
        obtain ⟨i, v, rfl, rfl, hi, hO, hA, hB⟩ := hrel
        clear HO HA HB
        have HO := Lib.hid hO
        have HA := Lib.hid hA
        have HB := Lib.hid hB
        clear hO hA hB
        by_cases hi2 : i < 12
        · have hi3 : (i : Int) < 12 := by omega
          have HC := Lib.hid (markIns_any i wr (by omega))
          unfold insV at HC
          have hml := marks_one es i
          go_wp2_with fail
          refine HC.out.mono ?_
          rintro e w3 ⟨rfl, hb3⟩
          have HK3 := Lib.hid (KeepT.below hb3 3)
          have HO3 : Hid (RowE (w3.alloc (.cells (insC (markI i) none 0) 45)) w.heap.size v (es ++ marksE i)) := Lib.hid (World.ownsRow.alloc (own_keepT HO.out (KeepT.below hb3 _)) _)
          have HB3 : Hid (Below w.heap.size w (w3.alloc (.cells (insC (markI i) none 0) 45))) := Lib.hid ((HB.out.trans (hb3.mono HB.out.size)).alloc (Nat.le_trans HB.out.size hb3.size) _)
          clear HC hb3
          go_wp2_with (at_builtin; go_must (refine wpList_append_lies _ rfl _ _ _ rfl w.heap.size 45 i0 _ 8 80 Tryz.underlying46 hi0 hz0 hz1 hz2 rfl (by omega) v (es ++ marksE i).length ((es ++ marksE i).flatMap ieC) rfl HO3.out ⟨w3.heap.size, 0, none⟩ 1 1 (ieC (markE i)) rfl rfl (World.news_of_block (Blk.new w3 _ _)) (ie_one _) (by omega) (by simp only [maxLen]; omega) (by omega) HB3.out.size _ rfl ?_; intro gg gcap w4 hown4 hgrow4 hat4 hlt4))
          have HK4 : Hid (KeepT wr w4 3) := Lib.hid ((HK3.out.trans (KeepT.alloc w3 _ _)).trans (KeepT.grown HO3.out hgrow4 (by decide)))
          have HB4 : Hid (Below w.heap.size w w4) := Lib.hid (HB3.out.grown hgrow4 HB3.out.size (fun k hk => (World.ownsRow.lt HO3.out k hk).1))
          have HO4 : Hid (RowE w4 w.heap.size (.slice (some ⟨gg, 0, none⟩) (l.length + i + 1) gcap) (es ++ marksE (i + 1))) := by
            show World.ownsRow _ _ _ _ _ _ _
            have e1 : (es ++ marksE i).length = l.length + i := by omega
            have e2 : (es ++ marksE i ++ [markE i]).length = (es ++ marksE i).length + 1 := List.length_append
            rw [marksE_more, ← List.append_assoc, List.flatMap_append, e2, ← e1]
            exact hown4
          have HA4 : Hid (∀ e ∈ es, ArgL w4 w.heap.size e) := Lib.hid fun e he => (HA.out e he).keepT HK4.out
          clear hown4 hgrow4 hat4 hlt4
          go_roundw
          case rel => exact ⟨i + 1, _, rfl, by go_num, by omega, HO4.out, HA4.out, HB4.out⟩
          case measure => simp [intOf]; omega
        · have e : i = 12 := by omega
          subst e
          have hml := marks_one es 12
          obtain ⟨g, cap, rfl, h1, h2⟩ := row_seat HO.out (by omega)
          rw [hml] at h1
          have HO9 : Hid (RowE wr w.heap.size (.slice (some ⟨g, 0, none⟩) (es.length + 12) cap) (es ++ marksE 12)) := by
            have := HO.out
            rw [hml] at this
            exact Lib.hid this
          have hc1 : (l.length : Int) ≤ cap := by omega
          rw [hml]
          go_wp2
          go_ret
          exact ⟨g, cap, es, rfl, HES.out, ⟨HO9.out, HA.out, ⟨h1, h2⟩⟩, HB.out⟩
end Go.Proofs.YthiipgahbmoiiaaGreatDoor
