/-
  A row of bytes that is appended to, from a conversion's row on. No condition beyond those that each theorem states.
-/
import Derived.Test.YtjmdgbgjleeloaaGreatDoorPk1
import Derived.Deep.Upon
import Derived.Lib.AtoiErrMem
import Derived.Lib.UnsafeStr
namespace Go.Proofs.YtjmdgbgjleeloaaGreatDoor
open Go.RowKit

theorem bytesL_len (l : List UInt8) : (Lib.byteCells l).length = l.length := by simp [Lib.byteCells]
theorem bytesL_app (l k : List UInt8) : Lib.byteCells (l ++ k) = Lib.byteCells l ++ Lib.byteCells k := by simp [Lib.byteCells]
theorem bytesL_at {l : List UInt8} {j : Nat} (h : j < l.length) : (Lib.byteCells l)[j]? = some (.int .u8 ((l.getD j 0).toNat : Int)) := by
  simp [Lib.byteCells, List.getD, List.getElem?_eq_getElem h]
theorem below_cells {B b : Nat} {a : World} (hb : B ≤ b) : ∀ (vs : List Value) (o : Nat) (w : World), Below B a w → Below B a (w.setCells b o vs)
  | [], _, _, h => h
  | v :: r, o, _, h => below_cells hb r (o + 1) _ (h.setCell (p := ⟨b, o, none⟩) hb v)
/-- The bytes that are written, in a row of their own. -/
structure OutW (A W : World) (v : Value) (l : List UInt8) : Prop where
  be : Below A.heap.size A W
  row : ∃ g cap, v = .slice (some ⟨g, 0, none⟩) l.length cap ∧ g < W.heap.size ∧ OwnAt A W 1 g cap l.length (Lib.byteCells l)
theorem OutW.below {A W W' : World} {v : Value} {l : List UInt8} (h : OutW A W v l) (hb : Below W.heap.size W W') : OutW A W' v l := by
  obtain ⟨g, cap, hv, hg, ho⟩ := h.row
  refine ⟨h.be.trans (hb.mono h.be.size), g, cap, hv, Nat.lt_of_lt_of_le hg hb.size, ho.new, ho.le, ho.max, fun j hj => ?_, fun j hj => ?_⟩
  · exact (World.cell?_of_block (a := ⟨g, j, none⟩) (hb.block g hg)).trans (ho.holds j hj)
  · rw [World.cell?_of_block (a := ⟨g, j, none⟩) (hb.block g hg), World.frozen?_of_block (a := ⟨g, j, none⟩) (hb.block g hg)]
    exact ho.there j hj
theorem bytes_free (W : World) (e : TypeId) (s : ByteArray) (j : Nat) (hj : j < (Lib.bytesCells W e s).size) : (Lib.bytesWorld W e s).frozen? ⟨W.heap.size, j, none⟩ = false := by
  simp [World.frozen?, Lib.bytesWorld_at_new]
  omega
theorem bytes_size (W : World) (e : TypeId) (s : ByteArray) : (Lib.bytesCells W e s).size = grownCap W s.size 0 e := by
  have := grownCap_ge W s.size 0 e
  have h2 : s.data.size = s.size := rfl
  simp [Lib.bytesCells]
  omega
theorem OutW.start {A W : World} (hA : Below A.heap.size A W) (e : TypeId) (s : ByteArray) (hs : s.size ≤ maxLen) : OutW A (Lib.bytesWorld W e s) (.slice (some ⟨W.heap.size, 0, none⟩) s.size (grownCap W s.size 0 e)) s.data.toList := by
  have hl : s.size = s.data.toList.length := (Array.length_toList (xs := s.data)).symm
  refine ⟨hA.trans ((Lib.bytesWorld_below W e s).mono hA.size), W.heap.size, grownCap W s.size 0 e, by rw [hl], by rw [Lib.bytesWorld_size]; omega, hA.size, by rw [← hl]; exact grownCap_ge _ _ _ _, grownCap_le_maxLen _ _ _ _ hs, fun j hj => ?_, fun j hj => ⟨?_, bytes_free W e s j (by rw [bytes_size]; omega)⟩⟩
  · rw [Nat.mul_one] at hj
    rw [Lib.bytesWorld_cell W e s j (by omega), bytesL_at hj]
  · rw [Nat.mul_one] at hj
    have h1 : (Lib.bytesWorld W e s).cell? ⟨W.heap.size, j, none⟩ = (Lib.bytesCells W e s)[j]? := by simp [World.cell?, Lib.bytesWorld_at_new]
    rw [h1, Array.getElem?_eq_getElem (by rw [bytes_size]; exact hj)]
    rfl
/-- A converted string, as what is appended. -/
theorem src_bytes {P : Program} (W : World) (e t e' : TypeId) (s : ByteArray) (c : Nat) (hk : P.underlying t = some (.slice e')) : Src P 1 t (.slice (some ⟨W.heap.size, 0, none⟩) s.size c) s.size (Lib.byteCells s.data.toList) (Lib.bytesWorld W e s) := by
  have hl : s.size = s.data.toList.length := (Array.length_toList (xs := s.data)).symm
  refine Src.ofSlice (w := Lib.bytesWorld W e s) hk ⟨W.heap.size, 0, none⟩ s.size c _ (by rw [bytesL_len, ← hl, Nat.mul_one]) (fun j u hu => ?_) (fun u hu => by
    obtain ⟨_, _, rfl⟩ := List.mem_map.1 hu
    rfl)
  have hj : j < s.data.toList.length := by
    have := (List.getElem?_eq_some_iff.1 hu).1
    rwa [bytesL_len] at this
  rw [Addr.add_lit, Nat.zero_add, Lib.bytesWorld_cell W e s j (by omega), ← hu, bytesL_at hj]
section
variable {P : Program}
theorem OutW.app {A W : World} {v : Value} {l : List UInt8} (h : OutW A W v l) (t ty e : TypeId) (i : TypeInfo) (z : Value) (ht : P.underlying t = some (.slice e)) (hi : P.info? e = some i) (hz : i.zero = some z) (hsize : i.size = 1) (hby : i.bytes = 1) (hzs : z.cells.size = 1)
    (x : Value) (n : Nat) (k : List UInt8) (hn : n = k.length) (hs : Src P 1 t x n (Lib.byteCells k) W) (h63 : l.length + n ≤ 140737488355328) :
    ∃ v' W', (Builtin.append_ #[t, t] ty #[v, x]).run P W = .ok v' W' ∧ OutW A W' v' (l ++ k) := by
  obtain ⟨g, cap, rfl, hg, ho⟩ := h.row
  rw [← hsize] at hs
  subst hn
  have hmx : (140737488355328 : Nat) ≤ maxLen := by simp only [maxLen]; omega
  by_cases hfit : l.length + k.length ≤ cap
  · have hsome : ∀ j, j < (Lib.byteCells k).length → (W.cell? ⟨g, 0 + l.length * i.size + j, none⟩).isSome = true := fun j hj => by
      rw [bytesL_len] at hj
      rw [hsize, Nat.zero_add, Nat.mul_one]
      exact (ho.there _ (by omega)).1
    have hrun := run_append_room_src (P := P) (w := W) t t ty e i ht hi g 0 l.length cap x k.length (Lib.byteCells k) hs hfit hsome (fun j hj => by
      rw [bytesL_len] at hj
      rw [hsize, Nat.zero_add, Nat.mul_one]
      exact (ho.there _ (by omega)).2)
    rw [hsize, Nat.zero_add, Nat.mul_one] at hrun hsome
    refine ⟨_, _, hrun, below_cells ho.new _ _ _ h.be, g, cap, by rw [List.length_append], ?_, ho.new, by rw [List.length_append]; exact hfit, ho.max, fun j hj => ?_, fun j hj => ⟨?_, (World.frozen?_setCells g _ _ _ _).trans (ho.there j hj).2⟩⟩
    · have := (below_cells (B := 0) (a := W) (b := g) (Nat.zero_le _) (Lib.byteCells k) l.length W (Below.refl _ W)).size
      omega
    · rw [Nat.mul_one, List.length_append] at hj
      rw [bytesL_app]
      by_cases hjl : j < l.length
      · rw [World.cell?_setCells_out g _ _ _ _ (fun _ _ => .inl hjl), List.getElem?_append_left (by rw [bytesL_len]; exact hjl)]
        exact ho.holds j (by omega)
      · have hjk : j - l.length < (Lib.byteCells k).length := by rw [bytesL_len]; omega
        have h2 := World.cell?_setCells_in g (Lib.byteCells k) l.length W hsome (j - l.length) hjk
        rw [show l.length + (j - l.length) = j by omega] at h2
        rw [h2, List.getElem?_append_right (by rw [bytesL_len]; omega), bytesL_len, List.getElem?_eq_getElem hjk]
    · by_cases hin : l.length ≤ j ∧ j < l.length + (Lib.byteCells k).length
      · have h2 := World.cell?_setCells_in g (Lib.byteCells k) l.length W hsome (j - l.length) (by omega)
        rw [show l.length + (j - l.length) = j by omega] at h2
        rw [h2]
        rfl
      · rw [World.cell?_setCells_out g _ _ _ _ (fun _ _ => by show j < l.length ∨ l.length + (Lib.byteCells k).length ≤ j; omega)]
        exact (ho.there j hj).1
  · have hold : (Builtin.firstCells i.size l.length (.slice (some ⟨g, 0, none⟩) l.length cap)).run P W.drew = .ok (Lib.byteCells l).toArray W.drew := by
      rw [hsize]
      refine run_firstCells_some W.drew 1 l.length ⟨g, 0, none⟩ l.length cap (Lib.byteCells l) (by rw [bytesL_len, Nat.mul_one]) (fun j u hu => ?_)
      rw [Addr.add_lit, Nat.zero_add]
      have hj : j < l.length := by
        have := (List.getElem?_eq_some_iff.1 hu).1
        rwa [bytesL_len] at this
      exact (ho.holds j (by omega)).trans hu
    have hrun := run_append_grow_src (P := P) W t t ty e i z ht hi hz (some ⟨g, 0, none⟩) l.length cap (Lib.byteCells l) hold x k.length (Lib.byteCells k) hs (by omega) (by omega) (growslice_fits (by omega) (by rw [hby]; omega))
    have hge := grownCap_ge W (l.length + k.length) cap e
    have hcm := grownCap_le_maxLen W (l.length + k.length) cap e (by omega)
    have hL : (Lib.byteCells l ++ Lib.byteCells k).length = l.length + k.length := by rw [List.length_append, bytesL_len, bytesL_len]
    have hsz : ((Lib.byteCells l ++ Lib.byteCells k).toArray ++ Builtin.zeroCells z.cells (grownCap W (l.length + k.length) cap e - (l.length + k.length))).size = grownCap W (l.length + k.length) cap e := by
      rw [Array.size_append, List.size_toArray, hL, size_zeroCells, hzs]
      omega
    refine ⟨_, _, hrun, (h.be.drew).alloc h.be.size _, W.heap.size, _, by rw [List.length_append], by simp, h.be.size, by rw [List.length_append]; exact hge, hcm, fun j hj => ?_, fun j hj => ⟨?_, World.frozen?_alloc_new W.drew _ _ j⟩⟩
    · rw [Nat.mul_one, List.length_append] at hj
      refine (World.cell?_alloc_new W.drew _ _ j).trans ?_
      rw [Array.getElem?_append_left (by rw [List.size_toArray, hL]; exact hj), List.getElem?_toArray, bytesL_app]
    · rw [Nat.mul_one] at hj
      have e1 := World.cell?_alloc_new W.drew ((Lib.byteCells l ++ Lib.byteCells k).toArray ++ Builtin.zeroCells z.cells (grownCap W (l.length + k.length) cap e - (l.length + k.length))) e j
      refine (congrArg Option.isSome e1).trans ?_
      rw [Array.getElem?_eq_getElem (by rw [hsz]; exact hj)]
      rfl
/-- At the operation. -/
theorem wpList_append_out (W : World) {ops : Array Oper} {rest : List Oper} {o : Oper} {a : Act} {Q : Exit → Act → World → Prop} (hgd : o.guard = none) (s x : Operand) (t : TypeId)
    (ho : o.op = .call { callee := .builtin .append, args := #[s, x], argTypes := #[t, t] })
    {A : World} {v : Value} {l : List UInt8} (h : OutW A W v l) (e : TypeId) (i : TypeInfo) (z : Value) (ht : P.underlying t = some (.slice e)) (hi : P.info? e = some i) (hz : i.zero = some z) (hsize : i.size = 1) (hby : i.bytes = 1) (hzs : z.cells.size = 1) (hv : a.eval s = v)
    (xv : Value) (n : Nat) (k : List UInt8) (hx : a.eval x = xv) (hn : n = k.length) (hs : Src P 1 t xv n (Lib.byteCells k) W) (h63 : l.length + n ≤ 140737488355328)
    (hK : ∀ v' W', OutW A W' v' (l ++ k) → wpList P ops Q rest (a.put o.dst v') W') : wpList P ops Q (o :: rest) a W := by
  refine wpList_plain hgd fun K hK' => ?_
  obtain ⟨v', w', hrun, r'⟩ := h.app (P := P) t o.type e i z ht hi hz hsize hby hzs xv n k hn hs h63
  unfold Oper.wp
  simp [execOp, ho, resolve, invoke, builtin, hv, hx, hrun, Result.andThen]
  exact hK' _ _ (hK v' w' r')
end
end Go.Proofs.YtjmdgbgjleeloaaGreatDoor
