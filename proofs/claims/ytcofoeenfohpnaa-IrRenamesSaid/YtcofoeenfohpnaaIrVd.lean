/-
  What IrRenames answers, for whatever function lies in memory. No condition beyond those that each theorem states.
-/
import Derived.Test.YtcofoeenfohpnaaIrVc
import Derived.Test.YtcofoeenfohpnaaIrRd
import Derived.Test.YtcofoeenfohpnaaIrCt
import Derived.Test.YtcofoeenfohpnaaIrPick
import Derived.Test.YtcofoeenfohpnaaIrAw
import Derived.Deep.CutRange
import Derived.Deep.RegionHeld3
import Derived.BigQuiet
namespace Go.Proofs.Ytcofoeenfohpnaa
open Go.RowKit

set_option maxRecDepth 100000 in
theorem renamed_any (v : Int) (k : Nat) (w : World) (hk : k < 200) : Calls Try.prog 37 #[.int .i64 v, .int .i64 k] w fun e w' => e = .returned (.int .i64 (renV k v)) ∧ w = w' := by
  have HR := Lib.hid (renV.eq_1 k v)
  by_cases h1 : v < 1
  · rw [if_pos (.inl h1)] at HR
    rw [HR.out]
    go_enter Try.func37, Try.ntmps37
    go_wp2
    go_ret
    exact ⟨rfl, rfl⟩
  by_cases h2 : 200 < v
  · rw [if_pos (.inr h2)] at HR
    rw [HR.out]
    go_enter Try.func37, Try.ntmps37
    go_wp2
    go_ret
    exact ⟨rfl, rfl⟩
  · rw [if_neg (by omega)] at HR
    rw [HR.out]
    have hm : (v - 1 + k).tmod 200 = (v - 1 + k) % 200 := Int.tmod_eq_emod_of_nonneg (by omega)
    have hw1 : IntKind.i64.wrap (v - 1) = v - 1 := by rw [IntKind.wrap_i64]; omega
    have hw2 : IntKind.i64.wrap (v - 1 + k) = v - 1 + k := by rw [IntKind.wrap_i64]; omega
    have hw3 : IntKind.i64.wrap ((v - 1 + k) % 200 + 1) = (v - 1 + k) % 200 + 1 := by rw [IntKind.wrap_i64]; omega
    have hw4 : IntKind.i64.wrap ((v - 1 + k) % 200) = (v - 1 + k) % 200 := by rw [IntKind.wrap_i64]; omega
    go_enter Try.func37, Try.ntmps37
    go_wp2
    go_ret
    exact ⟨rfl, rfl⟩
theorem rel_belowV {B : Nat} {w0 w w' : World} (h : Below B w0 w) (hB : B ≤ w0.heap.size) (h2 : Below w.heap.size w w') : Below B w0 w' := h.trans (h2.mono (Nat.le_trans hB h.size))
theorem rel_ownV {W2 W : World} {l : List Int} {F : Nat} {A : Array Value} (h : Calls Try.prog F A W fun e w' => ∃ v, e = .returned v ∧ OwnI w' W.heap.size v l ∧ Below W.heap.size W w') (hb : Below W2.heap.size W2 W) :
    Calls Try.prog F A W fun e w' => ∃ v k, e = .returned (.slice v l.length k) ∧ OwnI w' W2.heap.size (.slice v l.length k) l ∧ Below W2.heap.size W2 w' ∧ ∀ b u m, OwnI W b u m → OwnI w' b u m :=
  h.mono fun e w' ⟨v, he, ho, h2⟩ => by
    obtain ⟨a, c, rfl, _, _⟩ := OwnI.shape ho
    exact ⟨a, c, he, own_base ho hb.size, rel_belowV hb (Nat.le_refl _) h2, fun b u m hu => own_keep hu ⟨h2.size, fun k _ hk => h2.block k hk⟩⟩
theorem rel_valV {W2 W : World} {r : Value} {F : Nat} {A : Array Value} (h : Calls Try.prog F A W fun e w' => e = .returned r ∧ Below W.heap.size W w') (hb : Below W2.heap.size W2 W) :
    Calls Try.prog F A W fun e w' => e = .returned r ∧ Below W2.heap.size W2 w' := h.mono fun _ _ ⟨he, h2⟩ => ⟨he, rel_belowV hb (Nat.le_refl _) h2⟩
/-- The error that a function has. -/
noncomputable def rightNV (f : Ff) : Int := Classical.epsilon (RightIs f)
theorem right_isV {f : Ff} {n : Int} (h : RightIs f n) : n = rightNV f := h.same (Classical.epsilon_spec (p := RightIs f) ⟨n, h⟩)
theorem rel_rightV {W2 W : World} {f : Ff} {F : Nat} {A : Array Value} (h : Calls Try.prog F A W fun e w' => (∃ n : Int, e = .returned (.int .i64 n) ∧ RightIs f n) ∧ Below W.heap.size W w') (hb : Below W2.heap.size W2 W) :
    Calls Try.prog F A W fun e w' => e = .returned (.int .i64 (rightNV f)) ∧ Below W2.heap.size W2 w' := h.mono fun _ _ ⟨⟨n, he, hr⟩, h2⟩ => ⟨by rw [he, right_isV hr], rel_belowV hb (Nat.le_refl _) h2⟩
theorem vars_fewV (f : Ff) : (varsL f).length ≤ 201 := by
  unfold varsL
  split
  · exact listM_few _ _
  · simp
theorem CFn.far {w : World} {B : Nat} {f : Ff} {pa : Option Addr} {pc : Nat} {ba : Option Addr} {bc : Nat} {es : List BE} (h : CFn w B f pa pc ba bc es) {p : Pos} {v : Int} (hp : ValP f.params es p v) : B ≤ ((geoOf pa ba es).at p).block := by
  have key : ∀ {t : TypeId} {size n c : Nat} {a : Option Addr} {xs : List Value}, w.ownsRow B t size (.slice a n c) n xs → 0 < n → B ≤ blockOf a := fun {t size n c a xs} h hn => (row_lt h (addr_mem (own_seat h hn).1)).1
  have hrow : ∀ {b i : Nat} {e : BE} {y : IE}, es[b]? = some e → e.2.1[i]? = some y → B ≤ blockOf e.2.2.1 := fun {b i e y} he hy => key (h.blocks.rows e (List.mem_of_getElem? he)).1.row (by have := (List.getElem?_eq_some_iff.1 hy).1; omega)
  cases p with
  | p i => exact key h.params (by have := (List.getElem?_eq_some_iff.1 hp).1; omega)
  | d b i =>
    obtain ⟨e, y, h1, h2, _⟩ := hp
    show B ≤ (geoOf pa ba es).RB b
    rw [geo_row h1]
    exact hrow h1 h2
  | a b i =>
    obtain ⟨e, y, h1, h2, _⟩ := hp
    show B ≤ (geoOf pa ba es).RB b
    rw [geo_row h1]
    exact hrow h1 h2
  | e b i =>
    obtain ⟨e, y, h1, h2, _⟩ := hp
    show B ≤ (geoOf pa ba es).RB b
    rw [geo_row h1]
    exact hrow h1 h2
  | r b i m =>
    obtain ⟨e, y, h1, h2, h3⟩ := hp
    show B ≤ (geoOf pa ba es).AB b i
    rw [geo_arg h1 h2]
    exact key ((h.blocks.rows e (List.mem_of_getElem? h1)).1.args y (List.mem_of_getElem? h2)).1 (by have := (List.getElem?_eq_some_iff.1 h3).1; omega)
  | t b =>
    obtain ⟨e, h1, _⟩ := hp
    exact key h.blocks.row (by have := (List.getElem?_eq_some_iff.1 h1).1; omega)
/-! How far it is. -/
def DoneP (i : Nat) : Pos → Prop
  | .p j => j < i
  | _ => False
def DoneB (b i m s : Nat) : Pos → Prop
  | .p _ => True
  | .d c j => c < b ∨ (c = b ∧ (j < i ∨ (j = i ∧ 1 ≤ s)))
  | .a c j => c < b ∨ (c = b ∧ (j < i ∨ (j = i ∧ 2 ≤ s)))
  | .e c j => c < b ∨ (c = b ∧ (j < i ∨ (j = i ∧ 3 ≤ s)))
  | .r c j n => c < b ∨ (c = b ∧ (j < i ∨ (j = i ∧ n < m)))
  | .t c => c < b
theorem doneP_more (i : Nat) (q : Pos) : DoneP (i + 1) q ↔ DoneP i q ∨ q = .p i := by
  cases q <;> simp [DoneP]
  omega
theorem doneB_d (b i : Nat) (q : Pos) : DoneB b i 0 1 q ↔ DoneB b i 0 0 q ∨ q = .d b i := by
  cases q <;> simp [DoneB]
  omega
theorem doneB_a (b i : Nat) (q : Pos) : DoneB b i 0 2 q ↔ DoneB b i 0 1 q ∨ q = .a b i := by
  cases q <;> simp [DoneB]
  omega
theorem doneB_e (b i : Nat) (q : Pos) : DoneB b i 0 3 q ↔ DoneB b i 0 2 q ∨ q = .e b i := by
  cases q <;> simp [DoneB]
  omega
theorem doneB_r (b i m : Nat) (q : Pos) : DoneB b i (m + 1) 3 q ↔ DoneB b i m 3 q ∨ q = .r b i m := by
  cases q <;> simp [DoneB]
  omega
theorem doneB_start {ps : List Int} {es : List BE} (q : Pos) (u : Int) (h : ValP ps es q u) : DoneB 0 0 0 0 q ↔ DoneP ps.length q := by
  cases q <;> simp [DoneB, DoneP]
  exact (List.getElem?_eq_some_iff.1 h).1
theorem doneB_ins {ps : List Int} {es : List BE} {b i : Nat} {e : BE} {y : IE} (h1 : es[b]? = some e) (h2 : e.2.1[i]? = some y) (q : Pos) (u : Int) (h : ValP ps es q u) : DoneB b (i + 1) 0 0 q ↔ DoneB b i y.1.args.length 3 q := by
  cases q with
  | r c j n =>
    obtain ⟨e', y', h3, h4, h5⟩ := h
    have hn := (List.getElem?_eq_some_iff.1 h5).1
    have hy : c = b → j = i → n < y.1.args.length := fun hc hj => by
      subst hc hj
      cases h1.symm.trans h3
      cases h2.symm.trans h4
      exact hn
    simp [DoneB]
    constructor
    · rintro (h | ⟨h, h'⟩)
      · exact .inl h
      · by_cases e : j = i
        · exact .inr ⟨h, .inr ⟨e, hy h e⟩⟩
        · exact .inr ⟨h, .inl (by omega)⟩
    · rintro (h | ⟨h, h' | ⟨h', _⟩⟩)
      · exact .inl h
      · exact .inr ⟨h, by omega⟩
      · exact .inr ⟨h, by omega⟩
  | p i => simp [DoneB]
  | d c j => simp [DoneB]; omega
  | a c j => simp [DoneB]; omega
  | e c j => simp [DoneB]; omega
  | t c => simp [DoneB]
theorem doneB_t {ps : List Int} {es : List BE} {b : Nat} {e : BE} (h1 : es[b]? = some e) (q : Pos) (u : Int) (h : ValP ps es q u) : DoneB (b + 1) 0 0 0 q ↔ DoneB b e.2.1.length 0 0 q ∨ q = .t b := by
  have key : ∀ c j, (∃ e y, es[c]? = some e ∧ e.2.1[j]? = some y) → c = b → j < e.2.1.length := fun c j ⟨e', y', h3, h4⟩ hc => by
    subst hc
    cases h1.symm.trans h3
    exact (List.getElem?_eq_some_iff.1 h4).1
  cases q with
  | p i => simp [DoneB]
  | t c => simp [DoneB]; omega
  | d c j =>
    obtain ⟨e', y', h3, h4, _⟩ := h
    have := key c j ⟨e', y', h3, h4⟩
    simp [DoneB]; omega
  | a c j =>
    obtain ⟨e', y', h3, h4, _⟩ := h
    have := key c j ⟨e', y', h3, h4⟩
    simp [DoneB]; omega
  | e c j =>
    obtain ⟨e', y', h3, h4, _⟩ := h
    have := key c j ⟨e', y', h3, h4⟩
    simp [DoneB]; omega
  | r c j n =>
    obtain ⟨e', y', h3, h4, _⟩ := h
    have := key c j ⟨e', y', h3, h4⟩
    simp [DoneB]; omega
theorem doneB_all {ps : List Int} {es : List BE} (q : Pos) (u : Int) (h : ValP ps es q u) : DoneB es.length 0 0 0 q := by
  cases q with
  | p i => trivial
  | t c => obtain ⟨e', h3, _⟩ := h; exact (List.getElem?_eq_some_iff.1 h3).1
  | d c j => obtain ⟨e', y', h3, h4, _⟩ := h; exact .inl (List.getElem?_eq_some_iff.1 h3).1
  | a c j => obtain ⟨e', y', h3, h4, _⟩ := h; exact .inl (List.getElem?_eq_some_iff.1 h3).1
  | e c j => obtain ⟨e', y', h3, h4, _⟩ := h; exact .inl (List.getElem?_eq_some_iff.1 h3).1
  | r c j n => obtain ⟨e', y', h3, h4, _⟩ := h; exact .inl (List.getElem?_eq_some_iff.1 h3).1
theorem tyOf_not (p : Pos) : 43 ≠ tyOf p := by
  cases p <;> simp [tyOf]
/-- A box of functions is no block of these. -/
theorem Hold.box {w : World} {G : Geo} {ps : List Int} {es : List BE} {k : Nat} {S : Pos → Prop} (h : Hold w G ps es k S) {p : Pos} {v : Int} (hp : ValP ps es p v) {g : Nat} {cs : Array Value} (hg : Blk w g 43 cs) (u : Value) : Blk (w.setCell (G.at p) u) g 43 cs := by
  obtain ⟨c2, b2⟩ := h.blk p v hp
  exact hg.far (ir_ne' hg b2 (tyOf_not p)) u
theorem Hold.boxB {w : World} {G : Geo} {ps : List Int} {es : List BE} {k : Nat} {S : Pos → Prop} (h : Hold w G ps es k S) {p : Pos} {v : Int} (hp : ValP ps es p v) (hne : 57 ≠ tyOf p) {g : Nat} {cs : Array Value} (hg : Blk w g 57 cs) (u : Value) : Blk (w.setCell (G.at p) u) g 57 cs := by
  obtain ⟨c2, b2⟩ := h.blk p v hp
  exact hg.far (ir_ne' hg b2 hne) u
end Go.Proofs.Ytcofoeenfohpnaa
