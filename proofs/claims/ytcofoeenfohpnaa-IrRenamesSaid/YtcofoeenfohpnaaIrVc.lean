/-
  A function that is copied, whose variables are named otherwise in place, cell by cell. No condition beyond those that each theorem states.
-/
import Derived.Test.YtcofoeenfohpnaaIrVa
import Derived.Test.YtcofoeenfohpnaaIrVb
namespace Go.Proofs.Ytcofoeenfohpnaa
open Go.RowKit

/-- Where a variable stands: a parameter, an instruction's parts, an argument, an end's. -/
inductive Pos
  | p (i : Nat)
  | d (b i : Nat)
  | a (b i : Nat)
  | e (b i : Nat)
  | r (b i m : Nat)
  | t (b : Nat)
/-- The blocks of memory. -/
structure Geo where
  PB : Nat
  BB : Nat
  RB : Nat → Nat
  AB : Nat → Nat → Nat
def Geo.at (G : Geo) : Pos → Addr
  | .p i => ⟨G.PB, i, none⟩
  | .d b i => ⟨G.RB b, i * 8 + 1, none⟩
  | .a b i => ⟨G.RB b, i * 8 + 2, none⟩
  | .e b i => ⟨G.RB b, i * 8 + 3, none⟩
  | .r b i m => ⟨G.AB b i, m, none⟩
  | .t b => ⟨G.BB, b * 5 + 2, none⟩
def tyOf : Pos → TypeId
  | .p _ => 3
  | .d _ _ => 25
  | .a _ _ => 25
  | .e _ _ => 25
  | .r _ _ _ => 3
  | .t _ => 57
def ValP (ps : List Int) (es : List BE) : Pos → Int → Prop
  | .p i, v => ps[i]? = some v
  | .d b i, v => ∃ e y, es[b]? = some e ∧ e.2.1[i]? = some y ∧ v = y.1.dst
  | .a b i, v => ∃ e y, es[b]? = some e ∧ e.2.1[i]? = some y ∧ v = y.1.a
  | .e b i, v => ∃ e y, es[b]? = some e ∧ e.2.1[i]? = some y ∧ v = y.1.b
  | .r b i m, v => ∃ e y, es[b]? = some e ∧ e.2.1[i]? = some y ∧ y.1.args[m]? = some v
  | .t b, v => ∃ e, es[b]? = some e ∧ v = e.1.a
/-- Cells that stay. -/
inductive ConP (G : Geo) (es : List BE) : Addr → Value → Prop
  | blk {b j : Nat} {e : BE} {v : Value} : es[b]? = some e → j < 5 → j ≠ 2 → (beC e)[j]? = some v → ConP G es ⟨G.BB, b * 5 + j, none⟩ v
  | ins {b i j : Nat} {e : BE} {y : IE} {v : Value} : es[b]? = some e → e.2.1[i]? = some y → j < 8 → j ≠ 1 → j ≠ 2 → j ≠ 3 → (ieC y)[j]? = some v → ConP G es ⟨G.RB b, i * 8 + j, none⟩ v
/-- What is named otherwise so far. -/
structure Hold (w : World) (G : Geo) (ps : List Int) (es : List BE) (k : Nat) (S : Pos → Prop) : Prop where
  done : ∀ p v, ValP ps es p v → S p → w.cell? (G.at p) = some (.int .i64 (renV k v))
  todo : ∀ p v, ValP ps es p v → ¬ S p → w.cell? (G.at p) = some (.int .i64 v)
  blk : ∀ p v, ValP ps es p v → ∃ cs, Blk w (G.at p).block (tyOf p) cs
  con : ∀ q v, ConP G es q v → w.cell? q = some v
structure Geo.Apart (G : Geo) (ps : List Int) (es : List BE) : Prop where
  rows : ∀ (b c : Nat) (e e' : BE), es[b]? = some e → es[c]? = some e' → e.2.1 ≠ [] → e'.2.1 ≠ [] → G.RB b = G.RB c → b = c
  args : ∀ (b i c j : Nat) (e e' : BE) (y y' : IE), es[b]? = some e → e.2.1[i]? = some y → es[c]? = some e' → e'.2.1[j]? = some y' → y.1.args ≠ [] → y'.1.args ≠ [] → G.AB b i = G.AB c j → b = c ∧ i = j
  par : ps ≠ [] → ∀ (b i : Nat) (e : BE) (y : IE), es[b]? = some e → e.2.1[i]? = some y → y.1.args ≠ [] → G.PB ≠ G.AB b i
theorem not_nil {α : Type} {l : List α} {i : Nat} {x : α} (h : l[i]? = some x) : l ≠ [] := by
  rintro rfl
  simp at h
theorem blk_type {w : World} {g : Nat} {t t' : TypeId} {cs cs' : Array Value} (h : Blk w g t cs) (h' : Blk w g t' cs') : t = t' := by
  unfold Blk at h h'
  rw [h] at h'
  injection h' with h'
  injection h' with _ h'
theorem valP_one {ps : List Int} {es : List BE} {p : Pos} {u v : Int} (h : ValP ps es p u) (h' : ValP ps es p v) : u = v := by
  cases p with
  | p i => exact Option.some.inj (h.symm.trans h')
  | d b i =>
    obtain ⟨e, y, h1, h2, rfl⟩ := h
    obtain ⟨e', y', h3, h4, rfl⟩ := h'
    cases h1.symm.trans h3
    cases h2.symm.trans h4
    rfl
  | a b i =>
    obtain ⟨e, y, h1, h2, rfl⟩ := h
    obtain ⟨e', y', h3, h4, rfl⟩ := h'
    cases h1.symm.trans h3
    cases h2.symm.trans h4
    rfl
  | e b i =>
    obtain ⟨e, y, h1, h2, rfl⟩ := h
    obtain ⟨e', y', h3, h4, rfl⟩ := h'
    cases h1.symm.trans h3
    cases h2.symm.trans h4
    rfl
  | r b i m =>
    obtain ⟨e, y, h1, h2, h5⟩ := h
    obtain ⟨e', y', h3, h4, h6⟩ := h'
    cases h1.symm.trans h3
    cases h2.symm.trans h4
    exact Option.some.inj (h5.symm.trans h6)
  | t b =>
    obtain ⟨e, h1, rfl⟩ := h
    obtain ⟨e', h3, rfl⟩ := h'
    cases h1.symm.trans h3
    rfl
/-- The row in which an instruction's part stands. -/
theorem valP_row {ps : List Int} {es : List BE} {p : Pos} {v : Int} (h : ValP ps es p v) (ht : tyOf p = 25) : ∃ (b i j : Nat) (e : BE), es[b]? = some e ∧ e.2.1 ≠ [] ∧ 1 ≤ j ∧ j ≤ 3 ∧ (∀ G : Geo, G.at p = ⟨G.RB b, i * 8 + j, none⟩) ∧ (j = 1 → p = .d b i) ∧ (j = 2 → p = .a b i) ∧ (j = 3 → p = .e b i) := by
  cases p with
  | p i => simp [tyOf] at ht
  | r b i m => simp [tyOf] at ht
  | t b => simp [tyOf] at ht
  | d b i =>
    obtain ⟨e, y, h1, h2, _⟩ := h
    exact ⟨b, i, 1, e, h1, not_nil h2, by omega, by omega, fun _ => rfl, fun _ => rfl, fun h => by omega, fun h => by omega⟩
  | a b i =>
    obtain ⟨e, y, h1, h2, _⟩ := h
    exact ⟨b, i, 2, e, h1, not_nil h2, by omega, by omega, fun _ => rfl, fun h => by omega, fun _ => rfl, fun h => by omega⟩
  | e b i =>
    obtain ⟨e, y, h1, h2, _⟩ := h
    exact ⟨b, i, 3, e, h1, not_nil h2, by omega, by omega, fun _ => rfl, fun h => by omega, fun h => by omega, fun _ => rfl⟩
section
variable {w : World} {G : Geo} {ps : List Int} {es : List BE} {k : Nat} {S : Pos → Prop}
theorem Hold.inj (h : Hold w G ps es k S) (A : G.Apart ps es) {p q : Pos} {u v : Int} (hp : ValP ps es p u) (hq : ValP ps es q v) (he : G.at p = G.at q) : p = q := by
  obtain ⟨c1, b1⟩ := h.blk p u hp
  obtain ⟨c2, b2⟩ := h.blk q v hq
  rw [he] at b1
  have ht : tyOf p = tyOf q := blk_type b1 b2
  clear b1 b2
  by_cases hti : tyOf p = 25
  · obtain ⟨b, i, j, e, h1, h2, h3, h4, h5, h6, h7, h8⟩ := valP_row hp hti
    obtain ⟨b', i', j', e', h1', h2', h3', h4', h5', h6', h7', h8'⟩ := valP_row hq (by rw [← ht]; exact hti)
    rw [h5, h5'] at he
    injection he with he1 he2
    have hb := A.rows b b' e e' h1 h1' h2 h2' he1
    subst hb
    have hi : i = i' := by omega
    have hj : j = j' := by omega
    subst hi hj
    have : j = 1 ∨ j = 2 ∨ j = 3 := by omega
    rcases this with hj | hj | hj
    · rw [h6 hj, h6' hj]
    · rw [h7 hj, h7' hj]
    · rw [h8 hj, h8' hj]
  · cases p with
    | d b i => exact absurd rfl hti
    | a b i => exact absurd rfl hti
    | e b i => exact absurd rfl hti
    | p i =>
      cases q with
      | p j =>
        injection he with _ he2
        rw [he2]
      | r b j m =>
        injection he with he1 _
        obtain ⟨e, y, h1, h2, h3⟩ := hq
        exact absurd he1 (A.par (not_nil hp) b j e y h1 h2 (not_nil h3))
      | d b i => simp [tyOf] at ht
      | a b i => simp [tyOf] at ht
      | e b i => simp [tyOf] at ht
      | t b => simp [tyOf] at ht
    | r b i m =>
      obtain ⟨e, y, h1, h2, h3⟩ := hp
      cases q with
      | p j =>
        injection he with he1 _
        exact absurd he1.symm (A.par (not_nil hq) b i e y h1 h2 (not_nil h3))
      | r b' i' m' =>
        obtain ⟨e', y', h1', h2', h3'⟩ := hq
        injection he with he1 he2
        obtain ⟨hb, hi⟩ := A.args b i b' i' e e' y y' h1 h2 h1' h2' (not_nil h3) (not_nil h3') he1
        rw [hb, hi, he2]
      | d b i => simp [tyOf] at ht
      | a b i => simp [tyOf] at ht
      | e b i => simp [tyOf] at ht
      | t b => simp [tyOf] at ht
    | t b =>
      cases q with
      | t b' =>
        injection he with _ he2
        have : b = b' := by omega
        rw [this]
      | p i => simp [tyOf] at ht
      | d b i => simp [tyOf] at ht
      | a b i => simp [tyOf] at ht
      | e b i => simp [tyOf] at ht
      | r b i m => simp [tyOf] at ht
theorem Hold.con_ne (h : Hold w G ps es k S) {p : Pos} {u : Int} (hp : ValP ps es p u) {q : Addr} {v : Value} (hq : ConP G es q v) : G.at p ≠ q := by
  obtain ⟨c1, b1⟩ := h.blk p u hp
  intro he
  cases hq with
  | @blk b j e v h1 h2 h3 h4 =>
    obtain ⟨c2, b2⟩ := h.blk (.t b) e.1.a ⟨e, h1, rfl⟩
    rw [he] at b1
    have ht : tyOf p = 57 := blk_type b1 b2
    cases p with
    | t b' =>
      injection he with _ he2
      omega
    | p i => simp [tyOf] at ht
    | d b i => simp [tyOf] at ht
    | a b i => simp [tyOf] at ht
    | e b i => simp [tyOf] at ht
    | r b i m => simp [tyOf] at ht
  | @ins b i j e y v h1 h2 h3 h4 h5 h6 h7 =>
    obtain ⟨c2, b2⟩ := h.blk (.d b i) y.1.dst ⟨e, y, h1, h2, rfl⟩
    rw [he] at b1
    have ht : tyOf p = 25 := blk_type b1 b2
    obtain ⟨b', i', j', e', _, _, h9, h10, h11, _⟩ := valP_row hp ht
    rw [h11] at he
    injection he with _ he2
    omega
theorem Geo.at_is (G : Geo) (p : Pos) : G.at p = ⟨(G.at p).block, (G.at p).off, none⟩ := by
  cases p <;> rfl
theorem Hold.cell (h : Hold w G ps es k S) {p : Pos} {v : Int} (hp : ValP ps es p v) : ∃ u, w.cell? (G.at p) = some u := by
  by_cases hs : S p
  · exact ⟨_, h.done p v hp hs⟩
  · exact ⟨_, h.todo p v hp hs⟩
/-- One more is named otherwise. -/
theorem Hold.put (h : Hold w G ps es k S) (A : G.Apart ps es) {p : Pos} {v : Int} (hp : ValP ps es p v) {S' : Pos → Prop} (hS : ∀ q u, ValP ps es q u → (S' q ↔ S q ∨ q = p)) : Hold (w.setCell (G.at p) (.int .i64 (renV k v))) G ps es k S' := by
  refine ⟨fun q u hq hs => ?_, fun q u hq hs => ?_, fun q u hq => ?_, fun q u hq => ?_⟩
  · by_cases e : q = p
    · subst e
      obtain ⟨x, hx⟩ := h.cell hp
      rw [valP_one hq hp]
      exact World.cell?_setCell_same _ _ _ hx
    · rw [World.cell?_setCell_other _ _ _ _ (fun he => e (h.inj A hp hq he).symm)]
      rcases (hS q u hq).1 hs with hs | hs
      · exact h.done q u hq hs
      · exact absurd hs e
  · have e : q ≠ p := fun e => hs ((hS q u hq).2 (.inr e))
    rw [World.cell?_setCell_other _ _ _ _ (fun he => e (h.inj A hp hq he).symm)]
    exact h.todo q u hq (fun h2 => hs ((hS q u hq).2 (.inl h2)))
  · obtain ⟨cs, hb⟩ := h.blk q u hq
    by_cases e : (G.at q).block = (G.at p).block
    · rw [e] at hb ⊢
      rw [G.at_is p]
      exact ⟨_, hb.put _ _⟩
    · exact ⟨_, hb.far e _⟩
  · rw [World.cell?_setCell_other _ _ _ _ (h.con_ne hp hq)]
    exact h.con q u hq
theorem Hold.same (h : Hold w G ps es k S) {S' : Pos → Prop} (hS : ∀ q u, ValP ps es q u → (S' q ↔ S q)) : Hold w G ps es k S' :=
  ⟨fun p v hp hs => h.done p v hp ((hS p v hp).1 hs), fun p v hp hs => h.todo p v hp (fun h2 => hs ((hS p v hp).2 h2)), h.blk, h.con⟩
theorem Hold.drew (h : Hold w G ps es k S) : Hold w.drew G ps es k S := ⟨h.done, h.todo, h.blk, h.con⟩
theorem Hold.drewN (h : Hold w G ps es k S) (n : Nat) : Hold (w.drewN n) G ps es k S := ⟨h.done, h.todo, h.blk, h.con⟩
theorem Hold.lt (h : Hold w G ps es k S) {p : Pos} {v : Int} (hp : ValP ps es p v) : (G.at p).block < w.heap.size := by
  obtain ⟨cs, hb⟩ := h.blk p v hp
  exact hb.lt
theorem Hold.free (h : Hold w G ps es k S) {p : Pos} {v : Int} (hp : ValP ps es p v) : w.frozen? (G.at p) = false := by
  obtain ⟨cs, hb⟩ := h.blk p v hp
  rw [G.at_is p]
  exact hb.free _
theorem con_lt (h : Hold w G ps es k S) {q : Addr} {v : Value} (hq : ConP G es q v) : q.block < w.heap.size := World.block_lt_of_cell? w _ (h.con q v hq)
theorem Hold.below (h : Hold w G ps es k S) {w' : World} (hb : Below w.heap.size w w') : Hold w' G ps es k S :=
  ⟨fun p v hp hs => (hb.cell (h.lt hp)).trans (h.done p v hp hs), fun p v hp hs => (hb.cell (h.lt hp)).trans (h.todo p v hp hs), fun p v hp => by
    obtain ⟨cs, hk⟩ := h.blk p v hp
    exact ⟨cs, hk.below hb hk.lt⟩, fun q v hq => (hb.cell (con_lt h hq)).trans (h.con q v hq)⟩
end
structure Geo.Seat (G : Geo) (ps : List Int) (es : List BE) (pa ba : Option Addr) : Prop where
  par : ps ≠ [] → pa = some ⟨G.PB, 0, none⟩
  bls : es ≠ [] → ba = some ⟨G.BB, 0, none⟩
  rows : ∀ (b : Nat) (e : BE), es[b]? = some e → e.2.1 ≠ [] → e.2.2.1 = some ⟨G.RB b, 0, none⟩
  args : ∀ (b i : Nat) (e : BE) (y : IE), es[b]? = some e → e.2.1[i]? = some y → y.1.args ≠ [] → y.2.1 = some ⟨G.AB b i, 0, none⟩
  rn : ∀ (b : Nat) (e : BE), es[b]? = some e → e.2.2.1 = none → e.2.2.2 = 0
  an : ∀ (b i : Nat) (e : BE) (y : IE), es[b]? = some e → e.2.1[i]? = some y → y.2.1 = none → y.2.2 = 0
/-- All are named otherwise: the function lies in memory so. -/
theorem Hold.fn {w : World} {G : Geo} {ps : List Int} {es : List BE} {k : Nat} {S : Pos → Prop} (h : Hold w G ps es k S) (hall : ∀ p v, ValP ps es p v → S p) {pa ba : Option Addr} {pc bc : Nat} (T : G.Seat ps es pa ba) (hpn : pa = none → pc = 0) (hbn : ba = none → bc = 0) :
    FnW w (renF k ⟨ps, es.map beB⟩) pa pc ba bc := by
  have hd : ∀ p v, ValP ps es p v → w.cell? (G.at p) = some (.int .i64 (renV k v)) := fun p v hp => h.done p v hp (hall p v hp)
  refine ⟨fun j x hx => ?_, fun j x hx => ?_, hpn, hbn⟩
  · have hx : (ps.map (renV k))[j]? = some x := hx
    rw [List.getElem?_map, Option.map_eq_some_iff] at hx
    obtain ⟨v, hv, rfl⟩ := hx
    have hp : ValP ps es (.p j) v := hv
    exact ⟨G.PB, 0, T.par (not_nil hv), h.lt hp, by rw [Nat.zero_add]; exact hd _ _ hp⟩
  · have hx : ((es.map beB).map (renB k))[j]? = some x := hx
    rw [List.getElem?_map, Option.map_eq_some_iff] at hx
    obtain ⟨y, hy, rfl⟩ := hx
    rw [List.getElem?_map, Option.map_eq_some_iff] at hy
    obtain ⟨e, he, rfl⟩ := hy
    have ht : ValP ps es (.t j) e.1.a := ⟨e, he, rfl⟩
    have hc : ∀ i v, i < 5 → i ≠ 2 → (beC e)[i]? = some v → w.cell? ⟨G.BB, j * 5 + i, none⟩ = some v := fun i v h1 h2 h3 => h.con _ _ (.blk he h1 h2 h3)
    refine ⟨G.BB, 0, e.2.2.1, e.2.2.2, T.bls (not_nil he), h.lt ht, ?_⟩
    rw [Nat.zero_add]
    refine ⟨?_, hc 1 _ (by omega) (by omega) rfl, hd _ _ ht, hc 3 _ (by omega) (by omega) rfl, hc 4 _ (by omega) (by omega) rfl, T.rn j e he, fun i z hz => ?_⟩
    · have : (renB k (beB e)).ins.length = e.2.1.length := by simp [renB, beB]
      rw [this]
      exact hc 0 _ (by omega) (by omega) rfl
    · have hz : ((e.2.1.map Prod.fst).map (renI k))[i]? = some z := hz
      rw [List.getElem?_map, Option.map_eq_some_iff] at hz
      obtain ⟨y1, hy1, rfl⟩ := hz
      rw [List.getElem?_map, Option.map_eq_some_iff] at hy1
      obtain ⟨y, hy, rfl⟩ := hy1
      have hcy : ∀ j2 v, j2 < 8 → j2 ≠ 1 → j2 ≠ 2 → j2 ≠ 3 → (ieC y)[j2]? = some v → w.cell? ⟨G.RB j, i * 8 + j2, none⟩ = some v := fun j2 v h1 h2 h3 h4 h5 => h.con _ _ (.ins he hy h1 h2 h3 h4 h5)
      have hvd : ValP ps es (.d j i) y.1.dst := ⟨e, y, he, hy, rfl⟩
      refine ⟨G.RB j, 0, y.2.1, y.2.2, T.rows j e he (not_nil hy), h.lt hvd, ?_⟩
      rw [Nat.zero_add]
      refine ⟨hcy 0 _ (by omega) (by omega) (by omega) (by omega) rfl, hd _ _ hvd, hd (.a j i) y.1.a ⟨e, y, he, hy, rfl⟩, hd (.e j i) y.1.b ⟨e, y, he, hy, rfl⟩, hcy 4 _ (by omega) (by omega) (by omega) (by omega) rfl, hcy 5 _ (by omega) (by omega) (by omega) (by omega) rfl, ?_, hcy 7 _ (by omega) (by omega) (by omega) (by omega) rfl, T.an j i e y he hy, fun m x hx => ?_⟩
      · have : (renI k y.1).args.length = y.1.args.length := by simp [renI]
        rw [this]
        exact hcy 6 _ (by omega) (by omega) (by omega) (by omega) rfl
      · have hx : (y.1.args.map (renV k))[m]? = some x := hx
        rw [List.getElem?_map, Option.map_eq_some_iff] at hx
        obtain ⟨v, hv, rfl⟩ := hx
        have hr : ValP ps es (.r j i m) v := ⟨e, y, he, hy, hv⟩
        exact ⟨G.AB j i, 0, T.args j i e y he hy (not_nil hv), h.lt hr, by rw [Nat.zero_add]; exact hd _ _ hr⟩
/-! What is copied lies so. -/
def blockOf : Option Addr → Nat
  | some a => a.block
  | none => 0
def geoOf (pa ba : Option Addr) (es : List BE) : Geo :=
  ⟨blockOf pa, blockOf ba, fun b => match es[b]? with
    | some e => blockOf e.2.2.1
    | none => 0, fun b i => match es[b]? with
    | some e => match e.2.1[i]? with
      | some y => blockOf y.2.1
      | none => 0
    | none => 0⟩
theorem geo_row {pa ba : Option Addr} {es : List BE} {b : Nat} {e : BE} (h : es[b]? = some e) : (geoOf pa ba es).RB b = blockOf e.2.2.1 := by
  show (match es[b]? with
    | some e => blockOf e.2.2.1
    | none => 0) = _
  rw [h]
theorem geo_arg {pa ba : Option Addr} {es : List BE} {b i : Nat} {e : BE} {y : IE} (h : es[b]? = some e) (h2 : e.2.1[i]? = some y) : (geoOf pa ba es).AB b i = blockOf y.2.1 := by
  show (match es[b]? with
    | some e => match e.2.1[i]? with
      | some y => blockOf y.2.1
      | none => 0
    | none => 0) = _
  rw [h]
  show (match e.2.1[i]? with
      | some y => blockOf y.2.1
      | none => 0) = _
  rw [h2]
theorem own_seat {w : World} {B : Nat} {t : TypeId} {size n c : Nat} {a : Option Addr} {xs : List Value} (h : w.ownsRow B t size (.slice a n c) n xs) (hn : 0 < n) : a = some ⟨blockOf a, 0, none⟩ ∧ (∃ cs, Blk w (blockOf a) t cs) ∧ ∀ j, j < n * size → w.cell? ⟨blockOf a, j, none⟩ = xs[j]? := by
  have h0 := h
  rcases h.2 with ⟨_, h1⟩ | ⟨g, cap, cur, hv, _, hg, _⟩
  · omega
  · injection hv with h1 h2 h3
    subst h1
    exact ⟨rfl, ⟨cur, hg⟩, fun j hj => World.ownsRow.cellAt h0 j hj⟩
theorem addr_mem {a : Option Addr} (h : a = some ⟨blockOf a, 0, none⟩) : blockOf a ∈ addrB a := by
  rw [h]
  simp [addrB, blockOf]
theorem flat_same {α : Type} {g : α → List Nat} : ∀ {l : List α}, (l.flatMap g).Nodup → ∀ {i j : Nat} {x y : α} {n : Nat}, l[i]? = some x → l[j]? = some y → n ∈ g x → n ∈ g y → i = j := by
  intro l
  induction l with
  | nil => intro _ i j x y n h; simp at h
  | cons z l ih =>
    intro h i j x y n hx hy h1 h2
    rw [List.flatMap_cons, List.nodup_append] at h
    obtain ⟨h3, h4, h5⟩ := h
    cases i with
    | zero =>
      cases j with
      | zero => rfl
      | succ j =>
        simp at hx hy
        subst hx
        exact absurd rfl (h5 n h1 n (List.mem_flatMap.2 ⟨y, List.mem_of_getElem? hy, h2⟩))
    | succ i =>
      cases j with
      | zero =>
        simp at hx hy
        subst hy
        exact absurd rfl (h5 n h2 n (List.mem_flatMap.2 ⟨x, List.mem_of_getElem? hx, h1⟩))
      | succ j =>
        simp at hx hy
        rw [ih h4 hx hy h1 h2]
theorem CFn.holds {w : World} {B : Nat} {f : Ff} {pa : Option Addr} {pc : Nat} {ba : Option Addr} {bc : Nat} {es : List BE} (h : CFn w B f pa pc ba bc es) (k : Nat) :
    Hold w (geoOf pa ba es) f.params es k (fun _ => False) ∧ (geoOf pa ba es).Apart f.params es ∧ (geoOf pa ba es).Seat f.params es pa ba := by
  have hpar : ∀ {i : Nat} {v : Int}, f.params[i]? = some v → pa = some ⟨blockOf pa, 0, none⟩ ∧ (∃ cs, Blk w (blockOf pa) 3 cs) ∧ w.cell? ⟨blockOf pa, i, none⟩ = some (.int .i64 v) := fun {i v} hv => by
    have hi := (List.getElem?_eq_some_iff.1 hv).1
    obtain ⟨h1, h2, h3⟩ := own_seat h.params (by omega)
    exact ⟨h1, h2, by rw [h3 i (by omega), List.getElem?_map, hv]; rfl⟩
  have hbl : ∀ {b : Nat} {e : BE}, es[b]? = some e → ba = some ⟨blockOf ba, 0, none⟩ ∧ (∃ cs, Blk w (blockOf ba) 57 cs) ∧ ∀ j v, j < 5 → (beC e)[j]? = some v → w.cell? ⟨blockOf ba, b * 5 + j, none⟩ = some v := fun {b e} he => by
    have hi := (List.getElem?_eq_some_iff.1 he).1
    obtain ⟨h1, h2, h3⟩ := own_seat h.blocks.row (by omega)
    exact ⟨h1, h2, fun j v hj hv => by rw [h3 (b * 5 + j) (by omega), flat_cell beC 5 be_len es b e j he hj, hv]⟩
  have hrow : ∀ {b i : Nat} {e : BE} {y : IE}, es[b]? = some e → e.2.1[i]? = some y → e.2.2.1 = some ⟨blockOf e.2.2.1, 0, none⟩ ∧ (∃ cs, Blk w (blockOf e.2.2.1) 25 cs) ∧ ∀ j v, j < 8 → (ieC y)[j]? = some v → w.cell? ⟨blockOf e.2.2.1, i * 8 + j, none⟩ = some v := fun {b i e y} he hy => by
    have hi := (List.getElem?_eq_some_iff.1 hy).1
    obtain ⟨h1, h2, h3⟩ := own_seat (h.blocks.rows e (List.mem_of_getElem? he)).1.row (by omega)
    exact ⟨h1, h2, fun j v hj hv => by rw [h3 (i * 8 + j) (by omega), flat_cell ieC 8 ie_len e.2.1 i y j hy hj, hv]⟩
  have harg : ∀ {b i m : Nat} {e : BE} {y : IE} {v : Int}, es[b]? = some e → e.2.1[i]? = some y → y.1.args[m]? = some v → y.2.1 = some ⟨blockOf y.2.1, 0, none⟩ ∧ (∃ cs, Blk w (blockOf y.2.1) 3 cs) ∧ w.cell? ⟨blockOf y.2.1, m, none⟩ = some (.int .i64 v) := fun {b i m e y v} he hy hv => by
    have hi := (List.getElem?_eq_some_iff.1 hv).1
    obtain ⟨h1, h2, h3⟩ := own_seat ((h.blocks.rows e (List.mem_of_getElem? he)).1.args y (List.mem_of_getElem? hy)).1 (by omega)
    exact ⟨h1, h2, by rw [h3 m (by omega), List.getElem?_map, hv]; rfl⟩
  have hsome : ∀ {α : Type} {l : List α}, l ≠ [] → ∃ x, l[0]? = some x := fun {α l} hl => by
    cases l with
    | nil => exact absurd rfl hl
    | cons x l => exact ⟨x, rfl⟩
  refine ⟨⟨fun p v _ hs => absurd hs id, fun p v hp _ => ?_, fun p v hp => ?_, fun q v hq => ?_⟩, ⟨?_, ?_, ?_⟩, ⟨?_, ?_, ?_, ?_, ?_, ?_⟩⟩
  · cases p with
    | p i => exact (hpar hp).2.2
    | d b i =>
      obtain ⟨e, y, h1, h2, rfl⟩ := hp
      show w.cell? ⟨(geoOf pa ba es).RB b, i * 8 + 1, none⟩ = _
      rw [geo_row h1]
      exact (hrow h1 h2).2.2 1 _ (by omega) rfl
    | a b i =>
      obtain ⟨e, y, h1, h2, rfl⟩ := hp
      show w.cell? ⟨(geoOf pa ba es).RB b, i * 8 + 2, none⟩ = _
      rw [geo_row h1]
      exact (hrow h1 h2).2.2 2 _ (by omega) rfl
    | e b i =>
      obtain ⟨e, y, h1, h2, rfl⟩ := hp
      show w.cell? ⟨(geoOf pa ba es).RB b, i * 8 + 3, none⟩ = _
      rw [geo_row h1]
      exact (hrow h1 h2).2.2 3 _ (by omega) rfl
    | r b i m =>
      obtain ⟨e, y, h1, h2, h3⟩ := hp
      show w.cell? ⟨(geoOf pa ba es).AB b i, m, none⟩ = _
      rw [geo_arg h1 h2]
      exact (harg h1 h2 h3).2.2
    | t b =>
      obtain ⟨e, h1, rfl⟩ := hp
      exact (hbl h1).2.2 2 _ (by omega) rfl
  · cases p with
    | p i => exact (hpar hp).2.1
    | d b i =>
      obtain ⟨e, y, h1, h2, rfl⟩ := hp
      show ∃ cs, Blk w ((geoOf pa ba es).RB b) _ cs
      rw [geo_row h1]
      exact (hrow h1 h2).2.1
    | a b i =>
      obtain ⟨e, y, h1, h2, rfl⟩ := hp
      show ∃ cs, Blk w ((geoOf pa ba es).RB b) _ cs
      rw [geo_row h1]
      exact (hrow h1 h2).2.1
    | e b i =>
      obtain ⟨e, y, h1, h2, rfl⟩ := hp
      show ∃ cs, Blk w ((geoOf pa ba es).RB b) _ cs
      rw [geo_row h1]
      exact (hrow h1 h2).2.1
    | r b i m =>
      obtain ⟨e, y, h1, h2, h3⟩ := hp
      show ∃ cs, Blk w ((geoOf pa ba es).AB b i) _ cs
      rw [geo_arg h1 h2]
      exact (harg h1 h2 h3).2.1
    | t b =>
      obtain ⟨e, h1, rfl⟩ := hp
      exact (hbl h1).2.1
  · cases hq with
    | blk h1 h2 h3 h4 => exact (hbl h1).2.2 _ _ h2 h4
    | ins h1 h2 h3 h4 h5 h6 h7 =>
      rw [geo_row h1]
      exact (hrow h1 h2).2.2 _ _ h3 h7
  · intro b c e e' h1 h2 h3 h4 h5
    obtain ⟨y, hy⟩ := hsome h3
    obtain ⟨y', hy'⟩ := hsome h4
    rw [geo_row h1, geo_row h2] at h5
    have h6 := addr_mem (hrow h1 hy).1
    have h7 := addr_mem (hrow h2 hy').1
    rw [h5] at h6
    exact flat_same h.blocks.apartR h1 h2 h6 h7
  · intro b i c j e e' y y' h1 h2 h3 h4 h5 h6 h7
    obtain ⟨v, hv⟩ := hsome h5
    obtain ⟨v', hv'⟩ := hsome h6
    rw [geo_arg h1 h2, geo_arg h3 h4] at h7
    have h8 := addr_mem (harg h1 h2 hv).1
    have h9 := addr_mem (harg h3 h4 hv').1
    rw [h7] at h8
    have hb : b = c := flat_same h.blocks.apartA h1 h3 (List.mem_flatMap.2 ⟨y, List.mem_of_getElem? h2, h8⟩) (List.mem_flatMap.2 ⟨y', List.mem_of_getElem? h4, h9⟩)
    subst hb
    cases h1.symm.trans h3
    exact ⟨rfl, flat_same (h.blocks.rows e (List.mem_of_getElem? h1)).1.apart h2 h4 h8 h9⟩
  · intro h1 b i e y h2 h3 h4 h5
    obtain ⟨v, hv⟩ := hsome h1
    obtain ⟨u, hu⟩ := hsome h4
    rw [geo_arg h2 h3] at h5
    have h6 := addr_mem (hpar hv).1
    have h7 := addr_mem (harg h2 h3 hu).1
    have h5 : blockOf pa = blockOf y.2.1 := h5
    rw [← h5] at h7
    exact h.apart _ h6 (List.mem_flatMap.2 ⟨e, List.mem_of_getElem? h2, List.mem_flatMap.2 ⟨y, List.mem_of_getElem? h3, h7⟩⟩)
  · intro h1
    obtain ⟨v, hv⟩ := hsome h1
    exact (hpar hv).1
  · intro h1
    obtain ⟨e, he⟩ := hsome h1
    exact (hbl he).1
  · intro b e h1 h2
    obtain ⟨y, hy⟩ := hsome h2
    rw [geo_row h1]
    exact (hrow h1 hy).1
  · intro b i e y h1 h2 h3
    obtain ⟨v, hv⟩ := hsome h3
    rw [geo_arg h1 h2]
    exact (harg h1 h2 hv).1
  · exact fun b e h1 => (h.blocks.rows e (List.mem_of_getElem? h1)).2
  · exact fun b i e y h1 h2 => ((h.blocks.rows e (List.mem_of_getElem? h1)).1.args y (List.mem_of_getElem? h2)).2
end Go.Proofs.Ytcofoeenfohpnaa
