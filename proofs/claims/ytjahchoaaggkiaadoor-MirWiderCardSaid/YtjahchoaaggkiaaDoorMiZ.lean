/-
  A copied target with an instruction more in one block: how its rows lie. No condition beyond those that each theorem states.
-/
import Derived.Test.YtjahchoaaggkiaaDoorMiX
import Derived.Test.YtjahchoaaggkiaaDoorMiY
import Derived.Test.YtjahchoaaggkiaaDoorIrPick
namespace Go.Proofs.YtjahchoaaggkiaaDoor
open Go.RowKit

/-- A store into one cell of a row that is owned. -/
theorem row_set {w : World} {B g cap n m sz : Nat} {e : TypeId} {vals : List Value} (h : w.ownsRow B e sz (.slice (some ⟨g, 0, none⟩) n cap) m vals) (i : Nat) (u : Value) : (w.setCell ⟨g, i, none⟩ u).ownsRow B e sz (.slice (some ⟨g, 0, none⟩) n cap) m (vals.set i u) := by
  obtain ⟨h1, h2⟩ := h
  rcases h2 with ⟨h2, _⟩ | ⟨g2, cap2, cur2, e2, hB2, hh2, hle2, hmax2, hsz2, htk2⟩
  · cases h2
  injection e2 with e21 e22 e23
  injection e21 with e21
  injection e21 with e21
  subst e21
  subst e23
  subst e22
  refine ⟨by simpa using h1, .inr ⟨g, cap, cur2.setIfInBounds i u, rfl, hB2, Blk.put hh2 i _, hle2, hmax2, by simpa using hsz2, ?_⟩⟩
  rw [Array.toList_setIfInBounds, ← htk2, List.take_set]
theorem flat_set {α : Type} (f : α → List Value) (n : Nat) (hf : ∀ x, (f x).length = n) (hn : 0 < n) (v : Value) : ∀ (l : List α) (k : Nat) (x y : α), l[k]? = some x → f y = (f x).set 0 v → (l.flatMap f).set (k * n) v = (l.set k y).flatMap f
  | [], k, x, y, h, _ => by simp at h
  | a :: l, 0, x, y, h, hy => by
    simp at h
    subst h
    rw [Nat.zero_mul, List.set_cons_zero, List.flatMap_cons, List.flatMap_cons, hy, List.set_append_left _ _ (by rw [hf]; exact hn)]
  | a :: l, k + 1, x, y, h, hy => by
    have h2 : l[k]? = some x := by simpa using h
    rw [List.set_cons_succ, List.flatMap_cons, List.flatMap_cons, List.set_append_right _ _ (by rw [hf, Nat.add_mul]; omega), hf, show (k + 1) * n - n = k * n by rw [Nat.add_mul]; omega, flat_set f n hf hn v l k x y h2 hy]
/-- What another row's growing leaves. -/
theorem own_grown {w w' : World} {B sz n : Nat} {e : TypeId} {v : Value} {xs : List Value} {row : Option Nat} (h : w.ownsRow B e sz v n xs) (hg : w.grownBy w' row) (hne : ∀ b, v.ownBlock = some b → some b ≠ row) : w'.ownsRow B e sz v n xs := by
  obtain ⟨h1, h2⟩ := h
  refine ⟨h1, ?_⟩
  rcases h2 with h2 | ⟨g, cap, cur, rfl, hB, hh, r⟩
  · exact .inl h2
  · exact .inr ⟨g, cap, cur, rfl, hB, (hg.block g (Array.getElem?_eq_some_iff.1 hh).1 (hne g rfl)).trans hh, r⟩
theorem nodup_flat {α : Type} {f : α → List Nat} : ∀ {l : List α} {j k : Nat} {a b : α}, (l.flatMap f).Nodup → l[j]? = some a → l[k]? = some b → j ≠ k → ∀ x ∈ f a, x ∉ f b
  | [], j, _, _, _, _, h, _, _ => by simp at h
  | y :: l, 0, 0, _, _, _, _, _, hne => absurd rfl hne
  | y :: l, 0, k + 1, a, b, hd, hj, hk, _ => by
    simp at hj
    subst hj
    rw [List.flatMap_cons, List.nodup_append] at hd
    have hb : b ∈ l := List.mem_of_getElem? (by simpa using hk)
    exact fun x hx hx2 => hd.2.2 x hx x (List.mem_flatMap.2 ⟨b, hb, hx2⟩) rfl
  | y :: l, j + 1, 0, a, b, hd, hj, hk, _ => by
    simp at hk
    subst hk
    rw [List.flatMap_cons, List.nodup_append] at hd
    have ha : a ∈ l := List.mem_of_getElem? (by simpa using hj)
    exact fun x hx hx2 => hd.2.2 x hx2 x (List.mem_flatMap.2 ⟨a, ha, hx⟩) rfl
  | y :: l, j + 1, k + 1, a, b, hd, hj, hk, hne => by
    rw [List.flatMap_cons, List.nodup_append] at hd
    exact nodup_flat hd.2.1 (by simpa using hj) (by simpa using hk) (fun e => hne (by rw [e]))
theorem rowE_insW {w : World} {B : Nat} {a : Option Addr} {n c : Nat} {es : List IE} (h : RowE w B (.slice a n c) es) (ha : ∀ e ∈ es, (e.2.1 = none → e.2.2 = 0) ∧ IntsW w e.2.1 e.1.args) : InsW w a (es.map Prod.fst) := fun k x hx => by
  rw [List.getElem?_map, Option.map_eq_some_iff] at hx
  obtain ⟨e, he, rfl⟩ := hx
  have hl : 0 < es.length := by
    have := (List.getElem?_eq_some_iff.1 he).1
    omega
  have hs := h
  rcases hs.2 with ⟨h1, h2⟩ | ⟨g, cap, cur, hv, _⟩
  · rw [h2] at hl
    exact absurd hl (by omega)
  · injection hv with h1 h2 h3
    subst h1
    have hm := ha e (List.mem_of_getElem? he)
    have q := RowE.at h h2 he hm.1 hm.2
    exact ⟨g, 0, e.2.1, e.2.2, rfl, q.1, by rw [Nat.zero_add]; exact q.2⟩
theorem ArgC.ints {w : World} {B : Nat} {e : IE} (h : ArgC w B e) : (e.2.1 = none → e.2.2 = 0) ∧ IntsW w e.2.1 e.1.args := ⟨h.2, by
  obtain ⟨a, c, hv, _, hi⟩ := OwnI.shape h.1
  injection hv with h1 _ _
  rw [h1]
  exact hi⟩
theorem plus_bls {Z W4 : World} {B bg bk k gg gcap : Nat} {es : List BE} {e : BE} {x : Ii} {xa : Option Addr} {xc : Nat} (h : CBls Z B (.slice (some ⟨bg, 0, none⟩) es.length bk) es) (he : es[k]? = some e)
    (hg : Z.grownBy W4 (Value.slice e.2.2.1 e.2.1.length e.2.2.2).ownBlock) (ho : RowE W4 B (.slice (some ⟨gg, 0, none⟩) (e.2.1.length + 1) gcap) (e.2.1 ++ [(x, xa, xc)])) (hxn : xa = none → xc = 0)
    (hx : IntsW (W4.setCell ⟨bg, k * 5, none⟩ (.slice (some ⟨gg, 0, none⟩) (e.2.1.length + 1) gcap)) xa x.args) :
    BlsW (W4.setCell ⟨bg, k * 5, none⟩ (.slice (some ⟨gg, 0, none⟩) (e.2.1.length + 1) gcap)) (some ⟨bg, 0, none⟩) ((es.map beB).set k (plusB (beB e) x)) := by
  have hme := List.mem_of_getElem? he
  have hrow := h.rows e hme
  have hkl := (List.getElem?_eq_some_iff.1 he).1
  have kB : KeepT Z W4 54 := KeepT.grown hrow.1.row hg (by decide)
  have kI : KeepT Z W4 3 := KeepT.grown hrow.1.row hg (by decide)
  have hR4 : RowB W4 B (.slice (some ⟨bg, 0, none⟩) es.length bk) es := own_keepT h.row kB
  obtain ⟨cur, hcur⟩ : ∃ cur, Blk W4 bg 54 cur := by
    rcases hR4.2 with ⟨h2, _⟩ | ⟨g2, cap2, cur2, e2, _, hh2, _⟩
    · cases h2
    · injection e2 with e21 _ _
      injection e21 with e21
      injection e21 with e21
      subst e21
      exact ⟨cur2, hh2⟩
  generalize hu : Value.slice (some ⟨gg, 0, none⟩) (e.2.1.length + 1) gcap = u at *
  have fI : KeepT W4 (W4.setCell ⟨bg, k * 5, none⟩ u) 3 := KeepT.far hcur (by decide) _ _
  have fX : KeepT W4 (W4.setCell ⟨bg, k * 5, none⟩ u) 27 := KeepT.far hcur (by decide) _ _
  have hR5 : RowB (W4.setCell ⟨bg, k * 5, none⟩ u) B (.slice (some ⟨bg, 0, none⟩) es.length bk) (es.set k (e.1, e.2.1 ++ [(x, xa, xc)], some ⟨gg, 0, none⟩, gcap)) := by
    show World.ownsRow _ _ _ _ _ _ _
    rw [List.length_set, ← flat_set beC 5 be_len (by omega) u es k e _ he (by rw [← hu]; unfold beC; simp)]
    exact row_set hR4 _ _
  intro j b hj
  have hjl : j < es.length := by
    have := (List.getElem?_eq_some_iff.1 hj).1
    simpa using this
  by_cases hjk : j = k
  · subst hjk
    have hb : plusB (beB e) x = b := by
      rw [List.getElem?_set_self (by simpa using hkl)] at hj
      exact Option.some.inj hj
    have h5 : (es.set j (e.1, e.2.1 ++ [(x, xa, xc)], some ⟨gg, 0, none⟩, gcap))[j]? = some (e.1, e.2.1 ++ [(x, xa, xc)], some ⟨gg, 0, none⟩, gcap) := List.getElem?_set_self hkl
    have hi : InsW (W4.setCell ⟨bg, j * 5, none⟩ u) (some ⟨gg, 0, none⟩) ((e.2.1 ++ [(x, xa, xc)]).map Prod.fst) := by
      rw [← hu] at ho
      refine rowE_insW (own_keepT ho fX) fun y hy => ?_
      rcases List.mem_append.1 hy with hy | hy
      · exact (((hrow.1.args y hy).keepT kI).keepT fI).ints
      · rw [List.mem_singleton] at hy
        subst hy
        exact ⟨hxn, hx⟩
    have q := RowB.at hR5 (by rw [List.length_set]) h5 (fun h => by cases h) hi
    refine ⟨bg, 0, some ⟨gg, 0, none⟩, gcap, rfl, q.1, ?_⟩
    rw [Nat.zero_add, ← hb]
    have e9 : beB (e.1, e.2.1 ++ [(x, xa, xc)], some ⟨gg, 0, none⟩, gcap) = plusB (beB e) x := by
      unfold beB plusB
      simp
    rw [← e9]
    exact q.2
  · rw [List.getElem?_set_ne (fun h => hjk h.symm), List.getElem?_map, Option.map_eq_some_iff] at hj
    obtain ⟨f, hf, rfl⟩ := hj
    have h5 : (es.set k (e.1, e.2.1 ++ [(x, xa, xc)], some ⟨gg, 0, none⟩, gcap))[j]? = some f := by rw [List.getElem?_set_ne (fun h => hjk h.symm)]; exact hf
    have hrf := h.rows f (List.mem_of_getElem? hf)
    have hap := nodup_flat h.apartR hf he hjk
    have h4 : RowE W4 B (.slice f.2.2.1 f.2.1.length f.2.2.2) f.2.1 := own_grown hrf.1.row hg fun b hb hb2 => by
      have m1 : b ∈ addrB f.2.2.1 := by
        cases ha : f.2.2.1 with
        | none => rw [ha] at hb; cases hb
        | some a => rw [ha] at hb; simp [addrB]; simp [Value.ownBlock] at hb; omega
      have m2 : b ∈ addrB e.2.2.1 := by
        cases ha : e.2.2.1 with
        | none => rw [ha] at hb2; cases hb2
        | some a => rw [ha] at hb2; simp [addrB]; simp [Value.ownBlock] at hb2; omega
      exact hap b m1 m2
    have hi : InsW (W4.setCell ⟨bg, k * 5, none⟩ u) f.2.2.1 (f.2.1.map Prod.fst) := rowE_insW (own_keepT h4 fX) fun y hy => (((hrf.1.args y hy).keepT kI).keepT fI).ints
    have q := RowB.at hR5 (by rw [List.length_set]) h5 hrf.2 hi
    exact ⟨bg, 0, f.2.2.1, f.2.2.2, rfl, q.1, by rw [Nat.zero_add]; exact q.2⟩
end Go.Proofs.YtjahchoaaggkiaaDoor
