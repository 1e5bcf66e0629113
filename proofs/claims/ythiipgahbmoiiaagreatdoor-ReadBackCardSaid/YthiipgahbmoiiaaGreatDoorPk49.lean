/-
  The closure by which a block is come to does what the plain state says. No condition beyond those that each theorem states.
-/
import Derived.Test.YthiipgahbmoiiaaGreatDoorPk47
import Derived.Test.YthiipgahbmoiiaaGreatDoorPk48
namespace Go.Proofs.YthiipgahbmoiiaaGreatDoor
open Go.RowKit

/-- The state in memory: the rows of sets and of truths, and what has changed, each behind a variable that is captured. -/
structure Held (w : World) (A0 R0 C0 GA GR B n : Nat) (cv : Value) (s : St) : Prop where
  hA : Blk w A0 75 #[.slice (some ⟨GA, 0, none⟩) n n]
  hR : Blk w R0 76 #[.slice (some ⟨GR, 0, none⟩) n n]
  hC : Blk w C0 22 #[cv]
  hGA : Blk w GA 82 (setsC s.at_)
  hGR : Blk w GR 4 (truC s.rd)
  own : OwnI w B cv (s.ch.map (fun c : Nat => (c : Int)))
/-- What may have turned. -/
structure Moved (w w' : World) (GA GR C0 : Nat) (cv cv' : Value) : Prop where
  os : w'.os = w.os
  tape : w'.tape = w.tape
  output : w'.output = w.output
  size : w.heap.size ≤ w'.heap.size
  block : ∀ k, k < w.heap.size → k ≠ GA → k ≠ GR → k ≠ C0 → some k ≠ cv.ownBlock → w'.heap[k]? = w.heap[k]?
  row : cv'.ownBlock = cv.ownBlock ∨ ∀ k, cv'.ownBlock = some k → w.heap.size ≤ k
theorem Held.keep {w w' : World} {A0 R0 C0 GA GR B n : Nat} {cv : Value} {s : St} (h : Held w A0 R0 C0 GA GR B n cv s) (hb : Below w.heap.size w w') : Held w' A0 R0 C0 GA GR B n cv s :=
  ⟨h.hA.below hb h.hA.lt, h.hR.below hb h.hR.lt, h.hC.below hb h.hC.lt, h.hGA.below hb h.hGA.lt, h.hGR.below hb h.hGR.lt, own_keep h.own ⟨hb.size, fun k _ hk => hb.block k hk⟩⟩
theorem Moved.refl (w : World) (GA GR C0 : Nat) (cv : Value) : Moved w w GA GR C0 cv cv := ⟨rfl, rfl, rfl, Nat.le_refl _, fun _ _ _ _ _ _ => rfl, .inl rfl⟩
theorem Moved.of_below {w w' : World} (hb : Below w.heap.size w w') (GA GR C0 : Nat) (cv : Value) : Moved w w' GA GR C0 cv cv := ⟨hb.os, hb.tape, hb.output, hb.size, fun k hk _ _ _ _ => hb.block k hk, .inl rfl⟩
theorem Moved.trans {w w1 w2 : World} {GA GR C0 : Nat} {cv c1 c2 : Value} (h : Moved w w1 GA GR C0 cv c1) (k : Moved w1 w2 GA GR C0 c1 c2) : Moved w w2 GA GR C0 cv c2 := by
  refine ⟨k.os.trans h.os, k.tape.trans h.tape, k.output.trans h.output, Nat.le_trans h.size k.size, ?_, ?_⟩
  · intro i hi h1 h2 h3 h4
    refine (k.block i (by have := h.size; omega) h1 h2 h3 ?_).trans (h.block i hi h1 h2 h3 h4)
    rcases h.row with hr | hr
    · rw [hr]; exact h4
    · intro e
      have := hr i e.symm
      omega
  · rcases k.row with hk | hk
    · rw [hk]; exact h.row
    · exact .inr fun i hi => Nat.le_trans h.size (hk i hi)
theorem Moved.below {w w' : World} {GA GR C0 B : Nat} {cv cv' : Value} (h : Moved w w' GA GR C0 cv cv') (h1 : B ≤ GA) (h2 : B ≤ GR) (h3 : B ≤ C0) (h4 : ∀ k, cv.ownBlock = some k → B ≤ k) (hB : B ≤ w.heap.size) : Below B w w' :=
  ⟨h.os, h.tape, h.output, h.size, fun k hk => h.block k (by omega) (by omega) (by omega) (by omega) (fun e => by have := h4 k e.symm; omega)⟩
theorem truC_set (l : List Bool) (b : Nat) (x : Bool) : (truC l).setIfInBounds b (.bool x) = truC (l.set b x) := by
  unfold truC
  simp [List.map_set]
/-- A row of the call's own is no block of another type. -/
theorem own_not {w : World} {B : Nat} {v : Value} {l : List Int} {g : Nat} {t : TypeId} {cs : Array Value} (h : OwnI w B v l) (hg : Blk w g t cs) (hne : 3 ≠ t) : some g ≠ v.ownBlock := own_far h hg hne
theorem ir_ne {w : World} {g g' : Nat} {t t' : TypeId} {cs cs' : Array Value} (h : Blk w g t cs) (h' : Blk w g' t' cs') (ht : t ≠ t') : g ≠ g' := by
  rintro rfl
  unfold Blk at h h'
  rw [h] at h'
  injection h' with h'
  injection h' with _ h'
  exact ht h'
theorem own_drew {w : World} {base : Nat} {e : TypeId} {size n : Nat} {v : Value} {xs : List Value} (h : w.ownsRow base e size v n xs) : w.drew.ownsRow base e size v n xs := h
theorem blk_drew {w : World} {g : Nat} {t : TypeId} {cs : Array Value} (h : Blk w g t cs) : Blk w.drew g t cs := h
theorem Held.put {w : World} {A0 R0 C0 GA GR B n : Nat} {cv : Value} {s : St} (H : Held w A0 R0 C0 GA GR B n cv s) {b : Nat} (hb : b < s.at_.length) (h : Nat) :
    Held ((((((w.setCell ⟨GA, b * 4, none⟩ (.int .u64 (wordM h 0))).setCell ⟨GA, b * 4 + 1, none⟩ (.int .u64 (wordM h 1))).setCell ⟨GA, b * 4 + 2, none⟩ (.int .u64 (wordM h 2))).setCell ⟨GA, b * 4 + 3, none⟩ (.int .u64 (wordM h 3))).setCell ⟨GR, b, none⟩ (.bool true)).drew) A0 R0 C0 GA GR B n cv ⟨s.at_.set b h, s.rd.set b true, s.ch⟩ := by
  have n1 : A0 ≠ GA := ir_ne H.hA H.hGA (by decide)
  have n2 : R0 ≠ GA := ir_ne H.hR H.hGA (by decide)
  have n3 : C0 ≠ GA := ir_ne H.hC H.hGA (by decide)
  have n4 : GR ≠ GA := ir_ne H.hGR H.hGA (by decide)
  have m1 : A0 ≠ GR := ir_ne H.hA H.hGR (by decide)
  have m2 : R0 ≠ GR := ir_ne H.hR H.hGR (by decide)
  have m3 : C0 ≠ GR := ir_ne H.hC H.hGR (by decide)
  have o1 := own_not H.own H.hGA (by decide)
  have o2 := own_not H.own H.hGR (by decide)
  have hrow := blk_row H.hGA hb h
  have k0 := Blk.far H.hGR (p := ⟨GA, b * 4, none⟩) n4 (.int .u64 (wordM h 0))
  have k1 := Blk.far k0 (p := ⟨GA, b * 4 + 1, none⟩) n4 (.int .u64 (wordM h 1))
  have k2 := Blk.far k1 (p := ⟨GA, b * 4 + 2, none⟩) n4 (.int .u64 (wordM h 2))
  have k3 := Blk.far k2 (p := ⟨GA, b * 4 + 3, none⟩) n4 (.int .u64 (wordM h 3))
  have htr := Blk.put k3 b (.bool true)
  rw [truC_set] at htr
  refine ⟨?_, ?_, ?_, blk_drew (Blk.far hrow (p := ⟨GR, b, none⟩) n4.symm _), blk_drew htr, ?_⟩
  · have k0 := Blk.far H.hA (p := ⟨GA, b * 4, none⟩) n1 (.int .u64 (wordM h 0))
    have k1 := Blk.far k0 (p := ⟨GA, b * 4 + 1, none⟩) n1 (.int .u64 (wordM h 1))
    have k2 := Blk.far k1 (p := ⟨GA, b * 4 + 2, none⟩) n1 (.int .u64 (wordM h 2))
    have k3 := Blk.far k2 (p := ⟨GA, b * 4 + 3, none⟩) n1 (.int .u64 (wordM h 3))
    have k4 := Blk.far k3 (p := ⟨GR, b, none⟩) m1 (.bool true)
    exact blk_drew k4
  · have k0 := Blk.far H.hR (p := ⟨GA, b * 4, none⟩) n2 (.int .u64 (wordM h 0))
    have k1 := Blk.far k0 (p := ⟨GA, b * 4 + 1, none⟩) n2 (.int .u64 (wordM h 1))
    have k2 := Blk.far k1 (p := ⟨GA, b * 4 + 2, none⟩) n2 (.int .u64 (wordM h 2))
    have k3 := Blk.far k2 (p := ⟨GA, b * 4 + 3, none⟩) n2 (.int .u64 (wordM h 3))
    have k4 := Blk.far k3 (p := ⟨GR, b, none⟩) m2 (.bool true)
    exact blk_drew k4
  · have k0 := Blk.far H.hC (p := ⟨GA, b * 4, none⟩) n3 (.int .u64 (wordM h 0))
    have k1 := Blk.far k0 (p := ⟨GA, b * 4 + 1, none⟩) n3 (.int .u64 (wordM h 1))
    have k2 := Blk.far k1 (p := ⟨GA, b * 4 + 2, none⟩) n3 (.int .u64 (wordM h 2))
    have k3 := Blk.far k2 (p := ⟨GA, b * 4 + 3, none⟩) n3 (.int .u64 (wordM h 3))
    have k4 := Blk.far k3 (p := ⟨GR, b, none⟩) m3 (.bool true)
    exact blk_drew k4
  · have q0 := own_put (p := ⟨GA, b * 4, none⟩) H.own o1 (.int .u64 (wordM h 0))
    have q1 := own_put (p := ⟨GA, b * 4 + 1, none⟩) q0 o1 (.int .u64 (wordM h 1))
    have q2 := own_put (p := ⟨GA, b * 4 + 2, none⟩) q1 o1 (.int .u64 (wordM h 2))
    have q3 := own_put (p := ⟨GA, b * 4 + 3, none⟩) q2 o1 (.int .u64 (wordM h 3))
    have q4 := own_put (p := ⟨GR, b, none⟩) q3 o2 (.bool true)
    exact own_drew q4
theorem Moved.put {w w1 : World} {GA GR C0 : Nat} {cv cv' : Value} (h : Moved w w1 GA GR C0 cv cv') {p : Addr} (hp : p.block = GA ∨ p.block = GR ∨ p.block = C0) (u : Value) : Moved w (w1.setCell p u) GA GR C0 cv cv' :=
  ⟨h.os, h.tape, h.output, by simpa [World.setCell] using h.size, fun k hk h1 h2 h3 h4 => (Below.heap_setCell w1 p u k (by rcases hp with e | e | e <;> omega)).trans (h.block k hk h1 h2 h3 h4), h.row⟩
theorem Moved.drew {w w1 : World} {GA GR C0 : Nat} {cv cv' : Value} (h : Moved w w1 GA GR C0 cv cv') : Moved w w1.drew GA GR C0 cv cv' := ⟨h.os, h.tape, h.output, h.size, h.block, h.row⟩
theorem Moved.grow {w w1 w2 : World} {GA GR C0 gg : Nat} {cv cv' : Value} {m cap : Nat} (h : Moved w w1 GA GR C0 cv cv') (hg : w1.grownBy w2 cv'.ownBlock) (hat : cv'.ownBlock = some gg ∨ w1.heap.size ≤ gg) :
    Moved w (w2.setCell ⟨C0, 0, none⟩ (.slice (some ⟨gg, 0, none⟩) m cap)) GA GR C0 cv (.slice (some ⟨gg, 0, none⟩) m cap) := by
  have hb : ∀ k, k < w.heap.size → k ≠ GA → k ≠ GR → k ≠ C0 → some k ≠ cv.ownBlock → w2.heap[k]? = w.heap[k]? := fun k hk h1 h2 h3 h4 => by
    refine (hg.block k (by have := h.size; omega) ?_).trans (h.block k hk h1 h2 h3 h4)
    rcases h.row with e | e
    · rw [e]; exact h4
    · intro e2
      have := e k e2.symm
      omega
  refine ⟨hg.os.trans h.os, hg.tape.trans h.tape, hg.output.trans h.output, by have := h.size; have := hg.size; simp [World.setCell]; omega, fun k hk h1 h2 h3 h4 => (Below.heap_setCell w2 _ _ k (by simpa using h3)).trans (hb k hk h1 h2 h3 h4), ?_⟩
  rcases hat with e | e
  · rcases h.row with r | r
    · left
      rw [← r, e]
      rfl
    · right
      intro k hk
      injection hk with hk
      rw [← hk]
      exact r gg e
  · right
    intro k hk
    injection hk with hk
    rw [← hk]
    have := h.size
    show w.heap.size ≤ gg
    omega
/-- What has changed is longer by one. -/
theorem Held.more {w w2 : World} {A0 R0 C0 GA GR B n b gg cap : Nat} {cv : Value} {s : St} (H : Held w A0 R0 C0 GA GR B n cv s) (hgrow : w.grownBy w2 cv.ownBlock)
    (hown : OwnI w2 B (.slice (some ⟨gg, 0, none⟩) ((s.ch.map (fun c : Nat => (c : Int))).length + 1) cap) (s.ch.map (fun c : Nat => (c : Int)) ++ [(b : Int)])) :
    Held (w2.setCell ⟨C0, 0, none⟩ (.slice (some ⟨gg, 0, none⟩) ((s.ch.map (fun c : Nat => (c : Int))).length + 1) cap)) A0 R0 C0 GA GR B n (.slice (some ⟨gg, 0, none⟩) ((s.ch.map (fun c : Nat => (c : Int))).length + 1) cap) ⟨s.at_, s.rd, s.ch ++ [b]⟩ := by
  have hA := H.hA.grown hgrow (own_not H.own H.hA (by decide))
  have hR := H.hR.grown hgrow (own_not H.own H.hR (by decide))
  have hC := H.hC.grown hgrow (own_not H.own H.hC (by decide))
  have hGA := H.hGA.grown hgrow (own_not H.own H.hGA (by decide))
  have hGR := H.hGR.grown hgrow (own_not H.own H.hGR (by decide))
  have n1 : A0 ≠ C0 := ir_ne H.hA H.hC (by decide)
  have n2 : R0 ≠ C0 := ir_ne H.hR H.hC (by decide)
  have n3 : GA ≠ C0 := ir_ne H.hGA H.hC (by decide)
  have n4 : GR ≠ C0 := ir_ne H.hGR H.hC (by decide)
  refine ⟨hA.far (p := ⟨C0, 0, none⟩) n1 _, hR.far (p := ⟨C0, 0, none⟩) n2 _, hC.put 0 _, hGA.far (p := ⟨C0, 0, none⟩) n3 _, hGR.far (p := ⟨C0, 0, none⟩) n4 _, ?_⟩
  have e : (s.ch ++ [b]).map (fun c : Nat => (c : Int)) = s.ch.map (fun c : Nat => (c : Int)) ++ [(b : Int)] := by simp
  show OwnI _ _ _ _
  rw [e]
  exact own_put (p := ⟨C0, 0, none⟩) hown (own_not hown hC (by decide)) _
set_option maxHeartbeats 4000000 in
set_option maxRecDepth 100000 in
theorem come_new (A0 R0 C0 GA GR B n : Nat) (cv : Value) (s : St) (b h : Nat) (w : World) (hH : Held w A0 R0 C0 GA GR B n cv s) (h1 : s.at_.length = n) (h2 : s.rd.length = n) (hb : b < n) (hch : s.ch.length ≤ 1000000) (hB : B ≤ w.heap.size) (hr : s.rdB b = false) :
    Calls Tryz.prog 95 #[.int .i64 b, setV h, .pointer (some ⟨R0, 0, none⟩), .pointer (some ⟨A0, 0, none⟩), .pointer (some ⟨C0, 0, none⟩)] w fun e w' => e = .returned (.tuple #[]) ∧ ∃ cv', Held w' A0 R0 C0 GA GR B n cv' (s.come b h) ∧ Moved w w' GA GR C0 cv cv' := by
  obtain ⟨i0, hi0, hz0, hz1, hz2⟩ := info_parts int_info
  have HS0 : Hid (setC h = _) := setC.eq_1 h
  have HE : Hid (s.come b h = ⟨s.at_.set b h, s.rd.set b true, s.ch ++ [b]⟩) := by
    show _ = _
    unfold St.come St.still St.meet
    rw [hr]
    simp
  have hrd : s.rd.getD b false = false := hr
  clear hr
  have HB0 : Hid (Below w.heap.size w (w.alloc (.cells #[.int .u64 (wordM h 0), .int .u64 (wordM h 1), .int .u64 (wordM h 2), .int .u64 (wordM h 3)] 82))) := (Below.refl _ w).alloc (Nat.le_refl _) _
  have HH : Hid (Held (w.alloc (.cells #[.int .u64 (wordM h 0), .int .u64 (wordM h 1), .int .u64 (wordM h 2), .int .u64 (wordM h 3)] 82)) A0 R0 C0 GA GR B n cv s) := hH.keep HB0.out
  have HX : Hid (Blk (w.alloc (.cells #[.int .u64 (wordM h 0), .int .u64 (wordM h 1), .int .u64 (wordM h 2), .int .u64 (wordM h 3)] 82)) w.heap.size 82 (setC h)) := Blk.new w _ _
  have hlt1 := hH.hGA.lt
  have hlt2 := hH.hGR.lt
  have hlt3 := hH.hC.lt
  have HM : Hid (Moved w (w.alloc (.cells #[.int .u64 (wordM h 0), .int .u64 (wordM h 1), .int .u64 (wordM h 2), .int .u64 (wordM h 3)] 82)) GA GR C0 cv cv) := Moved.of_below HB0.out _ _ _ _
  have hsz : w.heap.size < (w.alloc (.cells #[.int .u64 (wordM h 0), .int .u64 (wordM h 1), .int .u64 (wordM h 2), .int .u64 (wordM h 3)] 82)).heap.size := by simp
  obtain ⟨oa, oc, rfl, _, _⟩ := hH.own.shape
  have r0 : w.cell? ⟨R0, 0, none⟩ = some (.slice (some ⟨GR, 0, none⟩) n n) := hH.hR.cell 0
  have r0l := hH.hR.lt
  have t0 : w.cell? ⟨GR, b, none⟩ = some (.bool (s.rd.getD b false)) := (hH.hGR.cell b).trans (truC_get (by rw [List.getElem?_eq_getElem (by omega), List.getD_eq_getElem?_getD, List.getElem?_eq_getElem (by omega)]; rfl))
  rw [hrd] at t0
  clear hH HB0
  unfold setV
  rw [HS0.out]
  have hnb : (b : Int) < n := by omega
  have hnb0 : (0 : Int) ≤ b := by omega
  go_enter Tryz.func95, Tryz.ntmps95
  go_wp2
  clear r0 t0
  generalize (w.alloc (.cells #[.int .u64 (wordM h 0), .int .u64 (wordM h 1), .int .u64 (wordM h 2), .int .u64 (wordM h 3)] 82)) = W at *
  have hb' : b < s.at_.length := by omega
  have hbr : b < s.rd.length := by omega
  have hne1 : GA ≠ GR := ir_ne HH.out.hGA HH.out.hGR (by decide)
  have hne2 : GA ≠ C0 := ir_ne HH.out.hGA HH.out.hC (by decide)
  have hne3 : GR ≠ C0 := ir_ne HH.out.hGR HH.out.hC (by decide)
  have hne4 : GA ≠ A0 := ir_ne HH.out.hGA HH.out.hA (by decide)
  have hne5 : GA ≠ R0 := ir_ne HH.out.hGA HH.out.hR (by decide)
  have hne6 : GR ≠ A0 := ir_ne HH.out.hGR HH.out.hA (by decide)
  have hne7 : GR ≠ R0 := ir_ne HH.out.hGR HH.out.hR (by decide)
  have HO1 := Lib.hid (own_not HH.out.own HH.out.hGA (by decide))
  have HO2 := Lib.hid (own_not HH.out.own HH.out.hGR (by decide))
  have HO3 := Lib.hid (own_not HH.out.own HH.out.hC (by decide))
  have a0 : W.cell? ⟨A0, 0, none⟩ = some (.slice (some ⟨GA, 0, none⟩) n n) := HH.out.hA.cell 0
  have r0 : W.cell? ⟨R0, 0, none⟩ = some (.slice (some ⟨GR, 0, none⟩) n n) := HH.out.hR.cell 0
  have c0 : W.cell? ⟨C0, 0, none⟩ = some (.slice oa (s.ch.map (fun c : Nat => (c : Int))).length oc) := HH.out.hC.cell 0
  have cz : W.frozen? ⟨C0, 0, none⟩ = false := HH.out.hC.free 0
  obtain ⟨x0, x1, x2, x3⟩ := boxS HX.out
  obtain ⟨g0, g1, g2, g3⟩ := boxR HH.out.hGA hb'
  obtain ⟨f0, f1, f2, f3⟩ := boxRF HH.out.hGA b
  have t0 : W.cell? ⟨GR, b, none⟩ = some (.bool (s.rd.getD b false)) := (HH.out.hGR.cell b).trans (truC_get (by rw [List.getElem?_eq_getElem hbr, List.getD_eq_getElem?_getD, List.getElem?_eq_getElem hbr]; rfl))
  have tz : W.frozen? ⟨GR, b, none⟩ = false := HH.out.hGR.free b
  have HN := Lib.hid (HH.out.put hb' h)
  have HM2 := Lib.hid ((((((HM.out.put (p := ⟨GA, b * 4, none⟩) (.inl rfl) (.int .u64 (wordM h 0))).put (p := ⟨GA, b * 4 + 1, none⟩) (.inl rfl) (.int .u64 (wordM h 1))).put (p := ⟨GA, b * 4 + 2, none⟩) (.inl rfl) (.int .u64 (wordM h 2))).put (p := ⟨GA, b * 4 + 3, none⟩) (.inl rfl) (.int .u64 (wordM h 3))).put (p := ⟨GR, b, none⟩) (.inr (.inl rfl)) (.bool true)).drew)
  have hbW : B ≤ W.heap.size := Nat.le_trans hB HM.out.size
  go_region
  clear a0 r0 c0 cz x0 x1 x2 x3 g0 g1 g2 g3 f0 f1 f2 f3 t0 tz HH HM HX HO1 HO2 HO3
  have hsz2 : B ≤ ((((((W.setCell ⟨GA, b * 4, none⟩ (.int .u64 (wordM h 0))).setCell ⟨GA, b * 4 + 1, none⟩ (.int .u64 (wordM h 1))).setCell ⟨GA, b * 4 + 2, none⟩ (.int .u64 (wordM h 2))).setCell ⟨GA, b * 4 + 3, none⟩ (.int .u64 (wordM h 3))).setCell ⟨GR, b, none⟩ (.bool true)).drew).heap.size := Nat.le_trans hB HM2.out.size
  generalize ((((((W.setCell ⟨GA, b * 4, none⟩ (.int .u64 (wordM h 0))).setCell ⟨GA, b * 4 + 1, none⟩ (.int .u64 (wordM h 1))).setCell ⟨GA, b * 4 + 2, none⟩ (.int .u64 (wordM h 2))).setCell ⟨GA, b * 4 + 3, none⟩ (.int .u64 (wordM h 3))).setCell ⟨GR, b, none⟩ (.bool true)).drew) = W2 at *
  have c0 : W2.cell? ⟨C0, 0, none⟩ = some (.slice oa (s.ch.map (fun c : Nat => (c : Int))).length oc) := HN.out.hC.cell 0
  have hcl := HN.out.hC.lt
  have hlen : (s.ch.map (fun c : Nat => (c : Int))).length ≤ 1000000 := by simpa using hch
  have HO5 := Lib.hid (own_not HN.out.own HN.out.hC (by decide))
  have HEc : Hid (Held (W2.alloc (.cells #[.int .i64 b] 3)) A0 R0 C0 GA GR B n (.slice oa (s.ch.map (fun c : Nat => (c : Int))).length oc) ⟨s.at_.set b h, s.rd.set b true, s.ch⟩) := HN.out.keep ((Below.refl _ W2).alloc (Nat.le_refl _) _)
  have HMc : Hid (Moved w (W2.alloc (.cells #[.int .i64 b] 3)) GA GR C0 (.slice oa (s.ch.map (fun c : Nat => (c : Int))).length oc) (.slice oa (s.ch.map (fun c : Nat => (c : Int))).length oc)) := HM2.out.trans (Moved.of_below ((Below.refl _ W2).alloc (Nat.le_refl _) _) _ _ _ _)
  have hbW3 : B ≤ (W2.alloc (.cells #[.int .i64 b] 3)).heap.size := by simp; omega
  have hz3 : (W2.alloc (.cells #[.int .i64 b] 3)).heap.size = W2.heap.size + 1 := by simp
  have HOc : Hid (OwnI (W2.alloc (.cells #[.int .i64 b] 3)) B (.slice oa (s.ch.map (fun c : Nat => (c : Int))).length oc) (s.ch.map (fun c : Nat => (c : Int)))) := HEc.out.own
  generalize hcl2 : (s.ch.map (fun c : Nat => (c : Int))) = chl at *
  have HCL := Lib.hid hcl2
  clear hcl2
  go_wp2_with (at_builtin; go_must (refine wpList_append_lies _ rfl _ _ _ rfl B 3 i0 _ 1 8 Tryz.underlying22 hi0 hz0 hz1 hz2 rfl (by omega) (.slice oa chl.length oc) chl.length (chl.map (Value.int .i64)) rfl HOc.out ⟨W2.heap.size, 0, none⟩ 1 1 [.int .i64 b] rfl rfl (World.news_of_block (heap_alloc_new W2 _)) (by simp [Value.oneCell']) (by omega) (by simp only [maxLen]; omega) (by omega) hbW3 (W2.heap.size + 1) hz3 ?_; intro gg cap w4 hown2 hgrow hat hlt2); go_must (have k0 : w4.cell? ⟨C0, 0, none⟩ = some (.slice oa chl.length oc) := by (rw [hgrow.cell_far _ (by simp; omega) HO5.out]; exact HEc.out.hC.cell 0)); go_must (have kz : w4.frozen? ⟨C0, 0, none⟩ = false := by (rw [hgrow.frozen_far _ (by simp; omega) HO5.out]; exact HEc.out.hC.free 0)))
  have HOwn := Lib.hid (OwnI.more hown2)
  have HMd : Hid (Moved w (w4.setCell ⟨C0, 0, none⟩ (.slice (some ⟨gg, 0, none⟩) (chl.length + 1) cap)) GA GR C0 (.slice oa chl.length oc) (.slice (some ⟨gg, 0, none⟩) (chl.length + 1) cap)) := HMc.out.grow hgrow (by rcases hat with e | e; exact .inl e; exact .inr (by rw [e]; simp))
  have HG := Lib.hid hgrow
  clear hown2 hgrow hat hlt2 k0 kz c0
  have HCE := HCL.out
  subst HCE
  have HF := Lib.hid (HEc.out.more HG.out HOwn.out)
  simp only [List.length_map] at HF HMd
  go_wp2
  (try simp only [Exit.inBlock, Exit.then])
  refine bodyPost_end (results_none rfl _ _ _) rfl ?_
  exact ⟨rfl, _, by rw [HE.out]; exact HF.out, HMd.out⟩
set_option maxHeartbeats 8000000 in
set_option maxRecDepth 100000 in
theorem come_old (A0 R0 C0 GA GR B n : Nat) (cv : Value) (s : St) (b h : Nat) (w : World) (hH : Held w A0 R0 C0 GA GR B n cv s) (h1 : s.at_.length = n) (h2 : s.rd.length = n) (hb : b < n) (hch : s.ch.length ≤ 1000000) (hB : B ≤ w.heap.size) (hlt : s.atN b < 2 ^ 256) (hh : h < 2 ^ 256) (hr : s.rdB b = true) :
    Calls Tryz.prog 95 #[.int .i64 b, setV h, .pointer (some ⟨R0, 0, none⟩), .pointer (some ⟨A0, 0, none⟩), .pointer (some ⟨C0, 0, none⟩)] w fun e w' => e = .returned (.tuple #[]) ∧ ∃ cv', Held w' A0 R0 C0 GA GR B n cv' (s.come b h) ∧ Moved w w' GA GR C0 cv cv' := by
  obtain ⟨i0, hi0, hz0, hz1, hz2⟩ := info_parts int_info
  have HS0 : Hid (setC h = _) := setC.eq_1 h
  have HE0 : Hid (s.come b h = if (h &&& s.atN b) == s.atN b then s else ⟨s.at_.set b (h &&& s.atN b), s.rd.set b true, s.ch ++ [b]⟩) := by
    show _ = _
    unfold St.come St.still St.meet
    rw [hr]
    simp
  have hml : h &&& s.atN b < 2 ^ 256 := Nat.lt_of_le_of_lt Nat.and_le_left hh
  have hgd : s.at_.getD b 0 = s.atN b := rfl
  have hrd : s.rd.getD b false = true := hr
  clear hr
  have HC0 := Lib.hid (fun W => shared_any h (s.atN b) W)
  generalize hM : h &&& s.atN b = M at *
  have HQ : Hid (∀ W, (Op.equalIn 10000 82 (.agg #[.int .u64 (wordM M 0), .int .u64 (wordM M 1), .int .u64 (wordM M 2), .int .u64 (wordM M 3)]) (.agg #[.int .u64 (wordM (s.atN b) 0), .int .u64 (wordM (s.atN b) 1), .int .u64 (wordM (s.atN b) 2), .int .u64 (wordM (s.atN b) 3)])).run Tryz.prog W = .ok (M == s.atN b) W) := fun W => by
    rw [eql_set, set_eq hml hlt]
  clear hM hlt hml
  have HB0 : Hid (Below w.heap.size w (w.alloc (.cells #[.int .u64 (wordM h 0), .int .u64 (wordM h 1), .int .u64 (wordM h 2), .int .u64 (wordM h 3)] 82))) := (Below.refl _ w).alloc (Nat.le_refl _) _
  have HX : Hid (Blk (w.alloc (.cells #[.int .u64 (wordM h 0), .int .u64 (wordM h 1), .int .u64 (wordM h 2), .int .u64 (wordM h 3)] 82)) w.heap.size 82 (setC h)) := Blk.new w _ _
  have HK := Lib.hid hH
  have hlt1 := hH.hGA.lt
  have hlt2 := hH.hGR.lt
  have hlt3 := hH.hC.lt
  have hlt4 := hH.hA.lt
  have hsz : w.heap.size < (w.alloc (.cells #[.int .u64 (wordM h 0), .int .u64 (wordM h 1), .int .u64 (wordM h 2), .int .u64 (wordM h 3)] 82)).heap.size := by simp
  obtain ⟨oa, oc, rfl, _, _⟩ := hH.own.shape
  have r0 : w.cell? ⟨R0, 0, none⟩ = some (.slice (some ⟨GR, 0, none⟩) n n) := hH.hR.cell 0
  have r0l := hH.hR.lt
  have t0 : w.cell? ⟨GR, b, none⟩ = some (.bool (s.rd.getD b false)) := (hH.hGR.cell b).trans (truC_get (by rw [List.getElem?_eq_getElem (by omega), List.getD_eq_getElem?_getD, List.getElem?_eq_getElem (by omega)]; rfl))
  rw [hrd] at t0
  clear hH
  unfold setV at HC0 ⊢
  rw [HS0.out] at HC0 ⊢
  have hnb : (b : Int) < n := by omega
  have hnb0 : (0 : Int) ≤ b := by omega
  have hb' : b < s.at_.length := by omega
  go_enter Tryz.func95, Tryz.ntmps95
  go_wp2
  clear r0 t0
  generalize (w.alloc (.cells #[.int .u64 (wordM h 0), .int .u64 (wordM h 1), .int .u64 (wordM h 2), .int .u64 (wordM h 3)] 82)) = W at *
  have HHW : Hid (Held W A0 R0 C0 GA GR B n (.slice oa (s.ch.map (fun c : Nat => (c : Int))).length oc) s) := HK.out.keep HB0.out
  have a0 : W.cell? ⟨A0, 0, none⟩ = some (.slice (some ⟨GA, 0, none⟩) n n) := HHW.out.hA.cell 0
  obtain ⟨x0, x1, x2, x3⟩ := boxS HX.out
  obtain ⟨y0, y1, y2, y3⟩ := boxF HX.out
  have r := boxR HHW.out.hGA hb'
  rw [hgd] at r
  obtain ⟨g0, g1, g2, g3⟩ := r
  have hAX : A0 ≠ w.heap.size := by omega
  have HC := Lib.hid (HC0.out W.drew)
  have HS1 := Lib.hid (setC.eq_1 M)
  have HS2 := Lib.hid (setC.eq_1 (s.atN b))
  rw [HS1.out, HS2.out] at HC
  go_region_with (go_at_call 96; refine HC.out.mono ?_; rintro e w1 ⟨rfl, hb1⟩; have HX1 : Hid (Blk w1 w.heap.size 82 (setC h)) := (blk_drew HX.out).below hb1 HX.out.lt; have HB1 : Hid (Below w.heap.size w w1) := HB0.out.drew.trans (hb1.mono HB0.out.size); obtain ⟨k0, k1, k2, k3⟩ := boxS HX1.out; obtain ⟨z0, z1, z2, z3⟩ := boxF HX1.out; clear hb1)
  all_goals
    clear x0 x1 x2 x3 y0 y1 y2 y3 g0 g1 g2 g3 a0 k0 k1 k2 k3 z0 z1 z2 z3
    have HX2 := Lib.hid (blk_four HX1.out rfl (.int .u64 (wordM M 0)) (.int .u64 (wordM M 1)) (.int .u64 (wordM M 2)) (.int .u64 (wordM M 3)))
    have HB2 := Lib.hid (below_four (g := w.heap.size) HB1.out (Nat.le_refl _) (.int .u64 (wordM M 0)) (.int .u64 (wordM M 1)) (.int .u64 (wordM M 2)) (.int .u64 (wordM M 3)))
    clear HX1 HB1 HC HC0 HX HB0 HHW
    generalize ((((w1.setCell ⟨w.heap.size, 0, none⟩ (.int .u64 (wordM M 0))).setCell ⟨w.heap.size, 1, none⟩ (.int .u64 (wordM M 1))).setCell ⟨w.heap.size, 2, none⟩ (.int .u64 (wordM M 2))).setCell ⟨w.heap.size, 3, none⟩ (.int .u64 (wordM M 3))) = W2 at *
    rw [← HS1.out] at HX2
    have HH2 : Hid (Held W2 A0 R0 C0 GA GR B n (.slice oa (s.ch.map (fun c : Nat => (c : Int))).length oc) s) := HK.out.keep HB2.out
    have a0 : W2.cell? ⟨A0, 0, none⟩ = some (.slice (some ⟨GA, 0, none⟩) n n) := HH2.out.hA.cell 0
    obtain ⟨x0, x1, x2, x3⟩ := boxS HX2.out
    have r := boxR HH2.out.hGA hb'
    rw [hgd] at r
    obtain ⟨g0, g1, g2, g3⟩ := r
    have hq := HQ.out
    have HBd := Lib.hid HB2.out.drew
    have HXd := Lib.hid (blk_drew HX2.out)
    cases hst : (M == s.atN b)
    · rw [hst] at hq HE0
      have HE : Hid (s.come b h = ⟨s.at_.set b M, s.rd.set b true, s.ch ++ [b]⟩) := HE0.out
      clear HQ HE0 hst
      go_wp2
      go_region
      all_goals
        clear x0 x1 x2 x3 g0 g1 g2 g3 a0 hq HH2 HX2 HB2
        generalize W2.drew = W3 at *
        have HH := Lib.hid (HK.out.keep HBd.out)
        have HX := Lib.hid HXd.out
        have HM := Lib.hid (Moved.of_below HBd.out GA GR C0 (.slice oa (s.ch.map (fun c : Nat => (c : Int))).length oc))
        go_wp2
        have hbr : b < s.rd.length := by omega
        have hne1 : GA ≠ GR := ir_ne HH.out.hGA HH.out.hGR (by decide)
        have hne2 : GA ≠ C0 := ir_ne HH.out.hGA HH.out.hC (by decide)
        have hne3 : GR ≠ C0 := ir_ne HH.out.hGR HH.out.hC (by decide)
        have hne4 : GA ≠ A0 := ir_ne HH.out.hGA HH.out.hA (by decide)
        have hne5 : GA ≠ R0 := ir_ne HH.out.hGA HH.out.hR (by decide)
        have hne6 : GR ≠ A0 := ir_ne HH.out.hGR HH.out.hA (by decide)
        have hne7 : GR ≠ R0 := ir_ne HH.out.hGR HH.out.hR (by decide)
        have HO1 := Lib.hid (own_not HH.out.own HH.out.hGA (by decide))
        have HO2 := Lib.hid (own_not HH.out.own HH.out.hGR (by decide))
        have HO3 := Lib.hid (own_not HH.out.own HH.out.hC (by decide))
        have a0 : W3.cell? ⟨A0, 0, none⟩ = some (.slice (some ⟨GA, 0, none⟩) n n) := HH.out.hA.cell 0
        have r0 : W3.cell? ⟨R0, 0, none⟩ = some (.slice (some ⟨GR, 0, none⟩) n n) := HH.out.hR.cell 0
        have c0 : W3.cell? ⟨C0, 0, none⟩ = some (.slice oa (s.ch.map (fun c : Nat => (c : Int))).length oc) := HH.out.hC.cell 0
        have cz : W3.frozen? ⟨C0, 0, none⟩ = false := HH.out.hC.free 0
        obtain ⟨x0, x1, x2, x3⟩ := boxS HX.out
        obtain ⟨g0, g1, g2, g3⟩ := boxR HH.out.hGA hb'
        obtain ⟨f0, f1, f2, f3⟩ := boxRF HH.out.hGA b
        have t0 : W3.cell? ⟨GR, b, none⟩ = some (.bool (s.rd.getD b false)) := (HH.out.hGR.cell b).trans (truC_get (by rw [List.getElem?_eq_getElem hbr, List.getD_eq_getElem?_getD, List.getElem?_eq_getElem hbr]; rfl))
        have tz : W3.frozen? ⟨GR, b, none⟩ = false := HH.out.hGR.free b
        have HN := Lib.hid (HH.out.put hb' M)
        have HM2 := Lib.hid ((((((HM.out.put (p := ⟨GA, b * 4, none⟩) (.inl rfl) (.int .u64 (wordM M 0))).put (p := ⟨GA, b * 4 + 1, none⟩) (.inl rfl) (.int .u64 (wordM M 1))).put (p := ⟨GA, b * 4 + 2, none⟩) (.inl rfl) (.int .u64 (wordM M 2))).put (p := ⟨GA, b * 4 + 3, none⟩) (.inl rfl) (.int .u64 (wordM M 3))).put (p := ⟨GR, b, none⟩) (.inr (.inl rfl)) (.bool true)).drew)
        have hbW : B ≤ W3.heap.size := Nat.le_trans hB HM.out.size
        go_region
        clear a0 r0 c0 cz x0 x1 x2 x3 g0 g1 g2 g3 f0 f1 f2 f3 t0 tz HH HM HX HO1 HO2 HO3
        have hsz2 : B ≤ ((((((W3.setCell ⟨GA, b * 4, none⟩ (.int .u64 (wordM M 0))).setCell ⟨GA, b * 4 + 1, none⟩ (.int .u64 (wordM M 1))).setCell ⟨GA, b * 4 + 2, none⟩ (.int .u64 (wordM M 2))).setCell ⟨GA, b * 4 + 3, none⟩ (.int .u64 (wordM M 3))).setCell ⟨GR, b, none⟩ (.bool true)).drew).heap.size := Nat.le_trans hB HM2.out.size
        generalize ((((((W3.setCell ⟨GA, b * 4, none⟩ (.int .u64 (wordM M 0))).setCell ⟨GA, b * 4 + 1, none⟩ (.int .u64 (wordM M 1))).setCell ⟨GA, b * 4 + 2, none⟩ (.int .u64 (wordM M 2))).setCell ⟨GA, b * 4 + 3, none⟩ (.int .u64 (wordM M 3))).setCell ⟨GR, b, none⟩ (.bool true)).drew) = W2 at *
        have c0 : W2.cell? ⟨C0, 0, none⟩ = some (.slice oa (s.ch.map (fun c : Nat => (c : Int))).length oc) := HN.out.hC.cell 0
        have hcl := HN.out.hC.lt
        have hlen : (s.ch.map (fun c : Nat => (c : Int))).length ≤ 1000000 := by simpa using hch
        have HO5 := Lib.hid (own_not HN.out.own HN.out.hC (by decide))
        have HEc : Hid (Held (W2.alloc (.cells #[.int .i64 b] 3)) A0 R0 C0 GA GR B n (.slice oa (s.ch.map (fun c : Nat => (c : Int))).length oc) ⟨s.at_.set b M, s.rd.set b true, s.ch⟩) := HN.out.keep ((Below.refl _ W2).alloc (Nat.le_refl _) _)
        have HMc : Hid (Moved w (W2.alloc (.cells #[.int .i64 b] 3)) GA GR C0 (.slice oa (s.ch.map (fun c : Nat => (c : Int))).length oc) (.slice oa (s.ch.map (fun c : Nat => (c : Int))).length oc)) := HM2.out.trans (Moved.of_below ((Below.refl _ W2).alloc (Nat.le_refl _) _) _ _ _ _)
        have hbW3 : B ≤ (W2.alloc (.cells #[.int .i64 b] 3)).heap.size := by simp; omega
        have hz3 : (W2.alloc (.cells #[.int .i64 b] 3)).heap.size = W2.heap.size + 1 := by simp
        have HOc : Hid (OwnI (W2.alloc (.cells #[.int .i64 b] 3)) B (.slice oa (s.ch.map (fun c : Nat => (c : Int))).length oc) (s.ch.map (fun c : Nat => (c : Int)))) := HEc.out.own
        generalize hcl2 : (s.ch.map (fun c : Nat => (c : Int))) = chl at *
        have HCL := Lib.hid hcl2
        clear hcl2
        go_wp2_with (at_builtin; go_must (refine wpList_append_lies _ rfl _ _ _ rfl B 3 i0 _ 1 8 Tryz.underlying22 hi0 hz0 hz1 hz2 rfl (by omega) (.slice oa chl.length oc) chl.length (chl.map (Value.int .i64)) rfl HOc.out ⟨W2.heap.size, 0, none⟩ 1 1 [.int .i64 b] rfl rfl (World.news_of_block (heap_alloc_new W2 _)) (by simp [Value.oneCell']) (by omega) (by simp only [maxLen]; omega) (by omega) hbW3 (W2.heap.size + 1) hz3 ?_; intro gg cap w4 hown2 hgrow hat hlt2); go_must (have k0 : w4.cell? ⟨C0, 0, none⟩ = some (.slice oa chl.length oc) := by (rw [hgrow.cell_far _ (by simp; omega) HO5.out]; exact HEc.out.hC.cell 0)); go_must (have kz : w4.frozen? ⟨C0, 0, none⟩ = false := by (rw [hgrow.frozen_far _ (by simp; omega) HO5.out]; exact HEc.out.hC.free 0)))
        have HOwn := Lib.hid (OwnI.more hown2)
        have HMd : Hid (Moved w (w4.setCell ⟨C0, 0, none⟩ (.slice (some ⟨gg, 0, none⟩) (chl.length + 1) cap)) GA GR C0 (.slice oa chl.length oc) (.slice (some ⟨gg, 0, none⟩) (chl.length + 1) cap)) := HMc.out.grow hgrow (by rcases hat with e | e; exact .inl e; exact .inr (by rw [e]; simp))
        have HG := Lib.hid hgrow
        clear hown2 hgrow hat hlt2 k0 kz c0
        have HCE := HCL.out
        subst HCE
        have HF := Lib.hid (HEc.out.more HG.out HOwn.out)
        simp only [List.length_map] at HF HMd
        go_wp2
        (try simp only [Exit.inBlock, Exit.then])
        refine bodyPost_end (results_none rfl _ _ _) rfl ?_
        exact ⟨rfl, _, by rw [HE.out]; exact HF.out, HMd.out⟩
    · rw [hst] at hq HE0
      have HE : Hid (s.come b h = s) := HE0.out
      clear HQ HE0 hst
      go_wp2
      go_region
      all_goals
        go_wp2
        (try simp only [Exit.inBlock, Exit.then])
        refine bodyPost_ret (results_none rfl _ _ _) rfl ?_
        exact ⟨rfl, _, by rw [HE.out]; exact HK.out.keep HBd.out, Moved.of_below HBd.out _ _ _ _⟩
theorem come_any (A0 R0 C0 GA GR B n : Nat) (cv : Value) (s : St) (b h : Nat) (w : World) (hH : Held w A0 R0 C0 GA GR B n cv s) (h1 : s.at_.length = n) (h2 : s.rd.length = n) (hb : b < n) (hch : s.ch.length ≤ 1000000) (hB : B ≤ w.heap.size) (hlt : s.atN b < 2 ^ 256) (hh : h < 2 ^ 256) :
    Calls Tryz.prog 95 #[.int .i64 b, setV h, .pointer (some ⟨R0, 0, none⟩), .pointer (some ⟨A0, 0, none⟩), .pointer (some ⟨C0, 0, none⟩)] w fun e w' => e = .returned (.tuple #[]) ∧ ∃ cv', Held w' A0 R0 C0 GA GR B n cv' (s.come b h) ∧ Moved w w' GA GR C0 cv cv' := by
  cases hr : s.rdB b
  · exact come_new A0 R0 C0 GA GR B n cv s b h w hH h1 h2 hb hch hB hr
  · exact come_old A0 R0 C0 GA GR B n cv s b h w hH h1 h2 hb hch hB hlt hh hr
end Go.Proofs.YthiipgahbmoiiaaGreatDoor
