/-
  The statement's call of two cursors that have the same words left tells the same of both, and leaves them so. No condition beyond those that each theorem states.
-/
import Derived.Test.YtfnmkgfaoacnpaaLikeM
namespace Go.Proofs.Ytfnmkgfaoacnpaa
open Go.RowKit

theorem two_signsA (w : World) (s t : ByteArray) : Signs (w.alloc (.cells #[.string s, .string t] 9)) w.heap.size [s, t] :=
  ⟨_, Blk.new w _ _, fun k x hx => by
    rcases k with _ | _ | k
    · simp at hx; subst hx; rfl
    · simp at hx; subst hx; rfl
    · simp at hx⟩
/-- Behind a call of each. -/
def AftA (w w' : World) (g q : Nat) (c d : Cu) : Prop := CurC w' g c ∧ CurC w' q d ∧ ∀ B, B ≤ w.heap.size → B ≤ g → B ≤ q → Below B w w'
abbrev getX (w : World) (wh least most : Int) (s t : ByteArray) : World := w.alloc (.cells #[.int .i64 wh, .int .i64 least, .int .i64 most, .string s, .string t] 46)
structure MidA (w w' : World) (g q : Nat) (c d : Cu) (wh least most : Int) (s t : ByteArray) : Prop where
  C : CurC w' g c
  R : CurC w' q d
  F : ∀ B, B ≤ w.heap.size → B ≤ g → B ≤ q → Below B w w'
  Q : Blk w' w.heap.size 46 #[.int .i64 wh, .int .i64 least, .int .i64 most, .string s, .string t]
section
variable {w w' w1 : World} {g q : Nat} {c d c' d' : Cu} {wh least most : Int} {s t : ByteArray}
theorem MidA.c0 (h : Hid (MidA w w' g q c d wh least most s t)) : w'.cell? ⟨w.heap.size, 0, none⟩ = some (.int .i64 wh) := (h.out.Q.cell 0).trans rfl
theorem MidA.c1 (h : Hid (MidA w w' g q c d wh least most s t)) : w'.cell? ⟨w.heap.size, 1, none⟩ = some (.int .i64 least) := (h.out.Q.cell 1).trans rfl
theorem MidA.c2 (h : Hid (MidA w w' g q c d wh least most s t)) : w'.cell? ⟨w.heap.size, 2, none⟩ = some (.int .i64 most) := (h.out.Q.cell 2).trans rfl
theorem MidA.c3 (h : Hid (MidA w w' g q c d wh least most s t)) : w'.cell? ⟨w.heap.size, 3, none⟩ = some (.string s) := (h.out.Q.cell 3).trans rfl
theorem MidA.c4 (h : Hid (MidA w w' g q c d wh least most s t)) : w'.cell? ⟨w.heap.size, 4, none⟩ = some (.string t) := (h.out.Q.cell 4).trans rfl
theorem MidA.start (h : CurC w g c) (hr : CurC w q d) : MidA w (getX w wh least most s t) g q c d wh least most s t := by
  have hb0 : Below w.heap.size w (getX w wh least most s t) := (Below.refl _ w).alloc (Nat.le_refl _) _
  exact ⟨h.below hb0, hr.below hb0, fun B hB _ _ => hb0.mono hB, Blk.new _ _ _⟩
theorem MidA.below (h : MidA w w' g q c d wh least most s t) (hb : Below w'.heap.size w' w1) : MidA w w1 g q c d wh least most s t :=
  ⟨h.C.below hb, h.R.below hb, fun B a b e => (h.F B a b e).trans (hb.mono (by have := h.Q.lt; omega)), h.Q.below hb h.Q.lt⟩
theorem MidA.drew (h : MidA w w' g q c d wh least most s t) : MidA w w'.drew g q c d wh least most s t := h.below (Below.refl _ _).drew
theorem MidA.got (h : MidA w w' g q c d wh least most s t) (hg : g < w.heap.size) (hne : g ≠ q) (hc : CurC w1 g c') (k : Keep w'.heap.size g w' w1) : MidA w w1 g q c' d wh least most s t :=
  ⟨hc, h.R.other h.C (Ne.symm hne) k, fun B a b e => (h.F B a b e).trans (k.below (by have := h.Q.lt; omega) b), h.Q.keep k (by omega)⟩
theorem MidA.fin (h : MidA w w' g q c d wh least most s t) (hne : g ≠ q) (hr : CurC w1 q d') (k : Keep w'.heap.size q w' w1) : AftA w w1 g q c d' :=
  ⟨h.C.other h.R hne k, hr, fun B a b e => (h.F B a b e).trans (k.below (by have := h.Q.lt; omega) e)⟩
theorem first_A {f : FuncId} {args : Array Value} {e0 : Ending} (h : MidA w w' g q c d wh least most s t) (hg : g < w.heap.size) (hne : g ≠ q) (K : Calls Try.prog f args w' fun e w1 => e = e0 ∧ CurC w1 g c' ∧ Keep w'.heap.size g w' w1) :
    Calls Try.prog f args w' fun e w1 => e = e0 ∧ MidA w w1 g q c' d wh least most s t := K.mono fun _ _ hh => ⟨hh.1, h.got hg hne hh.2.1 hh.2.2⟩
theorem second_A {f : FuncId} {args : Array Value} {e0 : Ending} (h : MidA w w' g q c d wh least most s t) (hne : g ≠ q) (K : Calls Try.prog f args w' fun e w1 => e = e0 ∧ CurC w1 q d' ∧ Keep w'.heap.size q w' w1) :
    Calls Try.prog f args w' fun e w1 => e = e0 ∧ AftA w w1 g q c d' := K.mono fun _ _ hh => ⟨hh.1, h.fin hne hh.2.1 hh.2.2⟩
end
set_option maxHeartbeats 4000000 in
set_option maxRecDepth 100000 in
theorem alike_name (g q : Nat) (c d : Cu) (wh least most : Int) (s t : ByteArray) (w : World) (h : CurC w g c) (hr : CurC w q d) (hne : g ≠ q) (hl : Like c d) (hp : pk wh = 2) :
    Calls Try.prog 29 #[.pointer (some ⟨g, 0, none⟩), .pointer (some ⟨q, 0, none⟩), .agg #[.int .i64 wh, .int .i64 least, .int .i64 most, .string s, .string t]] w fun e w' => e = .returned (.bool true) ∧ AftA w w' g q (c.gotA ⟨wh, least, most, s, t⟩) (d.gotA ⟨wh, least, most, s, t⟩) := by
  have PK := Lib.hid (fun W => pick_any wh W)
  have hlt := h.lt
  have M0 : Hid (MidA w (getX w wh least most s t) g q c d wh least most s t) := MidA.start h hr
  have HGc : Hid (c.gotA ⟨wh, least, most, s, t⟩ = c.name) := by show _ = _; simp [Cu.gotA, Cu.got, hp]
  have HGd : Hid (d.gotA ⟨wh, least, most, s, t⟩ = d.name) := by show _ = _; simp [Cu.gotA, Cu.got, hp]
  have E1 := Lib.hid (fun w1 h1 => err_any g c w1 h1)
  have E2 := Lib.hid (fun w1 h1 => err_any q d w1 h1)
  have O1 := Lib.hid (fun w1 h1 => more_any g c w1 h1)
  have O2 := Lib.hid (fun w1 h1 => more_any q d w1 h1)
  rw [hp] at PK
  rw [← hl.eErr] at E2
  rw [← hl.more] at O2
  rw [HGc.out, HGd.out]
  have KC : Hid (∀ w1, MidA w w1 g q c d wh least most s t → _) := fun w1 h1 => first_A h1 hlt hne (nameC_any g c w1 h1.C)
  have KR : Hid (∀ w1, MidA w w1 g q (c.name) d wh least most s t → _) := fun w1 h1 => second_A h1 hne (nameC_any q d w1 h1.R)
  rw [hl.nameT] at KC
  generalize c.name = c' at *
  generalize d.name = d' at *
  generalize d.nameT = bb at *
  clear h hr hl hp HGc HGd
  generalize c.eLine = a1 at *
  generalize c.eCol = a2 at *
  generalize d.eLine = b1 at *
  generalize d.eCol = b2 at *
  generalize c.eErr = ee at *
  generalize c.more = mm at *
  go_enter Try.func29, Try.ntmps29
  go_wp2_with fail
  refine (E1.out _ M0.out.C).mono ?_
  rintro e w1 ⟨rfl, hb1⟩
  have M1 := Lib.hid (M0.out.below hb1)
  clear hb1 M0 E1
  go_wp2_with fail
  refine (E2.out _ M1.out.R).mono ?_
  rintro e w2 ⟨rfl, hb2⟩
  have M2 := Lib.hid (M1.out.below hb2)
  clear hb2 M1 E2
  go_wp2_with fail
  refine (O1.out _ M2.out.C).mono ?_
  rintro e w3 ⟨rfl, hb3⟩
  have M3 := Lib.hid (M2.out.below hb3)
  clear hb3 M2 O1
  go_wp2_with fail
  refine (O2.out _ M3.out.R).mono ?_
  rintro e w4 ⟨rfl, hb4⟩
  have M4 := Lib.hid (M3.out.below hb4)
  clear hb4 M3 O2
  have n0 := MidA.c0 M4
  have n1 := MidA.c1 M4
  have n2 := MidA.c2 M4
  have n3 := MidA.c3 M4
  have n4 := MidA.c4 M4
  go_wp2_with fail
  refine (PK.out _).mono ?_
  rintro e w5 ⟨rfl, rfl⟩
  clear n0
  go_wp2_with fail
  refine (KC.out _ M4.out).mono ?_
  rintro e w6 ⟨rfl, h1⟩
  have H1 := Lib.hid h1
  clear h1
  go_wp2_with fail
  refine (KR.out _ H1.out).mono ?_
  rintro e w7 ⟨rfl, h2⟩
  have H2 := Lib.hid h2
  clear h2
  go_wp2
  go_ret
  exact ⟨by first | rfl | simp [Act.put], H2.out⟩
set_option maxHeartbeats 4000000 in
set_option maxRecDepth 100000 in
theorem alike_end (g q : Nat) (c d : Cu) (wh least most : Int) (s t : ByteArray) (w : World) (h : CurC w g c) (hr : CurC w q d) (hne : g ≠ q) (hl : Like c d) (hp : pk wh = 5) :
    Calls Try.prog 29 #[.pointer (some ⟨g, 0, none⟩), .pointer (some ⟨q, 0, none⟩), .agg #[.int .i64 wh, .int .i64 least, .int .i64 most, .string s, .string t]] w fun e w' => e = .returned (.bool true) ∧ AftA w w' g q (c.gotA ⟨wh, least, most, s, t⟩) (d.gotA ⟨wh, least, most, s, t⟩) := by
  have PK := Lib.hid (fun W => pick_any wh W)
  have hlt := h.lt
  have M0 : Hid (MidA w (getX w wh least most s t) g q c d wh least most s t) := MidA.start h hr
  have HGc : Hid (c.gotA ⟨wh, least, most, s, t⟩ = c.end_) := by show _ = _; simp [Cu.gotA, Cu.got, hp]
  have HGd : Hid (d.gotA ⟨wh, least, most, s, t⟩ = d.end_) := by show _ = _; simp [Cu.gotA, Cu.got, hp]
  have E1 := Lib.hid (fun w1 h1 => err_any g c w1 h1)
  have E2 := Lib.hid (fun w1 h1 => err_any q d w1 h1)
  have O1 := Lib.hid (fun w1 h1 => more_any g c w1 h1)
  have O2 := Lib.hid (fun w1 h1 => more_any q d w1 h1)
  rw [hp] at PK
  rw [← hl.eErr] at E2
  rw [← hl.more] at O2
  rw [HGc.out, HGd.out]
  have KC : Hid (∀ w1, MidA w w1 g q c d wh least most s t → _) := fun w1 h1 => first_A h1 hlt hne (endC_any g c w1 h1.C)
  have KR : Hid (∀ w1, MidA w w1 g q (c.end_) d wh least most s t → _) := fun w1 h1 => second_A h1 hne (endC_any q d w1 h1.R)
  generalize c.end_ = c' at *
  generalize d.end_ = d' at *
  clear h hr hl hp HGc HGd
  generalize c.eLine = a1 at *
  generalize c.eCol = a2 at *
  generalize d.eLine = b1 at *
  generalize d.eCol = b2 at *
  generalize c.eErr = ee at *
  generalize c.more = mm at *
  go_enter Try.func29, Try.ntmps29
  go_wp2_with fail
  refine (E1.out _ M0.out.C).mono ?_
  rintro e w1 ⟨rfl, hb1⟩
  have M1 := Lib.hid (M0.out.below hb1)
  clear hb1 M0 E1
  go_wp2_with fail
  refine (E2.out _ M1.out.R).mono ?_
  rintro e w2 ⟨rfl, hb2⟩
  have M2 := Lib.hid (M1.out.below hb2)
  clear hb2 M1 E2
  go_wp2_with fail
  refine (O1.out _ M2.out.C).mono ?_
  rintro e w3 ⟨rfl, hb3⟩
  have M3 := Lib.hid (M2.out.below hb3)
  clear hb3 M2 O1
  go_wp2_with fail
  refine (O2.out _ M3.out.R).mono ?_
  rintro e w4 ⟨rfl, hb4⟩
  have M4 := Lib.hid (M3.out.below hb4)
  clear hb4 M3 O2
  have n0 := MidA.c0 M4
  have n1 := MidA.c1 M4
  have n2 := MidA.c2 M4
  have n3 := MidA.c3 M4
  have n4 := MidA.c4 M4
  go_wp2_with fail
  refine (PK.out _).mono ?_
  rintro e w5 ⟨rfl, rfl⟩
  clear n0
  go_wp2_with fail
  refine (KC.out _ M4.out).mono ?_
  rintro e w6 ⟨rfl, h1⟩
  have H1 := Lib.hid h1
  clear h1
  go_wp2_with fail
  refine (KR.out _ H1.out).mono ?_
  rintro e w7 ⟨rfl, h2⟩
  have H2 := Lib.hid h2
  clear h2
  go_wp2
  go_ret
  exact ⟨by first | rfl | simp [Act.put], H2.out⟩
set_option maxHeartbeats 4000000 in
set_option maxRecDepth 100000 in
theorem alike_mark (g q : Nat) (c d : Cu) (wh least most : Int) (s t : ByteArray) (w : World) (h : CurC w g c) (hr : CurC w q d) (hne : g ≠ q) (hl : Like c d) (hp : pk wh = 4) :
    Calls Try.prog 29 #[.pointer (some ⟨g, 0, none⟩), .pointer (some ⟨q, 0, none⟩), .agg #[.int .i64 wh, .int .i64 least, .int .i64 most, .string s, .string t]] w fun e w' => e = .returned (.bool true) ∧ AftA w w' g q (c.gotA ⟨wh, least, most, s, t⟩) (d.gotA ⟨wh, least, most, s, t⟩) := by
  have PK := Lib.hid (fun W => pick_any wh W)
  have hlt := h.lt
  have M0 : Hid (MidA w (getX w wh least most s t) g q c d wh least most s t) := MidA.start h hr
  have HGc : Hid (c.gotA ⟨wh, least, most, s, t⟩ = c.mark [s, t]) := by show _ = _; simp [Cu.gotA, Cu.got, hp]
  have HGd : Hid (d.gotA ⟨wh, least, most, s, t⟩ = d.mark [s, t]) := by show _ = _; simp [Cu.gotA, Cu.got, hp]
  have E1 := Lib.hid (fun w1 h1 => err_any g c w1 h1)
  have E2 := Lib.hid (fun w1 h1 => err_any q d w1 h1)
  have O1 := Lib.hid (fun w1 h1 => more_any g c w1 h1)
  have O2 := Lib.hid (fun w1 h1 => more_any q d w1 h1)
  rw [hp] at PK
  rw [← hl.eErr] at E2
  rw [← hl.more] at O2
  rw [HGc.out, HGd.out]
  have KM : Hid (∀ (gg : Nat) (cc : Cu) (w1 : World), CurC w1 gg cc → Calls Try.prog 45 #[.pointer (some ⟨gg, 0, none⟩), .slice (some ⟨w1.heap.size, 0, none⟩) 2 2] (w1.alloc (.cells #[.string s, .string t] 9)) fun e w' => e = .returned (.tuple #[]) ∧ CurC w' gg (cc.mark [s, t]) ∧ Keep w1.heap.size gg w1 w') := fun gg cc w1 h1 => by
    have hb : Below w1.heap.size w1 (w1.alloc (.cells #[.string s, .string t] 9)) := (Below.refl _ _).alloc (Nat.le_refl _) _
    refine (markC_any gg cc [s, t] w1.heap.size 2 _ (h1.below hb) (two_signsA w1 s t) (by simp)).mono ?_
    rintro e w' ⟨rfl, h2, k2⟩
    exact ⟨rfl, h2, Keep.below_then hb k2⟩
  have KC : Hid (∀ w1, MidA w w1 g q c d wh least most s t → Calls Try.prog 45 #[.pointer (some ⟨g, 0, none⟩), .slice (some ⟨w1.heap.size, 0, none⟩) 2 2] (w1.alloc (.cells #[.string s, .string t] 9)) fun e w' => e = .returned (.tuple #[]) ∧ MidA w w' g q (c.mark [s, t]) d wh least most s t) := fun w1 h1 => (KM.out g c w1 h1.C).mono fun _ _ hh => ⟨hh.1, h1.got hlt hne hh.2.1 hh.2.2⟩
  have KR : Hid (∀ w1, MidA w w1 g q (c.mark [s, t]) d wh least most s t → Calls Try.prog 45 #[.pointer (some ⟨q, 0, none⟩), .slice (some ⟨w1.heap.size, 0, none⟩) 2 2] (w1.alloc (.cells #[.string s, .string t] 9)) fun e w' => e = .returned (.tuple #[]) ∧ AftA w w' g q (c.mark [s, t]) (d.mark [s, t])) := fun w1 h1 => (KM.out q d w1 h1.R).mono fun _ _ hh => ⟨hh.1, h1.fin hne hh.2.1 hh.2.2⟩
  clear KM
  generalize c.mark [s, t] = c' at *
  generalize d.mark [s, t] = d' at *
  clear h hr hl hp HGc HGd
  generalize c.eLine = a1 at *
  generalize c.eCol = a2 at *
  generalize d.eLine = b1 at *
  generalize d.eCol = b2 at *
  generalize c.eErr = ee at *
  generalize c.more = mm at *
  go_enter Try.func29, Try.ntmps29
  go_wp2_with fail
  refine (E1.out _ M0.out.C).mono ?_
  rintro e w1 ⟨rfl, hb1⟩
  have M1 := Lib.hid (M0.out.below hb1)
  clear hb1 M0 E1
  go_wp2_with fail
  refine (E2.out _ M1.out.R).mono ?_
  rintro e w2 ⟨rfl, hb2⟩
  have M2 := Lib.hid (M1.out.below hb2)
  clear hb2 M1 E2
  go_wp2_with fail
  refine (O1.out _ M2.out.C).mono ?_
  rintro e w3 ⟨rfl, hb3⟩
  have M3 := Lib.hid (M2.out.below hb3)
  clear hb3 M2 O1
  go_wp2_with fail
  refine (O2.out _ M3.out.R).mono ?_
  rintro e w4 ⟨rfl, hb4⟩
  have M4 := Lib.hid (M3.out.below hb4)
  clear hb4 M3 O2
  have n0 := MidA.c0 M4
  have n1 := MidA.c1 M4
  have n2 := MidA.c2 M4
  have n3 := MidA.c3 M4
  have n4 := MidA.c4 M4
  go_wp2_with fail
  refine (PK.out _).mono ?_
  rintro e w5 ⟨rfl, rfl⟩
  clear n0
  go_wp2_with fail
  refine (KC.out _ M4.out).mono ?_
  rintro e w6 ⟨rfl, h1⟩
  have H1 := Lib.hid h1
  have m3 := MidA.c3 H1
  have m4 := MidA.c4 H1
  clear h1
  go_wp2_with fail
  refine (KR.out _ H1.out).mono ?_
  rintro e w7 ⟨rfl, h2⟩
  have H2 := Lib.hid h2
  clear h2
  go_wp2
  go_ret
  exact ⟨by first | rfl | simp [Act.put], H2.out⟩
set_option maxHeartbeats 4000000 in
set_option maxRecDepth 100000 in
theorem alike_fail (g q : Nat) (c d : Cu) (wh least most : Int) (s t : ByteArray) (w : World) (h : CurC w g c) (hr : CurC w q d) (_ : g ≠ q) (hl : Like c d) (hp : pk wh = 6) :
    Calls Try.prog 29 #[.pointer (some ⟨g, 0, none⟩), .pointer (some ⟨q, 0, none⟩), .agg #[.int .i64 wh, .int .i64 least, .int .i64 most, .string s, .string t]] w fun e w' => e = .returned (.bool true) ∧ AftA w w' g q (c.gotA ⟨wh, least, most, s, t⟩) (d.gotA ⟨wh, least, most, s, t⟩) := by
  have PK := Lib.hid (fun W => pick_any wh W)
  have hlt := h.lt
  have M0 : Hid (MidA w (getX w wh least most s t) g q c d wh least most s t) := MidA.start h hr
  have HGc : Hid (c.gotA ⟨wh, least, most, s, t⟩ = c) := by show _ = _; simp [Cu.gotA, hp]
  have HGd : Hid (d.gotA ⟨wh, least, most, s, t⟩ = d) := by show _ = _; simp [Cu.gotA, hp]
  have HL := Lib.hid hl
  have E1 := Lib.hid (fun w1 h1 => err_any g c w1 h1)
  have E2 := Lib.hid (fun w1 h1 => err_any q d w1 h1)
  have O1 := Lib.hid (fun w1 h1 => more_any g c w1 h1)
  have O2 := Lib.hid (fun w1 h1 => more_any q d w1 h1)
  rw [hp] at PK
  rw [← hl.eErr] at E2
  rw [← hl.more] at O2
  rw [HGc.out, HGd.out]
  clear h hr hl hp HGc HGd
  generalize c.eLine = a1 at *
  generalize c.eCol = a2 at *
  generalize d.eLine = b1 at *
  generalize d.eCol = b2 at *
  generalize c.eErr = ee at *
  generalize c.more = mm at *
  go_enter Try.func29, Try.ntmps29
  go_wp2_with fail
  refine (E1.out _ M0.out.C).mono ?_
  rintro e w1 ⟨rfl, hb1⟩
  have M1 := Lib.hid (M0.out.below hb1)
  clear hb1 M0 E1
  go_wp2_with fail
  refine (E2.out _ M1.out.R).mono ?_
  rintro e w2 ⟨rfl, hb2⟩
  have M2 := Lib.hid (M1.out.below hb2)
  clear hb2 M1 E2
  go_wp2_with fail
  refine (O1.out _ M2.out.C).mono ?_
  rintro e w3 ⟨rfl, hb3⟩
  have M3 := Lib.hid (M2.out.below hb3)
  clear hb3 M2 O1
  go_wp2_with fail
  refine (O2.out _ M3.out.R).mono ?_
  rintro e w4 ⟨rfl, hb4⟩
  have M4 := Lib.hid (M3.out.below hb4)
  clear hb4 M3 O2
  have n0 := MidA.c0 M4
  have n1 := MidA.c1 M4
  have n2 := MidA.c2 M4
  have n3 := MidA.c3 M4
  have n4 := MidA.c4 M4
  go_wp2_with fail
  refine (PK.out _).mono ?_
  rintro e w5 ⟨rfl, rfl⟩
  have H2 : Hid (AftA w w4 g q c d) := ⟨M4.out.C, M4.out.R, M4.out.F⟩
  clear HL n0
  go_wp2
  go_ret
  exact ⟨by first | rfl | simp [Act.put], H2.out⟩
set_option maxHeartbeats 4000000 in
set_option maxRecDepth 100000 in
theorem alike_none (g q : Nat) (c d : Cu) (wh least most : Int) (s t : ByteArray) (w : World) (h : CurC w g c) (hr : CurC w q d) (_ : g ≠ q) (hl : Like c d) (hp : pk wh = 7) :
    Calls Try.prog 29 #[.pointer (some ⟨g, 0, none⟩), .pointer (some ⟨q, 0, none⟩), .agg #[.int .i64 wh, .int .i64 least, .int .i64 most, .string s, .string t]] w fun e w' => e = .returned (.bool true) ∧ AftA w w' g q (c.gotA ⟨wh, least, most, s, t⟩) (d.gotA ⟨wh, least, most, s, t⟩) := by
  have PK := Lib.hid (fun W => pick_any wh W)
  have hlt := h.lt
  have M0 : Hid (MidA w (getX w wh least most s t) g q c d wh least most s t) := MidA.start h hr
  have HGc : Hid (c.gotA ⟨wh, least, most, s, t⟩ = c) := by show _ = _; simp [Cu.gotA, Cu.got, hp]
  have HGd : Hid (d.gotA ⟨wh, least, most, s, t⟩ = d) := by show _ = _; simp [Cu.gotA, Cu.got, hp]
  have HL := Lib.hid hl
  have E1 := Lib.hid (fun w1 h1 => err_any g c w1 h1)
  have E2 := Lib.hid (fun w1 h1 => err_any q d w1 h1)
  have O1 := Lib.hid (fun w1 h1 => more_any g c w1 h1)
  have O2 := Lib.hid (fun w1 h1 => more_any q d w1 h1)
  rw [hp] at PK
  rw [← hl.eErr] at E2
  rw [← hl.more] at O2
  rw [HGc.out, HGd.out]
  clear h hr hl hp HGc HGd
  generalize c.eLine = a1 at *
  generalize c.eCol = a2 at *
  generalize d.eLine = b1 at *
  generalize d.eCol = b2 at *
  generalize c.eErr = ee at *
  generalize c.more = mm at *
  go_enter Try.func29, Try.ntmps29
  go_wp2_with fail
  refine (E1.out _ M0.out.C).mono ?_
  rintro e w1 ⟨rfl, hb1⟩
  have M1 := Lib.hid (M0.out.below hb1)
  clear hb1 M0 E1
  go_wp2_with fail
  refine (E2.out _ M1.out.R).mono ?_
  rintro e w2 ⟨rfl, hb2⟩
  have M2 := Lib.hid (M1.out.below hb2)
  clear hb2 M1 E2
  go_wp2_with fail
  refine (O1.out _ M2.out.C).mono ?_
  rintro e w3 ⟨rfl, hb3⟩
  have M3 := Lib.hid (M2.out.below hb3)
  clear hb3 M2 O1
  go_wp2_with fail
  refine (O2.out _ M3.out.R).mono ?_
  rintro e w4 ⟨rfl, hb4⟩
  have M4 := Lib.hid (M3.out.below hb4)
  clear hb4 M3 O2
  have n0 := MidA.c0 M4
  have n1 := MidA.c1 M4
  have n2 := MidA.c2 M4
  have n3 := MidA.c3 M4
  have n4 := MidA.c4 M4
  go_wp2_with fail
  refine (PK.out _).mono ?_
  rintro e w5 ⟨rfl, rfl⟩
  have H2 : Hid (AftA w w4 g q c d) := ⟨M4.out.C, M4.out.R, M4.out.F⟩
  clear HL n0
  go_wp2
  go_ret
  exact ⟨by first | rfl | simp [Act.put], H2.out⟩
end Go.Proofs.Ytfnmkgfaoacnpaa
