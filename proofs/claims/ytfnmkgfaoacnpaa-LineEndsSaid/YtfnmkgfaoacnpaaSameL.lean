/-
  The statements of package line: a call tells the same of both cursors, and leaves both alike. No condition beyond those that each theorem states.
-/
import Derived.Test.YtfnmkgfaoacnpaaGet
namespace Go.Proofs.Ytfnmkgfaoacnpaa
open Go.RowKit

def gtV (x : Gt) : Value := .agg #[.int .i64 x.what, .int .i64 x.least, .int .i64 x.most, .string x.s, .string x.t]
/-- Behind a call of each. -/
def Aft (w w' : World) (g q : Nat) (c : Cu) : Prop := CurC w' g c ∧ CurR w' q c ∧ ∀ B, B ≤ w.heap.size → B ≤ g → B ≤ q → Below B w w'
theorem two_signs (w : World) (s t : ByteArray) : Signs (w.alloc (.cells #[.string s, .string t] 9)) w.heap.size [s, t] :=
  ⟨_, Blk.new w _ _, fun k x hx => by
    rcases k with _ | _ | k
    · simp at hx; subst hx; rfl
    · simp at hx; subst hx; rfl
    · simp at hx⟩
theorem CurR.after {w w' : World} {g q : Nat} {c d : Cu} (h : CurR w q d) (hC : CurC w g c) (k : Keep w.heap.size g w w') : CurR w' q d := by
  obtain ⟨cs, hcs⟩ := hC.blk
  exact h.keep k hcs (by decide) (by decide)
theorem CurC.after {w w' : World} {g q : Nat} {c d : Cu} (h : CurC w g c) (hR : CurR w q d) (k : Keep w.heap.size q w w') : CurC w' g c := by
  obtain ⟨cs, hcs⟩ := hR.blk
  exact h.keep k hcs (by decide) (by decide)
theorem aft_of {w w1 w2 : World} {g q : Nat} {c : Cu} (h1 : ∀ B, B ≤ w.heap.size → B ≤ g → B ≤ q → Below B w w1) (k : ∀ B, B ≤ w.heap.size → B ≤ g → B ≤ q → Below B w1 w2) (hC : CurC w2 g c) (hR : CurR w2 q c) : Aft w w2 g q c :=
  ⟨hC, hR, fun B a b d => (h1 B a b d).trans (k B a b d)⟩
abbrev getW (w : World) (wh least most : Int) (s t : ByteArray) : World := w.alloc (.cells #[.int .i64 wh, .int .i64 least, .int .i64 most, .string s, .string t] 46)
/-- Behind the first call: the one cursor has gone on, the other one not yet, and the thing that is got stands. -/
structure Mids (w w' : World) (g q : Nat) (c d : Cu) (wh least most : Int) (s t : ByteArray) : Prop where
  C : CurC w' g d
  R : CurR w' q c
  F : ∀ B, B ≤ w.heap.size → B ≤ g → B ≤ q → Below B w w'
  Q : Blk w' w.heap.size 46 #[.int .i64 wh, .int .i64 least, .int .i64 most, .string s, .string t]
section
variable {w w' w1 : World} {g q : Nat} {c d : Cu} {wh least most : Int} {s t : ByteArray}
theorem Mids.c1 (h : Hid (Mids w w' g q c d wh least most s t)) : w'.cell? ⟨w.heap.size, 1, none⟩ = some (.int .i64 least) := (h.out.Q.cell 1).trans rfl
theorem Mids.c2 (h : Hid (Mids w w' g q c d wh least most s t)) : w'.cell? ⟨w.heap.size, 2, none⟩ = some (.int .i64 most) := (h.out.Q.cell 2).trans rfl
theorem Mids.c3 (h : Hid (Mids w w' g q c d wh least most s t)) : w'.cell? ⟨w.heap.size, 3, none⟩ = some (.string s) := (h.out.Q.cell 3).trans rfl
theorem Mids.c4 (h : Hid (Mids w w' g q c d wh least most s t)) : w'.cell? ⟨w.heap.size, 4, none⟩ = some (.string t) := (h.out.Q.cell 4).trans rfl
/-- At the call's begin. -/
theorem Mids.start (h : CurC w g c) (hr : CurR w q c) : Mids w (getW w wh least most s t) g q c c wh least most s t := by
  have hb0 : Below w.heap.size w (getW w wh least most s t) := (Below.refl _ w).alloc (Nat.le_refl _) _
  exact ⟨h.below hb0, hr.below hb0, fun B hB _ _ => hb0.mono hB, Blk.new _ _ _⟩
theorem Mids.drew (h : Mids w w' g q c d wh least most s t) : Mids w w'.drew g q c d wh least most s t :=
  ⟨h.C.below (Below.refl _ _).drew, h.R.below (Below.refl _ _).drew, fun B a b e => (h.F B a b e).drew, h.Q⟩
theorem Mids.got (h : Mids w w' g q c c wh least most s t) (hg : g < w.heap.size) (hc : CurC w1 g d) (k : Keep w'.heap.size g w' w1) : Mids w w1 g q c d wh least most s t := by
  refine ⟨hc, CurR.after h.R h.C k, fun B a b e => (h.F B a b e).trans (k.below (by have := h.Q.lt; omega) b), h.Q.keep k (by omega)⟩
theorem Mids.fin (h : Mids w w' g q c d wh least most s t) (hr : CurR w1 q d) (k : Keep w'.heap.size q w' w1) : Aft w w1 g q d :=
  ⟨CurC.after h.C h.R k, hr, fun B a b e => (h.F B a b e).trans (k.below (by have := h.Q.lt; omega) e)⟩
theorem first_call {f : FuncId} {args : Array Value} {e0 : Ending} (h : Mids w w' g q c c wh least most s t) (hg : g < w.heap.size) (K : Calls Try.prog f args w' fun e w1 => e = e0 ∧ CurC w1 g d ∧ Keep w'.heap.size g w' w1) :
    Calls Try.prog f args w' fun e w1 => e = e0 ∧ Mids w w1 g q c d wh least most s t := K.mono fun _ _ hh => ⟨hh.1, h.got hg hh.2.1 hh.2.2⟩
theorem second_call {f : FuncId} {args : Array Value} {e0 : Ending} (h : Mids w w' g q c d wh least most s t) (K : Calls Try.prog f args w' fun e w1 => e = e0 ∧ CurR w1 q d ∧ Keep w'.heap.size q w' w1) :
    Calls Try.prog f args w' fun e w1 => e = e0 ∧ Aft w w1 g q d := K.mono fun _ _ hh => ⟨hh.1, h.fin hh.2.1 hh.2.2⟩
end
set_option maxHeartbeats 4000000 in
set_option maxRecDepth 100000 in
theorem same_any (g q : Nat) (c : Cu) (x : Gt) (w : World) (h : CurC w g c) (hr : CurR w q c) (hok : c.Ok) :
    Calls Try.prog 21 #[.pointer (some ⟨g, 0, none⟩), .pointer (some ⟨q, 0, none⟩), .agg #[.int .i64 x.what, .int .i64 x.least, .int .i64 x.most, .string x.s, .string x.t]] w fun e w' => e = .returned (.bool true) ∧ Aft w w' g q (c.got x) := by
  obtain ⟨wh, least, most, s, t⟩ := x
  simp only
  have hp := pk_bounds wh
  have PK := Lib.hid (fun W => pick_any wh W)
  have hlt := h.lt
  have M0 : Hid (Mids w (getW w wh least most s t) g q c c wh least most s t) := Mids.start h hr
  clear h hr
  have hcase : pk wh = 0 ∨ pk wh = 1 ∨ pk wh = 2 ∨ pk wh = 3 ∨ pk wh = 4 ∨ pk wh = 5 ∨ pk wh = 6 ∨ pk wh = 7 := by omega
  clear hp
  rcases hcase with hp | hp | hp | hp | hp | hp | hp | hp
  · have HG2 : Hid (c.got ⟨wh, least, most, s, t⟩ = c.key s) := by show _ = _; simp [Cu.got, hp]
    rw [hp] at PK
    have KC := Lib.hid (first_call M0.out.drew hlt (key_any g c s _ M0.out.drew.C))
    have KR : Hid (∀ w1, Mids w w1 g q c (c.key s) wh least most s t → _) := fun w1 h1 => second_call h1 (keyR_any q c s w1 h1.R hok)
    rw [HG2.out]
    clear HG2 hp hok
    generalize c.key s = d at *
    generalize c.keyB s = b at *
    go_enter Try.func21, Try.ntmps21
    go_wp2_with fail
    refine (PK.out _).mono ?_
    rintro e w1 ⟨rfl, rfl⟩
    go_wp2_with fail
    go_region_with (first
      | (go_at_call 54; refine KC.out.mono ?_; rintro e w1 ⟨rfl, h1⟩; have H1 := Lib.hid h1; have n3 := Mids.c3 H1; clear h1)
      | (go_at_call 55; refine (KR.out _ H1.out).mono ?_; rintro e w2 ⟨rfl, h2⟩; have H2 := Lib.hid h2; clear h2))
    all_goals
      go_wp2
      go_ret
      exact ⟨by first | rfl | simp [Act.put], H2.out⟩
  · have HG2 : Hid (c.got ⟨wh, least, most, s, t⟩ = c.is s) := by show _ = _; simp [Cu.got, hp]
    rw [hp] at PK
    have KC := Lib.hid (first_call M0.out.drew hlt (isI_any g c s _ M0.out.drew.C))
    have KR : Hid (∀ w1, Mids w w1 g q c (c.is s) wh least most s t → _) := fun w1 h1 => second_call h1 (isR_any q c s w1 h1.R hok)
    rw [HG2.out]
    clear HG2 hp hok
    generalize c.is s = d at *
    generalize c.isB s = b at *
    go_enter Try.func21, Try.ntmps21
    go_wp2_with fail
    refine (PK.out _).mono ?_
    rintro e w1 ⟨rfl, rfl⟩
    go_wp2_with fail
    go_region_with (first
      | (go_at_call 28; refine KC.out.mono ?_; rintro e w1 ⟨rfl, h1⟩; have H1 := Lib.hid h1; have n3 := Mids.c3 H1; clear h1)
      | (go_at_call 56; refine (KR.out _ H1.out).mono ?_; rintro e w2 ⟨rfl, h2⟩; have H2 := Lib.hid h2; clear h2))
    all_goals
      go_wp2
      go_ret
      exact ⟨by first | rfl | simp [Act.put], H2.out⟩
  · have HG2 : Hid (c.got ⟨wh, least, most, s, t⟩ = c.name) := by show _ = _; simp [Cu.got, hp]
    rw [hp] at PK
    have KC := Lib.hid (first_call M0.out hlt (nameC_any g c _ M0.out.C))
    have KR : Hid (∀ w1, Mids w w1 g q c c.name wh least most s t → _) := fun w1 h1 => second_call h1 (nameR_any q c w1 h1.R hok)
    rw [HG2.out]
    clear HG2 hp hok
    generalize c.name = d at *
    generalize c.nameT = b at *
    go_enter Try.func21, Try.ntmps21
    go_wp2_with fail
    refine (PK.out _).mono ?_
    rintro e w1 ⟨rfl, rfl⟩
    go_wp2_with fail
    refine KC.out.mono ?_
    rintro e w1 ⟨rfl, h1⟩
    have H1 := Lib.hid h1
    clear h1
    go_wp2_with fail
    refine (KR.out _ H1.out).mono ?_
    rintro e w2 ⟨rfl, h2⟩
    have H2 := Lib.hid h2
    clear h2
    go_wp2
    go_ret
    exact ⟨by first | rfl | simp [Act.put], H2.out⟩
  · have HG2 : Hid (c.got ⟨wh, least, most, s, t⟩ = c.num least most) := by show _ = _; simp [Cu.got, hp]
    rw [hp] at PK
    have KC := Lib.hid (first_call M0.out.drew hlt (numC_any g c least most _ M0.out.drew.C))
    have KR : Hid (∀ w1, Mids w w1 g q c (c.num least most) wh least most s t → _) := fun w1 h1 => second_call h1 (numR_any q c least most w1 h1.R hok)
    rw [HG2.out]
    clear HG2 hp hok
    generalize c.num least most = d at *
    generalize c.numN least most = b at *
    go_enter Try.func21, Try.ntmps21
    go_wp2_with fail
    refine (PK.out _).mono ?_
    rintro e w1 ⟨rfl, rfl⟩
    go_wp2_with fail
    go_region_with (first
      | (go_at_call 27; refine KC.out.mono ?_; rintro e w1 ⟨rfl, h1⟩; have H1 := Lib.hid h1; have n1 := Mids.c1 H1; have n2 := Mids.c2 H1; clear h1)
      | (go_at_call 58; refine (KR.out _ H1.out).mono ?_; rintro e w2 ⟨rfl, h2⟩; have H2 := Lib.hid h2; clear h2))
    all_goals
      go_wp2
      go_ret
      exact ⟨by first | rfl | simp [Act.put], H2.out⟩
  · have HG2 : Hid (c.got ⟨wh, least, most, s, t⟩ = c.mark [s, t]) := by show _ = _; simp [Cu.got, hp]
    rw [hp] at PK
    have W2 : Hid (Mids w ((getW w wh least most s t).alloc (.cells #[.string s, .string t] 9)) g q c c wh least most s t) := by
      have hb : Below (getW w wh least most s t).heap.size (getW w wh least most s t) ((getW w wh least most s t).alloc (.cells #[.string s, .string t] 9)) := (Below.refl _ _).alloc (Nat.le_refl _) _
      have h := M0.out
      exact ⟨h.C.below hb, h.R.below hb, fun B a b e => (h.F B a b e).trans (hb.mono (by simp; omega)), h.Q.below hb h.Q.lt⟩
    have KC := Lib.hid (first_call W2.out hlt (markC_any g c [s, t] (w.heap.size + 1) 2 _ W2.out.C (by have := two_signs (getW w wh least most s t) s t; simpa using this) (by simp)))
    have KR : Hid (∀ w1, Mids w w1 g q c (c.mark [s, t]) wh least most s t → Calls Try.prog 59 #[.pointer (some ⟨q, 0, none⟩), .slice (some ⟨w1.heap.size, 0, none⟩) 2 2] (w1.alloc (.cells #[.string s, .string t] 9)) fun e w' => e = .returned (.tuple #[]) ∧ Aft w w' g q (c.mark [s, t])) := fun w1 h1 => by
      have hb : Below w1.heap.size w1 (w1.alloc (.cells #[.string s, .string t] 9)) := (Below.refl _ _).alloc (Nat.le_refl _) _
      have hz := h1.Q.lt
      have h2 : Mids w (w1.alloc (.cells #[.string s, .string t] 9)) g q c (c.mark [s, t]) wh least most s t := ⟨h1.C.below hb, h1.R.below hb, fun B a b e => (h1.F B a b e).trans (hb.mono (by omega)), h1.Q.below hb h1.Q.lt⟩
      exact second_call h2 (markR_any q c [s, t] w1.heap.size 2 _ h2.R hok (two_signs w1 s t) (by simp))
    rw [HG2.out]
    clear HG2 hp hok W2
    generalize c.mark [s, t] = d at *
    go_enter Try.func21, Try.ntmps21
    go_wp2_with fail
    refine (PK.out _).mono ?_
    rintro e w1 ⟨rfl, rfl⟩
    go_wp2_with fail
    refine KC.out.mono ?_
    rintro e w1 ⟨rfl, h1⟩
    have H1 := Lib.hid h1
    have n3 := Mids.c3 H1
    have n4 := Mids.c4 H1
    clear h1
    go_wp2_with fail
    refine (KR.out _ H1.out).mono ?_
    rintro e w2 ⟨rfl, h2⟩
    have H2 := Lib.hid h2
    clear h2
    go_wp2
    go_ret
    exact ⟨by first | rfl | simp [Act.put], H2.out⟩
  · have HG2 : Hid (c.got ⟨wh, least, most, s, t⟩ = c.end_) := by show _ = _; simp [Cu.got, hp]
    rw [hp] at PK
    have KC := Lib.hid (first_call M0.out hlt (endC_any g c _ M0.out.C))
    have KR : Hid (∀ w1, Mids w w1 g q c (c.end_) wh least most s t → _) := fun w1 h1 => second_call h1 (endR_any q c w1 h1.R hok)
    rw [HG2.out]
    clear HG2 hp hok
    generalize c.end_ = d at *
    go_enter Try.func21, Try.ntmps21
    go_wp2_with fail
    refine (PK.out _).mono ?_
    rintro e w1 ⟨rfl, rfl⟩
    go_wp2_with fail
    refine KC.out.mono ?_
    rintro e w1 ⟨rfl, h1⟩
    have H1 := Lib.hid h1
    clear h1
    go_wp2_with fail
    refine (KR.out _ H1.out).mono ?_
    rintro e w2 ⟨rfl, h2⟩
    have H2 := Lib.hid h2
    clear h2
    go_wp2
    go_ret
    exact ⟨by first | rfl | simp [Act.put], H2.out⟩
  · have HG2 : Hid (c.got ⟨wh, least, most, s, t⟩ = c.fail least) := by show _ = _; simp [Cu.got, hp]
    rw [hp] at PK
    have KC := Lib.hid (first_call M0.out hlt (failC_any g c least _ M0.out.C))
    have KR : Hid (∀ w1, Mids w w1 g q c (c.fail least) wh least most s t → _) := fun w1 h1 => second_call h1 (failR_any q c least w1 h1.R hok)
    rw [HG2.out]
    clear HG2 hp hok
    generalize c.fail least = d at *
    go_enter Try.func21, Try.ntmps21
    go_wp2_with fail
    refine (PK.out _).mono ?_
    rintro e w1 ⟨rfl, rfl⟩
    go_wp2_with fail
    refine KC.out.mono ?_
    rintro e w1 ⟨rfl, h1⟩
    have H1 := Lib.hid h1
    have n1 := Mids.c1 H1
    clear h1
    go_wp2_with fail
    refine (KR.out _ H1.out).mono ?_
    rintro e w2 ⟨rfl, h2⟩
    have H2 := Lib.hid h2
    clear h2
    go_wp2
    go_ret
    exact ⟨by first | rfl | simp [Act.put], H2.out⟩
  · have HG2 : Hid (c.got ⟨wh, least, most, s, t⟩ = c) := by show _ = _; simp [Cu.got, hp]
    rw [hp] at PK
    have H2 : Hid (Aft w (getW w wh least most s t) g q c) := ⟨M0.out.C, M0.out.R, M0.out.F⟩
    rw [HG2.out]
    clear HG2 hp hok M0
    go_enter Try.func21, Try.ntmps21
    go_wp2_with fail
    refine (PK.out _).mono ?_
    rintro e w1 ⟨rfl, rfl⟩
    go_wp2
    go_ret
    exact ⟨by first | rfl | simp [Act.put], H2.out⟩
end Go.Proofs.Ytfnmkgfaoacnpaa
