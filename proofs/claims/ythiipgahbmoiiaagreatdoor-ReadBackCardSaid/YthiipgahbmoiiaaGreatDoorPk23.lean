/-
  Both readings of a text are one. No condition beyond those that each theorem states.
  Package line's cursor over a text. No condition beyond those that each theorem states.
  Package read's reader over a cursor: its state in memory, its small calls. Conditions: the library's tables, its errors, and the Ops' names are there.
-/
import Derived.Test.YthiipgahbmoiiaaGreatDoorPk22
import Derived.Test.YthiipgahbmoiiaaGreatDoorPk15
import Derived.Test.YthiipgahbmoiiaaGreatDoorPk19
import Derived.Test.YthiipgahbmoiiaaGreatDoorPk9
import Derived.Test.YthiipgahbmoiiaaGreatDoorPk14
namespace Go.Proofs.YthiipgahbmoiiaaGreatDoor
theorem read_eq (s : ByteArray) : refRead s = (readWords s, readLine s, readCol s, readErr s) := by
  rw [← fin_last]
  exact read_same s s.size 0 s.size startRd [] 1 1 false ⟨rfl, rfl, rfl, rfl, rfl, fun h => by have h : (0 : Int) = 1 ∨ (0 : Int) = 2 := h; omega⟩ (by omega) (by omega) (by omega)
end Go.Proofs.YthiipgahbmoiiaaGreatDoor
namespace Go.Proofs.YthiipgahbmoiiaaGreatDoor
open Go.RowKit

/-- The words that are read are of the four kinds. -/
theorem go_kinds (s : ByteArray) : ∀ (f i : Nat) (out : List Wd) (l c : Int) (r : Bool), (∀ x ∈ out, x.k = 1 ∨ x.k = 2 ∨ x.k = 3 ∨ x.k = 4) → ∀ x ∈ (refGo s f out l c r i).1, x.k = 1 ∨ x.k = 2 ∨ x.k = 3 ∨ x.k = 4 := by
  intro f
  induction f with
  | zero => intro i out l c r h; rw [refGo]; exact h
  | succ f ih =>
    intro i out l c r h
    have more : ∀ y : Wd, (y.k = 1 ∨ y.k = 2 ∨ y.k = 3 ∨ y.k = 4) → ∀ x ∈ out ++ [y], x.k = 1 ∨ x.k = 2 ∨ x.k = 3 ∨ x.k = 4 := by
      intro y hy x hx
      rcases List.mem_append.1 hx with hx | hx
      · exact h x hx
      · simp at hx; subst hx; exact hy
    rw [refGo]
    by_cases hlt : i < s.size
    · rw [if_pos hlt]
      split
      · simp
      split
      · exact ih _ _ _ _ _ (more _ (by simp))
      split
      · exact ih _ _ _ _ _ h
      split
      · split
        · split
          · simp
          · exact ih _ _ _ _ _ (more _ (by simp))
        · simp
      split
      · split
        · simp
        · exact ih _ _ _ _ _ (more _ (by simp))
      split
      · exact ih _ _ _ _ _ (more _ (by simp))
      · simp
    · rw [if_neg hlt]
      exact h
theorem read_kinds (s : ByteArray) : ∀ x ∈ readWords s, x.k = 1 ∨ x.k = 2 ∨ x.k = 3 ∨ x.k = 4 := by
  have h := go_kinds s s.size 0 [] 1 1 false (by simp)
  have e := read_eq s
  unfold refRead at e
  rw [e] at h
  exact h
/-- A text has no more words than bytes. -/
theorem go_few (s : ByteArray) : ∀ (f i : Nat) (out : List Wd) (l c : Int) (r : Bool), out.length ≤ i → i ≤ s.size → (refGo s f out l c r i).1.length ≤ s.size := by
  intro f
  induction f with
  | zero => intro i out l c r h1 h2; rw [refGo]; simp only; omega
  | succ f ih =>
    intro i out l c r h1 h2
    rw [refGo]
    by_cases hlt : i < s.size
    · rw [if_pos hlt]
      have hal := atP_le s i hlt
      by_cases hm : (atP s i).2 = 0
      · rw [if_pos hm]; simp
      rw [if_neg hm]
      split
      · exact ih _ _ _ _ _ (by simp; omega) (by omega)
      split
      · exact ih _ _ _ _ _ (by omega) hal
      split
      · rename_i hz
        have hle := numLen_le s i hlt
        split
        · split
          · simp
          · exact ih _ _ _ _ _ (by unfold numEnd; simp; omega) hle
        · simp
      split
      · rename_i hl
        split
        · simp
        · have hr := runTo_le s false i h2
          have hpos : i < (runTo s false i).1 := by
            unfold runTo
            obtain ⟨q, hq⟩ : ∃ q, s.size = q + 1 := ⟨s.size - 1, by omega⟩
            rw [hq, runEnd, if_pos hlt, if_neg (by simp [stopB, hl]; omega)]
            have := (runEnd_le s false q (i + (atP s i).2) (0 + 1) hal).1
            omega
          exact ih _ _ _ _ _ (by simp; omega) hr.2.1
      split
      · exact ih _ _ _ _ _ (by simp; omega) hal
      · simp
    · rw [if_neg hlt]
      simp only
      omega
theorem read_few (s : ByteArray) : (readWords s).length ≤ s.size := by
  have h := go_few s s.size 0 [] 1 1 false (by simp) (by omega)
  have e := read_eq s
  unfold refRead at e
  rw [e] at h
  exact h
/-- A cursor over a text, before anything is got. -/
def startC (s : ByteArray) : Cu := ⟨pruned (readWords s), readLine s, readCol s, readErr s⟩
theorem start_ok (s : ByteArray) : (startC s).Ok := by
  refine ⟨fun h => ?_, fun h => ?_, pruned_kinds _ (read_kinds s)⟩
  · have h : readErr s ≠ 0 := h
    have e : readWords s = [] := by unfold readWords; unfold readErr at h; rw [if_neg h]
    show pruned (readWords s) = []
    rw [e]
    rfl
  · have h : readErr s = 0 := h
    unfold readErr at h
    exact ⟨by show readLine s = 0; unfold readLine; rw [if_pos h], by show readCol s = 0; unfold readCol; rw [if_pos h]⟩
theorem cells_of_own {w : World} {B : Nat} {e : TypeId} {a : Option Addr} {c : Nat} {ws : List Wd} (h : w.ownsRow B e 5 (.slice a ws.length c) ws.length (ws.flatMap flatW)) : CellsA w a ws := fun k x hx => by
  have hlt : k < ws.length := (List.getElem?_eq_some_iff.1 hx).1
  obtain ⟨g, cap, hv, hg, hgl⟩ := h.form (by omega)
  rw [hv] at h
  simp only [Value.slice.injEq] at hv
  exact ⟨g, hv.1, hgl, own_word h hx⟩
theorem flatI_at (xs : List Wd) (k j : Nat) (hj : j < 3) : (xs.flatMap flatI)[k * 3 + j]? = (xs[k]?).bind (fun x => (flatI x)[j]?) := by
  induction xs generalizing k with
  | nil => simp
  | cons x xs ih =>
    cases k with
    | zero =>
      simp only [List.flatMap_cons, Nat.zero_mul, Nat.zero_add, List.getElem?_cons_zero, Option.bind_some]
      rw [List.getElem?_append_left (by simp [flatI]; omega)]
    | succ k =>
      have e : (k + 1) * 3 + j = (flatI x).length + (k * 3 + j) := by simp [flatI]; omega
      rw [List.flatMap_cons, e, List.getElem?_append_right (by omega), Nat.add_sub_cancel_left, ih k]
      simp
theorem row_of_own {w : World} {B : Nat} {a : Option Addr} {c : Nat} {ws : List Wd} (h : w.ownsRow B 122 3 (.slice a ws.length c) ws.length (ws.flatMap flatI)) : RowI w a ws ∧ ws.length ≤ c ∧ c ≤ 9223372036854775807 := by
  obtain ⟨_, h2⟩ := h
  rcases h2 with ⟨hv, hn⟩ | ⟨g, cap, cur, hv, _, hh, hcap, hm, hs, ht⟩
  · have : ws = [] := List.length_eq_zero_iff.1 hn
    subst this
    simp only [Value.slice.injEq] at hv
    exact ⟨RowI.nil _ _, Nat.zero_le _, by omega⟩
  · simp only [Value.slice.injEq] at hv
    obtain ⟨rfl, _, rfl⟩ := hv
    refine ⟨fun k x hx => ⟨g, 0, cur, rfl, hh, ?_⟩, hcap, by unfold maxLen at hm; omega⟩
    have hlt : k < ws.length := (List.getElem?_eq_some_iff.1 hx).1
    have f : ∀ j, j < 3 → cur[k * 3 + j]? = (flatI x)[j]? := fun j hj => by
      have h1 := flatI_at ws k j hj
      rw [hx, ← ht, List.getElem?_take, if_pos (by omega)] at h1
      simpa using h1
    simp only [Nat.zero_add]
    exact ⟨f 0 (by omega), f 1 (by omega), f 2 (by omega)⟩
set_option maxRecDepth 100000 in
theorem overC_any (s : ByteArray) (w : World) (hz : s.size ≤ 300000) : Calls Tryz.prog 32 #[.string s] w fun e w' => ∃ g, e = .returned (.pointer (some ⟨g, 0, none⟩)) ∧ CurC w' g (startC s) ∧ w.heap.size ≤ g ∧ Below w.heap.size w w' := by
  have hfew := read_few s
  go_enter Tryz.func32, Tryz.ntmps32
  go_wp2_with fail
  refine (read_any s _ hz).mono ?_
  rintro e w1 ⟨v, rfl, ho1, hb1⟩
  obtain ⟨a, c, rfl⟩ := own_shape ho1
  have HC := Lib.hid (cells_of_own ho1)
  have HB1 := Lib.hid hb1
  clear ho1 hb1
  go_wp2_with fail
  refine (words_any (readWords s) a c w1 HC.out (by omega)).mono ?_
  rintro e w2 ⟨b, cap, rfl, ho2, hb2⟩
  have HR := Lib.hid (row_of_own ho2)
  have HB2 := Lib.hid (HB1.out.trans (hb2.mono HB1.out.size))
  clear ho2 hb2 HB1 HC
  have HE : Hid (startC s = ⟨pruned (readWords s), readLine s, readCol s, readErr s⟩) := rfl
  generalize pruned (readWords s) = P at *
  generalize readLine s = L at *
  generalize readCol s = C at *
  generalize readErr s = E at *
  go_wp2
  go_ret
  have hbn : Below w2.heap.size w2 (w2.alloc (.cells #[.slice b P.length cap, .pointer (some ⟨w2.heap.size, 0, none⟩), .int .i64 L, .int .i64 C, .int .i64 E] 116)) := (Below.refl _ _).alloc (Nat.le_refl _) _
  refine ⟨w2.heap.size, rfl, ?_, HB2.out.size, HB2.out.trans (hbn.mono HB2.out.size)⟩
  rw [HE.out]
  exact ⟨b, cap, Blk.new w2 _ _, HR.out.2.1, HR.out.2.2, HR.out.1.below hbn⟩
end Go.Proofs.YthiipgahbmoiiaaGreatDoor
namespace Go.Proofs.YthiipgahbmoiiaaGreatDoor
open Go.RowKit

/-- The tables that reading looks at. -/
structure TabQ (w : World) : Prop where
  pow : PowW w
  errs : ErrsW w
  names : NamesR w
theorem TabQ.below {w w' : World} (h : TabQ w) (hb : Below w.heap.size w w') : TabQ w' := ⟨h.pow.below hb, h.errs.below hb, h.names.below hb⟩
/-- A reader in box q, its cursor in box g, behind a world with the tables. -/
structure Rq (w0 w : World) (q g : Nat) (c : Cu) : Prop where
  C : CurC w g c
  R : Blk w q 65 #[.pointer (some ⟨g, 0, none⟩)]
  be : Below w0.heap.size w0 w
  hg : w0.heap.size ≤ g
  fit : Fit c
section
variable {w0 w w1 : World} {q g : Nat} {c d : Cu}
theorem Rq.cell (h : Rq w0 w q g c) : w.cell? ⟨q, 0, none⟩ = some (.pointer (some ⟨g, 0, none⟩)) := (Blk.cell h.R 0).trans rfl
theorem cur_blkQ {w : World} {g : Nat} {c : Cu} (h : CurC w g c) : ∃ cs, Blk w g 116 cs := by obtain ⟨_, _, hb, _⟩ := h; exact ⟨_, hb⟩
theorem Rq.call (h : Rq w0 w q g c) (hc : CurC w1 g d) (k : Keep w.heap.size g w w1) (hf : Fit d) : Rq w0 w1 q g d := by
  obtain ⟨cs, hcs⟩ := cur_blkQ h.C
  exact ⟨hc, Blk.keep h.R k (blk_ne h.R hcs (by decide)), h.be.trans (k.below h.be.size h.hg), h.hg, hf⟩
theorem Rq.below (h : Rq w0 w q g c) (hb : Below w.heap.size w w1) : Rq w0 w1 q g c :=
  ⟨h.C.below hb, h.R.below hb h.R.lt, h.be.trans (hb.mono h.be.size), h.hg, h.fit⟩
/-- What a call leaves: the reader further on, all else as it was. -/
def Gone (w0 w : World) (q g : Nat) (d : Cu) (w' : World) : Prop := Rq w0 w' q g d ∧ Keep w.heap.size g w w'
theorem Gone.refl (h : Rq w0 w q g c) : Gone w0 w q g c w := ⟨h, Keep.refl _ _ _⟩
theorem Gone.then {w2 : World} (h : Gone w0 w q g c w1) (k : Gone w0 w1 q g d w2) : Gone w0 w q g d w2 := ⟨k.1, h.2.then_keep k.2⟩
theorem gone_call (h : Rq w0 w q g c) (hf : Fit d) {F : Nat} {args : Array Value} {v : Value} (hc : Calls Tryz.prog F args w fun e w' => e = .returned v ∧ CurC w' g d ∧ Keep w.heap.size g w w') :
    Calls Tryz.prog F args w fun e w' => e = .returned v ∧ Gone w0 w q g d w' := hc.mono fun _ _ ⟨h1, h2, h3⟩ => ⟨h1, h.call h2 h3 hf, h3⟩
theorem gone_below (h : Rq w0 w q g c) {F : Nat} {args : Array Value} {v : Value} (hc : Calls Tryz.prog F args w fun e w' => e = .returned v ∧ Below w.heap.size w w') :
    Calls Tryz.prog F args w fun e w' => e = .returned v ∧ Gone w0 w q g c w' := hc.mono fun _ _ ⟨h1, h2⟩ => ⟨h1, h.below h2, Keep.of_below h2 g⟩
end
set_option maxRecDepth 100000 in
theorem keyQ_any (w0 w : World) (q g : Nat) (c : Cu) (s : ByteArray) (h : Rq w0 w q g c) :
    Calls Tryz.prog 76 #[.pointer (some ⟨q, 0, none⟩), .string s] w fun e w' => e = .returned (.tuple #[]) ∧ Gone w0 w q g (c.keyedP s) w' := by
  have K := Lib.hid (gone_call h (h.fit.key s) (key_any g c s w h.C))
  have F : Hid (∀ w1, Rq w0 w1 q g (c.key s) → Calls Tryz.prog 80 #[.pointer (some ⟨g, 0, none⟩), .int .i64 7] w1 fun e w' => e = .returned (.tuple #[]) ∧ Gone w0 w1 q g ((c.key s).fail 7) w') := fun w1 h1 => gone_call h1 (h1.fit.fail 7) (failC_any g _ 7 w1 h1.C)
  have m0 := h.cell
  have E : Hid (c.keyedP s = if c.keyB s then c.key s else (c.key s).fail 7) := rfl
  clear h
  generalize c.keyedP s = D at *
  generalize c.key s = c1 at *
  cases hb : c.keyB s
  · rw [hb] at K E
    clear hb
    go_enter Tryz.func76, Tryz.ntmps76
    go_wp2_with fail
    refine K.out.mono ?_
    rintro e w1 ⟨rfl, h1⟩
    have W1 := Lib.hid h1
    have F1 := Lib.hid (F.out w1 h1.1)
    have m1 := h1.1.cell
    clear h1 F K m0
    go_wp2_with fail
    refine F1.out.mono ?_
    rintro e w2 ⟨rfl, h2⟩
    have W2 := Lib.hid (W1.out.then h2)
    clear h2 F1
    go_wp2
    go_end0
    exact ⟨rfl, by rw [E.out]; exact W2.out⟩
  · rw [hb] at K E
    clear hb
    go_enter Tryz.func76, Tryz.ntmps76
    go_wp2_with fail
    refine K.out.mono ?_
    rintro e w1 ⟨rfl, h1⟩
    have W1 := Lib.hid h1
    clear h1 F K m0
    go_wp2
    go_end0
    exact ⟨rfl, by rw [E.out]; exact W1.out⟩
/-- A variable that may be next. -/
def Cu.vaN (c : Cu) : Int := (varT c.nameT : Nat)
def Cu.vaC (c : Cu) : Cu := if varT c.nameT = 0 then c.fail 7 else c.name
theorem Fit.vaC {c : Cu} (h : Fit c) : Fit c.vaC := by unfold Cu.vaC; split; exact h.fail 7; exact h.name
theorem va_len (c : Cu) : c.vaC.left.length ≤ c.left.length := by unfold Cu.vaC; split; exact mp_fail_len c _; exact mp_name_len c
set_option maxRecDepth 100000 in
theorem vaQ_any (w0 w : World) (q g : Nat) (c : Cu) (hT : TabQ w0) (h : Rq w0 w q g c) :
    Calls Tryz.prog 125 #[.pointer (some ⟨q, 0, none⟩)] w fun e w' => e = .returned (.int .i64 c.vaN) ∧ Gone w0 w q g c.vaC w' := by
  have P := Lib.hid (gone_below h (peek_any g c w h.C))
  have N : Hid (∀ w1, Rq w0 w1 q g c → Calls Tryz.prog 123 #[.string c.nameT] w1 fun e w' => e = .returned (.int .i64 (varT c.nameT : Nat)) ∧ Gone w0 w1 q g c w') := fun w1 h1 =>
    gone_below h1 (variableOf_any c.nameT w1 (by have := h1.fit.nameT; omega) (hT.pow.below h1.be) (hT.errs.below h1.be))
  have F : Hid (∀ w1, Rq w0 w1 q g c → Calls Tryz.prog 80 #[.pointer (some ⟨g, 0, none⟩), .int .i64 7] w1 fun e w' => e = .returned (.tuple #[]) ∧ Gone w0 w1 q g (c.fail 7) w') := fun w1 h1 => gone_call h1 (h1.fit.fail 7) (failC_any g c 7 w1 h1.C)
  have NM : Hid (∀ w1, Rq w0 w1 q g c → Calls Tryz.prog 164 #[.pointer (some ⟨g, 0, none⟩)] w1 fun e w' => e = .returned (.string c.nameT) ∧ Gone w0 w1 q g c.name w') := fun w1 h1 => gone_call h1 h1.fit.name (nameC_any g c w1 h1.C)
  have m0 := h.cell
  clear h
  unfold Cu.vaN Cu.vaC
  generalize hv : varT c.nameT = v at *
  generalize c.nameT = nt at *
  clear hv
  by_cases h0 : v = 0
  · rw [if_pos h0]
    have h0' : (v : Int) = 0 := by omega
    rw [h0'] at N ⊢
    clear NM h0 h0'
    go_enter Tryz.func125, Tryz.ntmps125
    go_wp2_with fail
    refine P.out.mono ?_
    rintro e w1 ⟨rfl, h1⟩
    have W1 := Lib.hid h1
    have N1 := Lib.hid (N.out w1 h1.1)
    clear h1 N P m0
    go_wp2_with fail
    refine N1.out.mono ?_
    rintro e w2 ⟨rfl, h2⟩
    have W2 := Lib.hid (W1.out.then h2)
    have F1 := Lib.hid (F.out w2 h2.1)
    have m2 := h2.1.cell
    clear h2 N1 W1 F
    go_wp2_with fail
    refine F1.out.mono ?_
    rintro e w3 ⟨rfl, h3⟩
    have W3 := Lib.hid (W2.out.then h3)
    clear h3 F1 W2 m2
    go_wp2
    go_ret
    exact ⟨rfl, W3.out⟩
  · rw [if_neg h0]
    have h0' : ¬ (v : Int) = 0 := by omega
    clear F h0
    generalize (v : Int) = vi at *
    go_enter Tryz.func125, Tryz.ntmps125
    go_wp2_with fail
    refine P.out.mono ?_
    rintro e w1 ⟨rfl, h1⟩
    have W1 := Lib.hid h1
    have N1 := Lib.hid (N.out w1 h1.1)
    clear h1 N P m0
    go_wp2_with fail
    refine N1.out.mono ?_
    rintro e w2 ⟨rfl, h2⟩
    have W2 := Lib.hid (W1.out.then h2)
    have F1 := Lib.hid (NM.out w2 h2.1)
    have m2 := h2.1.cell
    clear h2 N1 W1 NM
    go_wp2_with fail
    refine F1.out.mono ?_
    rintro e w3 ⟨rfl, h3⟩
    have W3 := Lib.hid (W2.out.then h3)
    clear h3 F1 W2 m2
    go_wp2
    go_ret
    exact ⟨rfl, W3.out⟩
/-- A direct call of the cursor's Num through the reader. -/
theorem num_gone {w0 w : World} {q g : Nat} {c : Cu} (a b : Int) (h : Rq w0 w q g c) : Calls Tryz.prog 128 #[.pointer (some ⟨g, 0, none⟩), .int .i64 a, .int .i64 b] w fun e w' => e = .returned (.int .i64 (c.numN a b)) ∧ Gone w0 w q g (c.num a b) w' :=
  gone_call h (h.fit.num a b) (numC_any g c a b w h.C)
set_option maxRecDepth 100000 in
theorem toQ_any (w0 w : World) (q g : Nat) (c : Cu) (h : Rq w0 w q g c) :
    Calls Tryz.prog 171 #[.pointer (some ⟨q, 0, none⟩)] w fun e w' => e = .returned (.int .i64 (c.numN 0 63)) ∧ Gone w0 w q g (c.num 0 63) w' := by
  have K := Lib.hid (num_gone 0 63 h)
  have m0 := h.cell
  clear h
  go_enter Tryz.func171, Tryz.ntmps171
  go_wp2_with fail
  refine K.out.mono ?_
  rintro e w1 ⟨rfl, h1⟩
  have W1 := Lib.hid h1
  clear h1 K m0
  go_wp2
  go_ret
  exact ⟨rfl, W1.out⟩
set_option maxRecDepth 100000 in
theorem immQ_any (w0 w : World) (q g : Nat) (c : Cu) (h : Rq w0 w q g c) :
    Calls Tryz.prog 167 #[.pointer (some ⟨q, 0, none⟩)] w fun e w' => e = .returned (.int .i64 (c.numN (-1099511627776) 1099511627776)) ∧ Gone w0 w q g (c.num (-1099511627776) 1099511627776) w' := by
  have K := Lib.hid (num_gone (-1099511627776) 1099511627776 h)
  have m0 := h.cell
  clear h
  go_enter Tryz.func167, Tryz.ntmps167
  go_wp2_with fail
  refine K.out.mono ?_
  rintro e w1 ⟨rfl, h1⟩
  have W1 := Lib.hid h1
  clear h1 K m0
  go_wp2
  go_ret
  exact ⟨rfl, W1.out⟩
/-- Whether there is one more word in a line, behind so many variables. -/
def Cu.anoC (c : Cu) (m : Nat) : Cu := if m = 8 ∧ c.ends = false then c.fail 3 else c
def Cu.anoB (c : Cu) (m : Nat) : Bool := !(c.anoC m).ends
theorem Fit.anoC {c : Cu} (h : Fit c) (m : Nat) : Fit (c.anoC m) := by unfold Cu.anoC; split; exact h.fail 3; exact h
theorem ends_gone {q g : Nat} {w0 w : World} {c : Cu} (h : Rq w0 w q g c) : Calls Tryz.prog 161 #[.pointer (some ⟨g, 0, none⟩)] w fun e w' => e = .returned (.bool c.ends) ∧ Gone w0 w q g c w' := gone_below h (ends_any g c w h.C)
set_option maxRecDepth 100000 in
set_option maxHeartbeats 4000000 in
theorem anotherQ_any (w0 w : World) (q g : Nat) (c : Cu) (m : Nat) (h : Rq w0 w q g c) :
    Calls Tryz.prog 122 #[.pointer (some ⟨q, 0, none⟩), .int .i64 m] w fun e w' => e = .returned (.bool (c.anoB m)) ∧ Gone w0 w q g (c.anoC m) w' := by
  have EN : Hid (∀ (d : Cu) W, Rq w0 W q g d → Calls Tryz.prog 161 #[.pointer (some ⟨g, 0, none⟩)] W fun e w' => e = .returned (.bool d.ends) ∧ Gone w0 W q g d w') := fun d W h => ends_gone h
  have FL : Hid (∀ W, Rq w0 W q g c → Calls Tryz.prog 80 #[.pointer (some ⟨g, 0, none⟩), .int .i64 3] W fun e w' => e = .returned (.tuple #[]) ∧ Gone w0 W q g (c.fail 3) w') := fun W h => gone_call h (h.fit.fail 3) (failC_any g c 3 W h.C)
  have W0 := Lib.hid (Gone.refl h)
  have m0 := h.cell
  have HC : Hid (c.anoC m = if m = 8 ∧ c.ends = false then c.fail 3 else c) := rfl
  have HB : Hid (c.anoB m = !(c.anoC m).ends) := rfl
  rw [HB.out]
  clear h HB
  by_cases hm : m = 8
  · subst hm
    cases he : c.ends
    · have hE := HC.out
      rw [if_pos ⟨rfl, he⟩] at hE
      rw [hE]
      have E1 := Lib.hid (EN.out c)
      have E2 := Lib.hid (EN.out (c.fail 3))
      rw [he] at E1
      clear hE HC he EN
      generalize (c.fail 3).ends = b at *
      generalize c.fail 3 = d at *
      rw [show ((8 : Nat) : Int) = 8 from rfl]
      go_enter Tryz.func122, Tryz.ntmps122
      go_wp2_with fail
      refine (E1.out _ W0.out.1).mono ?_
      rintro e w1 ⟨rfl, h1⟩
      have W1 := Lib.hid (W0.out.then h1)
      have m1 := h1.1.cell
      clear h1 W0 E1 m0
      go_wp2_with fail
      refine (FL.out _ W1.out.1).mono ?_
      rintro e w2 ⟨rfl, h2⟩
      have W2 := Lib.hid (W1.out.then h2)
      have m2 := h2.1.cell
      clear h2 W1 FL m1
      go_wp2_with fail
      refine (E2.out _ W2.out.1).mono ?_
      rintro e w3 ⟨rfl, h3⟩
      have W3 := Lib.hid (W2.out.then h3)
      clear h3 W2 E2 m2
      go_wp2
      go_ret
      exact ⟨rfl, W3.out⟩
    · have hE := HC.out
      rw [if_neg (by rw [he]; rintro ⟨_, h⟩; cases h)] at hE
      rw [hE, he]
      have E1 := Lib.hid (EN.out c)
      rw [he] at E1
      clear hE HC he EN FL
      rw [show ((8 : Nat) : Int) = 8 from rfl]
      go_enter Tryz.func122, Tryz.ntmps122
      go_wp2_with fail
      refine (E1.out _ W0.out.1).mono ?_
      rintro e w1 ⟨rfl, h1⟩
      have W1 := Lib.hid (W0.out.then h1)
      have m1 := h1.1.cell
      clear h1 W0 m0
      go_wp2_with fail
      refine (E1.out _ W1.out.1).mono ?_
      rintro e w2 ⟨rfl, h2⟩
      have W2 := Lib.hid (W1.out.then h2)
      clear h2 W1 E1 m1
      go_wp2
      go_ret
      exact ⟨rfl, W2.out⟩
  · have hE := HC.out
    rw [if_neg (fun h => hm h.1)] at hE
    rw [hE]
    have hm' : ¬ (m : Int) = 8 := by omega
    have hmb : ((m : Int) == 8) = false := by simpa using hm'
    have E1 := Lib.hid (EN.out c)
    clear hE HC EN FL hm
    generalize c.ends = b at *
    go_enter Tryz.func122, Tryz.ntmps122
    go_wp2_with fail
    refine (E1.out _ W0.out.1).mono ?_
    rintro e w1 ⟨rfl, h1⟩
    have W1 := Lib.hid (W0.out.then h1)
    clear h1 W0 E1 m0
    go_wp2
    go_ret
    exact ⟨rfl, W1.out⟩
end Go.Proofs.YthiipgahbmoiiaaGreatDoor
