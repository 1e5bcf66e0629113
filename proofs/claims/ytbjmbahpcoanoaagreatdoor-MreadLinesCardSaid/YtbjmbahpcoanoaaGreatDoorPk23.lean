/-
  Both readings of a text are one. No condition beyond those that each theorem states.
  Package line's cursor over a text. No condition beyond those that each theorem states.
  Package mread's reader over a cursor: its state in memory, its small calls. Conditions: the library's tables, its errors, and the Ops' names are there.
-/
import Derived.Test.YtbjmbahpcoanoaaGreatDoorPk22
import Derived.Test.YtbjmbahpcoanoaaGreatDoorPk17
import Derived.Test.YtbjmbahpcoanoaaGreatDoorPk20
import Derived.Test.YtbjmbahpcoanoaaGreatDoorPk13
import Derived.Test.YtbjmbahpcoanoaaGreatDoorPk16
namespace Go.Proofs.YtbjmbahpcoanoaaGreatDoor
theorem read_eq (s : ByteArray) : refRead s = (readWords s, readLine s, readCol s, readErr s) := by
 rw [← fin_last]
 exact read_same s s.size 0 s.size startRd [] 1 1 false ⟨rfl, rfl, rfl, rfl, rfl, fun h => by have h : (0 : Int) = 1 ∨ (0 : Int) = 2 := h; omega⟩ (by omega) (by omega) (by omega)
end Go.Proofs.YtbjmbahpcoanoaaGreatDoor
namespace Go.Proofs.YtbjmbahpcoanoaaGreatDoor
open Go.RowKit

/-- The words that are read are of the four kinds. -/
theorem go_kinds (s : ByteArray) : ∀ (f i : Nat) (out : List Wd) (l c : Int) (r : Bool), (∀ x ∈ out, x.k = 1 ∨ x.k = 2 ∨ x.k = 3 ∨ x.k = 4) → ∀ x ∈ (refGo s f out l c r i).1, x.k = 1 ∨ x.k = 2 ∨ x.k = 3 ∨ x.k = 4 := by
 intro f
 induction f with
 | zero => intro i out l c r h; rw [refGo]; exact h
 | succ f ih =>
  intro i out l c r h
  have more : ∀ y : Wd, (y.k = 1 ∨ y.k = 2 ∨ y.k = 3 ∨ y.k = 4) → ∀ x ∈ out ++ [y], x.k = 1 ∨ x.k = 2 ∨ x.k = 3 ∨ x.k = 4 := by
   intro y hy x hx
   rcases List.mem_append.1 hx with hx | hx
   · exact h x hx
   · simp at hx; subst hx; exact hy
  rw [refGo]
  by_cases hlt : i < s.size
  · rw [if_pos hlt]
    split
    · simp
    split
    · exact ih _ _ _ _ _ (more _ (by simp))
    split
    · exact ih _ _ _ _ _ h
    split
    · split
      · split
        · simp
        · exact ih _ _ _ _ _ (more _ (by simp))
      · simp
    split
    · split
      · simp
      · exact ih _ _ _ _ _ (more _ (by simp))
    split
    · exact ih _ _ _ _ _ (more _ (by simp))
    · simp
  · rw [if_neg hlt]
    exact h
theorem read_kinds (s : ByteArray) : ∀ x ∈ readWords s, x.k = 1 ∨ x.k = 2 ∨ x.k = 3 ∨ x.k = 4 := by
 have h := go_kinds s s.size 0 [] 1 1 false (by simp)
 have e := read_eq s
 unfold refRead at e
 rw [e] at h
 exact h
/-- A text has no more words than bytes. -/
theorem go_few (s : ByteArray) : ∀ (f i : Nat) (out : List Wd) (l c : Int) (r : Bool), out.length ≤ i → i ≤ s.size → (refGo s f out l c r i).1.length ≤ s.size := by
 intro f
 induction f with
 | zero => intro i out l c r h1 h2; rw [refGo]; simp only; omega
 | succ f ih =>
  intro i out l c r h1 h2
  rw [refGo]
  by_cases hlt : i < s.size
  · rw [if_pos hlt]
    have hal := atP_le s i hlt
    by_cases hm : (atP s i).2 = 0
    · rw [if_pos hm]; simp
    rw [if_neg hm]
    split
    · exact ih _ _ _ _ _ (by simp; omega) (by omega)
    split
    · exact ih _ _ _ _ _ (by omega) hal
    split
    · rename_i hz
      have hle := numLen_le s i hlt
      split
      · split
        · simp
        · exact ih _ _ _ _ _ (by unfold numEnd; simp; omega) hle
      · simp
    split
    · rename_i hl
      split
      · simp
      · have hr := runTo_le s false i h2
        have hpos : i < (runTo s false i).1 := by
         unfold runTo
         obtain ⟨q, hq⟩ : ∃ q, s.size = q + 1 := ⟨s.size - 1, by omega⟩
         rw [hq, runEnd, if_pos hlt, if_neg (by simp [stopB, hl]; omega)]
         have := (runEnd_le s false q (i + (atP s i).2) (0 + 1) hal).1
         omega
        exact ih _ _ _ _ _ (by simp; omega) hr.2.1
    split
    · exact ih _ _ _ _ _ (by simp; omega) hal
    · simp
  · rw [if_neg hlt]
    simp only
    omega
theorem read_few (s : ByteArray) : (readWords s).length ≤ s.size := by
 have h := go_few s s.size 0 [] 1 1 false (by simp) (by omega)
 have e := read_eq s
 unfold refRead at e
 rw [e] at h
 exact h
/-- A cursor over a text, before anything is got. -/
def startC (s : ByteArray) : Cu := ⟨pruned (readWords s), readLine s, readCol s, readErr s⟩
theorem start_ok (s : ByteArray) : (startC s).Ok := by
 refine ⟨fun h => ?_, fun h => ?_, pruned_kinds _ (read_kinds s)⟩
 · have h : readErr s ≠ 0 := h
   have e : readWords s = [] := by unfold readWords; unfold readErr at h; rw [if_neg h]
   show pruned (readWords s) = []
   rw [e]
   rfl
 · have h : readErr s = 0 := h
   unfold readErr at h
   exact ⟨by show readLine s = 0; unfold readLine; rw [if_pos h], by show readCol s = 0; unfold readCol; rw [if_pos h]⟩
theorem cells_of_own {w : World} {B : Nat} {e : TypeId} {a : Option Addr} {c : Nat} {ws : List Wd} (h : w.ownsRow B e 5 (.slice a ws.length c) ws.length (ws.flatMap flatW)) : CellsA w a ws := fun k x hx => by
 have hlt : k < ws.length := (List.getElem?_eq_some_iff.1 hx).1
 obtain ⟨g, cap, hv, hg, hgl⟩ := h.form (by omega)
 rw [hv] at h
 simp only [Value.slice.injEq] at hv
 exact ⟨g, hv.1, hgl, own_word h hx⟩
theorem flatI_at (xs : List Wd) (k j : Nat) (hj : j < 3) : (xs.flatMap flatI)[k * 3 + j]? = (xs[k]?).bind (fun x => (flatI x)[j]?) := by
 induction xs generalizing k with
 | nil => simp
 | cons x xs ih =>
  cases k with
  | zero =>
   simp only [List.flatMap_cons, Nat.zero_mul, Nat.zero_add, List.getElem?_cons_zero, Option.bind_some]
   rw [List.getElem?_append_left (by simp [flatI]; omega)]
  | succ k =>
   have e : (k + 1) * 3 + j = (flatI x).length + (k * 3 + j) := by simp [flatI]; omega
   rw [List.flatMap_cons, e, List.getElem?_append_right (by omega), Nat.add_sub_cancel_left, ih k]
   simp
theorem row_of_own {w : World} {B : Nat} {a : Option Addr} {c : Nat} {ws : List Wd} (h : w.ownsRow B 113 3 (.slice a ws.length c) ws.length (ws.flatMap flatI)) : RowI w a ws ∧ ws.length ≤ c ∧ c ≤ 9223372036854775807 := by
 obtain ⟨_, h2⟩ := h
 rcases h2 with ⟨hv, hn⟩ | ⟨g, cap, cur, hv, _, hh, hcap, hm, hs, ht⟩
 · have : ws = [] := List.length_eq_zero_iff.1 hn
   subst this
   simp only [Value.slice.injEq] at hv
   exact ⟨RowI.nil _ _, Nat.zero_le _, by omega⟩
 · simp only [Value.slice.injEq] at hv
   obtain ⟨rfl, _, rfl⟩ := hv
   refine ⟨fun k x hx => ⟨g, 0, cur, rfl, hh, ?_⟩, hcap, by unfold maxLen at hm; omega⟩
   have hlt : k < ws.length := (List.getElem?_eq_some_iff.1 hx).1
   have f : ∀ j, j < 3 → cur[k * 3 + j]? = (flatI x)[j]? := fun j hj => by
    have h1 := flatI_at ws k j hj
    rw [hx, ← ht, List.getElem?_take, if_pos (by omega)] at h1
    simpa using h1
   simp only [Nat.zero_add]
   exact ⟨f 0 (by omega), f 1 (by omega), f 2 (by omega)⟩
set_option maxRecDepth 100000 in
theorem overC_any (s : ByteArray) (w : World) (hz : s.size ≤ 300000) : Calls Tryz.prog 29 #[.string s] w fun e w' => ∃ g, e = .returned (.pointer (some ⟨g, 0, none⟩)) ∧ CurC w' g (startC s) ∧ w.heap.size ≤ g ∧ Below w.heap.size w w' := by
 have hfew := read_few s
 go_enter Tryz.func29, Tryz.ntmps29
 go_wp2_with fail
 refine (read_any s _ hz).mono ?_
 rintro e w1 ⟨v, rfl, ho1, hb1⟩
 obtain ⟨a, c, rfl⟩ := own_shape ho1
 have HC := Lib.hid (cells_of_own ho1)
 have HB1 := Lib.hid hb1
 clear ho1 hb1
 go_wp2_with fail
 refine (words_any (readWords s) a c w1 HC.out (by omega)).mono ?_
 rintro e w2 ⟨b, cap, rfl, ho2, hb2⟩
 have HR := Lib.hid (row_of_own ho2)
 have HB2 := Lib.hid (HB1.out.trans (hb2.mono HB1.out.size))
 clear ho2 hb2 HB1 HC
 have HE : Hid (startC s = ⟨pruned (readWords s), readLine s, readCol s, readErr s⟩) := rfl
 generalize pruned (readWords s) = P at *
 generalize readLine s = L at *
 generalize readCol s = C at *
 generalize readErr s = E at *
 go_wp2
 go_ret
 have hbn : Below w2.heap.size w2 (w2.alloc (.cells #[.slice b P.length cap, .pointer (some ⟨w2.heap.size, 0, none⟩), .int .i64 L, .int .i64 C, .int .i64 E] 108)) := (Below.refl _ _).alloc (Nat.le_refl _) _
 refine ⟨w2.heap.size, rfl, ?_, HB2.out.size, HB2.out.trans (hbn.mono HB2.out.size)⟩
 rw [HE.out]
 exact ⟨b, cap, Blk.new w2 _ _, HR.out.2.1, HR.out.2.2, HR.out.1.below hbn⟩
end Go.Proofs.YtbjmbahpcoanoaaGreatDoor
namespace Go.Proofs.YtbjmbahpcoanoaaGreatDoor
open Go.RowKit

/-- A cursor that fits: few words, none too long. -/
structure Fit (c : Cu) : Prop where
 ok : c.Ok
 few : c.left.length ≤ 1000000
 txt : ∀ x ∈ c.left, x.t.size ≤ 300000
theorem Fit.pass {c : Cu} (h : Fit c) : Fit c.pass := ⟨h.ok.pass, by show c.left.tail.length ≤ _; have := h.few; rw [List.length_tail]; omega, fun x hx => h.txt x (List.mem_of_mem_tail hx)⟩
theorem Fit.fail {c : Cu} (h : Fit c) (e : Int) : Fit (c.fail e) := by
 refine ⟨h.ok.fail e, ?_, fun x hx => ?_⟩
 · unfold Cu.fail; split
   · exact h.few
   · simp
 · unfold Cu.fail at hx; split at hx
   · exact h.txt x hx
   · simp at hx
theorem Fit.over {c : Cu} (h : Fit c) (b : Bool) : Fit (c.over b) := by cases b; exact h; exact h.pass
theorem Fit.key {c : Cu} (h : Fit c) (s : ByteArray) : Fit (c.key s) := h.over _
theorem Fit.is {c : Cu} (h : Fit c) (s : ByteArray) : Fit (c.is s) := h.over _
theorem Fit.name {c : Cu} (h : Fit c) : Fit c.name := by unfold Cu.name; split; exact h.pass; exact h.fail _
theorem Fit.num {c : Cu} (h : Fit c) (a b : Int) : Fit (c.num a b) := by
 unfold Cu.num
 split
 · split
   · exact h.pass
   · exact h.fail _
 · exact h.fail _
theorem Fit.mark {c : Cu} (h : Fit c) : ∀ l, Fit (c.mark l) := fun l => by
 induction l generalizing c with
 | nil => exact h
 | cons s r ih =>
  unfold Cu.mark
  split
  · exact ih (h.is s)
  · exact h.fail _
theorem Fit.end_ {c : Cu} (h : Fit c) : Fit c.end_ := by
 unfold Cu.end_
 split
 · exact h.pass
 · split
   · exact h.fail _
   · exact h
theorem Fit.nameT {c : Cu} (h : Fit c) : c.nameT.size ≤ 300000 := by
 unfold Cu.nameT nameP
 cases hl : c.left with
 | nil => exact Nat.zero_le _
 | cons x l =>
  simp only [List.head?_cons]
  split
  · exact h.txt x (by rw [hl]; simp)
  · exact Nat.zero_le _
/-- The tables that reading looks at. -/
structure TabR (w : World) : Prop where
 pow : PowW w
 errs : ErrsW w
 names : NamesW w
theorem TabR.below {w w' : World} (h : TabR w) (hb : Below w.heap.size w w') : TabR w' := ⟨h.pow.below hb, h.errs.below hb, h.names.below hb⟩
/-- A reader in box q, its cursor in box g, behind a world with the tables. -/
structure Rp (w0 w : World) (q g : Nat) (c : Cu) : Prop where
 C : CurC w g c
 R : Blk w q 64 #[.pointer (some ⟨g, 0, none⟩)]
 be : Below w0.heap.size w0 w
 hg : w0.heap.size ≤ g
 fit : Fit c
section
variable {w0 w w1 : World} {q g : Nat} {c d : Cu}
theorem Rp.cell (h : Rp w0 w q g c) : w.cell? ⟨q, 0, none⟩ = some (.pointer (some ⟨g, 0, none⟩)) := (Blk.cell h.R 0).trans rfl
theorem cur_blk {w : World} {g : Nat} {c : Cu} (h : CurC w g c) : ∃ cs, Blk w g 108 cs := by obtain ⟨_, _, hb, _⟩ := h; exact ⟨_, hb⟩
theorem Rp.call (h : Rp w0 w q g c) (hc : CurC w1 g d) (k : Keep w.heap.size g w w1) (hf : Fit d) : Rp w0 w1 q g d := by
 obtain ⟨cs, hcs⟩ := cur_blk h.C
 exact ⟨hc, Blk.keep h.R k (blk_ne h.R hcs (by decide)), h.be.trans (k.below h.be.size h.hg), h.hg, hf⟩
theorem Rp.below (h : Rp w0 w q g c) (hb : Below w.heap.size w w1) : Rp w0 w1 q g c :=
 ⟨h.C.below hb, h.R.below hb h.R.lt, h.be.trans (hb.mono h.be.size), h.hg, h.fit⟩
/-- What a call leaves: the reader further on, all else as it was. -/
def Went (w0 w : World) (q g : Nat) (d : Cu) (w' : World) : Prop := Rp w0 w' q g d ∧ Keep w.heap.size g w w'
theorem Went.refl (h : Rp w0 w q g c) : Went w0 w q g c w := ⟨h, Keep.refl _ _ _⟩
theorem Went.then {w2 : World} (h : Went w0 w q g c w1) (k : Went w0 w1 q g d w2) : Went w0 w q g d w2 := ⟨k.1, h.2.then_keep k.2⟩
theorem went_call (h : Rp w0 w q g c) (hf : Fit d) {F : Nat} {args : Array Value} {v : Value} (hc : Calls Tryz.prog F args w fun e w' => e = .returned v ∧ CurC w' g d ∧ Keep w.heap.size g w w') :
    Calls Tryz.prog F args w fun e w' => e = .returned v ∧ Went w0 w q g d w' := hc.mono fun _ _ ⟨h1, h2, h3⟩ => ⟨h1, h.call h2 h3 hf, h3⟩
theorem went_below (h : Rp w0 w q g c) {F : Nat} {args : Array Value} {v : Value} (hc : Calls Tryz.prog F args w fun e w' => e = .returned v ∧ Below w.heap.size w w') :
    Calls Tryz.prog F args w fun e w' => e = .returned v ∧ Went w0 w q g c w' := hc.mono fun _ _ ⟨h1, h2⟩ => ⟨h1, h.below h2, Keep.of_below h2 g⟩
end
def Cu.keyedP (c : Cu) (s : ByteArray) : Cu := if c.keyB s then c.key s else (c.key s).fail 7
/-- A register, a slot that may be next. -/
def Cu.regC (c : Cu) : Cu := match regT c.nameT with | some _ => c.name | none => c.fail 7
def Cu.regN (c : Cu) : Int := match regT c.nameT with | some n => (n : Int) | none => 0
def Cu.slotB (c : Cu) : Bool := (slotT c.nameT).isSome
def Cu.slotN (c : Cu) : Int := ((slotT c.nameT).getD 0 : Nat)
def Cu.slotC (c : Cu) : Cu := if c.slotB then c.name else c
theorem Fit.keyedP {c : Cu} (h : Fit c) (s : ByteArray) : Fit (c.keyedP s) := by unfold Cu.keyedP; split; exact h.key s; exact (h.key s).fail 7
theorem Fit.regC {c : Cu} (h : Fit c) : Fit c.regC := by unfold Cu.regC; split; exact h.name; exact h.fail 7
theorem Fit.slotC {c : Cu} (h : Fit c) : Fit c.slotC := by unfold Cu.slotC; split; exact h.name; exact h
set_option maxRecDepth 100000 in
theorem keyP_any (w0 w : World) (q g : Nat) (c : Cu) (s : ByteArray) (h : Rp w0 w q g c) :
    Calls Tryz.prog 68 #[.pointer (some ⟨q, 0, none⟩), .string s] w fun e w' => e = .returned (.tuple #[]) ∧ Went w0 w q g (c.keyedP s) w' := by
 have K := Lib.hid (went_call h (h.fit.key s) (key_any g c s w h.C))
 have F : Hid (∀ w1, Rp w0 w1 q g (c.key s) → Calls Tryz.prog 72 #[.pointer (some ⟨g, 0, none⟩), .int .i64 7] w1 fun e w' => e = .returned (.tuple #[]) ∧ Went w0 w1 q g ((c.key s).fail 7) w') := fun w1 h1 => went_call h1 (h1.fit.fail 7) (failC_any g _ 7 w1 h1.C)
 have m0 := h.cell
 have E : Hid (c.keyedP s = if c.keyB s then c.key s else (c.key s).fail 7) := rfl
 clear h
 generalize c.keyedP s = D at *
 generalize c.key s = c1 at *
 cases hb : c.keyB s
 · rw [hb] at K E
   clear hb
   go_enter Tryz.func68, Tryz.ntmps68
   go_wp2_with fail
   refine K.out.mono ?_
   rintro e w1 ⟨rfl, h1⟩
   have W1 := Lib.hid h1
   have F1 := Lib.hid (F.out w1 h1.1)
   have m1 := h1.1.cell
   clear h1 F K m0
   go_wp2_with fail
   refine F1.out.mono ?_
   rintro e w2 ⟨rfl, h2⟩
   have W2 := Lib.hid (W1.out.then h2)
   clear h2 F1
   go_wp2
   go_end0
   exact ⟨rfl, by rw [E.out]; exact W2.out⟩
 · rw [hb] at K E
   clear hb
   go_enter Tryz.func68, Tryz.ntmps68
   go_wp2_with fail
   refine K.out.mono ?_
   rintro e w1 ⟨rfl, h1⟩
   have W1 := Lib.hid h1
   clear h1 F K m0
   go_wp2
   go_end0
   exact ⟨rfl, by rw [E.out]; exact W1.out⟩
set_option maxRecDepth 100000 in
theorem regP_any (w0 w : World) (q g : Nat) (c : Cu) (hT : TabR w0) (h : Rp w0 w q g c) :
    Calls Tryz.prog 157 #[.pointer (some ⟨q, 0, none⟩)] w fun e w' => e = .returned (.int .i64 c.regN) ∧ Went w0 w q g c.regC w' := by
 have P := Lib.hid (went_below h (peek_any g c w h.C))
 have N : Hid (∀ w1, Rp w0 w1 q g c → Calls Tryz.prog 184 #[.string c.nameT] w1 fun e w' => e = .returned (.tuple #[.int .i64 ((regT c.nameT).getD 0 : Nat), .bool (regT c.nameT).isSome]) ∧ Went w0 w1 q g c w') := fun w1 h1 =>
  went_below h1 (regOf_any c.nameT w1 (by have := h1.fit.nameT; omega) (hT.pow.below h1.be) (hT.errs.below h1.be))
 have F : Hid (∀ w1, Rp w0 w1 q g c → Calls Tryz.prog 72 #[.pointer (some ⟨g, 0, none⟩), .int .i64 7] w1 fun e w' => e = .returned (.tuple #[]) ∧ Went w0 w1 q g (c.fail 7) w') := fun w1 h1 => went_call h1 (h1.fit.fail 7) (failC_any g _ 7 w1 h1.C)
 have NM : Hid (∀ w1, Rp w0 w1 q g c → Calls Tryz.prog 186 #[.pointer (some ⟨g, 0, none⟩)] w1 fun e w' => e = .returned (.string c.nameT) ∧ Went w0 w1 q g c.name w') := fun w1 h1 => went_call h1 h1.fit.name (nameC_any g c w1 h1.C)
 have m0 := h.cell
 clear h
 unfold Cu.regN Cu.regC
 cases hr : regT c.nameT with
 | none =>
  rw [hr] at N
  simp only [Option.getD_none, Option.isSome_none] at N
  clear hr NM
  generalize c.nameT = nt at *
  go_enter Tryz.func157, Tryz.ntmps157
  go_wp2_with fail
  refine P.out.mono ?_
  rintro e w1 ⟨rfl, h1⟩
  have W1 := Lib.hid h1
  have N1 := Lib.hid (N.out w1 h1.1)
  clear h1 N P m0
  go_wp2_with fail
  refine N1.out.mono ?_
  rintro e w2 ⟨rfl, h2⟩
  have W2 := Lib.hid (W1.out.then h2)
  have F1 := Lib.hid (F.out w2 h2.1)
  have m2 := h2.1.cell
  clear h2 N1 W1 F
  go_wp2_with fail
  refine F1.out.mono ?_
  rintro e w3 ⟨rfl, h3⟩
  have W3 := Lib.hid (W2.out.then h3)
  clear h3 F1 W2 m2
  go_wp2
  go_ret
  exact ⟨rfl, W3.out⟩
 | some n =>
  rw [hr] at N
  simp only [Option.getD_some, Option.isSome_some] at N
  clear hr F
  generalize c.nameT = nt at *
  go_enter Tryz.func157, Tryz.ntmps157
  go_wp2_with fail
  refine P.out.mono ?_
  rintro e w1 ⟨rfl, h1⟩
  have W1 := Lib.hid h1
  have N1 := Lib.hid (N.out w1 h1.1)
  clear h1 N P m0
  go_wp2_with fail
  refine N1.out.mono ?_
  rintro e w2 ⟨rfl, h2⟩
  have W2 := Lib.hid (W1.out.then h2)
  have F1 := Lib.hid (NM.out w2 h2.1)
  have m2 := h2.1.cell
  clear h2 N1 W1 NM
  go_wp2_with fail
  refine F1.out.mono ?_
  rintro e w3 ⟨rfl, h3⟩
  have W3 := Lib.hid (W2.out.then h3)
  clear h3 F1 W2 m2
  go_wp2
  go_ret
  exact ⟨rfl, W3.out⟩
/-- A direct call of the cursor's Num through the reader. -/
theorem num_went {w0 w : World} {q g : Nat} {c : Cu} (a b : Int) (h : Rp w0 w q g c) : Calls Tryz.prog 69 #[.pointer (some ⟨g, 0, none⟩), .int .i64 a, .int .i64 b] w fun e w' => e = .returned (.int .i64 (c.numN a b)) ∧ Went w0 w q g (c.num a b) w' :=
 went_call h (h.fit.num a b) (numC_any g c a b w h.C)
set_option maxRecDepth 100000 in
theorem toP_any (w0 w : World) (q g : Nat) (c : Cu) (h : Rp w0 w q g c) :
    Calls Tryz.prog 161 #[.pointer (some ⟨q, 0, none⟩)] w fun e w' => e = .returned (.int .i64 (c.numN 0 199)) ∧ Went w0 w q g (c.num 0 199) w' := by
 have K := Lib.hid (num_went 0 199 h)
 have m0 := h.cell
 clear h
 go_enter Tryz.func161, Tryz.ntmps161
 go_wp2_with fail
 refine K.out.mono ?_
 rintro e w1 ⟨rfl, h1⟩
 have W1 := Lib.hid h1
 clear h1 K m0
 go_wp2
 go_ret
 exact ⟨rfl, W1.out⟩
set_option maxRecDepth 100000 in
theorem immP_any (w0 w : World) (q g : Nat) (c : Cu) (h : Rp w0 w q g c) :
    Calls Tryz.prog 158 #[.pointer (some ⟨q, 0, none⟩)] w fun e w' => e = .returned (.int .i64 (c.numN (-1099511627776) 1099511627776)) ∧ Went w0 w q g (c.num (-1099511627776) 1099511627776) w' := by
 have K := Lib.hid (num_went (-1099511627776) 1099511627776 h)
 have m0 := h.cell
 clear h
 go_enter Tryz.func158, Tryz.ntmps158
 go_wp2_with fail
 refine K.out.mono ?_
 rintro e w1 ⟨rfl, h1⟩
 have W1 := Lib.hid h1
 clear h1 K m0
 go_wp2
 go_ret
 exact ⟨rfl, W1.out⟩
set_option maxRecDepth 100000 in
theorem slotP_any (w0 w : World) (q g : Nat) (c : Cu) (hT : TabR w0) (h : Rp w0 w q g c) :
    Calls Tryz.prog 162 #[.pointer (some ⟨q, 0, none⟩)] w fun e w' => e = .returned (.tuple #[.int .i64 c.slotN, .bool c.slotB]) ∧ Went w0 w q g c.slotC w' := by
 have P := Lib.hid (went_below h (peek_any g c w h.C))
 have N : Hid (∀ w1, Rp w0 w1 q g c → Calls Tryz.prog 189 #[.string c.nameT] w1 fun e w' => e = .returned (.tuple #[.int .i64 c.slotN, .bool c.slotB]) ∧ Went w0 w1 q g c w') := fun w1 h1 =>
  went_below h1 (slotOf_any c.nameT w1 (by have := h1.fit.nameT; omega) (hT.pow.below h1.be) (hT.errs.below h1.be))
 have NM : Hid (∀ w1, Rp w0 w1 q g c → Calls Tryz.prog 186 #[.pointer (some ⟨g, 0, none⟩)] w1 fun e w' => e = .returned (.string c.nameT) ∧ Went w0 w1 q g c.name w') := fun w1 h1 => went_call h1 h1.fit.name (nameC_any g c w1 h1.C)
 have m0 := h.cell
 have E : Hid (c.slotC = if c.slotB then c.name else c) := rfl
 clear h
 generalize c.slotC = D at *
 generalize c.slotN = n at *
 generalize c.nameT = nt at *
 cases hb : c.slotB
 · rw [hb] at N E
   clear hb NM
   go_enter Tryz.func162, Tryz.ntmps162
   go_wp2_with fail
   refine P.out.mono ?_
   rintro e w1 ⟨rfl, h1⟩
   have W1 := Lib.hid h1
   have N1 := Lib.hid (N.out w1 h1.1)
   clear h1 N P m0
   go_wp2_with fail
   refine N1.out.mono ?_
   rintro e w2 ⟨rfl, h2⟩
   have W2 := Lib.hid (W1.out.then h2)
   clear h2 N1 W1
   go_wp2
   go_ret2
   exact ⟨rfl, by rw [E.out]; exact W2.out⟩
 · rw [hb] at N E
   clear hb
   go_enter Tryz.func162, Tryz.ntmps162
   go_wp2_with fail
   refine P.out.mono ?_
   rintro e w1 ⟨rfl, h1⟩
   have W1 := Lib.hid h1
   have N1 := Lib.hid (N.out w1 h1.1)
   clear h1 N P m0
   go_wp2_with fail
   refine N1.out.mono ?_
   rintro e w2 ⟨rfl, h2⟩
   have W2 := Lib.hid (W1.out.then h2)
   have F1 := Lib.hid (NM.out w2 h2.1)
   have m2 := h2.1.cell
   clear h2 N1 W1 NM
   go_wp2_with fail
   refine F1.out.mono ?_
   rintro e w3 ⟨rfl, h3⟩
   have W3 := Lib.hid (W2.out.then h3)
   clear h3 F1 W2 m2
   go_wp2
   go_ret2
   exact ⟨rfl, by rw [E.out]; exact W3.out⟩
/-- The register behind a return, if one is there. -/
def Cu.toldC (c : Cu) : Cu := if c.ends then c else c.regC
def Cu.toldN (c : Cu) : Int := if c.ends then -1 else c.regN
theorem Fit.toldC {c : Cu} (h : Fit c) : Fit c.toldC := by unfold Cu.toldC; split; exact h; exact h.regC
set_option maxRecDepth 100000 in
theorem toldP_any (w0 w : World) (q g : Nat) (c : Cu) (hT : TabR w0) (h : Rp w0 w q g c) :
    Calls Tryz.prog 159 #[.pointer (some ⟨q, 0, none⟩)] w fun e w' => e = .returned (.int .i64 c.toldN) ∧ Went w0 w q g c.toldC w' := by
 have P := Lib.hid (went_below h (ends_any g c w h.C))
 have R : Hid (∀ w1, Rp w0 w1 q g c → _) := fun w1 h1 => regP_any w0 w1 q g c hT h1
 have m0 := h.cell
 have E1 : Hid (c.toldC = if c.ends then c else c.regC) := rfl
 have E2 : Hid (c.toldN = if c.ends then -1 else c.regN) := rfl
 clear h
 generalize c.toldC = D at *
 generalize c.toldN = n at *
 cases hb : c.ends
 · rw [hb] at P E1 E2
   clear hb
   go_enter Tryz.func159, Tryz.ntmps159
   go_wp2_with fail
   refine P.out.mono ?_
   rintro e w1 ⟨rfl, h1⟩
   have W1 := Lib.hid h1
   have R1 := Lib.hid (R.out w1 h1.1)
   clear h1 R P m0
   go_wp2_with fail
   refine R1.out.mono ?_
   rintro e w2 ⟨rfl, h2⟩
   have W2 := Lib.hid (W1.out.then h2)
   clear h2 R1 W1
   go_wp2
   go_ret
   exact ⟨by rw [E2.out]; rfl, by rw [E1.out]; exact W2.out⟩
 · rw [hb] at P E1 E2
   clear hb
   go_enter Tryz.func159, Tryz.ntmps159
   go_wp2_with fail
   refine P.out.mono ?_
   rintro e w1 ⟨rfl, h1⟩
   have W1 := Lib.hid h1
   clear h1 R P m0
   go_wp2
   go_ret
   exact ⟨by rw [E2.out]; rfl, by rw [E1.out]; exact W1.out⟩
end Go.Proofs.YtbjmbahpcoanoaaGreatDoor
