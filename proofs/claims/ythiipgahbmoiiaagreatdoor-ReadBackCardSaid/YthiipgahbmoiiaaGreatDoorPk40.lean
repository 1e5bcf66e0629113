/-
  Both tests whether a text is a name answer what the plain functions say. No condition beyond those that each theorem states.
  What package word's tests of a word's text answer. No condition beyond those that each theorem states.
  The document's test for a sign answers what the plain function says. No condition beyond those that each theorem states.
  The document's test of a word that may be shown answers what package word's own test answers. No condition beyond those that each theorem states.
  Show of package word, of words that lie in a row of cells, each text of at most 100000 bytes and at most 100000 words, answers what a plain function of the words says and turns nothing that was there.
  The document's words as a text: the document's function answers what the plain function of package word's own answers. No condition beyond those that each theorem states.
  Words that are shown are read again, and what is read can be shown but for numbers that are written oddly: the plain part. No condition beyond those that each theorem states.
-/
import Derived.Test.YthiipgahbmoiiaaGreatDoorPk39
import Derived.Test.YthiipgahbmoiiaaGreatDoorPk20
import Derived.Lib.OthersKept
import Derived.Test.YthiipgahbmoiiaaGreatDoorPk26
import Derived.Shelf.Unicode.DecodeSlow
import Derived.Test.YthiipgahbmoiiaaGreatDoorPk19
import Derived.Test.YthiipgahbmoiiaaGreatDoorPk38
import Derived.Test.YthiipgahbmoiiaaGreatDoorPk23
namespace Go.Proofs.YthiipgahbmoiiaaGreatDoor
open Go.RowKit


end Go.Proofs.YthiipgahbmoiiaaGreatDoor
namespace Go.Proofs.YthiipgahbmoiiaaGreatDoor
open Go.RowKit

def isSignB (s : ByteArray) : Bool := decide ((Lib.decodeGo s).2 = s.size) && signB (Lib.decodeGo s).1

/-- The library's tables lie as they were laid. -/
def Tabs (w : World) : Prop := Lib.Utf8Tabs 0 1 w ∧ Lib.TabIs Tryz.prog w "internal/strconv.uint64pow10" .u64 Lib.pow10Tab
theorem heap_below {w w' : World} (hb : Below w.heap.size w w') {k : Nat} {o : Obj} (h : w.heap[k]? = some o) : w'.heap[k]? = some o := by
  rw [hb.block k (Array.getElem?_eq_some_iff.1 h).1]
  exact h
theorem cell_below {w w' : World} (hb : Below w.heap.size w w') {a : Addr} {v : Value} (h : w.cell? a = some v) : w'.cell? a = some v := by
  unfold World.cell? at *
  cases hk : w.heap[a.block]? with
  | none => simp [hk] at h
  | some o => rw [heap_below hb hk]; rw [hk] at h; exact h
theorem Tabs.below {w w' : World} (h : Tabs w) (hb : Below w.heap.size w w') : Tabs w' := by
  refine ⟨⟨fun c hc => cell_below hb (h.1.1 c hc), fun i hi => ⟨cell_below hb (h.1.2 i hi).1, cell_below hb (h.1.2 i hi).2⟩⟩, ?_⟩
  have h2 := h.2
  unfold Lib.TabIs World.var? at *
  cases hg : Tryz.prog.globalNamed "internal/strconv.uint64pow10" with
  | none => simp [hg] at h2
  | some g =>
    simp only [hg, Option.bind_some] at h2 ⊢
    cases hk : w.heap[g]? with
    | none => simp [hk] at h2
    | some o => rw [heap_below hb hk]; rw [hk] at h2; exact h2
theorem itoa_any (n : Int) (w : World) (hT : Tabs w) (h0 : -9223372036854775808 ≤ n) (h1 : n ≤ 9223372036854775807) : Calls Tryz.prog 27 #[.int .i64 n] w fun e w' => e = .returned (.string ⟨(Lib.itoa n).toArray⟩) ∧ Below w.heap.size w w' := by
  refine (Tryz.strconv_Itoa n h0 h1 w hT.2).mono ?_
  rintro e w' ⟨rfl, k, os, rfl⟩
  refine ⟨rfl, (below_draws (Below.refl _ w) k).trans ⟨rfl, rfl, rfl, ?_, ?_⟩⟩
  · simp [Sort.grow]
  · intro j hj
    simp only [Sort.grow]
    exact Array.getElem?_append_left hj

theorem bound_is (n : Int) (v : Bool) (h : boundB n = v) (w : World) : Calls Tryz.prog 201 #[.int .i64 n] w fun e w' => e = .returned (.bool v) ∧ w = w' := by
  subst h
  exact bound_any n w
theorem list_ne {a b : ByteArray} (h : ¬ a = b) : ¬ a.toList = b.toList := by
  rw [ByteArray.toList_eq, ByteArray.toList_eq]
  exact fun e => h (ByteArray.ext (Array.toList_inj.mp e))
theorem list_empty {a : ByteArray} (h : ¬ a = ⟨#[]⟩) : a.toList.isEmpty = false := by
  have := list_ne h
  rw [ByteArray.toList_eq ⟨#[]⟩] at this
  cases e : a.toList with
  | nil => exact absurd e this
  | cons x y => rfl
def canB (x : Wd) : Bool :=
  if x.k = 1 then decide (x.n = 0) && nameB x.t
  else if x.k = 2 then boundB x.n && decide (x.t = ⟨(Lib.itoa x.n).toArray⟩)
  else if x.k = 3 then decide (x.n = 0) && isSignB x.t
  else if x.k = 4 then decide (x.n = 0) && decide (x.t = ⟨#[]⟩)
  else false
def aggW (x : Wd) : Value := .agg #[.int .i64 x.k, .string x.t, .int .i64 x.n, .int .i64 x.l, .int .i64 x.c]
end Go.Proofs.YthiipgahbmoiiaaGreatDoor
namespace Go.Proofs.YthiipgahbmoiiaaGreatDoor
open Go.RowKit

theorem rsign_any (r : Int) (w : World) : Calls Tryz.prog 136 #[.int .i32 r] w fun e w' => e = .returned (.bool (signB r)) ∧ w = w' := by
  by_cases h0 : r = 61
  · go_enter Tryz.func136, Tryz.ntmps136
    go_wp2
    go_ret
    refine ⟨ret_bool ?_, rfl⟩
    simp [signB, h0]
  by_cases h1 : r = 44
  · go_enter Tryz.func136, Tryz.ntmps136
    go_wp2
    go_ret
    refine ⟨ret_bool ?_, rfl⟩
    simp [signB, h1]
  by_cases h2 : r = 58
  · go_enter Tryz.func136, Tryz.ntmps136
    go_wp2
    go_ret
    refine ⟨ret_bool ?_, rfl⟩
    simp [signB, h2]
  by_cases h3 : r = 40
  · go_enter Tryz.func136, Tryz.ntmps136
    go_wp2
    go_ret
    refine ⟨ret_bool ?_, rfl⟩
    simp [signB, h3]
  by_cases h4 : r = 41
  · go_enter Tryz.func136, Tryz.ntmps136
    go_wp2
    go_ret
    refine ⟨ret_bool ?_, rfl⟩
    simp [signB, h4]
  by_cases h5 : r = 91
  · go_enter Tryz.func136, Tryz.ntmps136
    go_wp2
    go_ret
    refine ⟨ret_bool ?_, rfl⟩
    simp [signB, h5]
  by_cases h6 : r = 93
  · go_enter Tryz.func136, Tryz.ntmps136
    go_wp2
    go_ret
    refine ⟨ret_bool ?_, rfl⟩
    simp [signB, h6]
  by_cases h7 : r = 43
  · go_enter Tryz.func136, Tryz.ntmps136
    go_wp2
    go_ret
    refine ⟨ret_bool ?_, rfl⟩
    simp [signB, h7]
  by_cases h8 : r = 8594
  · go_enter Tryz.func136, Tryz.ntmps136
    go_wp2
    go_ret
    refine ⟨ret_bool ?_, rfl⟩
    simp [signB, h8]
  by_cases h9 : r = 8592
  · go_enter Tryz.func136, Tryz.ntmps136
    go_wp2
    go_ret
    refine ⟨ret_bool ?_, rfl⟩
    simp [signB, h9]
  go_enter Tryz.func136, Tryz.ntmps136
  go_wp2
  go_ret
  refine ⟨ret_bool ?_, rfl⟩
  simp [signB, h0, h1, h2, h3, h4, h5, h6, h7, h8, h9]
end Go.Proofs.YthiipgahbmoiiaaGreatDoor
namespace Go.Proofs.YthiipgahbmoiiaaGreatDoor
open Go.RowKit

theorem isSignB_ref (s : ByteArray) : isSignB s = (decide (0 < (atP s 0).2) && decide ((atP s 0).2 = s.size) && signB (atP s 0).1) := by
  have hff : signB ((65533 : Nat) : Int) = false := by decide
  have h0 : signB ((0 : Nat) : Int) = false := by decide
  unfold isSignB Lib.decodeGo atP
  by_cases hs : s.size = 0
  · simp [hs]
    exact hff
  · have hs' : 0 < s.size := by omega
    rw [if_neg hs, if_pos hs']
    by_cases hb : (Utf8.decode s 0).1 = 65533 ∧ (Utf8.decode s 0).2 = 1
    · rw [if_pos hb, hb.1, hff]
      simp
    · rw [if_neg hb]
      have := wide_pos s 0 hs'
      have h1 : decide (0 < (Utf8.decode s 0).2) = true := by simp; omega
      rw [h1, Bool.true_and]
end Go.Proofs.YthiipgahbmoiiaaGreatDoor
namespace Go.Proofs.YthiipgahbmoiiaaGreatDoor
open Go.RowKit

def showGo : List Wd → Bool → List UInt8 → Option (List UInt8)
  | [], _, out => some out
  | x :: r, b, out =>
    if canB x = false then none
    else if x.k = 4 then showGo r false (out ++ [10])
    else showGo r true ((if b then out ++ [32] else out) ++ x.t.data.toList)
def showText (ws : List Wd) : ByteArray := match showGo ws false [] with | some l => ⟨l.toArray⟩ | none => ⟨#[]⟩
def showErr (ws : List Wd) : Int := match showGo ws false [] with | some _ => 0 | none => 2
/-- Word number k lies in five cells. -/
def CellsAt (w : World) (g o : Nat) (ws : List Wd) : Prop := ∀ k x, ws[k]? = some x →
  w.cell? ⟨g, o + k * 5, none⟩ = some (.int .i64 x.k) ∧ w.cell? ⟨g, o + k * 5 + 1, none⟩ = some (.string x.t) ∧ w.cell? ⟨g, o + k * 5 + 2, none⟩ = some (.int .i64 x.n) ∧
  w.cell? ⟨g, o + k * 5 + 3, none⟩ = some (.int .i64 x.l) ∧ w.cell? ⟨g, o + k * 5 + 4, none⟩ = some (.int .i64 x.c)
theorem builder_below {T e : TypeId} {B b : Nat} {bs : List Value} {w w' : World} (h : Lib.IsBuilder T e B b bs w) (hb : Below w.heap.size w w') : Lib.IsBuilder T e B b bs w' := by
  rcases h with ⟨hB, v, hk, hown, hne⟩ | ⟨hB, v, hk, hown, hne⟩
  · exact Or.inl ⟨hB, v, heap_below hb hk, hown.kept (row := some b) ⟨hb.os, hb.tape, hb.output, hb.size, fun k hk _ => hb.block k hk⟩ (Or.inr hne), hne⟩
  · exact Or.inr ⟨hB, v, heap_below hb hk, hown.kept (row := some b) ⟨hb.os, hb.tape, hb.output, hb.size, fun k hk _ => hb.block k hk⟩ (Or.inr hne), hne⟩
theorem cells_append (a b : List UInt8) : Lib.byteCells (a ++ b) = Lib.byteCells a ++ Lib.byteCells b := by simp [Lib.byteCells]

end Go.Proofs.YthiipgahbmoiiaaGreatDoor
namespace Go.Proofs.YthiipgahbmoiiaaGreatDoor
open Go.RowKit

/-- Whether a word stands right ahead of word number k, in its line. -/
def inl (ws : List Wd) : Nat → Bool
  | 0 => false
  | k + 1 => match ws[k]? with | some y => decide (y.k ≠ 4) | none => false

end Go.Proofs.YthiipgahbmoiiaaGreatDoor
namespace Go.Proofs.YthiipgahbmoiiaaGreatDoor

theorem get_data (s : ByteArray) (k : Nat) (h : k < s.size) : s.data.toList[k]? = some (s.get! k) := by
  rw [get_eq s k h, Array.getElem?_toList]
  exact Array.getElem?_eq_getElem h
theorem get_list {s : ByteArray} {k : Nat} {b : UInt8} (h : s.data.toList[k]? = some b) : k < s.size ∧ s.get! k = b := by
  have hk : k < s.size := by
    have := (List.getElem?_eq_some_iff.1 h).1
    simpa using this
  rw [get_data s k hk] at h
  exact ⟨hk, Option.some.inj h⟩
/-- A text lies in another one from a place on. -/
structure Sub (t s : ByteArray) (j : Nat) : Prop where
  fits : j + t.size ≤ s.size
  same : ∀ k, k < t.size → s.get! (j + k) = t.get! k
theorem sub_of_drop {t s : ByteArray} {j : Nat} {r : List UInt8} (hj : j ≤ s.size) (h : s.data.toList.drop j = t.data.toList ++ r) : Sub t s j := by
  have hl := congrArg List.length h
  simp only [List.length_drop, List.length_append, Array.length_toList] at hl
  have e1 : s.data.size = s.size := rfl
  have e2 : t.data.size = t.size := rfl
  refine ⟨by omega, fun k hk => ?_⟩
  have h1 : (s.data.toList.drop j)[k]? = some (t.get! k) := by
    rw [h, List.getElem?_append_left (by simp only [Array.length_toList]; omega)]
    exact get_data t k hk
  rw [List.getElem?_drop] at h1
  exact (get_list h1).2
theorem atP_lt {t : ByteArray} {k : Nat} (hk : (atP t k).2 ≠ 0) : k < t.size := by
  by_cases h : k < t.size
  · exact h
  · unfold atP at hk
    rw [if_neg h] at hk
    exact absurd rfl hk
/-- A rune within a text is that rune where the text lies. -/
theorem atP_shift {t s : ByteArray} {j : Nat} (h : Sub t s j) (k : Nat) (hk : (atP t k).2 ≠ 0) : atP s (j + k) = atP t k := by
  have hlt := atP_lt hk
  have hf := h.fits
  have e0 := h.same k hlt
  by_cases hb : (t.get! k).toNat < 128
  · rw [atP_one t k hlt hb, atP_one s (j + k) (by omega) (by rw [e0]; exact hb), e0]
  by_cases hn : (t.get! k).toNat < 192 ∨ 248 ≤ (t.get! k).toNat
  · rw [atP_none t k (by omega) hn] at hk
    exact absurd rfl hk
  by_cases h2 : (t.get! k).toNat ≤ 223
  · have hr := atP_two t k ⟨by omega, h2⟩
    have hr' := atP_two s (j + k) ⟨by rw [e0]; omega, by rw [e0]; exact h2⟩
    have hc : k + 2 ≤ t.size ∧ contB t (k + 1) ∧ okB 128 (accR t k ((t.get! k).toNat - 192) 1) := by
      apply Classical.byContradiction
      intro hc
      rw [if_neg hc] at hr
      rw [hr] at hk
      exact hk rfl
    have e1 : s.get! (j + k + 1) = t.get! (k + 1) := h.same (k + 1) (by omega)
    have ea : accR s (j + k) ((s.get! (j + k)).toNat - 192) 1 = accR t k ((t.get! k).toNat - 192) 1 := by simp only [accR_one, e0, e1]
    rw [hr, hr', ea, if_pos hc, if_pos ⟨by omega, by unfold contB; rw [e1]; exact hc.2.1, hc.2.2⟩]
  by_cases h3 : (t.get! k).toNat ≤ 239
  · have hr := atP_three t k ⟨by omega, h3⟩
    have hr' := atP_three s (j + k) ⟨by rw [e0]; omega, by rw [e0]; exact h3⟩
    have hc : k + 3 ≤ t.size ∧ contB t (k + 1) ∧ contB t (k + 2) ∧ okB 2048 (accR t k ((t.get! k).toNat - 224) 2) := by
      apply Classical.byContradiction
      intro hc
      rw [if_neg hc] at hr
      rw [hr] at hk
      exact hk rfl
    have e1 : s.get! (j + k + 1) = t.get! (k + 1) := h.same (k + 1) (by omega)
    have e2 : s.get! (j + k + 2) = t.get! (k + 2) := h.same (k + 2) (by omega)
    have ea : accR s (j + k) ((s.get! (j + k)).toNat - 224) 2 = accR t k ((t.get! k).toNat - 224) 2 := by simp only [accR_two, e0, e1, e2]
    rw [hr, hr', ea, if_pos hc, if_pos ⟨by omega, by unfold contB; rw [e1]; exact hc.2.1, by unfold contB; rw [e2]; exact hc.2.2.1, hc.2.2.2⟩]
  · have hr := atP_four t k ⟨by omega, by omega⟩
    have hr' := atP_four s (j + k) ⟨by rw [e0]; omega, by rw [e0]; omega⟩
    have hc : k + 4 ≤ t.size ∧ contB t (k + 1) ∧ contB t (k + 2) ∧ contB t (k + 3) ∧ okB 65536 (accR t k ((t.get! k).toNat - 240) 3) := by
      apply Classical.byContradiction
      intro hc
      rw [if_neg hc] at hr
      rw [hr] at hk
      exact hk rfl
    have e1 : s.get! (j + k + 1) = t.get! (k + 1) := h.same (k + 1) (by omega)
    have e2 : s.get! (j + k + 2) = t.get! (k + 2) := h.same (k + 2) (by omega)
    have e3 : s.get! (j + k + 3) = t.get! (k + 3) := h.same (k + 3) (by omega)
    have ea : accR s (j + k) ((s.get! (j + k)).toNat - 240) 3 = accR t k ((t.get! k).toNat - 240) 3 := by simp only [accR_three, e0, e1, e2, e3]
    rw [hr, hr', ea, if_pos hc, if_pos ⟨by omega, by unfold contB; rw [e1]; exact hc.2.1, by unfold contB; rw [e2]; exact hc.2.2.1, by unfold contB; rw [e3]; exact hc.2.2.2.1, hc.2.2.2.2⟩]
/-- And a rune of the whole that lies within it is a rune of the part. -/
theorem atP_back {t s : ByteArray} {j : Nat} (h : Sub t s j) (k : Nat) (hk : (atP s (j + k)).2 ≠ 0) (hw : k + (atP s (j + k)).2 ≤ t.size) : atP t k = atP s (j + k) := by
  have hlt : k < t.size := by omega
  have hf := h.fits
  have e0 := h.same k hlt
  by_cases hb : (t.get! k).toNat < 128
  · rw [atP_one t k hlt hb, atP_one s (j + k) (by omega) (by rw [e0]; exact hb), e0]
  by_cases hn : (t.get! k).toNat < 192 ∨ 248 ≤ (t.get! k).toNat
  · rw [atP_none s (j + k) (by rw [e0]; omega) (by rw [e0]; exact hn)] at hk
    exact absurd rfl hk
  by_cases h2 : (t.get! k).toNat ≤ 223
  · have hr := atP_two t k ⟨by omega, h2⟩
    have hr' := atP_two s (j + k) ⟨by rw [e0]; omega, by rw [e0]; exact h2⟩
    have hc : j + k + 2 ≤ s.size ∧ contB s (j + k + 1) ∧ okB 128 (accR s (j + k) ((s.get! (j + k)).toNat - 192) 1) := by
      apply Classical.byContradiction
      intro hc
      rw [if_neg hc] at hr'
      rw [hr'] at hk
      exact hk rfl
    rw [if_pos hc] at hr'
    rw [hr'] at hw
    have e1 : s.get! (j + k + 1) = t.get! (k + 1) := h.same (k + 1) (by omega)
    have ea : accR s (j + k) ((s.get! (j + k)).toNat - 192) 1 = accR t k ((t.get! k).toNat - 192) 1 := by simp only [accR_one, e0, e1]
    rw [ea] at hc
    rw [hr, hr', ea, if_pos ⟨by omega, by have := hc.2.1; unfold contB at this ⊢; rw [e1] at this; exact this, hc.2.2⟩]
  by_cases h3 : (t.get! k).toNat ≤ 239
  · have hr := atP_three t k ⟨by omega, h3⟩
    have hr' := atP_three s (j + k) ⟨by rw [e0]; omega, by rw [e0]; exact h3⟩
    have hc : j + k + 3 ≤ s.size ∧ contB s (j + k + 1) ∧ contB s (j + k + 2) ∧ okB 2048 (accR s (j + k) ((s.get! (j + k)).toNat - 224) 2) := by
      apply Classical.byContradiction
      intro hc
      rw [if_neg hc] at hr'
      rw [hr'] at hk
      exact hk rfl
    rw [if_pos hc] at hr'
    rw [hr'] at hw
    have e1 : s.get! (j + k + 1) = t.get! (k + 1) := h.same (k + 1) (by omega)
    have e2 : s.get! (j + k + 2) = t.get! (k + 2) := h.same (k + 2) (by omega)
    have ea : accR s (j + k) ((s.get! (j + k)).toNat - 224) 2 = accR t k ((t.get! k).toNat - 224) 2 := by simp only [accR_two, e0, e1, e2]
    rw [ea] at hc
    rw [hr, hr', ea, if_pos ⟨by omega, by have := hc.2.1; unfold contB at this ⊢; rw [e1] at this; exact this, by have := hc.2.2.1; unfold contB at this ⊢; rw [e2] at this; exact this, hc.2.2.2⟩]
  · have hr := atP_four t k ⟨by omega, by omega⟩
    have hr' := atP_four s (j + k) ⟨by rw [e0]; omega, by rw [e0]; omega⟩
    have hc : j + k + 4 ≤ s.size ∧ contB s (j + k + 1) ∧ contB s (j + k + 2) ∧ contB s (j + k + 3) ∧ okB 65536 (accR s (j + k) ((s.get! (j + k)).toNat - 240) 3) := by
      apply Classical.byContradiction
      intro hc
      rw [if_neg hc] at hr'
      rw [hr'] at hk
      exact hk rfl
    rw [if_pos hc] at hr'
    rw [hr'] at hw
    have e1 : s.get! (j + k + 1) = t.get! (k + 1) := h.same (k + 1) (by omega)
    have e2 : s.get! (j + k + 2) = t.get! (k + 2) := h.same (k + 2) (by omega)
    have e3 : s.get! (j + k + 3) = t.get! (k + 3) := h.same (k + 3) (by omega)
    have ea : accR s (j + k) ((s.get! (j + k)).toNat - 240) 3 = accR t k ((t.get! k).toNat - 240) 3 := by simp only [accR_three, e0, e1, e2, e3]
    rw [ea] at hc
    rw [hr, hr', ea, if_pos ⟨by omega, by have := hc.2.1; unfold contB at this ⊢; rw [e1] at this; exact this, by have := hc.2.2.1; unfold contB at this ⊢; rw [e2] at this; exact this, by have := hc.2.2.2.1; unfold contB at this ⊢; rw [e3] at this; exact this, hc.2.2.2.2⟩]
/-- A word ends at a place: the end, a space or a line's end. -/
def Stops (s : ByteArray) (e : Nat) : Prop := e < s.size → atP s e = (32, 1) ∨ atP s e = (10, 1)
theorem run_name {t s : ByteArray} {j : Nat} (h : Sub t s j) (hs : Stops s (j + t.size)) : ∀ (g f i n : Nat), t.size ≤ i + g → i ≤ t.size → s.size ≤ j + i + f → rnameGo t g i n = true → ∃ m, runEnd s false f (j + i) n = (j + t.size, m) ∧ 1 ≤ m ∧ m ≤ 16 := by
  have base : ∀ (f n : Nat), decide (1 ≤ n ∧ n ≤ 16) = true → ∃ m, runEnd s false f (j + t.size) n = (j + t.size, m) ∧ 1 ≤ m ∧ m ≤ 16 := fun f n hn => by
    refine ⟨n, runEnd_stop s false f _ n (fun hlt => ?_), of_decide_eq_true hn⟩
    rcases hs hlt with e | e <;> rw [e] <;> exact .inr (by decide)
  intro g
  induction g with
  | zero =>
    intro f i n h1 h2 h3 hr
    have : i = t.size := by omega
    subst this
    exact base f n hr
  | succ g ih =>
    intro f i n h1 h2 h3 hr
    by_cases hlt : i < t.size
    · rw [rnameGo, if_pos hlt] at hr
      split at hr
      · rename_i hc
        have hf := h.fits
        obtain ⟨f, rfl⟩ : ∃ f', f = f' + 1 := ⟨f - 1, by omega⟩
        have hle := atP_le t i hlt
        rw [runEnd, if_pos (by omega), atP_shift h i hc.1, if_neg]
        · rw [Nat.add_assoc]
          exact ih f _ _ (by omega) hle (by omega) hr
        · rintro (h0 | h0)
          · exact hc.1 h0
          · have := hc.2
            unfold stopB at h0
            simp only [Bool.or_eq_true, Bool.and_eq_true, Bool.not_eq_true', Bool.false_or] at h0 this
            rcases this with h' | h'
            · rw [h'] at h0; exact absurd h0.2 (by decide)
            · rw [h'.2] at h0; exact absurd h0.1 (by decide)
      · cases hr
    · have : i = t.size := by omega
      subst this
      rw [rnameGo_end _ _ _ _ hlt] at hr
      exact base f n hr
theorem run_digits (s : ByteArray) : ∀ (m f i n : Nat), (∀ k, k < m → 48 ≤ (s.get! (i + k)).toNat ∧ (s.get! (i + k)).toNat ≤ 57) → i + m ≤ s.size → Stops s (i + m) → s.size ≤ i + f → runEnd s true f i n = (i + m, n + m) := by
  intro m
  induction m with
  | zero =>
    intro f i n _ _ hs _
    refine runEnd_stop s true f i n (fun hlt => ?_)
    rcases hs hlt with e | e <;> (have e : atP s i = _ := e) <;> rw [e] <;> exact .inr (by decide)
  | succ m ih =>
    intro f i n hd hi hs hf
    obtain ⟨f, rfl⟩ : ∃ f', f = f' + 1 := ⟨f - 1, by omega⟩
    have h0 := hd 0 (by omega)
    rw [Nat.add_zero] at h0
    rw [runEnd, if_pos (by omega), atP_one s i (by omega) (by omega), if_neg]
    · have e : i + (m + 1) = i + 1 + m := by omega
      rw [ih f (i + 1) (n + 1) (fun k hk => by have := hd (k + 1) (by omega); rw [show i + (k + 1) = i + 1 + k by omega] at this; exact this) (by omega) (by rw [← e]; exact hs) (by omega), e]
      rw [show n + 1 + m = n + (m + 1) by omega]
    · rintro (h' | h')
      · cases h'
      · unfold stopB digitB at h'
        simp at h'
        omega
/-- What a text is by its bytes. -/
theorem part_sub {t s : ByteArray} {j : Nat} (h : Sub t s j) : partOf s j (j + t.size) = t := by
  have hf := h.fits
  have hz : (partOf s j (j + t.size)).size = t.size := by rw [part_size _ _ _ hf]; omega
  apply ByteArray.ext
  apply Array.ext
  · exact hz
  · intro k h1 h2
    have h1' : k < (partOf s j (j + t.size)).size := h1
    have h2' : k < t.size := h2
    have a := get_eq _ _ h1'
    have b := get_eq _ _ h2'
    have c := part_get s j (j + t.size) k hf (by omega)
    rw [h.same k h2'] at c
    rw [a, b] at c
    exact c
theorem sub_part {s : ByteArray} {i j : Nat} (hi : i ≤ j) (hj : j ≤ s.size) : Sub (partOf s i j) s i := by
  have hz := part_size s i j hj
  exact ⟨by omega, fun k hk => (part_get s i j k hj (by omega)).symm⟩
/-- The value of digits. -/
theorem valT_digits (t : ByteArray) : ∀ (u k0 : Nat), valT t k0 = 0 → (∀ i b, (Lib.decDigits u)[i]? = some b → t.get! (k0 + i) = b) → valT t (k0 + (Lib.decDigits u).length) = u ∧ ∀ i, i < (Lib.decDigits u).length → 48 ≤ (t.get! (k0 + i)).toNat ∧ (t.get! (k0 + i)).toNat ≤ 57 := by
  intro u
  induction u using Nat.strongRecOn with
  | _ u ih =>
    intro k0 h0 hb
    have dig : ∀ v, v < 10 → (UInt8.ofNat (48 + v)).toNat = 48 + v := fun v hv => by simp; omega
    by_cases hu : u < 10
    · rw [Lib.decDigits_one hu] at hb ⊢
      have h1 := hb 0 _ rfl
      have h2 := dig u hu
      rw [Nat.add_zero] at h1
      refine ⟨?_, fun i hi => ?_⟩
      · simp only [List.length_singleton]
        rw [valT, h1, h2, if_neg (by omega), h0]
        omega
      · simp only [List.length_singleton] at hi
        have : i = 0 := by omega
        subst this
        rw [Nat.add_zero, h1, h2]
        omega
    · have hd : Lib.decDigits u = Lib.decDigits (u / 10) ++ [UInt8.ofNat (48 + u % 10)] := by rw [Lib.decDigits, dif_neg hu]
      rw [hd] at hb ⊢
      obtain ⟨h1, h2⟩ := ih (u / 10) (by omega) k0 h0 (fun i b hi => hb i b (by rw [List.getElem?_append_left (List.getElem?_eq_some_iff.1 hi).1]; exact hi))
      have h3 := hb (Lib.decDigits (u / 10)).length _ (by rw [List.getElem?_append_right (Nat.le_refl _), Nat.sub_self]; rfl)
      have h4 := dig (u % 10) (by omega)
      refine ⟨?_, fun i hi => ?_⟩
      · rw [List.length_append, List.length_singleton, ← Nat.add_assoc, valT, h3, h4, if_neg (by omega), h1]
        omega
      · by_cases hi' : i < (Lib.decDigits (u / 10)).length
        · exact h2 i hi'
        · rw [List.length_append, List.length_singleton] at hi
          have : i = (Lib.decDigits (u / 10)).length := by omega
          subst this
          rw [h3, h4]
          omega
theorem decDigits_ne (u : Nat) : 0 < (Lib.decDigits u).length := by
  by_cases hu : u < 10
  · rw [Lib.decDigits_one hu]; simp
  · rw [Lib.decDigits, dif_neg hu]; simp
end Go.Proofs.YthiipgahbmoiiaaGreatDoor
