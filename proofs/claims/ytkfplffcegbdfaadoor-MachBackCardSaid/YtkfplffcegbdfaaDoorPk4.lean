/-
  The document's tests on a rune answer what the plain functions say. No condition beyond those that each theorem states.
  The document's function that decodes a rune answers what the plain function says. No condition beyond those that each theorem states.
  Both tests whether a text is a name answer what the plain functions say. No condition beyond those that each theorem states.
  What package word's tests of a word's text answer. No condition beyond those that each theorem states.
-/
import Derived.Test.YtkfplffcegbdfaaDoorPk3
import Derived.Test.YtkfplffcegbdfaaDoorPk2
import Derived.Lib.Hide
import Derived.Test.YtkfplffcegbdfaaDoorAtP
import Derived.Test.YtkfplffcegbdfaaDoorNameM
import Derived.Lib.OthersKept
import Derived.Test.YtkfplffcegbdfaaDoorBuild
import Derived.Shelf.Unicode.DecodeSlow
import Derived.Test.YtkfplffcegbdfaaDoorRead
namespace Go.Proofs.YtkfplffcegbdfaaDoor
open Go.RowKit

end Go.Proofs.YtkfplffcegbdfaaDoor
namespace Go.Proofs.YtkfplffcegbdfaaDoor
open Go.RowKit

theorem get_ok (s : ByteArray) (i : Nat) (h : i < s.size) : s.get! i = s[i]'h := by simp [ByteArray.get!, getElem!_pos, h]; rfl
theorem acc_small (s : ByteArray) (i : Nat) (c : Int) (m j : Nat) (hc0 : 0 ≤ c) (hc : m = 2 ∧ c ≤ 31 ∨ m = 3 ∧ c ≤ 15 ∨ m = 4 ∧ c ≤ 7) (hj : j < m) (hk : ∀ t, 1 ≤ t → t ≤ j → contB s (i + t)) :
    0 ≤ accR s i c j ∧ accR s i c j ≤ 2097151 ∧ (j + 1 < m → accR s i c j ≤ 32767) := by
  have h4 : j = 0 ∨ j = 1 ∨ j = 2 ∨ j = 3 := by omega
  rcases h4 with rfl | rfl | rfl | rfl
  · show 0 ≤ c ∧ c ≤ 2097151 ∧ _
    show 0 ≤ c ∧ c ≤ 2097151 ∧ (_ → c ≤ 32767)
    omega
  · have h1 := hk 1 (by omega) (by omega)
    unfold contB at h1
    rw [accR_one]
    omega
  · have h1 := hk 1 (by omega) (by omega)
    have h2 := hk 2 (by omega) (by omega)
    unfold contB at h1 h2
    rw [accR_two]
    omega
  · have h1 := hk 1 (by omega) (by omega)
    have h2 := hk 2 (by omega) (by omega)
    have h3 := hk 3 (by omega) (by omega)
    unfold contB at h1 h2 h3
    rw [accR_three]
    omega




end Go.Proofs.YtkfplffcegbdfaaDoor
namespace Go.Proofs.YtkfplffcegbdfaaDoor
open Go.RowKit


end Go.Proofs.YtkfplffcegbdfaaDoor
namespace Go.Proofs.YtkfplffcegbdfaaDoor
open Go.RowKit

def isSignB (s : ByteArray) : Bool := decide ((Lib.decodeGo s).2 = s.size) && signB (Lib.decodeGo s).1

/-- The library's tables lie as they were laid. -/
def Tabs (w : World) : Prop := Lib.Utf8Tabs 0 1 w ∧ Lib.TabIs Tryd.prog w "internal/strconv.uint64pow10" .u64 Lib.pow10Tab
theorem heap_below {w w' : World} (hb : Below w.heap.size w w') {k : Nat} {o : Obj} (h : w.heap[k]? = some o) : w'.heap[k]? = some o := by
  rw [hb.block k (Array.getElem?_eq_some_iff.1 h).1]
  exact h
theorem cell_below {w w' : World} (hb : Below w.heap.size w w') {a : Addr} {v : Value} (h : w.cell? a = some v) : w'.cell? a = some v := by
  unfold World.cell? at *
  cases hk : w.heap[a.block]? with
  | none => simp [hk] at h
  | some o => rw [heap_below hb hk]; rw [hk] at h; exact h
theorem Tabs.below {w w' : World} (h : Tabs w) (hb : Below w.heap.size w w') : Tabs w' := by
  refine ⟨⟨fun c hc => cell_below hb (h.1.1 c hc), fun i hi => ⟨cell_below hb (h.1.2 i hi).1, cell_below hb (h.1.2 i hi).2⟩⟩, ?_⟩
  have h2 := h.2
  unfold Lib.TabIs World.var? at *
  cases hg : Tryd.prog.globalNamed "internal/strconv.uint64pow10" with
  | none => simp [hg] at h2
  | some g =>
    simp only [hg, Option.bind_some] at h2 ⊢
    cases hk : w.heap[g]? with
    | none => simp [hk] at h2
    | some o => rw [heap_below hb hk]; rw [hk] at h2; exact h2
theorem itoa_any (n : Int) (w : World) (hT : Tabs w) (h0 : -9223372036854775808 ≤ n) (h1 : n ≤ 9223372036854775807) : Calls Tryd.prog 40 #[.int .i64 n] w fun e w' => e = .returned (.string ⟨(Lib.itoa n).toArray⟩) ∧ Below w.heap.size w w' := by
  refine (Tryd.strconv_Itoa n h0 h1 w hT.2).mono ?_
  rintro e w' ⟨rfl, k, os, rfl⟩
  refine ⟨rfl, (below_draws (Below.refl _ w) k).trans ⟨rfl, rfl, rfl, ?_, ?_⟩⟩
  · simp [Sort.grow]
  · intro j hj
    simp only [Sort.grow]
    exact Array.getElem?_append_left hj

theorem bound_is (n : Int) (v : Bool) (h : boundB n = v) (w : World) : Calls Tryd.prog 79 #[.int .i64 n] w fun e w' => e = .returned (.bool v) ∧ w = w' := by
  subst h
  exact bound_any n w
theorem list_ne {a b : ByteArray} (h : ¬ a = b) : ¬ a.toList = b.toList := by
  rw [ByteArray.toList_eq, ByteArray.toList_eq]
  exact fun e => h (ByteArray.ext (Array.toList_inj.mp e))
theorem list_empty {a : ByteArray} (h : ¬ a = ⟨#[]⟩) : a.toList.isEmpty = false := by
  have := list_ne h
  rw [ByteArray.toList_eq ⟨#[]⟩] at this
  cases e : a.toList with
  | nil => exact absurd e this
  | cons x y => rfl
def canB (x : Wd) : Bool :=
  if x.k = 1 then decide (x.n = 0) && nameB x.t
  else if x.k = 2 then boundB x.n && decide (x.t = ⟨(Lib.itoa x.n).toArray⟩)
  else if x.k = 3 then decide (x.n = 0) && isSignB x.t
  else if x.k = 4 then decide (x.n = 0) && decide (x.t = ⟨#[]⟩)
  else false
def aggW (x : Wd) : Value := .agg #[.int .i64 x.k, .string x.t, .int .i64 x.n, .int .i64 x.l, .int .i64 x.c]
end Go.Proofs.YtkfplffcegbdfaaDoor
