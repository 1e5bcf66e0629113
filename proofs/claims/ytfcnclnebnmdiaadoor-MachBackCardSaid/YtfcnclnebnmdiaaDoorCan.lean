/-
  What package word's tests of a word's text answer. No condition beyond those that each theorem states.
-/
import Derived.Test.YtfcnclnebnmdiaaDoorBuild
import Derived.Shelf.Unicode.DecodeSlow
import Derived.Test.YtfcnclnebnmdiaaDoorRead
import Derived.Test.YtfcnclnebnmdiaaDoorName
namespace Go.Proofs.YtfcnclnebnmdiaaDoor
open Go.RowKit

def isSignB (s : ByteArray) : Bool := decide ((Lib.decodeGo s).2 = s.size) && signB (Lib.decodeGo s).1

/-- The library's tables lie as they were laid. -/
def Tabs (w : World) : Prop := Lib.Utf8Tabs 0 1 w ∧ Lib.TabIs Tryd.prog w "internal/strconv.uint64pow10" .u64 Lib.pow10Tab
theorem heap_below {w w' : World} (hb : Below w.heap.size w w') {k : Nat} {o : Obj} (h : w.heap[k]? = some o) : w'.heap[k]? = some o := by
  rw [hb.block k (Array.getElem?_eq_some_iff.1 h).1]
  exact h
theorem cell_below {w w' : World} (hb : Below w.heap.size w w') {a : Addr} {v : Value} (h : w.cell? a = some v) : w'.cell? a = some v := by
  unfold World.cell? at *
  cases hk : w.heap[a.block]? with
  | none => simp [hk] at h
  | some o => rw [heap_below hb hk]; rw [hk] at h; exact h
theorem Tabs.below {w w' : World} (h : Tabs w) (hb : Below w.heap.size w w') : Tabs w' := by
  refine ⟨⟨fun c hc => cell_below hb (h.1.1 c hc), fun i hi => ⟨cell_below hb (h.1.2 i hi).1, cell_below hb (h.1.2 i hi).2⟩⟩, ?_⟩
  have h2 := h.2
  unfold Lib.TabIs World.var? at *
  cases hg : Tryd.prog.globalNamed "internal/strconv.uint64pow10" with
  | none => simp [hg] at h2
  | some g =>
    simp only [hg, Option.bind_some] at h2 ⊢
    cases hk : w.heap[g]? with
    | none => simp [hk] at h2
    | some o => rw [heap_below hb hk]; rw [hk] at h2; exact h2
theorem itoa_any (n : Int) (w : World) (hT : Tabs w) (h0 : -9223372036854775808 ≤ n) (h1 : n ≤ 9223372036854775807) : Calls Tryd.prog 40 #[.int .i64 n] w fun e w' => e = .returned (.string ⟨(Lib.itoa n).toArray⟩) ∧ Below w.heap.size w w' := by
  refine (Tryd.strconv_Itoa n h0 h1 w hT.2).mono ?_
  rintro e w' ⟨rfl, k, os, rfl⟩
  refine ⟨rfl, (below_draws (Below.refl _ w) k).trans ⟨rfl, rfl, rfl, ?_, ?_⟩⟩
  · simp [Sort.grow]
  · intro j hj
    simp only [Sort.grow]
    exact Array.getElem?_append_left hj

theorem bound_is (n : Int) (v : Bool) (h : boundB n = v) (w : World) : Calls Tryd.prog 79 #[.int .i64 n] w fun e w' => e = .returned (.bool v) ∧ w = w' := by
  subst h
  exact bound_any n w
theorem list_ne {a b : ByteArray} (h : ¬ a = b) : ¬ a.toList = b.toList := by
  rw [ByteArray.toList_eq, ByteArray.toList_eq]
  exact fun e => h (ByteArray.ext (Array.toList_inj.mp e))
theorem list_empty {a : ByteArray} (h : ¬ a = ⟨#[]⟩) : a.toList.isEmpty = false := by
  have := list_ne h
  rw [ByteArray.toList_eq ⟨#[]⟩] at this
  cases e : a.toList with
  | nil => exact absurd e this
  | cons x y => rfl
def canB (x : Wd) : Bool :=
  if x.k = 1 then decide (x.n = 0) && nameB x.t
  else if x.k = 2 then boundB x.n && decide (x.t = ⟨(Lib.itoa x.n).toArray⟩)
  else if x.k = 3 then decide (x.n = 0) && isSignB x.t
  else if x.k = 4 then decide (x.n = 0) && decide (x.t = ⟨#[]⟩)
  else false
def aggW (x : Wd) : Value := .agg #[.int .i64 x.k, .string x.t, .int .i64 x.n, .int .i64 x.l, .int .i64 x.c]
end Go.Proofs.YtfcnclnebnmdiaaDoor
