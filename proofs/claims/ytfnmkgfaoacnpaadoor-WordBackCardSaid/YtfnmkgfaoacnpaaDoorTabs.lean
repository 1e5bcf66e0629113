/-
  The library's tables, as a row's condition lays them, are the tables that the contracts ask for. No condition beyond those that each theorem states.
-/
import Derived.Test.YtfnmkgfaoacnpaaDoorRows
import Derived.Test.YtfnmkgfaoacnpaaDoorCan
import Derived.Lib.LaidU8
import Derived.Lib.LaidTab
import Derived.PinnedBridge
namespace Go.Proofs.YtfnmkgfaoacnpaaDoor
open Go.Lib Go.Shelf

theorem tabIs_reads {P : Program} {W : World} {name : String} {k : IntKind} {zs : List Int} {g : Nat} {t e : TypeId} {n : Nat}
    (hg : P.globalNamed name = some g) (hty : (P.globals[g]?).map (·.type) = some t) (ht : P.underlying t = some (.array n e)) (he : P.underlying e = some (.int k)) (hce : P.cellsOf e = 1) (hct : P.cellsOf t = n)
    (h : VarReads P W name (tabData k zs)) : TabIs P W name k zs := by
  obtain ⟨g', t', cs, fuel, p, hg', ht', hvar, hd⟩ := h
  obtain rfl := Option.some.inj (hg.symm.trans hg')
  obtain rfl := Option.some.inj (hty.symm.trans ht')
  unfold TabIs
  rw [hvar, ← cells_of_tab ht he hce hct hd]
theorem pow_data : (Rows.laid_internal_strconv_uint64pow10 : DataW Unit) = tabData .u64 pow10Tab := by kernel_rfl
theorem accept_data : (Rows.laid_unicode_utf8_acceptRanges : DataW Unit) = acceptData := by kernel_rfl
theorem first_data : Rows.laid_unicode_utf8_first = firstData := Pinned.utf8First_eq
theorem tabs_of (W : World) (l : List (String × DataW Unit)) (h : laidMet Tryd.prog l W) (h1 : ("internal/strconv.uint64pow10", Rows.laid_internal_strconv_uint64pow10) ∈ l) (h2 : ("unicode/utf8.acceptRanges", Rows.laid_unicode_utf8_acceptRanges) ∈ l) (h3 : ("unicode/utf8.first", Rows.laid_unicode_utf8_first) ∈ l) : Tabs W := by
  rw [pow_data] at h1
  rw [accept_data] at h2
  rw [first_data] at h3
  refine ⟨utf8Tabs_of_reads (ρ := Tryd.lays260_ren) { Tryd.lays260 with } ⟨by kernel_rfl, by kernel_rfl, by kernel_rfl, by kernel_rfl, by kernel_rfl, by kernel_rfl, by kernel_rfl⟩ (laidMet.reads h h3) (laidMet.reads h h2), ?_⟩
  exact tabIs_reads (g := 2) (n := 20) (by kernel_rfl) (t := 107) (by kernel_rfl) Tryd.underlying107 Tryd.underlying95 (by kernel_rfl) (by kernel_rfl) (laidMet.reads h h1)
end Go.Proofs.YtfnmkgfaoacnpaaDoor
