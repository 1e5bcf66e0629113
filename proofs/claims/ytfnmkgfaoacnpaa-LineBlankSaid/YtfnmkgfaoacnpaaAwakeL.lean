/-
  The chapter's example of a cursor is told as it says. No condition beyond those that each theorem states.
-/
import Derived.Test.YtfnmkgfaoacnpaaOver
namespace Go.Proofs.Ytfnmkgfaoacnpaa
open Go.RowKit

def exL : ByteArray := ⟨#[10, 120, 32, 226, 134, 144, 32, 53, 10]⟩
def exArrow : ByteArray := ⟨#[226, 134, 144]⟩
theorem exL_tells : (startC exL).nameT = ⟨#[120]⟩ ∧ ((startC exL).name.mark [exArrow]).numN 0 9 = 5 ∧ (((startC exL).name.mark [exArrow]).num 0 9).more = false ∧ (((startC exL).name.mark [exArrow]).num 0 9).eErr = 0 := by decide +kernel
theorem one_sign (w : World) (s : ByteArray) : Signs (w.alloc (.cells #[.string s] 9)) w.heap.size [s] :=
  ⟨_, Blk.new w _ _, fun k x hx => by
    rcases k with _ | k
    · simp at hx; subst hx; rfl
    · simp at hx⟩
set_option maxRecDepth 100000 in
theorem awakeL_any (w : World) : Calls Try.prog 17 #[] w fun e w' => e = .returned (.bool true) ∧ Below w.heap.size w w' := by
  have OV := Lib.hid (overC_any exL w (by decide))
  have E := Lib.hid exL_tells
  have N : Hid (∀ g w1, CurC w1 g (startC exL) → _) := fun g w1 h1 => nameC_any g (startC exL) w1 h1
  have M : Hid (∀ g w1, CurC w1 g (startC exL).name → Calls Try.prog 45 #[.pointer (some ⟨g, 0, none⟩), .slice (some ⟨w1.heap.size, 0, none⟩) 1 1] (w1.alloc (.cells #[.string exArrow] 9)) fun e w' => e = .returned (.tuple #[]) ∧ CurC w' g ((startC exL).name.mark [exArrow]) ∧ Keep w1.heap.size g w1 w') := fun g w1 h1 => by
    have hb : Below w1.heap.size w1 (w1.alloc (.cells #[.string exArrow] 9)) := (Below.refl _ _).alloc (Nat.le_refl _) _
    refine (markC_any g _ [exArrow] w1.heap.size 1 _ (h1.below hb) (one_sign w1 exArrow) (by simp)).mono ?_
    rintro e w' ⟨rfl, h2, k2⟩
    exact ⟨rfl, h2, Keep.below_then hb k2⟩
  have U : Hid (∀ g w1, CurC w1 g ((startC exL).name.mark [exArrow]) → _) := fun g w1 h1 => numC_any g _ 0 9 w1 h1
  have R : Hid (∀ g w1, CurC w1 g (((startC exL).name.mark [exArrow]).num 0 9) → _) := fun g w1 h1 => err_any g _ w1 h1
  have O : Hid (∀ g w1, CurC w1 g (((startC exL).name.mark [exArrow]).num 0 9) → _) := fun g w1 h1 => more_any g _ w1 h1
  rw [E.out.1] at N
  rw [E.out.2.1] at U
  rw [E.out.2.2.1] at O
  rw [E.out.2.2.2] at R
  clear E
  unfold exArrow exL at *
  generalize (Cu.num (Cu.mark (startC ⟨#[10, 120, 32, 226, 134, 144, 32, 53, 10]⟩).name [⟨#[226, 134, 144]⟩]) 0 9) = c3 at *
  generalize (Cu.mark (startC ⟨#[10, 120, 32, 226, 134, 144, 32, 53, 10]⟩).name [⟨#[226, 134, 144]⟩]) = c2 at *
  generalize (startC ⟨#[10, 120, 32, 226, 134, 144, 32, 53, 10]⟩).name = c1 at *
  generalize (startC ⟨#[10, 120, 32, 226, 134, 144, 32, 53, 10]⟩) = c0 at *
  generalize c3.eLine = l at *
  generalize c3.eCol = k at *
  go_enter Try.func17, Try.ntmps17
  go_wp2_with fail
  refine OV.out.mono ?_
  rintro e w1 ⟨g, rfl, h1, hg, hb1⟩
  have H1 := Lib.hid h1
  have B1 := Lib.hid hb1
  have HG := Lib.hid hg
  clear h1 hb1 hg
  go_wp2_with fail
  refine (N.out g _ H1.out).mono ?_
  rintro e w2 ⟨rfl, h2, k2⟩
  have H2 := Lib.hid h2
  have B2 : Hid (Below w.heap.size w w2) := B1.out.trans (k2.below B1.out.size HG.out)
  clear h2 k2 B1 H1 N
  go_wp2_with fail
  refine (M.out g _ H2.out).mono ?_
  rintro e w3 ⟨rfl, h3, k3⟩
  have H3 := Lib.hid h3
  have B3 : Hid (Below w.heap.size w w3) := B2.out.trans (k3.below B2.out.size HG.out)
  clear h3 k3 B2 H2 M
  go_wp2_with fail
  refine (U.out g _ H3.out).mono ?_
  rintro e w4 ⟨rfl, h4, k4⟩
  have H4 := Lib.hid h4
  have B4 : Hid (Below w.heap.size w w4) := B3.out.trans (k4.below B3.out.size HG.out)
  clear h4 k4 B3 H3 U
  go_wp2_with fail
  refine (R.out g _ H4.out).mono ?_
  rintro e w5 ⟨rfl, hb5⟩
  have H5 := Lib.hid (H4.out.below hb5)
  have B5 := Lib.hid (B4.out.trans (hb5.mono B4.out.size))
  clear hb5 B4 H4 R
  go_wp2_with fail
  refine (O.out g _ H5.out).mono ?_
  rintro e w6 ⟨rfl, hb6⟩
  have B6 := Lib.hid (B5.out.trans (hb6.mono B5.out.size))
  clear hb6 B5 H5 O
  go_wp2
  go_ret
  exact ⟨rfl, B6.out⟩
end Go.Proofs.Ytfnmkgfaoacnpaa
