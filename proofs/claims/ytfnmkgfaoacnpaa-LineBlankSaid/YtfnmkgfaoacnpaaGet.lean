/-
  The statements of package line: a thing that is got, how many letters calls have, whether both cursors tell the same. No condition beyond those that each theorem states.
-/
import Derived.Test.YtfnmkgfaoacnpaaROver
import Derived.BigQuiet
import Derived.Deep.QuietTactic
import Derived.Deep.RegionWith
namespace Go.Proofs.Ytfnmkgfaoacnpaa
open Go.RowKit

/-- A thing that is got. -/
structure Gt where
  what : Int
  least : Int
  most : Int
  s : ByteArray
  t : ByteArray

def pk (n : Int) : Int := (n.tmod 8 + 8) % 8
theorem tmod_bounds (n : Int) : -8 < n.tmod 8 ∧ n.tmod 8 < 8 := by
  have h1 := Int.tmod_lt_of_pos n (show (0 : Int) < 8 by decide)
  have h2 := Int.tmod_lt_of_pos (-n) (show (0 : Int) < 8 by decide)
  rw [Int.neg_tmod] at h2
  omega
theorem pk_bounds (n : Int) : 0 ≤ pk n ∧ pk n < 8 := by unfold pk; omega
theorem pick_any (n : Int) (w : World) : Calls Try.prog 53 #[.int .i64 n, .int .i64 8] w fun e w' => e = .returned (.int .i64 (pk n)) ∧ w = w' := by
  have h := tmod_bounds n
  unfold pk
  go_enter Try.func53, Try.ntmps53
  go_wp2
  go_ret
  exact ⟨rfl, rfl⟩
def Cu.got (c : Cu) (x : Gt) : Cu :=
  if pk x.what = 0 then c.key x.s else if pk x.what = 1 then c.is x.s else if pk x.what = 2 then c.name else if pk x.what = 3 then c.num x.least x.most
  else if pk x.what = 4 then c.mark [x.s, x.t] else if pk x.what = 5 then c.end_ else if pk x.what = 6 then c.fail x.least else c
theorem Cu.Ok.got {c : Cu} (h : c.Ok) (x : Gt) : (c.got x).Ok := by
  unfold Cu.got
  repeat' split
  · exact h.key _
  · exact h.is _
  · exact h.name
  · exact h.num _ _
  · exact h.mark _
  · exact h.end_
  · exact h.fail _
  · exact h
set_option maxHeartbeats 1000000 in
set_option maxRecDepth 100000 in
theorem both_any (g q : Nat) (c : Cu) (w : World) (h : CurC w g c) (hr : CurR w q c) (hok : c.Ok) : Calls Try.prog 20 #[.pointer (some ⟨g, 0, none⟩), .pointer (some ⟨q, 0, none⟩)] w fun e w' => e = .returned (.bool true) ∧ Below w.heap.size w w' := by
  have H := Lib.hid h
  have HR := Lib.hid hr
  have E := Lib.hid (fun w1 h1 => err_any g c w1 h1)
  have M := Lib.hid (fun w1 h1 => more_any g c w1 h1)
  have N := Lib.hid (fun w1 h1 => ends_any g c w1 h1)
  have K := Lib.hid (fun w1 h1 => peek_any g c w1 h1)
  have E' := Lib.hid (fun w1 h1 => errR_any q c w1 h1 hok)
  have M' := Lib.hid (fun w1 h1 => moreR_any q c w1 h1 hok)
  have N' := Lib.hid (fun w1 h1 => endsR_any q c w1 h1 hok)
  have K' := Lib.hid (fun w1 h1 => peekR_any q c w1 h1 hok)
  clear h hr hok
  generalize c.eLine = eL at *
  generalize c.eCol = eC at *
  generalize c.eErr = eE at *
  generalize c.more = cm at *
  generalize c.ends = ce at *
  generalize c.nameT = cn at *
  go_enter Try.func20, Try.ntmps20
  go_wp2_with fail
  refine (E.out _ H.out).mono ?_
  rintro e w1 ⟨rfl, hb1⟩
  have H1 := Lib.hid (H.out.below hb1)
  have R1 := Lib.hid (HR.out.below hb1)
  have B1 := Lib.hid hb1
  clear hb1 E H HR
  go_wp2_with fail
  refine (E'.out _ R1.out).mono ?_
  rintro e w2 ⟨rfl, hb2⟩
  have H2 := Lib.hid (H1.out.below hb2)
  have R2 := Lib.hid (R1.out.below hb2)
  have B2 := Lib.hid (B1.out.trans (hb2.mono B1.out.size))
  clear hb2 E' H1 R1 B1
  go_wp2_with fail
  refine (M.out _ H2.out).mono ?_
  rintro e w3 ⟨rfl, hb3⟩
  have H3 := Lib.hid (H2.out.below hb3)
  have R3 := Lib.hid (R2.out.below hb3)
  have B3 := Lib.hid (B2.out.trans (hb3.mono B2.out.size))
  clear hb3 M H2 R2 B2
  go_wp2_with fail
  refine (M'.out _ R3.out).mono ?_
  rintro e w4 ⟨rfl, rfl⟩
  clear M'
  go_wp2_with fail
  refine (N.out _ H3.out).mono ?_
  rintro e w4 ⟨rfl, hb4⟩
  have H4 := Lib.hid (H3.out.below hb4)
  have R4 := Lib.hid (R3.out.below hb4)
  have B4 := Lib.hid (B3.out.trans (hb4.mono B3.out.size))
  clear hb4 N H3 R3 B3
  go_wp2_with fail
  refine (N'.out _ R4.out).mono ?_
  rintro e w5 ⟨rfl, rfl⟩
  clear N'
  go_wp2_with fail
  refine (K.out _ H4.out).mono ?_
  rintro e w5 ⟨rfl, hb5⟩
  have R5 := Lib.hid (R4.out.below hb5)
  have B5 := Lib.hid (B4.out.trans (hb5.mono B4.out.size))
  clear hb5 K H4 R4 B4
  go_wp2_with fail
  refine (K'.out _ R5.out).mono ?_
  rintro e w6 ⟨rfl, rfl⟩
  clear K'
  go_wp2
  go_ret
  exact ⟨by simp, B5.out⟩
end Go.Proofs.Ytfnmkgfaoacnpaa
