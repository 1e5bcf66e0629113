/-
  The statement's call Num tells the same of both cursors. No condition beyond those that each theorem states.
-/
import Derived.Test.YtfnmkgfaoacnpaaLikeA
namespace Go.Proofs.Ytfnmkgfaoacnpaa
open Go.RowKit

set_option maxHeartbeats 4000000 in
set_option maxRecDepth 100000 in
theorem alike_num (g q : Nat) (c d : Cu) (wh least most : Int) (s t : ByteArray) (w : World) (h : CurC w g c) (hr : CurC w q d) (hne : g ≠ q) (hl : Like c d) (hp : pk wh = 3) :
    Calls Try.prog 29 #[.pointer (some ⟨g, 0, none⟩), .pointer (some ⟨q, 0, none⟩), .agg #[.int .i64 wh, .int .i64 least, .int .i64 most, .string s, .string t]] w fun e w' => e = .returned (.bool true) ∧ AftA w w' g q (c.gotA ⟨wh, least, most, s, t⟩) (d.gotA ⟨wh, least, most, s, t⟩) := by
  have PK := Lib.hid (fun W => pick_any wh W)
  have hlt := h.lt
  have M0 : Hid (MidA w (getX w wh least most s t) g q c d wh least most s t) := MidA.start h hr
  have HGc : Hid (c.gotA ⟨wh, least, most, s, t⟩ = c.num least most) := by show _ = _; simp [Cu.gotA, Cu.got, hp]
  have HGd : Hid (d.gotA ⟨wh, least, most, s, t⟩ = d.num least most) := by show _ = _; simp [Cu.gotA, Cu.got, hp]
  have E1 := Lib.hid (fun w1 h1 => err_any g c w1 h1)
  have E2 := Lib.hid (fun w1 h1 => err_any q d w1 h1)
  have O1 := Lib.hid (fun w1 h1 => more_any g c w1 h1)
  have O2 := Lib.hid (fun w1 h1 => more_any q d w1 h1)
  rw [hp] at PK
  rw [← hl.eErr] at E2
  rw [← hl.more] at O2
  rw [HGc.out, HGd.out]
  have KC : Hid (∀ w1, MidA w w1 g q c d wh least most s t → _) := fun w1 h1 => first_A h1 hlt hne (numC_any g c least most w1 h1.C)
  have KR : Hid (∀ w1, MidA w w1 g q (c.num least most) d wh least most s t → _) := fun w1 h1 => second_A h1 hne (numC_any q d least most w1 h1.R)
  rw [hl.numN least most] at KC
  generalize c.num least most = c' at *
  generalize d.num least most = d' at *
  generalize d.numN least most = bb at *
  clear h hr hl hp HGc HGd
  generalize c.eLine = a1 at *
  generalize c.eCol = a2 at *
  generalize d.eLine = b1 at *
  generalize d.eCol = b2 at *
  generalize c.eErr = ee at *
  generalize c.more = mm at *
  go_enter Try.func29, Try.ntmps29
  go_wp2_with fail
  refine (E1.out _ M0.out.C).mono ?_
  rintro e w1 ⟨rfl, hb1⟩
  have M1 := Lib.hid (M0.out.below hb1)
  clear hb1 M0 E1
  go_wp2_with fail
  refine (E2.out _ M1.out.R).mono ?_
  rintro e w2 ⟨rfl, hb2⟩
  have M2 := Lib.hid (M1.out.below hb2)
  clear hb2 M1 E2
  go_wp2_with fail
  refine (O1.out _ M2.out.C).mono ?_
  rintro e w3 ⟨rfl, hb3⟩
  have M3 := Lib.hid (M2.out.below hb3)
  clear hb3 M2 O1
  go_wp2_with fail
  refine (O2.out _ M3.out.R).mono ?_
  rintro e w4 ⟨rfl, hb4⟩
  have M4 := Lib.hid (M3.out.below hb4)
  clear hb4 M3 O2
  have n0 := MidA.c0 M4
  have n1 := MidA.c1 M4
  have n2 := MidA.c2 M4
  have n3 := MidA.c3 M4
  have n4 := MidA.c4 M4
  go_wp2_with fail
  refine (PK.out _).mono ?_
  rintro e w5 ⟨rfl, rfl⟩
  clear n0
  go_wp2_with fail
  go_region_with (first
    | (go_at_call 27; refine (KR.out _ H1.out).mono ?_; rintro e w7 ⟨rfl, h2⟩; have H2 := Lib.hid h2; clear h2)
    | (go_at_call 27; refine (KC.out _ M4.out.drew).mono ?_; rintro e w6 ⟨rfl, h1⟩; have H1 := Lib.hid h1; have m1 := MidA.c1 H1; have m2 := MidA.c2 H1; clear h1))
  all_goals
    go_wp2
    go_ret
    exact ⟨by first | rfl | simp [Act.put], H2.out⟩
end Go.Proofs.Ytfnmkgfaoacnpaa
