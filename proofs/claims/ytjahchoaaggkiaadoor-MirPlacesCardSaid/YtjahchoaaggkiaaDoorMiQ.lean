/-
  What is right reads and writes registers of the machine, slots of its frame: plainly; whether places are such. No condition beyond those that each theorem states.
-/
import Derived.Test.YtjahchoaaggkiaaDoorMiL
import Derived.Test.YtjahchoaaggkiaaDoorMiC
import Derived.BigGuard
import Derived.Deep.RegionHeld3
namespace Go.Proofs.YtjahchoaaggkiaaDoor
open Go.RowKit

def PlaceB (m : Mm) (fr : Int) (l : Ll) : Prop := 0 ≤ l.2 ∧ (l.1 = true → l.2 < fr) ∧ (l.1 = false → l.2 < m.regs)
theorem ins_right {m : Mm} {fr : Int} {x : Ii} (h : ofInsN m fr x = 0) : isInsT m x = true ∧ belowB m.regs [x.dst, x.a, x.b] = true ∧ (hasB x.op 48 = true → belowB fr [x.imm] = true) := by
  unfold ofInsN at h
  by_cases h1 : isInsT m x = true
  · rw [if_pos h1] at h
    by_cases h2 : belowB m.regs [x.dst, x.a, x.b] = true
    · rw [if_pos h2] at h
      refine ⟨h1, h2, fun h3 => ?_⟩
      cases h4 : belowB fr [x.imm]
      · rw [h3, h4] at h
        exact absurd h (by decide)
      · rfl
    · rw [if_neg h2] at h
      exact absurd h (by decide)
  · rw [if_neg h1] at h
    exact absurd h (by decide)
theorem end_right {m : Mm} {nb : Int} {t : Tt} (h : ofEndN m nb t = 0) : isEndT t = true ∧ readsWellT m t = true ∧ belowB nb [t.t0, t.t1] = true := by
  unfold ofEndN at h
  by_cases h1 : isEndT t = true
  · rw [if_pos h1] at h
    by_cases h2 : readsWellT m t = true
    · rw [if_pos h2] at h
      by_cases h3 : belowB nb [t.t0, t.t1] = true
      · exact ⟨h1, h2, h3⟩
      · rw [if_neg h3] at h; exact absurd h (by decide)
    · rw [if_neg h2] at h; exact absurd h (by decide)
  · rw [if_neg h1] at h; exact absurd h (by decide)
theorem insErr_all {m : Mm} {fr : Int} : ∀ {l : List Ii}, insErr m fr l = 0 → ∀ x ∈ l, ofInsN m fr x = 0
  | [], _, x, hx => by simp at hx
  | y :: l, h, x, hx => by
    unfold insErr at h
    by_cases h1 : ofInsN m fr y = 0
    · rw [if_pos h1] at h
      rcases List.mem_cons.1 hx with rfl | hx
      · exact h1
      · exact insErr_all h x hx
    · rw [if_neg h1] at h; exact absurd h h1
theorem blErr_all {m : Mm} {fr nb : Int} : ∀ {l : List Bb}, blErr m fr nb l = 0 → ∀ b ∈ l, insErr m fr b.ins = 0 ∧ ofEndN m nb b.tm = 0
  | [], _, x, hx => by simp at hx
  | y :: l, h, x, hx => by
    unfold blErr at h
    by_cases h1 : insErr m fr y.ins = 0
    · rw [if_pos h1] at h
      by_cases h2 : ofEndN m nb y.tm = 0
      · rw [if_pos h2] at h
        rcases List.mem_cons.1 hx with rfl | hx
        · exact ⟨h1, h2⟩
        · exact blErr_all h x hx
      · rw [if_neg h2] at h; exact absurd h h2
    · rw [if_neg h1] at h; exact absurd h h1
theorem right_parts0 {m : Mm} {t : Gg} (h : rightT m t = 0) : m.rightB = true ∧ smallT t = true ∧ blErr m t.frame t.blocks.length t.blocks = 0 := by
  unfold rightT at h
  by_cases h1 : m.rightB = true
  · rw [if_pos h1] at h
    by_cases h2 : smallT t = true
    · rw [if_pos h2] at h
      exact ⟨h1, h2, h⟩
    · rw [if_neg h2] at h; exact absurd h (by decide)
  · rw [if_neg h1] at h; exact absurd h (by decide)
theorem has_sub {o : Int} : (hasB o 16 = true → hasB o 48 = true) ∧ (hasB o 32 = true → hasB o 48 = true) := by
  rcases op_cases o with ⟨_, hk⟩ | h | h | h | h | h | h | h | h | h | h | h | h | h | h | h | h
  · rw [hk, hk, hk]; exact ⟨id, id⟩
  all_goals (rw [h]; decide)
theorem reg_place {m : Mm} {fr x : Int} (h : 0 ≤ x ∧ x < m.regs) : PlaceB m fr (regL x) := ⟨h.1, (fun e => by cases e), fun _ => h.2⟩
theorem slot_place {m : Mm} {fr x : Int} (h : 0 ≤ x ∧ x < fr) : PlaceB m fr (true, x) := ⟨h.1, fun _ => h.2, (fun e => by cases e)⟩
theorem reads_place {m : Mm} {fr : Int} {x : Ii} (hm : m.rightB = true) (h : ofInsN m fr x = 0) : ∀ l ∈ readsT m x, PlaceB m fr l := by
  obtain ⟨_, h2, h3⟩ := ins_right h
  have h4 := below_iff.1 h2
  intro l hl
  unfold readsT at hl
  split at hl
  · obtain ⟨r, hr, rfl⟩ := List.mem_map.1 hl
    have hi := (right_iff m).1 hm
    have := List.all_eq_true.1 hi.args r (List.mem_of_mem_take hr)
    simp only [Mm.regB, Bool.and_eq_true, decide_eq_true_eq] at this
    exact reg_place this
  · split at hl
    · rename_i h16
      have := below_iff.1 (h3 (has_sub.1 h16)) x.imm (by simp)
      simp only [List.mem_singleton] at hl
      subst hl
      exact slot_place this
    · split at hl
      · simp only [List.mem_cons, List.not_mem_nil, or_false] at hl
        rcases hl with rfl | rfl
        · exact reg_place (h4 _ (by simp))
        · exact reg_place (h4 _ (by simp))
      · split at hl
        · simp only [List.mem_singleton] at hl
          subst hl
          exact reg_place (h4 _ (by simp))
        · simp at hl
theorem writes_place {m : Mm} {fr : Int} {x : Ii} (hm : m.rightB = true) (h : ofInsN m fr x = 0) : ∀ l ∈ writesT m x, PlaceB m fr l := by
  obtain ⟨_, h2, h3⟩ := ins_right h
  have h4 := below_iff.1 h2
  intro l hl
  unfold writesT at hl
  split at hl
  · simp only [List.mem_singleton] at hl
    subst hl
    have hi := ((right_iff m).1 hm).ret
    simp only [Mm.regB, Bool.and_eq_true, decide_eq_true_eq] at hi
    exact reg_place hi
  · split at hl
    · rename_i h16
      have := below_iff.1 (h3 (has_sub.2 h16)) x.imm (by simp)
      simp only [List.mem_singleton] at hl
      subst hl
      exact slot_place this
    · split at hl
      · simp only [List.mem_singleton] at hl
        subst hl
        exact reg_place (h4 _ (by simp))
      · simp at hl
theorem inserted_one (m : Mm) {x : Ii} (h : insertedT x.op = true) : (readsT m x).length = 1 ∧ (writesT m x).length = 1 := by
  have : x.op = 15 ∨ x.op = 16 ∨ x.op = 17 := by
    simp only [insertedT, Bool.or_eq_true, beq_iff_eq] at h
    omega
  unfold readsT writesT
  rcases this with h | h | h <;> (rw [h]; exact ⟨rfl, rfl⟩)
theorem no_copy {m : Mm} {fr : Int} {x : Ii} (h : ofInsN m fr x = 0) : (x.op == 14) = false := by
  obtain ⟨h1, _, _⟩ := ins_right h
  cases hq : (x.op == 14)
  · rfl
  · have h14 : x.op = 14 := by simpa using hq
    exfalso
    unfold isInsT at h1
    rw [h14] at h1
    simp only [show ((partsN 14) != 0) = false from rfl, Bool.false_and] at h1
    cases h1
theorem needs_place {m : Mm} {fr nb : Int} {t : Tt} (hm : m.rightB = true) (h : ofEndN m nb t = 0) : ∀ l ∈ needsT t, PlaceB m fr l := by
  obtain ⟨_, h2, _⟩ := end_right h
  have hi := ((right_iff m).1 hm).ret
  simp only [Mm.regB, Bool.and_eq_true, decide_eq_true_eq] at hi
  intro l hl
  unfold needsT at hl
  split at hl
  · rename_i hk
    simp only [List.mem_singleton] at hl
    subst hl
    unfold readsWellT at h2
    by_cases h3 : t.kind = 3
    · rw [if_pos h3] at h2
      have h4 : t.a ≠ -1 := by
        rcases hk with hk | hk
        · omega
        · exact hk.2
      simp only [Bool.or_eq_true, beq_iff_eq] at h2
      rcases h2 with h2 | h2
      · rw [h2]; exact reg_place hi
      · exact absurd h2 h4
    · rw [if_neg h3] at h2
      exact reg_place (below_iff.1 h2 _ (by simp))
  · simp at hl
theorem needs_ret {m : Mm} {nb : Int} {t : Tt} (h : ofEndN m nb t = 0) (hk : t.kind = 3) (hl : 0 < (needsT t).length) : needsT t = [regL m.ret] := by
  obtain ⟨_, h2, _⟩ := end_right h
  unfold readsWellT at h2
  rw [if_pos hk] at h2
  unfold needsT at hl ⊢
  split at hl
  · rename_i h3
    rw [if_pos h3]
    have h4 : t.a ≠ -1 := by
      rcases h3 with h3 | h3
      · omega
      · exact h3.2
    simp only [Bool.or_eq_true, beq_iff_eq] at h2
    rcases h2 with h2 | h2
    · rw [h2]
    · exact absurd h2 h4
  · simp at hl
def locV (l : Ll) : Value := .agg #[.bool l.1, .int .i64 l.2]
set_option maxRecDepth 100000 in
theorem place_any (m : Mm) (aa sa : Option Addr) (ac sc : Nat) (fr : Int) (l : Ll) (w : World) (h : PlaceB m fr l) :
    Calls Tryd.prog 53 #[machV m aa ac sa sc, .int .i64 fr, locV l] w fun e w' => e = .returned (.bool true) ∧ Below w.heap.size w w' := by
  have HW : Hid (Below w.heap.size w ((w.alloc (.cells (maxC m aa ac sa sc) 24)).alloc (.cells #[.bool l.1, .int .i64 l.2] 58))) := Lib.hid (((Below.refl _ w).alloc (Nat.le_refl _) _).alloc (by simp) _)
  have HM := Lib.hid (maxC.eq_1 m aa ac sa sc)
  rw [HM.out] at HW
  obtain ⟨h0, h1, h2⟩ := h
  unfold machV locV
  rw [HM.out]
  cases hb : l.1
  · have h3 := h2 hb
    rw [hb] at HW
    go_enter Tryd.func53, Tryd.ntmps53
    go_wp2
    go_ret
    exact ⟨rfl, HW.out⟩
  · have h3 := h1 hb
    rw [hb] at HW
    go_enter Tryd.func53, Tryd.ntmps53
    go_wp2
    go_ret
    exact ⟨rfl, HW.out⟩
set_option maxHeartbeats 2000000 in
set_option maxRecDepth 100000 in
theorem allP_any (m : Mm) (aa sa : Option Addr) (ac sc : Nat) (fr : Int) (l : List Ll) (a : Option Addr) (c : Nat) (w : World) (hl : l.length ≤ 1000000) (hI : LocsW w a l) (h : ∀ x ∈ l, PlaceB m fr x) :
    Calls Tryd.prog 29 #[machV m aa ac sa sc, .int .i64 fr, .slice a l.length c] w fun e w' => e = .returned (.bool true) ∧ Below w.heap.size w w' := by
  have HI := Lib.hid hI
  have HL := Lib.hid h
  have HB0 : Hid (Below w.heap.size w (w.alloc (.cells (maxC m aa ac sa sc) 24))) := (Below.refl _ w).alloc (Nat.le_refl _) _
  have HX0 : Hid (Blk (w.alloc (.cells (maxC m aa ac sa sc) 24)) w.heap.size 24 (maxC m aa ac sa sc)) := Blk.new w _ _
  have HM := Lib.hid (maxC.eq_1 m aa ac sa sc)
  clear hI h
  unfold machV
  rw [HM.out] at HB0 HX0 ⊢
  go_enter Tryd.func29, Tryd.ntmps29
  go_wp2
  go_loopw [7] (fun k wr => ∃ j : Nat, k = .int .i64 j ∧ j ≤ l.length ∧ Blk wr w.heap.size 24 (maxC m aa ac sa sc) ∧ Below w.heap.size w wr) (fun k _ => l.length - (intOf k).toNat)
  case atStart => exact ⟨0, rfl, Nat.zero_le _, by rw [HM.out]; exact HX0.out, HB0.out⟩
  case round =>
    obtain ⟨j, rfl, hj, hX, hW⟩ := hrel
    have HX := Lib.hid hX
    have HW := Lib.hid hW
    clear hX hW HX0 HB0
    by_cases hlt : j < l.length
    · have hlt' : (j : Int) < l.length := by omega
      have hj0 : (0 : Int) ≤ j := by omega
      obtain ⟨x, hx⟩ : ∃ x, l[j]? = some x := ⟨_, List.getElem?_eq_getElem hlt⟩
      obtain ⟨g, o, rfl, hg, h0, h1⟩ := (HI.out.below HW.out) j x hx
      have hpx := HL.out x (List.mem_of_getElem? hx)
      obtain ⟨c0, c1, c2, c3⟩ := boxMa HX.out
      have CP : Hid (∀ W, Below wr.heap.size wr W → Calls Tryd.prog 53 #[machV m aa ac sa sc, .int .i64 fr, locV x] W fun e w' => e = .returned (.bool true) ∧ Below wr.heap.size wr w') := fun W h => (place_any m aa sa ac sc fr x W hpx).mono fun e w' ⟨h1, h2⟩ => ⟨h1, h.trans (h2.mono h.size)⟩
      unfold machV locV at CP
      rw [HM.out] at CP
      have hgl := HX.out.lt
      have HZ : Hid (∀ W, Below wr.heap.size wr W → Below wr.heap.size wr W ∧ (W.cell? ⟨w.heap.size, 0, none⟩ = some (.int .i64 m.regs) ∧ W.cell? ⟨w.heap.size, 1, none⟩ = some (.slice aa m.args.length ac) ∧ W.cell? ⟨w.heap.size, 2, none⟩ = some (.int .i64 m.ret) ∧ W.cell? ⟨w.heap.size, 3, none⟩ = some (.slice sa m.saved.length sc)) ∧ W.cell? ⟨g, o + j * 2, none⟩ = some (.bool x.1) ∧ W.cell? ⟨g, o + j * 2 + 1, none⟩ = some (.int .i64 x.2)) := fun W h =>
        ⟨h, boxMa (HX.out.below h HX.out.lt), (h.cell hg).trans h0, (h.cell hg).trans h1⟩
      clear hx hpx
      go_wp2_with fail
      clear c0 c1 c2 c3 h0 h1
      go_region_held3 (fun W => Below wr.heap.size wr W ∧ (W.cell? ⟨w.heap.size, 0, none⟩ = some (.int .i64 m.regs) ∧ W.cell? ⟨w.heap.size, 1, none⟩ = some (.slice aa m.args.length ac) ∧ W.cell? ⟨w.heap.size, 2, none⟩ = some (.int .i64 m.ret) ∧ W.cell? ⟨w.heap.size, 3, none⟩ = some (.slice sa m.saved.length sc)) ∧ W.cell? ⟨g, o + j * 2, none⟩ = some (.bool x.1) ∧ W.cell? ⟨g, o + j * 2 + 1, none⟩ = some (.int .i64 x.2))
        (first | (refine HZ.out _ ?_; first | exact (Below.refl _ _).drew | assumption))
        (first
          | (go_at_call 53; refine (CP.out _ (by go_split_ands; assumption)).mono ?_; rintro e w7 ⟨rfl, hb7⟩))
      have HX7 := Lib.hid (HX.out.below hb7 HX.out.lt)
      have HW7 : Hid (Below w.heap.size w w7) := Lib.hid (HW.out.trans (hb7.mono HW.out.size))
      rename_i hH
      clear hH hb7
      go_wp2
      go_roundw
      case rel => exact ⟨j + 1, by go_num, by omega, HX7.out, HW7.out⟩
      case measure => simp [intOf]; omega
    · have e : j = l.length := by omega
      subst e
      have hlt' : ¬ (l.length : Int) < l.length := by omega
      go_wp2
      go_ret
      exact ⟨rfl, HW.out⟩
end Go.Proofs.YtjahchoaaggkiaaDoor
