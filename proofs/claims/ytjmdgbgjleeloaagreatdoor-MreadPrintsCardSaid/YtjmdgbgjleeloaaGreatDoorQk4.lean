/-
  Package mread's canBeWritten and Print. Conditions: the library's tables, the Ops' names and parts hold what the text lays.
  What a target without an error has, plainly. No condition beyond those that each theorem states.
-/
import Derived.Test.YtjmdgbgjleeloaaGreatDoorMdX
import Derived.Test.YtjmdgbgjleeloaaGreatDoorPk26
import Derived.Deep.RegionHeld3
import Derived.Test.YtjmdgbgjleeloaaGreatDoorPk3
namespace Go.Proofs.YtjmdgbgjleeloaaGreatDoor
open Go.RowKit

def canG (t : Gg) : Bool := decide (0 ≤ t.frame) && decide (t.frame ≤ 400) && decide (0 < t.blocks.length) && decide (t.blocks.length ≤ 200) && (rightT wideM (wideG t) == 0)
theorem wide_small {t : Gg} (h : SmallG t) (h2 : t.blocks.length ≤ 200) : SmallG (wideG t) := by
  refine ⟨by unfold wideG; simp; omega, fun x hx => ?_⟩
  unfold wideG at hx
  simp only [List.mem_append, List.mem_map, List.mem_replicate] at hx
  rcases hx with ⟨b, hb, rfl⟩ | ⟨_, rfl⟩
  · have := h.i b hb
    unfold wideB
    split
    · exact this
    · exact this
  · exact ⟨by simp [trapB], fun i hi => by simp [trapB] at hi⟩
theorem belP_alloc {A w : World} {o : Obj} (h : Below A.heap.size A w) : Below A.heap.size A (w.alloc o) := h.alloc h.size o
theorem belP_drew {A w : World} (h : Below A.heap.size A w) : Below A.heap.size A w.drew := h.drew
set_option maxRecDepth 100000 in
set_option maxHeartbeats 8000000 in
theorem can_any (t : Gg) (ba : Option Addr) (bc : Nat) (w : World) (hB : BlsW w ba t.blocks) (hS : SmallG t) (hT : TabW w) :
    Calls Tryz.prog 22 #[tgV t ba bc] w fun e w' => e = .returned (.bool (canG t)) ∧ Below w.heap.size w w' := by
  have HBL := Lib.hid hB
  have HSM := Lib.hid hS
  have HTW := Lib.hid hT
  have hlen := hS.b
  have hb0 : Below w.heap.size w (w.alloc (.cells (tgC t ba bc) 24)) := (Below.refl _ w).alloc (Nat.le_refl _) _
  have HB0 := Lib.hid hb0
  have HX0 : Hid (Blk (w.alloc (.cells (tgC t ba bc) 24)) w.heap.size 24 (tgC t ba bc)) := Blk.new w _ _
  have HQ : Hid (canG t = (decide (0 ≤ t.frame) && decide (t.frame ≤ 400) && decide (0 < t.blocks.length) && decide (t.blocks.length ≤ 200) && (rightT wideM (wideG t) == 0))) := rfl
  have ST := Lib.hid (tgC.eq_1 t ba bc)
  rw [ST.out] at HB0 HX0
  unfold tgV
  rw [ST.out]
  clear hB hS hT hb0
  by_cases h1 : t.frame < 0
  · have hq : canG t = false := by rw [HQ.out, decide_eq_false (by omega)]; rfl
    rw [hq]
    clear hq
    go_enter Tryz.func22, Tryz.ntmps22
    go_wp2
    go_ret
    exact ⟨rfl, HB0.out⟩
  by_cases h2 : 400 < t.frame
  · have hq : canG t = false := by rw [HQ.out, decide_eq_false (p := t.frame ≤ 400) (by omega)]; simp
    rw [hq]
    clear hq
    go_enter Tryz.func22, Tryz.ntmps22
    go_wp2
    go_ret
    exact ⟨rfl, HB0.out⟩
  by_cases h3 : t.blocks.length = 0
  · have hq : canG t = false := by rw [HQ.out, decide_eq_false (p := 0 < t.blocks.length) (by omega)]; simp
    rw [hq]
    clear hq
    generalize hn : t.blocks.length = n at *
    subst h3
    go_enter Tryz.func22, Tryz.ntmps22
    go_wp2
    go_ret
    exact ⟨rfl, HB0.out⟩
  have h30 : ((t.blocks.length : Int) == 0) = false := beq_eq_false_iff_ne.2 (by omega)
  by_cases h4 : 200 < t.blocks.length
  · have hq : canG t = false := by rw [HQ.out, decide_eq_false (p := t.blocks.length ≤ 200) (by omega)]; simp
    rw [hq]
    clear hq
    have h4' : (200 : Int) < t.blocks.length := by omega
    go_enter Tryz.func22, Tryz.ntmps22
    go_wp2
    go_ret
    exact ⟨rfl, HB0.out⟩
  have h4' : ¬ (200 : Int) < t.blocks.length := by omega
  have hq : canG t = (rightT wideM (wideG t) == 0) := by rw [HQ.out, decide_eq_true (p := 0 ≤ t.frame) (by omega), decide_eq_true (p := t.frame ≤ 400) (by omega), decide_eq_true (p := 0 < t.blocks.length) (by omega), decide_eq_true (p := t.blocks.length ≤ 200) (by omega)]; simp
  rw [hq]
  clear hq HQ
  obtain ⟨A, hA⟩ : ∃ A, A = w.alloc (.cells #[.int .i64 t.frame, .slice ba t.blocks.length bc] 24) := ⟨_, rfl⟩
  have WI : Hid (∀ W, Below A.heap.size A W → Calls Tryz.prog 50 #[] W fun e w' => ∃ a c, e = .returned (machV wideM a c none 0) ∧ Hid (MaW w' wideM a none) ∧ Below A.heap.size A w' ∧ Hid (Below W.heap.size W w')) := fun W h => (widest_any W).mono fun e w' ⟨⟨a, c, g1, g2⟩, g3⟩ => ⟨a, c, g1, g2, h.trans (g3.mono h.size), g3⟩
  have WN : Hid (∀ W, Below A.heap.size A W → Calls Tryz.prog 51 #[.agg #[.int .i64 t.frame, .slice ba t.blocks.length bc]] W fun e w' => ∃ a c, e = .returned (tgV (wideG t) a c) ∧ Hid (BlsW w' a (wideG t).blocks) ∧ Below A.heap.size A w' ∧ Hid (Below W.heap.size W w')) := fun W h => by
    have hw : Below w.heap.size w W := (hA ▸ HB0.out).trans (h.mono (by rw [hA]; exact HB0.out.size))
    have h5 := widened_any t ba bc W (HBL.out.below hw) (by omega) (fun b hb => (HSM.out.i b hb).1)
    unfold tgV at h5
    rw [ST.out] at h5
    exact h5.mono fun e w' ⟨⟨a, c, g1, g2⟩, g3⟩ => ⟨a, c, g1, g2, h.trans (g3.mono h.size), g3⟩
  have RG : Hid (∀ (W : World) (a : Option Addr) (c : Nat) (b : Option Addr) (d : Nat), Below A.heap.size A W → MaW W wideM a none → BlsW W b (wideG t).blocks → Calls Tryz.prog 19 #[machV wideM a c none 0, tgV (wideG t) b d] W fun e w' => e = .returned (.int .i64 (rightT wideM (wideG t))) ∧ Below A.heap.size A w') := fun W a c b d h g1 g2 => by
    have hw : Below w.heap.size w W := (hA ▸ HB0.out).trans (h.mono (by rw [hA]; exact HB0.out.size))
    exact (right_any wideM a none c 0 (wideG t) b d W (by decide) (by decide) g1 g2 (wide_small HSM.out (by omega)) (HTW.out.below hw)).mono fun e w' ⟨g3, g4⟩ => ⟨g3, h.trans (g4.mono h.size)⟩
  have HZ : Hid (∀ W, Below A.heap.size A W → Below A.heap.size A W ∧ W.cell? ⟨w.heap.size, 0, none⟩ = some (.int .i64 t.frame) ∧ W.cell? ⟨w.heap.size, 1, none⟩ = some (.slice ba t.blocks.length bc)) := fun W h => by
    have hx := (hA ▸ HX0.out : Blk A w.heap.size 24 #[.int .i64 t.frame, .slice ba t.blocks.length bc])
    exact ⟨h, (hx.below h hx.lt).cell 0, (hx.below h hx.lt).cell 1⟩
  have HBA : Hid (Below w.heap.size w A) := hA ▸ HB0.out
  unfold machV at WI RG
  rw [show maxC wideM = fun a c b d => #[.int .i64 64, .slice a 8 c, .int .i64 0, .slice b 0 d] from rfl] at WI RG
  obtain ⟨G, hG⟩ : ∃ G, G = wideG t := ⟨_, rfl⟩
  unfold tgV tgC at WN RG
  rw [← hG] at WN RG ⊢
  generalize rightT wideM G = q at *
  clear hG ST HX0
  go_enter Tryz.func22, Tryz.ntmps22
  go_upto_region 3 with fail
  rw [← hA]
  clear hA HB0
  have hbd : Below A.heap.size A A.drew := (Below.refl _ _).drew
  go_region_held3 (fun W => Below A.heap.size A W ∧ W.cell? ⟨w.heap.size, 0, none⟩ = some (.int .i64 t.frame) ∧ W.cell? ⟨w.heap.size, 1, none⟩ = some (.slice ba t.blocks.length bc))
    (first | (refine HZ.out _ ?_; (repeat (first | with_reducible apply belP_alloc | with_reducible apply belP_drew)); (first | exact Below.refl _ _ | assumption)))
    (first
      | (go_at_call 50; refine (WI.out _ (by go_split_ands; assumption)).mono ?_; rintro e w21 ⟨va, vc, rfl, hM21, hb21, hW21⟩)
      | (go_at_call 51; refine (WN.out _ (by go_split_ands; assumption)).mono ?_; rintro e w22 ⟨vb, vd, rfl, hG22, hb22, hW22⟩)
      | (go_at_call 19; (first | refine (RG.out _ _ _ _ _ hb22 (hM21.out.below hW22.out) hG22.out).mono ?_ | refine (RG.out _ _ _ _ _ hb21 hM21.out (hG22.out.below hW21.out)).mono ?_); rintro e w23 ⟨rfl, hb23⟩))
  all_goals (
    go_wp2
    go_ret
    exact ⟨rfl, HBA.out.trans (hb23.mono HBA.out.size)⟩)
end Go.Proofs.YtjmdgbgjleeloaaGreatDoor
namespace Go.Proofs.YtjmdgbgjleeloaaGreatDoor

theorem ins_right {m : Mm} {fr : Int} {x : Ii} (h : ofInsN m fr x = 0) : isInsT m x = true ∧ belowB m.regs [x.dst, x.a, x.b] = true ∧ (hasB x.op 48 = true → belowB fr [x.imm] = true) := by
  unfold ofInsN at h
  by_cases h1 : isInsT m x = true
  · rw [if_pos h1] at h
    by_cases h2 : belowB m.regs [x.dst, x.a, x.b] = true
    · rw [if_pos h2] at h
      refine ⟨h1, h2, fun h3 => ?_⟩
      cases h4 : belowB fr [x.imm]
      · rw [h3, h4] at h
        exact absurd h (by decide)
      · rfl
    · rw [if_neg h2] at h
      exact absurd h (by decide)
  · rw [if_neg h1] at h
    exact absurd h (by decide)
theorem end_right {m : Mm} {nb : Int} {t : Tt} (h : ofEndN m nb t = 0) : isEndT t = true ∧ readsWellT m t = true ∧ belowB nb [t.t0, t.t1] = true := by
  unfold ofEndN at h
  by_cases h1 : isEndT t = true
  · rw [if_pos h1] at h
    by_cases h2 : readsWellT m t = true
    · rw [if_pos h2] at h
      by_cases h3 : belowB nb [t.t0, t.t1] = true
      · exact ⟨h1, h2, h3⟩
      · rw [if_neg h3] at h; exact absurd h (by decide)
    · rw [if_neg h2] at h; exact absurd h (by decide)
  · rw [if_neg h1] at h; exact absurd h (by decide)
theorem insErr_all {m : Mm} {fr : Int} : ∀ {l : List Ii}, insErr m fr l = 0 → ∀ x ∈ l, ofInsN m fr x = 0
  | [], _, x, hx => by simp at hx
  | y :: l, h, x, hx => by
    unfold insErr at h
    by_cases h1 : ofInsN m fr y = 0
    · rw [if_pos h1] at h
      rcases List.mem_cons.1 hx with rfl | hx
      · exact h1
      · exact insErr_all h x hx
    · rw [if_neg h1] at h; exact absurd h h1
theorem blErr_all {m : Mm} {fr nb : Int} : ∀ {l : List Bb}, blErr m fr nb l = 0 → ∀ b ∈ l, insErr m fr b.ins = 0 ∧ ofEndN m nb b.tm = 0
  | [], _, x, hx => by simp at hx
  | y :: l, h, x, hx => by
    unfold blErr at h
    by_cases h1 : insErr m fr y.ins = 0
    · rw [if_pos h1] at h
      by_cases h2 : ofEndN m nb y.tm = 0
      · rw [if_pos h2] at h
        rcases List.mem_cons.1 hx with rfl | hx
        · exact ⟨h1, h2⟩
        · exact blErr_all h x hx
      · rw [if_neg h2] at h; exact absurd h h2
    · rw [if_neg h1] at h; exact absurd h h1
theorem right_parts0 {m : Mm} {t : Gg} (h : rightT m t = 0) : m.rightB = true ∧ smallT t = true ∧ blErr m t.frame t.blocks.length t.blocks = 0 := by
  unfold rightT at h
  by_cases h1 : m.rightB = true
  · rw [if_pos h1] at h
    by_cases h2 : smallT t = true
    · rw [if_pos h2] at h
      exact ⟨h1, h2, h⟩
    · rw [if_neg h2] at h; exact absurd h (by decide)
  · rw [if_neg h1] at h; exact absurd h (by decide)
end Go.Proofs.YtjmdgbgjleeloaaGreatDoor
