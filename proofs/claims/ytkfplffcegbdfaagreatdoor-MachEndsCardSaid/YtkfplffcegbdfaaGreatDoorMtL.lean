/-
  The walk of MachTells. No condition beyond those that each theorem states.
-/
import Derived.Test.YtkfplffcegbdfaaGreatDoorMtA
import Derived.Test.YtkfplffcegbdfaaGreatDoorMtB
import Derived.Test.YtkfplffcegbdfaaGreatDoorPk11
import Derived.Test.YtkfplffcegbdfaaGreatDoorIrPl
import Derived.Deep.RegionHeld3
import Derived.Deep.CutRange
namespace Go.Proofs.YtkfplffcegbdfaaGreatDoor
open Go.RowKit

theorem ints_left' {w : World} {a : Option Addr} {l m : List Int} (h : IntsW w a (l ++ m)) : IntsW w a l := fun k x hx => h k x (by rw [List.getElem?_append_left (List.getElem?_eq_some_iff.1 hx).1]; exact hx)
theorem belM_set {A w : World} {p : Addr} {v : Value} (hp : A.heap.size ≤ p.block) (h : Below A.heap.size A w) : Below A.heap.size A (w.setCell p v) := h.setCell hp v
theorem boxed {W0 w' : World} {t : TypeId} {cs : Array Value} (h : Below (W0.alloc (.cells cs t)).heap.size (W0.alloc (.cells cs t)) w') : Blk w' W0.heap.size t cs := (Blk.new W0 t cs).below h (Blk.new W0 t cs).lt
theorem boxedD {W0 w' : World} {t : TypeId} {cs : Array Value} (h : Below (W0.alloc (.cells cs t)).drew.heap.size (W0.alloc (.cells cs t)).drew w') : Blk w' W0.heap.size t cs := ((Blk.new W0 t cs).drew).below h ((Blk.new W0 t cs).drew).lt
theorem four {W : World} {g : Nat} {t : TypeId} {a b c d : Value} (h : Blk W g t #[a, b, c, d]) : W.cell? ⟨g, 0, none⟩ = some a ∧ W.cell? ⟨g, 1, none⟩ = some b ∧ W.cell? ⟨g, 2, none⟩ = some c ∧ W.cell? ⟨g, 3, none⟩ = some d ∧
    W.frozen? ⟨g, 0, none⟩ = false ∧ W.frozen? ⟨g, 1, none⟩ = false ∧ W.frozen? ⟨g, 2, none⟩ = false ∧ W.frozen? ⟨g, 3, none⟩ = false ∧ g < W.heap.size :=
  ⟨h.cell 0, h.cell 1, h.cell 2, h.cell 3, h.free 0, h.free 1, h.free 2, h.free 3, h.lt⟩
/-- What lies behind the copy that is lent. -/
structure LentM (w wc : World) (x : Nat) (m : Mm) (aa sa : Option Addr) (ac sc g1 k1 g2 k2 : Nat) : Prop where
  below : Below w.heap.size w wc
  box : Blk wc w.heap.size 24 (maxC m aa ac sa sc)
  copy : Blk wc x 24 (maxC m (some ⟨g1, 0, none⟩) k1 (some ⟨g2, 0, none⟩) k2)
  args : OwnI wc (w.heap.size + 1) (.slice (some ⟨g1, 0, none⟩) (m.args.length + 12) k1) (m.args ++ markL 1 12)
  saved : OwnI wc (w.heap.size + 1) (.slice (some ⟨g2, 0, none⟩) (m.saved.length + 12) k2) (m.saved ++ markL 1 12)
  apart : g1 ≠ g2
  k1 : m.args.length + 12 ≤ k1
  k2 : m.saved.length + 12 ≤ k2
theorem lent_of {w A wc : World} {x : Nat} {m : Mm} {aa sa : Option Addr} {ac sc g1 k1 g2 k2 : Nat} (HB0 : Below w.heap.size w A) (HX0 : Blk A w.heap.size 24 (maxC m aa ac sa sc)) (hs : A.heap.size = w.heap.size + 1) (hb : Below A.heap.size A wc)
    (hcp : Blk wc x 24 (maxC m (some ⟨g1, 0, none⟩) k1 (some ⟨g2, 0, none⟩) k2)) (h1 : OwnI wc A.heap.size (.slice (some ⟨g1, 0, none⟩) (m.args.length + 12) k1) (m.args ++ markL 1 12)) (h2 : OwnI wc A.heap.size (.slice (some ⟨g2, 0, none⟩) (m.saved.length + 12) k2) (m.saved ++ markL 1 12))
    (hne : g1 ≠ g2) (hk1 : m.args.length + 12 ≤ k1) (hk2 : m.saved.length + 12 ≤ k2) : LentM w wc x m aa sa ac sc g1 k1 g2 k2 :=
  ⟨HB0.trans (hb.mono HB0.size), HX0.below hb HX0.lt, hcp, hs ▸ h1, hs ▸ h2, hne, hk1, hk2⟩
theorem put4 {W : World} {g : Nat} {t : TypeId} {a b c d a' b' c' d' : Value} (h : Blk W g t #[a, b, c, d]) : Blk ((((W.setCell ⟨g, 0, none⟩ a').setCell ⟨g, 1, none⟩ b').setCell ⟨g, 2, none⟩ c').setCell ⟨g, 3, none⟩ d') g t #[a', b', c', d'] :=
  (((h.put 0 a').put 1 b').put 2 c').put 3 d'
theorem far4 {W : World} {B g : Nat} {v a b c d : Value} {l : List Int} (h : OwnI W B v l) (hg : v.ownBlock ≠ some g) : OwnI ((((W.setCell ⟨g, 0, none⟩ a).setCell ⟨g, 1, none⟩ b).setCell ⟨g, 2, none⟩ c).setCell ⟨g, 3, none⟩ d) B v l :=
  own_far_store (own_far_store (own_far_store (own_far_store h g 0 a hg) g 1 b hg) g 2 c hg) g 3 d hg
theorem kept_row {W W' : World} {B : Nat} {v : Value} {l : List Int} (h : OwnI W B v l) (hb : Below W.heap.size W W') : OwnI W' B v l := own_keep h ⟨hb.size, fun k _ hk => hb.block k hk⟩
theorem row_lt {W : World} {B g n c : Nat} {l : List Int} (h : OwnI W B (.slice (some ⟨g, 0, none⟩) n c) l) : B ≤ g ∧ g < W.heap.size := World.ownsRow.lt h g rfl
theorem own_pre {w : World} {b g cap : Nat} {l m : List Int} (h : OwnI w b (.slice (some ⟨g, 0, none⟩) (l.length + m.length) cap) (l ++ m)) : OwnI w b (.slice (some ⟨g, 0, none⟩) l.length cap) l := by
  obtain ⟨h1, h2⟩ := h
  refine ⟨by simp, ?_⟩
  rcases h2 with ⟨h2, _⟩ | ⟨g2, cap2, cur2, e2, hB2, hh2, hle2, hmax2, hsz2, htk2⟩
  · cases h2
  injection e2 with e21 e22 e23
  injection e21 with e21
  injection e21 with e21
  subst e21
  subst e23
  refine .inr ⟨g, cap, cur2, rfl, hB2, hh2, by rw [List.length_append] at hle2; omega, hmax2, hsz2, ?_⟩
  have := congrArg (List.take (l.length * 1)) htk2
  rw [List.take_take, List.map_append, List.take_left' (by simp)] at this
  rw [← this]
  congr 1
  simp
theorem own_ints {w : World} {b g cap : Nat} {l m : List Int} (h : OwnI w b (.slice (some ⟨g, 0, none⟩) (l.length + m.length) cap) (l ++ m)) : IntsW w (some ⟨g, 0, none⟩) (l ++ m) := by
  unfold OwnI at h
  rw [List.length_append] at h
  exact IntsW.own h
def fourV (a b c d : Value) (k : Nat) : Value := if k = 0 then a else if k = 1 then b else if k = 2 then c else d
def fourL (a b c d : List Int) (k : Nat) : List Int := if k = 0 then a else if k = 1 then b else if k = 2 then c else d
theorem four_rows {w : World} {B : Nat} {a b c d : Value} {l m n o : List Int} (h0 : OwnI w B a l) (h1 : OwnI w B b m) (h2 : OwnI w B c n) (h3 : OwnI w B d o) (f01 : Off a b) (f02 : Off a c) (f03 : Off a d) (f12 : Off b c) (f13 : Off b d) (f23 : Off c d) :
    Rows w B 4 (fourV a b c d) (fourL l m n o) := by
  refine ⟨fun k hk => ?_, fun i k hi hk hne => ?_⟩
  · match k, hk with
    | 0, _ => exact h0
    | 1, _ => exact h1
    | 2, _ => exact h2
    | 3, _ => exact h3
  · match i, k, hi, hk, hne with
    | 0, 0, _, _, h => exact absurd rfl h
    | 0, 1, _, _, _ => exact f01
    | 0, 2, _, _, _ => exact f02
    | 0, 3, _, _, _ => exact f03
    | 1, 0, _, _, _ => exact f01.symm
    | 1, 1, _, _, h => exact absurd rfl h
    | 1, 2, _, _, _ => exact f12
    | 1, 3, _, _, _ => exact f13
    | 2, 0, _, _, _ => exact f02.symm
    | 2, 1, _, _, _ => exact f12.symm
    | 2, 2, _, _, h => exact absurd rfl h
    | 2, 3, _, _, _ => exact f23
    | 3, 0, _, _, _ => exact f03.symm
    | 3, 1, _, _, _ => exact f13.symm
    | 3, 2, _, _, _ => exact f23.symm
    | 3, 3, _, _, h => exact absurd rfl h
/-- Two rows, the one below a size, the other one behind it. -/
theorem off_of {w w' : World} {B B' : Nat} {u v : Value} {l m : List Int} (h : OwnI w B u l) (h' : OwnI w' B' v m) (hs : w.heap.size ≤ B') : Off u v := fun b h1 h2 => by
  have := (World.ownsRow.lt h b h1).2
  have := (World.ownsRow.lt h' b h2).1
  omega
/-- All that is looked at later on, in any world that keeps what there is. -/
structure SeenM (w W : World) (x : Nat) (m : Mm) (aa sa : Option Addr) (ac sc g1 k1 g2 k2 : Nat) : Prop where
  below : Below w.heap.size w W
  old : W.cell? ⟨w.heap.size, 0, none⟩ = some (.int .i64 m.regs) ∧ W.cell? ⟨w.heap.size, 1, none⟩ = some (.slice aa m.args.length ac) ∧ W.cell? ⟨w.heap.size, 2, none⟩ = some (.int .i64 m.ret) ∧ W.cell? ⟨w.heap.size, 3, none⟩ = some (.slice sa m.saved.length sc)
  new : W.cell? ⟨x, 0, none⟩ = some (.int .i64 m.regs) ∧ W.cell? ⟨x, 1, none⟩ = some (.slice (some ⟨g1, 0, none⟩) m.args.length k1) ∧ W.cell? ⟨x, 2, none⟩ = some (.int .i64 m.ret) ∧ W.cell? ⟨x, 3, none⟩ = some (.slice (some ⟨g2, 0, none⟩) m.saved.length k2)
  om : MaW W m aa sa
  nm : MaW W m (some ⟨g1, 0, none⟩) (some ⟨g2, 0, none⟩)
  r1 : OwnI W (w.heap.size + 1) (.slice (some ⟨g1, 0, none⟩) (m.args.length + 12) k1) (m.args ++ markL 1 12)
  r2 : OwnI W (w.heap.size + 1) (.slice (some ⟨g2, 0, none⟩) (m.saved.length + 12) k2) (m.saved ++ markL 1 12)
theorem LentM.seen {w wc W : World} {x : Nat} {m : Mm} {aa sa : Option Addr} {ac sc g1 k1 g2 k2 : Nat} (h : LentM w wc x m aa sa ac sc g1 k1 g2 k2) (hM : MaW w m aa sa) (hb : Below wc.heap.size wc W) : SeenM w W x m aa sa ac sc g1 k1 g2 k2 := by
  have e12 : (markL 1 12).length = 12 := mark_len _ _
  have q1 := kept_row h.args hb
  have q2 := kept_row h.saved hb
  have i1 := own_ints (l := m.args) (m := markL 1 12) (by rw [e12]; exact q1)
  have i2 := own_ints (l := m.saved) (m := markL 1 12) (by rw [e12]; exact q2)
  have hbw := h.below.trans (hb.mono h.below.size)
  exact ⟨hbw, boxMa (h.box.below hb h.box.lt), boxMa (h.copy.below hb h.copy.lt), hM.below hbw, ⟨ints_left' i1, ints_left' i2⟩, q1, q2⟩
set_option maxHeartbeats 8000000 in
set_option maxRecDepth 100000 in
theorem machTells_any (m : Mm) (aa sa : Option Addr) (ac sc : Nat) (reg o a : Int) (w : World) (hl : m.args.length ≤ 140737488355328) (hs : m.saved.length ≤ 140737488355328) (hc : m.args.length ≤ ac) (hna : aa = none → ac = 0) (hns : sa = none → sc = 0) (hM : MaW w m aa sa) :
    Calls Tryz.prog 3 #[machV m aa ac sa sc, .int .i64 reg, .int .i64 o, .int .i64 a] w fun e w' => e = .returned (.bool true) ∧ Below w.heap.size w w' := by
  have HW := Lib.hid hM
  have HB0 : Hid (Below w.heap.size w (w.alloc (.cells (maxC m aa ac sa sc) 24))) := (Below.refl _ w).alloc (Nat.le_refl _) _
  have HX0 : Hid (Blk (w.alloc (.cells (maxC m aa ac sa sc) 24)) w.heap.size 24 (maxC m aa ac sa sc)) := Blk.new w _ _
  have hsz : Hid ((w.alloc (.cells (maxC m aa ac sa sc) 24)).heap.size = w.heap.size + 1) := by show _ = _; simp
  have HM : Hid (maxC m aa ac sa sc = _) := maxC.eq_1 m aa ac sa sc
  unfold machV
  clear hM
  rw [HM.out] at HB0 HX0 hsz ⊢
  generalize hA : w.alloc (.cells #[.int .i64 m.regs, .slice aa m.args.length ac, .int .i64 m.ret, .slice sa m.saved.length sc] 24) = A at HB0 HX0 hsz
  obtain ⟨c0, c1, c2, c3⟩ := boxMa (m := m) (aa := aa) (sa := sa) (ac := ac) (sc := sc) HX0.out
  have hwr : IntKind.i64.wrap ((m.args.length : Int) + (m.saved.length : Int)) = (m.args.length : Int) + m.saved.length := by rw [IntKind.wrap_i64]; omega
  go_enter Tryz.func3, Tryz.ntmps3
  go_upto_region 1 with fail
  clear hA
  by_cases hbig : 2000 < m.args.length + m.saved.length
  case pos =>
    have hbig' : (2000 : Int) < (m.args.length : Int) + m.saved.length := by omega
    go_wp2_with fail
    refine (awakeM_any _).mono ?_
    rintro e w2 ⟨rfl, hb2⟩
    have HB2 : Hid (Below w.heap.size w w2) := HB0.out.trans (hb2.mono HB0.out.size)
    clear hb2
    go_wp2
    go_ret
    exact ⟨rfl, HB2.out⟩
  have hbig' : ¬ (2000 : Int) < (m.args.length : Int) + m.saved.length := by omega
  have HZ : Hid (∀ W, Below A.heap.size A W → Below A.heap.size A W ∧ W.cell? ⟨w.heap.size, 0, none⟩ = some (.int .i64 m.regs) ∧ W.cell? ⟨w.heap.size, 1, none⟩ = some (.slice aa m.args.length ac) ∧ W.cell? ⟨w.heap.size, 2, none⟩ = some (.int .i64 m.ret) ∧ W.cell? ⟨w.heap.size, 3, none⟩ = some (.slice sa m.saved.length sc)) := fun W h => ⟨h, boxMa (HX0.out.below h HX0.out.lt)⟩
  have HI : Hid (∀ W, Below A.heap.size A W → MaW W m aa sa) := fun W h => HW.out.below (HB0.out.trans (h.mono HB0.out.size))
  have C1 : Hid (∀ W, Below A.heap.size A W → Calls Tryz.prog 6 #[.slice aa m.args.length ac] W fun e w' => ∃ g cap, e = .returned (.slice (some ⟨g, 0, none⟩) m.args.length cap) ∧ Hid (m.args.length + 12 ≤ cap ∧ OwnI w' W.heap.size (.slice (some ⟨g, 0, none⟩) (m.args.length + 12) cap) (m.args ++ markL 1 12)) ∧ Below A.heap.size A w' ∧ Hid (Below W.heap.size W w')) := fun W h =>
    (lentInts_any m.args aa ac W (by omega) hna (HI.out W h).args).mono fun e w' ⟨g, cap, h1, h2, h3, h4, h5⟩ => ⟨g, cap, h1, ⟨h2, h4⟩, h.trans (h5.mono h.size), h5⟩
  have C2 : Hid (∀ W, Below A.heap.size A W → Calls Tryz.prog 6 #[.slice sa m.saved.length sc] W fun e w' => ∃ g cap, e = .returned (.slice (some ⟨g, 0, none⟩) m.saved.length cap) ∧ Hid (m.saved.length + 12 ≤ cap ∧ OwnI w' W.heap.size (.slice (some ⟨g, 0, none⟩) (m.saved.length + 12) cap) (m.saved ++ markL 1 12)) ∧ Below A.heap.size A w' ∧ Hid (Below W.heap.size W w')) := fun W h =>
    (lentInts_any m.saved sa sc W (by omega) hns (HI.out W h).saved).mono fun e w' ⟨g, cap, h1, h2, h3, h4, h5⟩ => ⟨g, cap, h1, ⟨h2, h4⟩, h.trans (h5.mono h.size), h5⟩
  go_upto_region 3 with fail
  go_cut [9] from 26 to 36 (fun v wc => ∃ x g1 k1 g2 k2, v = .pointer (some ⟨x, 0, none⟩) ∧ LentM w wc x m aa sa ac sc g1 k1 g2 k2)
  case first =>
    go_region_held3 (fun W => Below A.heap.size A W ∧ W.cell? ⟨w.heap.size, 0, none⟩ = some (.int .i64 m.regs) ∧ W.cell? ⟨w.heap.size, 1, none⟩ = some (.slice aa m.args.length ac) ∧ W.cell? ⟨w.heap.size, 2, none⟩ = some (.int .i64 m.ret) ∧ W.cell? ⟨w.heap.size, 3, none⟩ = some (.slice sa m.saved.length sc))
      (first | (refine HZ.out _ ?_; (repeat (first | with_reducible apply belM_alloc | with_reducible apply belM_drew | with_reducible refine belM_set (by first | exact Nat.le_refl _ | exact hb3.size) ?_)); (first | exact Below.refl _ _ | assumption)))
      (first
        | (go_at_call 6; have hq := hO1; refine (C2.out _ (by go_split_ands; assumption)).mono ?_; rintro e w4 ⟨g2, k2, rfl, hO2, hb4, hW4⟩; (first | (have hz4 := four (Blk.below hz3 hW4.out hz3.lt); obtain ⟨y0, y1, y2, y3, f0, f1, f2, f3, hlt4⟩ := hz4) | (have hz4 := four (boxed hW4.out); obtain ⟨y0, y1, y2, y3, f0, f1, f2, f3, hlt4⟩ := hz4) | skip))
        | (go_at_call 6; refine (C1.out _ (by go_split_ands; assumption)).mono ?_; rintro e w3 ⟨g1, k1, rfl, hO1, hb3, hW3⟩; (first | have hz3 := boxedD hW3.out | skip)))
    · rename_i hH
      have q1 := kept_row hO1.out.2 hW4.out
      have z1 := row_lt hO1.out.2
      have z2 := row_lt hO2.out.2
      go_wp2_with fail
      go_meet
      exact ⟨_, g1, k1, g2, k2, rfl, lent_of HB0.out HX0.out hsz.out hH.1 (Blk.new w4 _ _) (World.ownsRow.alloc q1 _) (World.ownsRow.alloc (own_base hO2.out.2 hb3.size) _) (by omega) hO1.out.1 hO2.out.1⟩
    · rename_i hH
      have q1 := kept_row (World.ownsRow.alloc hO1.out.2 _) hW4.out
      have z1 := row_lt hO1.out.2
      have z2 := row_lt hO2.out.2
      have z3 : w3.heap.size < (w3.alloc (.cells #[.int .i64 0, .slice none 0 0, .int .i64 0, .slice none 0 0] 24)).heap.size := by simp
      have e1 : (Value.slice (some ⟨g1, 0, none⟩) (m.args.length + 12) k1).ownBlock ≠ some w3.heap.size := fun e => by
        have : g1 = w3.heap.size := Option.some.inj e
        omega
      have e2 : (Value.slice (some ⟨g2, 0, none⟩) (m.saved.length + 12) k2).ownBlock ≠ some w3.heap.size := fun e => by
        have : g2 = w3.heap.size := Option.some.inj e
        omega
      have q3 := hb3.size
      have hz := boxed hW4.out
      go_wp2_with fail
      go_meet
      exact ⟨_, g1, k1, g2, k2, rfl, lent_of HB0.out HX0.out hsz.out hH.1 (put4 hz) (far4 q1 e1) (far4 (own_base hO2.out.2 (by omega)) e2) (by omega) hO1.out.1 hO2.out.1⟩
    · rename_i hH
      have q1 := kept_row hO1.out.2 hW4.out
      have z1 := row_lt hO1.out.2
      have z2 := row_lt hO2.out.2
      have z3 : A.heap.size < (A.alloc (.cells #[.int .i64 0, .slice none 0 0, .int .i64 0, .slice none 0 0] 24)).drew.heap.size := by simp
      have q3 := hb3.size
      have q4 := hW3.out.size
      have e1 : (Value.slice (some ⟨g1, 0, none⟩) (m.args.length + 12) k1).ownBlock ≠ some A.heap.size := fun e => by
        have : g1 = A.heap.size := Option.some.inj e
        omega
      have e2 : (Value.slice (some ⟨g2, 0, none⟩) (m.saved.length + 12) k2).ownBlock ≠ some A.heap.size := fun e => by
        have : g2 = A.heap.size := Option.some.inj e
        omega
      have hz := Blk.below hz3 hW4.out hz3.lt
      go_wp2_with fail
      go_meet
      exact ⟨_, g1, k1, g2, k2, rfl, lent_of HB0.out HX0.out hsz.out hH.1 (put4 hz) (far4 (own_base q1 (by omega)) e1) (far4 (own_base hO2.out.2 (by omega)) e2) (by omega) hO1.out.1 hO2.out.1⟩
  case rest =>
    obtain ⟨x, g1, k1, g2, k2, rfl, hL⟩ := hcut
    have HL := Lib.hid hL
    have HS : Hid (∀ W, Below wc.heap.size wc W → SeenM w W x m aa sa ac sc g1 k1 g2 k2) := fun W h => HL.out.seen HW.out h
    clear hL C1 C2 HZ HI HB0 HX0 c0 c1 c2 c3 hbig hsz
    have P1 : Hid (∀ W, Below wc.heap.size wc W → Calls Tryz.prog 7 #[machV m (some ⟨g1, 0, none⟩) k1 (some ⟨g2, 0, none⟩) k2] W fun e w' => e = .returned (.tuple #[.string m.printS, .int .i64 m.printE]) ∧ Below wc.heap.size wc w') := fun W h =>
      (printM_any m _ _ k1 k2 W hl hs (HS.out W h).nm).mono fun e w' ⟨h1, h2⟩ => ⟨h1, h.trans (h2.mono h.size)⟩
    have P2 : Hid (∀ W, Below wc.heap.size wc W → Calls Tryz.prog 8 #[machV m aa ac sa sc] W fun e w' => e = .returned (.tuple #[.string m.printS, .int .i64 m.printE]) ∧ Below wc.heap.size wc w') := fun W h =>
      (rprint_any m aa sa ac sc W hl hs hc (HS.out W h).om).mono fun e w' ⟨h1, h2⟩ => ⟨h1, h.trans (h2.mono h.size)⟩
    unfold machV maxC at P1 P2
    obtain ⟨a0, a1, a2, a3⟩ := (HS.out wc (Below.refl _ _)).new
    obtain ⟨d0, d1, d2, d3⟩ := (HS.out wc (Below.refl _ _)).old
    generalize m.printS = ps at P1 P2
    generalize m.printE = pe at P1 P2
    go_wp2_with fail
    refine (P1.out wc (Below.refl _ _)).mono ?_
    rintro e w5 ⟨rfl, hb5⟩
    clear a0 a1 a2 a3 d0 d1 d2 d3
    obtain ⟨a0, a1, a2, a3⟩ := (HS.out w5 hb5).new
    obtain ⟨d0, d1, d2, d3⟩ := (HS.out w5 hb5).old
    go_wp2_with fail
    refine (P2.out w5 hb5).mono ?_
    rintro e w6 ⟨rfl, hb6⟩
    clear a0 a1 a2 a3 d0 d1 d2 d3 hb5
    clear P1 P2
    obtain ⟨a0, a1, a2, a3⟩ := (HS.out w6 hb6).new
    obtain ⟨d0, d1, d2, d3⟩ := (HS.out w6 hb6).old
    have HB6 := Lib.hid hb6
    clear hb6
    have HS6 : Hid (∀ W, Below w6.heap.size w6 W → SeenM w W x m aa sa ac sc g1 k1 g2 k2) := fun W h => HS.out W (HB6.out.trans (h.mono HB6.out.size))
    have T1 : Hid (∀ W, Below w6.heap.size w6 W → Calls Tryz.prog 9 #[machV m (some ⟨g1, 0, none⟩) k1 (some ⟨g2, 0, none⟩) k2] W fun e w' => ∃ v k, e = .returned (.slice v m.lostL.length k) ∧ Hid (OwnI w' W.heap.size (.slice v m.lostL.length k) m.lostL) ∧ Below w6.heap.size w6 w' ∧ Hid (Below W.heap.size W w')) := fun W h =>
      (lost_any m _ _ k1 k2 W hl hs (HS6.out W h).nm).mono fun e w' ⟨v, k, h1, h2, h3⟩ => ⟨v, k, h1, h2, h.trans (h3.mono h.size), h3⟩
    unfold machV maxC at T1
    have hb0 := (Below.refl w6.heap.size w6).drew
    have KE : Hid (∀ W, Below w6.heap.size w6 W → (fun W => Below w6.heap.size w6 W ∧ (W.cell? ⟨w.heap.size, 0, none⟩ = some (.int .i64 m.regs) ∧ W.cell? ⟨w.heap.size, 1, none⟩ = some (.slice aa m.args.length ac) ∧ W.cell? ⟨w.heap.size, 2, none⟩ = some (.int .i64 m.ret) ∧ W.cell? ⟨w.heap.size, 3, none⟩ = some (.slice sa m.saved.length sc)) ∧ W.cell? ⟨x, 0, none⟩ = some (.int .i64 m.regs) ∧ W.cell? ⟨x, 1, none⟩ = some (.slice (some ⟨g1, 0, none⟩) m.args.length k1) ∧ W.cell? ⟨x, 2, none⟩ = some (.int .i64 m.ret) ∧ W.cell? ⟨x, 3, none⟩ = some (.slice (some ⟨g2, 0, none⟩) m.saved.length k2)) W) := fun W h => ⟨h, (HS6.out W h).old, (HS6.out W h).new⟩
    go_upto_region 6 with fail
    clear a0 a1 a2 a3 d0 d1 d2 d3
    go_region_held3 (fun W => Below w6.heap.size w6 W ∧ (W.cell? ⟨w.heap.size, 0, none⟩ = some (.int .i64 m.regs) ∧ W.cell? ⟨w.heap.size, 1, none⟩ = some (.slice aa m.args.length ac) ∧ W.cell? ⟨w.heap.size, 2, none⟩ = some (.int .i64 m.ret) ∧ W.cell? ⟨w.heap.size, 3, none⟩ = some (.slice sa m.saved.length sc)) ∧ W.cell? ⟨x, 0, none⟩ = some (.int .i64 m.regs) ∧ W.cell? ⟨x, 1, none⟩ = some (.slice (some ⟨g1, 0, none⟩) m.args.length k1) ∧ W.cell? ⟨x, 2, none⟩ = some (.int .i64 m.ret) ∧ W.cell? ⟨x, 3, none⟩ = some (.slice (some ⟨g2, 0, none⟩) m.saved.length k2))
      (first | (refine KE.out _ ?_; assumption))
      (first
        | (go_at_call 9; have hq := hW7; refine (T1.out _ (by go_split_ands; assumption)).mono ?_; rintro e w8 ⟨va, ka, rfl, hO8, hb8, hW8⟩)
        | (go_at_call 9; refine (T1.out _ (by go_split_ands; assumption)).mono ?_; rintro e w7 ⟨vb, kb, rfl, hO7, hb7, hW7⟩))
    rename_i hH
    clear hH
    have HA8 : Hid (OwnI w8 w6.heap.size (.slice vb m.lostL.length kb) m.lostL) := kept_row hO7.out hW8.out
    have HF : Hid (Off (.slice vb m.lostL.length kb) (.slice va m.lostL.length ka)) := off_of hO7.out hO8.out (Nat.le_refl _)
    have HC8 : Hid (OwnI w8 w6.heap.size (.slice va m.lostL.length ka) m.lostL) := own_base hO8.out hb7.size
    have HB8 : Hid (Below wc.heap.size wc w8) := HB6.out.trans (hb8.mono HB6.out.size)
    have HS8 : Hid (∀ W, Below w8.heap.size w8 W → SeenM w W x m aa sa ac sc g1 k1 g2 k2) := fun W h => HS.out W (HB8.out.trans (h.mono HB8.out.size))
    have HL6 := HB6.out.size
    have HL8 : w6.heap.size ≤ w8.heap.size := hb8.size
    clear hO7 hO8 hb7 hb8 hW7 hW8 T1 KE HS6 hb0
    have hll : m.lostL.length ≤ 100000 := by
      cases hr : m.rightB
      · unfold Mm.lostL; rw [hr]; simp
      · rw [lost_all m hr]
        have := lost_len m m.regs.toNat
        have := (regs_bound hr).2.1
        omega
    have hkl : m.keepsL.length ≤ 1000000 := by
      cases hr : m.rightB
      · rw [keeps_wrong hr]; simp
      · rw [keeps_right hr]; have := (regs_bound hr).2.2.1; omega
    have R1 : Hid (∀ W, Below w8.heap.size w8 W → Calls Tryz.prog 10 #[machV m (some ⟨g1, 0, none⟩) k1 (some ⟨g2, 0, none⟩) k2] W fun e w' => e = .returned (.bool m.rightB) ∧ Below w8.heap.size w8 w') := fun W h => (rightM_any m _ _ k1 k2 W hl hs (HS8.out W h).nm).mono fun e w' ⟨h1, h2⟩ => ⟨h1, h.trans (h2.mono h.size)⟩
    have R2 : Hid (∀ W, Below w8.heap.size w8 W → Calls Tryz.prog 11 #[machV m aa ac sa sc] W fun e w' => e = .returned (.bool m.rightB) ∧ Below w8.heap.size w8 w') := fun W h => (rright_any m aa sa ac sc W hl hs hc (HS8.out W h).om).mono fun e w' ⟨h1, h2⟩ => ⟨h1, h.trans (h2.mono h.size)⟩
    have I1 : Hid (∀ W, Below w8.heap.size w8 W → Calls Tryz.prog 12 #[machV m (some ⟨g1, 0, none⟩) k1 (some ⟨g2, 0, none⟩) k2, .int .i64 reg] W fun e w' => e = .returned (.bool (m.isSavedB reg)) ∧ Below w8.heap.size w8 w') := fun W h => (isSaved_any m _ _ k1 k2 reg W hl hs (HS8.out W h).nm).mono fun e w' ⟨h1, h2⟩ => ⟨h1, h.trans (h2.mono h.size)⟩
    have I2 : Hid (∀ W, Below w8.heap.size w8 W → Calls Tryz.prog 13 #[machV m aa ac sa sc, .int .i64 reg] W fun e w' => e = .returned (.bool (m.isSavedB reg)) ∧ Below w8.heap.size w8 w') := fun W h => (risSaved_any m aa sa ac sc reg W hs (HS8.out W h).om).mono fun e w' ⟨h1, h2⟩ => ⟨h1, h.trans (h2.mono h.size)⟩
    have RL : Hid (∀ W, Below w8.heap.size w8 W → Calls Tryz.prog 15 #[machV m aa ac sa sc] W fun e w' => ∃ v k, e = .returned (.slice v m.lostL.length k) ∧ Hid (IntsW w' v m.lostL) ∧ Below w8.heap.size w8 w') := fun W h => (rlost_any m aa sa ac sc W hl hs hc (HS8.out W h).om).mono fun e w' ⟨v, k, h1, h2, h3⟩ => ⟨v, k, h1, IntsW.own h2, h.trans (h3.mono h.size)⟩
    have SI : Hid (∀ W v k, Below w8.heap.size w8 W → Hid (IntsW W v m.lostL) → Calls Tryz.prog 14 #[.slice vb m.lostL.length kb, .slice v m.lostL.length k] W fun e w' => e = .returned (.bool true) ∧ Below w8.heap.size w8 w') := fun W v k h hv => by
      have h3 := sameInts_any m.lostL m.lostL vb v kb k W (by omega) (by omega) (IntsW.own (kept_row HA8.out h)) hv.out
      rw [decide_eq_true rfl] at h3
      exact h3.mono fun e w' ⟨h1, h2⟩ => ⟨h1, h.trans (h2.mono h.size)⟩
    have K1 : Hid (∀ W, Below w8.heap.size w8 W → Calls Tryz.prog 17 #[machV m (some ⟨g1, 0, none⟩) k1 (some ⟨g2, 0, none⟩) k2] W fun e w' => ∃ v k, e = .returned (.slice v m.keepsL.length k) ∧ Hid (FactsW w' v m.keepsL) ∧ Below w8.heap.size w8 w') := fun W h => (keeps_any m _ _ k1 k2 W hl hs (HS8.out W h).nm).mono fun e w' ⟨v, k, h1, h2, h3⟩ => ⟨v, k, h1, FactsW.own h2, h.trans (h3.mono h.size)⟩
    have K2 : Hid (∀ W, Below w8.heap.size w8 W → Calls Tryz.prog 18 #[machV m aa ac sa sc] W fun e w' => ∃ v k, e = .returned (.slice v m.keepsL.length k) ∧ Hid (FactsW w' v m.keepsL) ∧ Below w8.heap.size w8 w' ∧ Hid (Below W.heap.size W w')) := fun W h => (rkeeps_any m aa sa ac sc W hl hs hc (HS8.out W h).om).mono fun e w' ⟨v, k, h1, h2, h3⟩ => ⟨v, k, h1, FactsW.own h2, h.trans (h3.mono h.size), h3⟩
    have SF : Hid (∀ W v k v' k', Below w8.heap.size w8 W → FactsW W v m.keepsL → FactsW W v' m.keepsL → Calls Tryz.prog 16 #[.slice v m.keepsL.length k, .slice v' m.keepsL.length k'] W fun e w' => e = .returned (.bool true) ∧ Below w8.heap.size w8 w') := fun W v k v' k' h h1 h2 => (sameFacts_any m.keepsL v v' k k' W hkl h1 h2).mono fun e w' ⟨h3, h4⟩ => ⟨h3, h.trans (h4.mono h.size)⟩
    have E1 : Hid (∀ W, Below w8.heap.size w8 W → Calls Tryz.prog 19 #[machV m (some ⟨g1, 0, none⟩) k1 (some ⟨g2, 0, none⟩) k2, .int .i64 o, .int .i64 a] W fun e w' => e = .returned (.bool (m.enoughB o a)) ∧ Below w8.heap.size w8 w') := fun W h => (enough_any m _ _ k1 k2 o a W hl hs (HS8.out W h).nm).mono fun e w' ⟨h1, h2⟩ => ⟨h1, h.trans (h2.mono h.size)⟩
    have E2 : Hid (∀ W, Below w8.heap.size w8 W → Calls Tryz.prog 20 #[machV m aa ac sa sc, .int .i64 o, .int .i64 a] W fun e w' => e = .returned (.bool (m.enoughB o a)) ∧ Below w8.heap.size w8 w') := fun W h => (renough_any m aa sa ac sc o a W hl hs hc (HS8.out W h).om).mono fun e w' ⟨h1, h2⟩ => ⟨h1, h.trans (h2.mono h.size)⟩
    unfold machV maxC at R1 R2 I1 I2 RL K1 K2 E1 E2
    generalize m.rightB = q1 at R1 R2
    generalize m.isSavedB reg = q2 at I1 I2
    generalize m.enoughB o a = q3 at E1 E2
    have hq1 : (q1 == q1) = true := by simp
    have hq2 : (q2 == q2) = true := by simp
    have hq3 : (q3 == q3) = true := by simp
    have hq4 : (pe == pe) = true := by simp
    have hb9 := (Below.refl w8.heap.size w8).drew
    have KE : Hid (∀ W, Below w8.heap.size w8 W → (fun W => Below w8.heap.size w8 W ∧ (W.cell? ⟨w.heap.size, 0, none⟩ = some (.int .i64 m.regs) ∧ W.cell? ⟨w.heap.size, 1, none⟩ = some (.slice aa m.args.length ac) ∧ W.cell? ⟨w.heap.size, 2, none⟩ = some (.int .i64 m.ret) ∧ W.cell? ⟨w.heap.size, 3, none⟩ = some (.slice sa m.saved.length sc)) ∧ W.cell? ⟨x, 0, none⟩ = some (.int .i64 m.regs) ∧ W.cell? ⟨x, 1, none⟩ = some (.slice (some ⟨g1, 0, none⟩) m.args.length k1) ∧ W.cell? ⟨x, 2, none⟩ = some (.int .i64 m.ret) ∧ W.cell? ⟨x, 3, none⟩ = some (.slice (some ⟨g2, 0, none⟩) m.saved.length k2)) W) := fun W h => ⟨h, (HS8.out W h).old, (HS8.out W h).new⟩
    go_upto_region 7 with fail
    go_region_held3 (fun W => Below w8.heap.size w8 W ∧ (W.cell? ⟨w.heap.size, 0, none⟩ = some (.int .i64 m.regs) ∧ W.cell? ⟨w.heap.size, 1, none⟩ = some (.slice aa m.args.length ac) ∧ W.cell? ⟨w.heap.size, 2, none⟩ = some (.int .i64 m.ret) ∧ W.cell? ⟨w.heap.size, 3, none⟩ = some (.slice sa m.saved.length sc)) ∧ W.cell? ⟨x, 0, none⟩ = some (.int .i64 m.regs) ∧ W.cell? ⟨x, 1, none⟩ = some (.slice (some ⟨g1, 0, none⟩) m.args.length k1) ∧ W.cell? ⟨x, 2, none⟩ = some (.int .i64 m.ret) ∧ W.cell? ⟨x, 3, none⟩ = some (.slice (some ⟨g2, 0, none⟩) m.saved.length k2))
      (first | (refine KE.out _ ?_; assumption))
      (first
        | (go_at_call 10; refine (R1.out _ (by go_split_ands; assumption)).mono ?_; rintro e w9 ⟨rfl, hb9⟩)
        | (go_at_call 11; refine (R2.out _ (by go_split_ands; assumption)).mono ?_; rintro e w9 ⟨rfl, hb9⟩)
        | (go_at_call 12; refine (I1.out _ (by go_split_ands; assumption)).mono ?_; rintro e w9 ⟨rfl, hb9⟩)
        | (go_at_call 13; refine (I2.out _ (by go_split_ands; assumption)).mono ?_; rintro e w9 ⟨rfl, hb9⟩)
        | (go_at_call 15; refine (RL.out _ (by go_split_ands; assumption)).mono ?_; rintro e w9 ⟨vl, kl, rfl, hil, hb9⟩)
        | (go_at_call 14; refine (SI.out _ _ _ (by go_split_ands; assumption) hil).mono ?_; rintro e w9 ⟨rfl, hb9⟩)
        | (go_at_call 17; refine (K1.out _ (by go_split_ands; assumption)).mono ?_; rintro e w9 ⟨vk, kk, rfl, hik, hb9⟩)
        | (go_at_call 18; refine (K2.out _ (by go_split_ands; assumption)).mono ?_; rintro e w9 ⟨vj, kj, rfl, hij, hb9, hw9⟩; have hik2 := hik.out.below hw9.out)
        | (go_at_call 16; refine (SF.out _ _ _ _ _ (by go_split_ands; assumption) hik2 hij.out).mono ?_; rintro e w9 ⟨rfl, hb9⟩)
        | (go_at_call 19; refine (E1.out _ (by go_split_ands; assumption)).mono ?_; rintro e w9 ⟨rfl, hb9⟩)
        | (go_at_call 20; refine (E2.out _ (by go_split_ands; assumption)).mono ?_; rintro e w9 ⟨rfl, hb9⟩))
    rename_i hH
    clear hH R1 R2 I1 I2 RL SI K1 K2 SF E1 E2 KE hq1 hq2 hq3 hq4 hil hik hij hw9 hik2
    have HB9 := Lib.hid hb9
    clear hb9
    have HS9 : Hid (∀ W, Below w9.heap.size w9 W → SeenM w W x m aa sa ac sc g1 k1 g2 k2) := fun W h => HS8.out W (HB9.out.trans (h.mono HB9.out.size))
    have e12 : (markL 1 12).length = 12 := mark_len _ _
    have T1 : Hid (∀ W, Below w9.heap.size w9 W → Calls Tryz.prog 21 #[.slice (some ⟨g1, 0, none⟩) m.args.length k1, .slice aa m.args.length ac] W fun e w' => e = .returned (.bool true) ∧ Below w9.heap.size w9 w') := fun W h => by
      have q := HS9.out W h
      exact (keptInts_any m.args g1 k1 aa ac W (by omega) HL.out.k1 q.om.args (own_ints (by rw [e12]; exact q.r1))).mono fun e w' ⟨h1, h2⟩ => ⟨h1, h.trans (h2.mono h.size)⟩
    have T2 : Hid (∀ W, Below w9.heap.size w9 W → Calls Tryz.prog 21 #[.slice (some ⟨g2, 0, none⟩) m.saved.length k2, .slice sa m.saved.length sc] W fun e w' => e = .returned (.bool true) ∧ Below w9.heap.size w9 w') := fun W h => by
      have q := HS9.out W h
      exact (keptInts_any m.saved g2 k2 sa sc W (by omega) HL.out.k2 q.om.saved (own_ints (by rw [e12]; exact q.r2))).mono fun e w' ⟨h1, h2⟩ => ⟨h1, h.trans (h2.mono h.size)⟩
    obtain ⟨a0, a1, a2, a3⟩ := (HS9.out w9 (Below.refl _ _)).new
    obtain ⟨d0, d1, d2, d3⟩ := (HS9.out w9 (Below.refl _ _)).old
    go_wp2_with fail
    refine (T1.out w9 (Below.refl _ _)).mono ?_
    rintro e w10 ⟨rfl, hb10⟩
    clear a0 a1 a2 a3 d0 d1 d2 d3
    obtain ⟨a0, a1, a2, a3⟩ := (HS9.out w10 hb10).new
    obtain ⟨d0, d1, d2, d3⟩ := (HS9.out w10 hb10).old
    go_wp2_with fail
    refine (T2.out w10 hb10).mono ?_
    rintro e w11 ⟨rfl, hb11⟩
    clear a0 a1 a2 a3 d0 d1 d2 d3 T1 T2 hb10
    obtain ⟨a0, a1, a2, a3⟩ := (HS9.out w11 hb11).new
    have HB11 := Lib.hid hb11
    clear hb11
    have q11 := HS9.out w11 HB11.out
    have hq8 := HB9.out.trans (HB11.out.mono HB9.out.size)
    have y0 : OwnI w11 (w.heap.size + 1) (.slice (some ⟨g1, 0, none⟩) m.args.length k1) m.args := own_pre (m := markL 1 12) (by rw [e12]; exact q11.r1)
    have y1 : OwnI w11 (w.heap.size + 1) (.slice (some ⟨g2, 0, none⟩) m.saved.length k2) m.saved := own_pre (m := markL 1 12) (by rw [e12]; exact q11.r2)
    have y2 := kept_row HA8.out hq8
    have y3 := kept_row HC8.out hq8
    have HSZ := HL.out.below.size
    have HROW := Lib.hid (four_rows (own_base y2 (show w.heap.size ≤ _ by omega)) (own_base y3 (show w.heap.size ≤ _ by omega)) (own_base y0 (Nat.le_succ _)) (own_base y1 (Nat.le_succ _)) HF.out
      (off_of (own_pre (m := markL 1 12) (by rw [e12]; exact HL.out.args)) HA8.out HL6).symm (off_of (own_pre (m := markL 1 12) (by rw [e12]; exact HL.out.saved)) HA8.out HL6).symm
      (off_of (own_pre (m := markL 1 12) (by rw [e12]; exact HL.out.args)) HC8.out HL6).symm (off_of (own_pre (m := markL 1 12) (by rw [e12]; exact HL.out.saved)) HC8.out HL6).symm
      (fun b h1 h2 => HL.out.apart ((Option.some.inj h1).trans (Option.some.inj h2).symm)))
    have HAP := Lib.hid (apartInts_any 4 (fourV (.slice vb m.lostL.length kb) (.slice va m.lostL.length ka) (.slice (some ⟨g1, 0, none⟩) m.args.length k1) (.slice (some ⟨g2, 0, none⟩) m.saved.length k2)) (fourL m.lostL m.lostL m.args m.saved) w11.heap.size 4 #[.slice vb m.lostL.length kb, .slice va m.lostL.length ka, .slice (some ⟨g1, 0, none⟩) m.args.length k1, .slice (some ⟨g2, 0, none⟩) m.saved.length k2]
      (w11.alloc (.cells #[.slice vb m.lostL.length kb, .slice va m.lostL.length ka, .slice (some ⟨g1, 0, none⟩) m.args.length k1, .slice (some ⟨g2, 0, none⟩) m.saved.length k2] 22)) w.heap.size (by omega) (by omega) (by have := q11.below.size; simp; omega) (by
        intro k hk
        match k, hk with
        | 0, _ => exact hll
        | 1, _ => exact hll
        | 2, _ => show m.args.length ≤ _; omega
        | 3, _ => show m.saved.length ≤ _; omega) ⟨fun k hk => World.ownsRow.alloc (HROW.out.own k hk) _, HROW.out.off⟩ (Blk.new w11 _ _) (fun k hk => by
        match k, hk with
        | 0, _ => rfl
        | 1, _ => rfl
        | 2, _ => rfl
        | 3, _ => rfl))
    have HB := Lib.hid q11.below
    clear q11 hq8 y0 y1 y2 y3 HROW HA8 HC8 HF HL HS HS8 HS9 hll hkl HSZ
    go_wp2_with fail
    refine HAP.out.mono ?_
    rintro e w12 ⟨rfl, hb12⟩
    have HB12 : Hid (Below w.heap.size w w12) := (HB.out.alloc HB.out.size _).trans hb12
    clear hb12 HAP HB
    go_wp2_with fail
    refine (awakeM_any _).mono ?_
    rintro e w13 ⟨rfl, hb13⟩
    have HB13 : Hid (Below w.heap.size w w13) := HB12.out.trans (hb13.mono HB12.out.size)
    clear hb13
    go_wp2
    go_ret
    exact ⟨rfl, HB13.out⟩
end Go.Proofs.YtkfplffcegbdfaaGreatDoor
