/-
  How great a target is, counted until 600 is passed: the number itself. No condition beyond those that each theorem states.
-/
import Derived.Test.YtjmdgbgjleeloaaGreatDoorPk7
import Derived.Test.YtjmdgbgjleeloaaGreatDoorQk6
import Derived.Deep.RegionWith
namespace Go.Proofs.YtjmdgbgjleeloaaGreatDoor
open Go.RowKit

def cntI : Nat → List Ii → Nat
  | n, [] => n
  | n, y :: r => if n ≤ 600 then cntI (n + y.args.length) r else n
def cntB : Nat → List Bb → Nat
  | n, [] => n
  | n, x :: r => if n ≤ 600 then cntB (cntI (n + 1 + x.ins.length) x.ins) r else n
/-- Few blocks, few lines. -/
structure FewL (l : List Bb) : Prop where
  b : l.length ≤ 600
  i : ∀ x ∈ l, x.ins.length ≤ 600 ∧ ∀ i ∈ x.ins, i.args.length ≤ 600
  n : linesN l ≤ 1200
theorem cntI_few : ∀ (l : List Ii) (n : Nat), n ≤ cntI n l ∧ (cntI n l ≤ 600 → ∀ y ∈ l, y.args.length ≤ 600) := by
  intro l
  induction l with
  | nil => intro n; exact ⟨Nat.le_refl _, fun _ => by simp⟩
  | cons y r ih =>
    intro n
    unfold cntI
    by_cases h : n ≤ 600
    · rw [if_pos h]
      obtain ⟨h1, h2⟩ := ih (n + y.args.length)
      refine ⟨by omega, fun h3 z hz => ?_⟩
      rcases List.mem_cons.1 hz with rfl | hz
      · omega
      · exact h2 h3 z hz
    · rw [if_neg h]
      exact ⟨Nat.le_refl _, fun h3 => absurd h3 h⟩
theorem cntI_max (M : Nat) : ∀ (l : List Ii) (n : Nat), (∀ y ∈ l, y.args.length ≤ M) → cntI n l ≤ n + 600 + M := by
  intro l
  induction l with
  | nil => intro n _; unfold cntI; omega
  | cons y r ih =>
    intro n h
    unfold cntI
    by_cases h1 : n ≤ 600
    · rw [if_pos h1]
      by_cases h2 : n + y.args.length ≤ 600
      · have := ih (n + y.args.length) (fun z hz => h z (by simp [hz]))
        have h3 := (cntI_few r (n + y.args.length)).1
        have : ∀ (l : List Ii) (n : Nat), n ≤ 600 → (∀ y ∈ l, y.args.length ≤ M) → cntI n l ≤ 600 + M := by
          intro l
          induction l with
          | nil => intro n h _; unfold cntI; omega
          | cons z s ih2 =>
            intro n h hz
            unfold cntI
            rw [if_pos h]
            by_cases h4 : n + z.args.length ≤ 600
            · exact ih2 _ h4 (fun u hu => hz u (by simp [hu]))
            · have h5 := hz z (by simp)
              cases s with
              | nil => unfold cntI; omega
              | cons u s => unfold cntI; rw [if_neg h4]; omega
        have := this r _ h2 (fun z hz => h z (by simp [hz]))
        omega
      · have h5 := h y (by simp)
        cases r with
        | nil => unfold cntI; omega
        | cons u s => unfold cntI; rw [if_neg h2]; omega
    · rw [if_neg h1]; omega
theorem cntB_few : ∀ (l : List Bb) (n : Nat), n ≤ cntB n l ∧ (cntB n l ≤ 600 → n + l.length ≤ cntB n l ∧ 2 * n + linesN l ≤ 2 * cntB n l ∧ ∀ x ∈ l, x.ins.length ≤ 600 ∧ ∀ i ∈ x.ins, i.args.length ≤ 600) := by
  intro l
  induction l with
  | nil => intro n; exact ⟨Nat.le_refl _, fun _ => ⟨Nat.le_refl _, by show 2 * n + 0 ≤ 2 * n; omega, by simp⟩⟩
  | cons x r ih =>
    intro n
    unfold cntB
    by_cases h : n ≤ 600
    · rw [if_pos h]
      obtain ⟨h1, h2⟩ := ih (cntI (n + 1 + x.ins.length) x.ins)
      obtain ⟨h3, h4⟩ := cntI_few x.ins (n + 1 + x.ins.length)
      refine ⟨by omega, fun h5 => ?_⟩
      obtain ⟨g1, g2, g3⟩ := h2 h5
      have e : linesN (x :: r) = (x.ins.length + 2) + linesN r := by simp [linesN]
      rw [e, List.length_cons]
      refine ⟨by omega, by omega, fun y hy => ?_⟩
      rcases List.mem_cons.1 hy with rfl | hy
      · exact ⟨by omega, h4 (by omega)⟩
      · exact g3 y hy
    · rw [if_neg h]
      exact ⟨Nat.le_refl _, fun h3 => absurd h3 h⟩
theorem cnt_few {l : List Bb} (h : cntB 0 l ≤ 600) : FewL l := by
  obtain ⟨g1, g2, g3⟩ := (cntB_few l 0).2 h
  exact ⟨by omega, g3, by omega⟩
theorem cntB_max (M : Nat) : ∀ (l : List Bb) (n : Nat), n ≤ 600 → (∀ x ∈ l, x.ins.length ≤ M ∧ ∀ i ∈ x.ins, i.args.length ≤ M) → cntB n l ≤ 1300 + M + M := by
  intro l
  induction l with
  | nil => intro n h _; unfold cntB; omega
  | cons x r ih =>
    intro n h hx
    unfold cntB
    rw [if_pos h]
    obtain ⟨h1, h2⟩ := hx x (by simp)
    have h3 := cntI_max M x.ins (n + 1 + x.ins.length) h2
    by_cases h4 : cntI (n + 1 + x.ins.length) x.ins ≤ 600
    · exact ih _ h4 (fun y hy => hx y (by simp [hy]))
    · cases r with
      | nil => unfold cntB; omega
      | cons u s => unfold cntB; rw [if_neg h4]; omega
theorem cnt_max {l : List Bb} (h : ∀ x ∈ l, x.ins.length ≤ 140737488355328 ∧ ∀ i ∈ x.ins, i.args.length ≤ 140737488355328) : cntB 0 l ≤ 1000000000000000 := by
  have := cntB_max 140737488355328 l 0 (by omega) h
  omega
theorem drop_at {α : Type} {l : List α} {j : Nat} {x : α} (h : l[j]? = some x) : l.drop j = x :: l.drop (j + 1) := by
  obtain ⟨h1, h2⟩ := List.getElem?_eq_some_iff.1 h
  rw [List.drop_eq_getElem_cons h1, h2]
set_option maxHeartbeats 2000000 in
set_option maxRecDepth 100000 in
theorem blocksOf6_any (l : List Bb) (a : Option Addr) (c : Nat) (w : World) (hl : l.length ≤ 140737488355328) (hs : ∀ x ∈ l, x.ins.length ≤ 140737488355328 ∧ ∀ i ∈ x.ins, i.args.length ≤ 140737488355328) (hI : BlsW w a l) :
    Calls Tryz.prog 20 #[.slice a l.length c, .int .i64 600] w fun e w' => e = .returned (.int .i64 (cntB 0 l : Nat)) ∧ w = w' := by
  have HI := Lib.hid hI
  have HS := Lib.hid hs
  generalize hN : cntB 0 l = N at *
  have HN : Hid (cntB 0 l = N) := hN
  clear hI hs hN
  go_enter Tryz.func20, Tryz.ntmps20
  go_wp2
  go_loopw [5, 6] (fun m k wr => ∃ n j : Nat, m = .int .i64 n ∧ k = .int .i64 j ∧ j ≤ l.length ∧ n ≤ 1000000000000000 ∧ Hid (cntB n (l.drop j) = N) ∧ w = wr) (fun _ k _ => l.length - (intOf k).toNat)
  case atStart => exact ⟨0, 0, rfl, rfl, Nat.zero_le _, by omega, HN.out, rfl⟩
  case round =>
    obtain ⟨n, j, rfl, rfl, hj, hnb, HA, rfl⟩ := hrel
    by_cases hlt : j < l.length
    · have hlt' : (j : Int) < l.length := by omega
      have hj0 : (0 : Int) ≤ j := by omega
      obtain ⟨x, hx⟩ : ∃ x, l[j]? = some x := ⟨_, List.getElem?_eq_getElem hlt⟩
      have HD : Hid (l.drop j = x :: l.drop (j + 1)) := drop_at hx
      by_cases hfew : n ≤ 600
      · have hfew' : (n : Int) ≤ 600 := by omega
        obtain ⟨g, o, ya, yc, rfl, hg, hc⟩ := HI.out j x hx
        obtain ⟨hx1, hx2⟩ := HS.out x (List.mem_of_getElem? hx)
        have HX2 := Lib.hid hx2
        have HIN := Lib.hid hc.ins
        have c0 := hc.c0
        have HA1 : Hid (cntB (cntI (n + 1 + x.ins.length) x.ins) (l.drop (j + 1)) = N) := by
          have := HA.out
          rw [HD.out, cntB, if_pos hfew] at this
          exact this
        generalize hM : cntI (n + 1 + x.ins.length) x.ins = M at *
        have HM : Hid (cntI (n + 1 + x.ins.length) x.ins = M) := hM
        clear hx hx2 hc hM HA HD
        go_wp2
        go_loopw [5, 7] (fun m k wr => ∃ n2 i : Nat, m = .int .i64 n2 ∧ k = .int .i64 i ∧ i ≤ x.ins.length ∧ n2 ≤ 1000000000000000 ∧ Hid (cntI n2 (x.ins.drop i) = M) ∧ w = wr) (fun _ k _ => x.ins.length - (intOf k).toNat)
        case atStart => exact ⟨n + 1 + x.ins.length, 0, by go_num, rfl, Nat.zero_le _, by omega, HM.out, rfl⟩
        case round =>
          obtain ⟨n2, i, rfl, rfl, hi, hn2b, HA2, rfl⟩ := hrel
          by_cases hlt2 : i < x.ins.length
          · have hlt2' : (i : Int) < x.ins.length := by omega
            have hi0 : (0 : Int) ≤ i := by omega
            obtain ⟨y, hy⟩ : ∃ y, x.ins[i]? = some y := ⟨_, List.getElem?_eq_getElem hlt2⟩
            have HD2 : Hid (x.ins.drop i = y :: x.ins.drop (i + 1)) := drop_at hy
            by_cases hfew2 : n2 ≤ 600
            · have hfew2' : (n2 : Int) ≤ 600 := by omega
              obtain ⟨g2, o2, za, zc, rfl, hg2, hc2⟩ := HIN.out i y hy
              have hya := HX2.out y (List.mem_of_getElem? hy)
              have h6 := hc2.c6
              have HA3 : Hid (cntI (n2 + y.args.length) (x.ins.drop (i + 1)) = M) := by
                have := HA2.out
                rw [HD2.out, cntI, if_pos hfew2] at this
                exact this
              clear hy hc2 HD2 HA2
              go_wp2
              go_roundw
              case rel => exact ⟨n2 + y.args.length, i + 1, by go_num, by go_num, by omega, by omega, HA3.out, trivial⟩
              case measure => simp [intOf]; omega
            · have hfew2' : ¬ (n2 : Int) ≤ 600 := by omega
              have hE : n2 = M := by
                have := HA2.out
                rw [HD2.out, cntI, if_neg hfew2] at this
                exact this
              subst hE
              clear HD2 HA2
              go_wp2
              go_roundw
              case rel => exact ⟨n2, j + 1, rfl, by go_num, by omega, by omega, HA1.out, trivial⟩
              case measure => simp [intOf]; omega
          · have hlt2' : ¬ (i : Int) < x.ins.length := by omega
            have hE : n2 = M := by
              have := HA2.out
              rw [List.drop_eq_nil_of_le (by omega), cntI] at this
              exact this
            subst hE
            clear HA2
            go_wp2
            go_roundw
            case rel => exact ⟨n2, j + 1, rfl, by go_num, by omega, by omega, HA1.out, trivial⟩
            case measure => simp [intOf]; omega
      · have hfew' : ¬ (n : Int) ≤ 600 := by omega
        have hE : n = N := by
          have := HA.out
          rw [HD.out, cntB, if_neg hfew] at this
          exact this
        subst hE
        clear HD HA
        go_wp2
        go_ret
        exact ⟨rfl, rfl⟩
    · have hlt' : ¬ (j : Int) < l.length := by omega
      have hE : n = N := by
        have := HA.out
        rw [List.drop_eq_nil_of_le (by omega), cntB] at this
        exact this
      subst hE
      clear HA
      go_wp2
      go_ret
      exact ⟨rfl, rfl⟩
set_option maxRecDepth 100000 in
theorem targetOf6_any (t : Gg) (ba : Option Addr) (bc : Nat) (w : World) (hl : t.blocks.length ≤ 140737488355328) (hs : ∀ x ∈ t.blocks, x.ins.length ≤ 140737488355328 ∧ ∀ i ∈ x.ins, i.args.length ≤ 140737488355328) (hB : BlsW w ba t.blocks) :
    Calls Tryz.prog 8 #[tgV t ba bc, .int .i64 600] w fun e w' => e = .returned (.int .i64 (cntB 0 t.blocks : Nat)) ∧ Below w.heap.size w w' := by
  have HW0 : Hid (Below w.heap.size w (w.alloc (.cells (tgC t ba bc) 24))) := (Below.refl _ w).alloc (Nat.le_refl _) _
  have HC := Lib.hid (blocksOf6_any t.blocks ba bc (w.alloc (.cells (tgC t ba bc) 24)) hl hs (hB.below HW0.out))
  have HE := Lib.hid (tgC.eq_1 t ba bc)
  rw [HE.out] at HC HW0
  clear hB hs
  unfold tgV
  rw [HE.out]
  go_enter Tryz.func8, Tryz.ntmps8
  go_wp2_with fail
  refine HC.out.mono ?_
  rintro e w1 ⟨rfl, rfl⟩
  go_wp2
  go_ret
  exact ⟨rfl, HW0.out⟩
set_option maxRecDepth 100000 in
theorem machineOf6_any (m : Mm) (aa sa : Option Addr) (ac sc : Nat) (w : World) (hl : m.args.length ≤ 140737488355328) (hs : m.saved.length ≤ 140737488355328) :
    Calls Tryz.prog 18 #[machV m aa ac sa sc] w fun e w' => e = .returned (.int .i64 ((m.args.length : Int) + m.saved.length)) ∧ Below w.heap.size w w' := by
  have HW0 : Hid (Below w.heap.size w (w.alloc (.cells (maxC m aa ac sa sc) 39))) := (Below.refl _ w).alloc (Nat.le_refl _) _
  have HE := Lib.hid (maxC.eq_1 m aa ac sa sc)
  have hw : IntKind.i64.wrap ((m.args.length : Int) + (m.saved.length : Int)) = (m.args.length : Int) + m.saved.length := by rw [IntKind.wrap_i64]; omega
  rw [HE.out] at HW0
  unfold machV
  rw [HE.out]
  go_enter Tryz.func18, Tryz.ntmps18
  go_wp2
  go_ret
  exact ⟨rfl, HW0.out⟩
end Go.Proofs.YtjmdgbgjleeloaaGreatDoor
