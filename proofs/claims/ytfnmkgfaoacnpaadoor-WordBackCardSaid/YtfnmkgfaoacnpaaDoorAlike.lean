/-
  The statements' comparison of words that are one but for their places answers true; so does the test for a number that is written oddly, where there is one. No condition beyond those that each theorem states.
-/
import Derived.Test.YtfnmkgfaoacnpaaDoorReadB
import Derived.Test.YtfnmkgfaoacnpaaDoorShows
namespace Go.Proofs.YtfnmkgfaoacnpaaDoor
open Go.RowKit

/-- Word number k lies in five cells, wherever the row is. -/
def CellsO (w : World) (a : Option Addr) (ws : List Wd) : Prop := ∀ k x, ws[k]? = some x → ∃ g o, a = some ⟨g, o, none⟩ ∧ g < w.heap.size ∧
  w.cell? ⟨g, o + k * 5, none⟩ = some (.int .i64 x.k) ∧ w.cell? ⟨g, o + k * 5 + 1, none⟩ = some (.string x.t) ∧ w.cell? ⟨g, o + k * 5 + 2, none⟩ = some (.int .i64 x.n) ∧
  w.cell? ⟨g, o + k * 5 + 3, none⟩ = some (.int .i64 x.l) ∧ w.cell? ⟨g, o + k * 5 + 4, none⟩ = some (.int .i64 x.c)
theorem CellsO.below {w w' : World} {a : Option Addr} {ws : List Wd} (h : CellsO w a ws) (hb : Below w.heap.size w w') : CellsO w' a ws := fun k x hx => by
  obtain ⟨g, o, ha, hg, h0, h1, h2, h3, h4⟩ := h k x hx
  exact ⟨g, o, ha, Nat.lt_of_lt_of_le hg hb.size, (hb.cell hg).trans h0, (hb.cell hg).trans h1, (hb.cell hg).trans h2, (hb.cell hg).trans h3, (hb.cell hg).trans h4⟩
theorem cellsO_own {w : World} {B : Nat} {e : TypeId} {a : Option Addr} {c : Nat} {ws : List Wd} (h : w.ownsRow B e 5 (.slice a ws.length c) ws.length (ws.flatMap flatW)) : CellsO w a ws := fun k x hx => by
  have hlt : k < ws.length := (List.getElem?_eq_some_iff.1 hx).1
  obtain ⟨g, cap, hv, hg, hgl⟩ := h.form (by omega)
  rw [hv] at h
  simp only [Value.slice.injEq] at hv
  have hc := own_word h hx
  exact ⟨g, 0, hv.1, hgl, by rw [Nat.zero_add]; exact hc.1, by rw [Nat.zero_add]; exact hc.2.1, by rw [Nat.zero_add]; exact hc.2.2.1, by rw [Nat.zero_add]; exact hc.2.2.2.1, by rw [Nat.zero_add]; exact hc.2.2.2.2⟩
/-- Show, wherever the row is, with no word too. -/
theorem showO_any (ws : List Wd) (a : Option Addr) (c : Nat) (w : World) (hT : Tabs w) (hC : CellsO w a ws) (hl : ws.length ≤ 10000) (hs : ∀ x ∈ ws, x.t.size ≤ 10000) :
    Calls Tryd.prog 7 #[.slice a ws.length c] w fun e w' => e = .returned (.tuple #[.string (showText ws), .int .i64 (showErr ws)]) ∧ Below w.heap.size w w' := by
  by_cases h0 : ws = []
  · subst h0
    exact show_nil a c w
  · have hp : 0 < ws.length := List.length_pos_iff.2 h0
    obtain ⟨g, o, rfl, hg, _⟩ := hC 0 _ (List.getElem?_eq_getElem hp)
    refine show_any ws g o c w hT (fun k x hx => ?_) hl hs
    obtain ⟨g', o', ha, _, r⟩ := hC k x hx
    simp only [Option.some.injEq, Addr.mk.injEq] at ha
    obtain ⟨rfl, rfl, _⟩ := ha
    exact r
set_option maxHeartbeats 2000000 in
set_option maxRecDepth 1000000 in
theorem alike_any (xs ys : List Wd) (a b : Option Addr) (ca cb : Nat) (w : World) (hk : xs.map key = ys.map key) (hn : xs.length ≤ 100000) (ha : CellsO w a xs) (hb : CellsO w b ys) :
    Calls Tryd.prog 17 #[.slice a xs.length ca, .slice b ys.length cb] w fun e w' => e = .returned (.bool true) ∧ ∃ d, w' = w.drewN d := by
  have HA := Lib.hid ha
  have HB := Lib.hid hb
  have hlen : ys.length = xs.length := by have := congrArg List.length hk; simpa using this.symm
  have HK := Lib.hid hk
  clear ha hb hk
  rw [hlen]
  go_enter Tryd.func17, Tryd.ntmps17
  go_wp2
  go_loopw [5] (fun k wr => ∃ j d : Nat, k = .int .i64 j ∧ j ≤ xs.length ∧ wr = w.drewN d) (fun k _ => xs.length - (intOf k).toNat)
  case atStart => exact ⟨0, 0, rfl, Nat.zero_le _, rfl⟩
  case round =>
    obtain ⟨j, d, rfl, hj, rfl⟩ := hrel
    by_cases hlt : j < xs.length
    · have hlt' : (j : Int) < xs.length := by omega
      have hj0 : (0 : Int) ≤ j := by omega
      obtain ⟨x, hx⟩ : ∃ x, xs[j]? = some x := ⟨xs[j], List.getElem?_eq_getElem hlt⟩
      obtain ⟨y, hy⟩ : ∃ y, ys[j]? = some y := ⟨_, List.getElem?_eq_getElem (by omega)⟩
      have hxy : key x = key y := by
        have := congrArg (·[j]?) HK.out
        simpa [hx, hy] using this
      unfold key at hxy
      simp only [Prod.mk.injEq] at hxy
      obtain ⟨g, o, rfl, _, a0, a1, a2, _, _⟩ := HA.out j x hx
      obtain ⟨q, p, rfl, _, b0, b1, b2, _, _⟩ := HB.out j y hy
      rw [← hxy.1] at b0
      rw [← hxy.2.1] at b1
      rw [← hxy.2.2] at b2
      clear hx hy hxy
      go_wp2_with fail
      go_quiet (fail)
      go_wp2
      go_roundw
      case rel => exact ⟨j + 1, _, by go_num, by omega, rfl⟩
      case measure => simp [intOf]; omega
    · have hlt' : (xs.length : Int) ≤ j := by omega
      go_wp2
      go_ret
      exact ⟨rfl, d, rfl⟩
set_option maxHeartbeats 2000000 in
set_option maxRecDepth 1000000 in
theorem odd_any (xs : List Wd) (a : Option Addr) (ca : Nat) (w : World) (ho : ∃ x ∈ xs, x.k = 2 ∧ oddB x.t = true) (hn : xs.length ≤ 100000) (ha : CellsO w a xs) :
    Calls Tryd.prog 18 #[.slice a xs.length ca] w fun e w' => e = .returned (.bool true) ∧ w = w' := by
  have HA := Lib.hid ha
  have HO := Lib.hid ho
  clear ha ho
  go_enter Tryd.func18, Tryd.ntmps18
  go_wp2
  go_loopw [3] (fun k wr => ∃ j : Nat, k = .int .i64 j ∧ j ≤ xs.length ∧ wr = w ∧ Hid (∃ x ∈ xs.drop j, x.k = 2 ∧ oddB x.t = true)) (fun k _ => xs.length - (intOf k).toNat)
  case atStart => exact ⟨0, rfl, Nat.zero_le _, rfl, HO⟩
  case round =>
    obtain ⟨j, rfl, hj, rfl, HD⟩ := hrel
    have hlt : j < xs.length := by
      obtain ⟨x, hx, _⟩ := HD.out
      apply Classical.byContradiction
      intro hc
      rw [List.drop_eq_nil_of_le (by omega)] at hx
      cases hx
    have hlt' : (j : Int) < xs.length := by omega
    have hj0 : (0 : Int) ≤ j := by omega
    obtain ⟨x, hx⟩ : ∃ x, xs[j]? = some x := ⟨xs[j], List.getElem?_eq_getElem hlt⟩
    obtain ⟨g, o, rfl, _, a0, a1, _, _, _⟩ := HA.out j x hx
    have HN : Hid (¬ (x.k = 2 ∧ oddB x.t = true) → ∃ x ∈ xs.drop (j + 1), x.k = 2 ∧ oddB x.t = true) := fun hno => by
      obtain ⟨z, hz, hz2⟩ := HD.out
      rw [List.drop_eq_getElem_cons hlt, (List.getElem?_eq_some_iff.1 hx).2] at hz
      rcases List.mem_cons.1 hz with rfl | hz
      · exact absurd hz2 hno
      · exact ⟨z, hz, hz2⟩
    clear hx HD HO
    by_cases hk : x.k = 2
    · have qk : (x.k == 2) = true := by simp [hk]
      by_cases hz : 1 < x.t.size
      · have hz' : (1 : Int) < x.t.size := by omega
        have g0 := get_eq x.t 0 (by omega)
        have g1 := get_eq x.t 1 hz
        by_cases h48 : (x.t[0]'(by omega)).toNat = 48
        · have q48 : (((x.t[0]'(by omega)).toNat : Int) == 48) = true := by simp [h48]
          go_wp2
          go_ret
          exact ⟨rfl, rfl⟩
        · have q48 : (((x.t[0]'(by omega)).toNat : Int) == 48) = false := by simp; omega
          have n48 : x.t.get! 0 ≠ 48 := fun e => h48 (by rw [← g0, e]; rfl)
          by_cases h45 : (x.t[0]'(by omega)).toNat = 45
          · have q45 : (((x.t[0]'(by omega)).toNat : Int) == 45) = true := by simp [h45]
            by_cases k48 : (x.t[1]'hz).toNat = 48
            · have r48 : (((x.t[1]'hz).toNat : Int) == 48) = true := by simp [k48]
              go_wp2
              go_ret
              exact ⟨rfl, rfl⟩
            · have r48 : (((x.t[1]'hz).toNat : Int) == 48) = false := by simp; omega
              have m48 : x.t.get! 1 ≠ 48 := fun e => k48 (by rw [← g1, e]; rfl)
              have HN2 := Lib.hid (HN.out (fun h => by have := h.2; simp [oddB, n48, m48] at this))
              clear HN g0 g1 n48 m48 h48 h45 k48
              go_wp2
              go_roundw
              case rel => exact ⟨j + 1, by go_num, by omega, trivial, HN2⟩
              case measure => simp [intOf]; omega
          · have q45 : (((x.t[0]'(by omega)).toNat : Int) == 45) = false := by simp; omega
            have n45 : x.t.get! 0 ≠ 45 := fun e => h45 (by rw [← g0, e]; rfl)
            have HN2 := Lib.hid (HN.out (fun h => by have := h.2; simp [oddB, n48, n45] at this))
            clear HN g0 g1 n48 n45 h48 h45
            go_wp2
            go_roundw
            case rel => exact ⟨j + 1, by go_num, by omega, trivial, HN2⟩
            case measure => simp [intOf]; omega
      · have hz' : ¬ (1 : Int) < x.t.size := by omega
        have HN2 := Lib.hid (HN.out (fun h => by have := h.2; simp [oddB, hz] at this))
        clear HN hz
        go_wp2
        go_roundw
        case rel => exact ⟨j + 1, by go_num, by omega, trivial, HN2⟩
        case measure => simp [intOf]; omega
    · have qk : (x.k == 2) = false := by simp [hk]
      have HN2 := Lib.hid (HN.out (fun h => hk h.1))
      clear HN hk
      go_wp2
      go_roundw
      case rel => exact ⟨j + 1, by go_num, by omega, trivial, HN2⟩
      case measure => simp [intOf]; omega
end Go.Proofs.YtfnmkgfaoacnpaaDoor
