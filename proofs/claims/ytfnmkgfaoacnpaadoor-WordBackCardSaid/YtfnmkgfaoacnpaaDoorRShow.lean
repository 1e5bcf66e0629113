/-
  The document's words as a text: the document's function answers what the plain function of package word's own answers. No condition beyond those that each theorem states.
-/
import Derived.Test.YtfnmkgfaoacnpaaDoorRight
import Derived.Test.YtfnmkgfaoacnpaaDoorShow
namespace Go.Proofs.YtfnmkgfaoacnpaaDoor
open Go.RowKit

/-- Whether a word stands right ahead of word number k, in its line. -/
def inl (ws : List Wd) : Nat → Bool
  | 0 => false
  | k + 1 => match ws[k]? with | some y => decide (y.k ≠ 4) | none => false
theorem rright_is (x : Wd) (v : Bool) (h : canB x = v) (w : World) (hT : Tabs w) (hz : x.t.size ≤ 10000) : Calls Tryd.prog 23 #[.agg #[.int .i64 x.k, .string x.t, .int .i64 x.n, .int .i64 x.l, .int .i64 x.c]] w fun e w' => e = .returned (.bool v) ∧ Below w.heap.size w w' := by
  subst h
  exact rright_any x.k x.n x.l x.c x.t w hT hz

set_option maxHeartbeats 1000000 in
set_option maxRecDepth 100000 in
theorem rshow_any (ws : List Wd) (g o c : Nat) (w : World) (hT : Tabs w) (hC : CellsAt w g o ws) (hl : ws.length ≤ 10000) (hs : ∀ x ∈ ws, x.t.size ≤ 10000) :
    Calls Tryd.prog 8 #[.slice (some ⟨g, o, none⟩) ws.length c] w fun e w' => e = .returned (.tuple #[.string (showText ws), .int .i64 (showErr ws)]) ∧ Below w.heap.size w w' := by
  have z10 : Hid ((⟨#[10]⟩ : ByteArray).size = 1) := rfl
  have z32 : Hid ((⟨#[32]⟩ : ByteArray).size = 1) := rfl
  go_enter Tryd.func8, Tryd.ntmps8
  go_wp2
  go_loopw [4, 5] (fun v i wr => ∃ (k : Nat) (s : ByteArray), v = .string s ∧ i = .int .i64 k ∧ k ≤ ws.length ∧ s.size ≤ k * 10002 ∧ Below w.heap.size w wr ∧ Hid (showGo (ws.drop k) (inl ws k) s.data.toList = showGo ws false [])) (fun _ i _ => ws.length - (intOf i).toNat)
  case atStart => exact ⟨0, ⟨#[]⟩, rfl, rfl, by omega, Nat.le_refl 0, Below.refl _ w, rfl⟩
  case round =>
    obtain ⟨k, s, rfl, rfl, hk, hbs, hw, HS⟩ := hrel
    by_cases hlt : k < ws.length
    · have hlt' : (k : Int) < ws.length := by omega
      obtain ⟨x, hx⟩ : ∃ x, ws[k]? = some x := ⟨_, List.getElem?_eq_getElem hlt⟩
      obtain ⟨h0, h1, h2, h3, h4⟩ := hC k x hx
      have n0 := cell_below hw h0
      have n1 := cell_below hw h1
      have n2 := cell_below hw h2
      have n3 := cell_below hw h3
      have n4 := cell_below hw h4
      clear h0 h1 h2 h3 h4
      have hxs : x.t.size ≤ 10000 := hs x (List.mem_of_getElem? hx)
      have hk0 : (0 : Int) ≤ k := by omega
      have HS2 : Hid (showGo ws false [] = if canB x = false then none else if x.k = 4 then showGo (ws.drop (k + 1)) false (s.data.toList ++ [10]) else showGo (ws.drop (k + 1)) true ((if inl ws k then s.data.toList ++ [32] else s.data.toList) ++ x.t.data.toList)) := by
        show _ = _
        rw [← HS.out, List.drop_eq_getElem_cons hlt, (List.getElem?_eq_some_iff.1 hx).2, showGo]
      have HN : Hid (inl ws (k + 1) = decide (x.k ≠ 4)) := by show _ = _; simp only [inl]; rw [hx]
      clear HS
      have HX : Hid (Tabs wr) := hT.below hw
      have HW := Lib.hid hw
      have HC := Lib.hid hC
      clear hw hC hT hx
      obtain ⟨v, hv⟩ : ∃ v, canB x = v := ⟨_, rfl⟩
      rw [hv] at HS2
      have CB : Hid (∀ w1, Tabs w1 → Calls Tryd.prog 23 #[.agg #[.int .i64 x.k, .string x.t, .int .i64 x.n, .int .i64 x.l, .int .i64 x.c]] w1 fun e w' => e = .returned (.bool v) ∧ Below w1.heap.size w1 w') := fun w1 h => rright_is x v hv w1 h hxs
      clear hv
      go_wp2_with fail
      refine (CB.out _ HX.out).mono ?_
      rintro e w2 ⟨rfl, hb2⟩
      have m0 := cell_below hb2 n0
      have m1 := cell_below hb2 n1
      have HB2 := Lib.hid hb2
      have HW2 : Hid (Below w.heap.size w w2) := HW.out.trans (hb2.mono HW.out.size)
      clear hb2 n0 n1 n2 n3 n4 HX CB HW HB2
      cases v
      · go_wp2
        go_ret2
        have E : showGo ws false [] = none := by rw [HS2.out]; rfl
        refine ⟨?_, HW2.out⟩
        have e1 : showText ws = ⟨#[]⟩ := by rw [showText, E]
        have e2 : showErr ws = 2 := by rw [showErr, E]
        rw [e1, e2]
        rfl
      · by_cases h4 : x.k = 4
        · have q4 : (x.k == 4) = true := by simp [h4]
          have HS3 : Hid (showGo (ws.drop (k + 1)) (inl ws (k + 1)) (s ++ ⟨#[10]⟩ : ByteArray).data.toList = showGo ws false []) := by show _ = _; rw [HS2.out, if_neg (by decide), if_pos h4, HN.out, h4]; simp
          clear HS2 HN h4
          go_wp2
          go_roundw
          case rel => exact ⟨k + 1, s ++ ⟨#[10]⟩, by simp, by go_num, by omega, by have := z10.out; simp; omega, HW2.out, HS3⟩
          case measure => simp [intOf]; omega
        · have q4 : (x.k == 4) = false := by simp [h4]
          have HS3 : Hid (showGo ws false [] = showGo (ws.drop (k + 1)) (inl ws (k + 1)) ((if inl ws k then s.data.toList ++ [32] else s.data.toList) ++ x.t.data.toList)) := by show _ = _; rw [HS2.out, if_neg (by decide), if_neg h4, HN.out]; simp [h4]
          clear HS2 HN h4
          cases k with
          | zero =>
            have HS4 : Hid (showGo (ws.drop 1) (inl ws 1) (s ++ x.t).data.toList = showGo ws false []) := by show _ = _; rw [HS3.out]; simp [inl]
            simp only [Nat.zero_mul, Nat.add_zero] at m0 m1
            go_wp2
            go_roundw
            case rel => exact ⟨1, s ++ x.t, by simp, rfl, by omega, by simp; omega, HW2.out, HS4⟩
            case measure => simp [intOf]; omega
          | succ j =>
            obtain ⟨y, hy⟩ : ∃ y, ws[j]? = some y := ⟨_, List.getElem?_eq_getElem (by omega)⟩
            have p0 := cell_below HW2.out (HC.out j y hy).1
            by_cases hy4 : y.k = 4
            · have qy : (y.k != 4) = false := by simp [hy4]
              have HS4 : Hid (showGo (ws.drop (j + 1 + 1)) (inl ws (j + 1 + 1)) (s ++ x.t).data.toList = showGo ws false []) := by show _ = _; rw [HS3.out]; simp [inl, hy, hy4]
              clear hy hy4 HS3
              go_wp2
              go_roundw
              case rel => exact ⟨j + 1 + 1, s ++ x.t, by simp, by go_num, by omega, by simp; omega, HW2.out, HS4⟩
              case measure => simp [intOf]; omega
            · have qy : (y.k != 4) = true := by simp [hy4]
              have HS4 : Hid (showGo (ws.drop (j + 1 + 1)) (inl ws (j + 1 + 1)) (s ++ ⟨#[32]⟩ ++ x.t).data.toList = showGo ws false []) := by show _ = _; rw [HS3.out]; simp [inl, hy, hy4]
              clear hy hy4 HS3
              go_wp2
              go_roundw
              case rel => exact ⟨j + 1 + 1, s ++ ⟨#[32]⟩ ++ x.t, by simp, by go_num, by omega, by have := z32.out; simp; omega, HW2.out, HS4⟩
              case measure => simp [intOf]; omega
    · have e : k = ws.length := by omega
      subst e
      have E : Hid (showGo ws false [] = some s.data.toList) := by show _ = _; rw [← HS.out]; simp [showGo]
      have HW := Lib.hid hw
      clear hw HS hC hT
      go_wp2
      go_ret2
      have e1 : showText ws = s := by rw [showText, E.out]
      have e2 : showErr ws = 0 := by rw [showErr, E.out]
      rw [e1, e2]
      exact ⟨rfl, HW.out⟩
end Go.Proofs.YtfnmkgfaoacnpaaDoor
