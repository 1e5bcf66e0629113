/-
  Show of package word, of words that lie in a row of cells, each text of at most 10000 bytes and at most 10000 words, answers what a plain function of the words says and turns nothing that was there.
-/
import Derived.Test.YtfnmkgfaoacnpaaDoorCan
namespace Go.Proofs.YtfnmkgfaoacnpaaDoor
open Go.RowKit

def showGo : List Wd → Bool → List UInt8 → Option (List UInt8)
  | [], _, out => some out
  | x :: r, b, out =>
    if canB x = false then none
    else if x.k = 4 then showGo r false (out ++ [10])
    else showGo r true ((if b then out ++ [32] else out) ++ x.t.data.toList)
def showText (ws : List Wd) : ByteArray := match showGo ws false [] with | some l => ⟨l.toArray⟩ | none => ⟨#[]⟩
def showErr (ws : List Wd) : Int := match showGo ws false [] with | some _ => 0 | none => 2
/-- Word number k lies in five cells. -/
def CellsAt (w : World) (g o : Nat) (ws : List Wd) : Prop := ∀ k x, ws[k]? = some x →
  w.cell? ⟨g, o + k * 5, none⟩ = some (.int .i64 x.k) ∧ w.cell? ⟨g, o + k * 5 + 1, none⟩ = some (.string x.t) ∧ w.cell? ⟨g, o + k * 5 + 2, none⟩ = some (.int .i64 x.n) ∧
  w.cell? ⟨g, o + k * 5 + 3, none⟩ = some (.int .i64 x.l) ∧ w.cell? ⟨g, o + k * 5 + 4, none⟩ = some (.int .i64 x.c)
theorem builder_below {T e : TypeId} {B b : Nat} {bs : List Value} {w w' : World} (h : Lib.IsBuilder T e B b bs w) (hb : Below w.heap.size w w') : Lib.IsBuilder T e B b bs w' := by
  rcases h with ⟨hB, v, hk, hown, hne⟩ | ⟨hB, v, hk, hown, hne⟩
  · exact Or.inl ⟨hB, v, heap_below hb hk, hown.kept (row := some b) ⟨hb.os, hb.tape, hb.output, hb.size, fun k hk _ => hb.block k hk⟩ (Or.inr hne), hne⟩
  · exact Or.inr ⟨hB, v, heap_below hb hk, hown.kept (row := some b) ⟨hb.os, hb.tape, hb.output, hb.size, fun k hk _ => hb.block k hk⟩ (Or.inr hne), hne⟩
theorem cells_append (a b : List UInt8) : Lib.byteCells (a ++ b) = Lib.byteCells a ++ Lib.byteCells b := by simp [Lib.byteCells]

set_option maxHeartbeats 2000000 in
set_option maxRecDepth 100000 in
theorem show_any (ws : List Wd) (g o c : Nat) (w : World) (hT : Tabs w) (hC : CellsAt w g o ws) (hl : ws.length ≤ 10000) (hs : ∀ x ∈ ws, x.t.size ≤ 10000) :
    Calls Tryd.prog 7 #[.slice (some ⟨g, o, none⟩) ws.length c] w fun e w' => e = .returned (.tuple #[.string (showText ws), .int .i64 (showErr ws)]) ∧ Below w.heap.size w w' := by
  go_enter Tryd.func7, Tryd.ntmps7
  go_wp2
  go_loopw [5, 10] (fun b i wr => ∃ (k : Nat) (f : Bool) (bs : List UInt8), b = .bool f ∧ i = .int .i64 k ∧ k ≤ ws.length ∧ bs.length ≤ k * 10002 ∧ Lib.IsBuilder 46 5 w.heap.size w.heap.size (Lib.byteCells bs) wr ∧ Below w.heap.size w wr ∧ w.heap.size < wr.heap.size ∧ Hid (showGo (ws.drop k) f bs = showGo ws false [])) (fun _ i _ => ws.length - (intOf i).toNat)
  case atStart => exact ⟨0, false, [], rfl, rfl, by omega, by simp, Lib.fresh_isBuilder 46 5 w, (Below.refl _ w).alloc (Nat.le_refl _) _, by simp, rfl⟩
  case round =>
    obtain ⟨k, f, bs, rfl, rfl, hk, hbs, hB, hw, hsz, HS⟩ := hrel
    by_cases hlt : k < ws.length
    · have hlt' : (k : Int) < ws.length := by omega
      obtain ⟨x, hx⟩ : ∃ x, ws[k]? = some x := ⟨_, List.getElem?_eq_getElem hlt⟩
      obtain ⟨h0, h1, h2, h3, h4⟩ := hC k x hx
      have n0 := cell_below hw h0
      have n1 := cell_below hw h1
      have n2 := cell_below hw h2
      have n3 := cell_below hw h3
      have n4 := cell_below hw h4
      clear h0 h1 h2 h3 h4
      have hxs : x.t.size ≤ 10000 := hs x (List.mem_of_getElem? hx)
      have HS2 : Hid (showGo ws false [] = if canB x = false then none else if x.k = 4 then showGo (ws.drop (k + 1)) false (bs ++ [10]) else showGo (ws.drop (k + 1)) true ((if f then bs ++ [32] else bs) ++ x.t.data.toList)) := by
        show _ = _
        rw [← HS.out, List.drop_eq_getElem_cons hlt, (List.getElem?_eq_some_iff.1 hx).2, showGo]
      clear HS
      have HX : Hid (Tabs wr) := hT.below hw
      have HB := Lib.hid hB
      have HW := Lib.hid hw
      clear hB hw hC hT
      obtain ⟨v, hv⟩ : ∃ v, canB x = v := ⟨_, rfl⟩
      rw [hv] at HS2
      have CB : Hid (∀ w1, Tabs w1 → Calls Tryd.prog 19 #[aggW x] w1 fun e w' => e = .returned (.bool v) ∧ Below w1.heap.size w1 w') := fun w1 h => by
        rw [← hv]
        exact can_any x.k x.n x.l x.c x.t w1 h
      clear hv
      go_wp2_with fail
      refine (CB.out _ (HX.out.below ((Below.refl _ wr).alloc (Nat.le_refl _) _))).mono ?_
      rintro e w2 ⟨rfl, hb2⟩
      have c0 : w2.cell? ⟨wr.heap.size, 0, none⟩ = some (.int .i64 x.k) := cell_below hb2 (by simp)
      have c1 : w2.cell? ⟨wr.heap.size, 1, none⟩ = some (.string x.t) := cell_below hb2 (by simp)
      have HH : Hid (w2.heap[wr.heap.size]? = some (.cells #[.int .i64 x.k, .string x.t, .int .i64 x.n, .int .i64 x.l, .int .i64 x.c] 25 (0, 0))) := heap_below hb2 (heap_alloc_new wr _)
      have hz2 : wr.heap.size < w2.heap.size := by have := hb2.size; simp at this; omega
      have HB2 := Lib.hid (builder_below HB.out (((Below.refl _ wr).alloc (Nat.le_refl _) _).trans (hb2.mono (by simp))))
      have HW2 := Lib.hid (HW.out.trans (((((Below.refl _ wr).alloc (Nat.le_refl _) _).trans (hb2.mono (by simp)))).mono (Nat.le_of_lt hsz)))
      clear hb2 n0 n1 n2 n3 n4 HX CB HB HW
      have hlen : (Lib.byteCells bs).length = bs.length := by simp [Lib.byteCells]
      cases v
      · go_wp2
        go_ret2
        have E : showGo ws false [] = none := by rw [HS2.out]; rfl
        refine ⟨?_, HW2.out⟩
        have e1 : showText ws = ⟨#[]⟩ := by rw [showText, E]
        have e2 : showErr ws = 2 := by rw [showErr, E]
        rw [e1, e2]
        rfl
      · by_cases h4 : x.k = 4
        · have HS3 : Hid (showGo ws false [] = showGo (ws.drop (k + 1)) false (bs ++ [10])) := by show _ = _; rw [HS2.out, if_neg (by decide), if_pos h4]
          clear HS2
          go_wp2_with fail
          refine (byte_any w.heap.size w.heap.size (Lib.byteCells bs) 10 _ HB2.out (by omega) (by omega)).mono ?_
          rintro e w3 ⟨rfl, hB3, hb3, _⟩
          have HB3 := Lib.hid hB3
          have HW3 := Lib.hid (HW2.out.trans hb3)
          have hz3 := hb3.size
          clear hB3 hb3 HB2 HW2
          go_wp2
          go_roundw
          case rel => exact ⟨k + 1, false, bs ++ [10], rfl, by go_num, by omega, by simp; omega, Or.inr (by rw [cells_append]; exact HB3.out), HW3.out, by omega, HS3.out.symm⟩
          case measure => simp [intOf]; omega
        · have q4 : (x.k == 4) = false := by simp [h4]
          have HS3 : Hid (showGo ws false [] = showGo (ws.drop (k + 1)) true ((if f then bs ++ [32] else bs) ++ x.t.data.toList)) := by show _ = _; rw [HS2.out, if_neg (by decide), if_neg h4]
          clear HS2
          cases f
          · go_wp2_with fail
            refine (string_any w.heap.size w.heap.size (Lib.byteCells bs) x.t _ HB2.out (by omega) (by omega)).mono ?_
            rintro e w3 ⟨rfl, hB3, hb3, _⟩
            have HB3 := Lib.hid hB3
            have HW3 := Lib.hid (HW2.out.trans hb3)
            have hz3 := hb3.size
            clear hB3 hb3 HB2 HW2
            go_wp2
            go_roundw
            case rel => exact ⟨k + 1, true, bs ++ x.t.data.toList, rfl, by go_num, by omega, by simp; omega, Or.inr (by rw [cells_append]; exact HB3.out), HW3.out, by omega, HS3.out.symm⟩
            case measure => simp [intOf]; omega
          · go_wp2_with fail
            refine (byte_any w.heap.size w.heap.size (Lib.byteCells bs) 32 _ HB2.out (by omega) (by omega)).mono ?_
            rintro e w3 ⟨rfl, hB3, hb3, hk3⟩
            have c3 : w3.cell? ⟨wr.heap.size, 1, none⟩ = some (.string x.t) := by
              have := hk3 _ _ HH.out (by simp; omega) (by intro c fz hh; cases hh)
              rw [Lib.cell_of_heap this]
              rfl
            have HB3 := Lib.hid hB3
            have HW3 := Lib.hid (HW2.out.trans hb3)
            have hz3 := hb3.size
            clear hB3 hb3 hk3 HB2 HW2 c0 c1
            go_wp2_with fail
            refine (string_any w.heap.size w.heap.size (Lib.byteCells bs ++ [.int .u8 32]) x.t _ (Or.inr HB3.out) (by simp; omega) (by omega)).mono ?_
            rintro e w4 ⟨rfl, hB4, hb4, _⟩
            have HB4 := Lib.hid hB4
            have HW4 := Lib.hid (HW3.out.trans hb4)
            have hz4 := hb4.size
            clear hB4 hb4 HB3 HW3
            go_wp2
            go_roundw
            case rel => exact ⟨k + 1, true, bs ++ [32] ++ x.t.data.toList, rfl, by go_num, by omega, by simp; omega, Or.inr (by rw [cells_append, cells_append]; exact HB4.out), HW4.out, by omega, HS3.out.symm⟩
            case measure => simp [intOf]; omega
    · have e : k = ws.length := by omega
      subst e
      have E : Hid (showGo ws false [] = some bs) := by show _ = _; rw [← HS.out]; simp [showGo]
      have HW := Lib.hid hw
      have BS := Lib.hid (Tryd.Builder_String_any w.heap.size w.heap.size bs _ hB (by omega))
      clear hB hw HS hC hT
      go_wp2_with fail
      refine BS.out.mono ?_
      rintro e w1 ⟨rfl, hb⟩
      have H1 := Lib.hid (HW.out.trans hb)
      clear hb BS
      go_wp2
      go_ret2
      have e1 : showText ws = ⟨bs.toArray⟩ := by rw [showText, E.out]
      have e2 : showErr ws = 0 := by rw [showErr, E.out]
      rw [e1, e2]
      exact ⟨rfl, H1.out⟩
end Go.Proofs.YtfnmkgfaoacnpaaDoor
