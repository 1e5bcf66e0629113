/-
  A text's runes in memory, and back; the statements' comparison of a row with itself. No condition beyond those that each theorem states.
-/
import Derived.Test.YtfnmkgfaoacnpaaPlaceN
import Derived.Test.YtfnmkgfaoacnpaaOver
import Derived.Laws.IdiomStrings
import Derived.Laws.Cover4
import Derived.BigQuiet
import Derived.Deep.QuietTactic
namespace Go.Proofs.Ytfnmkgfaoacnpaa
open Go.RowKit

theorem runes_from (s : ByteArray) : ∀ (f i : Nat) (acc : Array Value), i ≤ s.size → Conv.runesFrom s f i acc = acc ++ ((runesL f (restB s i)).map (Value.int .i32)).toArray := by
  intro f
  induction f with
  | zero => intro i acc _; simp [Conv.runesFrom, runesL]
  | succ f ih =>
    intro i acc hi
    have hl := restB_len s i
    rw [Conv.runesFrom, runesL]
    by_cases h : i < s.size
    · have hne : restB s i ≠ [] := by intro e; rw [e] at hl; simp at hl; omega
      have hd : Utf8.decode s i = decL (restB s i) := by
        rw [Lib.decode_at]
        unfold decL
        rw [hl]
        simp only [hdB_rest, Nat.add_zero]
      have hw := wide_le s i h
      rw [if_pos h, if_neg hne]
      simp only
      rw [ih _ _ hw, hd, restB_drop]
      simp
    · have hne : restB s i = [] := List.length_eq_zero_iff.1 (by omega)
      rw [if_neg h, if_pos hne]
      simp
def runesOf (s : ByteArray) : List Int := runesT s.data.toList
theorem runes_all (s : ByteArray) : Conv.runesFrom s s.size 0 #[] = ((runesOf s).map (Value.int .i32)).toArray := by
  rw [runes_from s s.size 0 #[] (Nat.zero_le _)]
  unfold runesOf runesT
  rw [list_size]
  simp [restB]
theorem runes_few (s : ByteArray) : (runesOf s).length ≤ s.size := by
  have h := size_runesFrom s s.size 0 #[]
  rw [runes_all] at h
  simpa using h
theorem conv_text (s : ByteArray) (hz : s.size ≤ 100000) (w : World) : ∃ (cap : Nat) (cs : Array Value), (convert 9 33 (.string s)).run Try.prog w = .ok (.slice (some ⟨w.heap.size, 0, none⟩) (runesOf s).length cap) (w.drew.alloc (.cells cs 21)) ∧ (runesOf s).length ≤ cap ∧ ∀ j, j < (runesOf s).length → cs[j]? = some (.int .i32 ((runesOf s).getD j 0)) := by
  have hf := runes_few s
  have h := run_runes_of_string (P := Try.prog) w 9 33 21 s Try.underlying9 Try.underlying33 Try.underlying21 (by rw [runes_all]; simp; omega)
  rw [runes_all] at h
  simp only [List.size_toArray, List.length_map] at h
  refine ⟨_, _, h, grownCap_ge _ _ _ _, fun j hj => ?_⟩
  rw [Array.getElem?_append_left (by simpa using hj)]
  simp [List.getD, List.getElem?_eq_getElem hj]
/-- A row of runes. -/
def RunesAt (w : World) (g : Nat) (R : List Int) : Prop := ∃ cs, Blk w g 21 cs ∧ ∀ j, j < R.length → cs[j]? = some (.int .i32 (R.getD j 0))
theorem RunesAt.below {w w' : World} {g : Nat} {R : List Int} (h : RunesAt w g R) (hb : Below w.heap.size w w') : RunesAt w' g R := by
  obtain ⟨cs, hk, hc⟩ := h
  exact ⟨cs, hk.below hb hk.lt, hc⟩
theorem RunesAt.cell {w : World} {g : Nat} {R : List Int} (h : RunesAt w g R) {j : Nat} (hj : j < R.length) : w.cell? ⟨g, j, none⟩ = some (.int .i32 (R.getD j 0)) := by
  obtain ⟨cs, hk, hc⟩ := h
  exact (hk.cell j).trans (hc j hj)
/-- A part of a row of runes, as a text. -/
theorem back_text {w : World} {g : Nat} {R : List Int} (h : RunesAt w g R) (k n cap : Nat) (hk : k + n ≤ R.length) : (convert 33 9 (.slice (some ⟨g, k, none⟩) n cap)).run Try.prog w = .ok (.string (runesBytes ((R.drop k).take n))) w := by
  have hl : ((R.drop k).take n).length = n := by rw [List.length_take, List.length_drop]; omega
  have := run_convert_runes (P := Try.prog) w 33 9 21 ⟨g, k, none⟩ n cap ((R.drop k).take n) (by omega) Try.underlying33 Try.underlying21 Try.underlying9 (fun j hj => by
    have e : (⟨g, k, none⟩ : Addr).add j = ⟨g, k + j, none⟩ := by
      unfold Addr.add
      split
      · subst_vars; simp
      · rfl
    rw [e, h.cell (by omega)]
    congr 2
    rw [List.getD_eq_getElem?_getD, List.getD_eq_getElem?_getD, List.getElem?_take, if_pos (by omega), List.getElem?_drop])
  rw [List.take_take, Nat.min_self] at this
  exact this
set_option maxHeartbeats 2000000 in
set_option maxRecDepth 1000000 in
theorem alikeP_any (xs : List Wd) (a b : Option Addr) (ca cb : Nat) (w : World) (hn : xs.length ≤ 100000) (ha : CellsA w a xs) (hb : CellsA w b xs) :
    Calls Try.prog 15 #[.slice a xs.length ca, .slice b xs.length cb] w fun e w' => e = .returned (.bool true) ∧ ∃ d, w' = w.drewN d := by
  have HA := Lib.hid ha
  have HB := Lib.hid hb
  clear ha hb
  go_enter Try.func15, Try.ntmps15
  go_wp2
  go_loopw [5] (fun k wr => ∃ j d : Nat, k = .int .i64 j ∧ j ≤ xs.length ∧ wr = w.drewN d) (fun k _ => xs.length - (intOf k).toNat)
  case atStart => exact ⟨0, 0, rfl, Nat.zero_le _, rfl⟩
  case round =>
    obtain ⟨j, d, rfl, hj, rfl⟩ := hrel
    by_cases hlt : j < xs.length
    · have hlt' : (j : Int) < xs.length := by omega
      have hj0 : (0 : Int) ≤ j := by omega
      obtain ⟨x, hx⟩ : ∃ x, xs[j]? = some x := ⟨xs[j], List.getElem?_eq_getElem hlt⟩
      obtain ⟨g, rfl, _, a0, a1, a2, _, _⟩ := HA.out j x hx
      obtain ⟨q, rfl, _, b0, b1, b2, _, _⟩ := HB.out j x hx
      clear hx
      go_wp2_with fail
      go_quiet (fail)
      go_wp2
      go_roundw
      case rel => exact ⟨j + 1, _, by go_num, by omega, rfl⟩
      case measure => simp [intOf]; omega
    · have hlt' : (xs.length : Int) ≤ j := by omega
      go_wp2
      go_ret
      exact ⟨rfl, d, rfl⟩
end Go.Proofs.Ytfnmkgfaoacnpaa
