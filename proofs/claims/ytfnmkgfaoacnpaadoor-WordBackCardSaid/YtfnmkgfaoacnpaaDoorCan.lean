/-
  What package word's tests of a word's text answer. No condition beyond those that each theorem states.
-/
import Derived.Test.YtfnmkgfaoacnpaaDoorBuild
import Derived.Test.YtfnmkgfaoacnpaaDoorRead
import Derived.Test.YtfnmkgfaoacnpaaDoorName
namespace Go.Proofs.YtfnmkgfaoacnpaaDoor
open Go.RowKit

def isSignB (s : ByteArray) : Bool := decide ((Lib.decodeGo s).2 = s.size) && signB (Lib.decodeGo s).1
set_option maxHeartbeats 1000000 in
theorem isSign_any (s : ByteArray) (w : World) (hT : Lib.Utf8Tabs 0 1 w) : Calls Tryd.prog 35 #[.string s] w fun e w' => e = .returned (.bool (isSignB s)) ∧ Below w.heap.size w w' := by
  by_cases h : (Lib.decodeGo s).2 = s.size
  · have h' : ((Lib.decodeGo s).2 : Int) = s.size := by omega
    go_enter Tryd.func35, Tryd.ntmps35
    go_wp2_with fail
    refine (Tryd.utf8_DecodeRuneInString s _ hT).mono ?_
    rintro e w1 ⟨rfl, hb1⟩
    have HB := Lib.hid hb1
    clear hb1
    go_wp2_with fail
    refine (sign_any _ _).mono ?_
    rintro e w2 ⟨rfl, rfl⟩
    go_wp2
    go_ret
    exact ⟨by simp [isSignB, h], HB.out⟩
  · have h' : ¬ ((Lib.decodeGo s).2 : Int) = s.size := by omega
    go_enter Tryd.func35, Tryd.ntmps35
    go_wp2_with fail
    refine (Tryd.utf8_DecodeRuneInString s _ hT).mono ?_
    rintro e w1 ⟨rfl, hb1⟩
    have HB := Lib.hid hb1
    clear hb1
    go_wp2
    go_ret
    exact ⟨by simp [isSignB, h], HB.out⟩

/-- The library's tables lie as they were laid. -/
def Tabs (w : World) : Prop := Lib.Utf8Tabs 0 1 w ∧ Lib.TabIs Tryd.prog w "internal/strconv.uint64pow10" .u64 Lib.pow10Tab
theorem heap_below {w w' : World} (hb : Below w.heap.size w w') {k : Nat} {o : Obj} (h : w.heap[k]? = some o) : w'.heap[k]? = some o := by
  rw [hb.block k (Array.getElem?_eq_some_iff.1 h).1]
  exact h
theorem cell_below {w w' : World} (hb : Below w.heap.size w w') {a : Addr} {v : Value} (h : w.cell? a = some v) : w'.cell? a = some v := by
  unfold World.cell? at *
  cases hk : w.heap[a.block]? with
  | none => simp [hk] at h
  | some o => rw [heap_below hb hk]; rw [hk] at h; exact h
theorem Tabs.below {w w' : World} (h : Tabs w) (hb : Below w.heap.size w w') : Tabs w' := by
  refine ⟨⟨fun c hc => cell_below hb (h.1.1 c hc), fun i hi => ⟨cell_below hb (h.1.2 i hi).1, cell_below hb (h.1.2 i hi).2⟩⟩, ?_⟩
  have h2 := h.2
  unfold Lib.TabIs World.var? at *
  cases hg : Tryd.prog.globalNamed "internal/strconv.uint64pow10" with
  | none => simp [hg] at h2
  | some g =>
    simp only [hg, Option.bind_some] at h2 ⊢
    cases hk : w.heap[g]? with
    | none => simp [hk] at h2
    | some o => rw [heap_below hb hk]; rw [hk] at h2; exact h2
theorem itoa_any (n : Int) (w : World) (hT : Tabs w) (h0 : -9223372036854775808 ≤ n) (h1 : n ≤ 9223372036854775807) : Calls Tryd.prog 34 #[.int .i64 n] w fun e w' => e = .returned (.string ⟨(Lib.itoa n).toArray⟩) ∧ Below w.heap.size w w' := by
  refine (Tryd.strconv_Itoa n h0 h1 w hT.2).mono ?_
  rintro e w' ⟨rfl, k, os, rfl⟩
  refine ⟨rfl, (below_draws (Below.refl _ w) k).trans ⟨rfl, rfl, rfl, ?_, ?_⟩⟩
  · simp [Sort.grow]
  · intro j hj
    simp only [Sort.grow]
    exact Array.getElem?_append_left hj

theorem bound_is (n : Int) (v : Bool) (h : boundB n = v) (w : World) : Calls Tryd.prog 33 #[.int .i64 n] w fun e w' => e = .returned (.bool v) ∧ w = w' := by
  subst h
  exact bound_any n w
theorem list_ne {a b : ByteArray} (h : ¬ a = b) : ¬ a.toList = b.toList := by
  rw [ByteArray.toList_eq, ByteArray.toList_eq]
  exact fun e => h (ByteArray.ext (Array.toList_inj.mp e))
theorem list_empty {a : ByteArray} (h : ¬ a = ⟨#[]⟩) : a.toList.isEmpty = false := by
  have := list_ne h
  rw [ByteArray.toList_eq ⟨#[]⟩] at this
  cases e : a.toList with
  | nil => exact absurd e this
  | cons x y => rfl
def canB (x : Wd) : Bool :=
  if x.k = 1 then decide (x.n = 0) && nameB x.t
  else if x.k = 2 then boundB x.n && decide (x.t = ⟨(Lib.itoa x.n).toArray⟩)
  else if x.k = 3 then decide (x.n = 0) && isSignB x.t
  else if x.k = 4 then decide (x.n = 0) && decide (x.t = ⟨#[]⟩)
  else false
def aggW (x : Wd) : Value := .agg #[.int .i64 x.k, .string x.t, .int .i64 x.n, .int .i64 x.l, .int .i64 x.c]
set_option maxHeartbeats 1000000 in
set_option maxRecDepth 100000 in
theorem can_any (k n l c : Int) (t : ByteArray) (w : World) (hT : Tabs w) : Calls Tryd.prog 19 #[aggW ⟨k, t, n, l, c⟩] w fun e w' => e = .returned (.bool (canB ⟨k, t, n, l, c⟩)) ∧ Below w.heap.size w w' := by
  unfold aggW
  have hb0 := (Below.refl _ w).alloc (Nat.le_refl _) (.cells #[.int .i64 k, .string t, .int .i64 n, .int .i64 l, .int .i64 c] 25)
  have hT1 := hT.below hb0
  have Hb0 := Lib.hid hb0
  have HT1 := Lib.hid hT1
  clear hb0 hT1 hT
  by_cases h1 : k = 1
  · subst h1
    by_cases hn : n = 0
    · subst hn
      go_enter Tryd.func19, Tryd.ntmps19
      go_wp2_with fail
      refine (name_any t _).mono ?_
      rintro e w1 ⟨rfl, hb1⟩
      have H := Lib.hid (Hb0.out.trans (hb1.mono (by simp)))
      clear hb1
      go_wp2
      go_ret
      exact ⟨by simp [canB], H.out⟩
    · go_enter Tryd.func19, Tryd.ntmps19
      go_wp2
      go_ret
      exact ⟨by simp [canB, hn], Hb0.out⟩
  by_cases h2 : k = 2
  · subst h2
    by_cases hn : boundB n = true
    · have hn' : -1099511627776 ≤ n ∧ n ≤ 1099511627776 := by simpa [boundB] using hn
      have BY := Lib.hid (bound_is n true hn)
      have IT := Lib.hid (fun w h => itoa_any n w h (by omega) (by omega))
      have E : Hid (canB ⟨2, t, n, l, c⟩ = decide (t = ⟨(Lib.itoa n).toArray⟩)) := by show _ = _; simp only [canB]; rw [if_neg (by decide), if_pos trivial, hn, Bool.true_and]
      generalize (⟨(Lib.itoa n).toArray⟩ : ByteArray) = S at *
      clear hn hn'
      have IA0 : Calls Tryd.prog 34 #[.int .i64 n] (w.alloc (.cells #[.int .i64 2, .string t, .int .i64 n, .int .i64 l, .int .i64 c] 25)).drew fun e w' => e = .returned (.string S) ∧ w'.cell? ⟨w.heap.size, 1, none⟩ = some (.string t) ∧ Below w.heap.size w w' := by
        refine (IT.out (World.drew _) (HT1.out.below (Below.refl _ _).drew)).mono ?_
        rintro e w' ⟨rfl, hb⟩
        refine ⟨rfl, cell_below hb ?_, Hb0.out.drew.trans (hb.mono (by simp))⟩
        show (w.alloc (.cells #[.int .i64 2, .string t, .int .i64 n, .int .i64 l, .int .i64 c] 25)).cell? ⟨w.heap.size, 1, none⟩ = _
        simp
      have IA := Lib.hid IA0
      clear IT HT1 IA0
      by_cases ht : t = S
      · have E2 : Hid (canB ⟨2, t, n, l, c⟩ = true) := by show _ = _; rw [E.out]; exact decide_eq_true ht
        subst ht
        clear E
        go_enter Tryd.func19, Tryd.ntmps19
        go_wp2_with fail
        go_region_with (first
          | (go_at_call 33; refine (BY.out _).mono ?_; rintro e w1 ⟨rfl, rfl⟩)
          | (go_at_call 34; refine IA.out.mono ?_; rintro e w1 ⟨rfl, c1, hb1⟩; have H1 := Lib.hid hb1; clear hb1))
        all_goals
          go_wp2
          go_ret
          exact ⟨by rw [E2.out]; rfl, H1.out⟩
      · have E2 : Hid (canB ⟨2, t, n, l, c⟩ = false) := by show _ = _; rw [E.out]; exact decide_eq_false ht
        clear E
        have q := list_ne ht
        go_enter Tryd.func19, Tryd.ntmps19
        go_wp2_with fail
        go_region_with (first
          | (go_at_call 33; refine (BY.out _).mono ?_; rintro e w1 ⟨rfl, rfl⟩)
          | (go_at_call 34; refine IA.out.mono ?_; rintro e w1 ⟨rfl, c1, hb1⟩; have H1 := Lib.hid hb1; clear hb1))
        all_goals
          go_wp2
          go_ret
          refine ⟨?_, H1.out⟩
          rw [E2.out]
          simp [Act.put, q]
    · have hn' : boundB n = false := by simpa using hn
      have BY := Lib.hid (bound_is n false hn')
      have E : Hid (canB ⟨2, t, n, l, c⟩ = false) := by show _ = _; simp only [canB]; rw [if_neg (by decide), if_pos trivial, hn', Bool.false_and]
      clear hn hn'
      go_enter Tryd.func19, Tryd.ntmps19
      go_wp2_with fail
      go_quiet (first | (go_at_call 33; refine Calls.quiet_of_same ((BY.out _).mono fun _ _ h => ⟨h.1, h.2.symm⟩)))
      go_wp2
      go_ret
      exact ⟨by rw [E.out]; rfl, below_draws Hb0.out _⟩
  by_cases h3 : k = 3
  · subst h3
    by_cases hn : n = 0
    · subst hn
      go_enter Tryd.func19, Tryd.ntmps19
      go_wp2_with fail
      refine (isSign_any t _ HT1.out.1).mono ?_
      rintro e w1 ⟨rfl, hb1⟩
      have H := Lib.hid (Hb0.out.trans (hb1.mono (by simp)))
      clear hb1
      go_wp2
      go_ret
      exact ⟨by simp [canB], H.out⟩
    · go_enter Tryd.func19, Tryd.ntmps19
      go_wp2
      go_ret
      exact ⟨by simp [canB, hn], Hb0.out⟩
  by_cases h4 : k = 4
  · subst h4
    by_cases hn : n = 0
    · subst hn
      by_cases ht : t = ⟨#[]⟩
      · subst ht
        go_enter Tryd.func19, Tryd.ntmps19
        go_wp2
        go_ret
        exact ⟨by simp [canB], Hb0.out⟩
      · go_enter Tryd.func19, Tryd.ntmps19
        go_wp2
        go_ret
        have E2 : canB ⟨4, t, 0, l, c⟩ = false := by simp only [canB]; rw [if_neg (by decide), if_neg (by decide), if_neg (by decide), if_pos trivial, decide_eq_false ht]; simp
        rw [E2]
        exact ⟨by simp [list_empty ht], Hb0.out⟩
    · go_enter Tryd.func19, Tryd.ntmps19
      go_wp2
      go_ret
      exact ⟨by simp [canB, hn], Hb0.out⟩
  go_enter Tryd.func19, Tryd.ntmps19
  go_wp2
  go_ret
  exact ⟨by simp [canB, h1, h2, h3, h4], Hb0.out⟩
end Go.Proofs.YtfnmkgfaoacnpaaDoor
