/-
  Proved: the tied card of WordShows: for every row of words and every rune, where the listed tables of the library hold what the program's text lays, it answers true: the words as a text, or the error, and whether the rune is a letter, a sign, are what the document tells, and the words stay. Conditions: the tables on the list, tied to the text by the given tie.
-/
import Derived.Test.YtnginfiohahdnaaDoorRows
import Derived.Test.YtnginfiohahdnaaDoorTie
import Derived.Test.YtnginfiohahdnaaDoorCards
import Derived.Test.YtnginfiohahdnaaDoorShows
import Derived.Test.YtnginfiohahdnaaDoorOpenW
import Derived.Test.YtnginfiohahdnaaDoorTabs
import Derived.WalkKit
import Derived.ProofKit
import Derived.Lay
import Derived.LaidOnce
import Derived.SevenTiedAt
namespace Go.Proofs.YtnginfiohahdnaaDoor.wordShows
open Go.ChangeShapes Go.WideShapes Go.ChangeAt Go.RowKit

theorem own : ownKnob Tryd.prog.godebug = none := by kernel_rfl
theorem laidOut : laidOutB Tryd.prog = true := by kernel_rfl
theorem off_at (a : Addr) (ha : a = ⟨a.block, a.off, none⟩) (j : Nat) : a.add j = ⟨a.block, a.off + j, none⟩ := by
  unfold Addr.add
  split
  · subst_vars; exact ha
  · rfl
theorem shows_all (a : Addr) (ws : List Wd) (c : Nat) (r : Int) (w : World) (hT : Tabs w) (hC : ∀ k x, ws[k]? = some x → AtA w a k x) (hl : ws.length ≤ maxLen) (hs : ∀ x ∈ ws, x.t.size ≤ 140737488351232) :
    Calls Tryd.prog 3 #[.slice (some a) ws.length c, .int .i32 r] w fun e w' => e = .returned (.bool true) ∧ Below w.heap.size w w' := by
  by_cases h0 : ws.length = 0
  · rw [h0]; exact shows_zero a c r w
  · have h0' : 0 < ws.length := by omega
    have hx := (hC 0 _ (List.getElem?_eq_getElem h0')).1
    have ha : a = ⟨a.block, a.off, none⟩ := by
      have := spot_none hx
      unfold Addr.add at this
      simpa using this
    have hlt : a.block < w.heap.size := by
      have := World.block_lt_of_cell? w _ hx
      unfold Addr.add at this
      simpa using this
    rw [ha]
    refine shows_some ws a.block a.off c r w hT (fun k x hk => ?_) hlt h0' hl (fun x hx => by have := hs x hx; omega)
    obtain ⟨h0, h1, h2, h3, h4⟩ := hC k x hk
    rw [off_at a ha] at h0 h1 h2 h3 h4
    exact ⟨h0, h1, h2, h3, h4⟩
set_option maxRecDepth 100000 in
theorem lifted (os : Os) (started : os.Started) (H : Type) (enc : TypeId × Value → H) :
    ReturnsInHanded {} Tryd.checked os 3 .any (fun w args => (Rows.wordShowsSpec.pre enc Tryd.prog Tryd.f3 [] false w args ∧ laidMetH Tryd.prog Rows.wordShowsRow.laid w) ∧ sizedMet enc Tryd.prog Tryd.f3 (OpenSpec.ofChange Rows.wordShowsSpec) false w args)
      (Rows.wordShowsSpec.post enc Tryd.prog Tryd.f3 false true false false) := by
  refine returnsInHanded_of_change_and (C := Tryd.checked) (X := fun w _ => laidMetH Tryd.prog Rows.wordShowsRow.laid w) (fun _ _ _ hh h => h.of_heap hh) own started (by kernel_rfl) Tryd.func3
    (ChangeSpec.witness_shaped (enc := enc) (C := Tryd.checked) (os := os) (X := fun w _ => laidMetH Tryd.prog Rows.wordShowsRow.laid w) false (World.laidAll Tryd.prog os Rows.wordShowsRow.laid) #[.slice none 0 0, .int .i32 0] 8 (World.laidAll_os _ _ _)
      (World.shaped_of_ZipB (by kernel_rfl) (by kernel_rfl)) (by kernel_rfl) (by kernel_rfl) (by kernel_rfl)
      (by rw [MakeChecks.laidMetH_plain _ _ _ (by kernel_rfl)]; exact laidMet_laidAll _ (by kernel_rfl) (by kernel_rfl))) ?_
  intro W base args ds gs before hval0 hW _ hsz0 hL _
  have hval : ∀ (j : Nat) t v, Tryd.f3.params[j]? = some t → args[j]? = some v → Value.okWide Tryd.prog W .any base t v := hval0
  have hW' := hW
  obtain ⟨p, q, hA0, hV, rfl, hlt, _⟩ := hW
  have hA : DataW.TrodAll enc Tryd.prog W 0 (fun _ => true) true Tryd.f3.params.toList args.toList ds p := hA0
  have hsz : (DataW.weightsEach Tryd.prog (Tryd.f3.params.toList ++ Rows.wordShowsSpec.plain.varTypes Tryd.prog) (ds ++ gs)).all (· ≤ reachBytes) = true := hsz0
  rw [Tryd.params3] at hA hval hsz
  obtain ⟨v0, vs0, d0, ds0, p0, q0, hargs, rfl, rfl, h0, r0⟩ := trodAll_cons hA
  obtain ⟨v1, vs1, d1, ds1, p1, q1, rfl, rfl, rfl, h1, r1⟩ := trodAll_cons r0
  obtain ⟨rfl, rfl, rfl⟩ := trodAll_nil r1
  obtain rfl : args = #[v0, v1] := by cases args; simp_all
  obtain ⟨rfl, rfl⟩ := trodVars_none hV
  obtain ⟨x, rfl, rfl, rfl, wx⟩ := open_int Tryd.underlying21 (hval 1 21 v1 rfl rfl) h1
  have hk0 := h0
  obtain ⟨fuel, hf⟩ := h0
  rw [MakeChecks.laidMetH_plain _ _ _ (by kernel_rfl)] at hL
  have hT : Tabs W := tabs_of W _ hL (.tail _ (.tail _ (.head _))) (.tail _ (.tail _ (.tail _ (.head _)))) (.tail _ (.tail _ (.tail _ (.tail _ (.head _)))))
  obtain ⟨a0, len, cap, rfl⟩ := okWide_slice Tryd.underlying22 (hval 0 22 v0 rfl rfl)
  clear hA0 hval0 hsz0 hA r0 r1
  simp only [List.append_nil] at hW'
  have hblk : ∀ x ∈ p0, x.block < W.heap.size := fun x hx => hW'.lt x (by simp [hx])
  have hbk : Calls Tryd.prog 3 #[.slice a0 len cap, .int .i32 x] W fun e w' => e = .returned (.bool true) ∧ Below W.heap.size W w' := by
    rcases open_words hf with ⟨hcs, hx⟩ | ⟨a, cap', ws, sp, pl, hcs, hl, hm, hx, hC⟩
    · have : (Value.slice a0 len cap) = .slice none 0 0 := by simpa [Value.cells] using hcs
      rw [this]
      exact shows_nil x W
    · have : (Value.slice a0 len cap) = .slice (some a) ws.length cap' := by simpa [Value.cells] using hcs
      rw [this]
      simp only [Prod.mk.injEq] at hx
      obtain ⟨rfl, rfl⟩ := hx
      exact shows_all a ws cap' x W hT hC (by omega) (texts_reach hsz (j := 0) rfl rfl)
  refine hbk.mono fun e W' ⟨he, hb⟩ => ?_
  subst he
  exact ⟨_, rfl, _, _, _, [], _, [], hW', trodAll_mk1 (shut_bool Tryd.underlying4 _), trodAll_mk2 (Below.trod laidOut (by kernel_rfl) (of_decide_eq_true (by kernel_rfl)) hk0 hb hblk) (shut_int Tryd.underlying21 wx), rfl, hb.frame _, fun h => by cases h⟩

theorem holds : Rows.WordShowsSaid :=
  OpenClaim.holds_of_wide 3 Tryd.f3 rfl rfl rfl rfl rfl rfl rfl ⟨rfl, rfl, rfl, rfl, rfl⟩ rfl rfl rfl rfl rfl (by kernel_rfl) Tryd.func3 (by kernel_rfl)
    (of_decide_eq_true (by kernel_rfl)) (by unfold Func.isWrapper; first | (rw [if_pos (by decide +kernel)]; kernel_rfl) | (rw [if_neg (by decide +kernel)]; exact ⟨rfl, rfl⟩))
    (fun os started H enc _ => lifted os started H enc)

/-- The statement. -/
theorem card_holds : Rows.WordShowsCardSaid :=
  Claim7.holds_tied_plain_at .later [] [.data, .data, .data, .data, .pinned] true Rows.wordShowsCard.stood.harness false
    holds (fun _ h => by cases h) (by kernel_rfl) (fun _ h => by cases h) wordShows_row_tie rfl ⟨rfl, rfl⟩ (by kernel_rfl) rfl
    (fun f fn hf hfn => by
      obtain rfl : f = 3 := Option.some.inj ((show Tryd.prog.funcNamed "intarsia/intarsialaw01.WordShows" = some 3 by kernel_rfl).symm.trans hf) |>.symm
      obtain rfl : fn = Tryd.f3 := (Option.some.inj (Tryd.func3.symm.trans hfn)).symm
      exact ⟨by kernel_rfl, fun j t ht => by
        rw [Tryd.params3] at ht
        have hm : t ∈ [22, 21] := by simpa using Array.mem_of_getElem? ht
        have hall : ([22, 21].all fun u => !Tryd.prog.wantsStandIn u) = true := by kernel_rfl
        exact (show Tryd.prog.wantsStandIn t = false by simpa using List.all_eq_true.1 hall t hm)⟩)
    (by kernel_rfl)
end Go.Proofs.YtnginfiohahdnaaDoor.wordShows
