/-
  Proved: the tied card of WordBack: for every row of words and every text, where the listed tables of the library hold what the program's text lays, it answers true: words that are shown are read, the same but for their places; words that are read are shown, if their numbers are written as they must be, and read again they are the same. Conditions: the tables on the list, tied to the text by the given tie.
-/
import Derived.Test.YtfnmkgfaoacnpaaDoorRows
import Derived.Test.YtfnmkgfaoacnpaaDoorTie
import Derived.Test.YtfnmkgfaoacnpaaDoorCards
import Derived.Test.YtfnmkgfaoacnpaaDoorBack
import Derived.Test.YtfnmkgfaoacnpaaDoorOpenW
import Derived.Test.YtfnmkgfaoacnpaaDoorTabs
import Derived.WalkKit
import Derived.ProofKit
import Derived.Lay
import Derived.LaidOnce
import Derived.SevenTiedAt
import Derived.OpenShut
import Derived.ShutString
namespace Go.Proofs.YtfnmkgfaoacnpaaDoor.wordBack
open Go.ChangeShapes Go.WideShapes Go.ChangeAt Go.RowKit
open Go.ChangeMaps (open_string shut_string)

theorem own : ownKnob Tryd.prog.godebug = none := by kernel_rfl
theorem laidOut : laidOutB Tryd.prog = true := by kernel_rfl
theorem off_at (a : Addr) (ha : a = ⟨a.block, a.off, none⟩) (j : Nat) : a.add j = ⟨a.block, a.off + j, none⟩ := by
  unfold Addr.add
  split
  · subst_vars; exact ha
  · rfl
theorem words_atO {w : World} {a : Addr} {ws : List Wd} (h : ∀ k x, ws[k]? = some x → AtA w a k x) : CellsO w (some a) ws := fun k x hk => by
  obtain ⟨h0, h1, h2, h3, h4⟩ := h k x hk
  have hkl : k < ws.length := (List.getElem?_eq_some_iff.1 hk).1
  have h00 := (h 0 _ (List.getElem?_eq_getElem (by omega))).1
  have ha : a = ⟨a.block, a.off, none⟩ := by
    have := spot_none h00
    unfold Addr.add at this
    simpa using this
  have hlt : a.block < w.heap.size := by
    have := World.block_lt_of_cell? w _ h1
    rw [ha, off_at _ rfl] at this
    exact this
  rw [off_at a ha] at h0 h1 h2 h3 h4
  exact ⟨a.block, a.off, congrArg some ha, hlt, h0, h1, h2, h3, h4⟩
theorem word_bytes : Tryd.prog.bytesOf 25 = 48 := by kernel_rfl
theorem row_reach {H : Type} {ts : List TypeId} {ds : List (DataW H)} (h : (DataW.weightsEach Tryd.prog ts ds).all (· ≤ reachBytes) = true) {j : Nat} {ws : List Wd} {sp : List (DataW H)} (ht : ts[j]? = some 22) (hd : ds[j]? = some (.slice (ws.map datW) sp)) : ws.length ≤ 140737488351232 := by
  have h1 : (ws.length + sp.length) * 48 ≤ reachBytes := by
    refine of_decide_eq_true (List.all_eq_true.1 h _ (DataW.weights_mem_each ht hd _ ?_))
    simp only [DataW.weights, Tryd.underlying22, List.mem_cons, word_bytes, List.length_map]
    simp
  have h2 : reachBytes = 140737488351232 := by decide
  omega
theorem text_reach {H : Type} {ts : List TypeId} {ds : List (DataW H)} (h : (DataW.weightsEach Tryd.prog ts ds).all (· ≤ reachBytes) = true) {j : Nat} {a : ByteArray} (ht : ts[j]? = some 9) (hd : ds[j]? = some (.lit (.string a.data.toList))) : a.size ≤ 140737488351232 := by
  have h2 : reachBytes = 140737488351232 := by decide
  rw [← h2]
  refine of_decide_eq_true (List.all_eq_true.1 h _ (DataW.weights_mem_each ht hd _ ?_))
  simp [DataW.weights]
set_option maxRecDepth 100000 in
theorem lifted (os : Os) (started : os.Started) (H : Type) (enc : TypeId × Value → H) :
    ReturnsInHanded {} Tryd.checked os 5 .any (fun w args => (Rows.wordBackSpec.pre enc Tryd.prog Tryd.f5 [] false w args ∧ laidMetH Tryd.prog Rows.wordBackRow.laid w) ∧ sizedMet enc Tryd.prog Tryd.f5 (OpenSpec.ofChange Rows.wordBackSpec) false w args)
      (Rows.wordBackSpec.post enc Tryd.prog Tryd.f5 false true false false) := by
  refine returnsInHanded_of_change_and (C := Tryd.checked) (X := fun w _ => laidMetH Tryd.prog Rows.wordBackRow.laid w) (fun _ _ _ hh h => h.of_heap hh) own started (by kernel_rfl) Tryd.func5
    (ChangeSpec.witness_shaped (enc := enc) (C := Tryd.checked) (os := os) (X := fun w _ => laidMetH Tryd.prog Rows.wordBackRow.laid w) false (World.laidAll Tryd.prog os Rows.wordBackRow.laid) #[.slice none 0 0, .string ByteArray.empty] 8 (World.laidAll_os _ _ _)
      (World.shaped_of_ZipB (by kernel_rfl) (by kernel_rfl)) (by kernel_rfl) (by kernel_rfl) (by kernel_rfl)
      (by rw [MakeChecks.laidMetH_plain _ _ _ (by kernel_rfl)]; exact laidMet_laidAll _ (by kernel_rfl) (by kernel_rfl))) ?_
  intro W base args ds gs before hval0 hW _ hsz0 hL _
  have hval : ∀ (j : Nat) t v, Tryd.f5.params[j]? = some t → args[j]? = some v → Value.okWide Tryd.prog W .any base t v := hval0
  have hW' := hW
  obtain ⟨p, q, hA0, hV, rfl, hlt, _⟩ := hW
  have hA : DataW.TrodAll enc Tryd.prog W 0 (fun _ => true) true Tryd.f5.params.toList args.toList ds p := hA0
  have hsz : (DataW.weightsEach Tryd.prog (Tryd.f5.params.toList ++ Rows.wordBackSpec.plain.varTypes Tryd.prog) (ds ++ gs)).all (· ≤ reachBytes) = true := hsz0
  rw [Tryd.params5] at hA hval hsz
  obtain ⟨v0, vs0, d0, ds0, p0, q0, hargs, rfl, rfl, h0, r0⟩ := trodAll_cons hA
  obtain ⟨v1, vs1, d1, ds1, p1, q1, rfl, rfl, rfl, h1, r1⟩ := trodAll_cons r0
  obtain ⟨rfl, rfl, rfl⟩ := trodAll_nil r1
  obtain rfl : args = #[v0, v1] := by cases args; simp_all
  obtain ⟨rfl, rfl⟩ := trodVars_none hV
  obtain ⟨x, rfl, rfl, rfl, wx⟩ := open_string Tryd.underlying9 (hval 1 9 v1 rfl rfl) h1
  have hk0 := h0
  obtain ⟨fuel, hf⟩ := h0
  rw [MakeChecks.laidMetH_plain _ _ _ (by kernel_rfl)] at hL
  have hT : Tabs W := tabs_of W _ hL (.tail _ (.tail _ (.head _))) (.tail _ (.tail _ (.tail _ (.head _)))) (.tail _ (.tail _ (.tail _ (.tail _ (.head _)))))
  obtain ⟨a0, len, cap, rfl⟩ := okWide_slice Tryd.underlying22 (hval 0 22 v0 rfl rfl)
  clear hA0 hval0 hsz0 hA r0 r1
  simp only [List.append_nil] at hW'
  have hblk : ∀ x ∈ p0, x.block < W.heap.size := fun x hx => hW'.lt x (by simp [hx])
  have hbk : Calls Tryd.prog 5 #[.slice a0 len cap, .string x] W fun e w' => e = .returned (.bool true) ∧ Below W.heap.size W w' := by
    rcases open_words hf with ⟨hcs, hx⟩ | ⟨a, cap', ws, sp, pl, hcs, hl, hm, hx, hC⟩
    · have : (Value.slice a0 len cap) = .slice none 0 0 := by simpa [Value.cells] using hcs
      rw [this]
      exact backs_any [] none 0 x W hT (fun k y hy => by simp at hy) (by simp) (by simp) (by have := text_reach hsz (j := 1) (a := x) rfl rfl; omega)
    · have : (Value.slice a0 len cap) = .slice (some a) ws.length cap' := by simpa [Value.cells] using hcs
      rw [this]
      simp only [Prod.mk.injEq] at hx
      obtain ⟨rfl, rfl⟩ := hx
      exact backs_any ws (some a) cap' x W hT (words_atO hC) (by have := row_reach hsz (j := 0) rfl rfl; omega) (fun y hy => by have := texts_reach hsz (j := 0) rfl rfl y hy; omega) (by have := text_reach hsz (j := 1) (a := x) rfl rfl; omega)
  refine hbk.mono fun e W' ⟨he, hb⟩ => ?_
  subst he
  exact ⟨_, rfl, _, _, _, [], _, [], hW', trodAll_mk1 (shut_bool Tryd.underlying4 _), trodAll_mk2 (Below.trod laidOut (by kernel_rfl) (of_decide_eq_true (by kernel_rfl)) hk0 hb hblk) (shut_string Tryd.underlying9 wx), rfl, hb.frame _, fun h => by cases h⟩

theorem holds : Rows.WordBackSaid :=
  OpenClaim.holds_of_wide 5 Tryd.f5 rfl rfl rfl rfl rfl rfl rfl ⟨rfl, rfl, rfl, rfl, rfl⟩ rfl rfl rfl rfl rfl (by kernel_rfl) Tryd.func5 (by kernel_rfl)
    (of_decide_eq_true (by kernel_rfl)) (by unfold Func.isWrapper; first | (rw [if_pos (by decide +kernel)]; kernel_rfl) | (rw [if_neg (by decide +kernel)]; exact ⟨rfl, rfl⟩))
    (fun os started H enc _ => lifted os started H enc)

/-- The statement. -/
theorem card_holds : Rows.WordBackCardSaid :=
  Claim7.holds_tied_plain_at .later [] [.data, .data, .data, .data, .pinned] true Rows.wordBackCard.stood.harness false
    holds (fun _ h => by cases h) (by kernel_rfl) (fun _ h => by cases h) wordBack_row_tie rfl ⟨rfl, rfl⟩ (by kernel_rfl) rfl
    (fun f fn hf hfn => by
      obtain rfl : f = 5 := Option.some.inj ((show Tryd.prog.funcNamed "intarsia/intarsialaw01.WordBack" = some 5 by kernel_rfl).symm.trans hf) |>.symm
      obtain rfl : fn = Tryd.f5 := (Option.some.inj (Tryd.func5.symm.trans hfn)).symm
      exact ⟨by kernel_rfl, fun j t ht => by
        rw [Tryd.params5] at ht
        have hm : t ∈ [22, 9] := by simpa using Array.mem_of_getElem? ht
        have hall : ([22, 9].all fun u => !Tryd.prog.wantsStandIn u) = true := by kernel_rfl
        exact (show Tryd.prog.wantsStandIn t = false by simpa using List.all_eq_true.1 hall t hm)⟩)
    (by kernel_rfl)
end Go.Proofs.YtfnmkgfaoacnpaaDoor.wordBack
