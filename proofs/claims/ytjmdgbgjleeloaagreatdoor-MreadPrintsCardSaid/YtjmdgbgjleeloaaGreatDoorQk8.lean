/-
  The chapter's example is read and written as it says (package intarsialaw07's awake). Conditions: the library's tables, its errors, the Ops' names and parts hold what the text lays.
  The tables that a row of mread lists, as its condition lays them, are those that the contracts ask for. No condition beyond those that each theorem states.
-/
import Derived.Test.YtjmdgbgjleeloaaGreatDoorMpY
import Derived.Test.YtjmdgbgjleeloaaGreatDoorMdK
import Derived.Test.YtjmdgbgjleeloaaGreatDoorRows
import Derived.Lib.LaidU8
import Derived.Lib.LaidTab
import Derived.MakeChecks
namespace Go.Proofs.YtjmdgbgjleeloaaGreatDoor
open Go.RowKit

/-- All the tables. -/
structure TabA (w : World) : Prop where
  r : TabR w
  t : TabW w
theorem TabA.below {w w' : World} (h : TabA w) (hb : Below w.heap.size w w') : TabA w' := ⟨h.r.below hb, h.t.below hb⟩
/-- The example's text, its target. -/
def exS : ByteArray := ⟨#[116, 97, 114, 103, 101, 116, 32, 49, 10, 98, 108, 111, 99, 107, 32, 48, 10, 115, 48, 32, 226, 134, 144, 32, 114, 49, 10, 114, 48, 32, 226, 134, 144, 32, 115, 48, 10, 114, 101, 116, 117, 114, 110, 32, 114, 48, 10]⟩
def exG : Gg := ⟨1, [⟨[⟨16, 0, 1, 0, 0, 0, [], 0⟩, ⟨17, 0, 0, 0, 0, 0, [], 0⟩], ⟨3, 0, 0, 0⟩⟩]⟩
theorem ex_can : canG exG = true := by decide +kernel
theorem ex_text : gtxL exG = exS.data.toList := by decide +kernel
theorem ex_print : printE exG = 0 ∧ printS exG = exS := by
  have h : (gtxL exG).length ≤ 262144 := by rw [ex_text]; decide +kernel
  refine ⟨print_ok ex_can h, ?_⟩
  unfold printS
  rw [if_pos ⟨ex_can, h⟩, ex_text]
theorem ex_parse : prE exS = 0 ∧ prG exS = exG := ⟨by kernel_rfl, by kernel_rfl⟩
theorem ex_parse_any (w : World) (hT : TabR w) : Calls Tryz.prog 14 #[.string exS] w fun e w' => ∃ (ba : Option Addr) (bc : Nat) (l c : Int), e = .returned (.tuple #[.agg #[.int .i64 1, .slice ba 1 bc], .int .i64 l, .int .i64 c, .int .i64 0]) ∧ Hid (BlsW w' ba exG.blocks) ∧ Below w.heap.size w w' :=
  (parse_any exS w hT).mono fun e w' ⟨ba, bc, h1, h2, h3⟩ => by
    obtain ⟨e1, e2⟩ := ex_parse
    rw [e1, e2] at h1
    have h4 := h2.out.1
    rw [e2] at h4
    exact ⟨ba, bc, _, _, h1, h4, h3⟩
theorem ex_print_any (ba : Option Addr) (bc : Nat) (w : World) (hB : BlsW w ba exG.blocks) (hT : TabA w) : Calls Tryz.prog 11 #[.agg #[.int .i64 1, .slice ba 1 bc]] w fun e w' => e = .returned (.tuple #[.string exS, .int .i64 0]) ∧ Below w.heap.size w w' := by
  have hS : SmallG exG := ⟨by decide, fun x hx => by
    simp only [exG, List.mem_singleton] at hx
    subst hx
    refine ⟨by decide, fun i hi => ?_⟩
    simp only [List.mem_cons, List.not_mem_nil, or_false] at hi
    rcases hi with rfl | rfl <;> decide⟩
  have h := print_any exG ba bc w hB hS hT.t hT.r.pow hT.r.names
  rw [ex_print.1, ex_print.2] at h
  exact h
theorem ex_cells {w : World} {ba : Option Addr} (h : BlsW w ba exG.blocks) : ∃ g o g2 o2 ic, ba = some ⟨g, o, none⟩ ∧ g < w.heap.size ∧ w.cell? ⟨g, o, none⟩ = some (.slice (some ⟨g2, o2, none⟩) 2 ic) ∧ g2 < w.heap.size ∧ w.cell? ⟨g2, o2, none⟩ = some (.int .i64 16) := by
  obtain ⟨g, o, ia, ic, e, hg, hb⟩ := h 0 _ rfl
  obtain ⟨g2, o2, _, _, e2, hg2, hi⟩ := hb.ins 0 _ rfl
  subst e e2
  exact ⟨g, o, g2, o2, ic, rfl, hg, hb.c0, hg2, hi.c0⟩
set_option maxRecDepth 100000 in
set_option maxHeartbeats 4000000 in
theorem awake7_any (w : World) (hT : TabA w) : Calls Tryz.prog 9 #[] w fun e w' => e = .returned (.bool true) ∧ Below w.heap.size w w' := by
  have P := Lib.hid (ex_parse_any w hT.r)
  have PR : Hid (∀ (ba : Option Addr) (bc : Nat) (W : World), Below w.heap.size w W → BlsW W ba exG.blocks → _) := fun ba bc W hb hB => ex_print_any ba bc W hB (hT.below hb)
  clear hT
  unfold exS at P PR
  go_enter Tryz.func9, Tryz.ntmps9
  go_wp2_with fail
  refine P.out.mono ?_
  rintro e w1 ⟨ba, bc, ll, cc, rfl, hB, hb⟩
  obtain ⟨g, o, g2, o2, ic, rfl, hg, x0, hg2, x1⟩ := ex_cells hB.out
  have hba : Below w1.heap.size w1 (w1.alloc (.cells #[.int .i64 1, .slice (some ⟨g, o, none⟩) 1 bc] 24)) := (Below.refl _ _).alloc (Nat.le_refl _) _
  have HB1 : Hid (Below w.heap.size w (w1.alloc (.cells #[.int .i64 1, .slice (some ⟨g, o, none⟩) 1 bc] 24))) := hb.trans (hba.mono hb.size)
  have PR1 := Lib.hid (PR.out (some ⟨g, o, none⟩) bc _ HB1.out (hB.out.below hba))
  have HX : Hid (Blk (w1.alloc (.cells #[.int .i64 1, .slice (some ⟨g, o, none⟩) 1 bc] 24)) w1.heap.size 24 #[.int .i64 1, .slice (some ⟨g, o, none⟩) 1 bc]) := Blk.new w1 _ _
  clear P PR hb hB
  go_wp2_with fail
  refine PR1.out.mono ?_
  rintro e w2 ⟨rfl, hb2⟩
  have y0 : w2.cell? ⟨g, o, none⟩ = some (.slice (some ⟨g2, o2, none⟩) 2 ic) := (hb2.cell (Nat.lt_of_lt_of_le hg hba.size)).trans ((hba.cell hg).trans x0)
  have y1 : w2.cell? ⟨g2, o2, none⟩ = some (.int .i64 16) := (hb2.cell (Nat.lt_of_lt_of_le hg2 hba.size)).trans ((hba.cell hg2).trans x1)
  have HB2 : Hid (Below w.heap.size w w2) := HB1.out.trans (hb2.mono HB1.out.size)
  have hx := HX.out.below hb2 HX.out.lt
  have z0 : w2.cell? ⟨w1.heap.size, 0, none⟩ = some (.int .i64 1) := hx.cell 0
  have z1 : w2.cell? ⟨w1.heap.size, 1, none⟩ = some (.slice (some ⟨g, o, none⟩) 1 bc) := hx.cell 1
  have hs2 := hb2.size
  clear PR1 x0 x1 hb2 hx HX hba
  go_wp2
  go_ret
  exact ⟨rfl, HB2.out⟩
end Go.Proofs.YtjmdgbgjleeloaaGreatDoor
namespace Go.Proofs.YtjmdgbgjleeloaaGreatDoor
open Go.Lib Go.Shelf Go.RowKit

theorem tabIs_read {P : Program} {W : World} {name : String} {k : IntKind} {zs : List Int} {g : Nat} {t e : TypeId} {n : Nat}
    (hg : P.globalNamed name = some g) (hty : (P.globals[g]?).map (·.type) = some t) (ht : P.underlying t = some (.array n e)) (he : P.underlying e = some (.int k)) (hce : P.cellsOf e = 1) (hct : P.cellsOf t = n)
    (h : VarReads P W name (tabData k zs)) : TabIs P W name k zs := by
  obtain ⟨g', t', cs, fuel, p, hg', ht', hvar, hd⟩ := h
  obtain rfl := Option.some.inj (hg.symm.trans hg')
  obtain rfl := Option.some.inj (hty.symm.trans ht')
  unfold TabIs
  rw [hvar, ← cells_of_tab ht he hce hct hd]
def strsData {H : Type} (zs : List (List UInt8)) : DataW H := .agg (zs.map fun z => .lit (.string z))
theorem cells_of_strs {H : Type} {enc : TypeId × Value → H} {P : Program} {w : World} {base : Nat} {sp : Nat → Bool} {held : Bool} {fuel : Nat} {t e : TypeId} {n : Nat} {cs : List Value} {zs : List (List UInt8)} {p : List MemPlace}
    (ht : P.underlying t = some (.array n e)) (he : P.underlying e = some .string) (hce : P.cellsOf e = 1) (hct : P.cellsOf t = n)
    (h : DataW.trod enc P w base sp held fuel t cs = some (strsData zs, p)) : cs = zs.map fun z => Value.string ⟨z.toArray⟩ := by
  cases fuel with
  | zero => simp [DataW.trod] at h
  | succ fuel =>
    simp only [DataW.trod, ht, hce, hct, Nat.mul_one] at h
    split at h
    · rename_i hl
      obtain ⟨xs, hm, hx⟩ := Option.map_eq_some_iff.1 h
      have hxs : xs.map (·.1) = zs.map fun z => (DataW.lit (.string z) : DataW H) := by
        have := congrArg Prod.fst hx
        simpa [strsData] using this
      have hxl : xs.length = n := by simpa using mapM_length hm
      have hzl : zs.length = n := by
        have := congrArg List.length hxs
        simp at this
        omega
      apply List.ext_getElem?
      intro i
      by_cases hi : i < n
      · obtain ⟨b, hb, hf⟩ := mapM_at hm i i (by simp [hi])
        obtain ⟨z, hc, hz⟩ : ∃ z : ByteArray, (cs.drop i).take 1 = [.string z] ∧ b.1 = .lit (.string z.data.toList) := by
          cases fuel with
          | zero => simp [DataW.trod] at hf
          | succ fuel =>
            have h1 : cs[i]? = some (cs[i]'(by omega)) := List.getElem?_eq_getElem (by omega)
            have h2 : (cs.drop i).take 1 = [cs[i]'(by omega)] := by
              rw [List.drop_eq_getElem_cons (by omega)]
              rfl
            rw [h2] at hf ⊢
            generalize cs[i]'(by omega) = v at *
            simp only [DataW.trod, he] at hf
            cases v with
            | string s =>
              simp only at hf
              split at hf
              · simp only [Option.some.injEq] at hf
                exact ⟨s, rfl, by rw [← hf]⟩
              · cases hf
            | _ => simp at hf
        have h1 : cs[i]? = some (.string z) := by
          have := congrArg (·[0]?) hc
          simpa [List.getElem?_take, List.getElem?_drop] using this
        have h2 : (xs.map (·.1))[i]? = some (DataW.lit (.string z.data.toList) : DataW H) := by simp [hb, hz]
        rw [hxs] at h2
        simp only [List.getElem?_map, Option.map_eq_some_iff, DataW.lit.injEq, Lit.string.injEq] at h2
        obtain ⟨z', hz', e1⟩ := h2
        subst e1
        simp [h1, hz']
      · rw [List.getElem?_eq_none (by omega), List.getElem?_eq_none (by simp; omega)]
    · cases h
theorem strs_read {P : Program} {W : World} {name : String} {zs : List (List UInt8)} {g : Nat} {t e : TypeId} {n : Nat}
    (hg : P.globalNamed name = some g) (hty : (P.globals[g]?).map (·.type) = some t) (ht : P.underlying t = some (.array n e)) (he : P.underlying e = some .string) (hce : P.cellsOf e = 1) (hct : P.cellsOf t = n)
    (h : VarReads P W name (strsData zs)) : W.var? P name = some (zs.map fun z => Value.string ⟨z.toArray⟩).toArray := by
  obtain ⟨g', t', cs, fuel, p, hg', ht', hvar, hd⟩ := h
  obtain rfl := Option.some.inj (hg.symm.trans hg')
  obtain rfl := Option.some.inj (hty.symm.trans ht')
  rw [hvar, ← cells_of_strs ht he hce hct hd]
theorem err_read {P : Program} {W : World} {name nm : String} {d : DataW Unit} {g : Nat} {t : TypeId} {ms : _}
    (hg : P.globalNamed name = some g) (hty : (P.globals[g]?).map (·.type) = some t) (ht : P.underlying t = some (.interface ms)) (h : VarReads P W name (.iface nm d)) : ∃ u v, W.var? P name = some #[.iface u v] := by
  obtain ⟨g', t', cs, fuel, p, hg', ht', hvar, hd⟩ := h
  obtain rfl := Option.some.inj (hg.symm.trans hg')
  obtain rfl := Option.some.inj (hty.symm.trans ht')
  cases fuel with
  | zero => simp [DataW.trod] at hd
  | succ fuel =>
    simp only [DataW.trod, ht] at hd
    obtain ⟨l⟩ := cs
    cases l with
    | nil => simp at hd
    | cons x r =>
      cases r with
      | nil =>
        cases x with
        | iface u v => exact ⟨u, v, hvar⟩
        | _ => simp at hd
      | cons y r => cases x <;> simp at hd
theorem pow_dataM : (Rows.laid_internal_strconv_uint64pow10 : DataW Unit) = tabData .u64 pow10Tab := by kernel_rfl
theorem has_dataM : (Rows.laid_intarsia_mir_opHas : DataW Unit) = tabData .i64 opHasL := by kernel_rfl
theorem names_dataM : (Rows.laid_intarsia_mread_names : DataW Unit) = strsData (opNameL.map fun b => b.data.toList) := by kernel_rfl
theorem range_dataM : ∃ nm d, (Rows.laid_strconv_ErrRange : DataW Unit) = .iface nm d := ⟨_, _, rfl⟩
theorem synt_dataM : ∃ nm d, (Rows.laid_strconv_ErrSyntax : DataW Unit) = .iface nm d := ⟨_, _, rfl⟩
theorem taba_of (W : World) (l : List (String × DataW Unit)) (h : laidMet Tryz.prog l W) (h1 : ("internal/strconv.uint64pow10", Rows.laid_internal_strconv_uint64pow10) ∈ l) (h2 : ("intarsia/mir.opHas", Rows.laid_intarsia_mir_opHas) ∈ l)
    (h3 : ("intarsia/mread.names", Rows.laid_intarsia_mread_names) ∈ l) (h4 : ("strconv.ErrSyntax", Rows.laid_strconv_ErrSyntax) ∈ l) (h5 : ("strconv.ErrRange", Rows.laid_strconv_ErrRange) ∈ l) : TabA W := by
  rw [pow_dataM] at h1
  rw [has_dataM] at h2
  rw [names_dataM] at h3
  obtain ⟨n4, d4, e4⟩ := synt_dataM
  obtain ⟨n5, d5, e5⟩ := range_dataM
  rw [e4] at h4
  rw [e5] at h5
  have hg : Tryz.prog.globalNamed "intarsia/mir.opHas" = some 0 := by kernel_rfl
  have hgn : Tryz.prog.globalNamed "intarsia/mread.names" = some 1 := by kernel_rfl
  have hT : TabIs Tryz.prog W "intarsia/mir.opHas" .i64 opHasL := tabIs_read (t := 177) (e := 130) (n := 18) hg (by kernel_rfl) Tryz.underlying177 Tryz.underlying130 (by kernel_rfl) (by kernel_rfl) (laidMet.reads h h2)
  have hN := strs_read (t := 189) (e := 9) (n := 12) hgn (by kernel_rfl) Tryz.underlying189 Tryz.underlying9 (by kernel_rfl) (by kernel_rfl) (laidMet.reads h h3)
  have hP : PowW W := tabIs_read (g := 2) (n := 20) (by kernel_rfl) (t := 220) (by kernel_rfl) Tryz.underlying220 Tryz.underlying193 (by kernel_rfl) (by kernel_rfl) (laidMet.reads h h1)
  have hc : ∀ i : Nat, i < 12 → W.cell? ⟨1, i, none⟩ = some (.string (opNameL.getD i ⟨#[]⟩)) := fun i hi => by
    have h9 := World.var?_cell hgn hN i
    rw [h9]
    have : ∀ i : Nat, i < 12 → ((opNameL.map fun b => b.data.toList).map fun z => Value.string ⟨z.toArray⟩).toArray[i]? = some (.string (opNameL.getD i ⟨#[]⟩)) := by
      intro i hi
      rw [List.getElem?_toArray, List.getElem?_map, List.getElem?_map, List.getD_eq_getElem?_getD, List.getElem?_eq_getElem (show i < opNameL.length from hi)]
      rfl
    exact this i hi
  exact ⟨⟨hP, ⟨err_read (g := 6) (by kernel_rfl) (t := 85) (by kernel_rfl) Tryz.underlying85 (laidMet.reads h h4), err_read (g := 7) (by kernel_rfl) (t := 85) (by kernel_rfl) Tryz.underlying85 (laidMet.reads h h5)⟩,
    ⟨World.block_lt_of_cell? W _ (hc 0 (by decide)), hc⟩⟩, ⟨World.block_lt_of_cell? W _ (hT.cell hg 0 (by decide)), fun i hi => hT.cell hg i hi⟩⟩
end Go.Proofs.YtjmdgbgjleeloaaGreatDoor
