/-
  What a condition's list lays of tables, texts, errors, as it lies in memory. No condition beyond those that each theorem states.
  The tables that a row of read lists, as its condition lays them, are those that the contracts ask for. No condition beyond those that each theorem states.
  Texts, one behind the other with a blank between: the library's Join. Conditions: as each theorem states.
  Package read's words and rows (written by gen/rdk.py). Conditions: the library's tables hold what the library's text lays.
  A row that is appended to, beside blocks of other types. No condition beyond those that each theorem states.
-/
import Derived.Test.YthiipgahbmoiiaaGreatDoorPk9
import Derived.Lib.LaidU8
import Derived.Lib.LaidTab
import Derived.MakeChecks
import Derived.Test.YthiipgahbmoiiaaGreatDoorRows
import Derived.Test.YthiipgahbmoiiaaGreatDoorPk23
import Derived.Test.YthiipgahbmoiiaaGreatDoorPk4
import Derived.OwnWalk
import Derived.Deep.DeepMust
import Derived.Deep.RegionLaw
import Derived.Deep.CutRange
import Derived.Test.YthiipgahbmoiiaaGreatDoorPk1
namespace Go.Proofs.YthiipgahbmoiiaaGreatDoor
open Go.Lib Go.Shelf Go.RowKit

theorem tabIs_read {P : Program} {W : World} {name : String} {k : IntKind} {zs : List Int} {g : Nat} {t e : TypeId} {n : Nat}
    (hg : P.globalNamed name = some g) (hty : (P.globals[g]?).map (·.type) = some t) (ht : P.underlying t = some (.array n e)) (he : P.underlying e = some (.int k)) (hce : P.cellsOf e = 1) (hct : P.cellsOf t = n)
    (h : VarReads P W name (tabData k zs)) : TabIs P W name k zs := by
  obtain ⟨g', t', cs, fuel, p, hg', ht', hvar, hd⟩ := h
  obtain rfl := Option.some.inj (hg.symm.trans hg')
  obtain rfl := Option.some.inj (hty.symm.trans ht')
  unfold TabIs
  rw [hvar, ← cells_of_tab ht he hce hct hd]
def strsData {H : Type} (zs : List (List UInt8)) : DataW H := .agg (zs.map fun z => .lit (.string z))
theorem cells_of_strs {H : Type} {enc : TypeId × Value → H} {P : Program} {w : World} {base : Nat} {sp : Nat → Bool} {held : Bool} {fuel : Nat} {t e : TypeId} {n : Nat} {cs : List Value} {zs : List (List UInt8)} {p : List MemPlace}
    (ht : P.underlying t = some (.array n e)) (he : P.underlying e = some .string) (hce : P.cellsOf e = 1) (hct : P.cellsOf t = n)
    (h : DataW.trod enc P w base sp held fuel t cs = some (strsData zs, p)) : cs = zs.map fun z => Value.string ⟨z.toArray⟩ := by
  cases fuel with
  | zero => simp [DataW.trod] at h
  | succ fuel =>
    simp only [DataW.trod, ht, hce, hct, Nat.mul_one] at h
    split at h
    · rename_i hl
      obtain ⟨xs, hm, hx⟩ := Option.map_eq_some_iff.1 h
      have hxs : xs.map (·.1) = zs.map fun z => (DataW.lit (.string z) : DataW H) := by
        have := congrArg Prod.fst hx
        simpa [strsData] using this
      have hxl : xs.length = n := by simpa using mapM_length hm
      have hzl : zs.length = n := by
        have := congrArg List.length hxs
        simp at this
        omega
      apply List.ext_getElem?
      intro i
      by_cases hi : i < n
      · obtain ⟨b, hb, hf⟩ := mapM_at hm i i (by simp [hi])
        obtain ⟨z, hc, hz⟩ : ∃ z : ByteArray, (cs.drop i).take 1 = [.string z] ∧ b.1 = .lit (.string z.data.toList) := by
          cases fuel with
          | zero => simp [DataW.trod] at hf
          | succ fuel =>
            have h1 : cs[i]? = some (cs[i]'(by omega)) := List.getElem?_eq_getElem (by omega)
            have h2 : (cs.drop i).take 1 = [cs[i]'(by omega)] := by
              rw [List.drop_eq_getElem_cons (by omega)]
              rfl
            rw [h2] at hf ⊢
            generalize cs[i]'(by omega) = v at *
            simp only [DataW.trod, he] at hf
            cases v with
            | string s =>
              simp only at hf
              split at hf
              · simp only [Option.some.injEq] at hf
                exact ⟨s, rfl, by rw [← hf]⟩
              · cases hf
            | _ => simp at hf
        have h1 : cs[i]? = some (.string z) := by
          have := congrArg (·[0]?) hc
          simpa [List.getElem?_take, List.getElem?_drop] using this
        have h2 : (xs.map (·.1))[i]? = some (DataW.lit (.string z.data.toList) : DataW H) := by simp [hb, hz]
        rw [hxs] at h2
        simp only [List.getElem?_map, Option.map_eq_some_iff, DataW.lit.injEq, Lit.string.injEq] at h2
        obtain ⟨z', hz', e1⟩ := h2
        subst e1
        simp [h1, hz']
      · rw [List.getElem?_eq_none (by omega), List.getElem?_eq_none (by simp; omega)]
    · cases h
theorem strs_read {P : Program} {W : World} {name : String} {zs : List (List UInt8)} {g : Nat} {t e : TypeId} {n : Nat}
    (hg : P.globalNamed name = some g) (hty : (P.globals[g]?).map (·.type) = some t) (ht : P.underlying t = some (.array n e)) (he : P.underlying e = some .string) (hce : P.cellsOf e = 1) (hct : P.cellsOf t = n)
    (h : VarReads P W name (strsData zs)) : W.var? P name = some (zs.map fun z => Value.string ⟨z.toArray⟩).toArray := by
  obtain ⟨g', t', cs, fuel, p, hg', ht', hvar, hd⟩ := h
  obtain rfl := Option.some.inj (hg.symm.trans hg')
  obtain rfl := Option.some.inj (hty.symm.trans ht')
  rw [hvar, ← cells_of_strs ht he hce hct hd]
theorem err_read {P : Program} {W : World} {name nm : String} {d : DataW Unit} {g : Nat} {t : TypeId} {ms : _}
    (hg : P.globalNamed name = some g) (hty : (P.globals[g]?).map (·.type) = some t) (ht : P.underlying t = some (.interface ms)) (h : VarReads P W name (.iface nm d)) : ∃ u v, W.var? P name = some #[.iface u v] := by
  obtain ⟨g', t', cs, fuel, p, hg', ht', hvar, hd⟩ := h
  obtain rfl := Option.some.inj (hg.symm.trans hg')
  obtain rfl := Option.some.inj (hty.symm.trans ht')
  cases fuel with
  | zero => simp [DataW.trod] at hd
  | succ fuel =>
    simp only [DataW.trod, ht] at hd
    obtain ⟨l⟩ := cs
    cases l with
    | nil => simp at hd
    | cons x r =>
      cases r with
      | nil =>
        cases x with
        | iface u v => exact ⟨u, v, hvar⟩
        | _ => simp at hd
      | cons y r => cases x <;> simp at hd
end Go.Proofs.YthiipgahbmoiiaaGreatDoor
namespace Go.Proofs.YthiipgahbmoiiaaGreatDoor
open Go.Lib Go.Shelf Go.RowKit

theorem pow_dataR : (Rows.laid_internal_strconv_uint64pow10 : DataW Unit) = tabData .u64 pow10Tab := by kernel_rfl
theorem names_dataR : (Rows.laid_intarsia_read_names : DataW Unit) = strsData (opNameR.map fun b => b.data.toList) := by kernel_rfl
theorem range_dataR : ∃ nm d, (Rows.laid_strconv_ErrRange : DataW Unit) = .iface nm d := ⟨_, _, rfl⟩
theorem synt_dataR : ∃ nm d, (Rows.laid_strconv_ErrSyntax : DataW Unit) = .iface nm d := ⟨_, _, rfl⟩
theorem tabq_of (W : World) (l : List (String × DataW Unit)) (h : laidMet Tryz.prog l W) (h1 : ("internal/strconv.uint64pow10", Rows.laid_internal_strconv_uint64pow10) ∈ l)
    (h3 : ("intarsia/read.names", Rows.laid_intarsia_read_names) ∈ l) (h4 : ("strconv.ErrSyntax", Rows.laid_strconv_ErrSyntax) ∈ l) (h5 : ("strconv.ErrRange", Rows.laid_strconv_ErrRange) ∈ l) : TabQ W := by
  rw [pow_dataR] at h1
  rw [names_dataR] at h3
  obtain ⟨n4, d4, e4⟩ := synt_dataR
  obtain ⟨n5, d5, e5⟩ := range_dataR
  rw [e4] at h4
  rw [e5] at h5
  have hgn : Tryz.prog.globalNamed "intarsia/read.names" = some 0 := by kernel_rfl
  have hN := strs_read (t := 147) (e := 9) (n := 12) hgn (by kernel_rfl) Tryz.underlying147 Tryz.underlying9 (by kernel_rfl) (by kernel_rfl) (laidMet.reads h h3)
  have hP : PowW W := tabIs_read (g := 1) (n := 20) (by kernel_rfl) (t := 221) (by kernel_rfl) Tryz.underlying221 Tryz.underlying80 (by kernel_rfl) (by kernel_rfl) (laidMet.reads h h1)
  have hc : ∀ i : Nat, i < 12 → W.cell? ⟨0, i, none⟩ = some (.string (opNameR.getD i ⟨#[]⟩)) := fun i hi => by
    have h9 := World.var?_cell hgn hN i
    rw [h9]
    have : ∀ i : Nat, i < 12 → ((opNameR.map fun b => b.data.toList).map fun z => Value.string ⟨z.toArray⟩).toArray[i]? = some (.string (opNameR.getD i ⟨#[]⟩)) := by
      intro i hi
      rw [List.getElem?_toArray, List.getElem?_map, List.getElem?_map, List.getD_eq_getElem?_getD, List.getElem?_eq_getElem (show i < opNameR.length from hi)]
      rfl
    exact this i hi
  exact ⟨hP, ⟨err_read (g := 5) (by kernel_rfl) (t := 96) (by kernel_rfl) Tryz.underlying96 (laidMet.reads h h4), err_read (g := 6) (by kernel_rfl) (t := 96) (by kernel_rfl) Tryz.underlying96 (laidMet.reads h h5)⟩,
    ⟨World.block_lt_of_cell? W _ (hc 0 (by decide)), hc⟩⟩
end Go.Proofs.YthiipgahbmoiiaaGreatDoor
namespace Go.Proofs.YthiipgahbmoiiaaGreatDoor
open Go.RowKit

theorem strS_info : (Tryz.prog.info? 9).map (fun i => (i.zero, i.size, i.bytes)) = some (some (.string ⟨#[]⟩), 1, 16) := by kernel_rfl
/-- Texts that a call made. -/
def OwnS (w : World) (B : Nat) (v : Value) (l : List ByteArray) : Prop := w.ownsRow B 9 1 v l.length (l.map Value.string)
theorem OwnS.more {w2 : World} {B gg cap : Nat} {l : List ByteArray} {x : ByteArray} (h : w2.ownsRow B 9 1 (.slice (some ⟨gg, 0, none⟩) (l.length + 1) cap) (l.length + 1) (l.map Value.string ++ [.string x])) :
    OwnS w2 B (.slice (some ⟨gg, 0, none⟩) (l.length + 1) cap) (l ++ [x]) := by
  unfold OwnS
  rw [List.length_append, List.map_append]
  simpa using h
/-- Words, one blank between. -/
def joinB (xs : List ByteArray) : ByteArray := ⟨(Lib.join (xs.map (·.data.toList)) [32]).toArray⟩
theorem lens_le (xs : List ByteArray) (n : Nat) (h : ∀ x ∈ xs, x.size ≤ n) : Lib.lens (xs.map (·.data.toList)) ≤ xs.length * n := by
  induction xs with
  | nil => simp [Lib.lens]
  | cons x r ih =>
    have h1 := h x (by simp)
    have h2 := ih (fun y hy => h y (by simp [hy]))
    rw [Lib.size_eq] at h1
    simp only [Lib.lens, List.map_cons, List.sum_cons, List.length_cons] at *
    rw [Nat.add_mul]
    omega
theorem joinB_len (xs : List ByteArray) (n : Nat) (h : ∀ x ∈ xs, x.size ≤ n) : (Lib.join (xs.map (·.data.toList)) [32]).length ≤ xs.length * (n + 1) := by
  have h0 := lens_le xs n h
  cases xs with
  | nil => simp [Lib.join_nil]
  | cons x r =>
    rw [List.map_cons] at h0 ⊢
    rw [Lib.join_length, List.length_map]
    generalize Lib.lens _ = L at *
    simp only [List.length_cons, List.length_nil, Nat.add_mul, Nat.mul_add] at *
    omega
theorem joinB_any (xs : List ByteArray) (v : Value) (w : World) (B n : Nat) (hO : OwnS w B v xs) (hne : xs ≠ []) (hN : xs.length ≤ 100) (hn : n ≤ 100000) (h : ∀ x ∈ xs, x.size ≤ n) :
    Calls Tryz.prog 107 #[v, .string ⟨#[32]⟩] w fun e w' => e = .returned (.string (joinB xs)) ∧ Below w.heap.size w w' := by
  have hp : 0 < xs.length := List.length_pos_iff.2 hne
  obtain ⟨g, cap, rfl, _, hlt⟩ := World.ownsRow.form hO hp
  have hcap : xs.length ≤ cap := by
    rcases hO.2 with ⟨hv, _⟩ | ⟨g', cap', cur, hv, _, _, hle, _⟩
    · cases hv
    · injection hv with _ _ hc; omega
  have hl := joinB_len xs n h
  have hm : xs.length * (n + 1) ≤ 100 * 100001 := Nat.mul_le_mul hN (by omega)
  refine Tryz.strings_Join g 0 cap xs ⟨#[32]⟩ w (fun j x hx => ?_) hlt (by omega) hcap (by show (Lib.join (xs.map (·.data.toList)) [32]).length ≤ _; omega)
  exact hO.cells (g := g) rfl j (Value.string x) (by rw [List.getElem?_map, hx]; rfl) |>.trans rfl |> fun h2 => by
    have e : (⟨g, 0, none⟩ : Addr).add j = ⟨g, 0 + j, none⟩ := by
      unfold Addr.add
      split <;> simp_all
    rw [← e]
    exact h2
end Go.Proofs.YthiipgahbmoiiaaGreatDoor
namespace Go.Proofs.YthiipgahbmoiiaaGreatDoor
open Go.RowKit

/-- A word of a line: a text, a number, variables. -/
inductive Wq where
  | tx (s : ByteArray)
  | nm (n : Int)
  | vs (l : List Int) (a : Option Addr) (k : Nat)
def Wq.bs : Wq → List ByteArray
  | .tx s => [s]
  | .nm n => [itS n]
  | .vs l _ _ => l.map vaT
def Wq.v : Wq → Value
  | .tx s => .iface 9 (.string s)
  | .nm n => .iface 3 (.int .i64 n)
  | .vs l a k => .iface 100 (.slice a l.length k)
def R64q (n : Int) : Prop := -9223372036854775808 ≤ n ∧ n ≤ 9223372036854775807
def Wq.ok (w : World) : Wq → Prop
  | .tx s => s.size ≤ 50
  | .nm n => R64q n
  | .vs l a _ => (∀ v ∈ l, R64q v) ∧ IntsW w a l
theorem Wq.ok.below {w w' : World} {x : Wq} (h : x.ok w) (hb : Below w.heap.size w w') : x.ok w' := by
  cases x with
  | tx s => exact h
  | nm n => exact h
  | vs l a k => exact ⟨h.1, h.2.below hb⟩
theorem vaT_len (n : Int) (h : R64q n) : (vaT n).size ≤ 50 := by
  have := itS_len n h.1 h.2
  unfold vaT
  rw [ByteArray.size_append]
  show 1 + _ ≤ _
  omega
theorem Wq.len {w : World} {x : Wq} (h : x.ok w) : ∀ b ∈ x.bs, b.size ≤ 50 := by
  intro b hb
  cases x with
  | tx s => simp only [Wq.bs, List.mem_singleton] at hb; subst hb; exact h
  | nm n => simp only [Wq.bs, List.mem_singleton] at hb; subst hb; have := itS_len n h.1 h.2; omega
  | vs l a k =>
    simp only [Wq.bs, List.mem_map] at hb
    obtain ⟨v, hv, rfl⟩ := hb
    exact vaT_len v (h.1 v hv)
def rowQ (l : List Wq) : ByteArray := joinB (l.flatMap Wq.bs) ++ ⟨#[10]⟩
/-- Words in memory. -/
def WoQ (w : World) (a : Option Addr) (l : List Wq) : Prop := ∀ (k : Nat) (x : Wq), l[k]? = some x → ∃ g o, a = some ⟨g, o, none⟩ ∧ g < w.heap.size ∧ w.cell? ⟨g, o + k, none⟩ = some x.v
theorem WoQ.below {w w' : World} {a : Option Addr} {l : List Wq} (h : WoQ w a l) (hb : Below w.heap.size w w') : WoQ w' a l := fun k x hx => by
  obtain ⟨g, o, ha, hg, hc⟩ := h k x hx
  exact ⟨g, o, ha, Nat.lt_of_lt_of_le hg hb.size, (hb.cell hg).trans hc⟩
theorem as_ss (t : ByteArray) (W : World) : (Instr.typeAssert (.iface 9 (.string t)) 20 9 true).run Tryz.prog W = .ok (.tuple #[.string t, .bool true]) W := by kernel_rfl
theorem as_sn (n : Int) (W : World) : (Instr.typeAssert (.iface 3 (.int .i64 n)) 20 9 true).run Tryz.prog W = .ok (.tuple #[.string ⟨#[]⟩, .bool false]) W := by kernel_rfl
theorem as_sv (a : Option Addr) (n k : Nat) (W : World) : (Instr.typeAssert (.iface 100 (.slice a n k)) 20 9 true).run Tryz.prog W = .ok (.tuple #[.string ⟨#[]⟩, .bool false]) W := by kernel_rfl
theorem as_nn (n : Int) (W : World) : (Instr.typeAssert (.iface 3 (.int .i64 n)) 20 3 true).run Tryz.prog W = .ok (.tuple #[.int .i64 n, .bool true]) W := by kernel_rfl
theorem as_nv (a : Option Addr) (n k : Nat) (W : World) : (Instr.typeAssert (.iface 100 (.slice a n k)) 20 3 true).run Tryz.prog W = .ok (.tuple #[.int .i64 0, .bool false]) W := by kernel_rfl
theorem as_vv (a : Option Addr) (n k : Nat) (W : World) : (Instr.typeAssert (.iface 100 (.slice a n k)) 20 100 true).run Tryz.prog W = .ok (.tuple #[.slice a n k, .bool true]) W := by kernel_rfl
theorem more_own {w5 : World} {B gg cap j : Nat} {xs : List ByteArray} {x : ByteArray} (hj : xs.length = j) (h : w5.ownsRow B 9 1 (.slice (some ⟨gg, 0, none⟩) (j + 1) cap) (j + 1) (xs.map Value.string ++ [.string x])) : OwnS w5 B (.slice (some ⟨gg, 0, none⟩) (j + 1) cap) (xs ++ [x]) := by
  subst hj
  exact OwnS.more h
set_option maxHeartbeats 8000000 in
set_option maxRecDepth 100000 in
theorem rowQ_any (l : List Wq) (a : Option Addr) (c : Nat) (w : World) (hne : l.flatMap Wq.bs ≠ []) (hl2 : l.length ≤ 10) (hn : (l.flatMap Wq.bs).length ≤ 100) (hx : ∀ x ∈ l, x.ok w) (hI : WoQ w a l) (hP : PowW w) :
    Calls Tryz.prog 61 #[.slice a l.length c] w fun e w' => e = .returned (.string (rowQ l)) ∧ Below w.heap.size w w' := by
  obtain ⟨i0, hi0, hz0, hz1, hz2⟩ := info_parts strS_info
  have HI := Lib.hid hI
  have HX := Lib.hid hx
  have HP := Lib.hid hP
  have HNE := Lib.hid hne
  have HN : Hid ((l.flatMap Wq.bs).length ≤ 100) := hn
  clear hI hx hP hne hn
  go_enter Tryz.func61, Tryz.ntmps61
  go_wp2
  go_loopw [3, 13] (fun v k wr => ∃ (j n : Nat) (b : Option Addr) (d : Nat), v = .slice b n d ∧ k = .int .i64 j ∧ j ≤ l.length ∧ Hid (((l.take j).flatMap Wq.bs).length = n) ∧ OwnS wr w.heap.size v ((l.take j).flatMap Wq.bs) ∧ Below w.heap.size w wr) (fun _ k _ => l.length - (intOf k).toNat)
  case atStart => exact ⟨0, 0, none, 0, rfl, rfl, by omega, rfl, World.ownsRow_nil _ _ _ _, Below.refl _ _⟩
  case round =>
    obtain ⟨j, n, b, d, rfl, rfl, hj, HLX, hO, hB⟩ := hrel
    have HO := Lib.hid hO
    have HB := Lib.hid hB
    clear hO hB
    by_cases hlt : j < l.length
    · obtain ⟨x, hxj⟩ : ∃ x, l[j]? = some x := ⟨l[j], List.getElem?_eq_getElem hlt⟩
      have hx0 := (HX.out x (List.mem_of_getElem? hxj)).below HB.out
      obtain ⟨g, o, rfl, hg, hc⟩ := (HI.out.below HB.out) j x hxj
      have HE : Hid ((l.take (j + 1)).flatMap Wq.bs = (l.take j).flatMap Wq.bs ++ x.bs) := by
        show _ = _
        rw [List.take_add_one, hxj]
        simp
      have hn2 : n + x.bs.length ≤ 100 := by
        have h1 : ((l.take (j + 1)).flatMap Wq.bs).length ≤ (l.flatMap Wq.bs).length := by
          have h2 : l.flatMap Wq.bs = (l.take (j + 1)).flatMap Wq.bs ++ (l.drop (j + 1)).flatMap Wq.bs := by rw [← List.flatMap_append, List.take_append_drop]
          rw [h2, List.length_append]
          omega
        rw [HE.out, List.length_append, HLX.out] at h1
        have := HN.out
        omega
      have hs := HB.out.size
      have hlt' : (j : Int) < l.length := by omega
      have hj0 : (0 : Int) ≤ j := by omega
      generalize (l.take j).flatMap Wq.bs = xs at *
      cases x with
      | tx t =>
        have e0 := as_ss t
        have hbs : (Wq.tx t).bs = [t] := rfl
        rw [hbs] at HE hn2
        rw [show (Wq.tx t).v = .iface 9 (.string t) from rfl] at hc
        rw [List.length_singleton] at hn2
        clear hx0 hbs
        go_upto_region 8 with fail
        clear hc hg
        have HO1 : Hid (wr.ownsRow w.heap.size 9 1 (.slice b n d) n (xs.map Value.string)) := by
          have h1 := HO.out
          unfold OwnS at h1
          rw [HLX.out] at h1
          exact h1
        have hs1 := HB.out.size
        go_wp2_with (at_builtin; go_must (refine wpList_append_lies _ rfl _ _ _ rfl w.heap.size 9 i0 _ 1 16 Tryz.underlying37 hi0 hz0 hz1 hz2 rfl (by omega) (.slice b n d) n (xs.map Value.string) rfl (World.ownsRow.alloc HO1.out _) ⟨wr.heap.size, 0, none⟩ 1 1 [.string t] rfl rfl (World.news_of_block (heap_alloc_new wr _)) (by simp [Value.oneCell']) (by omega) (by simp only [maxLen]; omega) (by omega) (by simp; omega) (wr.heap.size + 1) (by simp) ?_; intro gg cap5 w5 hown5 hgrow hat hlt5))
        have HO5 := Lib.hid (more_own HLX.out hown5)
        have HB5 : Hid (Below w.heap.size w w5) := (HB.out.alloc (by omega) _).grown hgrow (by simp; omega) (fun k hk => (HO1.out.lt k hk).1)
        clear hown5 hgrow hat hlt5
        go_wp2
        go_roundw
        case rel => exact ⟨j + 1, n + 1, some ⟨gg, 0, none⟩, cap5, rfl, by go_num, by omega, by show _ = _; rw [HE.out, List.length_append, HLX.out]; rfl, by rw [HE.out]; exact HO5.out, HB5.out⟩
        case measure => simp [intOf]; omega
      | nm m =>
        have e0 := as_sn m
        have e1 := as_nn m
        have hbs : (Wq.nm m).bs = [itS m] := rfl
        rw [hbs] at HE hn2
        rw [show (Wq.nm m).v = .iface 3 (.int .i64 m) from rfl] at hc
        rw [List.length_singleton] at hn2
        have I := Lib.hid (itoaP_any m wr (HP.out.below HB.out) hx0.1 hx0.2)
        clear hx0 hbs
        generalize itS m = t at *
        go_wp2_with fail
        refine I.out.mono ?_
        rintro e w1 ⟨rfl, hb1⟩
        have HB1 : Hid (Below w.heap.size w w1) := HB.out.trans (hb1.mono HB.out.size)
        have HO9 : Hid (OwnS w1 w.heap.size (.slice b n d) xs) := own_keep HO.out ⟨hb1.size, fun k _ hk => hb1.block k hk⟩
        clear hb1 I HO HB hc hg
        have HO1 : Hid (w1.ownsRow w.heap.size 9 1 (.slice b n d) n (xs.map Value.string)) := by
          have h1 := HO9.out
          unfold OwnS at h1
          rw [HLX.out] at h1
          exact h1
        have hs1 := HB1.out.size
        go_wp2_with (at_builtin; go_must (refine wpList_append_lies _ rfl _ _ _ rfl w.heap.size 9 i0 _ 1 16 Tryz.underlying37 hi0 hz0 hz1 hz2 rfl (by omega) (.slice b n d) n (xs.map Value.string) rfl (World.ownsRow.alloc HO1.out _) ⟨w1.heap.size, 0, none⟩ 1 1 [.string t] rfl rfl (World.news_of_block (heap_alloc_new w1 _)) (by simp [Value.oneCell']) (by omega) (by simp only [maxLen]; omega) (by omega) (by simp; omega) (w1.heap.size + 1) (by simp) ?_; intro gg cap5 w5 hown5 hgrow hat hlt5))
        have HO5 := Lib.hid (more_own HLX.out hown5)
        have HB5 : Hid (Below w.heap.size w w5) := (HB1.out.alloc (by omega) _).grown hgrow (by simp; omega) (fun k hk => (HO1.out.lt k hk).1)
        clear hown5 hgrow hat hlt5
        go_wp2
        go_roundw
        case rel => exact ⟨j + 1, n + 1, some ⟨gg, 0, none⟩, cap5, rfl, by go_num, by omega, by show _ = _; rw [HE.out, List.length_append, HLX.out]; rfl, by rw [HE.out]; exact HO5.out, HB5.out⟩
        case measure => simp [intOf]; omega
      | vs m va vk =>
        have e0 := as_sv va m.length vk
        have e1 := as_nv va m.length vk
        have e2 := as_vv va m.length vk
        have hbs : (Wq.vs m va vk).bs = m.map vaT := rfl
        rw [hbs] at HE hn2
        rw [show (Wq.vs m va vk).v = .iface 100 (.slice va m.length vk) from rfl] at hc
        rw [List.length_map] at hn2
        have hxw := HX.out _ (List.mem_of_getElem? hxj)
        have HM : Hid ((∀ v ∈ m, R64q v) ∧ ∀ W, Below w.heap.size w W → IntsW W va m) := ⟨hxw.1, fun W h => hxw.2.below h⟩
        clear hx0 hbs hxw
        go_wp2
        have HLX0 := Lib.hid HLX.out
        clear hc hg
        go_loopw [3, 38] (fun v k wx => ∃ (i n2 : Nat) (b2 : Option Addr) (d2 : Nat), v = .slice b2 n2 d2 ∧ k = .int .i64 i ∧ i ≤ m.length ∧ Hid ((xs ++ (m.take i).map vaT).length = n2) ∧ OwnS wx w.heap.size v (xs ++ (m.take i).map vaT) ∧ Below w.heap.size w wx) (fun _ k _ => m.length - (intOf k).toNat)
        case atStart => exact ⟨0, n, b, d, rfl, rfl, by omega, by show _ = _; simpa using HLX0.out, by simpa using HO.out, HB.out⟩
        case round =>
          obtain ⟨i, n2, b2, d2, rfl, rfl, hi, HLY, hO, hB⟩ := hrel
          clear HO HB HLX
          have HO := Lib.hid hO
          have HB := Lib.hid hB
          clear hO hB
          have hn3 : n2 ≤ n + i := by
            have := HLY.out
            rw [List.length_append, List.length_map, List.length_take, HLX0.out] at this
            omega
          by_cases him : i < m.length
          · obtain ⟨v, hvi⟩ : ∃ v, m[i]? = some v := ⟨m[i], List.getElem?_eq_getElem him⟩
            have hv := HM.out.1 v (List.mem_of_getElem? hvi)
            obtain ⟨g, o, rfl, hg, hc⟩ := HM.out.2 wr HB.out i v hvi
            have WR := Lib.hid (written_any v wr (HP.out.below HB.out) hv.1 hv.2)
            have HF : Hid (xs ++ (m.take (i + 1)).map vaT = xs ++ (m.take i).map vaT ++ [vaT v]) := by
              show _ = _
              rw [List.take_add_one, hvi]
              simp
            have him' : (i : Int) < m.length := by omega
            have hii0 : (0 : Int) ≤ i := by omega
            clear hv hvi
            generalize xs ++ (m.take i).map vaT = ys at *
            generalize vaT v = t at *
            have HLX := HLY
            go_wp2_with fail
            refine WR.out.mono ?_
            rintro e w1 ⟨rfl, hb1⟩
            have HB1 : Hid (Below w.heap.size w w1) := HB.out.trans (hb1.mono HB.out.size)
            have HO9 : Hid (OwnS w1 w.heap.size (.slice b2 n2 d2) ys) := own_keep HO.out ⟨hb1.size, fun k _ hk => hb1.block k hk⟩
            clear hb1 WR HO HB hc hg
            have HO1 : Hid (w1.ownsRow w.heap.size 9 1 (.slice b2 n2 d2) n2 (ys.map Value.string)) := by
              have h1 := HO9.out
              unfold OwnS at h1
              rw [HLX.out] at h1
              exact h1
            have hs1 := HB1.out.size
            go_wp2_with (at_builtin; go_must (refine wpList_append_lies _ rfl _ _ _ rfl w.heap.size 9 i0 _ 1 16 Tryz.underlying37 hi0 hz0 hz1 hz2 rfl (by omega) (.slice b2 n2 d2) n2 (ys.map Value.string) rfl (World.ownsRow.alloc HO1.out _) ⟨w1.heap.size, 0, none⟩ 1 1 [.string t] rfl rfl (World.news_of_block (heap_alloc_new w1 _)) (by simp [Value.oneCell']) (by omega) (by simp only [maxLen]; omega) (by omega) (by simp; omega) (w1.heap.size + 1) (by simp) ?_; intro gg cap5 w5 hown5 hgrow hat hlt5))
            have HO5 := Lib.hid (more_own HLX.out hown5)
            have HB5 : Hid (Below w.heap.size w w5) := (HB1.out.alloc (by omega) _).grown hgrow (by simp; omega) (fun k hk => (HO1.out.lt k hk).1)
            clear hown5 hgrow hat hlt5
            go_wp2
            go_roundw
            case rel => exact ⟨i + 1, n2 + 1, some ⟨gg, 0, none⟩, cap5, rfl, by go_num, by omega, by show _ = _; rw [HF.out, List.length_append, HLX.out]; rfl, by rw [HF.out]; exact HO5.out, HB5.out⟩
            case measure => simp [intOf]; omega
          · obtain rfl : i = m.length := by omega
            have hall : m.take m.length = m := List.take_of_length_le (Nat.le_refl _)
            rw [hall] at HLY HO
            go_wp2
            go_roundw
            case rel => exact ⟨j + 1, n2, b2, d2, rfl, by go_num, by omega, by show _ = _; rw [HE.out]; exact HLY.out, by rw [HE.out]; exact HO.out, HB.out⟩
            case measure => simp [intOf]; omega
    · obtain rfl : j = l.length := by omega
      have hall : l.take l.length = l := List.take_of_length_le (Nat.le_refl _)
      rw [hall] at HLX HO
      have hsz : ∀ y ∈ l.flatMap Wq.bs, y.size ≤ 50 := fun y hy => by
        obtain ⟨x, hx, hyx⟩ := List.mem_flatMap.1 hy
        exact Wq.len (HX.out x hx) y hyx
      have HLN : Hid ((joinB (l.flatMap Wq.bs)).size + 1 ≤ 9223372036854775807) := by
        have h1 := joinB_len (l.flatMap Wq.bs) 50 hsz
        show (Lib.join ((l.flatMap Wq.bs).map (·.data.toList)) [32]).toArray.size + 1 ≤ _
        rw [List.size_toArray]
        have := HN.out
        have : (l.flatMap Wq.bs).length * (50 + 1) ≤ 100 * 51 := Nat.mul_le_mul HN.out (Nat.le_refl _)
        omega
      have HJ := Lib.hid (joinB_any (l.flatMap Wq.bs) _ wr w.heap.size 50 HO.out HNE.out HN.out (by omega) hsz)
      have HQ : Hid (rowQ l = joinB (l.flatMap Wq.bs) ++ ⟨#[10]⟩) := rfl
      clear hall hsz HO HX HI
      generalize joinB (l.flatMap Wq.bs) = q at *
      have hln := HLN.out
      obtain ⟨r, hr, hqr⟩ : ∃ r : ByteArray, (∀ w, (Op.stringOp .add q ⟨#[10]⟩).run Tryz.prog w = .ok (.string r) w) ∧ Hid (q ++ ⟨#[10]⟩ = r) := ⟨_, fun w => run_string_add_sum w q ⟨#[10]⟩ (by show q.size + 1 ≤ _; omega), rfl⟩
      go_wp2_with fail
      refine HJ.out.mono ?_
      rintro e w1 ⟨rfl, hb⟩
      have HB1 : Hid (Below w.heap.size w w1) := HB.out.trans (hb.mono HB.out.size)
      clear hb
      go_wp2
      go_ret
      exact ⟨by rw [HQ.out, hqr.out]; rfl, HB1.out⟩
end Go.Proofs.YthiipgahbmoiiaaGreatDoor
namespace Go.Proofs.YthiipgahbmoiiaaGreatDoor
open Go.RowKit

theorem own_ne {w : World} {B : Nat} {e t : TypeId} {sz n g : Nat} {v : Value} {xs : List Value} {cs : Array Value} (h : w.ownsRow B e sz v n xs) (hb : Blk w g t cs) (ht : e ≠ t) : some g ≠ v.ownBlock := fun e' => by
  obtain ⟨_, h2⟩ := h
  rcases h2 with ⟨h2, _⟩ | ⟨q, cap, cur, e2, _, hh, _⟩
  · rw [h2] at e'; simp [Value.ownBlock] at e'
  · rw [e2] at e'
    simp only [Value.ownBlock, Option.some.injEq] at e'
    subst e'
    unfold Blk at hb
    rw [hb] at hh
    simp only [Option.some.injEq, Obj.cells.injEq] at hh
    exact ht hh.2.1.symm
theorem own_kept {w w' : World} {B sz n g : Nat} {e t : TypeId} {v : Value} {xs : List Value} {cs : Array Value} (h : w.ownsRow B e sz v n xs) (k : Keep w.heap.size g w w') (hg : Blk w g t cs) (ht : e ≠ t) : w'.ownsRow B e sz v n xs := by
  have hf := own_ne h hg ht
  obtain ⟨h1, h2⟩ := h
  refine ⟨h1, ?_⟩
  rcases h2 with h2 | ⟨q, cap, cur, rfl, hq, hh, r⟩
  · exact .inl h2
  · have hne : q ≠ g := fun e => hf (by simp [Value.ownBlock, e])
    exact .inr ⟨q, cap, cur, rfl, hq, by rw [k.block q (Array.getElem?_eq_some_iff.1 hh).1 hne]; exact hh, r⟩
theorem own_grown {w w' : World} {B sz n : Nat} {e : TypeId} {v : Value} {xs : List Value} {row : Option Nat} (h : w.ownsRow B e sz v n xs) (hb : w.grownBy w' row) (hr : ∀ k cs, Blk w k e cs → some k ≠ row) : w'.ownsRow B e sz v n xs := by
  obtain ⟨h1, h2⟩ := h
  refine ⟨h1, ?_⟩
  rcases h2 with h2 | ⟨q, cap, cur, rfl, hq, hh, r⟩
  · exact .inl h2
  · exact .inr ⟨q, cap, cur, rfl, hq, by rw [hb.block q (Array.getElem?_eq_some_iff.1 hh).1 (hr q _ hh)]; exact hh, r⟩
end Go.Proofs.YthiipgahbmoiiaaGreatDoor
