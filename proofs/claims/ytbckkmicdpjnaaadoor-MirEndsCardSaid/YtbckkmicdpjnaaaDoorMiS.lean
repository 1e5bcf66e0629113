/-
  What an instruction of a target reads, by the document; whether rows of places are the same. No condition beyond those that each theorem states.
-/
import Derived.Test.YtbckkmicdpjnaaaDoorMiR
import Derived.Test.YtbckkmicdpjnaaaDoorMiH
import Derived.Test.YtbckkmicdpjnaaaDoorIrQa
import Derived.Deep.Cut
import Derived.Deep.CutRange
namespace Go.Proofs.YtbckkmicdpjnaaaDoor
open Go.RowKit

def d1L (x : Ii) : List Ll := if hasB x.op 2 then [regL x.a] else []
def d2L (x : Ii) : List Ll := d1L x ++ (if hasB x.op 4 then [regL x.b] else [])
def d3L (x : Ii) : List Ll := d2L x ++ (if x.op = 17 then [(true, x.imm)] else [])
def d4L (m : Mm) (x : Ii) : List Ll := if hasB x.op 64 then (m.args.take (manyT m x).toNat).map regL else d3L x
theorem reads_doc (m : Mm) (x : Ii) : readsT m x = d4L m x := by
  unfold readsT d4L d3L d2L d1L
  rcases op_cases x.op with ⟨h, hk⟩ | h | h | h | h | h | h | h | h | h | h | h | h | h | h | h | h
  · rw [hk, hk, hk, hk]
    by_cases h16 : x.op = 17
    · rw [h16] at h
      exact absurd h (by decide)
    · simp [h16]
  all_goals (rw [h]; rfl)
/-- Of a call there is nothing else. -/
theorem call_alone {x : Ii} (h : hasB x.op 64 = true) : hasB x.op 2 = false ∧ hasB x.op 4 = false ∧ ¬ x.op = 17 := by
  rcases op_cases x.op with ⟨_, hk⟩ | h1 | h1 | h1 | h1 | h1 | h1 | h1 | h1 | h1 | h1 | h1 | h1 | h1 | h1 | h1 | h1
  · rw [hk] at h; cases h
  all_goals (rw [h1] at h ⊢; first | (exact absurd h (by decide)) | decide)
/-- One place more. -/
theorem loc_more {w : World} {B gg cap : Nat} {l : List Ll} {x : Ll} (h : w.ownsRow B 65 2 (.slice (some ⟨gg, 0, none⟩) (l.length + 1) cap) (l.length + 1) (l.flatMap locC ++ locC x)) :
    OwnL w B (.slice (some ⟨gg, 0, none⟩) (l.length + 1) cap) (l ++ [x]) := by
  unfold OwnL
  rw [List.flatMap_append, List.length_append]
  simpa using h
/-- A place in a box of its own, appended. -/
theorem wpList_append_loc {ops : Array Oper} {rest : List Oper} {o : Oper} {a : Act} {W : World} {Q : Exit → Act → World → Prop} (hgd : o.guard = none) (s x : Operand)
    (ho : o.op = .call { callee := .builtin .append, args := #[s, x], argTypes := #[46, 46] }) (base g : Nat) (v : Value) (l : List Ll) (y : Ll) (hs : a.eval s = v) (hown : OwnL W base v l)
    (hx : a.eval x = .slice (some ⟨g, 0, none⟩) 1 1) (hy : Blk W g 65 (locC y).toArray) (hb : l.length ≤ 2000000) (hbase : base ≤ W.heap.size)
    (h : ∀ gg cap w', OwnL w' base (.slice (some ⟨gg, 0, none⟩) (l.length + 1) cap) (l ++ [y]) → Below base W w' → (∀ t, 65 ≠ t → KeepT W w' t) → wpList Tryd.prog ops Q rest (a.put o.dst (.slice (some ⟨gg, 0, none⟩) (l.length + 1) cap)) w') : wpList Tryd.prog ops Q (o :: rest) a W := by
  obtain ⟨i0, hi0, hz0, hz1, hz2⟩ := info_parts loc_info
  refine wpList_append_lies W hgd s x _ ho base 65 i0 _ 2 16 Tryd.underlying46 hi0 hz0 hz1 hz2 rfl (by omega) v l.length (l.flatMap locC) hs hown ⟨g, 0, none⟩ 1 1 (locC y) hx rfl (World.news_of_block hy) (loc_one _) (by omega) (by simp only [maxLen]; omega) (by omega) hbase _ rfl ?_
  intro gg cap w4 hown4 hgrow4 _ _
  exact h gg cap w4 (loc_more hown4) ((Below.refl base W).grown hgrow4 hbase (fun k hk => (World.ownsRow.lt hown k hk).1)) (fun t ht => KeepT.grown hown hgrow4 ht)
theorem TwoM.keep {w W W' : World} {m : Mm} {aa sa : Option Addr} {ac sc : Nat} {x : Ii} {a : Option Addr} {c : Nat} (h : TwoM w W m aa sa ac sc x a c) (hb : Below w.heap.size W W') (hk : ∀ t, 65 ≠ t → KeepT W W' t) : TwoM w W' m aa sa ac sc x a c :=
  ⟨hk _ (by decide) _ _ h.mc, hk _ (by decide) _ _ h.ix, h.be.trans hb⟩
set_option maxHeartbeats 8000000 in
set_option maxRecDepth 100000 in
theorem reads6_any (m : Mm) (aa sa : Option Addr) (ac sc : Nat) (x : Ii) (a : Option Addr) (c : Nat) (w : World) (hl : m.args.length ≤ 1000000) (hM : IntsW w aa m.args) :
    Calls Tryd.prog 13 #[machV m aa ac sa sc, insV x a c] w fun e w' => ∃ v, e = .returned v ∧ OwnL w' w.heap.size v (readsT m x) ∧ Below w.heap.size w w' := by
  have HT := Lib.hid (TwoM.new w m aa sa ac sc x a c)
  have HE := Lib.hid (reads_doc m x)
  have HCA := Lib.hid (fun h => call_alone (x := x) h)
  have HH := Lib.hid (fun W => has6_any x.op W)
  have L := let_g x.op
  have I97 := Lib.hid (fun W => in6_any (hasG x.op) 97 W (hasG_small _))
  have I98 := Lib.hid (fun W => in6_any (hasG x.op) 98 W (hasG_small _))
  have HCC := Lib.hid L.c
  rw [L.a] at I97
  rw [L.b] at I98
  have HM := Lib.hid (maxC.eq_1 m aa ac sa sc)
  have HC := Lib.hid (insC.eq_1 x a c)
  have HI := Lib.hid hM
  rw [HM.out, HC.out] at HT
  unfold d4L d3L d2L d1L at HE
  generalize hasG x.op = h at *
  generalize hasB x.op 2 = t2 at *
  generalize hasB x.op 4 = t4 at *
  generalize hasB x.op 64 = t64 at *
  clear L hM
  obtain ⟨l1, hl1⟩ : ∃ l, l = if t2 = true then [regL x.a] else [] := ⟨_, rfl⟩
  obtain ⟨l2, hl2⟩ : ∃ l, l = l1 ++ if t4 = true then [regL x.b] else [] := ⟨_, rfl⟩
  obtain ⟨l3, hl3⟩ : ∃ l, l = l2 ++ if x.op = 17 then [((true, x.imm) : Ll)] else [] := ⟨_, rfl⟩
  have HE2 : Hid (readsT m x = if t64 = true then (m.args.take (manyT m x).toNat).map regL else l3) := by
    show _ = _
    rw [HE.out, hl3, hl2, hl1]
  have HN3 : Hid (t64 = true → l3 = []) := Lib.hid fun h => by
    obtain ⟨h1, h2, h3⟩ := HCA.out h
    rw [hl3, hl2, hl1, h1, h2, if_neg h3]
    rfl
  have HL1 := Lib.hid hl1
  have HL2 := Lib.hid hl2
  have HL3 := Lib.hid hl3
  have hn1 : l1.length ≤ 1 := by rw [hl1]; split <;> simp
  have hn2 : l2.length ≤ 2 := by rw [hl2]; split <;> simp <;> omega
  clear HE hl1 hl2 hl3 HCA
  unfold machV insV
  rw [HM.out]
  go_enter Tryd.func13, Tryd.ntmps13
  go_wp2_with fail
  refine (HH.out _).mono ?_
  rintro e w1 ⟨rfl, rfl⟩
  go_wp2_with fail
  refine (I97.out _).mono ?_
  rintro e w1 ⟨rfl, rfl⟩
  go_upto_if 12 with fail
  go_cut [6] from 13 to 18 (fun v W => OwnL W w.heap.size v l1 ∧ TwoM w W m aa sa ac sc x a c)
  case first =>
    cases t2
    · rw [if_neg (by decide)] at HL1
      go_wp2_with fail
      go_meet
      exact ⟨by rw [HL1.out]; exact OwnL.none _ _, HT.out⟩
    · rw [if_pos rfl] at HL1
      go_wp2_with fail
      refine (reg6_any x.a _).mono ?_
      rintro e w2 ⟨rfl, hb⟩
      have HT2 := Lib.hid ((HT.out.below hb).alloc (.cells (locC (regL x.a)).toArray 65))
      clear hb
      go_wp2_with (at_builtin; go_must (refine wpList_append_loc rfl _ _ rfl w.heap.size w2.heap.size _ [] (regL x.a) rfl (OwnL.none _ _) rfl (Blk.new _ _ _) (by simp) HT2.out.be.size ?_; intro gg cap w4 ho4 hb4 hk4))
      have HT4 := Lib.hid (HT2.out.keep hb4 hk4)
      have HO4 := Lib.hid ho4
      clear hb4 hk4 ho4
      go_meet
      exact ⟨by rw [HL1.out]; exact HO4.out, HT4.out⟩
  case rest =>
    obtain ⟨hO, hT⟩ := hcut
    clear HT HL1 I97
    have HT := Lib.hid hT
    have HO := Lib.hid hO
    clear hT hO
    go_wp2_with fail
    refine (I98.out _).mono ?_
    rintro e w1 ⟨rfl, rfl⟩
    obtain ⟨d0, d1, d2, d3, d4, d5, d6, d7⟩ := box8 HT.out.ix
    go_upto_if 20 with fail
    go_cut [6] from 21 to 26 (fun v W => OwnL W w.heap.size v l2 ∧ TwoM w W m aa sa ac sc x a c)
    case first =>
      cases t4
      · rw [if_neg (by decide), List.append_nil] at HL2
        go_wp2_with fail
        go_meet
        exact ⟨by rw [HL2.out]; exact HO.out, HT.out⟩
      · rw [if_pos rfl] at HL2
        go_wp2_with fail
        refine (reg6_any x.b _).mono ?_
        rintro e w2 ⟨rfl, hb⟩
        have HT2 := Lib.hid ((HT.out.below hb).alloc (.cells (locC (regL x.b)).toArray 65))
        have HO2 : Hid (OwnL (w2.alloc (.cells (locC (regL x.b)).toArray 65)) w.heap.size u6 l1) := Lib.hid (World.ownsRow.alloc (own_keepT HO.out (KeepT.below hb _)) _)
        clear hb d0 d1 d2 d3 d4 d5 d6 d7
        go_wp2_with (at_builtin; go_must (refine wpList_append_loc rfl _ _ rfl w.heap.size w2.heap.size _ l1 (regL x.b) rfl HO2.out rfl (Blk.new _ _ _) (by omega) HT2.out.be.size ?_; intro gg cap w4 ho4 hb4 hk4))
        have HT4 := Lib.hid (HT2.out.keep hb4 hk4)
        have HO4 := Lib.hid ho4
        clear hb4 hk4 ho4
        go_meet
        exact ⟨by rw [HL2.out]; exact HO4.out, HT4.out⟩
    case rest =>
      obtain ⟨hO, hT⟩ := hcut
      clear HT HO HL2 I98 d0 d1 d2 d3 d4 d5 d6 d7
      have HT := Lib.hid hT
      have HO := Lib.hid hO
      clear hT hO
      obtain ⟨d0, d1, d2, d3, d4, d5, d6, d7⟩ := box8 HT.out.ix
      obtain ⟨b17, hb17⟩ : ∃ b, (x.op == 17) = b := ⟨_, rfl⟩
      go_upto_if 29 with fail
      go_cut [6] from 30 to 35 (fun v W => OwnL W w.heap.size v l3 ∧ TwoM w W m aa sa ac sc x a c)
      case first =>
        cases b17
        case false =>
          have h17 : ¬ x.op = 17 := by simpa using hb17
          rw [if_neg h17, List.append_nil] at HL3
          clear h17
          go_wp2_with fail
          go_meet
          exact ⟨by rw [HL3.out]; exact HO.out, HT.out⟩
        have h17 : x.op = 17 := by simpa using hb17
        rw [if_pos h17] at HL3
        clear h17
        have HT2 := Lib.hid (HT.out.alloc (.cells (locC ((true, x.imm) : Ll)).toArray 65))
        have HO2 := Lib.hid (World.ownsRow.alloc HO.out (.cells (locC ((true, x.imm) : Ll)).toArray 65))
        go_wp2_with (at_builtin; go_must (refine wpList_append_loc rfl _ _ rfl w.heap.size _ _ l2 (true, x.imm) rfl HO2.out rfl (Blk.new _ _ _) (by omega) HT2.out.be.size ?_; intro gg cap w4 ho4 hb4 hk4))
        have HT4 := Lib.hid (HT2.out.keep hb4 hk4)
        have HO4 := Lib.hid ho4
        clear hb4 hk4 ho4
        go_meet
        exact ⟨by rw [HL3.out]; exact HO4.out, HT4.out⟩
      case rest =>
        obtain ⟨hO, hT⟩ := hcut
        clear HT HO HL3 d0 d1 d2 d3 d4 d5 d6 d7 hn1 hn2
        have HT := Lib.hid hT
        have HO := Lib.hid hO
        clear hT hO
        cases t64
        case false =>
          rw [if_neg (by decide)] at HE2
          have hc : ¬ h = ⟨#[99]⟩ := fun e => by have := HCC.out.2 e; cases this
          have hc3 := bytes_c hc
          clear HN3
          go_wp2
          go_loopw [6, 7] (fun v k wr => ∃ u : Value, u = v ∧ k = .int .i64 0 ∧ OwnL wr w.heap.size v l3 ∧ Below w.heap.size w wr) (fun _ _ _ => 0)
          case atStart => exact ⟨_, rfl, rfl, HO.out, HT.out.be⟩
          case round =>
            obtain ⟨v, rfl, rfl, hO, hB⟩ := hrel
            have HO5 := Lib.hid hO
            have HB5 := Lib.hid hB
            clear hO hB
            go_wp2
            go_ret
            exact ⟨_, rfl, by rw [HE2.out]; exact HO5.out, HB5.out⟩
        case true =>
          rw [if_pos rfl] at HE2
          have hc : h = ⟨#[99]⟩ := HCC.out.1 rfl
          subst hc
          have h30 := HN3.out rfl
          subst h30
          obtain ⟨K, hk1, hk2, hk3⟩ := many_nat m x
          rw [hk3] at HE2
          have HK : Hid (∀ j : Nat, j < K ↔ (j : Int) < x.many ∧ j < m.args.length) := Lib.hid fun j => by
            unfold manyT at hk1
            omega
          clear hk1 hk3 HN3 HCC
          go_wp2
          go_loopw [6, 7] (fun v k wr => ∃ (j : Nat) (u : Value), u = v ∧ k = .int .i64 j ∧ j ≤ K ∧ OwnL wr w.heap.size v ((m.args.take j).map regL) ∧ TwoM w wr m aa sa ac sc x a c) (fun _ k _ => K - (intOf k).toNat)
          case atStart => exact ⟨0, _, rfl, rfl, Nat.zero_le _, HO.out, HT.out⟩
          case round =>
            obtain ⟨j, v, rfl, rfl, hj, hO, hT⟩ := hrel
            clear HT HO
            have HT := Lib.hid hT
            have HO := Lib.hid hO
            clear hT hO
            obtain ⟨d0, d1, d2, d3, d4, d5, d6, d7⟩ := box8 HT.out.ix
            obtain ⟨c0, c1, c2, c3⟩ := boxMa HT.out.mc
            by_cases hlt : j < K
            · obtain ⟨h1, h2⟩ := (HK.out j).1 hlt
              have h3 : (j : Int) < m.args.length := by omega
              have hj0 : (0 : Int) ≤ j := by omega
              obtain ⟨z, hz⟩ : ∃ z, m.args[j]? = some z := ⟨_, List.getElem?_eq_getElem h2⟩
              obtain ⟨g, o, rfl, hg, h0⟩ := (HI.out.below HT.out.be) j z hz
              have HZ := Lib.hid hz
              clear hz
              have hlen : ((m.args.take j).map regL).length = j := by simp; omega
              go_wp2_with fail
              refine (reg6_any z _).mono ?_
              rintro e w2 ⟨rfl, hb⟩
              have HT2 := Lib.hid ((HT.out.below hb).alloc (.cells (locC (regL z)).toArray 65))
              have HO2 : Hid (OwnL (w2.alloc (.cells (locC (regL z)).toArray 65)) w.heap.size v ((m.args.take j).map regL)) := Lib.hid (World.ownsRow.alloc (own_keepT HO.out (KeepT.below hb _)) _)
              clear hb d0 d1 d2 d3 d4 d5 d6 d7 c0 c1 c2 c3
              go_wp2_with (at_builtin; go_must (refine wpList_append_loc rfl _ _ rfl w.heap.size w2.heap.size _ ((m.args.take j).map regL) (regL z) rfl HO2.out rfl (Blk.new _ _ _) (by omega) HT2.out.be.size ?_; intro gg cap w4 ho4 hb4 hk4))
              have HT4 := Lib.hid (HT2.out.keep hb4 hk4)
              have HO4 : Hid (OwnL w4 w.heap.size (.slice (some ⟨gg, 0, none⟩) (j + 1) cap) ((m.args.take (j + 1)).map regL)) := by
                show OwnL _ _ _ _
                rw [List.take_add_one, HZ.out, Option.toList_some, List.map_append]
                rw [hlen] at ho4
                exact ho4
              clear hb4 hk4 ho4
              have hmin : min j m.args.length = j := by omega
              rw [hmin]
              go_roundw
              case rel => exact ⟨j + 1, _, rfl, by go_num, by omega, HO4.out, HT4.out⟩
              case measure => simp [intOf]; omega
            · have e : j = K := by omega
              subst e
              have h4 : ¬ ((j : Int) < x.many ∧ j < m.args.length) := fun h => hlt ((HK.out j).2 h)
              by_cases h1 : (j : Int) < x.many
              · have h3 : ¬ (j : Int) < m.args.length := fun h => h4 ⟨h1, by omega⟩
                clear h4
                go_wp2
                go_ret
                exact ⟨_, rfl, by rw [HE2.out]; exact HO.out, HT.out.be⟩
              · clear h4
                go_wp2
                go_ret
                exact ⟨_, rfl, by rw [HE2.out]; exact HO.out, HT.out.be⟩
theorem eql_loc (l : Ll) (W : World) : (Op.equalIn 10000 65 (.agg #[.bool l.1, .int .i64 l.2]) (.agg #[.bool l.1, .int .i64 l.2])).run Tryd.prog W = .ok true W := by
  rw [show (10000 : Nat) = 9999 + 1 from rfl, run_equalIn_struct W 9999 65 _ _ (by kernel_rfl) (by kernel_rfl)]
  simp only [Program.fieldsOf, Tryd.underlying65, Op.eqFields]
  simp only [show ("Slot" : String) ≠ "_" by decide, show ("N" : String) ≠ "_" by decide, ne_eq, not_false_eq_true, if_true, Sem.run_bind, Sem.run_ite]
  have hb : ∀ v, (#[Value.bool l.1, .int .i64 l.2] : Array Value)[0]? = some v → (part 4 #[Value.bool l.1, .int .i64 l.2] 0).run Tryd.prog W = .ok v W := fun v hv => by
    simp [part, isAgg, run_underlying Tryd.underlying4] at hv ⊢
    exact hv
  rw [hb (.bool l.1) rfl]
  simp only [Result.andThen_ok]
  rw [hb (.bool l.1) rfl]
  simp only [Result.andThen_ok]
  rw [run_equalIn_bool' W 9998 4 _ _ Tryd.underlying4]
  simp only [Result.andThen_ok, beq_self_eq_true, Bool.not_true, Bool.false_eq_true, if_false]
  rw [run_part_int (v := .int .i64 l.2) Tryd.underlying3 (by rfl)]
  simp only [Result.andThen_ok]
  rw [run_part_int (v := .int .i64 l.2) Tryd.underlying3 (by rfl)]
  simp only [Result.andThen_ok]
  rw [run_equalIn_int W 9998 _ .i64 .i64 _ _ Tryd.underlying3]
  simp [Result.andThen_ok]
set_option maxHeartbeats 1000000 in
set_option maxRecDepth 100000 in
theorem sameL_any (l : List Ll) (a a' : Option Addr) (c c' : Nat) (w : World) (hl : l.length ≤ 1000000000) (hI : LocsW w a l) (hJ : LocsW w a' l) : Calls Tryd.prog 11 #[.slice a l.length c, .slice a' l.length c'] w fun e w' => e = .returned (.bool true) ∧ Below w.heap.size w w' := by
  have HI := Lib.hid hI
  have HJ := Lib.hid hJ
  clear hI hJ
  go_enter Tryd.func11, Tryd.ntmps11
  have h' : ((l.length : Int) == l.length) = true := by simp
  have h'' : ((l.length : Int) != l.length) = false := by simp
  go_wp2
  go_loopw [5] (fun k wr => ∃ j : Nat, k = .int .i64 j ∧ j ≤ l.length ∧ Below w.heap.size w wr) (fun k _ => l.length - (intOf k).toNat)
  case atStart => exact ⟨0, rfl, Nat.zero_le _, Below.refl _ _⟩
  case round =>
    obtain ⟨j, rfl, hj, hW⟩ := hrel
    have HW := Lib.hid hW
    clear hW
    by_cases hlt : j < l.length
    · have hlt' : (j : Int) < l.length := by omega
      have hj0 : (0 : Int) ≤ j := by omega
      obtain ⟨x, hx⟩ : ∃ x, l[j]? = some x := ⟨_, List.getElem?_eq_getElem hlt⟩
      obtain ⟨g, o, rfl, hg, h0, h1⟩ := (HI.out.below HW.out) j x hx
      obtain ⟨g', o', rfl, hg', h0', h1'⟩ := (HJ.out.below HW.out) j x hx
      have hq := eql_loc x
      clear hx
      go_wp2_with fail
      go_quiet (fail)
      go_wp2
      go_roundw
      case rel => exact ⟨j + 1, by go_num, by omega, below_drewN HW.out _⟩
      case measure => simp [intOf]; omega
    · have e : j = l.length := by omega
      subst e
      have hlt' : ¬ (l.length : Int) < l.length := by omega
      go_wp2
      go_ret
      exact ⟨rfl, HW.out⟩
end Go.Proofs.YtbckkmicdpjnaaaDoor
