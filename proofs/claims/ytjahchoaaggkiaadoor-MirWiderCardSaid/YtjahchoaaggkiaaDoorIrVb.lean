/-
  Functions that are copied: rows of their own, apart from each other. No condition beyond those that each theorem states.
-/
import Derived.Test.YtjahchoaaggkiaaDoorIrQb
namespace Go.Proofs.YtjahchoaaggkiaaDoor
open Go.RowKit

def addrB (a : Option Addr) : List Nat := match a with
  | some a => [a.block]
  | none => []
/-- Its arguments are a row of its own. -/
def ArgC (w : World) (B : Nat) (e : IE) : Prop := OwnI w B (.slice e.2.1 e.1.args.length e.2.2) e.1.args ∧ (e.2.1 = none → e.2.2 = 0)
theorem ArgC.keepT {w w' : World} {B : Nat} {e : IE} (h : ArgC w B e) (hk : KeepT w w' 3) : ArgC w' B e := ⟨h.1.keepT hk, h.2⟩
theorem ArgC.base {w : World} {B B' : Nat} {e : IE} (h : ArgC w B e) (hB : B' ≤ B) : ArgC w B' e := ⟨own_base h.1 hB, h.2⟩
theorem ArgC.lt {w : World} {B : Nat} {e : IE} (h : ArgC w B e) {k : Nat} (hk : k ∈ addrB e.2.1) : B ≤ k ∧ k < w.heap.size := by
  refine World.ownsRow.lt h.1 k ?_
  cases ha : e.2.1 with
  | none => rw [ha] at hk; simp [addrB] at hk
  | some a => rw [ha] at hk; simp [addrB] at hk; rw [hk]; rfl
def argBs (es : List IE) : List Nat := es.flatMap fun e => addrB e.2.1
theorem addr_few (a : Option Addr) : (addrB a).Nodup := by
  cases a <;> simp [addrB]
theorem apart_more {l : List Nat} {m : List Nat} {n : Nat} (h : l.Nodup) (hm : m.Nodup) (hl : ∀ k ∈ l, k < n) (hk : ∀ k ∈ m, n ≤ k) : (l ++ m).Nodup := by
  rw [List.nodup_append]
  exact ⟨h, hm, fun a ha b hb e => by have := hl a ha; have := hk b hb; omega⟩
/-- A row of instructions that is copied. -/
structure CRow (w : World) (B : Nat) (v : Value) (es : List IE) : Prop where
  row : RowE w B v es
  args : ∀ e ∈ es, ArgC w B e
  apart : (argBs es).Nodup
theorem CRow.keepT {w w' : World} {B : Nat} {v : Value} {es : List IE} (h : CRow w B v es) (h1 : KeepT w w' 3) (h2 : KeepT w w' 27) : CRow w' B v es :=
  ⟨own_keepT h.row h2, fun e he => (h.args e he).keepT h1, h.apart⟩
theorem CRow.base {w : World} {B B' : Nat} {v : Value} {es : List IE} (h : CRow w B v es) (hB : B' ≤ B) : CRow w B' v es := ⟨own_base h.row hB, fun e he => (h.args e he).base hB, h.apart⟩
theorem CRow.lt {w : World} {B : Nat} {v : Value} {es : List IE} (h : CRow w B v es) {k : Nat} (hk : k ∈ argBs es) : B ≤ k ∧ k < w.heap.size := by
  obtain ⟨e, he, hk⟩ := List.mem_flatMap.1 hk
  exact (h.args e he).lt hk
theorem rowE_shape {w : World} {B : Nat} {v : Value} {es : List IE} (h : RowE w B v es) : ∃ a c, v = .slice a es.length c ∧ (a = none → c = 0) := by
  rcases h.2 with ⟨h1, h2⟩ | ⟨g, cap, cur, hv, _⟩
  · exact ⟨none, 0, by rw [h1, h2], fun _ => rfl⟩
  · exact ⟨_, cap, hv, fun h => by cases h⟩
theorem rowB_shape {w : World} {B : Nat} {v : Value} {es : List BE} (h : RowB w B v es) : ∃ a c, v = .slice a es.length c ∧ (a = none → c = 0) := by
  rcases h.2 with ⟨h1, h2⟩ | ⟨g, cap, cur, hv, _⟩
  · exact ⟨none, 0, by rw [h1, h2], fun _ => rfl⟩
  · exact ⟨_, cap, hv, fun h => by cases h⟩
theorem row_lt {w : World} {B : Nat} {a : Option Addr} {n c : Nat} {e : TypeId} {size m : Nat} {xs : List Value} (h : w.ownsRow B e size (.slice a n c) m xs) {k : Nat} (hk : k ∈ addrB a) : B ≤ k ∧ k < w.heap.size := by
  refine World.ownsRow.lt h k ?_
  cases a with
  | none => simp [addrB] at hk
  | some a => simp [addrB] at hk; rw [hk]; rfl
/-- Its instructions are copied. -/
def RowC (w : World) (B : Nat) (e : BE) : Prop := CRow w B (.slice e.2.2.1 e.2.1.length e.2.2.2) e.2.1 ∧ (e.2.2.1 = none → e.2.2.2 = 0)
theorem RowC.keepT {w w' : World} {B : Nat} {e : BE} (h : RowC w B e) (h1 : KeepT w w' 3) (h2 : KeepT w w' 27) : RowC w' B e := ⟨h.1.keepT h1 h2, h.2⟩
theorem RowC.base {w : World} {B B' : Nat} {e : BE} (h : RowC w B e) (hB : B' ≤ B) : RowC w B' e := ⟨h.1.base hB, h.2⟩
def rowBs (es : List BE) : List Nat := es.flatMap fun e => addrB e.2.2.1
def allBs (es : List BE) : List Nat := es.flatMap fun e => argBs e.2.1
/-- A row of blocks that is copied. -/
structure CBls (w : World) (B : Nat) (v : Value) (es : List BE) : Prop where
  row : RowB w B v es
  rows : ∀ e ∈ es, RowC w B e
  apartR : (rowBs es).Nodup
  apartA : (allBs es).Nodup
theorem CBls.keepT {w w' : World} {B : Nat} {v : Value} {es : List BE} (h : CBls w B v es) (h1 : KeepT w w' 3) (h2 : KeepT w w' 27) (h3 : KeepT w w' 54) : CBls w' B v es :=
  ⟨own_keepT h.row h3, fun e he => (h.rows e he).keepT h1 h2, h.apartR, h.apartA⟩
theorem CBls.base {w : World} {B B' : Nat} {v : Value} {es : List BE} (h : CBls w B v es) (hB : B' ≤ B) : CBls w B' v es := ⟨own_base h.row hB, fun e he => (h.rows e he).base hB, h.apartR, h.apartA⟩
set_option maxRecDepth 100000 in
theorem copyInts_any (l : List Int) (a : Option Addr) (c : Nat) (w : World) (hl : l.length ≤ 2000) (hn : a = none → c = 0) (hI : IntsW w a l) :
    Calls Tryd.prog 84 #[.slice a l.length c] w fun e w' => ∃ v, e = .returned v ∧ OwnI w' w.heap.size v l ∧ Below w.heap.size w w' := by
  have HI := Lib.hid hI
  clear hI
  go_enter Tryd.func84, Tryd.ntmps84
  go_wp2_with (at_builtin; go_must (refine wpList_append_ints rfl _ _ rfl w.heap.size (.slice none 0 0) [] rfl (World.ownsRow_nil _ _ _ _) a c l rfl hn HI.out (by simp; omega) (Nat.le_refl _) ?_; intro v2 w2 hown2 hgrow2 hat2; have HB2 : Hid (Below w.heap.size w w2) := (by exact (Below.refl _ w).grown hgrow2 (Nat.le_refl _) (fun k hk => by cases hk))))
  have HO2 := Lib.hid hown2
  clear hown2 hgrow2 hat2
  go_ret
  exact ⟨v2, rfl, by simpa using HO2.out, HB2.out⟩
set_option maxHeartbeats 1000000 in
set_option maxRecDepth 100000 in
theorem copyIns_any (x : Ii) (a : Option Addr) (c : Nat) (w : World) (hl : x.args.length ≤ 2000) (hn : a = none → c = 0) (hI : IntsW w a x.args) :
    Calls Tryd.prog 82 #[insV x a c] w fun e w' => ∃ ga cap, e = .returned (insV x ga cap) ∧ ArgC w' w.heap.size (x, ga, cap) ∧ Below w.heap.size w w' := by
  have HX : Hid (Blk ((w.alloc (.cells (insC x a c) 27)).alloc (.cells #[.int .i64 0, .int .i64 0, .int .i64 0, .int .i64 0, .int .i64 0, .int .i64 0, .slice none 0 0, .int .i64 0] 27)) w.heap.size 27 (insC x a c)) := Lib.hid ((Blk.new w _ _).alloc _)
  have HR : Hid (Blk ((w.alloc (.cells (insC x a c) 27)).alloc (.cells #[.int .i64 0, .int .i64 0, .int .i64 0, .int .i64 0, .int .i64 0, .int .i64 0, .slice none 0 0, .int .i64 0] 27)) (w.heap.size + 1) 27 #[.int .i64 0, .int .i64 0, .int .i64 0, .int .i64 0, .int .i64 0, .int .i64 0, .slice none 0 0, .int .i64 0]) := by
    have h := Blk.new (w.alloc (.cells (insC x a c) 27)) 27 #[.int .i64 0, .int .i64 0, .int .i64 0, .int .i64 0, .int .i64 0, .int .i64 0, .slice none 0 0, .int .i64 0]
    have e : (w.alloc (.cells (insC x a c) 27)).heap.size = w.heap.size + 1 := by simp
    rw [e] at h
    exact Lib.hid h
  have HW : Hid (Below w.heap.size w ((w.alloc (.cells (insC x a c) 27)).alloc (.cells #[.int .i64 0, .int .i64 0, .int .i64 0, .int .i64 0, .int .i64 0, .int .i64 0, .slice none 0 0, .int .i64 0] 27))) := Lib.hid (((Below.refl _ w).alloc (Nat.le_refl _) _).alloc (by simp) _)
  have HC := Lib.hid (copyInts_any x.args a c _ hl hn (hI.below HW.out))
  clear hI
  unfold insV
  go_enter Tryd.func82, Tryd.ntmps82
  go_wp2_with fail
  refine HC.out.mono ?_
  rintro e w1 ⟨v1, rfl, ho, hb⟩
  obtain ⟨ga, cap, rfl, hn1, _⟩ := OwnI.shape ho
  have HX1 := Lib.hid (HX.out.below hb HX.out.lt)
  have HR1 := Lib.hid (HR.out.below hb HR.out.lt)
  have HW1 : Hid (Below w.heap.size w w1) := Lib.hid (HW.out.trans (hb.mono HW.out.size))
  have HO1 := Lib.hid (own_base ho HW.out.size)
  clear hb ho HX HR HW HC
  obtain ⟨c0, c1, c2, c3, c4, c5, c6, c7⟩ := box8 HX1.out
  have f6 : w1.frozen? ⟨w.heap.size, 6, none⟩ = false := HX1.out.free 6
  generalize hR0 : w.heap.size + 1 = R0 at HR1 ⊢
  have hne : R0 ≠ w.heap.size := by omega
  have d0 := HR1.out.cell 0
  have d1 := HR1.out.cell 1
  have d2 := HR1.out.cell 2
  have d3 := HR1.out.cell 3
  have d4 := HR1.out.cell 4
  have d5 := HR1.out.cell 5
  have d6 := HR1.out.cell 6
  have d7 := HR1.out.cell 7
  have g0 := HR1.out.free 0
  have g1 := HR1.out.free 1
  have g2 := HR1.out.free 2
  have g3 := HR1.out.free 3
  have g4 := HR1.out.free 4
  have g5 := HR1.out.free 5
  have g6 := HR1.out.free 6
  have g7 := HR1.out.free 7
  simp at d0 d1 d2 d3 d4 d5 d6 d7
  go_wp2
  obtain ⟨hR9, hK9, hB9⟩ := put_all HX1.out HR1.out hne 6 (.slice ga x.args.length cap) (ieC (x, ga, cap)) rfl
  have hO9 := OwnI.keepT HO1.out (hK9 3 (by decide))
  have hW9 := HW1.out.trans (hB9 w.heap.size (Nat.le_refl _) (by omega))
  clear hK9 hB9
  change bodyPost _ _ _ _ _ (putAll (w1.setCell ⟨w.heap.size, 6, none⟩ (.slice ga x.args.length cap)) R0 0 (ieC (x, ga, cap)))
  generalize putAll (w1.setCell ⟨w.heap.size, 6, none⟩ (.slice ga x.args.length cap)) R0 0 (ieC (x, ga, cap)) = W9 at hR9 hO9 hW9 ⊢
  obtain ⟨k0, k1, k2, k3, k4, k5, k6, k7⟩ := box8 (x := x) hR9
  clear d0 d1 d2 d3 d4 d5 d6 d7 g0 g1 g2 g3 g4 g5 g6 g7 c0 c1 c2 c3 c4 c5 c6 c7
  refine bodyPost_ret (results_cell_row rfl _ _ R0 27 _ (0, 0) _ (by simp) hR9 Tryd.underlying27 rfl ins_size) rfl ?_
  exact ⟨ga, cap, rfl, ⟨hO9, hn1⟩, hW9⟩
set_option maxHeartbeats 4000000 in
set_option maxRecDepth 100000 in
theorem copyRow_any (l : List Ii) (a : Option Addr) (c : Nat) (w : World) (hl : l.length ≤ 2000) (hl2 : ∀ x ∈ l, x.args.length ≤ 2000) (hI : InsW w a l) :
    Calls Tryd.prog 77 #[.slice a l.length c] w fun e w' => ∃ (v : Value) (es : List IE), e = .returned v ∧ es.map Prod.fst = l ∧ CRow w' w.heap.size v es ∧ Below w.heap.size w w' := by
  obtain ⟨i0, hi0, hz0, hz1, hz2⟩ := info_parts ins_info
  have HI := Lib.hid hI
  have HL2 := Lib.hid hl2
  clear hI hl2
  go_enter Tryd.func77, Tryd.ntmps77
  go_wp2
  go_loopw [3, 4] (fun v k wr => ∃ (j : Nat) (es : List IE) (u : Value), u = v ∧ k = .int .i64 j ∧ j ≤ l.length ∧ es.map Prod.fst = l.take j ∧ CRow wr w.heap.size v es ∧ Below w.heap.size w wr) (fun _ k _ => l.length - (intOf k).toNat)
  case atStart => exact ⟨0, [], _, rfl, rfl, Nat.zero_le _, rfl, ⟨World.ownsRow_nil _ _ _ _, (fun e he => by cases he), by simp [argBs]⟩, Below.refl _ _⟩
  case round =>
    obtain ⟨j, es, v, rfl, rfl, hj, hes, hCR, hB⟩ := hrel
    have HCR := Lib.hid hCR
    have hO := hCR.row
    have hA := hCR.args
    clear hCR
    have HO := Lib.hid hO
    have HA := Lib.hid hA
    have HB := Lib.hid hB
    have HES := Lib.hid hes
    have hel : es.length = j := by
      have := congrArg List.length hes
      rw [List.length_map, List.length_take] at this
      omega
    clear hO hA hB hes
    by_cases hlt : j < l.length
    · have hlt' : (j : Int) < l.length := by omega
      have hj0 : (0 : Int) ≤ j := by omega
      obtain ⟨x, hx⟩ : ∃ x, l[j]? = some x := ⟨_, List.getElem?_eq_getElem hlt⟩
      obtain ⟨g, o, ia, ic, rfl, hg, hc⟩ := (HI.out.below HB.out) j x hx
      have c0 := hc.c0
      have c1 := hc.c1
      have c2 := hc.c2
      have c3 := hc.c3
      have c4 := hc.c4
      have c5 := hc.c5
      have c6 := hc.c6
      have c7 := hc.c7
      have HX := Lib.hid hx
      have HC := Lib.hid (copyIns_any x ia ic wr (HL2.out x (List.mem_of_getElem? hx)) hc.nil hc.args)
      unfold insV at HC
      clear hc hx
      go_wp2_with fail
      refine HC.out.mono ?_
      rintro e w3 ⟨gi, ci, rfl, hai, hb3⟩
      have HNA : Hid ((argBs (es ++ [(x, gi, ci)])).Nodup) := Lib.hid (by
        unfold argBs
        rw [List.flatMap_append]
        refine apart_more (n := wr.heap.size) HCR.out.apart (by simpa using addr_few gi) (fun k hk => (HCR.out.lt hk).2) (fun k hk => ?_)
        simp at hk
        exact (hai.lt hk).1)
      have HA3 := Lib.hid (hai.base HB.out.size)
      have HK3 := Lib.hid (KeepT.below hb3 3)
      have HO3 : Hid (RowE ((w3.alloc (.cells (insC x gi ci) 27)).alloc (.cells (insC x gi ci) 27)) w.heap.size v es) := Lib.hid (World.ownsRow.alloc (World.ownsRow.alloc (own_keepT HO.out (KeepT.below hb3 _)) _) _)
      have HB3 : Hid (Below w.heap.size w ((w3.alloc (.cells (insC x gi ci) 27)).alloc (.cells (insC x gi ci) 27))) := Lib.hid (((HB.out.trans (hb3.mono HB.out.size)).alloc (Nat.le_trans HB.out.size hb3.size) _).alloc (by have := Nat.le_trans HB.out.size hb3.size; simp; omega) _)
      clear hb3 hai HC c0 c1 c2 c3 c4 c5 c6 c7
      go_wp2_with (at_builtin; go_must (refine wpList_append_lies _ rfl _ _ _ rfl w.heap.size 27 i0 _ 8 80 Tryd.underlying52 hi0 hz0 hz1 hz2 rfl (by omega) v es.length (es.flatMap ieC) rfl HO3.out ⟨w3.heap.size + 1, 0, none⟩ 1 1 (ieC (x, gi, ci)) rfl rfl (World.news_of_block (new_two w3 _ _ _)) (ie_one _) (by omega) (by simp only [maxLen]; omega) (by omega) HB3.out.size _ rfl ?_; intro gg gcap w4 hown4 hgrow4 hat4 hlt4))
      have HK4 : Hid (KeepT w3 w4 3) := Lib.hid (((KeepT.alloc w3 _ _).trans (KeepT.alloc _ _ _)).trans (KeepT.grown HO3.out hgrow4 (by decide)))
      have HB4 : Hid (Below w.heap.size w w4) := Lib.hid (HB3.out.grown hgrow4 HB3.out.size (fun k hk => (World.ownsRow.lt HO3.out k hk).1))
      have HO4 : Hid (RowE w4 w.heap.size (.slice (some ⟨gg, 0, none⟩) (j + 1) gcap) (es ++ [(x, gi, ci)])) := by
        show World.ownsRow _ _ _ _ _ _ _
        rw [List.length_append, List.flatMap_append, ← hel]
        exact hown4
      have HA4 : Hid (∀ e ∈ es ++ [(x, gi, ci)], ArgC w4 w.heap.size e) := Lib.hid fun e he => by
        rcases List.mem_append.1 he with he | he
        · exact ((HA.out e he).keepT HK3.out).keepT HK4.out
        · rw [List.mem_singleton] at he
          subst he
          exact HA3.out.keepT HK4.out
      clear hown4 hgrow4 hat4 hlt4
      go_roundw
      case rel => exact ⟨j + 1, _, _, rfl, by go_num, by omega, by rw [List.map_append, HES.out, List.take_add_one, HX.out]; rfl, ⟨HO4.out, HA4.out, HNA.out⟩, HB4.out⟩
      case measure => simp [intOf]; omega
    · have e : j = l.length := by omega
      rw [e, List.take_length] at HES
      have hlt' : ¬ (j : Int) < l.length := by omega
      go_wp2
      go_ret
      exact ⟨v, rfl, es, HES.out, HCR.out, HB.out⟩
set_option maxHeartbeats 1000000 in
set_option maxRecDepth 100000 in
theorem copyBlock_any (x : Bb) (a : Option Addr) (c : Nat) (w : World) (hl : x.ins.length ≤ 2000) (hl2 : ∀ y ∈ x.ins, y.args.length ≤ 2000) (hI : InsW w a x.ins) :
    Calls Tryd.prog 71 #[blV x a c] w fun e w' => ∃ b : BE, beB b = x ∧ e = .returned (.agg (beC b).toArray) ∧ RowC w' w.heap.size b ∧ Below w.heap.size w w' := by
  have HX : Hid (Blk ((w.alloc (.cells (blC x a c) 54)).alloc (.cells #[.slice none 0 0, .int .i64 0, .int .i64 0, .int .i64 0, .int .i64 0] 54)) w.heap.size 54 (blC x a c)) := Lib.hid ((Blk.new w _ _).alloc _)
  have HR : Hid (Blk ((w.alloc (.cells (blC x a c) 54)).alloc (.cells #[.slice none 0 0, .int .i64 0, .int .i64 0, .int .i64 0, .int .i64 0] 54)) (w.heap.size + 1) 54 #[.slice none 0 0, .int .i64 0, .int .i64 0, .int .i64 0, .int .i64 0]) := Lib.hid (new_two w _ _ _)
  have HW : Hid (Below w.heap.size w ((w.alloc (.cells (blC x a c) 54)).alloc (.cells #[.slice none 0 0, .int .i64 0, .int .i64 0, .int .i64 0, .int .i64 0] 54))) := Lib.hid (((Below.refl _ w).alloc (Nat.le_refl _) _).alloc (by simp) _)
  have HC := Lib.hid (copyRow_any x.ins a c _ hl hl2 (hI.below HW.out))
  clear hI
  unfold blV blC
  go_enter Tryd.func71, Tryd.ntmps71
  go_wp2_with fail
  refine HC.out.mono ?_
  rintro e w1 ⟨v1, es, rfl, hes, hrow, hb⟩
  obtain ⟨ga, cap, rfl, hn1⟩ := rowE_shape hrow.row
  have hlen : es.length = x.ins.length := by have := congrArg List.length hes; simpa using this
  rw [hlen] at hrow ⊢
  have HX1 := Lib.hid (HX.out.below hb HX.out.lt)
  have HR1 := Lib.hid (HR.out.below hb HR.out.lt)
  have HW1 : Hid (Below w.heap.size w w1) := Lib.hid (HW.out.trans (hb.mono HW.out.size))
  have HO1 := Lib.hid (hrow.base HW.out.size)
  have HES := Lib.hid hes
  clear hb hrow hes HX HR HW HC
  obtain ⟨c0, c1, c2, c3, c4⟩ := box5 HX1.out
  have f0 : w1.frozen? ⟨w.heap.size, 0, none⟩ = false := HX1.out.free 0
  generalize hR0 : w.heap.size + 1 = R0 at HR1 ⊢
  have hne : R0 ≠ w.heap.size := by omega
  have d0 := HR1.out.cell 0
  have d1 := HR1.out.cell 1
  have d2 := HR1.out.cell 2
  have d3 := HR1.out.cell 3
  have d4 := HR1.out.cell 4
  have g0 := HR1.out.free 0
  have g1 := HR1.out.free 1
  have g2 := HR1.out.free 2
  have g3 := HR1.out.free 3
  have g4 := HR1.out.free 4
  simp at d0 d1 d2 d3 d4
  go_wp2
  obtain ⟨hR9, hK9, hB9⟩ := put_all HX1.out HR1.out hne 0 (.slice ga x.ins.length cap) [.slice ga x.ins.length cap, .int .i64 x.tm.kind, .int .i64 x.tm.a, .int .i64 x.tm.t0, .int .i64 x.tm.t1] rfl
  have hO9 := HO1.out.keepT (hK9 3 (by decide)) (hK9 27 (by decide))
  have hW9 := HW1.out.trans (hB9 w.heap.size (Nat.le_refl _) (by omega))
  clear hK9 hB9
  change bodyPost _ _ _ _ _ (putAll (w1.setCell ⟨w.heap.size, 0, none⟩ (.slice ga x.ins.length cap)) R0 0 [.slice ga x.ins.length cap, .int .i64 x.tm.kind, .int .i64 x.tm.a, .int .i64 x.tm.t0, .int .i64 x.tm.t1])
  generalize putAll (w1.setCell ⟨w.heap.size, 0, none⟩ (.slice ga x.ins.length cap)) R0 0 [.slice ga x.ins.length cap, .int .i64 x.tm.kind, .int .i64 x.tm.a, .int .i64 x.tm.t0, .int .i64 x.tm.t1] = W9 at hR9 hO9 hW9 ⊢
  clear d0 d1 d2 d3 d4 g0 g1 g2 g3 g4 c0 c1 c2 c3 c4
  refine bodyPost_ret (results_cell_row rfl _ _ R0 54 _ (0, 0) _ (by simp) hR9 Tryd.underlying54 rfl block_size) rfl ?_
  refine ⟨(x.tm, es, ga, cap), ?_, ?_, ⟨by rw [← hlen] at hO9; exact hO9, hn1⟩, hW9⟩
  · unfold beB
    rw [HES.out]
  · unfold beC
    rw [hlen]
set_option maxHeartbeats 4000000 in
set_option maxRecDepth 100000 in
theorem copyBlocks_any (l : List Bb) (a : Option Addr) (c : Nat) (w : World) (hl : l.length ≤ 2000) (hl2 : ∀ x ∈ l, x.ins.length ≤ 2000 ∧ ∀ y ∈ x.ins, y.args.length ≤ 2000) (hI : BlsW w a l) :
    Calls Tryd.prog 60 #[.slice a l.length c] w fun e w' => ∃ (v : Value) (es : List BE), e = .returned v ∧ es.map beB = l ∧ CBls w' w.heap.size v es ∧ Below w.heap.size w w' := by
  obtain ⟨i0, hi0, hz0, hz1, hz2⟩ := info_parts block_info
  have HI := Lib.hid hI
  have HL2 := Lib.hid hl2
  clear hI hl2
  go_enter Tryd.func60, Tryd.ntmps60
  go_wp2
  go_loopw [3, 4] (fun v k wr => ∃ (j : Nat) (es : List BE) (u : Value), u = v ∧ k = .int .i64 j ∧ j ≤ l.length ∧ es.map beB = l.take j ∧ CBls wr w.heap.size v es ∧ Below w.heap.size w wr) (fun _ k _ => l.length - (intOf k).toNat)
  case atStart => exact ⟨0, [], _, rfl, rfl, Nat.zero_le _, rfl, ⟨World.ownsRow_nil _ _ _ _, (fun e he => by cases he), by simp [rowBs], by simp [allBs]⟩, Below.refl _ _⟩
  case round =>
    obtain ⟨j, es, v, rfl, rfl, hj, hes, hCR, hB⟩ := hrel
    have HCR := Lib.hid hCR
    have hO := hCR.row
    have hA := hCR.rows
    clear hCR
    have HO := Lib.hid hO
    have HA := Lib.hid hA
    have HB := Lib.hid hB
    have HES := Lib.hid hes
    have hel : es.length = j := by
      have := congrArg List.length hes
      rw [List.length_map, List.length_take] at this
      omega
    clear hO hA hB hes
    by_cases hlt : j < l.length
    · have hlt' : (j : Int) < l.length := by omega
      have hj0 : (0 : Int) ≤ j := by omega
      obtain ⟨x, hx⟩ : ∃ x, l[j]? = some x := ⟨_, List.getElem?_eq_getElem hlt⟩
      obtain ⟨g, o, ia, ic, rfl, hg, hc⟩ := (HI.out.below HB.out) j x hx
      have c0 := hc.c0
      have c1 := hc.c1
      have c2 := hc.c2
      have c3 := hc.c3
      have c4 := hc.c4
      have HX := Lib.hid hx
      have HC := Lib.hid (copyBlock_any x ia ic wr (HL2.out x (List.mem_of_getElem? hx)).1 (HL2.out x (List.mem_of_getElem? hx)).2 hc.ins)
      unfold blV blC at HC
      clear hc hx
      go_wp2_with fail
      refine HC.out.mono ?_
      rintro e w3 ⟨b, hbx, rfl, hai, hb3⟩
      have HNR : Hid ((rowBs (es ++ [b])).Nodup) := Lib.hid (by
        unfold rowBs
        rw [List.flatMap_append]
        refine apart_more (n := wr.heap.size) HCR.out.apartR (by simpa using addr_few b.2.2.1) (fun k hk => ?_) (fun k hk => ?_)
        · obtain ⟨e, he, hk⟩ := List.mem_flatMap.1 hk
          exact (row_lt (HCR.out.rows e he).1.row hk).2
        · simp at hk
          exact (row_lt hai.1.row hk).1)
      have HNA : Hid ((allBs (es ++ [b])).Nodup) := Lib.hid (by
        unfold allBs
        rw [List.flatMap_append]
        refine apart_more (n := wr.heap.size) HCR.out.apartA (by simpa using hai.1.apart) (fun k hk => ?_) (fun k hk => ?_)
        · obtain ⟨e, he, hk⟩ := List.mem_flatMap.1 hk
          exact ((HCR.out.rows e he).1.lt hk).2
        · simp at hk
          exact (hai.1.lt hk).1)
      have HBX := Lib.hid hbx
      have HA3 := Lib.hid (hai.base HB.out.size)
      have HK3 := Lib.hid (And.intro (KeepT.below hb3 3) (KeepT.below hb3 27))
      have HO3 : Hid (RowB ((w3.alloc (.cells (beC b).toArray 54)).alloc (.cells (beC b).toArray 54)) w.heap.size v es) := Lib.hid (World.ownsRow.alloc (World.ownsRow.alloc (own_keepT HO.out (KeepT.below hb3 _)) _) _)
      have HB3 : Hid (Below w.heap.size w ((w3.alloc (.cells (beC b).toArray 54)).alloc (.cells (beC b).toArray 54))) := Lib.hid (((HB.out.trans (hb3.mono HB.out.size)).alloc (Nat.le_trans HB.out.size hb3.size) _).alloc (by have := Nat.le_trans HB.out.size hb3.size; simp; omega) _)
      clear hb3 hai HC c0 c1 c2 c3 c4 hbx
      unfold beC
      go_wp2_with (at_builtin; go_must (refine wpList_append_lies _ rfl _ _ _ rfl w.heap.size 54 i0 _ 5 56 Tryd.underlying39 hi0 hz0 hz1 hz2 rfl (by omega) v es.length (es.flatMap beC) rfl HO3.out ⟨w3.heap.size + 1, 0, none⟩ 1 1 (beC b) rfl rfl (World.news_of_block (new_two w3 _ _ _)) (be_one _) (by omega) (by simp only [maxLen]; omega) (by omega) HB3.out.size _ rfl ?_; intro gg gcap w4 hown4 hgrow4 hat4 hlt4))
      have HK4 : Hid (KeepT w3 w4 3 ∧ KeepT w3 w4 27) := Lib.hid ⟨((KeepT.alloc w3 _ _).trans (KeepT.alloc _ _ _)).trans (KeepT.grown HO3.out hgrow4 (by decide)), ((KeepT.alloc w3 _ _).trans (KeepT.alloc _ _ _)).trans (KeepT.grown HO3.out hgrow4 (by decide))⟩
      have HB4 : Hid (Below w.heap.size w w4) := Lib.hid (HB3.out.grown hgrow4 HB3.out.size (fun k hk => (World.ownsRow.lt HO3.out k hk).1))
      have HO4 : Hid (RowB w4 w.heap.size (.slice (some ⟨gg, 0, none⟩) (j + 1) gcap) (es ++ [b])) := by
        show World.ownsRow _ _ _ _ _ _ _
        rw [List.length_append, List.flatMap_append, ← hel]
        exact hown4
      have HA4 : Hid (∀ e ∈ es ++ [b], RowC w4 w.heap.size e) := Lib.hid fun e he => by
        rcases List.mem_append.1 he with he | he
        · exact ((HA.out e he).keepT HK3.out.1 HK3.out.2).keepT HK4.out.1 HK4.out.2
        · rw [List.mem_singleton] at he
          subst he
          exact HA3.out.keepT HK4.out.1 HK4.out.2
      clear hown4 hgrow4 hat4 hlt4
      go_roundw
      case rel => exact ⟨j + 1, _, _, rfl, by go_num, by omega, by rw [List.map_append, HES.out, List.take_add_one, HX.out, List.map_singleton, HBX.out]; rfl, ⟨HO4.out, HA4.out, HNR.out, HNA.out⟩, HB4.out⟩
      case measure => simp [intOf]; omega
    · have e : j = l.length := by omega
      rw [e, List.take_length] at HES
      have hlt' : ¬ (j : Int) < l.length := by omega
      go_wp2
      go_ret
      exact ⟨v, rfl, es, HES.out, HCR.out, HB.out⟩
end Go.Proofs.YtjahchoaaggkiaaDoor
