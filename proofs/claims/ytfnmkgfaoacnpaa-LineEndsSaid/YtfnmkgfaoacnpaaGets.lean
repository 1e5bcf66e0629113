/-
  The walk of the statement LineGets: it answers true for any text and any calls. No condition beyond those that each theorem states.
-/
import Derived.Test.YtfnmkgfaoacnpaaSameL
import Derived.Test.YtfnmkgfaoacnpaaAwakeL
namespace Go.Proofs.Ytfnmkgfaoacnpaa
open Go.RowKit

/-- Thing number k that is got lies in five cells. -/
def GetsAt (w : World) (a : Option Addr) (l : List Gt) : Prop := ∀ k x, l[k]? = some x → ∃ g o, a = some ⟨g, o, none⟩ ∧ g < w.heap.size ∧
  w.cell? ⟨g, o + k * 5, none⟩ = some (.int .i64 x.what) ∧ w.cell? ⟨g, o + k * 5 + 1, none⟩ = some (.int .i64 x.least) ∧ w.cell? ⟨g, o + k * 5 + 2, none⟩ = some (.int .i64 x.most) ∧
  w.cell? ⟨g, o + k * 5 + 3, none⟩ = some (.string x.s) ∧ w.cell? ⟨g, o + k * 5 + 4, none⟩ = some (.string x.t)
theorem GetsAt.below {w w' : World} {a : Option Addr} {l : List Gt} (h : GetsAt w a l) (hb : Below w.heap.size w w') : GetsAt w' a l := fun k x hx => by
  obtain ⟨g, o, ha, hg, h0, h1, h2, h3, h4⟩ := h k x hx
  exact ⟨g, o, ha, Nat.lt_of_lt_of_le hg hb.size, (hb.cell hg).trans h0, (hb.cell hg).trans h1, (hb.cell hg).trans h2, (hb.cell hg).trans h3, (hb.cell hg).trans h4⟩
/-- Calls and letters, about: what the statement counts. -/
def totG (l : List Gt) (k : Nat) : Nat := l.length + ((l.take k).map (fun x => x.s.size + x.t.size)).sum
theorem totG_next {l : List Gt} {k : Nat} {x : Gt} (h : l[k]? = some x) : totG l (k + 1) = totG l k + x.s.size + x.t.size := by
  unfold totG
  rw [List.take_add_one, h]
  simp
  omega
/-- Where counting ends. -/
def Counted (l : List Gt) (j : Nat) : Prop := j ≤ l.length ∧ (j = l.length ∨ 3000 < totG l j) ∧ totG l j ≤ 1000000000000000
set_option maxHeartbeats 1000000 in
set_option maxRecDepth 100000 in
theorem size_any (l : List Gt) (a : Option Addr) (c : Nat) (w : World) (hC : GetsAt w a l) (hl : l.length ≤ 140737488355328) (hs : ∀ x ∈ l, x.s.size ≤ 140737488355328 ∧ x.t.size ≤ 140737488355328) :
    Calls Try.prog 16 #[.slice a l.length c] w fun e w' => ∃ j d : Nat, e = .returned (.int .i64 (totG l j)) ∧ Counted l j ∧ w' = w.drewN d := by
  have HC := Lib.hid hC
  have HS := Lib.hid hs
  clear hC hs
  go_enter Try.func16, Try.ntmps16
  go_wp2
  go_loopw [3, 4] (fun n k wr => ∃ j d : Nat, n = .int .i64 (totG l j) ∧ k = .int .i64 j ∧ j ≤ l.length ∧ totG l j ≤ 1000000000000000 ∧ wr = w.drewN d) (fun _ k _ => l.length - (intOf k).toNat)
  case atStart => exact ⟨0, 0, by simp [totG], rfl, Nat.zero_le _, by simp [totG]; omega, rfl⟩
  case round =>
    obtain ⟨j, d, rfl, rfl, hj, hb, rfl⟩ := hrel
    by_cases hlt : j < l.length
    · by_cases hn : totG l j ≤ 3000
      · have hlt' : (j : Int) < l.length := by omega
        have hn' : (totG l j : Int) ≤ 3000 := by omega
        obtain ⟨x, hx⟩ : ∃ x, l[j]? = some x := ⟨_, List.getElem?_eq_getElem hlt⟩
        obtain ⟨g, o, rfl, hg, n0, n1, n2, n3, n4⟩ := HC.out j x hx
        have hxs := HS.out x (List.mem_of_getElem? hx)
        have HX := Lib.hid (totG_next hx)
        have hj0 : (0 : Int) ≤ j := by omega
        clear hx n0 n1 n2
        obtain ⟨x1, x2⟩ := hxs
        generalize totG l j = T at *
        go_wp2_with fail
        go_quiet (fail)
        go_wp2
        go_roundw
        case rel => exact ⟨j + 1, _, by have := HX.out; simp; omega, by go_num, by omega, by have := HX.out; omega, rfl⟩
        case measure => simp [intOf]; omega
      · have hn' : ¬ (totG l j : Int) ≤ 3000 := by omega
        have hn2 : (3000 : Int) < totG l j := by omega
        have hlt' : (j : Int) < l.length := by omega
        go_wp2
        go_ret
        exact ⟨j, rfl, ⟨hj, .inr (by omega), hb⟩, d, rfl⟩
    · have e : j = l.length := by omega
      subst e
      go_wp2
      go_ret
      exact ⟨l.length, d, rfl, ⟨Nat.le_refl _, .inl rfl, hb⟩, rfl⟩
theorem totG_sizes {l : List Gt} {x : Gt} (h : x ∈ l) : l.length + x.s.size + x.t.size ≤ totG l l.length := by
  obtain ⟨k, hk, hx⟩ := List.getElem_of_mem h
  have h1 := totG_next (l := l) (k := k) (x := x) (by rw [List.getElem?_eq_getElem hk, hx])
  have h2 : totG l (k + 1) ≤ totG l l.length := by
    unfold totG
    have : (l.map (fun x => x.s.size + x.t.size)).sum = ((l.take (k + 1)).map (fun x => x.s.size + x.t.size)).sum + ((l.drop (k + 1)).map (fun x => x.s.size + x.t.size)).sum := by
      rw [← List.sum_append, ← List.map_append, List.take_append_drop]
    rw [List.take_length]
    omega
  have h3 : l.length ≤ totG l k := by unfold totG; omega
  omega
set_option maxHeartbeats 2000000 in
set_option maxRecDepth 100000 in
theorem gets_any (s : ByteArray) (l : List Gt) (a : Option Addr) (c : Nat) (w : World) (hz : s.size ≤ 140737488355328) (hC : GetsAt w a l) (hl : l.length ≤ 140737488355328) (hs : ∀ x ∈ l, x.s.size ≤ 140737488355328 ∧ x.t.size ≤ 140737488355328) :
    Calls Try.prog 5 #[.string s, .slice a l.length c] w fun e w' => e = .returned (.bool true) ∧ Below w.heap.size w w' := by
  have SZ := Lib.hid (size_any l a c w hC hl hs)
  have HC := Lib.hid hC
  clear hC hs
  go_enter Try.func5, Try.ntmps5
  go_wp2_with fail
  refine SZ.out.mono ?_
  rintro e w1 ⟨j, d, rfl, hcnt, rfl⟩
  obtain ⟨hj, hcnt, hbd⟩ := hcnt
  have B1 : Hid (Below w.heap.size w (w.drewN d)) := below_draws (Below.refl _ _) d
  have C1 : Hid (GetsAt (w.drewN d) a l) := HC.out
  generalize w.drewN d = w1 at *
  by_cases hn : s.size + totG l j ≤ 3000
  · have hn' : ¬ ((3000 : Int) < s.size + totG l j) := by omega
    have hjl : j = l.length := by omega
    have hlen0 : l.length ≤ totG l j := by unfold totG; omega
    have hlen : l.length ≤ 3000 := by omega
    clear hcnt hj hjl
    have SC := Lib.hid (overC_any s w1 (by omega))
    have SR : Hid (∀ w2, _) := fun w2 => overR0_any s w2 (by omega)
    have SK := Lib.hid (start_ok s)
    generalize startC s = c0 at *
    go_wp2_with fail
    refine SC.out.mono ?_
    rintro e w2 ⟨gc, rfl, h2, hg2, hb2⟩
    have H2 := Lib.hid h2
    have B2 := Lib.hid (B1.out.trans (hb2.mono B1.out.size))
    have C2 := Lib.hid (C1.out.below hb2)
    have G2 : Hid (w.heap.size ≤ gc) := Nat.le_trans B1.out.size hg2
    clear h2 hb2 hg2 SC B1 C1
    go_wp2_with fail
    refine (SR.out w2).mono ?_
    rintro e w3 ⟨gr, rfl, h3, hg3, hb3⟩
    have R3 := Lib.hid h3
    have H3 := Lib.hid (H2.out.below hb3)
    have B3 := Lib.hid (B2.out.trans (hb3.mono B2.out.size))
    have C3 := Lib.hid (C2.out.below hb3)
    have G3 : Hid (w.heap.size ≤ gr) := Nat.le_trans B2.out.size hg3
    clear h3 hb3 hg3 SR B2 C2 H2
    go_wp2_with fail
    refine (both_any gc gr c0 w3 H3.out R3.out SK.out).mono ?_
    rintro e w4 ⟨rfl, hb4⟩
    have R4 := Lib.hid (R3.out.below hb4)
    have H4 := Lib.hid (H3.out.below hb4)
    have B4 := Lib.hid (B3.out.trans (hb4.mono B3.out.size))
    clear hb4 R3 H3 B3 C3
    go_wp2_with fail
    go_loopw [7] (fun k wr => ∃ (j : Nat) (d : Cu), k = .int .i64 j ∧ j ≤ l.length ∧ CurC wr gc d ∧ CurR wr gr d ∧ d.Ok ∧ Below w.heap.size w wr) (fun k _ => l.length - (intOf k).toNat)
    case atStart => exact ⟨0, c0, rfl, Nat.zero_le _, H4.out, R4.out, SK.out, B4.out⟩
    case round =>
      obtain ⟨j, d, rfl, hj, hc, hr, hok, hb⟩ := hrel
      have H5 := Lib.hid hc
      have R5 := Lib.hid hr
      have K5 := Lib.hid hok
      have B5 := Lib.hid hb
      clear hc hr hok hb H4 R4 B4
      by_cases hlt : j < l.length
      · have hlt' : (j : Int) < l.length := by omega
        have hj0 : (0 : Int) ≤ j := by omega
        obtain ⟨x, hx⟩ : ∃ x, l[j]? = some x := ⟨_, List.getElem?_eq_getElem hlt⟩
        obtain ⟨g, o, rfl, hg, n0, n1, n2, n3, n4⟩ := HC.out.below B5.out j x hx
        have SM := Lib.hid (same_any gc gr d x wr H5.out R5.out K5.out)
        have KX := Lib.hid (K5.out.got x)
        have BT : Hid (∀ w1, Aft wr w1 gc gr (d.got x) → _) := fun w1 h => both_any gc gr (d.got x) w1 h.1 h.2.1 KX.out
        clear hx H5 R5 K5
        generalize d.got x = d' at *
        go_wp2_with fail
        refine SM.out.mono ?_
        rintro e w6 ⟨rfl, h6⟩
        have A6 := Lib.hid h6
        have B6 : Hid (Below w.heap.size w w6) := B5.out.trans (h6.2.2 _ B5.out.size G2.out G3.out)
        clear h6 SM n0 n1 n2 n3 n4
        go_wp2_with fail
        refine (BT.out _ A6.out).mono ?_
        rintro e w7 ⟨rfl, hb7⟩
        have H7 := Lib.hid (A6.out.1.below hb7)
        have R7 := Lib.hid (A6.out.2.1.below hb7)
        have B7 := Lib.hid (B6.out.trans (hb7.mono B6.out.size))
        clear hb7 BT A6 B6
        go_wp2
        go_roundw
        case rel => exact ⟨j + 1, d', by go_num, by omega, H7.out, R7.out, KX.out, B7.out⟩
        case measure => simp [intOf]; omega
      · have hlt' : ¬ (j : Int) < l.length := by omega
        have hlt2 : (l.length : Int) ≤ j := by omega
        go_wp2_with fail
        refine (awakeL_any _).mono ?_
        rintro e w6 ⟨rfl, hb6⟩
        have B6 := Lib.hid (B5.out.trans (hb6.mono B5.out.size))
        clear hb6
        go_wp2
        go_ret
        exact ⟨rfl, B6.out⟩
  · have hn' : (3000 : Int) < s.size + totG l j := by omega
    go_wp2_with fail
    refine (awakeL_any _).mono ?_
    rintro e w2 ⟨rfl, hb2⟩
    have B2 := Lib.hid (B1.out.trans (hb2.mono B1.out.size))
    clear hb2
    go_wp2
    go_ret
    exact ⟨rfl, B2.out⟩
end Go.Proofs.Ytfnmkgfaoacnpaa
