/-
  The document's answers about what an instruction and an end of a target read and write. No condition beyond those that each theorem states.
-/
import Derived.Test.YtbckkmicdpjnaaaDoorMiL
import Derived.Test.YtbckkmicdpjnaaaDoorMiC
import Derived.Laws.StructEq
import Derived.ChangeKeysEq
import Derived.Deep.QuietTactic
import Derived.BigQuiet
import Derived.BigGuard
namespace Go.Proofs.YtbckkmicdpjnaaaDoor
open Go.RowKit

def inL (s : ByteArray) (c : Int) : Bool := s.data.toList.any fun b => (b.toNat : Int) == c
def hasG (o : Int) : ByteArray :=
  if o = 1 then ⟨#[100, 105]⟩ else if 2 ≤ o ∧ o ≤ 10 then ⟨#[100, 97, 98]⟩ else if o = 11 then ⟨#[100, 97, 105]⟩ else if o = 12 then ⟨#[97, 98, 105]⟩ else if o = 13 then ⟨#[99]⟩ else if o = 15 then ⟨#[100, 97]⟩ else if o = 16 then ⟨#[97, 115]⟩ else if o = 17 then ⟨#[100, 115]⟩ else ⟨#[]⟩
/-- What the document's letters say is what the code's bits say. -/
structure LetG (o : Int) : Prop where
  d : inL (hasG o) 100 = hasB o 1
  a : inL (hasG o) 97 = hasB o 2
  b : inL (hasG o) 98 = hasB o 4
  i : inL (hasG o) 105 = hasB o 8
  s : inL (hasG o) 115 = hasB o 48
  c : hasB o 64 = true ↔ hasG o = ⟨#[99]⟩
  n : (partsN o != 0) = false ↔ hasG o = ⟨#[]⟩
  f : hasB o 16 = (o == 17)
  t : hasB o 32 = (o == 16)
theorem hasG_none {o : Int} (h : ¬ (o = 1 ∨ o = 2 ∨ o = 3 ∨ o = 4 ∨ o = 5 ∨ o = 6 ∨ o = 7 ∨ o = 8 ∨ o = 9 ∨ o = 10 ∨ o = 11 ∨ o = 12 ∨ o = 13 ∨ o = 15 ∨ o = 16 ∨ o = 17)) : hasG o = ⟨#[]⟩ := by
  unfold hasG
  rw [if_neg (by omega), if_neg (by omega), if_neg (by omega), if_neg (by omega), if_neg (by omega), if_neg (by omega), if_neg (by omega), if_neg (by omega)]
theorem let_g (o : Int) : LetG o := by
  by_cases h : o = 1 ∨ o = 2 ∨ o = 3 ∨ o = 4 ∨ o = 5 ∨ o = 6 ∨ o = 7 ∨ o = 8 ∨ o = 9 ∨ o = 10 ∨ o = 11 ∨ o = 12 ∨ o = 13 ∨ o = 15 ∨ o = 16 ∨ o = 17
  · rcases h with rfl | rfl | rfl | rfl | rfl | rfl | rfl | rfl | rfl | rfl | rfl | rfl | rfl | rfl | rfl | rfl <;> exact ⟨by decide, by decide, by decide, by decide, by decide, by decide, by decide, by decide, by decide⟩
  · have hg := hasG_none h
    rcases op_cases o with ⟨h0, hk⟩ | h2
    · refine ⟨by rw [hg, hk]; rfl, by rw [hg, hk]; rfl, by rw [hg, hk]; rfl, by rw [hg, hk]; rfl, by rw [hg, hk]; rfl, by rw [hg, hk]; decide, by rw [hg, h0]; decide, ?_, ?_⟩
      · rw [hk]
        have : (o == 17) = false := by simp; omega
        rw [this]
      · rw [hk]
        have : (o == 16) = false := by simp; omega
        rw [this]
    · exact absurd h2 h
theorem inserted6_any (o : Int) (w : World) : Calls Tryd.prog 19 #[.int .i64 o] w fun e w' => e = .returned (.bool (insertedT o)) ∧ w = w' := by
  go_enter Tryd.func19, Tryd.ntmps19
  cases h1 : (o == 15)
  · cases h2 : (o == 16)
    · cases h3 : (o == 17)
      · go_wp2
        go_ret
        exact ⟨by simp [insertedT, h1, h2, h3], rfl⟩
      · go_wp2
        go_ret
        exact ⟨by simp [insertedT, h1, h2, h3], rfl⟩
    · go_wp2
      go_ret
      exact ⟨by simp [insertedT, h1, h2], rfl⟩
  · go_wp2
    go_ret
    exact ⟨by simp [insertedT, h1], rfl⟩
set_option maxRecDepth 100000 in
theorem in6_any (s : ByteArray) (c : Int) (w : World) (hs : s.size ≤ 1000) : Calls Tryd.prog 41 #[.string s, .int .u8 c] w fun e w' => e = .returned (.bool (inL s c)) ∧ w = w' := by
  have hl : s.data.toList.length = s.size := rfl
  go_enter Tryd.func41, Tryd.ntmps41
  go_wp2
  go_loopw [5] (fun k wr => ∃ j : Nat, k = .int .i64 j ∧ j ≤ s.size ∧ Hid (inL s c = (s.data.toList.drop j).any fun b => (b.toNat : Int) == c) ∧ w = wr) (fun k _ => s.size - (intOf k).toNat)
  case atStart => exact ⟨0, rfl, Nat.zero_le _, rfl, rfl⟩
  case round =>
    obtain ⟨j, rfl, hj, HA, rfl⟩ := hrel
    by_cases hlt : j < s.size
    · have hlt' : (j : Int) < s.size := by omega
      have hj0 : (0 : Int) ≤ j := by omega
      have HD : Hid (inL s c = (((s[j].toNat : Int) == c) || (s.data.toList.drop (j + 1)).any fun b => (b.toNat : Int) == c)) := by
        show _ = _
        rw [HA.out, List.drop_eq_getElem_cons (by omega)]
        rfl
      clear HA
      cases hq : ((s[j].toNat : Int) == c)
      · rw [hq] at HD
        go_wp2
        go_roundw
        case rel => exact ⟨j + 1, by go_num, by omega, by have := HD.out; simpa [Hid] using this, trivial⟩
        case measure => simp [intOf]; omega
      · rw [hq] at HD
        go_wp2
        go_ret
        exact ⟨by rw [HD.out]; rfl, rfl⟩
    · have e : j = s.size := by omega
      subst e
      go_wp2
      go_ret
      refine ⟨?_, rfl⟩
      rw [HA.out, List.drop_eq_nil_of_le (by omega)]
      rfl
set_option maxHeartbeats 4000000 in
set_option maxRecDepth 100000 in
theorem has6_any (o : Int) (w : World) : Calls Tryd.prog 40 #[.int .i64 o] w fun e w' => e = .returned (.string (hasG o)) ∧ w = w' := by
  by_cases h1 : o = 1
  · subst h1
    go_enter Tryd.func40, Tryd.ntmps40
    go_wp2
    go_ret
    exact ⟨rfl, rfl⟩
  have q1 : (o == 1) = false := by simp [h1]
  by_cases h2 : 2 ≤ o ∧ o ≤ 10
  · obtain ⟨h2a, h2b⟩ := h2
    have HE : Hid (hasG o = ⟨#[100, 97, 98]⟩) := by
      show _ = _
      unfold hasG
      rw [if_neg h1, if_pos ⟨h2a, h2b⟩]
    clear h1
    go_enter Tryd.func40, Tryd.ntmps40
    go_wp2
    go_ret
    exact ⟨by rw [HE.out]; rfl, rfl⟩
  by_cases h11 : o = 11
  · subst h11
    go_enter Tryd.func40, Tryd.ntmps40
    go_wp2
    go_ret
    exact ⟨rfl, rfl⟩
  by_cases h12 : o = 12
  · subst h12
    go_enter Tryd.func40, Tryd.ntmps40
    go_wp2
    go_ret
    exact ⟨rfl, rfl⟩
  by_cases h13 : o = 13
  · subst h13
    go_enter Tryd.func40, Tryd.ntmps40
    go_wp2
    go_ret
    exact ⟨rfl, rfl⟩
  by_cases h15 : o = 15
  · subst h15
    go_enter Tryd.func40, Tryd.ntmps40
    go_wp2
    go_ret
    exact ⟨rfl, rfl⟩
  by_cases h16 : o = 16
  · subst h16
    go_enter Tryd.func40, Tryd.ntmps40
    go_wp2
    go_ret
    exact ⟨rfl, rfl⟩
  by_cases h17 : o = 17
  · subst h17
    go_enter Tryd.func40, Tryd.ntmps40
    go_wp2
    go_ret
    exact ⟨rfl, rfl⟩
  have HE : Hid (hasG o = ⟨#[]⟩) := hasG_none (by omega)
  have q11 : (o == 11) = false := by simp [h11]
  have q12 : (o == 12) = false := by simp [h12]
  have q13 : (o == 13) = false := by simp [h13]
  have q15 : (o == 15) = false := by simp [h15]
  have q16 : (o == 16) = false := by simp [h16]
  have q17 : (o == 17) = false := by simp [h17]
  by_cases h2a : 2 ≤ o
  · have h2b : ¬ o ≤ 10 := fun h => h2 ⟨h2a, h⟩
    clear h1 h2 h11 h12 h13 h15 h16 h17
    go_enter Tryd.func40, Tryd.ntmps40
    go_wp2
    go_ret
    exact ⟨by rw [HE.out]; rfl, rfl⟩
  · clear h1 h2 h11 h12 h13 h15 h16 h17
    go_enter Tryd.func40, Tryd.ntmps40
    go_wp2
    go_ret
    exact ⟨by rw [HE.out]; rfl, rfl⟩
theorem loc_size : (Tryd.prog.info? 65).map (·.size) = some 2 := by kernel_rfl
set_option maxRecDepth 100000 in
theorem reg6_any (n : Int) (w : World) : Calls Tryd.prog 42 #[.int .i64 n] w fun e w' => e = .returned (.agg #[.bool false, .int .i64 n]) ∧ Below w.heap.size w w' := by
  go_enter Tryd.func42, Tryd.ntmps42
  go_wp2
  (try simp only [Exit.inBlock, Exit.then])
  refine bodyPost_ret (results_cell_row rfl _ _ w.heap.size 65 _ (0, 0) _ (by simp) (heap_alloc_new w _) Tryd.underlying65 rfl loc_size) rfl ?_
  exact ⟨rfl, (Below.refl _ w).alloc (Nat.le_refl _) _⟩
set_option maxHeartbeats 4000000 in
set_option maxRecDepth 100000 in
theorem needs6_any (t : Tt) (w : World) : Calls Tryd.prog 17 #[termV t] w fun e w' => ∃ v, e = .returned v ∧ OwnL w' w.heap.size v (needsT t) ∧ Below w.heap.size w w' := by
  have HE := Lib.hid (needsT.eq_1 t)
  have HC := Lib.hid (tmC.eq_1 t)
  have HX : Hid (Blk (w.alloc (.cells (tmC t) 28)) w.heap.size 28 (tmC t)) := Blk.new w _ _
  have HB : Hid (Below w.heap.size w (w.alloc (.cells (tmC t) 28))) := (Below.refl _ w).alloc (Nat.le_refl _) _
  rw [HC.out] at HB HX
  unfold termV
  by_cases h2 : t.kind = 2
  · have q2 : (t.kind == 2) = true := by simp [h2]
    rw [if_pos (.inl h2)] at HE
    clear h2
    go_enter Tryd.func17, Tryd.ntmps17
    go_wp2_with fail
    refine (reg6_any t.a _).mono ?_
    rintro e w1 ⟨rfl, hb⟩
    have HB1 : Hid (Below w.heap.size w w1) := Lib.hid (HB.out.trans (hb.mono HB.out.size))
    clear hb
    go_wp2
    go_ret
    exact ⟨_, rfl, by rw [HE.out]; exact OwnL.one (Blk.new w1 _ _) HB1.out.size, HB1.out.alloc HB1.out.size _⟩
  have q2 : (t.kind == 2) = false := by simp [h2]
  by_cases h3 : t.kind = 3
  · have q3 : (t.kind == 3) = true := by simp [h3]
    by_cases h4 : t.a = -1
    · have q4 : (t.a != -1) = false := by simp [h4]
      rw [if_neg (by omega)] at HE
      clear h2 h3 h4
      go_enter Tryd.func17, Tryd.ntmps17
      go_wp2
      go_ret
      exact ⟨_, rfl, by rw [HE.out]; exact OwnL.none _ _, HB.out⟩
    · have q4 : (t.a != -1) = true := by simp [h4]
      rw [if_pos (.inr ⟨h3, h4⟩)] at HE
      clear h2 h3 h4
      go_enter Tryd.func17, Tryd.ntmps17
      go_wp2_with fail
      refine (reg6_any t.a _).mono ?_
      rintro e w1 ⟨rfl, hb⟩
      have HB1 : Hid (Below w.heap.size w w1) := Lib.hid (HB.out.trans (hb.mono HB.out.size))
      clear hb
      go_wp2
      go_ret
      exact ⟨_, rfl, by rw [HE.out]; exact OwnL.one (Blk.new w1 _ _) HB1.out.size, HB1.out.alloc HB1.out.size _⟩
  · have q3 : (t.kind == 3) = false := by simp [h3]
    rw [if_neg (by omega)] at HE
    clear h2 h3
    go_enter Tryd.func17, Tryd.ntmps17
    go_wp2
    go_ret
    exact ⟨_, rfl, by rw [HE.out]; exact OwnL.none _ _, HB.out⟩
theorem bytes_ne {a b : ByteArray} (h : ¬ a = b) : ¬ a.toList = b.toList := by
  rw [ByteArray.toList_eq, ByteArray.toList_eq]
  exact fun e => h (ByteArray.ext (Array.toList_inj.mp e))
theorem bytes_empty {a : ByteArray} (h : ¬ a = ⟨#[]⟩) : a.toList.isEmpty = false := by
  have := bytes_ne h
  rw [ByteArray.toList_eq ⟨#[]⟩] at this
  cases e : a.toList with
  | nil => exact absurd (by rw [e]) this
  | cons _ _ => rfl
theorem bytes_c {h : ByteArray} (hc : ¬ h = ⟨#[99]⟩) : (h.toList == [99]) = false := by
  have := bytes_ne hc
  rw [ByteArray.toList_eq ⟨#[99]⟩] at this
  rw [beq_eq_false_iff_ne]
  exact this
theorem hasG_small (o : Int) : (hasG o).size ≤ 1000 := by
  unfold hasG
  repeat' split
  all_goals decide
/-- What the document's parts of an instruction are together. -/
theorem writes_doc (m : Mm) (x : Ii) : writesT m x = if hasB x.op 1 then [regL x.dst] else if x.op = 16 then [(true, x.imm)] else if hasB x.op 64 then [regL m.ret] else [] := by
  unfold writesT
  rcases op_cases x.op with ⟨h, hk⟩ | h | h | h | h | h | h | h | h | h | h | h | h | h | h | h | h
  · rw [hk, hk, hk]
    by_cases h16 : x.op = 16
    · rw [h16] at h
      exact absurd h (by decide)
    · simp [h16]
  all_goals (rw [h]; rfl)
set_option maxHeartbeats 4000000 in
set_option maxRecDepth 100000 in
theorem writes6_any (m : Mm) (aa sa : Option Addr) (ac sc : Nat) (x : Ii) (a : Option Addr) (c : Nat) (w : World) :
    Calls Tryd.prog 15 #[machV m aa ac sa sc, insV x a c] w fun e w' => ∃ v, e = .returned v ∧ OwnL w' w.heap.size v (writesT m x) ∧ Below w.heap.size w w' := by
  have HT := Lib.hid (TwoM.new w m aa sa ac sc x a c)
  have HE := Lib.hid (writes_doc m x)
  have HH := Lib.hid (fun W => has6_any x.op W)
  have L := let_g x.op
  have I100 := Lib.hid (fun W => in6_any (hasG x.op) 100 W (hasG_small _))
  have HCC := Lib.hid L.c
  rw [L.d] at I100
  have HM := Lib.hid (maxC.eq_1 m aa ac sa sc)
  have HC := Lib.hid (insC.eq_1 x a c)
  rw [HM.out, HC.out] at HT
  generalize hasG x.op = h at *
  generalize hasB x.op 1 = t1 at *
  generalize hasB x.op 64 = t64 at *
  clear L
  unfold machV insV
  rw [HM.out]
  go_enter Tryd.func15, Tryd.ntmps15
  go_wp2_with fail
  refine (HH.out _).mono ?_
  rintro e w1 ⟨rfl, rfl⟩
  go_wp2_with fail
  refine (I100.out _).mono ?_
  rintro e w1 ⟨rfl, rfl⟩
  cases t1
  case true =>
    rw [if_pos rfl] at HE
    go_wp2_with fail
    refine (reg6_any x.dst _).mono ?_
    rintro e w1 ⟨rfl, hb⟩
    have HT1 := Lib.hid (HT.out.below hb)
    clear hb
    go_wp2
    go_ret
    exact ⟨_, rfl, by rw [HE.out]; exact OwnL.one (Blk.new w1 _ _) HT1.out.be.size, HT1.out.be.alloc HT1.out.be.size _⟩
  rw [if_neg (by decide)] at HE
  by_cases h16 : x.op = 16
  · have q16 : (x.op == 16) = true := by simp [h16]
    rw [if_pos h16] at HE
    clear h16
    have HO := Lib.hid (blk_at (W := (w.alloc (.cells #[.int .i64 m.regs, .slice aa m.args.length ac, .int .i64 m.ret, .slice sa m.saved.length sc] 24)).alloc (.cells #[.int .i64 x.op, .int .i64 x.dst, .int .i64 x.a, .int .i64 x.b, .int .i64 x.imm, .int .i64 x.callee, .slice a x.args.length c, .int .i64 x.many] 31)) 65 #[.bool true, .int .i64 x.imm] (show _ = w.heap.size + 1 + 1 by simp))
    have HB2 := Lib.hid (HT.out.alloc (.cells #[.bool true, .int .i64 x.imm] 65)).be
    go_wp2
    go_ret
    exact ⟨_, rfl, by rw [HE.out]; exact OwnL.one HO.out (by omega), HB2.out⟩
  have q16 : (x.op == 16) = false := by simp [h16]
  rw [if_neg h16] at HE
  clear h16
  cases t64
  case true =>
    have hc : h = ⟨#[99]⟩ := HCC.out.1 rfl
    subst hc
    rw [if_pos rfl] at HE
    go_wp2_with fail
    refine (reg6_any m.ret _).mono ?_
    rintro e w1 ⟨rfl, hb⟩
    have HT1 := Lib.hid (HT.out.below hb)
    clear hb
    go_wp2
    go_ret
    exact ⟨_, rfl, by rw [HE.out]; exact OwnL.one (Blk.new w1 _ _) HT1.out.be.size, HT1.out.be.alloc HT1.out.be.size _⟩
  have hc : ¬ h = ⟨#[99]⟩ := fun h => by have := HCC.out.2 h; cases this
  have hc3 := bytes_c hc
  rw [if_neg (by decide)] at HE
  go_wp2
  go_ret
  exact ⟨_, rfl, by rw [HE.out]; exact OwnL.none _ _, HT.out.be⟩
end Go.Proofs.YtbckkmicdpjnaaaDoor
