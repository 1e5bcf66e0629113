/-
  Numbers as words, and words as numbers: strconv's Itoa and Atoi, behind whatever lay ahead. Conditions: the library's tables hold what the library's text lays.
  Package read's words of variables, Ops: which one a word is. Conditions: the library's tables, its errors, and the Ops' names are there.
-/
import Derived.Test.YthiipgahbmoiiaaGreatDoorPk8
import Derived.Test.YthiipgahbmoiiaaGreatDoorPk1
import Derived.Lib.ItoaLen
import Derived.Lib.AtoiErrMem
import Derived.Laws.Concat
namespace Go.Proofs.YthiipgahbmoiiaaGreatDoor
open Go.RowKit

theorem var_below {w w' : World} (hb : Below w.heap.size w w') {name : String} {cs : Array Value} (h : w.var? Tryz.prog name = some cs) : w'.var? Tryz.prog name = some cs := by
  unfold World.var? at *
  cases hg : Tryz.prog.globalNamed name with
  | none => simp [hg] at h
  | some g =>
    simp only [hg, Option.bind_some] at h ⊢
    cases hk : w.heap[g]? with
    | none => simp [hk] at h
    | some o => rw [hb.block g (Array.getElem?_eq_some_iff.1 hk).1, hk]; rw [hk] at h; exact h
/-- The powers of ten lie as they were laid. -/
def PowW (w : World) : Prop := Lib.TabIs Tryz.prog w "internal/strconv.uint64pow10" .u64 Lib.pow10Tab
theorem PowW.below {w w' : World} (h : PowW w) (hb : Below w.heap.size w w') : PowW w' := var_below hb h
/-- Both of strconv's errors are there. -/
def ErrsW (w : World) : Prop := (∃ t p, w.var? Tryz.prog "strconv.ErrSyntax" = some #[.iface t p]) ∧ ∃ t p, w.var? Tryz.prog "strconv.ErrRange" = some #[.iface t p]
theorem ErrsW.below {w w' : World} (h : ErrsW w) (hb : Below w.heap.size w w') : ErrsW w' := by
  obtain ⟨⟨t, p, h1⟩, t', p', h2⟩ := h
  exact ⟨⟨t, p, var_below hb h1⟩, t', p', var_below hb h2⟩
/-- A number's digits. -/
def itS (n : Int) : ByteArray := ⟨(Lib.itoa n).toArray⟩
theorem itS_len (n : Int) (h0 : -9223372036854775808 ≤ n) (h1 : n ≤ 9223372036854775807) : (itS n).size ≤ 21 := by
  show (Lib.itoa n).toArray.size ≤ 21
  rw [List.size_toArray]
  exact Lib.itoa_length_le n h0 h1
theorem below_grow (w : World) (k : Nat) (os : Array Obj) : Below w.heap.size w (Sort.grow (w.drewN k) os) := by
  refine (below_draws (Below.refl _ w) k).trans ⟨rfl, rfl, rfl, ?_, ?_⟩
  · simp [Sort.grow]
  · intro j hj
    simp only [Sort.grow]
    exact Array.getElem?_append_left hj
theorem itoaP_any (n : Int) (w : World) (hP : PowW w) (h0 : -9223372036854775808 ≤ n) (h1 : n ≤ 9223372036854775807) :
    Calls Tryz.prog 27 #[.int .i64 n] w fun e w' => e = .returned (.string (itS n)) ∧ Below w.heap.size w w' :=
  (Tryz.strconv_Itoa n h0 h1 w hP).mono fun _ _ ⟨h2, k, os, h3⟩ => ⟨h2, h3 ▸ below_grow w k os⟩
theorem atoi_good (s : ByteArray) (v : Int) (w : World) (hs : s.size ≤ 1000000) (h : Lib.atoiAll s.data.toList = .ok v) :
    Calls Tryz.prog 162 #[.string s] w fun e w' => e = .returned (.tuple #[.int .i64 v, .nilIface]) ∧ Below w.heap.size w w' :=
  (Tryz.strconv_Atoi_ok s (by omega) v h w).mono fun e w' ⟨h1, h2⟩ => ⟨h1, by
    rcases h2 with rfl | ⟨t, rfl⟩
    · exact Below.refl _ _
    · exact Lib.bytesWorld_below _ _ _⟩
theorem atoi_bad (s : ByteArray) (w : World) (hE : ErrsW w) (hs : s.size ≤ 1000000) (h : ∀ v, Lib.atoiAll s.data.toList ≠ .ok v) :
    Calls Tryz.prog 162 #[.string s] w fun e w' => ∃ (v : Int) (t : TypeId) (N : Nat), e = .returned (.tuple #[.int .i64 v, .iface t (.pointer (some ⟨N, 0, none⟩))]) ∧ Below w.heap.size w w' := by
  obtain ⟨⟨t, p, h1⟩, t', p', h2⟩ := hE
  cases hh : Lib.atoiAll s.data.toList
  case ok v => exact absurd hh (h v)
  case range => exact (Tryz.strconv_Atoi_range_var s (by omega) hh t' p' w h2).mono fun e w' ⟨N, g1, _, _, g4⟩ => ⟨_, _, N, g1, g4⟩
  · exact (Any.strconv_Atoi_syntax_var Tryz.laysC172 s (by omega) hh t p w h1).mono fun e w' ⟨N, g1, _, _, g4⟩ => ⟨0, _, N, g1, g4⟩
/-- Small numbers, as they are written, are read. -/
theorem atoi_itoa : ∀ n : Nat, n < 400 → Lib.atoiAll (Lib.itoa (n : Int)) = .ok (n : Int) := by
  have h : ((List.range 400).all fun (n : Nat) => match Lib.atoiAll (Lib.itoa (n : Int)) with | .ok v => v == (n : Int) | _ => false) = true := by decide +kernel
  intro n hn
  have h1 := List.all_eq_true.1 h n (by simpa using hn)
  cases hh : Lib.atoiAll (Lib.itoa (n : Int))
  case ok v => rw [hh] at h1; simp at h1; rw [h1]
  all_goals (rw [hh] at h1; cases h1)
end Go.Proofs.YthiipgahbmoiiaaGreatDoor
namespace Go.Proofs.YthiipgahbmoiiaaGreatDoor
open Go.RowKit

/-- A variable's word; the variable that a word is, 0: none. -/
def vaT (n : Int) : ByteArray := ⟨#[118]⟩ ++ itS n
def varT (s : ByteArray) : Nat := ((List.range' 1 200).find? fun (n : Nat) => decide (s = vaT (n : Int))).getD 0
theorem vaT_inj {a b : Nat} (ha : a < 400) (hb : b < 400) (h : vaT (a : Int) = vaT (b : Int)) : a = b := by
  have h0 : itS (a : Int) = itS (b : Int) := by
    have h1 : (⟨#[118]⟩ ++ itS (a : Int) : ByteArray).data = (⟨#[118]⟩ ++ itS (b : Int) : ByteArray).data := congrArg ByteArray.data h
    rw [ByteArray.data_append, ByteArray.data_append] at h1
    have h2 := congrArg Array.toList h1
    simp only [Array.toList_append] at h2
    exact ByteArray.ext (Array.toList_inj.mp (List.append_cancel_left h2))
  have h1 : Lib.itoa (a : Int) = Lib.itoa (b : Int) := by
    have := congrArg (fun x : ByteArray => x.data.toList) h0
    simpa [itS] using this
  have h2 := atoi_itoa a ha
  rw [h1, atoi_itoa b hb] at h2
  simp at h2
  omega
theorem varT_hit {n : Nat} {s : ByteArray} (h1 : 1 ≤ n) (h2 : n ≤ 200) (h : s = vaT (n : Int)) : varT s = n := by
  have e : (List.range' 1 200).find? (fun (m : Nat) => decide (s = vaT (m : Int))) = some n := by
    rw [List.find?_eq_some_iff_append]
    refine ⟨by simpa using h, List.range' 1 (n - 1), List.range' (n + 1) (200 - n), ?_, fun k hk => ?_⟩
    · rw [show (200 : Nat) = (n - 1) + ((200 - n) + 1) by omega, ← List.range'_append_1, List.range'_succ, show 1 + (n - 1) = n by omega, show n - 1 + (200 - n + 1) - n = 200 - n by omega]
    · have hk' := List.mem_range'_1.1 hk
      simp only [Bool.not_eq_true', decide_eq_false_iff_not]
      intro e
      rw [h] at e
      have := vaT_inj (by omega) (by omega) e
      omega
  unfold varT
  rw [e]
  rfl
theorem varT_is {n : Nat} {s : ByteArray} (h : varT s = n) (h0 : n ≠ 0) : (1 ≤ n ∧ n ≤ 200) ∧ s = vaT (n : Int) := by
  unfold varT at h
  cases hf : (List.range' 1 200).find? (fun (m : Nat) => decide (s = vaT (m : Int))) with
  | none => rw [hf] at h; exact absurd h.symm h0
  | some m =>
    rw [hf] at h
    obtain rfl : m = n := h
    have h1 := List.mem_range'_1.1 (List.mem_of_find?_eq_some hf)
    have h2 := List.find?_some hf
    exact ⟨by omega, by simpa using h2⟩
theorem varT_le (s : ByteArray) : varT s ≤ 200 := by
  by_cases h : varT s = 0
  · omega
  · exact (varT_is rfl h).1.2
theorem trim_var (n : Int) : Lib.trimPrefix (vaT n).data.toList [118] = Lib.itoa n := by
  have e : (vaT n).data.toList = [118] ++ Lib.itoa n := by
    unfold vaT
    rw [ByteArray.data_append]
    simp [itS]
  unfold Lib.trimPrefix
  rw [e]
  have hp : Lib.hasPrefix ([118] ++ Lib.itoa n) [118] = true := by
    unfold Lib.hasPrefix
    simp
  rw [hp]
  simp
set_option maxRecDepth 100000 in
set_option maxHeartbeats 4000000 in
theorem written_any (n : Int) (w : World) (hP : PowW w) (h0 : -9223372036854775808 ≤ n) (h1 : n ≤ 9223372036854775807) : Calls Tryz.prog 106 #[.int .i64 n] w fun e w' => e = .returned (.string (vaT n)) ∧ Below w.heap.size w w' := by
  have I := Lib.hid (itoaP_any n w hP h0 h1)
  have hz := itS_len n h0 h1
  obtain ⟨q, hq, hqe⟩ : ∃ q : ByteArray, (∀ w, (Op.stringOp .add ⟨#[118]⟩ (itS n)).run Tryz.prog w = .ok (.string q) w) ∧ Hid (vaT n = q) := ⟨_, fun w => run_string_add_sum w _ _ (by show 1 + _ ≤ _; omega), rfl⟩
  clear hP hz
  generalize itS n = t at *
  go_enter Tryz.func106, Tryz.ntmps106
  go_wp2_with fail
  refine I.out.mono ?_
  rintro e w1 ⟨rfl, hb⟩
  have HB := Lib.hid hb
  clear hb I
  go_wp2
  go_ret
  exact ⟨by rw [hqe.out]; rfl, HB.out⟩
set_option maxRecDepth 100000 in
set_option maxHeartbeats 4000000 in
theorem variableOf_any (s : ByteArray) (w : World) (hs : s.size ≤ 400000) (hP : PowW w) (hE : ErrsW w) :
    Calls Tryz.prog 123 #[.string s] w fun e w' => e = .returned (.int .i64 (varT s : Nat)) ∧ Below w.heap.size w w' := by
  have TP := Lib.hid (Tryz.strings_TrimPrefix s ⟨#[118]⟩ w)
  have hr : (⟨(Lib.trimPrefix s.data.toList [118]).toArray⟩ : ByteArray).size ≤ 1000000 := by
    show (Lib.trimPrefix _ _).toArray.size ≤ _
    rw [List.size_toArray]
    have : (Lib.trimPrefix s.data.toList [118]).length ≤ s.data.toList.length := by
      unfold Lib.trimPrefix
      split
      · simp
      · exact Nat.le_refl _
    have e : s.data.toList.length = s.size := by rw [Array.length_toList]; rfl
    omega
  have HR := Lib.hid hr
  have HN : Hid (∀ n, varT s = n → n ≠ 0 → Lib.atoiAll (Lib.trimPrefix s.data.toList [118]) = .ok (n : Int)) := fun n h h0 => by
    obtain ⟨h1, h2⟩ := varT_is h h0
    rw [h2, trim_var]
    exact atoi_itoa n (by omega)
  have HD : Hid ((⟨(Lib.trimPrefix s.data.toList [118]).toArray⟩ : ByteArray).data.toList = Lib.trimPrefix s.data.toList [118]) := by simp [Hid]
  rw [show (⟨#[118]⟩ : ByteArray).data.toList = [118] from rfl] at TP
  generalize hrr : Lib.trimPrefix s.data.toList [118] = r at *
  have HP := Lib.hid hP
  have HE := Lib.hid hE
  clear hP hE hr hrr
  by_cases hok : ∃ v, Lib.atoiAll r = .ok v
  · obtain ⟨v, hv⟩ := hok
    have AT := Lib.hid (atoi_good ⟨r.toArray⟩ v w HR.out (by rw [HD.out]; exact hv))
    have HV := Lib.hid hv
    clear hv HD HR
    by_cases h0 : v < 1
    · have hq : varT s = 0 := by
        by_cases h : varT s = 0
        · exact h
        · have h2 := HN.out _ rfl h
          rw [HV.out] at h2
          simp at h2
          omega
      rw [hq]
      clear hq HN HV
      go_enter Tryz.func123, Tryz.ntmps123
      go_wp2_with fail
      refine TP.out.mono ?_
      rintro e w1 ⟨rfl, rfl⟩
      go_wp2_with fail
      refine AT.out.mono ?_
      rintro e w2 ⟨rfl, hb2⟩
      have HB2 := Lib.hid hb2
      clear hb2 AT TP
      go_wp2
      go_ret
      exact ⟨rfl, HB2.out⟩
    by_cases h1 : 200 < v
    · have hq : varT s = 0 := by
        by_cases h : varT s = 0
        · exact h
        · have h2 := HN.out _ rfl h
          rw [HV.out] at h2
          simp at h2
          have := varT_le s
          omega
      rw [hq]
      clear hq HN HV
      go_enter Tryz.func123, Tryz.ntmps123
      go_wp2_with fail
      refine TP.out.mono ?_
      rintro e w1 ⟨rfl, rfl⟩
      go_wp2_with fail
      refine AT.out.mono ?_
      rintro e w2 ⟨rfl, hb2⟩
      have HB2 := Lib.hid hb2
      clear hb2 AT TP
      go_wp2
      go_ret
      exact ⟨rfl, HB2.out⟩
    obtain ⟨n, rfl⟩ := Int.eq_ofNat_of_zero_le (show 0 ≤ v by omega)
    have hn1 : 1 ≤ n := by omega
    have hn2 : n ≤ 200 := by omega
    have NB : Hid (∀ W, Below w.heap.size w W → Calls Tryz.prog 106 #[.int .i64 (n : Int)] W fun e w' => e = .returned (.string (vaT (n : Int))) ∧ Below W.heap.size W w') := fun W hb => written_any n W (HP.out.below hb) (by omega) (by omega)
    by_cases he : s = vaT (n : Int)
    · have hq := varT_hit hn1 hn2 he
      rw [hq]
      rw [← he] at NB
      clear hq HN HV he
      go_enter Tryz.func123, Tryz.ntmps123
      go_wp2_with fail
      refine TP.out.mono ?_
      rintro e w1 ⟨rfl, rfl⟩
      go_wp2_with fail
      refine AT.out.mono ?_
      rintro e w2 ⟨rfl, hb2⟩
      have HB2 := Lib.hid hb2
      have NB2 := Lib.hid (NB.out _ hb2)
      clear hb2 AT TP NB
      go_wp2_with fail
      refine NB2.out.mono ?_
      rintro e w3 ⟨rfl, hb3⟩
      have HB3 := Lib.hid (HB2.out.trans (hb3.mono HB2.out.size))
      clear hb3 NB2
      go_wp2
      go_ret
      exact ⟨rfl, HB3.out⟩
    · have hq : varT s = 0 := by
        by_cases h : varT s = 0
        · exact h
        · have h2 := HN.out _ rfl h
          rw [HV.out] at h2
          injection h2 with h2
          have h3 := (varT_is rfl h).2
          have : n = varT s := by omega
          rw [← this] at h3
          exact absurd h3 he
      rw [hq]
      clear hq HN HV
      generalize vaT (n : Int) = u at *
      have hne : ¬ s.toList = u.toList := by
        rw [ByteArray.toList_eq, ByteArray.toList_eq]
        exact fun e => he (ByteArray.ext (Array.toList_inj.mp e))
      have hbe : (s.toList == u.toList) = false := beq_eq_false_iff_ne.2 hne
      have hd0 : decide ((n : Int) < 1) = false := decide_eq_false (by omega)
      have hd1 : decide ((200 : Int) < n) = false := decide_eq_false (by omega)
      go_enter Tryz.func123, Tryz.ntmps123
      go_wp2_with fail
      refine TP.out.mono ?_
      rintro e w1 ⟨rfl, rfl⟩
      go_wp2_with fail
      refine AT.out.mono ?_
      rintro e w2 ⟨rfl, hb2⟩
      have HB2 := Lib.hid hb2
      have NB2 := Lib.hid (NB.out _ hb2)
      clear hb2 AT TP NB
      go_wp2_with fail
      refine NB2.out.mono ?_
      rintro e w3 ⟨rfl, hb3⟩
      have HB3 := Lib.hid (HB2.out.trans (hb3.mono HB2.out.size))
      clear hb3 NB2
      go_wp2
      go_ret
      exact ⟨rfl, HB3.out⟩
  · have hq : varT s = 0 := by
      by_cases h : varT s = 0
      · exact h
      · exact absurd ⟨_, HN.out _ rfl h⟩ hok
    have AT := Lib.hid (atoi_bad ⟨r.toArray⟩ w HE.out HR.out (by rw [HD.out]; exact fun v h => hok ⟨v, h⟩))
    rw [hq]
    clear hq HN hok HD HR
    go_enter Tryz.func123, Tryz.ntmps123
    go_wp2_with fail
    refine TP.out.mono ?_
    rintro e w1 ⟨rfl, rfl⟩
    go_wp2_with fail
    refine AT.out.mono ?_
    rintro e w2 ⟨v, T, N, rfl, hb2⟩
    have HB2 := Lib.hid hb2
    have hnn : ∀ W, (binOp .neq 96 (.iface T (.pointer (some ⟨N, 0, none⟩))) .nilIface).run Tryz.prog W = .ok (.bool true) W := fun W => by kernel_rfl
    clear hb2 AT TP
    go_wp2
    go_ret
    exact ⟨rfl, HB2.out⟩
def opNameR : List ByteArray := [⟨#[]⟩, ⟨#[99, 111, 110, 115, 116]⟩, ⟨#[97, 100, 100]⟩, ⟨#[115, 117, 98]⟩, ⟨#[109, 117, 108]⟩, ⟨#[100, 105, 118]⟩, ⟨#[97, 110, 100]⟩, ⟨#[111, 114]⟩, ⟨#[120, 111, 114]⟩, ⟨#[108, 101, 115, 115]⟩, ⟨#[115, 97, 109, 101]⟩, ⟨#[108, 111, 97, 100]⟩]
def opNmR (o : Int) : ByteArray := opNameR.getD o.toNat ⟨#[]⟩
def NamesR (w : World) : Prop := 0 < w.heap.size ∧ ∀ i : Nat, i < 12 → w.cell? ⟨0, i, none⟩ = some (.string (opNameR.getD i ⟨#[]⟩))
theorem NamesR.below {w w' : World} (h : NamesR w) (hb : Below w.heap.size w w') : NamesR w' := ⟨Nat.lt_of_lt_of_le h.1 hb.size, fun i hi => (hb.cell h.1).trans (h.2 i hi)⟩
/-- Which Op has that name. -/
def opR (s : ByteArray) : Nat := ((List.range' 1 11).find? fun o => decide (opNameR.getD o ⟨#[]⟩ = s)).getD 0
def opFromR (s : ByteArray) (o : Nat) : Nat := ((List.range' o (12 - o)).find? fun o => decide (opNameR.getD o ⟨#[]⟩ = s)).getD 0
theorem opFromR_hit {s : ByteArray} {o : Nat} (h : o < 12) (e : opNameR.getD o ⟨#[]⟩ = s) : opFromR s o = o := by
  unfold opFromR
  rw [show 12 - o = (12 - (o + 1)) + 1 by omega, List.range'_succ, List.find?_cons_of_pos (by simpa using e)]
  rfl
theorem opFromR_miss {s : ByteArray} {o : Nat} (h : o < 12) (e : ¬ opNameR.getD o ⟨#[]⟩ = s) : opFromR s o = opFromR s (o + 1) := by
  unfold opFromR
  rw [show 12 - o = (12 - (o + 1)) + 1 by omega, List.range'_succ, List.find?_cons_of_neg (by simpa using e)]
set_option maxRecDepth 100000 in
theorem opOfR_any (s : ByteArray) (w : World) (hN : NamesR w) : Calls Tryz.prog 196 #[.string s] w fun e w' => e = .returned (.int .i64 (opR s : Nat)) ∧ w = w' := by
  have HQ : Hid (opR s = opFromR s 1) := rfl
  have HN := Lib.hid hN
  clear hN
  generalize opR s = q at *
  go_enter Tryz.func196, Tryz.ntmps196
  go_wp2
  go_loop [3] (fun v => ∃ o : Nat, v = .int .i64 o ∧ 1 ≤ o ∧ o ≤ 12 ∧ q = opFromR s o) (fun v => 12 - (intOf v).toNat)
  case atStart => exact ⟨1, rfl, by omega, by omega, HQ.out⟩
  case round =>
    obtain ⟨o, rfl, h1, h2, hq⟩ := hrel
    have HQ2 := Lib.hid hq
    clear hq HQ
    by_cases hlt : o < 12
    · have hlt' : (o : Int) ≤ 11 := by omega
      have ho0 : (0 : Int) ≤ o := by omega
      have c0 := HN.out.2 o hlt
      generalize hnm : opNameR.getD o ⟨#[]⟩ = nm at *
      by_cases he : nm = s
      · have HE : Hid (q = o) := HQ2.out.trans (opFromR_hit hlt (hnm.trans he))
        subst he
        clear hnm HQ2
        go_wp2
        go_ret
        exact ⟨by rw [HE.out]; rfl, rfl⟩
      · have HE : Hid (q = opFromR s (o + 1)) := HQ2.out.trans (opFromR_miss hlt (by rw [hnm]; exact he))
        have hne : ¬ nm.toList = s.toList := by
          rw [ByteArray.toList_eq, ByteArray.toList_eq]
          exact fun e => he (ByteArray.ext (Array.toList_inj.mp e))
        have hbe : (nm.toList == s.toList) = false := beq_eq_false_iff_ne.2 hne
        clear hnm HQ2
        go_wp2
        go_round
        case rel => exact ⟨o + 1, by go_num, by omega, by omega, HE.out⟩
        case measure => simp [intOf]; omega
    · have hge : ¬ (o : Int) ≤ 11 := by omega
      have HE : Hid (q = 0) := by
        show q = 0
        rw [HQ2.out, show o = 12 by omega]
        rfl
      go_wp2
      go_ret
      exact ⟨by rw [HE.out]; rfl, rfl⟩
end Go.Proofs.YthiipgahbmoiiaaGreatDoor
