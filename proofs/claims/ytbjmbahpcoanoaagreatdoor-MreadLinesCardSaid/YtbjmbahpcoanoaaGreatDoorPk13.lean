/-
  Package mread's words of registers, slots, Ops: which one a word is. Conditions: the library's tables, its errors, and the Ops' names are there.
  The reader's tests on a rune and on a number answer what the plain functions say. No condition beyond those that each theorem states.
-/
import Derived.Test.YtbjmbahpcoanoaaGreatDoorPk12
import Derived.Test.YtbjmbahpcoanoaaGreatDoorProg
import Derived.Test.YtbjmbahpcoanoaaGreatDoorPk1
import Derived.Test.YtbjmbahpcoanoaaGreatDoorPk2
import Derived.WalkSpells
import Derived.WalkLawsBesides
import Derived.BigQuiet
import Derived.Deep.QuietTactic
namespace Go.Proofs.YtbjmbahpcoanoaaGreatDoor
open Go.RowKit

/-- Which number below a limit has that name, behind those letters. -/
def numT (p : ByteArray) (limit : Nat) (s : ByteArray) : Option Nat := (List.range limit).find? fun n => decide (s = p ++ itS (n : Int))
theorem itS_inj {a b : Nat} (ha : a < 400) (hb : b < 400) (h : itS (a : Int) = itS (b : Int)) : a = b := by
 have h1 : Lib.itoa (a : Int) = Lib.itoa (b : Int) := by
  unfold itS at h
  have := congrArg (fun x : ByteArray => x.data.toList) h
  simpa using this
 have h2 := atoi_itoa a ha
 rw [h1, atoi_itoa b hb] at h2
 simp at h2
 omega
theorem app_inj {p a b : ByteArray} (h : p ++ a = p ++ b) : a = b := by
 have h1 : (p ++ a).data = (p ++ b).data := by rw [h]
 rw [ByteArray.data_append, ByteArray.data_append] at h1
 have h2 : p.data.toList ++ a.data.toList = p.data.toList ++ b.data.toList := by
  have := congrArg Array.toList h1
  simpa using this
 exact ByteArray.ext (Array.toList_inj.mp (List.append_cancel_left h2))
theorem numT_some {p : ByteArray} {limit n : Nat} {s : ByteArray} (hl : limit ≤ 400) (hn : n < limit) (h : s = p ++ itS (n : Int)) : numT p limit s = some n := by
 unfold numT
 rw [List.find?_eq_some_iff_append]
 refine ⟨by simpa using h, List.range n, (List.range' (n + 1) (limit - (n + 1))), ?_, fun k hk => ?_⟩
 · rw [List.range_eq_range', List.range_eq_range']
   rw [show limit = n + ((limit - (n + 1)) + 1) by omega]
   rw [← List.range'_append_1]
   simp [List.range'_succ]
   try omega
 · have hk' := List.mem_range.1 hk
   simp only [Bool.not_eq_true', decide_eq_false_iff_not]
   intro e
   rw [h] at e
   have := itS_inj (by omega) (by omega) (app_inj e)
   omega
theorem numT_is {p : ByteArray} {limit n : Nat} {s : ByteArray} (h : numT p limit s = some n) : n < limit ∧ s = p ++ itS (n : Int) := by
 unfold numT at h
 have h1 := List.mem_range.1 (List.mem_of_find?_eq_some h)
 have h2 := List.find?_some h
 exact ⟨h1, by simpa using h2⟩
theorem trim_num (p : ByteArray) (n : Int) : Lib.trimPrefix (p ++ itS n).data.toList p.data.toList = Lib.itoa n := by
 have e : (p ++ itS n).data.toList = p.data.toList ++ Lib.itoa n := by
  rw [ByteArray.data_append]
  simp [itS]
 unfold Lib.trimPrefix
 rw [e]
 have hp : Lib.hasPrefix (p.data.toList ++ Lib.itoa n) p.data.toList = true := by
  unfold Lib.hasPrefix
  simp
 rw [hp]
 simp
set_option maxRecDepth 100000 in
set_option maxHeartbeats 4000000 in
theorem numberOf_any (s p : ByteArray) (limit : Nat) (w : World) (hs : s.size ≤ 400000) (hp : p.size ≤ 1000) (hl : limit ≤ 400) (hP : PowW w) (hE : ErrsW w) :
    Calls Tryz.prog 196 #[.string s, .string p, .int .i64 limit] w fun e w' => e = .returned (.tuple #[.int .i64 ((numT p limit s).getD 0 : Nat), .bool (numT p limit s).isSome]) ∧ Below w.heap.size w w' := by
 have TP := Lib.hid (Tryz.strings_TrimPrefix s p w)
 have hr : (⟨(Lib.trimPrefix s.data.toList p.data.toList).toArray⟩ : ByteArray).size ≤ 1000000 := by
  show (Lib.trimPrefix _ _).toArray.size ≤ _
  rw [List.size_toArray]
  have : (Lib.trimPrefix s.data.toList p.data.toList).length ≤ s.data.toList.length := by
   unfold Lib.trimPrefix
   split
   · simp
   · exact Nat.le_refl _
  have e : s.data.toList.length = s.size := by rw [Array.length_toList]; rfl
  omega
 have HR := Lib.hid hr
 have HN : Hid (∀ n, numT p limit s = some n → Lib.atoiAll (Lib.trimPrefix s.data.toList p.data.toList) = .ok (n : Int)) := fun n h => by
  obtain ⟨h1, h2⟩ := numT_is h
  rw [h2, trim_num]
  exact atoi_itoa n (by omega)
 have HD : Hid ((⟨(Lib.trimPrefix s.data.toList p.data.toList).toArray⟩ : ByteArray).data.toList = Lib.trimPrefix s.data.toList p.data.toList) := by simp [Hid]
 generalize hrr : Lib.trimPrefix s.data.toList p.data.toList = r at *
 have HP := Lib.hid hP
 have HE := Lib.hid hE
 clear hP hE hr hrr
 by_cases hok : ∃ v, Lib.atoiAll r = .ok v
 · obtain ⟨v, hv⟩ := hok
   have AT := Lib.hid (atoi_good ⟨r.toArray⟩ v w HR.out (by rw [HD.out]; exact hv))
   have HV := Lib.hid hv
   clear hv HD HR
   by_cases h0 : v < 0
   · have hq : numT p limit s = none := by
       cases h : numT p limit s with
       | none => rfl
       | some n => have := HN.out n h; rw [HV.out] at this; simp at this; omega
     rw [hq]
     clear hq HN HV
     go_enter Tryz.func196, Tryz.ntmps196
     go_wp2_with fail
     refine TP.out.mono ?_
     rintro e w1 ⟨rfl, rfl⟩
     go_wp2_with fail
     refine AT.out.mono ?_
     rintro e w2 ⟨rfl, hb2⟩
     have HB2 := Lib.hid hb2
     clear hb2 AT TP
     go_wp2
     go_ret2
     exact ⟨rfl, HB2.out⟩
   by_cases h1 : (limit : Int) ≤ v
   · have hq : numT p limit s = none := by
       cases h : numT p limit s with
       | none => rfl
       | some n => have := HN.out n h; rw [HV.out] at this; simp at this; have := (numT_is h).1; omega
     rw [hq]
     clear hq HN HV
     go_enter Tryz.func196, Tryz.ntmps196
     go_wp2_with fail
     refine TP.out.mono ?_
     rintro e w1 ⟨rfl, rfl⟩
     go_wp2_with fail
     refine AT.out.mono ?_
     rintro e w2 ⟨rfl, hb2⟩
     have HB2 := Lib.hid hb2
     clear hb2 AT TP
     go_wp2
     go_ret2
     exact ⟨rfl, HB2.out⟩
   obtain ⟨n, rfl⟩ := Int.eq_ofNat_of_zero_le (show 0 ≤ v by omega)
   have hnl : n < limit := by omega
   have NB : Hid (∀ W, Below w.heap.size w W → Calls Tryz.prog 139 #[.string p, .int .i64 (n : Int)] W fun e w' => e = .returned (.string (p ++ itS (n : Int))) ∧ Below W.heap.size W w') := fun W hb => numbered_any p n W hp (HP.out.below hb) (by omega) (by omega)
   by_cases he : s = p ++ itS (n : Int)
   · have hq := numT_some hl hnl he
     have HEQ := Lib.hid he
     rw [hq]
     rw [← he] at NB
     clear hq HN HV he
     go_enter Tryz.func196, Tryz.ntmps196
     go_wp2_with fail
     refine TP.out.mono ?_
     rintro e w1 ⟨rfl, rfl⟩
     go_wp2_with fail
     refine AT.out.mono ?_
     rintro e w2 ⟨rfl, hb2⟩
     have HB2 := Lib.hid hb2
     have NB2 := Lib.hid (NB.out _ hb2)
     clear hb2 AT TP NB
     go_wp2_with fail
     refine NB2.out.mono ?_
     rintro e w3 ⟨rfl, hb3⟩
     have HB3 := Lib.hid (HB2.out.trans (hb3.mono HB2.out.size))
     clear hb3 NB2
     go_wp2
     go_ret2
     exact ⟨rfl, HB3.out⟩
   · have hq : numT p limit s = none := by
       cases h : numT p limit s with
       | none => rfl
       | some m =>
        have h2 := HN.out m h
        rw [HV.out] at h2
        injection h2 with h2
        have h3 := (numT_is h).2
        have : n = m := by omega
        subst this
        exact absurd h3 he
     rw [hq]
     clear hq HN HV
     generalize p ++ itS (n : Int) = u at *
     have hne : ¬ s.toList = u.toList := by
      rw [ByteArray.toList_eq, ByteArray.toList_eq]
      exact fun e => he (ByteArray.ext (Array.toList_inj.mp e))
     have hbe : (s.toList == u.toList) = false := beq_eq_false_iff_ne.2 hne
     have hd0 : decide ((n : Int) < 0) = false := decide_eq_false (by omega)
     have hd1 : decide (limit ≤ n) = false := decide_eq_false (by omega)
     go_enter Tryz.func196, Tryz.ntmps196
     go_wp2_with fail
     refine TP.out.mono ?_
     rintro e w1 ⟨rfl, rfl⟩
     go_wp2_with fail
     refine AT.out.mono ?_
     rintro e w2 ⟨rfl, hb2⟩
     have HB2 := Lib.hid hb2
     have NB2 := Lib.hid (NB.out _ hb2)
     clear hb2 AT TP NB
     go_wp2_with fail
     refine NB2.out.mono ?_
     rintro e w3 ⟨rfl, hb3⟩
     have HB3 := Lib.hid (HB2.out.trans (hb3.mono HB2.out.size))
     clear hb3 NB2
     go_wp2
     go_ret2
     exact ⟨rfl, HB3.out⟩
 · have hq : numT p limit s = none := by
     cases h : numT p limit s with
     | none => rfl
     | some n => exact absurd ⟨_, HN.out n h⟩ hok
   have AT := Lib.hid (atoi_bad ⟨r.toArray⟩ w HE.out HR.out (by rw [HD.out]; exact fun v h => hok ⟨v, h⟩))
   rw [hq]
   clear hq HN hok HD HR
   go_enter Tryz.func196, Tryz.ntmps196
   go_wp2_with fail
   refine TP.out.mono ?_
   rintro e w1 ⟨rfl, rfl⟩
   go_wp2_with fail
   refine AT.out.mono ?_
   rintro e w2 ⟨v, T, N, rfl, hb2⟩
   have HB2 := Lib.hid hb2
   have hnn : ∀ W, (binOp .neq 85 (.iface T (.pointer (some ⟨N, 0, none⟩))) .nilIface).run Tryz.prog W = .ok (.bool true) W := fun W => by kernel_rfl
   clear hb2 AT TP
   go_wp2
   go_ret2
   exact ⟨rfl, HB2.out⟩
end Go.Proofs.YtbjmbahpcoanoaaGreatDoor
namespace Go.Proofs.YtbjmbahpcoanoaaGreatDoor
open Go.RowKit

def regT (s : ByteArray) : Option Nat := numT ⟨#[114]⟩ 64 s
def slotT (s : ByteArray) : Option Nat := numT ⟨#[115]⟩ 400 s
set_option maxRecDepth 100000 in
theorem regOf_any (s : ByteArray) (w : World) (hs : s.size ≤ 400000) (hP : PowW w) (hE : ErrsW w) :
    Calls Tryz.prog 184 #[.string s] w fun e w' => e = .returned (.tuple #[.int .i64 ((regT s).getD 0 : Nat), .bool (regT s).isSome]) ∧ Below w.heap.size w w' := by
 have N := Lib.hid (numberOf_any s ⟨#[114]⟩ 64 w hs (by decide) (by omega) hP hE)
 clear hP hE
 show Calls _ _ _ _ fun e w' => e = .returned (.tuple #[.int .i64 ((numT ⟨#[114]⟩ 64 s).getD 0 : Nat), .bool (numT ⟨#[114]⟩ 64 s).isSome]) ∧ _
 generalize numT ⟨#[114]⟩ 64 s = q at *
 go_enter Tryz.func184, Tryz.ntmps184
 go_wp2_with fail
 refine N.out.mono ?_
 rintro e w1 ⟨rfl, hb⟩
 have HB := Lib.hid hb
 clear hb N
 go_wp2
 go_ret2
 exact ⟨rfl, HB.out⟩
set_option maxRecDepth 100000 in
theorem slotOf_any (s : ByteArray) (w : World) (hs : s.size ≤ 400000) (hP : PowW w) (hE : ErrsW w) :
    Calls Tryz.prog 189 #[.string s] w fun e w' => e = .returned (.tuple #[.int .i64 ((slotT s).getD 0 : Nat), .bool (slotT s).isSome]) ∧ Below w.heap.size w w' := by
 have N := Lib.hid (numberOf_any s ⟨#[115]⟩ 400 w hs (by decide) (by omega) hP hE)
 clear hP hE
 show Calls _ _ _ _ fun e w' => e = .returned (.tuple #[.int .i64 ((numT ⟨#[115]⟩ 400 s).getD 0 : Nat), .bool (numT ⟨#[115]⟩ 400 s).isSome]) ∧ _
 generalize numT ⟨#[115]⟩ 400 s = q at *
 go_enter Tryz.func189, Tryz.ntmps189
 go_wp2_with fail
 refine N.out.mono ?_
 rintro e w1 ⟨rfl, hb⟩
 have HB := Lib.hid hb
 clear hb N
 go_wp2
 go_ret2
 exact ⟨rfl, HB.out⟩
/-- Which Op has that name. -/
def opT (s : ByteArray) : Nat := ((List.range' 1 11).find? fun o => decide (opNameL.getD o ⟨#[]⟩ = s)).getD 0
def opFrom (s : ByteArray) (o : Nat) : Nat := ((List.range' o (12 - o)).find? fun o => decide (opNameL.getD o ⟨#[]⟩ = s)).getD 0
theorem opFrom_hit {s : ByteArray} {o : Nat} (h : o < 12) (e : opNameL.getD o ⟨#[]⟩ = s) : opFrom s o = o := by
 unfold opFrom
 rw [show 12 - o = (12 - (o + 1)) + 1 by omega, List.range'_succ, List.find?_cons_of_pos (by simpa using e)]
 rfl
theorem opFrom_miss {s : ByteArray} {o : Nat} (h : o < 12) (e : ¬ opNameL.getD o ⟨#[]⟩ = s) : opFrom s o = opFrom s (o + 1) := by
 unfold opFrom
 rw [show 12 - o = (12 - (o + 1)) + 1 by omega, List.range'_succ, List.find?_cons_of_neg (by simpa using e)]
set_option maxRecDepth 100000 in
theorem opOf_any (s : ByteArray) (w : World) (hN : NamesW w) : Calls Tryz.prog 190 #[.string s] w fun e w' => e = .returned (.int .i64 (opT s : Nat)) ∧ w = w' := by
 have HQ : Hid (opT s = opFrom s 1) := rfl
 have HN := Lib.hid hN
 clear hN
 generalize opT s = q at *
 go_enter Tryz.func190, Tryz.ntmps190
 go_wp2
 go_loop [3] (fun v => ∃ o : Nat, v = .int .i64 o ∧ 1 ≤ o ∧ o ≤ 12 ∧ q = opFrom s o) (fun v => 12 - (intOf v).toNat)
 case atStart => exact ⟨1, rfl, by omega, by omega, HQ.out⟩
 case round =>
  obtain ⟨o, rfl, h1, h2, hq⟩ := hrel
  have HQ2 := Lib.hid hq
  clear hq HQ
  by_cases hlt : o < 12
  · have hlt' : (o : Int) ≤ 11 := by omega
    have ho0 : (0 : Int) ≤ o := by omega
    have c0 := HN.out.2 o hlt
    generalize hnm : opNameL.getD o ⟨#[]⟩ = nm at *
    by_cases he : nm = s
    · have HE : Hid (q = o) := HQ2.out.trans (opFrom_hit hlt (hnm.trans he))
      subst he
      clear hnm HQ2
      go_wp2
      go_ret
      exact ⟨by rw [HE.out]; rfl, rfl⟩
    · have HE : Hid (q = opFrom s (o + 1)) := HQ2.out.trans (opFrom_miss hlt (by rw [hnm]; exact he))
      have hne : ¬ nm.toList = s.toList := by
       rw [ByteArray.toList_eq, ByteArray.toList_eq]
       exact fun e => he (ByteArray.ext (Array.toList_inj.mp e))
      have hbe : (nm.toList == s.toList) = false := beq_eq_false_iff_ne.2 hne
      clear hnm HQ2
      go_wp2
      go_round
      case rel => exact ⟨o + 1, by go_num, by omega, by omega, HE.out⟩
      case measure => simp [intOf]; omega
  · have hge : ¬ (o : Int) ≤ 11 := by omega
    have HE : Hid (q = 0) := by
     show q = 0
     rw [HQ2.out, show o = 12 by omega]
     rfl
    go_wp2
    go_ret
    exact ⟨by rw [HE.out]; rfl, rfl⟩
end Go.Proofs.YtbjmbahpcoanoaaGreatDoor
namespace Go.Proofs.YtbjmbahpcoanoaaGreatDoor
open Go.RowKit

theorem ret_bool {a b : Bool} (h : a = true ↔ b = true) : Ending.returned (.bool a) = .returned (.bool b) := by rw [Bool.eq_iff_iff.2 h]
theorem isDigit_any (r : Int) (w : World) : Calls Tryz.prog 182 #[.int .i32 r] w fun e w' => e = .returned (.bool (digitB r)) ∧ w = w' := by
 by_cases h : 48 ≤ r
 all_goals
  go_enter Tryz.func182, Tryz.ntmps182
  go_wp2
  go_ret
  refine ⟨ret_bool ?_, rfl⟩
  simp [digitB]
  try omega
theorem letter_any (r : Int) (w : World) : Calls Tryz.prog 181 #[.int .i32 r] w fun e w' => e = .returned (.bool (letterB r)) ∧ w = w' := by
 by_cases h : 97 ≤ r <;> by_cases h1 : r ≤ 122 <;> by_cases h2 : 945 ≤ r <;> by_cases h3 : r ≤ 969
 all_goals try (exfalso; omega)
 all_goals
  go_enter Tryz.func181, Tryz.ntmps181
  go_wp2
  go_ret
  refine ⟨ret_bool ?_, rfl⟩
  simp [letterB]
  try omega
theorem bound_any (n : Int) (w : World) : Calls Tryz.prog 195 #[.int .i64 n] w fun e w' => e = .returned (.bool (boundB n)) ∧ w = w' := by
 by_cases h : -1099511627776 ≤ n
 all_goals
  go_enter Tryz.func195, Tryz.ntmps195
  go_wp2
  go_ret
  refine ⟨ret_bool ?_, rfl⟩
  simp [boundB]
  try omega
theorem sign_any (r : Int) (w : World) : Calls Tryz.prog 179 #[.int .i32 r] w fun e w' => e = .returned (.bool (signB r)) ∧ w = w' := by
 go_enter Tryz.func179, Tryz.ntmps179
 go_wp2
 all_goals
  go_ret
  refine ⟨ret_bool ?_, rfl⟩
  simp_all [signB]

end Go.Proofs.YtbjmbahpcoanoaaGreatDoor
