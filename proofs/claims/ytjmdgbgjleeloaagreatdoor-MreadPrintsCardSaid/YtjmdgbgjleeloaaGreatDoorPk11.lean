/-
  Package mread's words of registers, slots, Ops: which one a word is. Conditions: the library's tables, its errors, and the Ops' names are there.
  The reader's tests on a rune and on a number answer what the plain functions say. No condition beyond those that each theorem states.
  The reader's step over a rune, its fault, and how a draft becomes a word, do in memory what the plain functions say. No condition beyond those that each theorem states.
-/
import Derived.Test.YtjmdgbgjleeloaaGreatDoorPk10
import Derived.Test.YtjmdgbgjleeloaaGreatDoorProg
import Derived.Test.YtjmdgbgjleeloaaGreatDoorPk1
import Derived.Test.YtjmdgbgjleeloaaGreatDoorPk2
import Derived.WalkSpells
import Derived.WalkLawsBesides
import Derived.BigQuiet
import Derived.Deep.QuietTactic
import Derived.Deep.RegionHeld3
import Derived.Deep.RegionLaw
import Derived.Deep.AppendLies
import Derived.Lib.Hide
namespace Go.Proofs.YtjmdgbgjleeloaaGreatDoor
open Go.RowKit

/-- Which number below a limit has that name, behind those letters. -/
def numT (p : ByteArray) (limit : Nat) (s : ByteArray) : Option Nat := (List.range limit).find? fun n => decide (s = p ++ itS (n : Int))
theorem itS_inj {a b : Nat} (ha : a < 400) (hb : b < 400) (h : itS (a : Int) = itS (b : Int)) : a = b := by
  have h1 : Lib.itoa (a : Int) = Lib.itoa (b : Int) := by
    unfold itS at h
    have := congrArg (fun x : ByteArray => x.data.toList) h
    simpa using this
  have h2 := atoi_itoa a ha
  rw [h1, atoi_itoa b hb] at h2
  simp at h2
  omega
theorem app_inj {p a b : ByteArray} (h : p ++ a = p ++ b) : a = b := by
  have h1 : (p ++ a).data = (p ++ b).data := by rw [h]
  rw [ByteArray.data_append, ByteArray.data_append] at h1
  have h2 : p.data.toList ++ a.data.toList = p.data.toList ++ b.data.toList := by
    have := congrArg Array.toList h1
    simpa using this
  exact ByteArray.ext (Array.toList_inj.mp (List.append_cancel_left h2))
theorem numT_some {p : ByteArray} {limit n : Nat} {s : ByteArray} (hl : limit ≤ 400) (hn : n < limit) (h : s = p ++ itS (n : Int)) : numT p limit s = some n := by
  unfold numT
  rw [List.find?_eq_some_iff_append]
  refine ⟨by simpa using h, List.range n, (List.range' (n + 1) (limit - (n + 1))), ?_, fun k hk => ?_⟩
  · rw [List.range_eq_range', List.range_eq_range']
    rw [show limit = n + ((limit - (n + 1)) + 1) by omega]
    rw [← List.range'_append_1]
    simp [List.range'_succ]
    try omega
  · have hk' := List.mem_range.1 hk
    simp only [Bool.not_eq_true', decide_eq_false_iff_not]
    intro e
    rw [h] at e
    have := itS_inj (by omega) (by omega) (app_inj e)
    omega
theorem numT_is {p : ByteArray} {limit n : Nat} {s : ByteArray} (h : numT p limit s = some n) : n < limit ∧ s = p ++ itS (n : Int) := by
  unfold numT at h
  have h1 := List.mem_range.1 (List.mem_of_find?_eq_some h)
  have h2 := List.find?_some h
  exact ⟨h1, by simpa using h2⟩
theorem trim_num (p : ByteArray) (n : Int) : Lib.trimPrefix (p ++ itS n).data.toList p.data.toList = Lib.itoa n := by
  have e : (p ++ itS n).data.toList = p.data.toList ++ Lib.itoa n := by
    rw [ByteArray.data_append]
    simp [itS]
  unfold Lib.trimPrefix
  rw [e]
  have hp : Lib.hasPrefix (p.data.toList ++ Lib.itoa n) p.data.toList = true := by
    unfold Lib.hasPrefix
    simp
  rw [hp]
  simp
set_option maxRecDepth 100000 in
set_option maxHeartbeats 4000000 in
theorem numberOf_any (s p : ByteArray) (limit : Nat) (w : World) (hs : s.size ≤ 400000) (hp : p.size ≤ 1000) (hl : limit ≤ 400) (hP : PowW w) (hE : ErrsW w) :
    Calls Tryz.prog 196 #[.string s, .string p, .int .i64 limit] w fun e w' => e = .returned (.tuple #[.int .i64 ((numT p limit s).getD 0 : Nat), .bool (numT p limit s).isSome]) ∧ Below w.heap.size w w' := by
  have TP := Lib.hid (Tryz.strings_TrimPrefix s p w)
  have hr : (⟨(Lib.trimPrefix s.data.toList p.data.toList).toArray⟩ : ByteArray).size ≤ 1000000 := by
    show (Lib.trimPrefix _ _).toArray.size ≤ _
    rw [List.size_toArray]
    have : (Lib.trimPrefix s.data.toList p.data.toList).length ≤ s.data.toList.length := by
      unfold Lib.trimPrefix
      split
      · simp
      · exact Nat.le_refl _
    have e : s.data.toList.length = s.size := by rw [Array.length_toList]; rfl
    omega
  have HR := Lib.hid hr
  have HN : Hid (∀ n, numT p limit s = some n → Lib.atoiAll (Lib.trimPrefix s.data.toList p.data.toList) = .ok (n : Int)) := fun n h => by
    obtain ⟨h1, h2⟩ := numT_is h
    rw [h2, trim_num]
    exact atoi_itoa n (by omega)
  have HD : Hid ((⟨(Lib.trimPrefix s.data.toList p.data.toList).toArray⟩ : ByteArray).data.toList = Lib.trimPrefix s.data.toList p.data.toList) := by simp [Hid]
  generalize hrr : Lib.trimPrefix s.data.toList p.data.toList = r at *
  have HP := Lib.hid hP
  have HE := Lib.hid hE
  clear hP hE hr hrr
  by_cases hok : ∃ v, Lib.atoiAll r = .ok v
  · obtain ⟨v, hv⟩ := hok
    have AT := Lib.hid (atoi_good ⟨r.toArray⟩ v w HR.out (by rw [HD.out]; exact hv))
    have HV := Lib.hid hv
    clear hv HD HR
    by_cases h0 : v < 0
    · have hq : numT p limit s = none := by
        cases h : numT p limit s with
        | none => rfl
        | some n => have := HN.out n h; rw [HV.out] at this; simp at this; omega
      rw [hq]
      clear hq HN HV
      go_enter Tryz.func196, Tryz.ntmps196
      go_wp2_with fail
      refine TP.out.mono ?_
      rintro e w1 ⟨rfl, rfl⟩
      go_wp2_with fail
      refine AT.out.mono ?_
      rintro e w2 ⟨rfl, hb2⟩
      have HB2 := Lib.hid hb2
      clear hb2 AT TP
      go_wp2
      go_ret2
      exact ⟨rfl, HB2.out⟩
    by_cases h1 : (limit : Int) ≤ v
    · have hq : numT p limit s = none := by
        cases h : numT p limit s with
        | none => rfl
        | some n => have := HN.out n h; rw [HV.out] at this; simp at this; have := (numT_is h).1; omega
      rw [hq]
      clear hq HN HV
      go_enter Tryz.func196, Tryz.ntmps196
      go_wp2_with fail
      refine TP.out.mono ?_
      rintro e w1 ⟨rfl, rfl⟩
      go_wp2_with fail
      refine AT.out.mono ?_
      rintro e w2 ⟨rfl, hb2⟩
      have HB2 := Lib.hid hb2
      clear hb2 AT TP
      go_wp2
      go_ret2
      exact ⟨rfl, HB2.out⟩
    obtain ⟨n, rfl⟩ := Int.eq_ofNat_of_zero_le (show 0 ≤ v by omega)
    have hnl : n < limit := by omega
    have NB : Hid (∀ W, Below w.heap.size w W → Calls Tryz.prog 139 #[.string p, .int .i64 (n : Int)] W fun e w' => e = .returned (.string (p ++ itS (n : Int))) ∧ Below W.heap.size W w') := fun W hb => numbered_any p n W hp (HP.out.below hb) (by omega) (by omega)
    by_cases he : s = p ++ itS (n : Int)
    · have hq := numT_some hl hnl he
      have HEQ := Lib.hid he
      rw [hq]
      rw [← he] at NB
      clear hq HN HV he
      go_enter Tryz.func196, Tryz.ntmps196
      go_wp2_with fail
      refine TP.out.mono ?_
      rintro e w1 ⟨rfl, rfl⟩
      go_wp2_with fail
      refine AT.out.mono ?_
      rintro e w2 ⟨rfl, hb2⟩
      have HB2 := Lib.hid hb2
      have NB2 := Lib.hid (NB.out _ hb2)
      clear hb2 AT TP NB
      go_wp2_with fail
      refine NB2.out.mono ?_
      rintro e w3 ⟨rfl, hb3⟩
      have HB3 := Lib.hid (HB2.out.trans (hb3.mono HB2.out.size))
      clear hb3 NB2
      go_wp2
      go_ret2
      exact ⟨rfl, HB3.out⟩
    · have hq : numT p limit s = none := by
        cases h : numT p limit s with
        | none => rfl
        | some m =>
          have h2 := HN.out m h
          rw [HV.out] at h2
          injection h2 with h2
          have h3 := (numT_is h).2
          have : n = m := by omega
          subst this
          exact absurd h3 he
      rw [hq]
      clear hq HN HV
      generalize p ++ itS (n : Int) = u at *
      have hne : ¬ s.toList = u.toList := by
        rw [ByteArray.toList_eq, ByteArray.toList_eq]
        exact fun e => he (ByteArray.ext (Array.toList_inj.mp e))
      have hbe : (s.toList == u.toList) = false := beq_eq_false_iff_ne.2 hne
      have hd0 : decide ((n : Int) < 0) = false := decide_eq_false (by omega)
      have hd1 : decide (limit ≤ n) = false := decide_eq_false (by omega)
      go_enter Tryz.func196, Tryz.ntmps196
      go_wp2_with fail
      refine TP.out.mono ?_
      rintro e w1 ⟨rfl, rfl⟩
      go_wp2_with fail
      refine AT.out.mono ?_
      rintro e w2 ⟨rfl, hb2⟩
      have HB2 := Lib.hid hb2
      have NB2 := Lib.hid (NB.out _ hb2)
      clear hb2 AT TP NB
      go_wp2_with fail
      refine NB2.out.mono ?_
      rintro e w3 ⟨rfl, hb3⟩
      have HB3 := Lib.hid (HB2.out.trans (hb3.mono HB2.out.size))
      clear hb3 NB2
      go_wp2
      go_ret2
      exact ⟨rfl, HB3.out⟩
  · have hq : numT p limit s = none := by
      cases h : numT p limit s with
      | none => rfl
      | some n => exact absurd ⟨_, HN.out n h⟩ hok
    have AT := Lib.hid (atoi_bad ⟨r.toArray⟩ w HE.out HR.out (by rw [HD.out]; exact fun v h => hok ⟨v, h⟩))
    rw [hq]
    clear hq HN hok HD HR
    go_enter Tryz.func196, Tryz.ntmps196
    go_wp2_with fail
    refine TP.out.mono ?_
    rintro e w1 ⟨rfl, rfl⟩
    go_wp2_with fail
    refine AT.out.mono ?_
    rintro e w2 ⟨v, T, N, rfl, hb2⟩
    have HB2 := Lib.hid hb2
    have hnn : ∀ W, (binOp .neq 85 (.iface T (.pointer (some ⟨N, 0, none⟩))) .nilIface).run Tryz.prog W = .ok (.bool true) W := fun W => by kernel_rfl
    clear hb2 AT TP
    go_wp2
    go_ret2
    exact ⟨rfl, HB2.out⟩
end Go.Proofs.YtjmdgbgjleeloaaGreatDoor
namespace Go.Proofs.YtjmdgbgjleeloaaGreatDoor
open Go.RowKit

def regT (s : ByteArray) : Option Nat := numT ⟨#[114]⟩ 64 s
def slotT (s : ByteArray) : Option Nat := numT ⟨#[115]⟩ 400 s
set_option maxRecDepth 100000 in
theorem regOf_any (s : ByteArray) (w : World) (hs : s.size ≤ 400000) (hP : PowW w) (hE : ErrsW w) :
    Calls Tryz.prog 184 #[.string s] w fun e w' => e = .returned (.tuple #[.int .i64 ((regT s).getD 0 : Nat), .bool (regT s).isSome]) ∧ Below w.heap.size w w' := by
  have N := Lib.hid (numberOf_any s ⟨#[114]⟩ 64 w hs (by decide) (by omega) hP hE)
  clear hP hE
  show Calls _ _ _ _ fun e w' => e = .returned (.tuple #[.int .i64 ((numT ⟨#[114]⟩ 64 s).getD 0 : Nat), .bool (numT ⟨#[114]⟩ 64 s).isSome]) ∧ _
  generalize numT ⟨#[114]⟩ 64 s = q at *
  go_enter Tryz.func184, Tryz.ntmps184
  go_wp2_with fail
  refine N.out.mono ?_
  rintro e w1 ⟨rfl, hb⟩
  have HB := Lib.hid hb
  clear hb N
  go_wp2
  go_ret2
  exact ⟨rfl, HB.out⟩
set_option maxRecDepth 100000 in
theorem slotOf_any (s : ByteArray) (w : World) (hs : s.size ≤ 400000) (hP : PowW w) (hE : ErrsW w) :
    Calls Tryz.prog 189 #[.string s] w fun e w' => e = .returned (.tuple #[.int .i64 ((slotT s).getD 0 : Nat), .bool (slotT s).isSome]) ∧ Below w.heap.size w w' := by
  have N := Lib.hid (numberOf_any s ⟨#[115]⟩ 400 w hs (by decide) (by omega) hP hE)
  clear hP hE
  show Calls _ _ _ _ fun e w' => e = .returned (.tuple #[.int .i64 ((numT ⟨#[115]⟩ 400 s).getD 0 : Nat), .bool (numT ⟨#[115]⟩ 400 s).isSome]) ∧ _
  generalize numT ⟨#[115]⟩ 400 s = q at *
  go_enter Tryz.func189, Tryz.ntmps189
  go_wp2_with fail
  refine N.out.mono ?_
  rintro e w1 ⟨rfl, hb⟩
  have HB := Lib.hid hb
  clear hb N
  go_wp2
  go_ret2
  exact ⟨rfl, HB.out⟩
/-- Which Op has that name. -/
def opT (s : ByteArray) : Nat := ((List.range' 1 11).find? fun o => decide (opNameL.getD o ⟨#[]⟩ = s)).getD 0
def opFrom (s : ByteArray) (o : Nat) : Nat := ((List.range' o (12 - o)).find? fun o => decide (opNameL.getD o ⟨#[]⟩ = s)).getD 0
theorem opFrom_hit {s : ByteArray} {o : Nat} (h : o < 12) (e : opNameL.getD o ⟨#[]⟩ = s) : opFrom s o = o := by
  unfold opFrom
  rw [show 12 - o = (12 - (o + 1)) + 1 by omega, List.range'_succ, List.find?_cons_of_pos (by simpa using e)]
  rfl
theorem opFrom_miss {s : ByteArray} {o : Nat} (h : o < 12) (e : ¬ opNameL.getD o ⟨#[]⟩ = s) : opFrom s o = opFrom s (o + 1) := by
  unfold opFrom
  rw [show 12 - o = (12 - (o + 1)) + 1 by omega, List.range'_succ, List.find?_cons_of_neg (by simpa using e)]
set_option maxRecDepth 100000 in
theorem opOf_any (s : ByteArray) (w : World) (hN : NamesW w) : Calls Tryz.prog 190 #[.string s] w fun e w' => e = .returned (.int .i64 (opT s : Nat)) ∧ w = w' := by
  have HQ : Hid (opT s = opFrom s 1) := rfl
  have HN := Lib.hid hN
  clear hN
  generalize opT s = q at *
  go_enter Tryz.func190, Tryz.ntmps190
  go_wp2
  go_loop [3] (fun v => ∃ o : Nat, v = .int .i64 o ∧ 1 ≤ o ∧ o ≤ 12 ∧ q = opFrom s o) (fun v => 12 - (intOf v).toNat)
  case atStart => exact ⟨1, rfl, by omega, by omega, HQ.out⟩
  case round =>
    obtain ⟨o, rfl, h1, h2, hq⟩ := hrel
    have HQ2 := Lib.hid hq
    clear hq HQ
    by_cases hlt : o < 12
    · have hlt' : (o : Int) ≤ 11 := by omega
      have ho0 : (0 : Int) ≤ o := by omega
      have c0 := HN.out.2 o hlt
      generalize hnm : opNameL.getD o ⟨#[]⟩ = nm at *
      by_cases he : nm = s
      · have HE : Hid (q = o) := HQ2.out.trans (opFrom_hit hlt (hnm.trans he))
        subst he
        clear hnm HQ2
        go_wp2
        go_ret
        exact ⟨by rw [HE.out]; rfl, rfl⟩
      · have HE : Hid (q = opFrom s (o + 1)) := HQ2.out.trans (opFrom_miss hlt (by rw [hnm]; exact he))
        have hne : ¬ nm.toList = s.toList := by
          rw [ByteArray.toList_eq, ByteArray.toList_eq]
          exact fun e => he (ByteArray.ext (Array.toList_inj.mp e))
        have hbe : (nm.toList == s.toList) = false := beq_eq_false_iff_ne.2 hne
        clear hnm HQ2
        go_wp2
        go_round
        case rel => exact ⟨o + 1, by go_num, by omega, by omega, HE.out⟩
        case measure => simp [intOf]; omega
    · have hge : ¬ (o : Int) ≤ 11 := by omega
      have HE : Hid (q = 0) := by
        show q = 0
        rw [HQ2.out, show o = 12 by omega]
        rfl
      go_wp2
      go_ret
      exact ⟨by rw [HE.out]; rfl, rfl⟩
end Go.Proofs.YtjmdgbgjleeloaaGreatDoor
namespace Go.Proofs.YtjmdgbgjleeloaaGreatDoor
open Go.RowKit

theorem ret_bool {a b : Bool} (h : a = true ↔ b = true) : Ending.returned (.bool a) = .returned (.bool b) := by rw [Bool.eq_iff_iff.2 h]
theorem isDigit_any (r : Int) (w : World) : Calls Tryz.prog 182 #[.int .i32 r] w fun e w' => e = .returned (.bool (digitB r)) ∧ w = w' := by
  by_cases h : 48 ≤ r
  all_goals
    go_enter Tryz.func182, Tryz.ntmps182
    go_wp2
    go_ret
    refine ⟨ret_bool ?_, rfl⟩
    simp [digitB]
    try omega
theorem letter_any (r : Int) (w : World) : Calls Tryz.prog 181 #[.int .i32 r] w fun e w' => e = .returned (.bool (letterB r)) ∧ w = w' := by
  by_cases h : 97 ≤ r <;> by_cases h1 : r ≤ 122 <;> by_cases h2 : 945 ≤ r <;> by_cases h3 : r ≤ 969
  all_goals try (exfalso; omega)
  all_goals
    go_enter Tryz.func181, Tryz.ntmps181
    go_wp2
    go_ret
    refine ⟨ret_bool ?_, rfl⟩
    simp [letterB]
    try omega
theorem bound_any (n : Int) (w : World) : Calls Tryz.prog 195 #[.int .i64 n] w fun e w' => e = .returned (.bool (boundB n)) ∧ w = w' := by
  by_cases h : -1099511627776 ≤ n
  all_goals
    go_enter Tryz.func195, Tryz.ntmps195
    go_wp2
    go_ret
    refine ⟨ret_bool ?_, rfl⟩
    simp [boundB]
    try omega
theorem sign_any (r : Int) (w : World) : Calls Tryz.prog 179 #[.int .i32 r] w fun e w' => e = .returned (.bool (signB r)) ∧ w = w' := by
  go_enter Tryz.func179, Tryz.ntmps179
  go_wp2
  all_goals
    go_ret
    refine ⟨ret_bool ?_, rfl⟩
    simp_all [signB]

end Go.Proofs.YtjmdgbgjleeloaaGreatDoor
namespace Go.Proofs.YtjmdgbgjleeloaaGreatDoor
open Go.RowKit

/-- The reader's cells. -/
def cellsR (s : ByteArray) (σ : Rd) (v : Value) : Array Value :=
  #[.int .i64 σ.line, .int .i64 σ.col, .int .i64 σ.w.k, .string σ.w.t, .int .i64 σ.w.n, .int .i64 σ.w.l, .int .i64 σ.w.c, .int .i64 σ.frm, .int .i64 σ.many, .bool σ.below,
    .string s, v, .bool σ.remark, .int .i64 σ.bl, .int .i64 σ.bc, .int .i64 σ.f]
def flatW (x : Wd) : List Value := [.int .i64 x.k, .string x.t, .int .i64 x.n, .int .i64 x.l, .int .i64 x.c]
/-- The reader lies in block g; its words' row from block b on. -/
def Lies (w : World) (b g : Nat) (s : ByteArray) (σ : Rd) : Prop :=
  ∃ a c, Blk w g 158 (cellsR s σ (.slice a σ.ws.length c)) ∧ w.ownsRow b 154 5 (.slice a σ.ws.length c) σ.ws.length (σ.ws.flatMap flatW) ∧ g < b ∧ b ≤ w.heap.size
theorem Lies.put {w : World} {b g : Nat} {s : ByteArray} {σ : Rd} (h : Lies w b g s σ) (σ' : Rd) (i : Nat) (u : Value) (hw : σ'.ws = σ.ws) (hc : ∀ v, (cellsR s σ v).setIfInBounds i u = cellsR s σ' v) :
    Lies (w.setCell ⟨g, i, none⟩ u) b g s σ' := by
  obtain ⟨a, c, hb, ho, hg, hs⟩ := h
  rw [← hw] at hb ho
  refine ⟨a, c, ?_, own_put ho (own_far ho hb (by decide)) u, hg, by simpa [World.setCell] using hs⟩
  have := hb.put i u
  rw [hc] at this
  exact this
theorem Lies.drewN {w : World} {b g : Nat} {s : ByteArray} {σ : Rd} (h : Lies w b g s σ) (n : Nat) : Lies (w.drewN n) b g s σ := h
theorem Lies.alloc {w : World} {b g : Nat} {s : ByteArray} {σ : Rd} (h : Lies w b g s σ) (o : Obj) : Lies (w.alloc o) b g s σ := by
  obtain ⟨a, c, hb, ho, hg, hs⟩ := h
  exact ⟨a, c, hb.alloc o, ho.alloc o, hg, by simp; omega⟩

theorem pass_any (g : Nat) (s : ByteArray) (σ : Rd) (r : Int) (b : Nat) (w : World) (h : Lies w b g s σ) (hl : 0 ≤ σ.line ∧ σ.line < 1000000) (hc : 0 ≤ σ.col ∧ σ.col < 1000000) :
    Calls Tryz.prog 109 #[.pointer (some ⟨g, 0, none⟩), .int .i32 r] w fun e w' => e = .returned (.tuple #[]) ∧ Lies w' b g s (σ.pass r) ∧ Keep b g w w' := by
  obtain ⟨a, c, hb, ho, hg, hs⟩ := id h
  obtain ⟨hl1, hl2⟩ := hl
  obtain ⟨hc1, hc2⟩ := hc
  have c0 : w.cell? ⟨g, 0, none⟩ = some (.int .i64 σ.line) := hb.cell 0
  have c1 : w.cell? ⟨g, 1, none⟩ = some (.int .i64 σ.col) := hb.cell 1
  have f0 := hb.free 0
  have f1 := hb.free 1
  by_cases hr : r = 10
  · have hr' : (r == 10) = true := by simp [hr]
    have e : σ.pass r = { σ with line := σ.line + 1, col := 1 } := if_pos hr
    have E := Lib.hid e
    clear e hr
    go_enter Tryz.func109, Tryz.ntmps109
    go_wp2
    go_end0
    refine ⟨rfl, ?_, ((Keep.put _ _ _ _ _).trans (Keep.put _ _ _ _ _)).trans (Keep.put _ _ _ _ _)⟩
    rw [E.out]
    exact ((h.put { σ with col := σ.col + 1 } 1 _ rfl (fun _ => rfl)).put { σ with col := σ.col + 1, line := σ.line + 1 } 0 _ rfl (fun _ => rfl)).put _ 1 _ rfl (fun _ => rfl)
  · have hr' : (r == 10) = false := by simp [hr]
    have e : σ.pass r = { σ with col := σ.col + 1 } := if_neg hr
    have E := Lib.hid e
    clear e hr
    go_enter Tryz.func109, Tryz.ntmps109
    go_wp2
    go_end0
    refine ⟨rfl, ?_, Keep.put _ _ _ _ _⟩
    rw [E.out]
    exact h.put _ 1 _ rfl (fun _ => rfl)

theorem fail_any (g : Nat) (s : ByteArray) (σ : Rd) (l cc ee : Int) (b : Nat) (w : World) (h : Lies w b g s σ) :
    Calls Tryz.prog 154 #[.pointer (some ⟨g, 0, none⟩), .agg #[.int .i64 l, .int .i64 cc], .int .i64 ee] w fun e w' => e = .returned (.tuple #[]) ∧ Lies w' b g s (σ.fail l cc ee) ∧ Keep b g w w' := by
  obtain ⟨a, c, hb, ho, hg, hs⟩ := id h
  have hlt := hb.lt
  have c0 : w.cell? ⟨g, 13, none⟩ = some (.int .i64 σ.bl) := hb.cell 13
  have c1 : w.cell? ⟨g, 14, none⟩ = some (.int .i64 σ.bc) := hb.cell 14
  have c2 : w.cell? ⟨g, 15, none⟩ = some (.int .i64 σ.f) := hb.cell 15
  have f0 := hb.free 13
  have f1 := hb.free 14
  have f2 := hb.free 15
  go_enter Tryz.func154, Tryz.ntmps154
  go_wp2
  go_end0
  refine ⟨rfl, ?_, (((Keep.put _ _ _ _ _).trans (Keep.put _ _ _ _ _)).trans (Keep.put _ _ _ _ _)).trans (Keep.alloc (by simp [World.setCell]; omega) _ _)⟩
  exact (((h.put { σ with bl := l } 13 _ rfl (fun _ => rfl)).put { σ with bl := l, bc := cc } 14 _ rfl (fun _ => rfl)).put (σ.fail l cc ee) 15 _ rfl (fun _ => rfl)).alloc _
  go_show

theorem word_info : (Tryz.prog.info? 154).map (fun i => (i.zero, i.size, i.bytes)) = some (some (.agg #[.int .i64 0, .string noText, .int .i64 0, .int .i64 0, .int .i64 0]), 5, 48) := by kernel_rfl

/-- The row with one word more, stored back. -/
theorem Lies.grow {w w2 : World} {b g : Nat} {s : ByteArray} {σ : Rd} {a : Option Addr} {c gg cap : Nat} {x : Wd} {o : Obj} (hb : Blk w g 158 (cellsR s { σ with w := x } (.slice a σ.ws.length c)))
    (hg : g < b) (hs : b ≤ w.heap.size) (hrow : ∀ k, (Value.slice a σ.ws.length c).ownBlock = some k → b ≤ k) (hne : some g ≠ (Value.slice a σ.ws.length c).ownBlock)
    (hgrow : (w.alloc o).drew.grownBy w2 (Value.slice a σ.ws.length c).ownBlock)
    (hown : w2.ownsRow b 154 5 (.slice (some ⟨gg, 0, none⟩) (σ.ws.length + 1) cap) (σ.ws.length + 1) (σ.ws.flatMap flatW ++ flatW x)) :
    Lies (w2.setCell ⟨g, 11, none⟩ (.slice (some ⟨gg, 0, none⟩) (σ.ws.length + 1) cap)) b g s { σ with w := x, ws := σ.ws ++ [x] } ∧
      Keep b g w (w2.setCell ⟨g, 11, none⟩ (.slice (some ⟨gg, 0, none⟩) (σ.ws.length + 1) cap)) := by
  have hb2 : Blk w2 g 158 _ := ((hb.alloc o).drew).grown hgrow hne
  have hsz : b ≤ (w.alloc o).drew.heap.size := by simp; omega
  refine ⟨⟨some ⟨gg, 0, none⟩, cap, ?_, ?_, hg, ?_⟩, (((Keep.alloc hs g o).trans (Keep.drew b g _)).trans (Keep.grown hgrow hsz hrow g)).trans (Keep.put b g w2 11 _)⟩
  · have := hb2.put 11 (.slice (some ⟨gg, 0, none⟩) (σ.ws.length + 1) cap)
    rw [List.length_append]
    exact this
  · have h2 := own_put hown (p := ⟨g, 11, none⟩) (own_far hown hb2 (by decide)) (.slice (some ⟨gg, 0, none⟩) (σ.ws.length + 1) cap)
    rw [List.length_append, List.flatMap_append]
    simpa using h2
  · have := hgrow.size
    simp only [World.setCell, Array.size_modify]
    omega

/-- The word that a draft becomes. -/
def Rd.done (s : ByteArray) (σ : Rd) (i : Int) : Wd := if σ.w.k = 4 then σ.w else { σ.w with t := cutText s σ.frm i }

set_option maxHeartbeats 2000000 in
set_option maxRecDepth 100000 in
theorem shut_some (g : Nat) (s : ByteArray) (σ : Rd) (i : Nat) (b : Nat) (w0 w : World) (hw : Keep b g w0 w) (h : Lies w b g s σ) (hk : σ.w.k ≠ 0) (hm : σ.ws.length ≤ 300000) (hf0 : 0 ≤ σ.frm) (hf1 : σ.frm ≤ i) (hi : i ≤ s.size) :
    Calls Tryz.prog 110 #[.pointer (some ⟨g, 0, none⟩), .int .i64 i] w fun e w' => e = .returned (.tuple #[]) ∧ Lies w' b g s (σ.shut s i) ∧ Keep b g w0 w' := by
  obtain ⟨i0, hi0, hz0, hz1, hz2⟩ := info_parts word_info
  obtain ⟨fr, hfr⟩ : ∃ fr : Nat, σ.frm = fr := ⟨σ.frm.toNat, by omega⟩
  have E : Hid (σ.shut s i = { ({ σ with w := σ.done s i } : Rd) with w := noWd, frm := 0, many := 0, below := false, ws := σ.ws ++ [σ.done s i] }) := by
    show _ = _
    unfold Rd.shut Rd.done
    rw [if_neg hk]
  obtain ⟨x, hx⟩ : ∃ x, x = σ.done s i := ⟨_, rfl⟩
  rw [← hx] at E
  by_cases hk4 : σ.w.k = 4
  · have hx1 : x = σ.w := by rw [hx]; exact if_pos hk4
    have k0 : (σ.w.k == 0) = false := by simp [hk]
    have k4 : (σ.w.k != 4) = false := by simp [hk4]
    have c2 : w.cell? ⟨g, 2, none⟩ = some (.int .i64 σ.w.k) := by obtain ⟨a, c, hb, _⟩ := h; exact hb.cell 2
    have Hh : Hid (Lies w b g s { σ with w := x }) := by rw [hx1]; exact h
    have Hw := Lib.hid hw
    clear h hw hk hk4 hfr hx1 hx
    go_enter Tryz.func110, Tryz.ntmps110
    go_wp2_with fail
    clear c2
    obtain ⟨a, c, hb, ho, hg, hs⟩ := id Hh.out
    have hlt := hb.lt
    have d2 : w.cell? ⟨g, 2, none⟩ = some (.int .i64 x.k) := hb.cell 2
    have d3 : w.cell? ⟨g, 3, none⟩ = some (.string x.t) := hb.cell 3
    have d4 : w.cell? ⟨g, 4, none⟩ = some (.int .i64 x.n) := hb.cell 4
    have d5 : w.cell? ⟨g, 5, none⟩ = some (.int .i64 x.l) := hb.cell 5
    have d6 : w.cell? ⟨g, 6, none⟩ = some (.int .i64 x.c) := hb.cell 6
    have d11 : w.cell? ⟨g, 11, none⟩ = some (.slice a σ.ws.length c) := hb.cell 11
    have e11 := hb.free 11
    have ho' : w.ownsRow b 154 5 (.slice a σ.ws.length c) σ.ws.length (σ.ws.flatMap flatW) := ho
    have hne : some g ≠ (Value.slice a σ.ws.length c).ownBlock := own_far ho hb (by decide)
    have Hb := Lib.hid hb
    clear hb ho Hh
    go_region_law
      ((refine step_append_lies _ (by rfl) _ _ _ (by rfl) b 154 i0 _ 5 48 Tryz.underlying98 hi0 hz0 hz1 hz2 rfl (by omega) _ σ.ws.length (σ.ws.flatMap flatW) (by rfl) ((ho'.alloc _).drew)
          ⟨w.heap.size, 0, none⟩ 1 1 (flatW x) (by rfl) (by rfl) (World.news_of_block (cs := #[.int .i64 x.k, .string x.t, .int .i64 x.n, .int .i64 x.l, .int .i64 x.c]) (t := 154) (fr := (0, 0)) (heap_alloc_new w _)) (by simp [Value.oneCell', flatW])
          (by omega) (by simp only [maxLen]; omega) (by omega) (by simp; omega) (w.heap.size + 1) (by simp) ?_; intro gg cap w2 hown2 hgrow hat hlt2; go_must (have k11 : w2.cell? ⟨g, 11, none⟩ = some (.slice a σ.ws.length c) := by (rw [hgrow.cell_far _ (by simp; omega) hne]; go_simp)); go_must (have l11 : w2.frozen? ⟨g, 11, none⟩ = false := by (rw [hgrow.frozen_far _ (by simp; omega) hne]; go_simp))))
    all_goals
      obtain ⟨h3, k3⟩ := Lies.grow Hb.out hg hs (fun k hk => (ho'.lt k hk).1) hne hgrow hown2
      have H3 := Lib.hid h3
      have K3 : Hid (Keep b g w0 _) := Hw.out.trans k3
      clear h3 k3 d2 d3 d4 d5 d6 d11 e11 hne ho' Hb hat hlt2 k11 l11 hgrow hown2 hlt hg hs Hw
      generalize (w2.setCell ⟨g, 11, none⟩ (.slice (some ⟨gg, 0, none⟩) (σ.ws.length + 1) cap)) = w3 at *
      obtain ⟨a3, c3, hb3, ho3, hg3, hs3⟩ := id H3.out
      have m2 := hb3.cell 2
      have m3 := hb3.cell 3
      have m4 := hb3.cell 4
      have m5 := hb3.cell 5
      have m6 := hb3.cell 6
      have m7 := hb3.cell 7
      have m8 := hb3.cell 8
      have m9 := hb3.cell 9
      simp only [cellsR, List.getElem?_toArray, List.getElem?_cons_succ, List.getElem?_cons_zero] at m2 m3 m4 m5 m6 m7 m8 m9
      have n2 := hb3.free 2
      have n3 := hb3.free 3
      have n4 := hb3.free 4
      have n5 := hb3.free 5
      have n6 := hb3.free 6
      have n7 := hb3.free 7
      have n8 := hb3.free 8
      have n9 := hb3.free 9
      clear hb3 ho3
      go_wp2
      go_end0
      refine ⟨rfl, ?_, ?_⟩
      · rw [E.out]
        exact ((((((((H3.out.put { σ with w := { x with k := 0 }, ws := σ.ws ++ [x] } 2 _ rfl (fun _ => rfl)).put { σ with w := { x with k := 0, t := noText }, ws := σ.ws ++ [x] } 3 _ rfl (fun _ => rfl)).put
          { σ with w := { x with k := 0, t := noText, n := 0 }, ws := σ.ws ++ [x] } 4 _ rfl (fun _ => rfl)).put { σ with w := { x with k := 0, t := noText, n := 0, l := 0 }, ws := σ.ws ++ [x] } 5 _ rfl (fun _ => rfl)).put
          { σ with w := noWd, ws := σ.ws ++ [x] } 6 _ rfl (fun _ => rfl)).put { σ with w := noWd, frm := 0, ws := σ.ws ++ [x] } 7 _ rfl (fun _ => rfl)).put
          { σ with w := noWd, frm := 0, many := 0, ws := σ.ws ++ [x] } 8 _ rfl (fun _ => rfl)).put { σ with w := noWd, frm := 0, many := 0, below := false, ws := σ.ws ++ [x] } 9 _ rfl (fun _ => rfl))
      · exact (((((((K3.out.trans (Keep.put _ _ _ _ _)).trans (Keep.put _ _ _ _ _)).trans (Keep.put _ _ _ _ _)).trans (Keep.put _ _ _ _ _)).trans (Keep.put _ _ _ _ _)).trans (Keep.put _ _ _ _ _)).trans (Keep.put _ _ _ _ _)).trans (Keep.put _ _ _ _ _)
  · have hx1 : x = { σ.w with t := s.extract fr i } := by rw [hx, Rd.done, if_neg hk4, cutText, hfr]; rfl
    have k0 : (σ.w.k == 0) = false := by simp [hk]
    have k4 : (σ.w.k != 4) = true := by simp [hk4]
    obtain ⟨a, c, hb, ho, hg, hs⟩ := id h
    have c2 : w.cell? ⟨g, 2, none⟩ = some (.int .i64 σ.w.k) := hb.cell 2
    have c3 : w.cell? ⟨g, 3, none⟩ = some (.string σ.w.t) := hb.cell 3
    have c7 : w.cell? ⟨g, 7, none⟩ = some (.int .i64 fr) := by rw [← hfr]; exact hb.cell 7
    have c10 : w.cell? ⟨g, 10, none⟩ = some (.string s) := hb.cell 10
    have f3 := hb.free 3
    have hfi : fr ≤ i := by omega
    have hfr0 : (0 : Int) ≤ fr := by omega
    have hfri : (fr : Int) ≤ i := by omega
    have hii : (i : Int) ≤ s.size := by omega
    have Hh : Hid (Lies (w.setCell ⟨g, 3, none⟩ (.string (s.extract fr i))).drew b g s { σ with w := x }) := by
      rw [hx1]
      exact h.put { σ with w := { σ.w with t := s.extract fr i } } 3 _ rfl (fun _ => rfl)
    have Hw : Hid (Keep b g w0 (w.setCell ⟨g, 3, none⟩ (.string (s.extract fr i))).drew) := (hw.trans (Keep.put b g w 3 _)).trans (Keep.drew b g _)
    clear h hw hk hk4 hfr hx1 hx hb ho
    go_enter Tryz.func110, Tryz.ntmps110
    go_wp2
    go_region
    go_wp2_with fail
    clear c2 c3 c7 c10 f3 hfi hfr0 hfri hii hg hs
    generalize (w.setCell ⟨g, 3, none⟩ (.string (s.extract fr i))).drew = w at *
    obtain ⟨a, c, hb, ho, hg, hs⟩ := id Hh.out
    have hlt := hb.lt
    have d2 : w.cell? ⟨g, 2, none⟩ = some (.int .i64 x.k) := hb.cell 2
    have d3 : w.cell? ⟨g, 3, none⟩ = some (.string x.t) := hb.cell 3
    have d4 : w.cell? ⟨g, 4, none⟩ = some (.int .i64 x.n) := hb.cell 4
    have d5 : w.cell? ⟨g, 5, none⟩ = some (.int .i64 x.l) := hb.cell 5
    have d6 : w.cell? ⟨g, 6, none⟩ = some (.int .i64 x.c) := hb.cell 6
    have d11 : w.cell? ⟨g, 11, none⟩ = some (.slice a σ.ws.length c) := hb.cell 11
    have e11 := hb.free 11
    have ho' : w.ownsRow b 154 5 (.slice a σ.ws.length c) σ.ws.length (σ.ws.flatMap flatW) := ho
    have hne : some g ≠ (Value.slice a σ.ws.length c).ownBlock := own_far ho hb (by decide)
    have Hb := Lib.hid hb
    clear hb ho Hh
    go_region_law
      ((refine step_append_lies _ (by rfl) _ _ _ (by rfl) b 154 i0 _ 5 48 Tryz.underlying98 hi0 hz0 hz1 hz2 rfl (by omega) _ σ.ws.length (σ.ws.flatMap flatW) (by rfl) ((ho'.alloc _).drew)
          ⟨w.heap.size, 0, none⟩ 1 1 (flatW x) (by rfl) (by rfl) (World.news_of_block (cs := #[.int .i64 x.k, .string x.t, .int .i64 x.n, .int .i64 x.l, .int .i64 x.c]) (t := 154) (fr := (0, 0)) (heap_alloc_new w _)) (by simp [Value.oneCell', flatW])
          (by omega) (by simp only [maxLen]; omega) (by omega) (by simp; omega) (w.heap.size + 1) (by simp) ?_; intro gg cap w2 hown2 hgrow hat hlt2; go_must (have k11 : w2.cell? ⟨g, 11, none⟩ = some (.slice a σ.ws.length c) := by (rw [hgrow.cell_far _ (by simp; omega) hne]; go_simp)); go_must (have l11 : w2.frozen? ⟨g, 11, none⟩ = false := by (rw [hgrow.frozen_far _ (by simp; omega) hne]; go_simp))))
    all_goals
      obtain ⟨h3, k3⟩ := Lies.grow Hb.out hg hs (fun k hk => (ho'.lt k hk).1) hne hgrow hown2
      have H3 := Lib.hid h3
      have K3 : Hid (Keep b g w0 _) := Hw.out.trans k3
      clear h3 k3 d2 d3 d4 d5 d6 d11 e11 hne ho' Hb hat hlt2 k11 l11 hgrow hown2 hlt hg hs Hw
      generalize (w2.setCell ⟨g, 11, none⟩ (.slice (some ⟨gg, 0, none⟩) (σ.ws.length + 1) cap)) = w3 at *
      obtain ⟨a3, c3, hb3, ho3, hg3, hs3⟩ := id H3.out
      have m2 := hb3.cell 2
      have m3 := hb3.cell 3
      have m4 := hb3.cell 4
      have m5 := hb3.cell 5
      have m6 := hb3.cell 6
      have m7 := hb3.cell 7
      have m8 := hb3.cell 8
      have m9 := hb3.cell 9
      simp only [cellsR, List.getElem?_toArray, List.getElem?_cons_succ, List.getElem?_cons_zero] at m2 m3 m4 m5 m6 m7 m8 m9
      have n2 := hb3.free 2
      have n3 := hb3.free 3
      have n4 := hb3.free 4
      have n5 := hb3.free 5
      have n6 := hb3.free 6
      have n7 := hb3.free 7
      have n8 := hb3.free 8
      have n9 := hb3.free 9
      clear hb3 ho3
      go_wp2
      go_end0
      refine ⟨rfl, ?_, ?_⟩
      · rw [E.out]
        exact ((((((((H3.out.put { σ with w := { x with k := 0 }, ws := σ.ws ++ [x] } 2 _ rfl (fun _ => rfl)).put { σ with w := { x with k := 0, t := noText }, ws := σ.ws ++ [x] } 3 _ rfl (fun _ => rfl)).put
          { σ with w := { x with k := 0, t := noText, n := 0 }, ws := σ.ws ++ [x] } 4 _ rfl (fun _ => rfl)).put { σ with w := { x with k := 0, t := noText, n := 0, l := 0 }, ws := σ.ws ++ [x] } 5 _ rfl (fun _ => rfl)).put
          { σ with w := noWd, ws := σ.ws ++ [x] } 6 _ rfl (fun _ => rfl)).put { σ with w := noWd, frm := 0, ws := σ.ws ++ [x] } 7 _ rfl (fun _ => rfl)).put
          { σ with w := noWd, frm := 0, many := 0, ws := σ.ws ++ [x] } 8 _ rfl (fun _ => rfl)).put { σ with w := noWd, frm := 0, many := 0, below := false, ws := σ.ws ++ [x] } 9 _ rfl (fun _ => rfl))
      · exact (((((((K3.out.trans (Keep.put _ _ _ _ _)).trans (Keep.put _ _ _ _ _)).trans (Keep.put _ _ _ _ _)).trans (Keep.put _ _ _ _ _)).trans (Keep.put _ _ _ _ _)).trans (Keep.put _ _ _ _ _)).trans (Keep.put _ _ _ _ _)).trans (Keep.put _ _ _ _ _)
end Go.Proofs.YtjmdgbgjleeloaaGreatDoor
