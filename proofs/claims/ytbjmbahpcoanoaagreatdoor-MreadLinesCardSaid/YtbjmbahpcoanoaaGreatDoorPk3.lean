/-
  A machine's text, plainly: how a cursor goes through it, what is got. No condition beyond those that each theorem states.
-/
import Derived.WalkKit
import Derived.Test.YtbjmbahpcoanoaaGreatDoorPk2
namespace Go.Proofs.YtbjmbahpcoanoaaGreatDoor

/-- A machine. -/
structure Mm where
 regs : Int
 args : List Int
 ret : Int
 saved : List Int

def Mm.regB (m : Mm) (r : Int) : Bool := decide (0 ≤ r) && decide (r < m.regs)
def riseB : List Int → Bool
 | [] => true
 | [_] => true
 | a :: b :: l => decide (a < b) && riseB (b :: l)
def unlikeB : List Int → List Int → Bool
 | _, [] => true
 | seen, r :: l => !(seen.contains r) && unlikeB (r :: seen) l
def Mm.smallB (m : Mm) : Bool := decide (1 ≤ m.regs) && decide (m.regs ≤ 64) && decide (m.args.length ≤ 8) && decide ((m.saved.length : Int) ≤ m.regs)
def Mm.rightB (m : Mm) : Bool := m.smallB && m.args.all m.regB && m.regB m.ret && m.saved.all m.regB && unlikeB [] m.args && riseB m.saved && !(m.saved.contains m.ret)
def Mm.lostL (m : Mm) : List Int := if m.rightB then ((List.range m.regs.toNat).map Int.ofNat).filter (fun r => !(m.saved.contains r)) else []
def Mm.keepsL (m : Mm) : List Int := if m.rightB then m.saved else []
def Mm.enoughB (m : Mm) (o a : Int) : Bool := m.rightB && decide (o < m.regs) && decide (a ≤ m.args.length)

/-- A set of registers, by its members, as cells. -/
def maC (S : List Int) : Array Value := Array.ofFn (n := 64) fun i => .bool (S.contains ((i.1 : Nat) : Int))
theorem maC_size (S : List Int) : (maC S).size = 64 := by simp [maC]
theorem maC_get (S : List Int) {k : Nat} (h : k < 64) : (maC S)[k]? = some (.bool (S.contains (k : Int))) := by
 unfold maC
 rw [Array.getElem?_ofFn, dif_pos h]
theorem maC_one (S : List Int) : (maC S).all (·.oneCell') = true := by
 rw [Array.all_eq_true_iff_forall_mem]
 intro v hv
 obtain ⟨i, hi, rfl⟩ := Array.mem_iff_getElem.1 hv
 have h64 : i < 64 := by rw [maC_size] at hi; exact hi
 have := maC_get S h64
 rw [Array.getElem?_eq_getElem hi] at this
 rw [Option.some.inj this]
 rfl
theorem maC_put (S : List Int) {k : Nat} (h : k < 64) : (maC S).setIfInBounds k (.bool true) = maC ((k : Int) :: S) := by
 apply Array.ext_getElem?
 intro i
 rw [Array.getElem?_setIfInBounds, maC_size]
 by_cases hi : i < 64
 · rw [maC_get _ hi]
   by_cases hk : k = i
   · subst hk
     rw [if_pos rfl, if_pos h, maC_get _ h]
     simp
   · rw [if_neg hk, maC_get _ hi]
     have : ¬ ((i : Int) = (k : Int)) := by omega
     simp [this]
 · have e1 : (maC S)[i]? = none := by rw [Array.getElem?_eq_none]; rw [maC_size]; omega
   have e2 : (maC ((k : Int) :: S))[i]? = none := by rw [Array.getElem?_eq_none]; rw [maC_size]; omega
   rw [e1, e2]
   have : ¬ k = i := by omega
   rw [if_neg this]
/-- A set with these more, the last one first. -/
theorem maC_fold (S l : List Int) : maC (l.reverse ++ S) = maC (l ++ S) := by
 unfold maC
 congr 1
 funext i
 simp only [List.contains_eq_mem, List.mem_append, List.mem_reverse]
theorem maC_nil : maC [] = Array.replicate 64 (.bool false) := by
 apply Array.ext_getElem?
 intro i
 by_cases hi : i < 64
 · rw [maC_get _ hi, Array.getElem?_replicate, if_pos hi]; rfl
 · rw [Array.getElem?_eq_none (by rw [maC_size]; omega), Array.getElem?_replicate, if_neg hi]
/-- Whether all of these are in it. -/
def inB (S l : List Int) : Bool := l.all (fun r => S.contains r)
theorem in_cells {S l : List Int} (hl : ∀ r ∈ l, 0 ≤ r ∧ r < 64) : (∀ k : Nat, k < 64 → (l ++ S).contains (k : Int) = S.contains (k : Int)) ↔ inB S l = true := by
 unfold inB
 rw [List.all_eq_true]
 constructor
 · intro h r hr
   obtain ⟨h0, h1⟩ := hl r hr
   have := h r.toNat (by omega)
   rw [Int.toNat_of_nonneg h0] at this
   rw [← this]
   simp [hr]
 · intro h k hk
   rw [Bool.eq_iff_iff]
   simp only [List.contains_eq_mem, decide_eq_true_eq, List.mem_append]
   constructor
   · rintro (h1 | h1)
     · have := h _ h1
       simpa using this
     · exact h1
   · exact .inr
theorem reg_small {m : Mm} (h : m.smallB = true) {r : Int} (hr : m.regB r = true) : 0 ≤ r ∧ r < 64 := by
 simp only [Mm.smallB, Mm.regB, Bool.and_eq_true, decide_eq_true_eq] at h hr
 omega
theorem regs_small {m : Mm} (h : m.smallB = true) {l : List Int} (hl : l.all m.regB = true) : ∀ r ∈ l, 0 ≤ r ∧ r < 64 := fun r hr => reg_small h (List.all_eq_true.1 hl r hr)
/-- What is right, part by part. -/
structure Mm.Is (m : Mm) : Prop where
 small : m.smallB = true
 args : m.args.all m.regB = true
 ret : m.regB m.ret = true
 saved : m.saved.all m.regB = true
 unlike : unlikeB [] m.args = true
 rise : riseB m.saved = true
 apart : m.saved.contains m.ret = false
theorem right_iff (m : Mm) : m.rightB = true ↔ m.Is := by
 unfold Mm.rightB
 simp only [Bool.and_eq_true, Bool.not_eq_true']
 exact ⟨fun ⟨⟨⟨⟨⟨⟨a, b⟩, c⟩, d⟩, e⟩, f⟩, g⟩ => ⟨a, b, c, d, e, f, g⟩, fun h => ⟨⟨⟨⟨⟨⟨h.small, h.args⟩, h.ret⟩, h.saved⟩, h.unlike⟩, h.rise⟩, h.apart⟩⟩
end Go.Proofs.YtbjmbahpcoanoaaGreatDoor
namespace Go.Proofs.YtbjmbahpcoanoaaGreatDoor

def keyMa : ByteArray := ⟨#[109, 97, 99, 104, 105, 110, 101]⟩
def keyAr : ByteArray := ⟨#[97, 114, 103, 115]⟩
def keyRe : ByteArray := ⟨#[114, 101, 116]⟩
def keySa : ByteArray := ⟨#[115, 97, 118, 101, 100]⟩
/-- A name that must be next. -/
def Cu.keyed (c : Cu) (s : ByteArray) : Cu := if c.keyB s then c.key s else (c.key s).fail 7
theorem Cu.Ok.keyed {c : Cu} (h : c.Ok) (s : ByteArray) : (c.keyed s).Ok := by
 unfold Cu.keyed
 split
 · exact h.key s
 · exact (h.key s).fail 7
/-- Whether a number may be next. -/
def Cu.goes (c : Cu) : Bool := !c.ends && decide (c.nameT = ⟨#[]⟩)
theorem left_num {c : Cu} (h : c.Ok) (hg : c.goes = true) (a b : Int) : (c.num a b).left.length < c.left.length := by
 have hne : c.left ≠ [] := by
  intro e
  unfold Cu.goes Cu.ends Cu.more at hg
  simp [e] at hg
 have hpos := List.length_pos_iff.2 hne
 have hf : c.fault = 0 := by
  by_cases h0 : c.fault = 0
  · exact h0
  · exact absurd (h.gone h0) hne
 unfold Cu.num
 split
 · split
   · simp only [Cu.pass, List.length_tail]; omega
   · unfold Cu.fail
     rw [if_neg (by rintro (h1 | h1); omega; exact h1 hf)]
     exact hpos
 · unfold Cu.fail
   rw [if_neg (by rintro (h1 | h1); omega; exact h1 hf)]
   exact hpos
/-- Numbers, as many as there are: what is left, what is got. -/
def numsGo : Nat → Cu → List Int → Cu × List Int
 | 0, c, l => (c, l)
 | f + 1, c, l => if c.goes then numsGo f (c.num 0 64) (l ++ [c.numN 0 64]) else (c, l)
theorem nums_fuel : ∀ (f g : Nat) (c : Cu) (l : List Int), c.Ok → c.left.length ≤ f → c.left.length ≤ g → numsGo f c l = numsGo g c l := by
 intro f
 induction f with
 | zero =>
  intro g c l h h1 h2
  have hg : c.goes = false := by
   have : c.left = [] := List.length_eq_zero_iff.1 (by omega)
   simp [Cu.goes, Cu.ends, Cu.more, this]
  cases g with
  | zero => rfl
  | succ g => rw [numsGo, numsGo, if_neg (by rw [hg]; decide)]
 | succ f ih =>
  intro g c l h h1 h2
  by_cases hg : c.goes = true
  · have := left_num h hg 0 64
    cases g with
    | zero => omega
    | succ g =>
     rw [numsGo, numsGo, if_pos hg, if_pos hg]
     exact ih g _ _ (h.num 0 64) (by omega) (by omega)
  · cases g with
    | zero => rw [numsGo, numsGo, if_neg hg]
    | succ g => rw [numsGo, numsGo, if_neg hg, if_neg hg]
def Cu.nums (c : Cu) (l : List Int) : Cu × List Int := numsGo c.left.length c l
theorem nums_stop {c : Cu} (h : c.goes = false) (l : List Int) : c.nums l = (c, l) := by
 unfold Cu.nums
 cases c.left.length with
 | zero => rfl
 | succ f => rw [numsGo, if_neg (by rw [h]; decide)]
theorem nums_step {c : Cu} (ho : c.Ok) (h : c.goes = true) (l : List Int) : c.nums l = (c.num 0 64).nums (l ++ [c.numN 0 64]) := by
 unfold Cu.nums
 have := left_num ho h 0 64
 obtain ⟨f, hf⟩ : ∃ f, c.left.length = f + 1 := ⟨c.left.length - 1, by omega⟩
 rw [hf, numsGo, if_pos h]
 exact nums_fuel _ _ _ _ (ho.num 0 64) (by omega) (Nat.le_refl _)
theorem Cu.Ok.nums : ∀ (f : Nat) (c : Cu) (l : List Int), c.Ok → (numsGo f c l).1.Ok := by
 intro f
 induction f with
 | zero => intro c l h; exact h
 | succ f ih =>
  intro c l h
  rw [numsGo]
  split
  · exact ih _ _ (h.num 0 64)
  · exact h
theorem nums_ok {c : Cu} (h : c.Ok) (l : List Int) : (c.nums l).1.Ok := Cu.Ok.nums _ _ _ h
theorem nums_len : ∀ (f : Nat) (c : Cu) (l : List Int), (numsGo f c l).2.length ≤ l.length + f := by
 intro f
 induction f with
 | zero => intro c l; simp [numsGo]
 | succ f ih =>
  intro c l
  rw [numsGo]
  split
  · have := ih (c.num 0 64) (l ++ [c.numN 0 64])
    simp at this
    omega
  · simp only; omega
/-- The places of a cursor on its way through a machine's text. -/
def mc1 (c : Cu) : Cu := c.keyed keyMa
def mc2 (c : Cu) : Cu := (mc1 c).num 0 64
def mc3 (c : Cu) : Cu := (mc2 c).keyed keyAr
def mc4 (c : Cu) : Cu := ((mc3 c).nums []).1
def mc5 (c : Cu) : Cu := (mc4 c).keyed keyRe
def mc6 (c : Cu) : Cu := (mc5 c).num 0 64
def mc7 (c : Cu) : Cu := (mc6 c).keyed keySa
def mc8 (c : Cu) : Cu := ((mc7 c).nums []).1
def mc9 (c : Cu) : Cu := (mc8 c).end_
def gotM (c : Cu) : Mm := ⟨(mc1 c).numN 0 64, ((mc3 c).nums []).2, (mc5 c).numN 0 64, ((mc7 c).nums []).2⟩
theorem mc1_ok {c : Cu} (h : c.Ok) : (mc1 c).Ok := h.keyed _
theorem mc2_ok {c : Cu} (h : c.Ok) : (mc2 c).Ok := (mc1_ok h).num 0 64
theorem mc3_ok {c : Cu} (h : c.Ok) : (mc3 c).Ok := (mc2_ok h).keyed _
theorem mc4_ok {c : Cu} (h : c.Ok) : (mc4 c).Ok := nums_ok (mc3_ok h) []
theorem mc5_ok {c : Cu} (h : c.Ok) : (mc5 c).Ok := (mc4_ok h).keyed _
theorem mc6_ok {c : Cu} (h : c.Ok) : (mc6 c).Ok := (mc5_ok h).num 0 64
theorem mc7_ok {c : Cu} (h : c.Ok) : (mc7 c).Ok := (mc6_ok h).keyed _
theorem mc8_ok {c : Cu} (h : c.Ok) : (mc8 c).Ok := nums_ok (mc7_ok h) []
/-- A cursor's words are never more than they were. -/
theorem left_fail (c : Cu) (e : Int) : (c.fail e).left.length ≤ c.left.length := by
 unfold Cu.fail
 split
 · exact Nat.le_refl _
 · exact Nat.zero_le _
theorem left_over (c : Cu) (b : Bool) : (c.over b).left.length ≤ c.left.length := by
 cases b
 · exact Nat.le_refl _
 · simp [Cu.over, Cu.pass]
theorem left_keyed (c : Cu) (s : ByteArray) : (c.keyed s).left.length ≤ c.left.length := by
 unfold Cu.keyed
 split
 · exact left_over c _
 · exact Nat.le_trans (left_fail _ 7) (left_over c _)
theorem left_nums (c : Cu) (a b : Int) : (c.num a b).left.length ≤ c.left.length := by
 unfold Cu.num
 split
 · split
   · simp [Cu.pass]
   · exact left_fail c 3
 · exact left_fail c 7
theorem left_go : ∀ (f : Nat) (c : Cu) (l : List Int), (numsGo f c l).1.left.length ≤ c.left.length := by
 intro f
 induction f with
 | zero => intro c l; exact Nat.le_refl _
 | succ f ih =>
  intro c l
  rw [numsGo]
  split
  · exact Nat.le_trans (ih _ _) (left_nums c 0 64)
  · exact Nat.le_refl _
theorem left_mc3 (c : Cu) : (mc3 c).left.length ≤ c.left.length := Nat.le_trans (left_keyed _ _) (Nat.le_trans (left_nums _ _ _) (left_keyed _ _))
theorem left_mc7 (c : Cu) : (mc7 c).left.length ≤ c.left.length := Nat.le_trans (left_keyed _ _) (Nat.le_trans (left_nums _ _ _) (Nat.le_trans (left_keyed _ _) (Nat.le_trans (left_go _ _ _) (left_mc3 c))))
theorem got_len (c : Cu) : (gotM c).args.length ≤ c.left.length ∧ (gotM c).saved.length ≤ c.left.length := by
 constructor
 · have h1 := nums_len (mc3 c).left.length (mc3 c) []
   have h2 := left_mc3 c
   show ((mc3 c).nums []).2.length ≤ _
   unfold Cu.nums
   simp at h1
   omega
 · have h1 := nums_len (mc7 c).left.length (mc7 c) []
   have h2 := left_mc7 c
   show ((mc7 c).nums []).2.length ≤ _
   unfold Cu.nums
   simp at h1
   omega
def noM : Mm := ⟨0, [], 0, []⟩
/-- What is told of a text whose cursor is at its begin. -/
def toldE (c : Cu) : Int := if (mc9 c).eErr ≠ 0 then (mc9 c).eErr else if (gotM c).rightB then 0 else 2
def toldM (c : Cu) : Mm := if toldE c = 0 then gotM c else noM
end Go.Proofs.YtbjmbahpcoanoaaGreatDoor
