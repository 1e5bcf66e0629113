/-
  Rows of places, and package mir's places of registers. No condition beyond those that each theorem states.
  The document's answers about what an instruction and an end of a target read and write. No condition beyond those that each theorem states.
-/
import Derived.Test.YtjmdgbgjleeloaaGreatDoorPk4
import Derived.Test.YtjmdgbgjleeloaaGreatDoorPk9
import Derived.Laws.StructEq
import Derived.ChangeKeysEq
import Derived.Deep.QuietTactic
import Derived.BigQuiet
import Derived.BigGuard
namespace Go.Proofs.YtjmdgbgjleeloaaGreatDoor
open Go.RowKit

def locC (l : Ll) : List Value := [.bool l.1, .int .i64 l.2]
theorem loc_len (l : Ll) : (locC l).length = 2 := rfl
theorem loc_one (l : Ll) : ∀ u ∈ locC l, u.oneCell' = true := fun u hu => by
  simp only [locC, List.mem_cons, List.not_mem_nil, or_false] at hu
  rcases hu with rfl | rfl <;> rfl
/-- Places lie in a row from there. -/
def LocsW (w : World) (a : Option Addr) (l : List Ll) : Prop := ∀ k x, l[k]? = some x → ∃ g o, a = some ⟨g, o, none⟩ ∧ g < w.heap.size ∧ w.cell? ⟨g, o + k * 2, none⟩ = some (.bool x.1) ∧ w.cell? ⟨g, o + k * 2 + 1, none⟩ = some (.int .i64 x.2)
theorem LocsW.below {w w' : World} {a : Option Addr} {l : List Ll} (h : LocsW w a l) (hb : Below w.heap.size w w') : LocsW w' a l := fun k x hx => by
  obtain ⟨g, o, ha, hg, h0, h1⟩ := h k x hx
  exact ⟨g, o, ha, Nat.lt_of_lt_of_le hg hb.size, (hb.cell hg).trans h0, (hb.cell hg).trans h1⟩
theorem flatL : ∀ (l : List Ll) (k : Nat) (x : Ll) (j : Nat), l[k]? = some x → j < 2 → (l.flatMap locC)[k * 2 + j]? = (locC x)[j]?
  | [], k, x, j, h, _ => by simp at h
  | y :: l, 0, x, j, h, hj => by
    simp only [List.getElem?_cons_zero, Option.some.injEq] at h
    subst h
    rw [List.flatMap_cons, Nat.zero_mul, Nat.zero_add, List.getElem?_append_left (by rw [loc_len]; exact hj)]
  | y :: l, k + 1, x, j, h, hj => by
    rw [List.getElem?_cons_succ] at h
    rw [List.flatMap_cons, List.getElem?_append_right (by rw [loc_len, Nat.succ_mul]; omega), loc_len, show (k + 1) * 2 + j - 2 = k * 2 + j by rw [Nat.succ_mul]; omega]
    exact flatL l k x j h hj
end Go.Proofs.YtjmdgbgjleeloaaGreatDoor
namespace Go.Proofs.YtjmdgbgjleeloaaGreatDoor
open Go.RowKit

def inL (s : ByteArray) (c : Int) : Bool := s.data.toList.any fun b => (b.toNat : Int) == c
def hasG (o : Int) : ByteArray :=
  if o = 1 then ⟨#[100, 105]⟩ else if 2 ≤ o ∧ o ≤ 10 then ⟨#[100, 97, 98]⟩ else if o = 11 then ⟨#[100, 97, 105]⟩ else if o = 12 then ⟨#[97, 98, 105]⟩ else if o = 13 then ⟨#[99]⟩ else if o = 15 then ⟨#[100, 97]⟩ else if o = 16 then ⟨#[97, 115]⟩ else if o = 17 then ⟨#[100, 115]⟩ else ⟨#[]⟩
/-- What the document's letters say is what the code's bits say. -/
structure LetG (o : Int) : Prop where
  d : inL (hasG o) 100 = hasB o 1
  a : inL (hasG o) 97 = hasB o 2
  b : inL (hasG o) 98 = hasB o 4
  i : inL (hasG o) 105 = hasB o 8
  s : inL (hasG o) 115 = hasB o 48
  c : hasB o 64 = true ↔ hasG o = ⟨#[99]⟩
  n : (partsN o != 0) = false ↔ hasG o = ⟨#[]⟩
  f : hasB o 16 = (o == 17)
  t : hasB o 32 = (o == 16)
theorem hasG_none {o : Int} (h : ¬ (o = 1 ∨ o = 2 ∨ o = 3 ∨ o = 4 ∨ o = 5 ∨ o = 6 ∨ o = 7 ∨ o = 8 ∨ o = 9 ∨ o = 10 ∨ o = 11 ∨ o = 12 ∨ o = 13 ∨ o = 15 ∨ o = 16 ∨ o = 17)) : hasG o = ⟨#[]⟩ := by
  unfold hasG
  rw [if_neg (by omega), if_neg (by omega), if_neg (by omega), if_neg (by omega), if_neg (by omega), if_neg (by omega), if_neg (by omega), if_neg (by omega)]
theorem let_g (o : Int) : LetG o := by
  by_cases h : o = 1 ∨ o = 2 ∨ o = 3 ∨ o = 4 ∨ o = 5 ∨ o = 6 ∨ o = 7 ∨ o = 8 ∨ o = 9 ∨ o = 10 ∨ o = 11 ∨ o = 12 ∨ o = 13 ∨ o = 15 ∨ o = 16 ∨ o = 17
  · rcases h with rfl | rfl | rfl | rfl | rfl | rfl | rfl | rfl | rfl | rfl | rfl | rfl | rfl | rfl | rfl | rfl <;> exact ⟨by decide, by decide, by decide, by decide, by decide, by decide, by decide, by decide, by decide⟩
  · have hg := hasG_none h
    rcases op_cases o with ⟨h0, hk⟩ | h2
    · refine ⟨by rw [hg, hk]; rfl, by rw [hg, hk]; rfl, by rw [hg, hk]; rfl, by rw [hg, hk]; rfl, by rw [hg, hk]; rfl, by rw [hg, hk]; decide, by rw [hg, h0]; decide, ?_, ?_⟩
      · rw [hk]
        have : (o == 17) = false := by simp; omega
        rw [this]
      · rw [hk]
        have : (o == 16) = false := by simp; omega
        rw [this]
    · exact absurd h2 h
set_option maxRecDepth 100000 in
theorem in6_any (s : ByteArray) (c : Int) (w : World) (hs : s.size ≤ 1000) : Calls Tryz.prog 143 #[.string s, .int .u8 c] w fun e w' => e = .returned (.bool (inL s c)) ∧ w = w' := by
  have hl : s.data.toList.length = s.size := rfl
  go_enter Tryz.func143, Tryz.ntmps143
  go_wp2
  go_loopw [5] (fun k wr => ∃ j : Nat, k = .int .i64 j ∧ j ≤ s.size ∧ Hid (inL s c = (s.data.toList.drop j).any fun b => (b.toNat : Int) == c) ∧ w = wr) (fun k _ => s.size - (intOf k).toNat)
  case atStart => exact ⟨0, rfl, Nat.zero_le _, rfl, rfl⟩
  case round =>
    obtain ⟨j, rfl, hj, HA, rfl⟩ := hrel
    by_cases hlt : j < s.size
    · have hlt' : (j : Int) < s.size := by omega
      have hj0 : (0 : Int) ≤ j := by omega
      have HD : Hid (inL s c = (((s[j].toNat : Int) == c) || (s.data.toList.drop (j + 1)).any fun b => (b.toNat : Int) == c)) := by
        show _ = _
        rw [HA.out, List.drop_eq_getElem_cons (by omega)]
        rfl
      clear HA
      cases hq : ((s[j].toNat : Int) == c)
      · rw [hq] at HD
        go_wp2
        go_roundw
        case rel => exact ⟨j + 1, by go_num, by omega, by have := HD.out; simpa [Hid] using this, trivial⟩
        case measure => simp [intOf]; omega
      · rw [hq] at HD
        go_wp2
        go_ret
        exact ⟨by rw [HD.out]; rfl, rfl⟩
    · have e : j = s.size := by omega
      subst e
      go_wp2
      go_ret
      refine ⟨?_, rfl⟩
      rw [HA.out, List.drop_eq_nil_of_le (by omega)]
      rfl
set_option maxHeartbeats 4000000 in
set_option maxRecDepth 100000 in
theorem has6_any (o : Int) (w : World) : Calls Tryz.prog 142 #[.int .i64 o] w fun e w' => e = .returned (.string (hasG o)) ∧ w = w' := by
  by_cases h1 : o = 1
  · subst h1
    go_enter Tryz.func142, Tryz.ntmps142
    go_wp2
    go_ret
    exact ⟨rfl, rfl⟩
  have q1 : (o == 1) = false := by simp [h1]
  by_cases h2 : 2 ≤ o ∧ o ≤ 10
  · obtain ⟨h2a, h2b⟩ := h2
    have HE : Hid (hasG o = ⟨#[100, 97, 98]⟩) := by
      show _ = _
      unfold hasG
      rw [if_neg h1, if_pos ⟨h2a, h2b⟩]
    clear h1
    go_enter Tryz.func142, Tryz.ntmps142
    go_wp2
    go_ret
    exact ⟨by rw [HE.out]; rfl, rfl⟩
  by_cases h11 : o = 11
  · subst h11
    go_enter Tryz.func142, Tryz.ntmps142
    go_wp2
    go_ret
    exact ⟨rfl, rfl⟩
  by_cases h12 : o = 12
  · subst h12
    go_enter Tryz.func142, Tryz.ntmps142
    go_wp2
    go_ret
    exact ⟨rfl, rfl⟩
  by_cases h13 : o = 13
  · subst h13
    go_enter Tryz.func142, Tryz.ntmps142
    go_wp2
    go_ret
    exact ⟨rfl, rfl⟩
  by_cases h15 : o = 15
  · subst h15
    go_enter Tryz.func142, Tryz.ntmps142
    go_wp2
    go_ret
    exact ⟨rfl, rfl⟩
  by_cases h16 : o = 16
  · subst h16
    go_enter Tryz.func142, Tryz.ntmps142
    go_wp2
    go_ret
    exact ⟨rfl, rfl⟩
  by_cases h17 : o = 17
  · subst h17
    go_enter Tryz.func142, Tryz.ntmps142
    go_wp2
    go_ret
    exact ⟨rfl, rfl⟩
  have HE : Hid (hasG o = ⟨#[]⟩) := hasG_none (by omega)
  have q11 : (o == 11) = false := by simp [h11]
  have q12 : (o == 12) = false := by simp [h12]
  have q13 : (o == 13) = false := by simp [h13]
  have q15 : (o == 15) = false := by simp [h15]
  have q16 : (o == 16) = false := by simp [h16]
  have q17 : (o == 17) = false := by simp [h17]
  by_cases h2a : 2 ≤ o
  · have h2b : ¬ o ≤ 10 := fun h => h2 ⟨h2a, h⟩
    clear h1 h2 h11 h12 h13 h15 h16 h17
    go_enter Tryz.func142, Tryz.ntmps142
    go_wp2
    go_ret
    exact ⟨by rw [HE.out]; rfl, rfl⟩
  · clear h1 h2 h11 h12 h13 h15 h16 h17
    go_enter Tryz.func142, Tryz.ntmps142
    go_wp2
    go_ret
    exact ⟨by rw [HE.out]; rfl, rfl⟩
theorem bytes_ne {a b : ByteArray} (h : ¬ a = b) : ¬ a.toList = b.toList := by
  rw [ByteArray.toList_eq, ByteArray.toList_eq]
  exact fun e => h (ByteArray.ext (Array.toList_inj.mp e))
theorem bytes_empty {a : ByteArray} (h : ¬ a = ⟨#[]⟩) : a.toList.isEmpty = false := by
  have := bytes_ne h
  rw [ByteArray.toList_eq ⟨#[]⟩] at this
  cases e : a.toList with
  | nil => exact absurd (by rw [e]) this
  | cons _ _ => rfl
theorem bytes_c {h : ByteArray} (hc : ¬ h = ⟨#[99]⟩) : (h.toList == [99]) = false := by
  have := bytes_ne hc
  rw [ByteArray.toList_eq ⟨#[99]⟩] at this
  rw [beq_eq_false_iff_ne]
  exact this
theorem hasG_small (o : Int) : (hasG o).size ≤ 1000 := by
  unfold hasG
  repeat' split
  all_goals decide
/-- What the document's parts of an instruction are together. -/
theorem writes_doc (m : Mm) (x : Ii) : writesT m x = if hasB x.op 1 then [regL x.dst] else if x.op = 16 then [(true, x.imm)] else if hasB x.op 64 then [regL m.ret] else [] := by
  unfold writesT
  rcases op_cases x.op with ⟨h, hk⟩ | h | h | h | h | h | h | h | h | h | h | h | h | h | h | h | h
  · rw [hk, hk, hk]
    by_cases h16 : x.op = 16
    · rw [h16] at h
      exact absurd h (by decide)
    · simp [h16]
  all_goals (rw [h]; rfl)
end Go.Proofs.YtjmdgbgjleeloaaGreatDoor
