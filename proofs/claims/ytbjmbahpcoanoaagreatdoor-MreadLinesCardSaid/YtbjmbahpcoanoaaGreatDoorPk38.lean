/-
  MreadLines, plainly: targets of many blocks, of many instructions; their texts, how long they are. No condition beyond those that each theorem states.
  Rows of blocks, of instructions, of numbers that are made and written to: whatever their numbers are. No condition beyond those that each theorem states.
-/
import Derived.Test.YtbjmbahpcoanoaaGreatDoorPk35
import Derived.Test.YtbjmbahpcoanoaaGreatDoorPk37
import Derived.Test.YtbjmbahpcoanoaaGreatDoorPk26
import Derived.Test.YtbjmbahpcoanoaaGreatDoorPk11
namespace Go.Proofs.YtbjmbahpcoanoaaGreatDoor

def mvI : Ii := ⟨15, 0, 0, 0, 0, 0, [], 0⟩
def tpT : Tt := ⟨4, 0, 0, 0⟩
/-- A block of so many moves. -/
def mvB (m : Nat) : Bb := ⟨List.replicate m mvI, tpT⟩
def wsG (n : Nat) : Gg := ⟨0, List.replicate n (mvB 0)⟩
def onG (n : Nat) : Gg := ⟨(n : Int) + 200, [mvB (n + 3800)]⟩
def bgG : Gg := ⟨0, List.replicate 10 (mvB 3000)⟩
theorem mv_row : (rowL (insWo mvI)).length = 10 := by decide +kernel
theorem tp_row : (rowL (tmWo tpT)).length = 5 := by decide +kernel
theorem op_row (k : Nat) (hk : k < 1000000) : (rowL (opWo k)).length ≤ 110 := by
 have ho : ∀ x ∈ opWo k, x.ok := by
  intro x hx
  simp only [opWo, List.mem_cons, List.not_mem_nil, or_false] at hx
  rcases hx with rfl | rfl
  · show (_ : Nat) ≤ 50; decide
  · show _ ∧ _; omega
 have h1 := joinB_len ((opWo k).map Wo.b) 50 (fun y hy => by obtain ⟨z, hz, rfl⟩ := List.mem_map.1 hy; exact Wo.len (ho z hz))
 have h2 : (rowL (opWo k)).length = (Lib.join (((opWo k).map Wo.b).map (·.data.toList)) [32]).length + 1 := by
  unfold rowL rowB joinB
  rw [Array.length_toList]
  show (_ ++ _ : ByteArray).size = _
  rw [ByteArray.size_append]
  show (Lib.join _ _).toArray.size + 1 = _
  rw [List.size_toArray]
 have h3 : ((opWo k).map Wo.b).length = 2 := rfl
 rw [h3] at h1
 omega
theorem moves_len (m : Nat) : (((List.replicate m mvI).map insWo).flatMap rowL).length = m * 10 := by
 induction m with
 | zero => rfl
 | succ m ih => rw [List.replicate_succ, List.map_cons, List.flatMap_cons, List.length_append, ih, mv_row]; omega
/-- A block's lines: how long they are. -/
theorem block_len (k m : Nat) (hk : k < 1000000) : m * 10 + 5 ≤ ((blWo k (mvB m)).flatMap rowL).length ∧ ((blWo k (mvB m)).flatMap rowL).length ≤ m * 10 + 115 := by
 have h1 := op_row k hk
 have h2 := moves_len m
 unfold blWo mvB
 rw [List.flatMap_cons, List.flatMap_append, List.length_append, List.length_append, h2, List.flatMap_cons, List.flatMap_nil, List.append_nil, tp_row]
 omega
theorem blocks_len (m : Nat) : ∀ (n k : Nat), k + n ≤ 1000000 → n * (m * 10 + 5) ≤ ((blsWo k (List.replicate n (mvB m))).flatMap rowL).length ∧ ((blsWo k (List.replicate n (mvB m))).flatMap rowL).length ≤ n * (m * 10 + 115)
 | 0, _, _ => by simp [blsWo]
 | n + 1, k, h => by
  obtain ⟨i1, i2⟩ := blocks_len m n (k + 1) (by omega)
  obtain ⟨j1, j2⟩ := block_len k m (by omega)
  rw [List.replicate_succ, blsWo, List.flatMap_append, List.length_append, Nat.succ_mul, Nat.succ_mul]
  omega
theorem head_len (t : Gg) (hf : 0 ≤ t.frame ∧ t.frame ≤ 100000) : (rowL (headWo t)).length ≤ 600 := by
 refine rowL_len (headWo t) (by show 2 ≤ 10; omega) (fun x hx => ?_)
 simp only [headWo, List.mem_cons, List.not_mem_nil, or_false] at hx
 rcases hx with rfl | rfl
 · show (_ : Nat) ≤ 50; decide
 · show _ ∧ _; omega
theorem mv_can (m : Nat) (hm : m ≤ 4000) : CanB (mvB m) := by
 refine ⟨fun x hx => ?_, (by decide : ofEndN wideM 200 (wideB (mvB 0)).tm = 0), by show (List.replicate m mvI).length ≤ _; simpa using hm⟩
 rw [(List.mem_replicate.1 hx).2]
 decide
theorem mv_many {m : Nat} (h : CanB (mvB m)) : m ≤ 4000 := by
 have := h.few
 simpa [mvB] using this
theorem ws_can (n : Nat) (h : n ≤ 200) (h0 : 0 < n) : canG (wsG n) = true := by
 refine can_intro ⟨(by decide : (0 : Int) ≤ 0), (by decide : (0 : Int) ≤ 400)⟩ (by show 0 < (List.replicate n (mvB 0)).length ∧ _; rw [List.length_replicate]; exact ⟨h0, by show (List.replicate n (mvB 0)).length ≤ _; rw [List.length_replicate]; exact h⟩) (fun b hb => ?_)
 rw [(List.mem_replicate.1 hb).2]
 exact mv_can 0 (by omega)
theorem ws_not (n : Nat) (h : 200 < n) : ¬ canG (wsG n) = true := fun hc => by
 have := (can_parts hc).2.1.2
 have h2 : (wsG n).blocks.length = n := List.length_replicate
 omega
theorem on_can (n : Nat) (h : n ≤ 200) : canG (onG n) = true := by
 refine can_intro ⟨by show 0 ≤ (n : Int) + 200; omega, by show (n : Int) + 200 ≤ 400; omega⟩ ⟨by show 0 < 1; omega, by show 1 ≤ 200; omega⟩ (fun b hb => ?_)
 have : b = mvB (n + 3800) := by simpa [onG] using hb
 rw [this]
 exact mv_can _ (by omega)
theorem on_not (n : Nat) (h : 200 < n) : ¬ canG (onG n) = true := fun hc => by
 have := mv_many ((can_parts hc).2.2 (mvB (n + 3800)) (by simp [onG]))
 omega
theorem bg_can : canG bgG = true := by
 refine can_intro ⟨by decide, by decide⟩ (by show 0 < (List.replicate 10 (mvB 3000)).length ∧ _; rw [List.length_replicate]; exact ⟨by omega, by show (List.replicate 10 (mvB 3000)).length ≤ _; rw [List.length_replicate]; omega⟩) (fun b hb => ?_)
 rw [(List.mem_replicate.1 hb).2]
 exact mv_can 3000 (by omega)
theorem text_of {t : Gg} (hc : canG t = true) (hl : (gtxL t).length ≤ 90000) : printE t = 0 ∧ (printS t).size ≤ 90000 := by
 refine ⟨by unfold printE; rw [if_pos hc, if_pos (by omega)], ?_⟩
 unfold printS
 rw [if_pos ⟨hc, by omega⟩]
 show (gtxL t).toArray.size ≤ _
 rw [List.size_toArray]
 exact hl
theorem text_none {t : Gg} (hc : ¬ canG t = true) : printE t = 2 ∧ (printS t).size ≤ 90000 := by
 refine ⟨by unfold printE; rw [if_neg hc], ?_⟩
 unfold printS
 rw [if_neg (fun h => hc h.1)]
 exact Nat.zero_le _
theorem ws_text (n : Nat) (h0 : 0 < n) (h : n ≤ 300) : (printE (wsG n) = 0 ↔ n ≤ 200) ∧ (printS (wsG n)).size ≤ 90000 := by
 by_cases h2 : n ≤ 200
 · have h3 := blocks_len 0 n 0 (by omega)
   have h4 := head_len (wsG n) ⟨(by decide : (0 : Int) ≤ 0), (by decide : (0 : Int) ≤ 100000)⟩
   have h5 : (gtxL (wsG n)).length ≤ 90000 := by
    show (rowL (headWo (wsG n)) ++ (blsWo 0 (List.replicate n (mvB 0))).flatMap rowL).length ≤ _
    rw [List.length_append]
    have : n * (0 * 10 + 115) ≤ 200 * 115 := Nat.mul_le_mul h2 (by omega)
    omega
   have := text_of (ws_can n h2 h0) h5
   exact ⟨⟨fun _ => h2, fun _ => this.1⟩, this.2⟩
 · have := text_none (ws_not n (by omega))
   exact ⟨⟨fun e => (by rw [this.1] at e; cases e), fun e => absurd e h2⟩, this.2⟩
theorem on_text (n : Nat) (h : n ≤ 300) : (printE (onG n) = 0 ↔ n ≤ 200) ∧ (printS (onG n)).size ≤ 90000 := by
 by_cases h2 : n ≤ 200
 · have h3 := blocks_len (n + 3800) 1 0 (by omega)
   have h4 := head_len (onG n) ⟨by show 0 ≤ (n : Int) + 200; omega, by show (n : Int) + 200 ≤ 100000; omega⟩
   have h5 : (gtxL (onG n)).length ≤ 90000 := by
    show (rowL (headWo (onG n)) ++ (blsWo 0 (List.replicate 1 (mvB (n + 3800)))).flatMap rowL).length ≤ _
    rw [List.length_append]
    omega
   have := text_of (on_can n h2) h5
   exact ⟨⟨fun _ => h2, fun _ => this.1⟩, this.2⟩
 · have := text_none (on_not n (by omega))
   exact ⟨⟨fun e => (by rw [this.1] at e; cases e), fun e => absurd e h2⟩, this.2⟩
theorem bg_text : printE bgG = 3 := by
 have h3 := (blocks_len 3000 10 0 (by omega)).1
 have h5 : ¬ (gtxL bgG).length ≤ 262144 := by
  show ¬ (rowL (headWo bgG) ++ (blsWo 0 (List.replicate 10 (mvB 3000))).flatMap rowL).length ≤ _
  rw [List.length_append]
  omega
 unfold printE
 rw [if_pos bg_can, if_neg h5]
theorem mv_small (f : Int) (n m : Nat) (hn : n ≤ 1000000) (hm : m ≤ 1000000) : SmallG ⟨f, List.replicate n (mvB m)⟩ := by
 refine ⟨by show (List.replicate n (mvB m)).length ≤ _; rw [List.length_replicate]; exact hn, fun x hx => ?_⟩
 rw [(List.mem_replicate.1 hx).2]
 refine ⟨by show (List.replicate m mvI).length ≤ _; rw [List.length_replicate]; exact hm, fun y hy => ?_⟩
 rw [(List.mem_replicate.1 hy).2]
 exact Nat.zero_le _
/-- A text of blanks tells no target. -/
theorem refL_blanks : ∀ (n f : Nat) (line col : Int), n ≤ f → refL f (List.replicate n 32) [] line col false = ([], 0, 0, 0)
 | 0, 0, _, _, _ => rfl
 | 0, f + 1, line, col, _ => by rw [refL, if_neg (by simp)]
 | n + 1, f + 1, line, col, h => by
  have e1 : ((32 : UInt8).toNat : Nat) = 32 := by decide
  rw [List.replicate_succ, refL, if_pos (by simp), atL_ascii 32 _ (by decide)]
  simp only [e1]
  rw [if_neg (by omega), if_neg (by omega), if_pos (by simp)]
  have ih := refL_blanks n f line (col + 1) (by omega)
  simpa using ih
theorem start_blank (s : ByteArray) (n : Nat) (hs : s.data.toList = List.replicate n 32) : startC s = ⟨[], 0, 0, 0⟩ := by
 have hz : s.size = n := by
  have := congrArg List.length hs
  simpa using this
 have h := read_list s
 rw [hs, refL_blanks n s.size 1 1 (by omega)] at h
 simp only [Prod.mk.injEq] at h
 obtain ⟨h1, h2, h3, h4⟩ := h
 unfold startC
 rw [← h1, ← h2, ← h3, ← h4]
 rfl
theorem pr_blank (s : ByteArray) (n : Nat) (hs : s.data.toList = List.replicate n 32) : prE s = if 262144 < n then 3 else 7 := by
 have hz : s.size = n := by
  have := congrArg List.length hs
  simpa using this
 unfold prE
 rw [hz, start_blank s n hs]
 split
 · rfl
 · decide +kernel
end Go.Proofs.YtbjmbahpcoanoaaGreatDoor
namespace Go.Proofs.YtbjmbahpcoanoaaGreatDoor
open Go.RowKit

/-- A row of n parts of s cells each: the one at q is no row, the others are numbers. -/
def Good (s q : Nat) (cs : Array Value) (n : Nat) : Prop := ∀ j r, j < n → r < s → (r = q → cs[j * s + r]? = some (.slice none 0 0)) ∧ (r ≠ q → ∃ v : Int, cs[j * s + r]? = some (.int .i64 v))
theorem place_one {s j r j' r' : Nat} (hr : r < s) (hr' : r' < s) (h : j * s + r = j' * s + r') : j = j' ∧ r = r' := by
 have h1 : (j * s + r) / s = j := by rw [Nat.mul_comm, Nat.mul_add_div (by omega), Nat.div_eq_of_lt hr]; rfl
 have h2 : (j' * s + r') / s = j' := by rw [Nat.mul_comm, Nat.mul_add_div (by omega), Nat.div_eq_of_lt hr']; rfl
 have hj : j = j' := by rw [← h1, ← h2, h]
 subst hj
 exact ⟨rfl, by omega⟩
theorem Good.put {s q n : Nat} {cs : Array Value} (h : Good s q cs n) {j r : Nat} (hr : r < s) (hq : r ≠ q) (v : Int) : Good s q (cs.setIfInBounds (j * s + r) (.int .i64 v)) n := by
 intro j' r' hj' hr'
 obtain ⟨h1, h2⟩ := h j' r' hj' hr'
 rw [Array.getElem?_setIfInBounds]
 by_cases he : j * s + r = j' * s + r'
 · obtain ⟨e1, e2⟩ := place_one hr hr' he
   subst e1 e2
   refine ⟨fun hh => absurd hh hq, fun _ => ⟨v, ?_⟩⟩
   obtain ⟨u, hu⟩ := h2 hq
   have hb : j * s + r < cs.size := (Array.getElem?_eq_some_iff.1 hu).1
   rw [if_pos rfl, if_pos hb]
 · rw [if_neg he]
   exact ⟨h1, h2⟩
theorem Good.putNil {s q n : Nat} {cs : Array Value} (h : Good s q cs n) {j : Nat} (hq : q < s) : Good s q (cs.setIfInBounds (j * s + q) (.slice none 0 0)) n := by
 intro j' r' hj' hr'
 obtain ⟨h1, h2⟩ := h j' r' hj' hr'
 rw [Array.getElem?_setIfInBounds]
 by_cases he : j * s + q = j' * s + r'
 · obtain ⟨e1, e2⟩ := place_one hq hr' he
   subst e1 e2
   refine ⟨fun _ => ?_, fun hh => absurd rfl hh⟩
   have hb : j * s + q < cs.size := (Array.getElem?_eq_some_iff.1 (h1 rfl)).1
   rw [if_pos rfl, if_pos hb]
 · rw [if_neg he]
   exact ⟨h1, h2⟩
theorem Good.less {s q n m : Nat} {cs : Array Value} (h : Good s q cs n) (hm : m ≤ n) : Good s q cs m := fun j r hj hr => h j r (by omega) hr
/-- A row of blocks without instructions. -/
theorem good_blocks {w : World} {g : Nat} {t : TypeId} {cs : Array Value} {n : Nat} (hb : Blk w g t cs) (h : Good 5 0 cs n) : ∃ l : List Bb, l.length = n ∧ (∀ x ∈ l, x.ins = []) ∧ BlsW w (some ⟨g, 0, none⟩) l := by
 have key : ∀ j, ∃ x : Bb, x.ins = [] ∧ (j < n → BlAt w g (j * 5) x none 0) := fun j => by
  by_cases hj : j < n
  · obtain ⟨k, hk⟩ := (h j 1 hj (by omega)).2 (by omega)
    obtain ⟨a, ha⟩ := (h j 2 hj (by omega)).2 (by omega)
    obtain ⟨t0, h0⟩ := (h j 3 hj (by omega)).2 (by omega)
    obtain ⟨t1, h1⟩ := (h j 4 hj (by omega)).2 (by omega)
    exact ⟨⟨[], ⟨k, a, t0, t1⟩⟩, rfl, fun _ => ⟨(hb.cell _).trans ((h j 0 hj (by omega)).1 rfl), (hb.cell _).trans hk, (hb.cell _).trans ha, (hb.cell _).trans h0, (hb.cell _).trans h1, fun _ => rfl, fun k x hx => by simp at hx⟩⟩
  · exact ⟨⟨[], ⟨0, 0, 0, 0⟩⟩, rfl, fun h => absurd h hj⟩
 refine ⟨(List.range n).map fun j => (key j).choose, by simp, fun x hx => ?_, fun j x hx => ?_⟩
 · obtain ⟨j, _, rfl⟩ := List.mem_map.1 hx
   exact (key j).choose_spec.1
 · rw [List.getElem?_map, Option.map_eq_some_iff] at hx
   obtain ⟨i, hi, rfl⟩ := hx
   obtain ⟨hj, hij⟩ := List.getElem?_eq_some_iff.1 hi
   rw [List.getElem_range] at hij
   subst hij
   exact ⟨g, 0, none, 0, rfl, hb.lt, by rw [Nat.zero_add]; exact (key j).choose_spec.2 (by simpa using hj)⟩
/-- A row of instructions without arguments. -/
theorem good_ins {w : World} {g : Nat} {t : TypeId} {cs : Array Value} {n : Nat} (hb : Blk w g t cs) (h : Good 8 6 cs n) : ∃ l : List Ii, l.length = n ∧ (∀ x ∈ l, x.args = []) ∧ InsW w (some ⟨g, 0, none⟩) l := by
 have key : ∀ j, ∃ x : Ii, x.args = [] ∧ (j < n → InAt w g (j * 8) x none 0) := fun j => by
  by_cases hj : j < n
  · obtain ⟨a0, h0⟩ := (h j 0 hj (by omega)).2 (by omega)
    obtain ⟨a1, h1⟩ := (h j 1 hj (by omega)).2 (by omega)
    obtain ⟨a2, h2⟩ := (h j 2 hj (by omega)).2 (by omega)
    obtain ⟨a3, h3⟩ := (h j 3 hj (by omega)).2 (by omega)
    obtain ⟨a4, h4⟩ := (h j 4 hj (by omega)).2 (by omega)
    obtain ⟨a5, h5⟩ := (h j 5 hj (by omega)).2 (by omega)
    obtain ⟨a7, h7⟩ := (h j 7 hj (by omega)).2 (by omega)
    exact ⟨⟨a0, a1, a2, a3, a4, a5, [], a7⟩, rfl, fun _ => ⟨(hb.cell _).trans h0, (hb.cell _).trans h1, (hb.cell _).trans h2, (hb.cell _).trans h3, (hb.cell _).trans h4, (hb.cell _).trans h5, (hb.cell _).trans ((h j 6 hj (by omega)).1 rfl), (hb.cell _).trans h7, fun _ => rfl, IntsW.nil _ _⟩⟩
  · exact ⟨⟨0, 0, 0, 0, 0, 0, [], 0⟩, rfl, fun h => absurd h hj⟩
 refine ⟨(List.range n).map fun j => (key j).choose, by simp, fun x hx => ?_, fun j x hx => ?_⟩
 · obtain ⟨j, _, rfl⟩ := List.mem_map.1 hx
   exact (key j).choose_spec.1
 · rw [List.getElem?_map, Option.map_eq_some_iff] at hx
   obtain ⟨i, hi, rfl⟩ := hx
   obtain ⟨hj, hij⟩ := List.getElem?_eq_some_iff.1 hi
   rw [List.getElem_range] at hij
   subst hij
   exact ⟨g, 0, none, 0, rfl, hb.lt, by rw [Nat.zero_add]; exact (key j).choose_spec.2 (by simpa using hj)⟩
theorem made_good (s q n : Nat) (z : Array Value) (hz : z.size = s) (_hs : 0 < s) (h : ∀ r, r < s → (r = q → z[r]? = some (.slice none 0 0)) ∧ (r ≠ q → ∃ v : Int, z[r]? = some (.int .i64 v))) : Good s q (madeCells z (n * s)) n := by
 intro j r hj hr
 have hlt : j * s + r < n * s := by
  have := Nat.mul_le_mul_right s (show j + 1 ≤ n by omega)
  rw [Nat.add_mul] at this
  omega
 have hm : (j * s + r) % s = r := by rw [Nat.mul_comm, Nat.mul_add_mod]; exact Nat.mod_eq_of_lt hr
 have e : (madeCells z (n * s))[j * s + r]? = z[r]? := by
  unfold madeCells
  rw [Array.getElem?_map, Array.getElem?_range, if_pos hlt]
  simp only [Option.map_some, hz, hm]
  rw [Array.getElem?_eq_getElem (by omega)]
  simp [hz, hr]
 rw [e]
 exact h r hr
/-- Instructions, all nought. -/
theorem make_ins {n : Nat} (hn : n ≤ 1000000) : ∃ cs, Good 8 6 cs n ∧ ∀ W : World, (Instr.makeSlice 47 (.int .i64 n) (.int .i64 n)).run Tryz.prog W = .ok (.slice (some ⟨W.heap.size, 0, none⟩) n n) (W.alloc (.cells cs 46)) := by
 obtain ⟨i, hi, hz, hs, hb⟩ := info_parts ins_info
 have h := fun W => run_make (P := Tryz.prog) W 47 46 i _ Tryz.underlying47 hi hz .i64 .i64 (n : Int) (n : Int) (by omega) (Int.le_refl _) (by rw [hb]; omega) (by omega)
 rw [hs] at h
 simp only [Int.toNat_natCast] at h
 refine ⟨_, made_good 8 6 n _ rfl (by omega) (fun r hr => ?_), h⟩
 have h8 : r = 0 ∨ r = 1 ∨ r = 2 ∨ r = 3 ∨ r = 4 ∨ r = 5 ∨ r = 6 ∨ r = 7 := by omega
 rcases h8 with h | h | h | h | h | h | h | h <;> subst h <;> refine ⟨fun h => ?_, fun h => ?_⟩ <;> first | (exact absurd h (by decide)) | exact ⟨0, rfl⟩ | rfl
/-- Blocks, all nought. -/
theorem make_blocks {n : Nat} (hn : n ≤ 1000000) : ∃ cs, Good 5 0 cs n ∧ ∀ W : World, (Instr.makeSlice 22 (.int .i64 n) (.int .i64 n)).run Tryz.prog W = .ok (.slice (some ⟨W.heap.size, 0, none⟩) n n) (W.alloc (.cells cs 53)) := by
 obtain ⟨i, hi, hz, hs, hb⟩ := info_parts block_info
 have h := fun W => run_make (P := Tryz.prog) W 22 53 i _ Tryz.underlying22 hi hz .i64 .i64 (n : Int) (n : Int) (by omega) (Int.le_refl _) (by rw [hb]; omega) (by omega)
 rw [hs] at h
 simp only [Int.toNat_natCast] at h
 refine ⟨_, made_good 5 0 n _ rfl (by omega) (fun r hr => ?_), h⟩
 have h5 : r = 0 ∨ r = 1 ∨ r = 2 ∨ r = 3 ∨ r = 4 := by omega
 rcases h5 with h | h | h | h | h <;> subst h <;> refine ⟨fun h => ?_, fun h => ?_⟩ <;> first | (exact absurd h (by decide)) | exact ⟨0, rfl⟩ | rfl
/-- Numbers, all nought. -/
theorem make_ints {n : Nat} (hn : n ≤ 1000000) : ∃ cs, Good 1 1 cs n ∧ ∀ W : World, (Instr.makeSlice 37 (.int .i64 n) (.int .i64 n)).run Tryz.prog W = .ok (.slice (some ⟨W.heap.size, 0, none⟩) n n) (W.alloc (.cells cs 3)) := by
 obtain ⟨i, hi, hz, hs, hb⟩ := info_parts int_info
 have h := fun W => run_make (P := Tryz.prog) W 37 3 i _ Tryz.underlying37 hi hz .i64 .i64 (n : Int) (n : Int) (by omega) (Int.le_refl _) (by rw [hb]; omega) (by omega)
 rw [hs] at h
 simp only [Int.toNat_natCast] at h
 refine ⟨_, made_good 1 1 n _ rfl (by omega) (fun r hr => ?_), h⟩
 have h1 : r = 0 := by omega
 subst h1
 exact ⟨fun h => absurd h (by decide), fun _ => ⟨0, rfl⟩⟩
theorem good_ints {w : World} {g : Nat} {t : TypeId} {cs : Array Value} {n : Nat} (hb : Blk w g t cs) (h : Good 1 1 cs n) : ∃ l : List Int, l.length = n ∧ IntsW w (some ⟨g, 0, none⟩) l := by
 have key : ∀ j, ∃ x : Int, j < n → w.cell? ⟨g, j, none⟩ = some (.int .i64 x) := fun j => by
  by_cases hj : j < n
  · obtain ⟨v, hv⟩ := (h j 0 hj (by omega)).2 (by omega)
    rw [Nat.mul_one, Nat.add_zero] at hv
    exact ⟨v, fun _ => (hb.cell _).trans hv⟩
  · exact ⟨0, fun h => absurd h hj⟩
 refine ⟨(List.range n).map fun j => (key j).choose, by simp, fun j x hx => ?_⟩
 rw [List.getElem?_map, Option.map_eq_some_iff] at hx
 obtain ⟨i, hi, rfl⟩ := hx
 obtain ⟨hj, hij⟩ := List.getElem?_eq_some_iff.1 hi
 rw [List.getElem_range] at hij
 subst hij
 exact ⟨g, 0, rfl, hb.lt, by rw [Nat.zero_add]; exact (key j).choose_spec (by simpa using hj)⟩
theorem good_list {cs : Array Value} {n : Nat} (h : Good 1 1 cs n) : ∃ l : List Int, l.length = n ∧ ∀ (k : Nat) (x : Int), l[k]? = some x → cs[k]? = some (Value.int .i64 x) := by
 have key : ∀ j, ∃ x : Int, j < n → cs[j]? = some (.int .i64 x) := fun j => by
  by_cases hj : j < n
  · obtain ⟨v, hv⟩ := (h j 0 hj (by omega)).2 (by omega)
    rw [Nat.mul_one, Nat.add_zero] at hv
    exact ⟨v, fun _ => hv⟩
  · exact ⟨0, fun h => absurd h hj⟩
 refine ⟨(List.range n).map fun j => (key j).choose, by simp, fun j x hx => ?_⟩
 rw [List.getElem?_map, Option.map_eq_some_iff] at hx
 obtain ⟨i, hi, rfl⟩ := hx
 obtain ⟨hj, hij⟩ := List.getElem?_eq_some_iff.1 hi
 rw [List.getElem_range] at hij
 subst hij
 exact (key j).choose_spec (by simpa using hj)
end Go.Proofs.YtbjmbahpcoanoaaGreatDoor
