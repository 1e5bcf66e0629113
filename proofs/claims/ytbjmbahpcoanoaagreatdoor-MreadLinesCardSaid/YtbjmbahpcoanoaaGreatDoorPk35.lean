/-
  What can be written has parts that can be told; package mread's Print. Conditions: the library's tables, the Ops' names and parts hold what the text lays.
  What Parse and Print tell, plainly; a cursor over a text that is not too long fits; parts that can be told make a target that can be written. No condition beyond those that each theorem states.
  What a reader's rows hold, as blocks in memory; what is read has no arguments. Conditions: as each theorem states.
-/
import Derived.Test.YtbjmbahpcoanoaaGreatDoorPk34
import Derived.Test.YtbjmbahpcoanoaaGreatDoorPk31
namespace Go.Proofs.YtbjmbahpcoanoaaGreatDoor
open Go.RowKit

theorem ins_range {x : Ii} (h : ofInsN wideM 400 x = 0) : (1 ≤ x.op ∧ x.op ≤ 17 ∧ x.op ≠ 14) ∧ (0 ≤ x.dst ∧ x.dst < 64) ∧ (0 ≤ x.a ∧ x.a < 64) ∧ (0 ≤ x.b ∧ x.b < 64) ∧ (-1099511627776 ≤ x.imm ∧ x.imm ≤ 1099511627776) ∧ (0 ≤ x.callee ∧ x.callee < 100) ∧ (0 ≤ x.many ∧ x.many < 9) ∧ x.args = [] := by
 obtain ⟨h1, h2, h3⟩ := ins_right h
 have h4 := below_iff.1 h2
 have r1 := h4 x.dst (by simp)
 have r2 := h4 x.a (by simp)
 have r3 := h4 x.b (by simp)
 have h5 := h1
 unfold isInsT at h5
 simp only [Bool.and_eq_true, bne_iff_ne] at h5
 obtain ⟨⟨⟨⟨⟨⟨p1, _⟩, _⟩, _⟩, p5⟩, p6⟩, p7⟩ := h5
 refine ⟨?_, r1, r2, r3, ?_, ?_, ?_, by simpa using p7⟩
 · rcases op_cases x.op with ⟨h0, _⟩ | h | h | h | h | h | h | h | h | h | h | h | h | h | h | h | h
   · exact absurd h0 p1
   all_goals omega
 · simp only [Bool.or_eq_true, Bool.and_eq_true, beq_iff_eq] at p5
   rcases p5 with (h6 | ⟨_, h6⟩) | h6
   · have := below_iff.1 (h3 h6) x.imm (by simp)
     omega
   · unfold immT at h6
     simp only [Bool.and_eq_true, decide_eq_true_eq] at h6
     exact h6
   · omega
 · simp only [Bool.or_eq_true, Bool.and_eq_true, beq_iff_eq] at p6
   rcases p6 with ⟨_, h6⟩ | ⟨h6, _⟩
   · unfold isCallT at h6
     simp only [Bool.and_eq_true] at h6
     exact below_iff.1 h6.1 x.callee (by simp)
   · omega
 · simp only [Bool.or_eq_true, Bool.and_eq_true, beq_iff_eq] at p6
   rcases p6 with ⟨_, h6⟩ | ⟨_, h6⟩
   · unfold isCallT at h6
     simp only [Bool.and_eq_true] at h6
     have := below_iff.1 h6.2 x.many (by simp)
     have e : (wideM.args.length : Int) = 8 := rfl
     omega
   · omega
theorem ins_range' {x : Ii} (h : ofInsN wideM 400 x = 0) : (1 ≤ x.op ∧ x.op ≤ 17 ∧ x.op ≠ 14) ∧ InsR x := by
 obtain ⟨h1, h2, h3, h4, h5, h6, h7, _⟩ := ins_range h
 refine ⟨h1, ?_, ?_, ?_, ?_, ?_, ?_⟩ <;> unfold R64 <;> omega
/-- What a target that can be written has. -/
structure CanB (b : Bb) : Prop where
 ins : ∀ x ∈ b.ins, ofInsN wideM 400 x = 0
 tm : ofEndN wideM 200 (wideB b).tm = 0
 few : b.ins.length ≤ 4000
theorem can_parts {t : Gg} (h : canG t = true) : (0 ≤ t.frame ∧ t.frame ≤ 400) ∧ (0 < t.blocks.length ∧ t.blocks.length ≤ 200) ∧ ∀ b ∈ t.blocks, CanB b := by
 unfold canG at h
 simp only [Bool.and_eq_true, decide_eq_true_eq, beq_iff_eq] at h
 obtain ⟨⟨⟨⟨h1, h2⟩, h3⟩, h4⟩, h5⟩ := h
 obtain ⟨_, g2, g3⟩ := right_parts0 h5
 have hlen : (wideG t).blocks.length = 200 := by unfold wideG; simp; omega
 rw [hlen] at g3
 refine ⟨⟨h1, h2⟩, ⟨h3, h4⟩, fun b hb => ?_⟩
 have hm : wideB b ∈ (wideG t).blocks := by
  unfold wideG
  simp only [List.mem_append, List.mem_map]
  exact .inl ⟨b, hb, rfl⟩
 obtain ⟨q1, q2⟩ := blErr_all g3 (wideB b) hm
 have hi : (wideB b).ins = b.ins := by unfold wideB; split <;> rfl
 refine ⟨fun x hx => insErr_all q1 x (by rw [hi]; exact hx), q2, ?_⟩
 unfold smallT at g2
 simp only [Bool.and_eq_true, List.all_eq_true, Bool.not_eq_true', decide_eq_false_iff_not] at g2
 have := g2.2 (wideB b) hm
 rw [hi] at this
 omega
theorem can_end {b : Bb} (h : CanB b) : (b.tm.kind = 1 ∨ b.tm.kind = 2 ∨ b.tm.kind = 3 ∨ b.tm.kind = 4) ∧ (-1 ≤ b.tm.a ∧ b.tm.a < 64) ∧ (0 ≤ b.tm.t0 ∧ b.tm.t0 < 200) ∧ (0 ≤ b.tm.t1 ∧ b.tm.t1 < 200) := by
 obtain ⟨h1, h2, h3⟩ := end_right h.tm
 have h4 := below_iff.1 h3
 have t0 := h4 (wideB b).tm.t0 (by simp)
 have t1 := h4 (wideB b).tm.t1 (by simp)
 have hk : (wideB b).tm.kind = b.tm.kind ∧ (wideB b).tm.t0 = b.tm.t0 ∧ (wideB b).tm.t1 = b.tm.t1 := by unfold wideB; split <;> exact ⟨rfl, rfl, rfl⟩
 rw [hk.2.1] at t0
 rw [hk.2.2] at t1
 have hkind : b.tm.kind = 1 ∨ b.tm.kind = 2 ∨ b.tm.kind = 3 ∨ b.tm.kind = 4 := by
  unfold isEndT at h1
  rw [hk.1] at h1
  repeat' split at h1
  all_goals first | omega | (exact absurd h1 (by decide))
 refine ⟨hkind, ?_, t0, t1⟩
 by_cases h5 : b.tm.kind = 3 ∧ isRegT b.tm.a = true
 · have := h5.2
   unfold isRegT at this
   simp only [Bool.and_eq_true, decide_eq_true_eq] at this
   omega
 · have hw : wideB b = b := by unfold wideB; rw [if_neg h5]
   rw [hw] at h2
   unfold readsWellT at h2
   split at h2
   · simp only [Bool.or_eq_true, beq_iff_eq] at h2
     have e : wideM.ret = 0 := rfl
     omega
   · have := below_iff.1 h2 b.tm.a (by simp)
     have e : wideM.regs = 64 := rfl
     omega
theorem can_okB {b : Bb} (h : CanB b) : OkB b := by
 obtain ⟨_, h1, h2, h3⟩ := can_end h
 refine ⟨fun x hx => ins_range' (h.ins x hx), ⟨?_, ?_, ?_⟩, by have := h.few; omega⟩ <;> unfold R64 <;> omega
/-- What Print tells. -/
def printS (t : Gg) : ByteArray := if canG t = true ∧ (gtxL t).length ≤ 262144 then ⟨(gtxL t).toArray⟩ else ⟨#[]⟩
def printE (t : Gg) : Int := if canG t = true then (if (gtxL t).length ≤ 262144 then 0 else 3) else 2
set_option maxRecDepth 100000 in
set_option maxHeartbeats 4000000 in
theorem print_any (t : Gg) (ba : Option Addr) (bc : Nat) (w : World) (hB : BlsW w ba t.blocks) (hS : SmallG t) (hT : TabW w) (hP : PowW w) (hN : NamesW w) :
    Calls Tryz.prog 11 #[tgV t ba bc] w fun e w' => e = .returned (.tuple #[.string (printS t), .int .i64 (printE t)]) ∧ Below w.heap.size w w' := by
 have hb0 : Below w.heap.size w (w.alloc (.cells (tgC t ba bc) 24)) := (Below.refl _ w).alloc (Nat.le_refl _) _
 have C := Lib.hid (can_any t ba bc _ (hB.below hb0) hS (hT.below hb0))
 have HB0 := Lib.hid hb0
 have HX0 : Hid (Blk (w.alloc (.cells (tgC t ba bc) 24)) w.heap.size 24 (tgC t ba bc)) := Blk.new w _ _
 have T : Hid (canG t = true → ∀ W, Below w.heap.size w W → Calls Tryz.prog 23 #[tgV t ba bc] W fun e w' => ∃ s, (e = .returned (.string s) ∧ TextIs t s) ∧ Below W.heap.size W w') := fun hc W hb => by
  obtain ⟨h1, h2, h3⟩ := can_parts hc
  exact textOf_any t ba bc W (hB.below hb) (fun b hb => can_okB (h3 b hb)) (by omega) (by unfold R64; omega) (hP.below hb) (hN.below hb)
 have ES : Hid (printS t = if canG t = true ∧ (gtxL t).length ≤ 262144 then ⟨(gtxL t).toArray⟩ else ⟨#[]⟩) := rfl
 have EE : Hid (printE t = if canG t = true then (if (gtxL t).length ≤ 262144 then 0 else 3) else 2) := rfl
 have ST := Lib.hid (tgC.eq_1 t ba bc)
 unfold tgV at C T ⊢
 rw [ST.out] at C HB0 HX0 T ⊢
 clear hb0 hB hS hT hP hN
 cases hc : canG t
 · have hs : printS t = ⟨#[]⟩ := by rw [ES.out, hc]; simp
   have he : printE t = 2 := by rw [EE.out, hc]; simp
   rw [hs, he]
   rw [hc] at C
   clear hs he hc T
   go_enter Tryz.func11, Tryz.ntmps11
   go_wp2_with fail
   refine C.out.mono ?_
   rintro e w1 ⟨rfl, hb1⟩
   have HB1 := Lib.hid (HB0.out.trans (hb1.mono HB0.out.size))
   clear hb1 C
   go_wp2
   go_ret2
   exact ⟨rfl, HB1.out⟩
 · rw [hc] at C
   have T1 := Lib.hid (T.out hc)
   have hs : printS t = if (gtxL t).length ≤ 262144 then ⟨(gtxL t).toArray⟩ else ⟨#[]⟩ := by rw [ES.out, hc]; simp
   have he : printE t = if (gtxL t).length ≤ 262144 then 0 else 3 := by rw [EE.out, hc]; simp
   have HS := Lib.hid hs
   have HE := Lib.hid he
   clear hs he hc T ES EE
   generalize printS t = ps at *
   generalize printE t = pe at *
   go_enter Tryz.func11, Tryz.ntmps11
   go_wp2_with fail
   refine C.out.mono ?_
   rintro e w1 ⟨rfl, hb1⟩
   have HB1 := Lib.hid (HB0.out.trans (hb1.mono HB0.out.size))
   have hx1 := HX0.out.below hb1 HX0.out.lt
   have x0 : w1.cell? ⟨w.heap.size, 0, none⟩ = some (.int .i64 t.frame) := hx1.cell 0
   have x1 : w1.cell? ⟨w.heap.size, 1, none⟩ = some (.slice ba t.blocks.length bc) := hx1.cell 1
   have T2 := Lib.hid (T1.out w1 HB1.out)
   clear hb1 C hx1 HX0 HB0 T1
   go_wp2_with fail
   refine T2.out.mono ?_
   rintro e w2 ⟨s, ⟨rfl, hti⟩, hb2⟩
   have HB2 : Hid (Below w.heap.size w w2) := HB1.out.trans (hb2.mono HB1.out.size)
   have HTI := Lib.hid hti
   clear hb2 T2 x0 x1 HB1 hti
   rcases HTI.out with ⟨h1, h2⟩ | ⟨h1, h2⟩
   · have hsz : s.size = (gtxL t).length := by rw [← h1, Array.length_toList]; rfl
     have hle : ¬ (262144 : Int) < s.size := by omega
     have HPS : Hid (ps = s) := by
      show ps = s
      rw [HS.out, if_pos h2, ← h1]
     have HPE : Hid (pe = 0) := by
      show pe = 0
      rw [HE.out, if_pos h2]
     clear HTI h1 h2 hsz
     go_wp2
     go_ret2
     exact ⟨by rw [HPS.out, HPE.out]; rfl, HB2.out⟩
   · have hgt : (262144 : Int) < s.size := by omega
     have HPS : Hid (ps = ⟨#[]⟩) := by
      show ps = _
      rw [HS.out, if_neg (by omega)]
     have HPE : Hid (pe = 3) := by
      show pe = 3
      rw [HE.out, if_neg (by omega)]
     clear HTI h1 h2
     go_wp2
     go_ret2
     exact ⟨by rw [HPS.out, HPE.out]; rfl, HB2.out⟩
end Go.Proofs.YtbjmbahpcoanoaaGreatDoor
namespace Go.Proofs.YtbjmbahpcoanoaaGreatDoor

def linesN (bs : List Bb) : Nat := (bs.map fun b => b.ins.length + 2).sum
theorem linesN_snoc (bs : List Bb) (b : Bb) : linesN (bs ++ [b]) = linesN bs + (b.ins.length + 2) := by simp [linesN]
theorem ins_none {m : Mm} {fr : Int} : ∀ {l : List Ii}, (∀ x ∈ l, ofInsN m fr x = 0) → insErr m fr l = 0
 | [], _ => rfl
 | x :: l, h => by
  unfold insErr
  rw [if_pos (h x (by simp))]
  exact ins_none (fun y hy => h y (by simp [hy]))
theorem bl_none {m : Mm} {fr nb : Int} : ∀ {l : List Bb}, (∀ b ∈ l, (∀ x ∈ b.ins, ofInsN m fr x = 0) ∧ ofEndN m nb b.tm = 0) → blErr m fr nb l = 0
 | [], _ => rfl
 | b :: l, h => by
  unfold blErr
  rw [if_pos (ins_none (h b (by simp)).1), if_pos (h b (by simp)).2]
  exact bl_none (fun y hy => h y (by simp [hy]))
/-- Parts that can be told make a target that can be written. -/
theorem can_intro {t : Gg} (h1 : 0 ≤ t.frame ∧ t.frame ≤ 400) (h2 : 0 < t.blocks.length ∧ t.blocks.length ≤ 200) (h3 : ∀ b ∈ t.blocks, CanB b) : canG t = true := by
 have hlen : (wideG t).blocks.length = 200 := by unfold wideG; simp; omega
 have hall : ∀ b ∈ (wideG t).blocks, (∀ x ∈ b.ins, ofInsN wideM 400 x = 0) ∧ ofEndN wideM 200 b.tm = 0 ∧ b.ins.length ≤ 4000 := by
  intro b hb
  unfold wideG at hb
  simp only [List.mem_append, List.mem_map] at hb
  rcases hb with ⟨a, ha, rfl⟩ | hb
  · have hc := h3 a ha
    have hi : (wideB a).ins = a.ins := by unfold wideB; split <;> rfl
    rw [hi]
    exact ⟨hc.ins, hc.tm, hc.few⟩
  · have := (List.mem_replicate.1 hb).2
    subst this
    exact ⟨by simp [trapB], by decide, by simp [trapB]⟩
 have hr : rightT wideM (wideG t) = 0 := by
  unfold rightT
  have e1 : wideM.rightB = true := by decide
  have e2 : smallT (wideG t) = true := by
   unfold smallT
   rw [hlen]
   simp only [Bool.and_eq_true, List.all_eq_true, Bool.not_eq_true', decide_eq_false_iff_not]
   exact ⟨⟨⟨⟨by decide, by omega⟩, by show ¬ (400 : Int) < 0; decide⟩, by show ¬ (400 : Int) < 400; decide⟩, fun b hb => by have := (hall b hb).2.2; omega⟩
  rw [e1, e2, hlen, if_pos rfl, if_pos rfl]
  exact bl_none (fun b hb => ⟨(hall b hb).1, (hall b hb).2.1⟩)
 unfold canG
 rw [hr]
 simp [h1.1, h1.2, h2.1, h2.2]
theorem partOf_size (s : ByteArray) (i j : Nat) : (partOf s i j).size ≤ s.size := by
 unfold partOf
 rw [ByteArray.size_extract]
 omega
theorem go_sizes (s : ByteArray) : ∀ (f i : Nat) (out : List Wd) (l c : Int) (r : Bool), (∀ x ∈ out, x.t.size ≤ s.size) → i ≤ s.size → ∀ x ∈ (refGo s f out l c r i).1, x.t.size ≤ s.size := by
 intro f
 induction f with
 | zero => intro i out l c r h _; rw [refGo]; exact h
 | succ f ih =>
  intro i out l c r h hi
  have more : ∀ y : Wd, y.t.size ≤ s.size → ∀ x ∈ out ++ [y], x.t.size ≤ s.size := by
   intro y hy x hx
   rcases List.mem_append.1 hx with hx | hx
   · exact h x hx
   · simp at hx; subst hx; exact hy
  rw [refGo]
  by_cases hlt : i < s.size
  · rw [if_pos hlt]
    have hal := atP_le s i hlt
    by_cases hm : (atP s i).2 = 0
    · rw [if_pos hm]; simp
    rw [if_neg hm]
    split
    · exact ih _ _ _ _ _ (more _ (Nat.zero_le _)) (by omega)
    split
    · exact ih _ _ _ _ _ h hal
    split
    · have hle := numLen_le s i hlt
      split
      · split
        · simp
        · exact ih _ _ _ _ _ (more _ (partOf_size _ _ _)) hle
      · simp
    split
    · split
      · simp
      · have hr := runTo_le s false i hi
        exact ih _ _ _ _ _ (more _ (partOf_size _ _ _)) hr.2.1
    split
    · exact ih _ _ _ _ _ (more _ (partOf_size _ _ _)) hal
    · simp
  · rw [if_neg hlt]
    exact h
theorem read_sizes (s : ByteArray) : ∀ x ∈ readWords s, x.t.size ≤ s.size := by
 have h := go_sizes s s.size 0 [] 1 1 false (by simp) (by omega)
 have e := read_eq s
 unfold refRead at e
 rw [e] at h
 exact h
theorem left_few (s : ByteArray) : (startC s).left.length ≤ s.size + 1 := by
 have h1 := pruned_length (readWords s) (none, [])
 have h2 := read_few s
 have h3 : (startC s).left = pruned (readWords s) := rfl
 rw [h3]
 unfold pruned
 simp at h1
 omega
theorem start_fit (s : ByteArray) (hz : s.size ≤ 300000) : Fit (startC s) := by
 refine ⟨start_ok s, by have := left_few s; omega, fun x hx => ?_⟩
 have h1 : x ∈ pruned (readWords s) := hx
 rcases pruned_mem (readWords s) (none, []) (fun _ h => by simp at h) x h1 with h | h | h
 · have := read_sizes s x h; omega
 · simp at h
 · simp at h
/-- What Parse tells. -/
def noG : Gg := ⟨0, []⟩
def prE (s : ByteArray) : Int := if 262144 < s.size then 3 else (startC s).tgC.eErr
def prL (s : ByteArray) : Int := if 262144 < s.size then 0 else if (startC s).tgC.eErr = 0 then 0 else (startC s).tgC.eLine
def prC (s : ByteArray) : Int := if 262144 < s.size then 0 else if (startC s).tgC.eErr = 0 then 0 else (startC s).tgC.eCol
def prG (s : ByteArray) : Gg := if prE s = 0 then (startC s).tgG else noG
theorem pr_none {s : ByteArray} (h : prE s ≠ 0) : prG s = noG := by unfold prG; rw [if_neg h]
theorem print_some {t : Gg} (h : printE t = 0) : canG t = true ∧ (gtxL t).length ≤ 262144 ∧ (printS t).data.toList = gtxL t := by
 unfold printE at h
 split at h
 · rename_i h1
   split at h
   · rename_i h2
     refine ⟨h1, h2, ?_⟩
     unfold printS
     rw [if_pos ⟨h1, h2⟩]
   · cases h
 · cases h
theorem print_none {t : Gg} (h : printE t ≠ 0) : printS t = ⟨#[]⟩ := by
 unfold printS
 rw [if_neg]
 rintro ⟨h1, h2⟩
 refine h ?_
 unfold printE
 rw [if_pos h1, if_pos h2]
theorem print_ok {t : Gg} (h1 : canG t = true) (h2 : (gtxL t).length ≤ 262144) : printE t = 0 := by unfold printE; rw [if_pos h1, if_pos h2]
theorem join_tail_cons (x : List UInt8) (r : List (List UInt8)) : Lib.joinTail [32] (x :: r) = 32 :: (x ++ Lib.joinTail [32] r) := by simp [Lib.joinTail]
/-- A register, a slot as text. -/
def rgT (n : Int) : ByteArray := ⟨#[114]⟩ ++ itS n
def slT (n : Int) : ByteArray := ⟨#[115]⟩ ++ itS n
end Go.Proofs.YtbjmbahpcoanoaaGreatDoor
namespace Go.Proofs.YtbjmbahpcoanoaaGreatDoor
open Go.RowKit

/-- Instructions without arguments. -/
def BareB (b : Bb) : Prop := ∀ x ∈ b.ins, x.args = []
theorem bare_blk : ∀ (f : Nat) (c : Cu) (l : List Ii), (∀ x ∈ l, x.args = []) → BareB (blkGo f c l).2 := by
 intro f
 induction f with
 | zero => intro c l h; exact h
 | succ f ih =>
  intro c l h
  rw [blkGo]
  split
  · cases hp : c.partP with
    | inr t => exact h
    | inl x =>
     refine ih _ _ (fun y hy => ?_)
     rcases List.mem_append.1 hy with hy | hy
     · exact h y hy
     · rw [List.mem_singleton] at hy; subst hy; exact partP_args hp
  · exact h
theorem bare_tg : ∀ (f n : Nat) (c : Cu) (bs : List Bb), (∀ b ∈ bs, BareB b) → ∀ b ∈ (tgGo f n c bs).2, BareB b := by
 intro f
 induction f with
 | zero =>
  intro n c bs h
  by_cases hm : n = 0 ∨ c.more = true
  · rw [tg_full hm]; exact h
  · rw [tg_stop hm]; exact h
 | succ f ih =>
  intro n c bs h
  by_cases hm : n = 0 ∨ c.more = true
  · rw [tg_step hm]
    refine ih _ _ _ (fun b hb => ?_)
    rcases List.mem_append.1 hb with hb | hb
    · exact h b hb
    · rw [List.mem_singleton] at hb; subst hb; exact bare_blk _ _ _ (by simp)
  · rw [tg_stop hm]; exact h
theorem own_ins {w : World} {B : Nat} {a : Option Addr} {c : Nat} {l : List Ii} (h : w.ownsRow B 46 8 (.slice a l.length c) l.length (l.flatMap inC)) (hb : ∀ x ∈ l, x.args = []) : (a = none → c = 0) ∧ InsW w a l := by
 refine ⟨fun e => ?_, fun k x hx => ?_⟩
 · rcases h.2 with ⟨hv, _⟩ | ⟨g, cap, cur, hv, _⟩
   · injection hv with _ _ h3
   · injection hv with h1 _ _
     rw [e] at h1; cases h1
 · have hk := (List.getElem?_eq_some_iff.1 hx).1
   obtain ⟨g, cap, hv, _, hlt⟩ := World.ownsRow.form h (by omega)
   injection hv with h1 h2 h3
   subst h1 h3
   have hc : ∀ j v, j < 8 → (inC x)[j]? = some v → w.cell? ⟨g, k * 8 + j, none⟩ = some v := fun j v hj hv => by
    rw [World.ownsRow.cellAt h (k * 8 + j) (by omega), flat_cell inC 8 inC_len l k x j hx hj, hv]
   have ha := hb x (List.mem_of_getElem? hx)
   refine ⟨g, 0, none, 0, rfl, hlt, by rw [Nat.zero_add]; exact ⟨hc 0 _ (by omega) rfl, hc 1 _ (by omega) rfl, hc 2 _ (by omega) rfl, hc 3 _ (by omega) rfl, hc 4 _ (by omega) rfl, hc 5 _ (by omega) rfl, by rw [ha]; exact hc 6 _ (by omega) rfl, hc 7 _ (by omega) rfl, fun _ => rfl, by rw [ha]; exact IntsW.nil _ _⟩⟩
theorem Tk.bls {w0 w W : World} {q g : Nat} {c : Cu} {es : List WB} {a : Option Addr} {n : Nat} {cs : Array Value} (h : Tk w0 w W q g c es (.slice a es.length n) cs) (hb : ∀ b ∈ es.map Prod.fst, BareB b) : BlsW W a (es.map Prod.fst) ∧ (a = none → n = 0) := by
 refine ⟨wb_row h.row rfl (fun e he => own_ins (h.rows e he) (hb e.1 (List.mem_map_of_mem he))), fun e => ?_⟩
 rcases h.row.2 with ⟨hv, _⟩ | ⟨g, cap, cur, hv, _⟩
 · injection hv with _ _ h3
 · injection hv with h1 _ _
   rw [e] at h1; cases h1
theorem pr_bare (s : ByteArray) : ∀ b ∈ (prG s).blocks, BareB b := by
 unfold prG
 split
 · exact bare_tg 200 0 _ [] (by simp)
 · simp [noG]
end Go.Proofs.YtbjmbahpcoanoaaGreatDoor
