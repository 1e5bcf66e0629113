/-
  Package mread's part, its paths joined; a block's lines, plainly. Conditions: the library's tables, its errors, and the Ops' names are there.
  Which error a target has, for a machine: package mir's own answer. No condition beyond those that each theorem states.
  Package mread's widest machine, and a target made as wide as one may be. No condition beyond those that each theorem states.
-/
import Derived.Test.YtbjmbahpcoanoaaGreatDoorPk28
import Derived.Test.YtbjmbahpcoanoaaGreatDoorPk9
import Derived.Test.YtbjmbahpcoanoaaGreatDoorPk26
import Derived.Test.YtbjmbahpcoanoaaGreatDoorPk11
import Derived.Deep.CutRange
import Derived.Laws.ResultCell
import Derived.OwnWalk
import Derived.Deep.DeepMust
import Derived.Deep.RegionLaw
namespace Go.Proofs.YtbjmbahpcoanoaaGreatDoor
open Go.RowKit

def kSt : ByteArray := ⟨#[115, 116, 111, 114, 101]⟩
def kCa : ByteArray := ⟨#[99, 97, 108, 108]⟩
def kRe : ByteArray := ⟨#[114, 101, 116, 117, 114, 110]⟩
def kTr : ByteArray := ⟨#[116, 114, 97, 112]⟩
def sAr : ByteArray := ⟨#[226, 134, 146]⟩
def sAl : ByteArray := ⟨#[226, 134, 144]⟩
/-- What is got of a line, and where the cursor is behind it. -/
def Cu.partC (c : Cu) : Cu :=
 if c.keyB kSt then (((c.key kSt).regC).num (-1099511627776) 1099511627776).regC
 else if c.keyB kCa then ((c.key kCa).num 0 99).num 0 8
 else if c.keyB kRe then (c.key kRe).toldC
 else if c.keyB kTr then c.key kTr
 else if c.isB sAr then (c.is sAr).num 0 199
 else if c.slotB then (c.slotC.mark [sAl]).regC
 else if c.regC.isB sAr then ((c.regC.is sAr).num 0 199).num 0 199
 else (c.regC.mark [sAl]).valC
def Cu.partP (c : Cu) : Ii ⊕ Tt :=
 if c.keyB kSt then .inl ⟨12, 0, (c.key kSt).regN, (((c.key kSt).regC).num (-1099511627776) 1099511627776).regN, ((c.key kSt).regC).numN (-1099511627776) 1099511627776, 0, [], 0⟩
 else if c.keyB kCa then .inl ⟨13, 0, 0, 0, 0, (c.key kCa).numN 0 99, [], ((c.key kCa).num 0 99).numN 0 8⟩
 else if c.keyB kRe then .inr ⟨3, (c.key kRe).toldN, 0, 0⟩
 else if c.keyB kTr then .inr ⟨4, 0, 0, 0⟩
 else if c.isB sAr then .inr ⟨1, 0, (c.is sAr).numN 0 199, 0⟩
 else if c.slotB then .inl ⟨16, 0, (c.slotC.mark [sAl]).regN, 0, c.slotN, 0, [], 0⟩
 else if c.regC.isB sAr then .inr ⟨2, c.regN, (c.regC.is sAr).numN 0 199, ((c.regC.is sAr).num 0 199).numN 0 199⟩
 else .inl ((c.regC.mark [sAl]).valI c.regN)
def partV : Ii ⊕ Tt → Value
 | .inl x => .iface 46 (insV x none 0)
 | .inr t => .iface 51 (termV t)
theorem valI_args (c : Cu) (n : Int) : (c.valI n).args = [] := by
 unfold Cu.valI
 repeat' split
 all_goals rfl
theorem partP_args {c : Cu} {x : Ii} (h : c.partP = .inl x) : x.args = [] := by
 unfold Cu.partP at h
 repeat' split at h
 all_goals first
  | (injection h with h; subst h; rfl)
  | (injection h with h; subst h; exact valI_args _ _)
  | cases h
theorem Fit.partC {c : Cu} (h : Fit c) : Fit c.partC := by
 unfold Cu.partC
 repeat' split
 · exact ((h.key _).regC.num _ _).regC
 · exact ((h.key _).num _ _).num _ _
 · exact (h.key _).toldC
 · exact h.key _
 · exact (h.is _).num _ _
 · exact (h.slotC.mark _).regC
 · exact ((h.regC.is _).num _ _).num _ _
 · exact (h.regC.mark _).valC
set_option maxRecDepth 100000 in
theorem part_any (w0 w : World) (q g : Nat) (c : Cu) (hT : TabR w0) (h : Rp w0 w q g c) :
    Calls Tryz.prog 117 #[.pointer (some ⟨q, 0, none⟩)] w fun e w' => e = .returned (partV c.partP) ∧ Went w0 w q g c.partC w' := by
 unfold Cu.partP Cu.partC
 by_cases k0 : c.keyB kSt = true
 · rw [if_pos k0, if_pos k0]; exact part_store w0 w q g c hT h k0
 rw [if_neg k0, if_neg k0]; replace k0 := Bool.eq_false_iff.2 k0
 by_cases k1 : c.keyB kCa = true
 · rw [if_pos k1, if_pos k1]; exact part_call w0 w q g c hT h k0 k1
 rw [if_neg k1, if_neg k1]; replace k1 := Bool.eq_false_iff.2 k1
 by_cases k2 : c.keyB kRe = true
 · rw [if_pos k2, if_pos k2]; exact part_return w0 w q g c hT h k0 k1 k2
 rw [if_neg k2, if_neg k2]; replace k2 := Bool.eq_false_iff.2 k2
 by_cases k3 : c.keyB kTr = true
 · rw [if_pos k3, if_pos k3]; exact part_trap w0 w q g c hT h k0 k1 k2 k3
 rw [if_neg k3, if_neg k3]; replace k3 := Bool.eq_false_iff.2 k3
 by_cases k4 : c.isB sAr = true
 · rw [if_pos k4, if_pos k4]; exact part_jump w0 w q g c hT h k0 k1 k2 k3 k4
 rw [if_neg k4, if_neg k4]; replace k4 := Bool.eq_false_iff.2 k4
 by_cases k5 : c.slotB = true
 · rw [if_pos k5, if_pos k5]; exact part_put w0 w q g c hT h k0 k1 k2 k3 k4 k5
 rw [if_neg k5, if_neg k5]; replace k5 := Bool.eq_false_iff.2 k5
 by_cases k6 : c.regC.isB sAr = true
 · rw [if_pos k6, if_pos k6]; exact part_branch w0 w q g c hT h k0 k1 k2 k3 k4 k5 k6
 rw [if_neg k6, if_neg k6]; replace k6 := Bool.eq_false_iff.2 k6
 exact part_value w0 w q g c hT h k0 k1 k2 k3 k4 k5 k6

/-- No step makes the words that are left more. -/
theorem mp_pass_len (c : Cu) : c.pass.left.length ≤ c.left.length := by simp [Cu.pass]
theorem mp_fail_len (c : Cu) (e : Int) : (c.fail e).left.length ≤ c.left.length := by
 unfold Cu.fail; split
 · exact Nat.le_refl _
 · simp
theorem mp_over_len (c : Cu) (b : Bool) : (c.over b).left.length ≤ c.left.length := by cases b; exact Nat.le_refl _; exact mp_pass_len c
theorem mp_key_len (c : Cu) (s : ByteArray) : (c.key s).left.length ≤ c.left.length := mp_over_len _ _
theorem mp_is_len (c : Cu) (s : ByteArray) : (c.is s).left.length ≤ c.left.length := mp_over_len _ _
theorem mp_name_len (c : Cu) : c.name.left.length ≤ c.left.length := by unfold Cu.name; split; exact mp_pass_len c; exact mp_fail_len c _
theorem mp_num_len (c : Cu) (a b : Int) : (c.num a b).left.length ≤ c.left.length := by
 unfold Cu.num
 split
 · split
   · exact mp_pass_len c
   · exact mp_fail_len c _
 · exact mp_fail_len c _
theorem mp_mark_len (c : Cu) (l : List ByteArray) : (c.mark l).left.length ≤ c.left.length := by
 induction l generalizing c with
 | nil => exact Nat.le_refl _
 | cons s r ih =>
  unfold Cu.mark
  split
  · exact Nat.le_trans (ih _) (mp_is_len c s)
  · exact mp_fail_len c _
theorem mp_regC_len (c : Cu) : c.regC.left.length ≤ c.left.length := by unfold Cu.regC; split; exact mp_name_len c; exact mp_fail_len c _
theorem mp_slotC_len (c : Cu) : c.slotC.left.length ≤ c.left.length := by unfold Cu.slotC; split; exact mp_name_len c; exact Nat.le_refl _
theorem mp_toldC_len (c : Cu) : c.toldC.left.length ≤ c.left.length := by unfold Cu.toldC; split; exact Nat.le_refl _; exact mp_regC_len c
theorem mp_valC_len (c : Cu) : c.valC.left.length ≤ c.left.length := by
 unfold Cu.valC
 repeat' split
 · exact mp_slotC_len c
 · exact mp_regC_len c
 · exact Nat.le_trans (mp_num_len _ _ _) (mp_name_len c)
 · exact Nat.le_trans (mp_num_len _ _ _) (Nat.le_trans (mp_regC_len _) (mp_name_len c))
 · exact Nat.le_trans (mp_regC_len _) (Nat.le_trans (mp_regC_len _) (mp_name_len c))
theorem mp_partC_len (c : Cu) : c.partC.left.length ≤ c.left.length := by
 unfold Cu.partC
 repeat' split
 · exact Nat.le_trans (mp_regC_len _) (Nat.le_trans (mp_num_len _ _ _) (Nat.le_trans (mp_regC_len _) (mp_key_len _ _)))
 · exact Nat.le_trans (mp_num_len _ _ _) (Nat.le_trans (mp_num_len _ _ _) (mp_key_len _ _))
 · exact Nat.le_trans (mp_toldC_len _) (mp_key_len _ _)
 · exact mp_key_len _ _
 · exact Nat.le_trans (mp_num_len _ _ _) (mp_is_len _ _)
 · exact Nat.le_trans (mp_regC_len _) (Nat.le_trans (mp_mark_len _ _) (mp_slotC_len _))
 · exact Nat.le_trans (mp_num_len _ _ _) (Nat.le_trans (mp_num_len _ _ _) (Nat.le_trans (mp_is_len _ _) (mp_regC_len _)))
 · exact Nat.le_trans (mp_valC_len _) (Nat.le_trans (mp_mark_len _ _) (mp_regC_len _))
theorem mp_end_lt {c : Cu} (ho : c.Ok) (h : 0 < c.left.length) : c.end_.left.length < c.left.length := by
 have hf : c.fault = 0 := by
  by_cases hf : c.fault = 0
  · exact hf
  · have := ho.gone hf
    rw [this] at h; simp at h
 unfold Cu.end_
 split
 · simp only [Cu.pass, List.length_tail]; omega
 · have hm : c.more = true := by
     unfold Cu.more
     cases hl : c.left with
     | nil => rw [hl] at h; simp at h
     | cons x l => rfl
   rw [if_pos hm]
   unfold Cu.fail
   rw [if_neg (by rintro (h1 | h1); omega; exact h1 hf)]
   exact h
theorem mp_end_len (c : Cu) : c.end_.left.length ≤ c.left.length := by
 unfold Cu.end_
 split
 · exact mp_pass_len c
 · split
   · exact mp_fail_len c _
   · exact Nat.le_refl _
theorem more_pos {c : Cu} (h : c.more = true) : 0 < c.left.length := by
 unfold Cu.more at h
 cases hl : c.left with
 | nil => rw [hl] at h; simp at h
 | cons x l => simp
/-- Behind a line's end: of too many instructions none more. -/
def Cu.longC (c : Cu) (n : Nat) : Cu := if n = 4000 then c.partC.fail 3 else c.partC
theorem Fit.longC {c : Cu} (h : Fit c) (n : Nat) : Fit (c.longC n) := by unfold Cu.longC; split; exact h.partC.fail 3; exact h.partC
theorem mp_longC_len (c : Cu) (n : Nat) : (c.longC n).left.length ≤ c.left.length := by
 unfold Cu.longC; split
 · exact Nat.le_trans (mp_fail_len _ _) (mp_partC_len c)
 · exact mp_partC_len c
theorem line_less {d c : Cu} (ho : d.Ok) (h : d.left.length ≤ c.left.length) (hm : c.more = true) : d.end_.left.length < c.left.length := by
 have hp := more_pos hm
 by_cases h0 : 0 < d.left.length
 · exact Nat.lt_of_lt_of_le (mp_end_lt ho h0) h
 · have := mp_end_len d
   omega
/-- A block's lines: what is left, the instructions, the end. -/
def blkGo : Nat → Cu → List Ii → Cu × Bb
 | 0, c, l => (c.fail 7, ⟨l, ⟨0, 0, 0, 0⟩⟩)
 | f + 1, c, l => if c.more then (match c.partP with | .inr t => (c.partC.end_, ⟨l, t⟩) | .inl x => blkGo f (c.longC l.length).end_ (l ++ [x])) else (c.fail 7, ⟨l, ⟨0, 0, 0, 0⟩⟩)
def Cu.blk (c : Cu) (l : List Ii) : Cu × Bb := blkGo c.left.length c l
theorem blk_fuel : ∀ (f g : Nat) (c : Cu) (l : List Ii), Fit c → c.left.length ≤ f → c.left.length ≤ g → blkGo f c l = blkGo g c l := by
 intro f
 induction f with
 | zero =>
  intro g c l _ h1 _
  have hg : c.more = false := by
   have : c.left = [] := List.length_eq_zero_iff.1 (by omega)
   simp [Cu.more, this]
  cases g with
  | zero => rfl
  | succ g => rw [blkGo, blkGo, if_neg (by rw [hg]; decide)]
 | succ f ih =>
  intro g c l h h1 h2
  by_cases hg : c.more = true
  · have hp := more_pos hg
    cases g with
    | zero => omega
    | succ g =>
     rw [blkGo, blkGo, if_pos hg, if_pos hg]
     cases c.partP with
     | inr t => rfl
     | inl x =>
      have := line_less (h.longC l.length).ok (mp_longC_len c l.length) hg
      exact ih g _ _ (h.longC _).end_ (by omega) (by omega)
  · cases g with
    | zero => rw [blkGo, blkGo, if_neg hg]
    | succ g => rw [blkGo, blkGo, if_neg hg, if_neg hg]
theorem blk_none {c : Cu} (h : c.more = false) (l : List Ii) : c.blk l = (c.fail 7, ⟨l, ⟨0, 0, 0, 0⟩⟩) := by
 unfold Cu.blk
 cases c.left.length with
 | zero => rfl
 | succ f => rw [blkGo, if_neg (by rw [h]; decide)]
theorem blk_end {c : Cu} {t : Tt} (h : c.more = true) (hp : c.partP = .inr t) (l : List Ii) : c.blk l = (c.partC.end_, ⟨l, t⟩) := by
 unfold Cu.blk
 have := more_pos h
 obtain ⟨f, hf⟩ : ∃ f, c.left.length = f + 1 := ⟨c.left.length - 1, by omega⟩
 rw [hf, blkGo, if_pos h, hp]
theorem blk_ins {c : Cu} {x : Ii} (hF : Fit c) (h : c.more = true) (hp : c.partP = .inl x) (l : List Ii) : c.blk l = (c.longC l.length).end_.blk (l ++ [x]) := by
 have hl := line_less (hF.longC l.length).ok (mp_longC_len c l.length) h
 unfold Cu.blk
 have := more_pos h
 obtain ⟨f, hf⟩ : ∃ f, c.left.length = f + 1 := ⟨c.left.length - 1, by omega⟩
 rw [hf, blkGo, if_pos h, hp]
 exact blk_fuel _ _ _ _ (hF.longC _).end_ (by omega) (Nat.le_refl _)
end Go.Proofs.YtbjmbahpcoanoaaGreatDoor
namespace Go.Proofs.YtbjmbahpcoanoaaGreatDoor
open Go.RowKit

/-- A machine and a target, each in a box of its own. -/
structure TwoG (w W : World) (m : Mm) (aa sa : Option Addr) (ac sc : Nat) (t : Gg) (ba : Option Addr) (bc : Nat) : Prop where
 mc : Blk W w.heap.size 39 (maxC m aa ac sa sc)
 tg : Blk W (w.heap.size + 1) 24 (tgC t ba bc)
 be : Below w.heap.size w W
theorem TwoG.new (w : World) (m : Mm) (aa sa : Option Addr) (ac sc : Nat) (t : Gg) (ba : Option Addr) (bc : Nat) : TwoG w ((w.alloc (.cells (maxC m aa ac sa sc) 39)).alloc (.cells (tgC t ba bc) 24)) m aa sa ac sc t ba bc := by
 refine ⟨(Blk.new w _ _).alloc _, ?_, ((Below.refl _ w).alloc (Nat.le_refl _) _).alloc (by simp) _⟩
 exact blk_at _ _ (by simp)
section
variable {w W W' : World} {m : Mm} {aa sa : Option Addr} {ac sc : Nat} {t : Gg} {ba : Option Addr} {bc : Nat}
theorem TwoG.below (h : TwoG w W m aa sa ac sc t ba bc) (hb : Below W.heap.size W W') : TwoG w W' m aa sa ac sc t ba bc :=
 ⟨h.mc.below hb h.mc.lt, h.tg.below hb h.tg.lt, h.be.trans (hb.mono h.be.size)⟩
theorem TwoG.alloc (h : TwoG w W m aa sa ac sc t ba bc) (o : Obj) : TwoG w (W.alloc o) m aa sa ac sc t ba bc := h.below ((Below.refl _ W).alloc (Nat.le_refl _) _)
end
set_option maxHeartbeats 8000000 in
set_option maxRecDepth 100000 in
theorem right_any (m : Mm) (aa sa : Option Addr) (ac sc : Nat) (t : Gg) (ba : Option Addr) (bc : Nat) (w : World) (hl : m.args.length ≤ 140737488355328) (hs : m.saved.length ≤ 140737488355328) (hM : MaW w m aa sa) (hB : BlsW w ba t.blocks) (hS : SmallG t) (hT : TabW w) :
    Calls Tryz.prog 19 #[machV m aa ac sa sc, tgV t ba bc] w fun e w' => e = .returned (.int .i64 (rightT m t)) ∧ Below w.heap.size w w' := by
 have HG0 := Lib.hid (TwoG.new w m aa sa ac sc t ba bc)
 have VM := Lib.hid (rightM_any m aa sa ac sc _ hl hs (hM.below HG0.out.be))
 have VS := Lib.hid (fun W (h : Below w.heap.size w W) => isSmallT_any t ba bc W hS (hB.below h))
 have VI := Lib.hid (fun (x : Ii) (a : Option Addr) (c : Nat) (h : x.args.length ≤ 140737488355328) W (hW : Below w.heap.size w W) => ofIns_any m aa sa ac sc t.frame x a c W hl h (hT.below hW))
 have VE := Lib.hid (fun (R : Nat) (x : Tt) W (h : Blk W R 24 (tgC t ba bc)) => ofEnd_any m aa sa ac sc t ba bc R x W h)
 have HE := Lib.hid (rightT.eq_1 m t)
 have HBL := Lib.hid hB
 have HS := Lib.hid hS
 have hbl := hS.b
 have HM := Lib.hid (maxC.eq_1 m aa ac sa sc)
 have HC := Lib.hid (tgC.eq_1 t ba bc)
 rw [HM.out, HC.out] at HG0 VM
 unfold machV at VM VI VE
 unfold tgV at VS
 unfold insV at VI
 unfold termV askV at VE
 rw [HM.out] at VM VI VE
 rw [HC.out] at VS
 clear hM hB hS hT hl hs
 unfold machV tgV
 rw [HM.out, HC.out]
 go_enter Tryz.func19, Tryz.ntmps19
 go_wp2_with fail
 refine VM.out.mono ?_
 rintro e w1 ⟨rfl, hb⟩
 have HG := Lib.hid (HG0.out.below hb)
 clear hb HG0 VM
 obtain ⟨c0, c1, c2, c3⟩ := boxMa HG.out.mc
 obtain ⟨d0, d1⟩ := boxG HG.out.tg
 cases h1 : m.rightB
 · rw [if_neg (by rw [h1]; decide)] at HE
   go_wp2
   go_ret
   exact ⟨by rw [HE.out]; rfl, HG.out.be⟩
 rw [if_pos h1] at HE
 clear h1
 go_wp2_with fail
 refine (VS.out _ HG.out.be).mono ?_
 rintro e w2 ⟨rfl, hb⟩
 have HG2 := Lib.hid (HG.out.below hb)
 clear hb HG VS c0 c1 c2 c3 d0 d1
 obtain ⟨d0, d1⟩ := boxG HG2.out.tg
 cases h2 : smallT t
 · rw [if_neg (by rw [h2]; decide)] at HE
   go_wp2
   go_ret
   exact ⟨by rw [HE.out]; rfl, HG2.out.be⟩
 rw [if_pos h2] at HE
 clear h2
 go_wp2
 clear d0 d1
 go_loopw [24] (fun k wr => ∃ j : Nat, k = .int .i64 j ∧ j ≤ t.blocks.length ∧ Hid (rightT m t = blErr m t.frame t.blocks.length (t.blocks.drop j)) ∧ TwoG w wr m aa sa ac sc t ba bc) (fun k _ => t.blocks.length - (intOf k).toNat)
 case atStart => exact ⟨0, rfl, Nat.zero_le _, HE, HG2.out⟩
 case round =>
  obtain ⟨j, rfl, hj, HA, hG⟩ := hrel
  clear HG2 HE
  have HG := Lib.hid hG
  clear hG
  obtain ⟨d0, d1⟩ := boxG HG.out.tg
  by_cases hlt : j < t.blocks.length
  · have hlt' : (j : Int) < t.blocks.length := by omega
    have hj0 : (0 : Int) ≤ j := by omega
    obtain ⟨y, hy⟩ : ∃ y, t.blocks[j]? = some y := ⟨_, List.getElem?_eq_getElem hlt⟩
    obtain ⟨g, o, ya, yc, rfl, hg, hc⟩ := HBL.out j y hy
    have hyi := HS.out.i y (List.mem_of_getElem? hy)
    have hyl := hyi.1
    have HYI := Lib.hid hyi
    have HD : Hid (rightT m t = if insErr m t.frame y.ins = 0 then (if ofEndN m t.blocks.length y.tm = 0 then blErr m t.frame t.blocks.length (t.blocks.drop (j + 1)) else ofEndN m t.blocks.length y.tm) else insErr m t.frame y.ins) := by
     show _ = _
     rw [HA.out, List.drop_eq_getElem_cons hlt, (List.getElem?_eq_some_iff.1 hy).2]
     rfl
    have hcw := hc.below hg HG.out.be
    have c0 := hcw.c0
    have c1 := hcw.c1
    have c2 := hcw.c2
    have c3 := hcw.c3
    have c4 := hcw.c4
    have HIN := Lib.hid hc.ins
    clear hy HA hc hg hcw hyi
    have HG3 := Lib.hid (HG.out.alloc (.cells (blC y ya yc) 53))
    have HBK : Hid (Blk (wr.alloc (.cells (blC y ya yc) 53)) wr.heap.size 53 (blC y ya yc)) := Blk.new _ _ _
    obtain ⟨W1, hW1⟩ : ∃ W, W = wr := ⟨wr, rfl⟩
    subst hW1
    go_wp2
    clear c0 c1 c2 c3 c4 d0 d1
    go_loopw [31] (fun k w3 => ∃ i : Nat, k = .int .i64 i ∧ i ≤ y.ins.length ∧ Hid (insErr m t.frame y.ins = insErr m t.frame (y.ins.drop i)) ∧ TwoG w w3 m aa sa ac sc t (some ⟨g, o, none⟩) bc ∧ Blk w3 W1.heap.size 53 (blC y ya yc)) (fun k _ => y.ins.length - (intOf k).toNat)
    case atStart => exact ⟨0, rfl, Nat.zero_le _, rfl, HG3.out, HBK.out⟩
    case round =>
     obtain ⟨i, rfl, hi, HF, hG, hBK⟩ := hrel
     clear HG HG3 HBK
     have HG := Lib.hid hG
     have HBK := Lib.hid hBK
     clear hG hBK
     obtain ⟨d0, d1⟩ := boxG HG.out.tg
     obtain ⟨c0, c1, c2, c3⟩ := boxMa HG.out.mc
     by_cases hi2 : i < y.ins.length
     · have hi3 : (i : Int) < y.ins.length := by omega
       have hi0 : (0 : Int) ≤ i := by omega
       obtain ⟨z, hz⟩ : ∃ z, y.ins[i]? = some z := ⟨_, List.getElem?_eq_getElem hi2⟩
       obtain ⟨g1, o1, za, zc, he1, hg1, hz1⟩ := (HIN.out.below HG.out.be) i z hz
       subst he1
       have HZL := HYI.out.2 z (List.mem_of_getElem? hz)
       have HD2 : Hid (insErr m t.frame y.ins = if ofInsN m t.frame z = 0 then insErr m t.frame (y.ins.drop (i + 1)) else ofInsN m t.frame z) := by
        show _ = _
        rw [HF.out, List.drop_eq_getElem_cons hi2, (List.getElem?_eq_some_iff.1 hz).2]
        rfl
       have e0 := hz1.c0
       have e1 := hz1.c1
       have e2 := hz1.c2
       have e3 := hz1.c3
       have e4 := hz1.c4
       have e5 := hz1.c5
       have e6 := hz1.c6
       have e7 := hz1.c7
       have HG4 := Lib.hid (HG.out.alloc (.cells (insC z za zc) 46))
       have HBK4 := Lib.hid (HBK.out.alloc (.cells (insC z za zc) 46))
       have HC4 := Lib.hid (VI.out z za zc (by omega) _ HG4.out.be)
       have HIC := insC.eq_1 z za zc
       rw [HIC] at HG4 HBK4 HC4
       clear hz hz1 HF hg1 HIC d0 d1 c0 c1 c2 c3
       obtain ⟨d0, d1⟩ := boxG HG4.out.tg
       obtain ⟨c0, c1, c2, c3⟩ := boxMa HG4.out.mc
       go_wp2_with fail
       refine HC4.out.mono ?_
       rintro e w5 ⟨rfl, hb⟩
       have HG5 := Lib.hid (HG4.out.below hb)
       have HBK5 := Lib.hid (HBK4.out.below hb HBK4.out.lt)
       clear hb HC4 HG4 HBK4 e0 e1 e2 e3 e4 e5 e6 e7 d0 d1 c0 c1 c2 c3
       by_cases hN : ofInsN m t.frame z = 0
       · have hq : (ofInsN m t.frame z != 0) = false := by simp [hN]
         rw [if_pos hN] at HD2
         clear hN
         go_wp2
         go_roundw
         case rel => exact ⟨i + 1, by go_num, by omega, HD2, HG5.out, HBK5.out⟩
         case measure => simp [intOf]; omega
       · have hq : (ofInsN m t.frame z != 0) = true := by simp [hN]
         rw [if_neg hN] at HD2
         rw [if_neg (by rw [HD2.out]; exact hN)] at HD
         clear hN
         go_wp2
         go_ret
         exact ⟨by rw [HD.out, HD2.out]; rfl, HG5.out.be⟩
     · have e : i = y.ins.length := by omega
       subst e
       have hi3 : ¬ (y.ins.length : Int) < y.ins.length := by omega
       have hI0 : insErr m t.frame y.ins = 0 := by
        rw [HF.out, List.drop_length]
        rfl
       rw [if_pos hI0] at HD
       obtain ⟨b0, b1, b2, b3, b4⟩ := box5 HBK.out
       have HC4 := Lib.hid (VE.out (w.heap.size + 1) y.tm _ HG.out.tg)
       clear HF hI0
       go_wp2_with fail
       refine HC4.out.mono ?_
       rintro e w5 ⟨rfl, hb⟩
       have HG5 := Lib.hid (HG.out.below hb)
       clear hb HC4 b0 b1 b2 b3 b4 d0 d1 c0 c1 c2 c3
       by_cases hN : ofEndN m t.blocks.length y.tm = 0
       · have hq : (ofEndN m t.blocks.length y.tm != 0) = false := by simp [hN]
         rw [if_pos hN] at HD
         clear hN
         go_wp2
         go_roundw
         case rel => exact ⟨j + 1, by go_num, by omega, HD, HG5.out⟩
         case measure => simp [intOf]; omega
       · have hq : (ofEndN m t.blocks.length y.tm != 0) = true := by simp [hN]
         rw [if_neg hN] at HD
         clear hN
         go_wp2
         go_ret
         exact ⟨by rw [HD.out]; rfl, HG5.out.be⟩
  · have e : j = t.blocks.length := by omega
    subst e
    have hlt' : ¬ (t.blocks.length : Int) < t.blocks.length := by omega
    go_wp2
    go_ret
    refine ⟨?_, HG.out.be⟩
    rw [HA.out, List.drop_length]
    rfl
end Go.Proofs.YtbjmbahpcoanoaaGreatDoor
namespace Go.Proofs.YtbjmbahpcoanoaaGreatDoor
open Go.RowKit

def isRegT (n : Int) : Bool := decide (0 ≤ n) && decide (n < 64)
theorem isReg_any (n : Int) (w : World) : Calls Tryz.prog 93 #[.int .i64 n] w fun e w' => e = .returned (.bool (isRegT n)) ∧ w = w' := by
 unfold isRegT
 by_cases h : 0 ≤ n
 · by_cases h2 : n < 64
   · rw [decide_eq_true h, decide_eq_true h2]
     go_enter Tryz.func93, Tryz.ntmps93
     go_wp2
     go_ret
     exact ⟨rfl, rfl⟩
   · rw [decide_eq_true h, decide_eq_false h2]
     go_enter Tryz.func93, Tryz.ntmps93
     go_wp2
     go_ret
     exact ⟨rfl, rfl⟩
 · rw [decide_eq_false h]
   go_enter Tryz.func93, Tryz.ntmps93
   go_wp2
   go_ret
   exact ⟨rfl, rfl⟩
def wideM : Mm := ⟨64, [0, 1, 2, 3, 4, 5, 6, 7], 0, []⟩
def upL (j : Nat) : List Int := (List.range j).map fun (k : Nat) => (k : Int)
theorem upL_snoc (j : Nat) : upL (j + 1) = upL j ++ [(j : Int)] := by simp [upL, List.range_succ]
theorem upL_len (j : Nat) : (upL j).length = j := by simp [upL]
/-- The machine that is being made wide. -/
structure WmS (w wr : World) (a : Option Addr) (c j : Nat) : Prop where
 r : Blk wr w.heap.size 39 #[.int .i64 0, .slice none 0 0, .int .i64 0, .slice none 0 0]
 b : Blk wr (w.heap.size + 1) 39 #[.int .i64 64, .slice a j c, .int .i64 0, .slice none 0 0]
 row : wr.ownsRow w.heap.size 3 1 (.slice a j c) j ((upL j).map (Value.int .i64))
 be : Below w.heap.size w wr
theorem machine_size : (Tryz.prog.info? 39).map (·.size) = some 4 := by kernel_rfl
theorem own_ne {w : World} {B : Nat} {e t : TypeId} {sz n g : Nat} {v : Value} {xs : List Value} {cs : Array Value} (h : w.ownsRow B e sz v n xs) (hb : Blk w g t cs) (ht : e ≠ t) : some g ≠ v.ownBlock := fun e' => by
 obtain ⟨_, h2⟩ := h
 rcases h2 with ⟨h2, _⟩ | ⟨q, cap, cur, e2, _, hh, _⟩
 · rw [h2] at e'; simp [Value.ownBlock] at e'
 · rw [e2] at e'
   simp only [Value.ownBlock, Option.some.injEq] at e'
   subst e'
   unfold Blk at hb
   rw [hb] at hh
   simp only [Option.some.injEq, Obj.cells.injEq] at hh
   exact ht hh.2.1.symm
theorem WmS.box {w wr w4 : World} {a : Option Addr} {c j : Nat} {o : Obj} (h : WmS w wr a c j) (hg : (wr.alloc o).grownBy w4 (Value.slice a j c).ownBlock) : Blk w4 (w.heap.size + 1) 39 #[.int .i64 64, .slice a j c, .int .i64 0, .slice none 0 0] :=
 (h.b.alloc o).grown hg (own_ne (World.ownsRow.alloc h.row o) (h.b.alloc o) (by decide))
theorem WmS.more {w wr w4 : World} {o : Obj} {a : Option Addr} {c j gg cap : Nat} (h : WmS w wr a c j) (hg : (wr.alloc o).grownBy w4 (Value.slice a j c).ownBlock) (ho : w4.ownsRow w.heap.size 3 1 (.slice (some ⟨gg, 0, none⟩) (j + 1) cap) (j + 1) ((upL j).map (Value.int .i64) ++ [.int .i64 (j : Int)])) :
    WmS w (w4.setCell ⟨w.heap.size + 1, 1, none⟩ (.slice (some ⟨gg, 0, none⟩) (j + 1) cap)) (some ⟨gg, 0, none⟩) cap (j + 1) := by
 have hb := h.box hg
 have hr : Blk w4 w.heap.size 39 #[.int .i64 0, .slice none 0 0, .int .i64 0, .slice none 0 0] := (h.r.alloc o).grown hg (own_ne (World.ownsRow.alloc h.row o) (h.r.alloc o) (by decide))
 have hB : Below w.heap.size w w4 := (h.be.alloc h.be.size o).grown hg (by have := h.be.size; simp; omega) (fun k hk => (h.row.lt k hk).1)
 refine ⟨hr.far (p := ⟨w.heap.size + 1, 1, none⟩) (by show w.heap.size ≠ w.heap.size + 1; omega) _, hb.put 1 _, ?_, hB.setCell (p := ⟨w.heap.size + 1, 1, none⟩) (by show w.heap.size ≤ w.heap.size + 1; omega) _⟩
 rw [upL_snoc, List.map_append]
 exact own_put ho (p := ⟨w.heap.size + 1, 1, none⟩) (own_ne ho hb (by decide)) _
set_option maxRecDepth 100000 in
set_option maxHeartbeats 4000000 in
theorem widest_any (w : World) : Calls Tryz.prog 50 #[] w fun e w' => (∃ a c, e = .returned (machV wideM a c none 0) ∧ Hid (MaW w' wideM a none)) ∧ Below w.heap.size w w' := by
 obtain ⟨i0, hi0, hz0, hz1, hz2⟩ := info_parts int_info
 have S0 : Hid (WmS w ((w.alloc (.cells #[.int .i64 0, .slice none 0 0, .int .i64 0, .slice none 0 0] 39)).alloc (.cells #[.int .i64 64, .slice none 0 0, .int .i64 0, .slice none 0 0] 39)) none 0 0) :=
  ⟨(Blk.new w _ _).alloc _, blk_at _ _ (by simp), World.ownsRow_nil _ _ _ _, ((Below.refl _ w).alloc (Nat.le_refl _) _).alloc (by simp) _⟩
 go_enter Tryz.func50, Tryz.ntmps50
 go_wp2
 go_loopw [4] (fun v wr => ∃ (j : Nat) (a : Option Addr) (c : Nat), v = .int .i64 j ∧ j ≤ 8 ∧ WmS w wr a c j) (fun v _ => 8 - (intOf v).toNat)
 case atStart => exact ⟨0, none, 0, rfl, by omega, S0.out⟩
 case round =>
  obtain ⟨j, a, c, rfl, hj, hS⟩ := hrel
  have HS := Lib.hid hS
  have b0 : wr.cell? ⟨w.heap.size + 1, 0, none⟩ = some (.int .i64 64) := hS.b.cell 0
  have b1 : wr.cell? ⟨w.heap.size + 1, 1, none⟩ = some (.slice a j c) := hS.b.cell 1
  have b2 : wr.cell? ⟨w.heap.size + 1, 2, none⟩ = some (.int .i64 0) := hS.b.cell 2
  have b3 : wr.cell? ⟨w.heap.size + 1, 3, none⟩ = some (.slice none 0 0) := hS.b.cell 3
  have hsz := hS.be.size
  have hbl := hS.b.lt
  clear hS S0
  by_cases hlt : j < 8
  · have hlt' : (j : Int) < 8 := by omega
    go_wp2_with (at_builtin; go_must (refine wpList_append_lies _ rfl _ _ _ rfl w.heap.size 3 i0 _ 1 8 Tryz.underlying37 hi0 hz0 hz1 hz2 rfl (by omega) (.slice a j c) j ((upL j).map (Value.int .i64)) rfl (World.ownsRow.alloc HS.out.row _) ⟨wr.heap.size, 0, none⟩ 1 1 [.int .i64 (j : Int)] rfl rfl (World.news_of_block (heap_alloc_new wr _)) (by simp [Value.oneCell']) (by omega) (by simp only [maxLen]; omega) (by omega) (by simp; omega) (wr.heap.size + 1) (by simp) ?_; intro gg cap4 w4 hown4 hgrow hat hlt4; have hB4 := (WmS.box HS.out hgrow); have q1 : w4.cell? ⟨w.heap.size + 1, 1, none⟩ = some (.slice a j c) := (by exact hB4.cell 1); have f1 : w4.frozen? ⟨w.heap.size + 1, 1, none⟩ = false := (by exact hB4.free 1)))
    have HM := Lib.hid (WmS.more HS.out hgrow hown4)
    clear hown4 hgrow hat hlt4 hB4 q1 f1 b0 b1 b2 b3
    go_wp2
    go_roundw
    case rel => exact ⟨j + 1, some ⟨gg, 0, none⟩, cap4, by go_num, by omega, HM.out⟩
    case measure => simp [intOf]; omega
  · have hge : ¬ (j : Int) < 8 := by omega
    have hbr := HS.out.r.lt
    have r0 : wr.cell? ⟨w.heap.size, 0, none⟩ = some (.int .i64 0) := HS.out.r.cell 0
    have r1 : wr.cell? ⟨w.heap.size, 1, none⟩ = some (.slice none 0 0) := HS.out.r.cell 1
    have r2 : wr.cell? ⟨w.heap.size, 2, none⟩ = some (.int .i64 0) := HS.out.r.cell 2
    have r3 : wr.cell? ⟨w.heap.size, 3, none⟩ = some (.slice none 0 0) := HS.out.r.cell 3
    have z0 := HS.out.r.free 0
    have z1 := HS.out.r.free 1
    have z2 := HS.out.r.free 2
    have z3 := HS.out.r.free 3
    go_wp2
    (try simp only [Exit.inBlock, Exit.then])
    have hj8 : j = 8 := by omega
    have HB : Blk ((((wr.setCell ⟨w.heap.size, 0, none⟩ (.int .i64 64)).setCell ⟨w.heap.size, 1, none⟩ (.slice a j c)).setCell ⟨w.heap.size, 2, none⟩ (.int .i64 0)).setCell ⟨w.heap.size, 3, none⟩ (.slice none 0 0)) w.heap.size 39 #[.int .i64 64, .slice a j c, .int .i64 0, .slice none 0 0] := (((HS.out.r.put 0 _).put 1 _).put 2 _).put 3 _
    refine bodyPost_ret (results_cell_row rfl _ _ w.heap.size 39 _ (0, 0) _ (by simp) HB Tryz.underlying39 rfl machine_size) rfl ?_
    have hrow := HS.out.row
    have hbe := HS.out.be
    have hro := own_put (own_put (own_put (own_put hrow (p := ⟨w.heap.size, 0, none⟩) (own_ne hrow HS.out.r (by decide)) (.int .i64 64)) (p := ⟨w.heap.size, 1, none⟩) (own_ne hrow HS.out.r (by decide)) (.slice a j c)) (p := ⟨w.heap.size, 2, none⟩) (own_ne hrow HS.out.r (by decide)) (.int .i64 0)) (p := ⟨w.heap.size, 3, none⟩) (own_ne hrow HS.out.r (by decide)) (.slice none 0 0)
    subst hj8
    exact ⟨⟨a, ⟨c, rfl⟩, ⟨IntsW.own hro, IntsW.nil _ _⟩⟩, (((hbe.setCell (p := ⟨w.heap.size, 0, none⟩) (Nat.le_refl _) _).setCell (p := ⟨w.heap.size, 1, none⟩) (Nat.le_refl _) _).setCell (p := ⟨w.heap.size, 2, none⟩) (Nat.le_refl _) _).setCell (p := ⟨w.heap.size, 3, none⟩) (Nat.le_refl _) _⟩
/-- A block with its row's place and room. -/
abbrev WB := Bb × Option Addr × Nat
def wbC (e : WB) : List Value := [.slice e.2.1 e.1.ins.length e.2.2, .int .i64 e.1.tm.kind, .int .i64 e.1.tm.a, .int .i64 e.1.tm.t0, .int .i64 e.1.tm.t1]
theorem wb_len (e : WB) : (wbC e).length = 5 := rfl
theorem wb_one (e : WB) : ∀ u ∈ wbC e, u.oneCell' = true := fun u hu => by
 simp only [wbC, List.mem_cons, List.not_mem_nil, or_false] at hu
 rcases hu with rfl | rfl | rfl | rfl | rfl <;> rfl
theorem wb_row {w : World} {B : Nat} {a : Option Addr} {n c : Nat} {es : List WB} (h : w.ownsRow B 53 5 (.slice a n c) n (es.flatMap wbC)) (hn : n = es.length) (hes : ∀ e ∈ es, (e.2.1 = none → e.2.2 = 0) ∧ InsW w e.2.1 e.1.ins) : BlsW w a (es.map Prod.fst) := fun k x hx => by
 rw [List.getElem?_map, Option.map_eq_some_iff] at hx
 obtain ⟨e, he, rfl⟩ := hx
 have hk := (List.getElem?_eq_some_iff.1 he).1
 subst hn
 obtain ⟨g, cap, hv, _, hlt⟩ := World.ownsRow.form h (by omega)
 injection hv with h1 h2 h3
 subst h1 h3
 have hc : ∀ j v, j < 5 → (wbC e)[j]? = some v → w.cell? ⟨g, k * 5 + j, none⟩ = some v := fun j v hj hv => by
  rw [World.ownsRow.cellAt h (k * 5 + j) (by omega), flat_cell wbC 5 wb_len es k e j he hj, hv]
 obtain ⟨g1, g2⟩ := hes e (List.mem_of_getElem? he)
 exact ⟨g, 0, e.2.1, e.2.2, rfl, hlt, by rw [Nat.zero_add]; exact ⟨hc 0 _ (by omega) rfl, hc 1 _ (by omega) rfl, hc 2 _ (by omega) rfl, hc 3 _ (by omega) rfl, hc 4 _ (by omega) rfl, g1, g2⟩⟩
/-- A block that returns what the widest machine does. -/
def wideB (b : Bb) : Bb := if b.tm.kind = 3 ∧ isRegT b.tm.a = true then ⟨b.ins, ⟨b.tm.kind, 0, b.tm.t0, b.tm.t1⟩⟩ else b
def trapB : Bb := ⟨[], ⟨4, 0, 0, 0⟩⟩
def wideG (t : Gg) : Gg := ⟨400, t.blocks.map wideB ++ List.replicate (200 - t.blocks.length) trapB⟩
end Go.Proofs.YtbjmbahpcoanoaaGreatDoor
