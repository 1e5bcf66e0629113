/-
  What a cursor over a target's words tells, line by line, plainly. No condition beyond those that each theorem states.
-/
import Derived.Test.YtjmdgbgjleeloaaGreatDoorPk33
namespace Go.Proofs.YtjmdgbgjleeloaaGreatDoor

section
variable {c : Cu} {ks : List Kk} {s : ByteArray} {n : Int}
theorem St.head {k : Int} (h : St c ((k, s, n) :: ks)) : ∃ x r, c.left = x :: r ∧ x.k = k ∧ x.t = s ∧ x.n = n ∧ St c.pass ks := by
  obtain ⟨x, r, hl, hx, hr⟩ := List.map_eq_cons_iff.1 h.left
  refine ⟨x, r, hl, congrArg Prod.fst hx, congrArg (fun p => p.2.1) hx, congrArg (fun p => p.2.2) hx, ⟨?_, h.fault⟩⟩
  show c.left.tail.map key = ks
  rw [hl]
  exact hr
/-- A name is next. -/
theorem St.nameP (h : St c ((1, s, n) :: ks)) : Go.Proofs.YtjmdgbgjleeloaaGreatDoor.nameP c.left.head? = (s, true) ∧ Go.Proofs.YtjmdgbgjleeloaaGreatDoor.numP c.left.head? = (0, false) ∧ (∀ u, signP c.left.head? u = false) ∧ endP c.left.head? = false ∧ c.more = true ∧ St c.pass ks := by
  obtain ⟨x, r, hl, h1, h2, h3, hp⟩ := h.head
  refine ⟨?_, ?_, fun u => ?_, ?_, by unfold Cu.more; rw [hl]; rfl, hp⟩ <;> rw [hl]
  · simp [Go.Proofs.YtjmdgbgjleeloaaGreatDoor.nameP, h1, h2]
  · simp [Go.Proofs.YtjmdgbgjleeloaaGreatDoor.numP, h1]
  · simp [signP, h1]
  · simp [endP, endK, h1]
theorem St.numP (h : St c ((2, s, n) :: ks)) : Go.Proofs.YtjmdgbgjleeloaaGreatDoor.nameP c.left.head? = (⟨#[]⟩, false) ∧ Go.Proofs.YtjmdgbgjleeloaaGreatDoor.numP c.left.head? = (n, true) ∧ St c.pass ks := by
  obtain ⟨x, r, hl, h1, h2, h3, hp⟩ := h.head
  refine ⟨?_, ?_, hp⟩ <;> rw [hl]
  · simp [Go.Proofs.YtjmdgbgjleeloaaGreatDoor.nameP, h1]
  · simp [Go.Proofs.YtjmdgbgjleeloaaGreatDoor.numP, h1, h3]
theorem St.signP (h : St c ((3, s, n) :: ks)) : Go.Proofs.YtjmdgbgjleeloaaGreatDoor.nameP c.left.head? = (⟨#[]⟩, false) ∧ (∀ u, Go.Proofs.YtjmdgbgjleeloaaGreatDoor.signP c.left.head? u = decide (s = u)) ∧ St c.pass ks := by
  obtain ⟨x, r, hl, h1, h2, h3, hp⟩ := h.head
  refine ⟨?_, fun u => ?_, hp⟩ <;> rw [hl]
  · simp [Go.Proofs.YtjmdgbgjleeloaaGreatDoor.nameP, h1]
  · simp [Go.Proofs.YtjmdgbgjleeloaaGreatDoor.signP, h1, h2]
theorem St.endP (h : St c (kE :: ks)) : Go.Proofs.YtjmdgbgjleeloaaGreatDoor.endP c.left.head? = true ∧ St c.pass ks := by
  obtain ⟨x, r, hl, h1, h2, h3, hp⟩ := St.head (k := 4) (s := ⟨#[]⟩) (n := 0) h
  refine ⟨?_, hp⟩
  rw [hl]
  simp [Go.Proofs.YtjmdgbgjleeloaaGreatDoor.endP, endK, h1]
theorem St.nil (h : St c []) : c.left = [] := by have := h.left; simpa using this
/-- Steps over a name. -/
theorem St.keyB (h : St c ((1, s, n) :: ks)) (u : ByteArray) : c.keyB u = decide (s = u) := by unfold Cu.keyB; rw [h.nameP.1]; rfl
theorem St.key (h : St c ((1, s, n) :: ks)) : St (c.key s) ks := by
  unfold Cu.key
  rw [h.keyB, decide_eq_true rfl]
  exact h.nameP.2.2.2.2.2
theorem St.keyed (h : St c ((1, s, n) :: ks)) : St (c.keyedP s) ks := by
  unfold Cu.keyedP
  rw [h.keyB, decide_eq_true rfl, if_pos rfl]
  exact h.key
theorem St.isName (h : St c ((1, s, n) :: ks)) (u : ByteArray) : c.isB u = false := h.nameP.2.2.1 u
theorem St.nameT (h : St c ((1, s, n) :: ks)) : c.nameT = s := by unfold Cu.nameT; rw [h.nameP.1]
theorem St.name (h : St c ((1, s, n) :: ks)) : St c.name ks := by
  unfold Cu.name
  rw [h.nameP.1, if_pos rfl]
  exact h.nameP.2.2.2.2.2
theorem St.endsName (h : St c ((1, s, n) :: ks)) : c.ends = false := by
  unfold Cu.ends
  rw [h.nameP.2.2.2.1, h.nameP.2.2.2.2.1]
  rfl
/-- Steps over a number. -/
theorem St.num (h : St c ((2, s, n) :: ks)) {a b : Int} (h1 : a ≤ n ∧ n ≤ b) : c.numN a b = n ∧ St (c.num a b) ks := by
  have e : c.numFits a b = true := by unfold Cu.numFits; rw [h.numP.2.1]; exact decide_eq_true h1
  constructor
  · unfold Cu.numN
    rw [e, h.numP.2.1]
    rfl
  · unfold Cu.num
    rw [e, h.numP.2.1, if_pos rfl, if_pos rfl]
    exact h.numP.2.2
/-- Steps over a sign. -/
theorem St.keyB' (h : St c ((3, s, n) :: ks)) (u : ByteArray) : c.keyB u = false := by unfold Cu.keyB; rw [h.signP.1]; rfl
theorem St.isB (h : St c ((3, s, n) :: ks)) (u : ByteArray) : c.isB u = decide (s = u) := h.signP.2.1 u
theorem St.is (h : St c ((3, s, n) :: ks)) : St (c.is s) ks := by
  unfold Cu.is
  rw [h.isB, decide_eq_true rfl]
  exact h.signP.2.2
theorem St.mark (h : St c ((3, s, n) :: ks)) : St (c.mark [s]) ks := by
  unfold Cu.mark
  rw [h.isB, decide_eq_true rfl, if_pos rfl]
  unfold Cu.mark
  exact h.is
/-- A line's end. -/
theorem St.end_ {ls : List (List Wo)} (h : St c (tailK ls)) : c.ends = true ∧ St c.end_ (linesK ls) := by
  cases ls with
  | nil =>
    have hl := St.nil h
    have hm : c.more = false := by unfold Cu.more; rw [hl]; rfl
    constructor
    · unfold Cu.ends; rw [hm]; rfl
    · unfold Cu.end_
      rw [hl]
      simp only [Go.Proofs.YtjmdgbgjleeloaaGreatDoor.endP, List.head?_nil, Bool.false_eq_true, if_false, hm]
      exact h
  | cons l r =>
    have h1 : St c (kE :: (l.map keyO ++ tailK r)) := by
      refine ⟨?_, h.fault⟩
      rw [h.left]
      simp [tailK]
    constructor
    · unfold Cu.ends; rw [h1.endP.1]; simp
    · unfold Cu.end_
      rw [h1.endP.1, if_pos rfl]
      exact h1.endP.2
theorem St.noMore (h : St c []) : c.more = false ∧ c.eErr = 0 := by
  have hl := h.nil
  constructor
  · unfold Cu.more; rw [hl]; rfl
  · unfold Cu.eErr
    rw [hl, h.fault]
    rfl
end
/-- What the words of registers and slots are not. -/
def rgT (n : Int) : ByteArray := ⟨#[114]⟩ ++ itS n
def slT (n : Int) : ByteArray := ⟨#[115]⟩ ++ itS n
theorem rg_words : ((List.range 64).all fun (n : Nat) => !decide (rgT n = kSt) && !decide (rgT n = kCa) && !decide (rgT n = kRe) && !decide (rgT n = kTr) && decide (opT (rgT n) = 0)) = true := by decide +kernel
theorem sl_words : ((List.range 400).all fun (n : Nat) => !decide (slT n = kSt) && !decide (slT n = kCa) && !decide (slT n = kRe) && !decide (slT n = kTr)) = true := by decide +kernel
theorem rg_not {n : Int} (h : 0 ≤ n ∧ n < 64) : ¬ rgT n = kSt ∧ ¬ rgT n = kCa ∧ ¬ rgT n = kRe ∧ ¬ rgT n = kTr ∧ opT (rgT n) = 0 := by
  obtain ⟨m, rfl, hm⟩ := nat_of (k := 64) h
  have := List.all_eq_true.1 rg_words m (List.mem_range.2 hm)
  simp only [Bool.and_eq_true, Bool.not_eq_true', decide_eq_false_iff_not, decide_eq_true_eq] at this
  exact ⟨this.1.1.1.1, this.1.1.1.2, this.1.1.2, this.1.2, this.2⟩
theorem sl_not {n : Int} (h : 0 ≤ n ∧ n < 400) : ¬ slT n = kSt ∧ ¬ slT n = kCa ∧ ¬ slT n = kRe ∧ ¬ slT n = kTr := by
  obtain ⟨m, rfl, hm⟩ := nat_of (k := 400) h
  have := List.all_eq_true.1 sl_words m (List.mem_range.2 hm)
  simp only [Bool.and_eq_true, Bool.not_eq_true', decide_eq_false_iff_not] at this
  exact ⟨this.1.1.1, this.1.1.2, this.1.2, this.2⟩
theorem rg_reg {n : Int} (h : 0 ≤ n ∧ n < 64) : regT (rgT n) = some n.toNat := by
  obtain ⟨m, rfl, hm⟩ := nat_of (k := 64) h
  exact numT_some (by omega) hm rfl
theorem sl_slot {n : Int} (h : 0 ≤ n ∧ n < 400) : slotT (slT n) = some n.toNat := by
  obtain ⟨m, rfl, hm⟩ := nat_of (k := 400) h
  exact numT_some (by omega) hm rfl
theorem first_byte (p : UInt8) (a : ByteArray) : ((⟨#[p]⟩ ++ a : ByteArray)).data.toList.head? = some p := by
  rw [ByteArray.data_append, Array.toList_append]
  rfl
theorem rg_noslot (n : Int) : slotT (rgT n) = none := by
  cases h : slotT (rgT n) with
  | none => rfl
  | some m =>
    have h1 := (numT_is h).2
    have h2 := congrArg (fun b : ByteArray => b.data.toList.head?) h1
    simp only [rgT, first_byte] at h2
    cases h2
theorem nil_noslot : slotT ⟨#[]⟩ = none ∧ regT ⟨#[]⟩ = none := by
  constructor
  · cases h : slotT ⟨#[]⟩ with
    | none => rfl
    | some m =>
      have h2 := congrArg (fun b : ByteArray => b.data.toList.head?) (numT_is h).2
      simp only [first_byte] at h2
      cases h2
  · cases h : regT ⟨#[]⟩ with
    | none => rfl
    | some m =>
      have h2 := congrArg (fun b : ByteArray => b.data.toList.head?) (numT_is h).2
      simp only [first_byte] at h2
      cases h2
theorem op_words : ((List.range 12).all fun (o : Nat) => decide (o = 0) || (decide (opT (opNm o) = o) && decide (slotT (opNm o) = none))) = true := by decide +kernel
theorem op_word {o : Int} (h : 1 ≤ o ∧ o < 12) : (opT (opNm o) : Int) = o ∧ slotT (opNm o) = none := by
  obtain ⟨m, rfl, hm⟩ := nat_of (n := o) (k := 12) ⟨by omega, h.2⟩
  have := List.all_eq_true.1 op_words m (List.mem_range.2 hm)
  simp only [Bool.and_eq_true, Bool.or_eq_true, decide_eq_true_eq] at this
  rcases this with h1 | ⟨h1, h2⟩
  · omega
  · exact ⟨by rw [h1], h2⟩
theorem k_rg (n : Int) : keyO (.rg n) = (1, rgT n, 0) := rfl
theorem k_sl (n : Int) : keyO (.sl n) = (1, slT n, 0) := rfl
theorem k_nm (n : Int) : keyO (.nm n) = (2, itS n, n) := rfl
theorem k_tx {s : ByteArray} (h : ¬ (s = larr ∨ s = rarr)) : keyO (.tx s) = (1, s, 0) := by unfold keyO Wo.wd; dsimp only; unfold txW; rw [if_neg h]; rfl
theorem k_al : keyO (.tx larr) = (3, sAl, 0) := rfl
theorem k_ar : keyO (.tx rarr) = (3, sAr, 0) := rfl
theorem k_op {o : Int} (h : 1 ≤ o ∧ o < 12) : keyO (.tx (opNm o)) = (1, opNm o, 0) := by
  refine k_tx ?_
  have : ((List.range 12).all fun (o : Nat) => !decide (opNm o = larr ∨ opNm o = rarr)) = true := by decide +kernel
  obtain ⟨m, rfl, hm⟩ := nat_of (n := o) (k := 12) ⟨by omega, h.2⟩
  have := List.all_eq_true.1 this m (List.mem_range.2 hm)
  simpa using this
section
variable {c : Cu} {ks : List Kk} {n : Int}
/-- A register, a slot. -/
theorem St.reg (h : St c (keyO (.rg n) :: ks)) (hn : 0 ≤ n ∧ n < 64) : c.regN = n ∧ St c.regC ks ∧ c.slotB = false := by
  rw [k_rg] at h
  have e := h.nameT
  refine ⟨?_, ?_, ?_⟩
  · unfold Cu.regN; rw [e, rg_reg hn]; show ((n.toNat : Nat) : Int) = n; omega
  · unfold Cu.regC; rw [e, rg_reg hn]; exact h.name
  · unfold Cu.slotB; rw [e, rg_noslot]; rfl
theorem St.slot (h : St c (keyO (.sl n) :: ks)) (hn : 0 ≤ n ∧ n < 400) : c.slotB = true ∧ c.slotN = n ∧ St c.slotC ks := by
  rw [k_sl] at h
  have e := h.nameT
  have h1 : c.slotB = true := by unfold Cu.slotB; rw [e, sl_slot hn]; rfl
  refine ⟨h1, ?_, ?_⟩
  · unfold Cu.slotN; rw [e, sl_slot hn]; show ((n.toNat : Nat) : Int) = n; omega
  · unfold Cu.slotC; rw [h1, if_pos rfl]; exact h.name
/-- A register is next: no line's own word is. -/
theorem St.regNo (h : St c (keyO (.rg n) :: ks)) (hn : 0 ≤ n ∧ n < 64) : c.keyB kSt = false ∧ c.keyB kCa = false ∧ c.keyB kRe = false ∧ c.keyB kTr = false ∧ c.isB sAr = false := by
  rw [k_rg] at h
  obtain ⟨h1, h2, h3, h4, _⟩ := rg_not hn
  exact ⟨by rw [h.keyB]; exact decide_eq_false h1, by rw [h.keyB]; exact decide_eq_false h2, by rw [h.keyB]; exact decide_eq_false h3, by rw [h.keyB]; exact decide_eq_false h4, h.isName _⟩
theorem St.slotNo (h : St c (keyO (.sl n) :: ks)) (hn : 0 ≤ n ∧ n < 400) : c.keyB kSt = false ∧ c.keyB kCa = false ∧ c.keyB kRe = false ∧ c.keyB kTr = false ∧ c.isB sAr = false := by
  rw [k_sl] at h
  obtain ⟨h1, h2, h3, h4⟩ := sl_not hn
  exact ⟨by rw [h.keyB]; exact decide_eq_false h1, by rw [h.keyB]; exact decide_eq_false h2, by rw [h.keyB]; exact decide_eq_false h3, by rw [h.keyB]; exact decide_eq_false h4, h.isName _⟩
/-- An arrow to the left, behind a register. -/
theorem St.larrow (h : St c (keyO (.tx larr) :: ks)) : c.isB sAr = false ∧ St (c.mark [sAl]) ks := by
  rw [k_al] at h
  exact ⟨by rw [h.isB]; exact decide_eq_false (by decide), h.mark⟩
theorem St.part_value (h : St c (keyO (.rg n) :: keyO (.tx larr) :: ks)) (hn : 0 ≤ n ∧ n < 64) : ∃ d : Cu, d = c.regC.mark [sAl] ∧ St d ks ∧ c.partP = .inl (d.valI n) ∧ c.partC = d.valC := by
  obtain ⟨h1, h2, h3, h4, h5⟩ := h.regNo hn
  obtain ⟨r1, r2, r3⟩ := h.reg hn
  obtain ⟨l1, l2⟩ := r2.larrow
  refine ⟨_, rfl, l2, ?_, ?_⟩
  · unfold Cu.partP
    rw [h1, h2, h3, h4, h5, r3, l1, r1]
    rfl
  · unfold Cu.partC
    rw [h1, h2, h3, h4, h5, r3, l1]
    rfl
end
theorem ins_parts {x : Ii} (h : ofInsN wideM 400 x = 0) : (hasB x.op 1 || x.dst == 0) = true ∧ (hasB x.op 2 || x.a == 0) = true ∧ (hasB x.op 4 || x.b == 0) = true ∧ (hasB x.op 48 || hasB x.op 8 && immT x.imm || x.imm == 0) = true ∧ (hasB x.op 64 && isCallT wideM x || x.callee == 0 && x.many == 0) = true ∧ x.args = [] := by
  obtain ⟨h1, _, _⟩ := ins_right h
  unfold isInsT at h1
  simp only [Bool.and_eq_true] at h1
  obtain ⟨⟨⟨⟨⟨⟨p1, p2⟩, p3⟩, p4⟩, p5⟩, p6⟩, p7⟩ := h1
  exact ⟨p2, p3, p4, p5, p6, by simpa using p7⟩
/-- An instruction's line tells it. -/
theorem part_told_ins {x : Ii} {c : Cu} {ks : List Kk} (hx : ofInsN wideM 400 x = 0) (h : St c ((insWo x).map keyO ++ ks)) : c.partP = .inl x ∧ St c.partC ks := by
  obtain ⟨⟨o1, o2, o3⟩, r1, r2, r3, r4, r5, r6, _⟩ := ins_range hx
  obtain ⟨p1, p2, p3, p4, p5, p6⟩ := ins_parts hx
  have hsl : x.op = 16 ∨ x.op = 17 → 0 ≤ x.imm ∧ x.imm < 400 := fun ho => by
    obtain ⟨_, _, q⟩ := ins_right hx
    have := below_iff.1 (q (by rcases ho with e | e <;> rw [e] <;> decide)) x.imm (by simp)
    exact this
  obtain ⟨op, dst, a, b, imm, callee, args, many⟩ := x
  dsimp only at *
  subst p6
  unfold insWo at h
  dsimp only at h
  by_cases e1 : op = 1
  · subst e1
    rw [if_pos rfl] at h
    simp only [List.map_cons, List.map_nil, List.cons_append, List.nil_append] at h
    obtain ⟨d, _, hd, q1, q2⟩ := h.part_value r1
    rw [k_op (by omega), k_nm] at hd
    have e := hd.nameT
    obtain ⟨w1, w2⟩ := op_word (o := 1) (by omega)
    have hs : d.slotB = false := by unfold Cu.slotB; rw [e, w2]; rfl
    have ho : opT d.nameT = 1 := by rw [e]; omega
    obtain ⟨n1, n2⟩ := hd.name.num r4
    rw [q1, q2]
    unfold Cu.valI Cu.valC
    rw [hs, ho, n1]
    have z : a = 0 ∧ b = 0 ∧ callee = 0 ∧ many = 0 := by
      rw [show hasB 1 2 = false by decide] at p2
      rw [show hasB 1 4 = false by decide] at p3
      rw [show hasB 1 64 = false by decide] at p5
      simp at p2 p3 p5
      exact ⟨p2, p3, p5.1, p5.2⟩
    obtain ⟨rfl, rfl, rfl, rfl⟩ := z
    exact ⟨rfl, n2⟩
  rw [if_neg e1] at h
  by_cases e2 : op = 11
  · subst e2
    rw [if_pos rfl] at h
    simp only [List.map_cons, List.map_nil, List.cons_append, List.nil_append] at h
    obtain ⟨d, _, hd, q1, q2⟩ := h.part_value r1
    rw [k_op (by omega), k_nm] at hd
    have e := hd.nameT
    obtain ⟨w1, w2⟩ := op_word (o := 11) (by omega)
    have hs : d.slotB = false := by unfold Cu.slotB; rw [e, w2]; rfl
    have ho : opT d.nameT = 11 := by rw [e]; omega
    obtain ⟨g1, g2, _⟩ := hd.name.reg r2
    obtain ⟨n1, n2⟩ := g2.num r4
    rw [q1, q2]
    unfold Cu.valI Cu.valC
    rw [hs, ho, n1, g1]
    have z : b = 0 ∧ callee = 0 ∧ many = 0 := by
      rw [show hasB 11 4 = false by decide] at p3
      rw [show hasB 11 64 = false by decide] at p5
      simp at p3 p5
      exact ⟨p3, p5.1, p5.2⟩
    obtain ⟨rfl, rfl, rfl⟩ := z
    exact ⟨rfl, n2⟩
  rw [if_neg e2] at h
  by_cases e3 : op = 12
  · subst e3
    rw [if_pos rfl] at h
    simp only [List.map_cons, List.map_nil, List.cons_append, List.nil_append] at h
    rw [k_tx (by decide), k_nm] at h
    have hk := h.keyB kSt
    rw [decide_eq_true (show (⟨#[115, 116, 111, 114, 101]⟩ : ByteArray) = kSt from rfl)] at hk
    obtain ⟨g1, g2, _⟩ := (show St (c.key kSt) _ from h.key).reg r2
    obtain ⟨n1, n2⟩ := g2.num r4
    obtain ⟨u1, u2, _⟩ := n2.reg r3
    unfold Cu.partP Cu.partC
    rw [hk, if_pos rfl, if_pos rfl, g1, n1, u1]
    have z : dst = 0 ∧ callee = 0 ∧ many = 0 := by
      rw [show hasB 12 1 = false by decide] at p1
      rw [show hasB 12 64 = false by decide] at p5
      simp at p1 p5
      exact ⟨p1, p5.1, p5.2⟩
    obtain ⟨rfl, rfl, rfl⟩ := z
    exact ⟨rfl, u2⟩
  rw [if_neg e3] at h
  by_cases e4 : op = 13
  · subst e4
    rw [if_pos rfl] at h
    simp only [List.map_cons, List.map_nil, List.cons_append, List.nil_append] at h
    rw [k_tx (by decide), k_nm, k_nm] at h
    have hk0 := h.keyB kSt
    rw [decide_eq_false (show ¬ (⟨#[99, 97, 108, 108]⟩ : ByteArray) = kSt by decide)] at hk0
    have hk := h.keyB kCa
    rw [decide_eq_true (show (⟨#[99, 97, 108, 108]⟩ : ByteArray) = kCa from rfl)] at hk
    obtain ⟨n1, n2⟩ := (show St (c.key kCa) _ from h.key).num (a := 0) (b := 99) (by omega)
    obtain ⟨m1, m2⟩ := n2.num (a := 0) (b := 8) (by omega)
    unfold Cu.partP Cu.partC
    rw [hk0, hk, n1, m1]
    have z : dst = 0 ∧ a = 0 ∧ b = 0 ∧ imm = 0 := by
      rw [show hasB 13 1 = false by decide] at p1
      rw [show hasB 13 2 = false by decide] at p2
      rw [show hasB 13 4 = false by decide] at p3
      rw [show hasB 13 48 = false by decide, show hasB 13 8 = false by decide] at p4
      simp at p1 p2 p3 p4
      exact ⟨p1, p2, p3, p4⟩
    obtain ⟨rfl, rfl, rfl, rfl⟩ := z
    exact ⟨rfl, m2⟩
  rw [if_neg e4] at h
  by_cases e5 : op = 15
  · subst e5
    rw [if_pos rfl] at h
    simp only [List.map_cons, List.map_nil, List.cons_append, List.nil_append] at h
    obtain ⟨d, _, hd, q1, q2⟩ := h.part_value r1
    obtain ⟨g1, g2, g3⟩ := hd.reg r2
    have ho : opT d.nameT = 0 := by
      rw [k_rg] at hd
      rw [hd.nameT]
      exact (rg_not r2).2.2.2.2
    rw [q1, q2]
    unfold Cu.valI Cu.valC
    rw [g3, ho, g1]
    have z : b = 0 ∧ imm = 0 ∧ callee = 0 ∧ many = 0 := by
      rw [show hasB 15 4 = false by decide] at p3
      rw [show hasB 15 48 = false by decide, show hasB 15 8 = false by decide] at p4
      rw [show hasB 15 64 = false by decide] at p5
      simp at p3 p4 p5
      exact ⟨p3, p4, p5.1, p5.2⟩
    obtain ⟨rfl, rfl, rfl, rfl⟩ := z
    exact ⟨rfl, g2⟩
  rw [if_neg e5] at h
  by_cases e6 : op = 16
  · subst e6
    rw [if_pos rfl] at h
    simp only [List.map_cons, List.map_nil, List.cons_append, List.nil_append] at h
    have hi := hsl (.inl rfl)
    obtain ⟨h1, h2, h3, h4, h5⟩ := h.slotNo hi
    obtain ⟨s1, s2, s3⟩ := h.slot hi
    obtain ⟨_, l2⟩ := s3.larrow
    obtain ⟨g1, g2, _⟩ := l2.reg r2
    unfold Cu.partP Cu.partC
    rw [h1, h2, h3, h4, h5, s1, s2, g1]
    have z : dst = 0 ∧ b = 0 ∧ callee = 0 ∧ many = 0 := by
      rw [show hasB 16 1 = false by decide] at p1
      rw [show hasB 16 4 = false by decide] at p3
      rw [show hasB 16 64 = false by decide] at p5
      simp at p1 p3 p5
      exact ⟨p1, p3, p5.1, p5.2⟩
    obtain ⟨rfl, rfl, rfl, rfl⟩ := z
    exact ⟨rfl, g2⟩
  rw [if_neg e6] at h
  by_cases e7 : op = 17
  · subst e7
    rw [if_pos rfl] at h
    simp only [List.map_cons, List.map_nil, List.cons_append, List.nil_append] at h
    have hi := hsl (.inr rfl)
    obtain ⟨d, _, hd, q1, q2⟩ := h.part_value r1
    obtain ⟨s1, s2, s3⟩ := hd.slot hi
    rw [q1, q2]
    unfold Cu.valI Cu.valC
    rw [s1, s2]
    have z : a = 0 ∧ b = 0 ∧ callee = 0 ∧ many = 0 := by
      rw [show hasB 17 2 = false by decide] at p2
      rw [show hasB 17 4 = false by decide] at p3
      rw [show hasB 17 64 = false by decide] at p5
      simp at p2 p3 p5
      exact ⟨p2, p3, p5.1, p5.2⟩
    obtain ⟨rfl, rfl, rfl, rfl⟩ := z
    exact ⟨rfl, s3⟩
  rw [if_neg e7] at h
  have ho : 2 ≤ op ∧ op ≤ 10 := by omega
  simp only [List.map_cons, List.map_nil, List.cons_append, List.nil_append] at h
  obtain ⟨d, _, hd, q1, q2⟩ := h.part_value r1
  rw [k_op (by omega)] at hd
  have e := hd.nameT
  obtain ⟨w1, w2⟩ := op_word (o := op) (by omega)
  have hs : d.slotB = false := by unfold Cu.slotB; rw [e, w2]; rfl
  have ho0 : ¬ opT d.nameT = 0 := by rw [e]; omega
  have ho1 : ¬ opT d.nameT = 1 := by rw [e]; omega
  have ho2 : ¬ opT d.nameT = 11 := by rw [e]; omega
  have ho3 : (opT d.nameT : Int) = op := by rw [e]; exact w1
  obtain ⟨g1, g2, _⟩ := hd.name.reg r2
  obtain ⟨u1, u2, _⟩ := g2.reg r3
  rw [q1, q2]
  unfold Cu.valI Cu.valC
  rw [hs, if_neg (by decide), if_neg ho0, if_neg ho1, if_neg ho2, if_neg (by decide), if_neg ho0, if_neg ho1, if_neg ho2, g1, u1, ho3]
  have z : imm = 0 ∧ callee = 0 ∧ many = 0 := by
    have hh : hasB op 48 = false ∧ hasB op 8 = false ∧ hasB op 64 = false := by
      have : ((List.range 11).all fun (o : Nat) => decide (o < 2) || (!hasB o 48 && !hasB o 8 && !hasB o 64)) = true := by decide +kernel
      obtain ⟨m, rfl, hm⟩ := nat_of (n := op) (k := 11) ⟨by omega, by omega⟩
      have := List.all_eq_true.1 this m (List.mem_range.2 hm)
      simp only [Bool.or_eq_true, Bool.and_eq_true, Bool.not_eq_true', decide_eq_true_eq] at this
      rcases this with h | h
      · omega
      · exact ⟨h.1.1, h.1.2, h.2⟩
    rw [hh.1, hh.2.1] at p4
    rw [hh.2.2] at p5
    simp at p4 p5
    exact ⟨p4, p5.1, p5.2⟩
  obtain ⟨rfl, rfl, rfl⟩ := z
  exact ⟨rfl, u2⟩
/-- An end's line tells it. -/
theorem part_told_end {b : Bb} {c : Cu} {ls : List (List Wo)} (hb : CanB b) (h : St c ((tmWo b.tm).map keyO ++ tailK ls)) : c.partP = .inr b.tm ∧ St c.partC (tailK ls) := by
  obtain ⟨hk, h2, h3, h4⟩ := can_end hb
  obtain ⟨q1, q2, _⟩ := end_right hb.tm
  have hw : (wideB b).tm = if b.tm.kind = 3 ∧ isRegT b.tm.a = true then ⟨b.tm.kind, 0, b.tm.t0, b.tm.t1⟩ else b.tm := by unfold wideB; split <;> rfl
  rw [hw] at q1 q2
  obtain ⟨ins, kind, a, t0, t1⟩ := b
  dsimp only at *
  unfold tmWo at h
  dsimp only at h
  rcases hk with rfl | rfl | rfl | rfl
  · rw [if_pos rfl] at h
    simp only [List.map_cons, List.map_nil, List.cons_append, List.nil_append] at h
    rw [k_ar, k_nm] at h
    obtain ⟨n1, n2⟩ := (show St (c.is sAr) _ from h.is).num (a := 0) (b := 199) (by omega)
    rw [if_neg (by rintro ⟨h, _⟩; cases h)] at q1
    unfold isEndT at q1
    rw [if_pos rfl] at q1
    simp at q1
    obtain ⟨rfl, rfl⟩ := q1
    unfold Cu.partP Cu.partC
    rw [h.keyB', h.keyB', h.keyB', h.keyB', h.isB, decide_eq_true rfl, n1]
    exact ⟨rfl, n2⟩
  · rw [if_neg (by decide), if_pos rfl] at h
    simp only [List.map_cons, List.map_nil, List.cons_append, List.nil_append] at h
    rw [if_neg (by rintro ⟨h, _⟩; cases h)] at q2
    unfold readsWellT at q2
    dsimp only at q2
    rw [if_neg (by decide)] at q2
    have hr : 0 ≤ a ∧ a < 64 := below_iff.1 q2 a (by simp)
    obtain ⟨k1, k2, k3, k4, k5⟩ := h.regNo hr
    obtain ⟨r1, r2, r3⟩ := h.reg hr
    rw [k_ar, k_nm, k_nm] at r2
    obtain ⟨n1, n2⟩ := (show St (c.regC.is sAr) _ from r2.is).num (a := 0) (b := 199) (by omega)
    obtain ⟨m1, m2⟩ := n2.num (a := 0) (b := 199) (by omega)
    unfold Cu.partP Cu.partC
    rw [k1, k2, k3, k4, k5, r3, r2.isB, decide_eq_true rfl, r1, n1, m1]
    exact ⟨rfl, m2⟩
  · rw [if_neg (by decide), if_neg (by decide), if_pos rfl] at h
    have hz : t0 = 0 ∧ t1 = 0 := by
      unfold isEndT at q1
      split at q1
      · dsimp only at q1; rw [if_neg (by decide), if_neg (by decide), if_pos rfl] at q1; simpa using q1
      · dsimp only at q1; rw [if_neg (by decide), if_neg (by decide), if_pos rfl] at q1; simpa using q1
    obtain ⟨rfl, rfl⟩ := hz
    by_cases ha : a = -1
    · subst ha
      rw [if_pos rfl] at h
      simp only [List.map_cons, List.map_nil, List.cons_append, List.nil_append] at h
      rw [k_tx (by decide)] at h
      have hs : St (c.key kRe) (tailK ls) := h.key
      have e := hs.end_.1
      unfold Cu.partP Cu.partC Cu.toldN Cu.toldC
      rw [h.keyB, h.keyB, h.keyB, e]
      exact ⟨rfl, hs⟩
    · rw [if_neg ha] at h
      simp only [List.map_cons, List.map_nil, List.cons_append, List.nil_append] at h
      rw [k_tx (by decide)] at h
      have hs : St (c.key kRe) _ := h.key
      have hr : 0 ≤ a ∧ a < 64 := by omega
      obtain ⟨r1, r2, _⟩ := hs.reg hr
      rw [k_rg] at hs
      have e := hs.endsName
      unfold Cu.partP Cu.partC Cu.toldN Cu.toldC
      rw [h.keyB, h.keyB, h.keyB, e, r1]
      exact ⟨rfl, r2⟩
  · rw [if_neg (by decide), if_neg (by decide), if_neg (by decide)] at h
    simp only [List.map_cons, List.map_nil, List.cons_append, List.nil_append] at h
    rw [k_tx (by decide)] at h
    have hs : St (c.key kTr) (tailK ls) := h.key
    rw [if_neg (by rintro ⟨h, _⟩; cases h)] at q1
    unfold isEndT at q1
    dsimp only at q1
    rw [if_neg (by decide), if_neg (by decide), if_neg (by decide), if_pos rfl] at q1
    simp at q1
    obtain ⟨rfl, rfl, rfl⟩ := q1
    unfold Cu.partP Cu.partC
    rw [h.keyB, h.keyB, h.keyB, h.keyB]
    exact ⟨rfl, hs⟩
/-- A block's lines tell it. -/
theorem blk_told {b : Bb} (hb : CanB b) {R : List (List Wo)} : ∀ (l : List Ii) (c : Cu) (acc : List Ii), Fit c → acc.length + l.length ≤ 4000 → (∀ x ∈ l, ofInsN wideM 400 x = 0) → St c (linesK (l.map insWo ++ tmWo b.tm :: R)) →
    (c.blk acc).2 = ⟨acc ++ l, b.tm⟩ ∧ St (c.blk acc).1 (linesK R) ∧ Fit (c.blk acc).1 := by
  intro l
  induction l with
  | nil =>
    intro c acc hF _ _ h
    have h1 : St c ((tmWo b.tm).map keyO ++ tailK R) := h
    obtain ⟨p1, p2⟩ := part_told_end hb h1
    have hne := (tm_fine hb).1
    have hm : c.more = true := by
      unfold Cu.more
      cases hl : c.left with
      | nil =>
        have := h1.left
        rw [hl] at this
        cases hq : tmWo b.tm with
        | nil => exact absurd hq hne
        | cons y r => rw [hq] at this; simp at this
      | cons x r => rfl
    rw [blk_end hm p1]
    exact ⟨by simp, p2.end_.2, hF.partC.end_⟩
  | cons x r ih =>
    intro c acc hF hlen hx h
    rw [List.length_cons] at hlen
    have h1 : St c ((insWo x).map keyO ++ tailK (r.map insWo ++ tmWo b.tm :: R)) := h
    obtain ⟨p1, p2⟩ := part_told_ins (hx x (by simp)) h1
    have hne := (ins_fine (hx x (by simp))).1
    have hm : c.more = true := by
      unfold Cu.more
      cases hl : c.left with
      | nil =>
        have := h1.left
        rw [hl] at this
        cases hq : insWo x with
        | nil => exact absurd hq hne
        | cons y r => rw [hq] at this; simp at this
      | cons x r => rfl
    have hlc : c.longC acc.length = c.partC := by unfold Cu.longC; rw [if_neg (by omega)]
    rw [blk_ins hF hm p1, hlc]
    obtain ⟨q1, q2, q3⟩ := ih c.partC.end_ (acc ++ [x]) hF.partC.end_ (by simp; omega) (fun y hy => hx y (by simp [hy])) p2.end_.2
    exact ⟨by rw [q1]; simp, q2, q3⟩
theorem lines_more {c : Cu} {l : List Wo} {ls : List (List Wo)} (h : St c (linesK (l :: ls))) (hl : l ≠ []) : c.more = true := by
  unfold Cu.more
  cases hq : c.left with
  | nil =>
    have := h.left
    rw [hq] at this
    cases l with
    | nil => exact absurd rfl hl
    | cons y r => simp [linesK] at this
  | cons x r => rfl
theorem bls_told : ∀ (bs : List Bb) (f n : Nat) (c : Cu) (acc : List Bb), Fit c → bs.length ≤ f → n + bs.length ≤ 200 → (n = 0 → bs ≠ []) → (∀ b ∈ bs, CanB b) → St c (linesK (blsWo n bs)) →
    (tgGo f n c acc).2 = acc ++ bs ∧ St (tgGo f n c acc).1 [] := by
  intro bs
  induction bs with
  | nil =>
    intro f n c acc hF _ _ hn _ h
    have h0 : ¬ n = 0 := fun e => hn e rfl
    have hm := (St.noMore h).1
    rw [tg_stop (by rw [hm]; rintro (e | e); exact h0 e; cases e)]
    exact ⟨by simp, h⟩
  | cons b r ih =>
    intro f n c acc hF hf hn _ hb h
    rw [List.length_cons] at hf hn
    obtain ⟨f, rfl⟩ : ∃ k, f = k + 1 := ⟨f - 1, by omega⟩
    have hB := hb b (by simp)
    have h1 : St c (linesK (opWo n :: (b.ins.map insWo ++ tmWo b.tm :: blsWo (n + 1) r))) := by
      have e : blsWo n (b :: r) = opWo n :: (b.ins.map insWo ++ tmWo b.tm :: blsWo (n + 1) r) := by simp [blsWo, blWo]
      rw [← e]
      exact h
    have hm := lines_more h1 (by simp [opWo])
    rw [tg_step (.inr hm)]
    have h2 : St c (keyO (.tx kBlock) :: keyO (.nm (n : Int)) :: tailK (b.ins.map insWo ++ tmWo b.tm :: blsWo (n + 1) r)) := h1
    rw [k_tx (by decide), k_nm] at h2
    obtain ⟨_, n2⟩ := h2.keyed.num (a := (n : Int)) (b := (n : Int)) ⟨Int.le_refl _, Int.le_refl _⟩
    obtain ⟨q1, q2, q3⟩ := blk_told hB b.ins (c.headC n) [] (hF.headC _) (by simpa using hB.few) hB.ins n2.end_.2
    obtain ⟨g1, g2⟩ := ih f (n + 1) _ (acc ++ [((c.headC n).blk []).2]) q3 (by omega) (by omega) (fun e => by omega) (fun y hy => hb y (by simp [hy])) q2
    refine ⟨?_, g2⟩
    rw [g1, q1]
    simp
/-- What is printed of a target tells it. -/
theorem target_told {t : Gg} {c : Cu} (h : canG t = true) (hF : Fit c) (hs : St c (linesK t.lns)) : c.tgC.eErr = 0 ∧ c.tgG = t := by
  obtain ⟨h1, h2, h3⟩ := can_parts h
  have h4 : St c (keyO (.tx kTarget) :: keyO (.nm t.frame) :: tailK (blsWo 0 t.blocks)) := hs
  rw [k_tx (by decide), k_nm] at h4
  obtain ⟨n1, n2⟩ := h4.keyed.num (a := 0) (b := 400) h1
  have hh : St c.tgHead (linesK (blsWo 0 t.blocks)) := n2.end_.2
  obtain ⟨g1, g2⟩ := bls_told t.blocks 200 0 c.tgHead [] (((hF.keyedP _).num _ _).end_) h2.2 (by omega) (fun _ e => by rw [e] at h2; simp at h2) h3 hh
  refine ⟨(St.noMore g2).2, ?_⟩
  unfold Cu.tgG
  rw [n1, g1]
  cases t
  rfl
end Go.Proofs.YtjmdgbgjleeloaaGreatDoor
