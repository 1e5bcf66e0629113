/-
  The words of a function's text (plainly): they are read again. No condition beyond those that each theorem states.
  What a cursor over a function's words tells, line by line, plainly. No condition beyond those that each theorem states.
  A line of an instruction, of an end tells it, plainly. No condition beyond those that each theorem states.
-/
import Derived.Test.YthiipgahbmoiiaaGreatDoorPk29
import Derived.Test.YthiipgahbmoiiaaGreatDoorPk38
import Derived.Test.YthiipgahbmoiiaaGreatDoorPk41
namespace Go.Proofs.YthiipgahbmoiiaaGreatDoor

/-- A word of a line: a text, a variable, a number. -/
inductive Tk where
  | tx (s : ByteArray)
  | va (n : Int)
  | nm (n : Int)
def Tk.b : Tk → ByteArray
  | .tx s => s
  | .va n => vaT n
  | .nm n => itS n
def txQ (s : ByteArray) : Wd := if s = larrQ ∨ s = rarrQ then ⟨3, s, 0, 0, 0⟩ else ⟨1, s, 0, 0, 0⟩
def Tk.wd : Tk → Wd
  | .tx s => txQ s
  | .va n => ⟨1, vaT n, 0, 0, 0⟩
  | .nm n => ⟨2, itS n, n, 0, 0⟩
def insK (x : Ii) : List Tk :=
  if x.op = 1 then [.va x.dst, .tx larrQ, .tx (opNmR x.op), .nm x.imm]
  else if x.op = 11 then [.va x.dst, .tx larrQ, .tx (opNmR x.op), .va x.a, .nm x.imm]
  else if x.op = 12 then [.tx kStQ, .va x.a, .nm x.imm, .va x.b]
  else if x.op = 13 then (if x.dst = 0 then [.tx kCaQ, .nm x.callee] ++ x.args.map Tk.va else [.va x.dst, .tx larrQ, .tx kCaQ, .nm x.callee] ++ x.args.map Tk.va)
  else if x.op = 14 then [.va x.dst, .tx larrQ, .va x.a]
  else [.va x.dst, .tx larrQ, .tx (opNmR x.op), .va x.a, .va x.b]
def termK (t : Tt) : List Tk :=
  if t.kind = 1 then [.tx rarrQ, .nm t.t0]
  else if t.kind = 2 then [.va t.a, .tx rarrQ, .nm t.t0, .nm t.t1]
  else if t.kind = 3 then [.tx kReQ] ++ (needsL t).map Tk.va
  else [.tx kTrQ]
def headK (f : Ff) : List Tk := .tx kFunQ :: f.params.map Tk.va
def openK (k : Nat) : List Tk := [.tx kBlockQ, .nm (k : Int)]
theorem va_map (l : List Int) : (l.map Tk.va).map Tk.b = l.map vaT := by rw [List.map_map]; rfl
theorem ins_tk (x : Ii) : (insK x).map Tk.b = insT x := by
  unfold insK insT
  repeat' split
  all_goals (simp only [List.map_append, List.map_cons, List.map_nil, va_map]; rfl)
theorem term_tk (t : Tt) : (termK t).map Tk.b = termT t := by
  unfold termK termT
  repeat' split
  all_goals (simp only [List.map_append, List.map_cons, List.map_nil, va_map]; rfl)
theorem head_tk (f : Ff) : (headK f).map Tk.b = headT f := by
  unfold headK headT
  rw [List.map_cons, va_map]
  rfl
theorem open_tk (k : Nat) : (openK k).map Tk.b = openT k := by unfold openK openT; rfl
def blK (k : Nat) (b : Bb) : List (List Tk) := openK k :: (b.ins.map insK ++ [termK b.tm])
def blsK : Nat → List Bb → List (List Tk)
  | _, [] => []
  | k, b :: l => blK k b ++ blsK (k + 1) l
/-- The lines of a function; their words. -/
def fnK (f : Ff) : List (List Tk) := headK f :: blsK 0 f.blocks
def rowK (l : List Tk) : List UInt8 := rdL (l.map Tk.b)
theorem inL_tk (l : List Ii) : inL l = (l.map insK).flatMap rowK := by
  unfold inL rowK
  rw [List.flatMap_map]
  congr 1
  funext i
  rw [ins_tk]
theorem blL_tk (k : Nat) (b : Bb) : blL k b = (blK k b).flatMap rowK := by
  unfold blL blK
  rw [List.flatMap_cons, List.flatMap_append, ← inL_tk, List.flatMap_cons, List.flatMap_nil, List.append_nil, List.append_assoc]
  unfold rowK
  rw [term_tk, open_tk]
theorem blsL_tk : ∀ (l : List Bb) (k : Nat), blsL k l = (blsK k l).flatMap rowK := by
  intro l
  induction l with
  | nil => intro k; rfl
  | cons b r ih =>
    intro k
    show blL k b ++ blsL (k + 1) r = (blK k b ++ blsK (k + 1) r).flatMap rowK
    rw [List.flatMap_append, ← ih, ← blL_tk]
theorem fnL_tk (f : Ff) : fnL f = (fnK f).flatMap rowK := by
  unfold fnL fnK
  rw [List.flatMap_cons, ← blsL_tk]
  unfold rowK
  rw [head_tk]
theorem tk_text (x : Tk) : x.wd.t = x.b := by
  cases x with
  | tx s => unfold Tk.wd; dsimp only; unfold txQ; split <;> rfl
  | va n => rfl
  | nm n => rfl
theorem tk_kind (x : Tk) : x.wd.k ≠ 4 := by
  cases x with
  | tx s => unfold Tk.wd; dsimp only; unfold txQ; split; exact (by decide : (3 : Int) ≠ 4); exact (by decide : (1 : Int) ≠ 4)
  | va n => exact (by decide : (1 : Int) ≠ 4)
  | nm n => exact (by decide : (2 : Int) ≠ 4)
theorem tk_noend (x : Tk) : endK x.wd = false := by
  cases x with
  | tx s => unfold Tk.wd; dsimp only; unfold txQ; split <;> rfl
  | va n => rfl
  | nm n => rfl
theorem sh_lineQ (l : List Tk) (r : List Wd) : shownL true (l.map Tk.wd ++ r) = Lib.joinTail [32] (l.map fun x => x.b.data.toList) ++ shownL true r := by
  induction l with
  | nil => simp [Lib.joinTail]
  | cons x l ih =>
    rw [List.map_cons, List.cons_append, shownL, if_neg (tk_kind x), ih, List.map_cons, join_tail_cons, tk_text]
    simp
theorem sh_rowQ (l : List Tk) (r : List Wd) (h : l ≠ []) : shownL false (l.map Tk.wd ++ enW :: r) = rowK l ++ shownL false r := by
  have h1 : rowK l = Lib.join (l.map fun x => x.b.data.toList) [32] ++ [10] := by
    unfold rowK rdL rowT joinB
    rw [ByteArray.data_append, Array.toList_append, List.map_map]
    rfl
  cases l with
  | nil => exact absurd rfl h
  | cons x u =>
    rw [h1, List.map_cons, List.cons_append, shownL, if_neg (tk_kind x), sh_lineQ, List.map_cons, Lib.join_cons, tk_text]
    have e : shownL true (enW :: r) = 10 :: shownL false r := by rw [shownL]; exact if_pos rfl
    rw [e]
    simp
def fnWds (f : Ff) : List Wd := ((fnK f).map fun l => l.map Tk.wd).flatMap fun l => l ++ [enW]
theorem sh_linesQ : ∀ ls : List (List Tk), (∀ l ∈ ls, l ≠ []) → shownL false ((ls.map fun l => l.map Tk.wd).flatMap fun l => l ++ [enW]) = ls.flatMap rowK := by
  intro ls
  induction ls with
  | nil => intro _; rfl
  | cons l r ih =>
    intro h
    rw [List.map_cons, List.flatMap_cons, List.append_assoc, List.flatMap_cons, List.singleton_append, sh_rowQ l _ (h l (by simp)), ih (fun y hy => h y (by simp [hy]))]
/-- A word of a line that can be told. -/
def txLQ : List ByteArray := [kFunQ, kBlockQ, kStQ, kCaQ, kReQ, kTrQ, sArQ, sAlQ] ++ opNameR.tail
def Tk.fine : Tk → Prop
  | .tx s => s ∈ txLQ
  | .va n => 1 ≤ n ∧ n ≤ 200
  | .nm n => -1099511627776 ≤ n ∧ n ≤ 1099511627776
theorem nat_ofQ {n : Int} {k : Nat} (h : 0 ≤ n ∧ n < k) : ∃ m : Nat, n = (m : Int) ∧ m < k := ⟨n.toNat, by omega, by omega⟩
theorem txQ_can : (txLQ.all fun s => canB (Tk.tx s).wd) = true := by decide +kernel
theorem vaQ_can : ((List.range 201).all fun (n : Nat) => canB (Tk.va (n : Int)).wd) = true := by decide +kernel
theorem tk_can {x : Tk} (h : x.fine) : canB x.wd = true := by
  cases x with
  | tx s => exact List.all_eq_true.1 txQ_can s h
  | va n => obtain ⟨m, rfl, hm⟩ := nat_ofQ (n := n) (k := 201) ⟨by have : 1 ≤ n ∧ n ≤ 200 := h; omega, by have : 1 ≤ n ∧ n ≤ 200 := h; omega⟩; exact List.all_eq_true.1 vaQ_can m (List.mem_range.2 hm)
  | nm n =>
    have h : -1099511627776 ≤ n ∧ n ≤ 1099511627776 := h
    show canB ⟨2, itS n, n, 0, 0⟩ = true
    unfold canB
    rw [if_neg (by show ¬ (2 : Int) = 1; decide), if_pos rfl]
    simp only [Bool.and_eq_true, decide_eq_true_eq]
    exact ⟨by unfold boundB; exact decide_eq_true h, rfl⟩
theorem txQ_in {s : ByteArray} (h : (txLQ.any fun y => decide (y = s)) = true) : s ∈ txLQ := by
  obtain ⟨y, hy, e⟩ := List.any_eq_true.1 h
  rw [decide_eq_true_eq] at e
  exact e ▸ hy
theorem opQ_in {o : Int} (h : 1 ≤ o ∧ o < 12) : opNmR o ∈ txLQ := by
  have : ((List.range 12).all fun (n : Nat) => decide (n = 0) || txLQ.any fun y => decide (y = opNmR (n : Int))) = true := by decide +kernel
  obtain ⟨m, rfl, hm⟩ := nat_ofQ (n := o) (k := 12) ⟨by omega, h.2⟩
  have := List.all_eq_true.1 this m (List.mem_range.2 hm)
  rw [Bool.or_eq_true, decide_eq_true_eq] at this
  rcases this with h | h
  · omega
  · exact txQ_in h
def keyQT (x : Tk) : Kk := key x.wd
def tailQ (ls : List (List Tk)) : List Kk := ls.flatMap fun l => kE :: l.map keyQT
def linesQ : List (List Tk) → List Kk
  | [] => []
  | l :: ls => l.map keyQT ++ tailQ ls
theorem fn_keys (f : Ff) (h : ∀ l ∈ fnK f, l ≠ []) : (pruned (fnWds f)).map key = linesQ (fnK f) := by
  unfold fnWds fnK
  rw [List.map_cons, pruned_lines _ _ (fun y hy => ?_)]
  · simp only [linesQ, tailQ, List.map_append, List.map_map, List.map_flatMap, List.flatMap_map, List.map_cons]
    rfl
  · rw [← List.map_cons] at hy
    obtain ⟨l, hl, rfl⟩ := List.mem_map.1 hy
    refine ⟨by have := h l hl; simpa using this, fun x hx => ?_⟩
    obtain ⟨y, _, rfl⟩ := List.mem_map.1 hx
    exact tk_noend y
theorem start_fnQ {f : Ff} (hf : ∀ l ∈ fnK f, l ≠ [] ∧ ∀ y ∈ l, y.fine) (s : ByteArray) (hs : s.data.toList = fnL f) : StK (startC s) (linesQ (fnK f)) := by
  have hne : ∀ l ∈ fnK f, l ≠ [] := fun l hl => (hf l hl).1
  obtain ⟨h1, h2⟩ := rd_shown s (fnWds f) (by rw [hs, fnL_tk]; exact (sh_linesQ _ hne).symm) (fun x hx => by
    unfold fnWds at hx
    simp only [List.mem_flatMap, List.mem_map, List.mem_append, List.mem_cons, List.not_mem_nil, or_false] at hx
    obtain ⟨_, ⟨l, hl, rfl⟩, hx⟩ := hx
    rcases hx with hx | rfl
    · obtain ⟨y, hy, rfl⟩ := List.mem_map.1 hx
      exact tk_can ((hf l hl).2 y hy)
    · rfl)
  refine ⟨?_, h1⟩
  show (pruned (readWords s)).map key = _
  rw [pruned_same h2, fn_keys f hne]
end Go.Proofs.YthiipgahbmoiiaaGreatDoor
namespace Go.Proofs.YthiipgahbmoiiaaGreatDoor

theorem k_va (n : Int) : keyQT (.va n) = (1, vaT n, 0) := rfl
theorem k_nmQ (n : Int) : keyQT (.nm n) = (2, itS n, n) := rfl
theorem k_txQ {s : ByteArray} (h : ¬ (s = larrQ ∨ s = rarrQ)) : keyQT (.tx s) = (1, s, 0) := by unfold keyQT Tk.wd; dsimp only; unfold txQ; rw [if_neg h]; rfl
theorem k_alQ : keyQT (.tx larrQ) = (3, sAlQ, 0) := rfl
theorem k_arQ : keyQT (.tx rarrQ) = (3, sArQ, 0) := rfl
theorem k_opQ {o : Int} (h : 1 ≤ o ∧ o < 12) : keyQT (.tx (opNmR o)) = (1, opNmR o, 0) := by
  refine k_txQ ?_
  have : ((List.range 12).all fun (o : Nat) => !decide (opNmR o = larrQ ∨ opNmR o = rarrQ)) = true := by decide +kernel
  obtain ⟨m, rfl, hm⟩ := nat_ofQ (n := o) (k := 12) ⟨by omega, h.2⟩
  have := List.all_eq_true.1 this m (List.mem_range.2 hm)
  simpa using this
theorem va_words : ((List.range 201).all fun (n : Nat) => !decide (vaT n = kStQ) && !decide (vaT n = kCaQ) && !decide (vaT n = kReQ) && !decide (vaT n = kTrQ) && decide (opR (vaT n) = 0)) = true := by decide +kernel
theorem va_not {n : Int} (h : 1 ≤ n ∧ n ≤ 200) : ¬ vaT n = kStQ ∧ ¬ vaT n = kCaQ ∧ ¬ vaT n = kReQ ∧ ¬ vaT n = kTrQ ∧ opR (vaT n) = 0 := by
  obtain ⟨m, rfl, hm⟩ := nat_ofQ (n := n) (k := 201) ⟨by omega, by omega⟩
  have := List.all_eq_true.1 va_words m (List.mem_range.2 hm)
  simp only [Bool.and_eq_true, Bool.not_eq_true', decide_eq_false_iff_not, decide_eq_true_eq] at this
  exact ⟨this.1.1.1.1, this.1.1.1.2, this.1.1.2, this.1.2, this.2⟩
theorem va_var {n : Int} (h : 1 ≤ n ∧ n ≤ 200) : ((varT (vaT n) : Nat) : Int) = n ∧ varT (vaT n) ≠ 0 := by
  obtain ⟨m, rfl, hm⟩ := nat_ofQ (n := n) (k := 201) ⟨by omega, by omega⟩
  rw [varT_hit (n := m) (by omega) (by omega) rfl]
  exact ⟨rfl, by omega⟩
theorem opQ_words : ((List.range 12).all fun (o : Nat) => decide (o = 0) || (decide (opR (opNmR o) = o) && !decide (opNmR o = kCaQ))) = true := by decide +kernel
theorem opQ_word {o : Int} (h : 1 ≤ o ∧ o < 12) : (opR (opNmR o) : Int) = o ∧ ¬ opNmR o = kCaQ := by
  obtain ⟨m, rfl, hm⟩ := nat_ofQ (n := o) (k := 12) ⟨by omega, h.2⟩
  have := List.all_eq_true.1 opQ_words m (List.mem_range.2 hm)
  simp only [Bool.and_eq_true, Bool.or_eq_true, Bool.not_eq_true', decide_eq_true_eq, decide_eq_false_iff_not] at this
  rcases this with h1 | ⟨h1, h2⟩
  · omega
  · exact ⟨by rw [h1], h2⟩
section
variable {c : Cu} {ks : List Kk} {n : Int}
theorem StK.endQ {ls : List (List Tk)} (h : StK c (tailQ ls)) : c.ends = true ∧ StK c.end_ (linesQ ls) := by
  cases ls with
  | nil =>
    have hl := StK.nil h
    have hm : c.more = false := by unfold Cu.more; rw [hl]; rfl
    constructor
    · unfold Cu.ends; rw [hm]; rfl
    · unfold Cu.end_
      rw [hl]
      simp only [Go.Proofs.YthiipgahbmoiiaaGreatDoor.endP, List.head?_nil, Bool.false_eq_true, if_false, hm]
      exact h
  | cons l r =>
    have h1 : StK c (kE :: (l.map keyQT ++ tailQ r)) := by
      refine ⟨?_, h.fault⟩
      rw [h.left]
      simp [tailQ]
    constructor
    · unfold Cu.ends; rw [h1.endP.1]; simp
    · unfold Cu.end_
      rw [h1.endP.1, if_pos rfl]
      exact h1.endP.2
/-- A variable. -/
theorem StK.var (h : StK c (keyQT (.va n) :: ks)) (hn : 1 ≤ n ∧ n ≤ 200) : c.vaN = n ∧ StK c.vaC ks := by
  rw [k_va] at h
  have e := h.nameT
  obtain ⟨v1, v2⟩ := va_var hn
  constructor
  · unfold Cu.vaN; rw [e]; exact v1
  · unfold Cu.vaC; rw [e, if_neg v2]; exact h.name
theorem StK.varNo (h : StK c (keyQT (.va n) :: ks)) (hn : 1 ≤ n ∧ n ≤ 200) : c.keyB kStQ = false ∧ c.keyB kCaQ = false ∧ c.keyB kReQ = false ∧ c.keyB kTrQ = false ∧ c.isB sArQ = false ∧ c.ends = false := by
  rw [k_va] at h
  obtain ⟨h1, h2, h3, h4, _⟩ := va_not hn
  exact ⟨by rw [h.keyB]; exact decide_eq_false h1, by rw [h.keyB]; exact decide_eq_false h2, by rw [h.keyB]; exact decide_eq_false h3, by rw [h.keyB]; exact decide_eq_false h4, h.isName _, h.endsName⟩
/-- An arrow to the left, behind a variable. -/
theorem StK.larrowQ (h : StK c (keyQT (.tx larrQ) :: ks)) : c.isB sArQ = false ∧ StK (c.mark [sAlQ]) ks := by
  rw [k_alQ] at h
  exact ⟨by rw [h.isB]; exact decide_eq_false (by decide), h.mark⟩
theorem StK.pq_value (h : StK c (keyQT (.va n) :: keyQT (.tx larrQ) :: ks)) (hn : 1 ≤ n ∧ n ≤ 200) : ∃ d : Cu, d = c.vaC.mark [sAlQ] ∧ StK d ks ∧ c.pqP = .inl (d.valQ n) ∧ c.pqC = d.valQC := by
  obtain ⟨h1, h2, h3, h4, h5, _⟩ := h.varNo hn
  obtain ⟨r1, r2⟩ := h.var hn
  obtain ⟨l1, l2⟩ := r2.larrowQ
  refine ⟨_, rfl, l2, ?_, ?_⟩
  · unfold Cu.pqP
    rw [h1, h2, h3, h4, h5, l1, r1]
    rfl
  · unfold Cu.pqC
    rw [h1, h2, h3, h4, h5, l1]
    rfl
end
def vasK (l : List Int) : List Kk := (l.map Tk.va).map keyQT
theorem ano_more {c : Cu} {m : Nat} (h : c.ends = false) (hm : m < 8) : c.anoC m = c ∧ c.anoB m = true := by
  have e : c.anoC m = c := by unfold Cu.anoC; rw [if_neg (by omega)]
  exact ⟨e, by unfold Cu.anoB; rw [e, h]; rfl⟩
theorem ano_ends {c : Cu} {m : Nat} (h : c.ends = true) : c.anoC m = c ∧ c.anoB m = false := by
  have e : c.anoC m = c := by unfold Cu.anoC; rw [if_neg (by rw [h]; simp)]
  exact ⟨e, by unfold Cu.anoB; rw [e, h]; rfl⟩
/-- Variables to the line's end. -/
theorem args_told {ls : List (List Tk)} : ∀ (l : List Int) (f : Nat) (c : Cu) (acc : List Int), l.length < f → acc.length + l.length ≤ 8 → (∀ v ∈ l, 1 ≤ v ∧ v ≤ 200) → StK c (vasK l ++ tailQ ls) → (argsGo f c acc).2 = acc ++ l ∧ StK (argsGo f c acc).1 (tailQ ls) := by
  intro l
  induction l with
  | nil =>
    intro f c acc hf _ _ h
    obtain ⟨f, rfl⟩ : ∃ k, f = k + 1 := ⟨f - 1, by simp at hf; omega⟩
    have h1 : StK c (tailQ ls) := h
    obtain ⟨a1, a2⟩ := ano_ends (m := acc.length) h1.endQ.1
    rw [args_stop a2, a1]
    exact ⟨by simp, h1⟩
  | cons v r ih =>
    intro f c acc hf hl hv h
    rw [List.length_cons] at hf hl
    obtain ⟨f, rfl⟩ : ∃ k, f = k + 1 := ⟨f - 1, by omega⟩
    have h1 : StK c (keyQT (.va v) :: (vasK r ++ tailQ ls)) := h
    have hn := hv v (by simp)
    obtain ⟨_, _, _, _, _, e6⟩ := h1.varNo hn
    obtain ⟨a1, a2⟩ := ano_more (m := acc.length) e6 (by omega)
    obtain ⟨v1, v2⟩ := h1.var hn
    rw [args_step a2, a1, v1]
    obtain ⟨q1, q2⟩ := ih f _ (acc ++ [v]) (by omega) (by simp; omega) (fun u hu => hv u (by simp [hu])) v2
    exact ⟨by rw [q1]; simp, q2⟩
theorem pars_told {ls : List (List Tk)} : ∀ (l : List Int) (f : Nat) (c : Cu) (acc : List Int), l.length < f → acc.length + l.length ≤ 8 → (∀ v ∈ l, 1 ≤ v ∧ v ≤ 200) → (acc ++ l).Nodup → StK c (vasK l ++ tailQ ls) → (parsGo f c acc).2 = acc ++ l ∧ StK (parsGo f c acc).1 (tailQ ls) := by
  intro l
  induction l with
  | nil =>
    intro f c acc hf _ _ _ h
    obtain ⟨f, rfl⟩ : ∃ k, f = k + 1 := ⟨f - 1, by simp at hf; omega⟩
    have h1 : StK c (tailQ ls) := h
    obtain ⟨a1, a2⟩ := ano_ends (m := acc.length) h1.endQ.1
    rw [pars_stop a2, a1]
    exact ⟨by simp, h1⟩
  | cons v r ih =>
    intro f c acc hf hl hv hd h
    rw [List.length_cons] at hf hl
    obtain ⟨f, rfl⟩ : ∃ k, f = k + 1 := ⟨f - 1, by omega⟩
    have h1 : StK c (keyQT (.va v) :: (vasK r ++ tailQ ls)) := h
    have hn := hv v (by simp)
    obtain ⟨_, _, _, _, _, e6⟩ := h1.varNo hn
    obtain ⟨a1, a2⟩ := ano_more (m := acc.length) e6 (by omega)
    obtain ⟨v1, v2⟩ := h1.var hn
    have hp : pdC c acc = c := by
      unfold pdC
      have : ((varT c.nameT : Nat) : Int) = v := v1
      rw [this, if_neg]
      intro hm
      have := (List.nodup_append.1 hd).2.2 v hm v (by simp)
      exact this rfl
    rw [pars_step a2, a1, hp, v1]
    obtain ⟨q1, q2⟩ := ih f _ (acc ++ [v]) (by omega) (by simp; omega) (fun u hu => hv u (by simp [hu])) (by simpa using hd) v2
    exact ⟨by rw [q1]; simp, q2⟩
end Go.Proofs.YthiipgahbmoiiaaGreatDoor
namespace Go.Proofs.YthiipgahbmoiiaaGreatDoor

theorem fit_var {n : Int} (h : fitsB true n = true) : 1 ≤ n ∧ n ≤ 200 := var_iff.1 h
theorem fit_none {n : Int} (h : fitsB false n = true) : n = 0 := by unfold fitsB at h; simpa using h
theorem op_parts {x : Ii} (h : isOpB x = true) : fitsB (opD x.op) x.dst = true ∧ fitsB (opA x.op) x.a = true ∧ fitsB (opB x.op) x.b = true ∧ (-1099511627776 ≤ x.imm ∧ x.imm ≤ 1099511627776) ∧ (opI x.op = false → x.imm = 0) ∧ x.callee = 0 ∧ x.args = [] ∧ x.many = 0 := by
  unfold isOpB at h
  simp only [Bool.and_eq_true, List.isEmpty_iff, Bool.or_eq_true, beq_iff_eq] at h
  obtain ⟨⟨⟨⟨⟨⟨⟨_, h1⟩, h2⟩, h3⟩, c1⟩, c2⟩, c3⟩, c4⟩ := h
  refine ⟨h1, h2, h3, ?_, ?_, c2, c3, c4⟩
  · rcases c1 with c1 | c1
    · have := c1.1
      unfold immB at this
      simpa using this
    · omega
  · intro hi
    rcases c1 with c1 | c1
    · rw [hi] at c1; exact absurd c1.2 (by decide)
    · exact c1
/-- An instruction's line tells it. -/
theorem ins_told {x : Ii} {c : Cu} {ls : List (List Tk)} (hx : isInsB x = true) (h : StK c ((insK x).map keyQT ++ tailQ ls)) : c.pqP = .inl x ∧ StK c.pqC (tailQ ls) := by
  have hop := (ins_ok hx).1
  obtain ⟨op, dst, a, b, imm, callee, args, many⟩ := x
  unfold isInsB at hx
  dsimp only at *
  unfold insK at h
  dsimp only at h
  by_cases e4 : op = 13
  · subst e4
    rw [if_pos rfl] at hx
    unfold isCallB at hx
    simp only [Bool.and_eq_true, beq_iff_eq, decide_eq_true_eq, List.all_eq_true] at hx
    obtain ⟨⟨⟨⟨⟨⟨⟨⟨c0, c1⟩, c2⟩, c3⟩, c5⟩, rfl⟩, rfl⟩, rfl⟩, rfl⟩ := hx
    have hv : ∀ v ∈ args, 1 ≤ v ∧ v ≤ 200 := fun v hv => var_iff.1 (c5 v hv)
    rw [if_neg (by decide), if_neg (by decide), if_neg (by decide), if_pos rfl] at h
    by_cases hd : dst = 0
    · subst hd
      rw [if_pos rfl] at h
      simp only [List.map_append, List.map_cons, List.map_nil, List.cons_append, List.nil_append] at h
      rw [k_txQ (by decide), k_nmQ] at h
      have hk0 := h.keyB kStQ
      rw [decide_eq_false (show ¬ kCaQ = kStQ by decide)] at hk0
      have hk := h.keyB kCaQ
      rw [decide_eq_true rfl] at hk
      obtain ⟨n1, n2⟩ := (show StK (c.key kCaQ) _ from h.key).num (a := 0) (b := 99) (by omega)
      obtain ⟨q1, q2⟩ := args_told args 9 _ [] (by omega) (by simpa using c3) hv n2
      unfold Cu.pqP Cu.pqC
      rw [hk0, hk]
      unfold Cu.callI Cu.callC Cu.argsL Cu.argsC
      rw [n1]
      refine ⟨?_, q2⟩
      have q1' : (argsGo 9 ((c.key kCaQ).num 0 99) []).2 = args := by simpa using q1
      simp only [Bool.false_eq_true, if_false, if_true]
      rw [q1']
    · rw [if_neg hd] at h
      simp only [List.map_append, List.map_cons, List.map_nil, List.cons_append, List.nil_append] at h
      have hdv : 1 ≤ dst ∧ dst ≤ 200 := by
        rw [show (dst != 0) = true by simpa using hd] at c0
        exact fit_var c0
      obtain ⟨d, _, hd9, p1, p2⟩ := h.pq_value hdv
      rw [k_txQ (by decide), k_nmQ] at hd9
      have hk := hd9.keyB kCaQ
      rw [decide_eq_true rfl] at hk
      obtain ⟨n1, n2⟩ := (show StK (d.key kCaQ) _ from hd9.key).num (a := 0) (b := 99) (by omega)
      obtain ⟨q1, q2⟩ := args_told args 9 _ [] (by omega) (by simpa using c3) hv n2
      rw [p1, p2]
      unfold Cu.valQ Cu.valQC
      rw [hk]
      unfold Cu.callI Cu.callC Cu.argsL Cu.argsC
      rw [n1]
      refine ⟨?_, q2⟩
      have q1' : (argsGo 9 ((d.key kCaQ).num 0 99) []).2 = args := by simpa using q1
      simp only [if_true]
      rw [q1']
  rw [if_neg e4] at hx
  obtain ⟨p1, p2, p3, himm, p4, rfl, rfl, rfl⟩ := op_parts hx
  dsimp only at *
  by_cases e1 : op = 1
  · subst e1
    rw [if_pos rfl] at h
    simp only [List.map_cons, List.map_nil, List.cons_append, List.nil_append] at h
    obtain ⟨d, _, hd, q1, q2⟩ := h.pq_value (fit_var p1)
    rw [k_opQ (by omega), k_nmQ] at hd
    have e := hd.nameT
    obtain ⟨w1, w2⟩ := opQ_word (o := 1) (by omega)
    have hk : d.keyB kCaQ = false := by rw [hd.keyB]; exact decide_eq_false w2
    have ho : opR d.nameT = 1 := by rw [e]; omega
    obtain ⟨n1, n2⟩ := hd.name.num himm
    obtain rfl := fit_none (show fitsB false a = true from p2)
    obtain rfl := fit_none (show fitsB false b = true from p3)
    rw [q1, q2]
    unfold Cu.valQ Cu.valQC
    rw [hk, ho, n1]
    exact ⟨rfl, n2⟩
  rw [if_neg e1] at h
  by_cases e2 : op = 11
  · subst e2
    rw [if_pos rfl] at h
    simp only [List.map_cons, List.map_nil, List.cons_append, List.nil_append] at h
    obtain ⟨d, _, hd, q1, q2⟩ := h.pq_value (fit_var p1)
    rw [k_opQ (by omega)] at hd
    have e := hd.nameT
    obtain ⟨w1, w2⟩ := opQ_word (o := 11) (by omega)
    have hk : d.keyB kCaQ = false := by rw [hd.keyB]; exact decide_eq_false w2
    have ho : opR d.nameT = 11 := by rw [e]; omega
    obtain ⟨g1, g2⟩ := hd.name.var (fit_var p2)
    rw [k_nmQ] at g2
    obtain ⟨n1, n2⟩ := g2.num himm
    obtain rfl := fit_none (show fitsB false b = true from p3)
    rw [q1, q2]
    unfold Cu.valQ Cu.valQC
    rw [hk, ho, n1, g1]
    exact ⟨rfl, n2⟩
  rw [if_neg e2] at h
  by_cases e3 : op = 12
  · subst e3
    rw [if_pos rfl] at h
    simp only [List.map_cons, List.map_nil, List.cons_append, List.nil_append] at h
    rw [k_txQ (by decide)] at h
    have hk := h.keyB kStQ
    rw [decide_eq_true rfl] at hk
    obtain ⟨g1, g2⟩ := (show StK (c.key kStQ) _ from h.key).var (fit_var p2)
    rw [k_nmQ] at g2
    obtain ⟨n1, n2⟩ := g2.num himm
    obtain ⟨u1, u2⟩ := n2.var (fit_var p3)
    obtain rfl := fit_none (show fitsB false dst = true from p1)
    unfold Cu.pqP Cu.pqC
    rw [hk, if_pos rfl, if_pos rfl, g1, n1, u1]
    exact ⟨rfl, u2⟩
  rw [if_neg e3, if_neg e4] at h
  by_cases e5 : op = 14
  · subst e5
    rw [if_pos rfl] at h
    simp only [List.map_cons, List.map_nil, List.cons_append, List.nil_append] at h
    obtain ⟨d, _, hd, q1, q2⟩ := h.pq_value (fit_var p1)
    obtain ⟨_, hk, _⟩ := hd.varNo (fit_var p2)
    obtain ⟨g1, g2⟩ := hd.var (fit_var p2)
    have ho : opR d.nameT = 0 := by
      rw [k_va] at hd
      rw [hd.nameT]
      exact (va_not (fit_var p2)).2.2.2.2
    obtain rfl := fit_none (show fitsB false b = true from p3)
    obtain rfl := p4 rfl
    rw [q1, q2]
    unfold Cu.valQ Cu.valQC
    rw [hk, ho, g1]
    exact ⟨rfl, g2⟩
  rw [if_neg e5] at h
  have ho : 2 ≤ op ∧ op ≤ 10 := by omega
  have har : arithB op = true := by unfold arithB; simp only [Bool.and_eq_true, decide_eq_true_eq]; exact ho
  have dD : opD op = true := by unfold opD; rw [har]; simp
  have dA : opA op = true := by unfold opA; rw [har]; simp
  have dB : opB op = true := by unfold opB; rw [har]; simp
  have dI : opI op = false := by
    unfold opI
    simp only [Bool.or_eq_false_iff, beq_eq_false_iff_ne]
    omega
  rw [dD] at p1
  rw [dA] at p2
  rw [dB] at p3
  obtain rfl := p4 dI
  simp only [List.map_cons, List.map_nil, List.cons_append, List.nil_append] at h
  obtain ⟨d, _, hd, q1, q2⟩ := h.pq_value (fit_var p1)
  rw [k_opQ (by omega)] at hd
  have e := hd.nameT
  obtain ⟨w1, w2⟩ := opQ_word (o := op) (by omega)
  have hk : d.keyB kCaQ = false := by rw [hd.keyB]; exact decide_eq_false w2
  have ho0 : ¬ opR d.nameT = 0 := by rw [e]; omega
  have ho1 : ¬ opR d.nameT = 1 := by rw [e]; omega
  have ho2 : ¬ opR d.nameT = 11 := by rw [e]; omega
  have ho3 : (opR d.nameT : Int) = op := by rw [e]; exact w1
  obtain ⟨g1, g2⟩ := hd.name.var (fit_var p2)
  obtain ⟨u1, u2⟩ := g2.var (fit_var p3)
  rw [q1, q2]
  unfold Cu.valQ Cu.valQC
  rw [hk, if_neg (by decide), if_neg ho0, if_neg ho1, if_neg ho2, if_neg (by decide), if_neg ho0, if_neg ho1, if_neg ho2, g1, u1, ho3]
  exact ⟨rfl, u2⟩
/-- An end's line tells it. -/
theorem term_told {t : Tt} {c : Cu} {ls : List (List Tk)} (ht : isTermB t = true) (hf : (toL t).any farB = false) (h : StK c ((termK t).map keyQT ++ tailQ ls)) : c.pqP = .inr t ∧ StK c.pqC (tailQ ls) := by
  have hfar : ∀ n ∈ toL t, 0 ≤ n ∧ n < 64 := fun n hn => far_not (by simpa using (List.any_eq_false.1 hf) n hn)
  have hN : needsL t = if t.a = 0 then [] else [t.a] := by
    unfold needsL givenL
    rw [if_pos ht]
    by_cases h0 : t.a = 0
    · rw [if_pos h0, h0]; rfl
    · rw [if_neg h0]; simp [h0]
  have hT : toL t = if t.kind = 1 then [t.t0] else if t.kind = 2 then [t.t0, t.t1] else [] := by unfold toL; rw [if_pos ht]
  rw [hT] at hfar
  obtain ⟨kind, a, t0, t1⟩ := t
  unfold isTermB at ht
  dsimp only at *
  unfold termK at h
  dsimp only at h
  by_cases k1 : kind = 1
  · subst k1
    rw [if_pos rfl] at ht h hfar
    simp only [Bool.and_eq_true, beq_iff_eq] at ht
    obtain ⟨rfl, rfl⟩ := ht
    simp only [List.map_cons, List.map_nil, List.cons_append, List.nil_append] at h
    rw [k_arQ, k_nmQ] at h
    have := hfar t0 (by simp)
    obtain ⟨n1, n2⟩ := (show StK (c.is sArQ) _ from h.is).num (a := 0) (b := 63) (by omega)
    unfold Cu.pqP Cu.pqC
    rw [h.keyB', h.keyB', h.keyB', h.keyB', h.isB, decide_eq_true rfl, n1]
    exact ⟨rfl, n2⟩
  rw [if_neg k1] at ht h hfar
  by_cases k2 : kind = 2
  · subst k2
    rw [if_pos rfl] at ht h hfar
    have ha := var_iff.1 ht
    simp only [List.map_cons, List.map_nil, List.cons_append, List.nil_append] at h
    obtain ⟨v1, v2, v3, v4, v5, _⟩ := h.varNo ha
    obtain ⟨r1, r2⟩ := h.var ha
    rw [k_arQ, k_nmQ, k_nmQ] at r2
    have f0 := hfar t0 (by simp)
    have f1 := hfar t1 (by simp)
    obtain ⟨n1, n2⟩ := (show StK (c.vaC.is sArQ) _ from r2.is).num (a := 0) (b := 63) (by omega)
    obtain ⟨m1, m2⟩ := n2.num (a := 0) (b := 63) (by omega)
    unfold Cu.pqP Cu.pqC
    rw [v1, v2, v3, v4, v5, r2.isB, decide_eq_true rfl, r1, n1, m1]
    exact ⟨rfl, m2⟩
  rw [if_neg k2] at ht h
  by_cases k3 : kind = 3
  · subst k3
    rw [if_pos rfl] at ht h
    simp only [Bool.and_eq_true, beq_iff_eq] at ht
    obtain ⟨hfa, rfl, rfl⟩ := ht
    rw [hN] at h
    by_cases h0 : a = 0
    · subst h0
      rw [if_pos rfl] at h
      simp only [List.map_append, List.map_cons, List.map_nil, List.cons_append, List.nil_append] at h
      rw [k_txQ (by decide)] at h
      have hs : StK (c.key kReQ) (tailQ ls) := h.key
      have e := hs.endQ.1
      unfold Cu.pqP Cu.pqC Cu.retN Cu.retC
      rw [h.keyB, h.keyB, h.keyB, e]
      exact ⟨rfl, hs⟩
    · rw [if_neg h0] at h
      rw [show (a != 0) = true by simpa using h0] at hfa
      have ha := fit_var hfa
      simp only [List.map_append, List.map_cons, List.map_nil, List.cons_append, List.nil_append] at h
      rw [k_txQ (by decide)] at h
      have hs : StK (c.key kReQ) _ := h.key
      obtain ⟨_, _, _, _, _, e⟩ := hs.varNo ha
      obtain ⟨r1, r2⟩ := hs.var ha
      unfold Cu.pqP Cu.pqC Cu.retN Cu.retC
      rw [h.keyB, h.keyB, h.keyB, e, r1]
      exact ⟨rfl, r2⟩
  rw [if_neg k3] at ht h
  by_cases k4 : kind = 4
  · subst k4
    rw [if_pos rfl] at ht
    simp only [Bool.and_eq_true, beq_iff_eq] at ht
    obtain ⟨rfl, rfl, rfl⟩ := ht
    simp only [List.map_cons, List.map_nil, List.cons_append, List.nil_append] at h
    rw [k_txQ (by decide)] at h
    have hs : StK (c.key kTrQ) (tailQ ls) := h.key
    unfold Cu.pqP Cu.pqC
    rw [h.keyB, h.keyB, h.keyB, h.keyB]
    exact ⟨rfl, hs⟩
  · rw [if_neg k4] at ht
    cases ht
end Go.Proofs.YthiipgahbmoiiaaGreatDoor
