/-
  The text of a right machine tells that machine (plainly). No condition beyond those that each theorem states.
-/
import Derived.Test.YtkfplffcegbdfaaDoorBackG
import Derived.Test.YtkfplffcegbdfaaDoorMaO
import Derived.Test.YtkfplffcegbdfaaDoorMaPs
namespace Go.Proofs.YtkfplffcegbdfaaDoor

def nmW (t : ByteArray) : Wd := ⟨1, t, 0, 0, 0⟩
def nuW (x : Int) : Wd := ⟨2, numS x, x, 0, 0⟩
def enW : Wd := ⟨4, ⟨#[]⟩, 0, 0, 0⟩
/-- The words of a machine's text, but for the end. -/
def Mm.wordsL (m : Mm) : List Wd := nmW kMachine :: nuW m.regs :: nmW kArgs :: (m.args.map nuW ++ nmW kRet :: nuW m.ret :: nmW kSaved :: m.saved.map nuW)
theorem sh_name (t : ByteArray) (r : List Wd) : shownL true (nmW t :: r) = 32 :: (t.data.toList ++ shownL true r) := by
  rw [shownL, if_neg (by show ¬ (1 : Int) = 4; decide)]
  rfl
theorem sh_num (x : Int) (r : List Wd) : shownL true (nuW x :: r) = 32 :: ((numS x).data.toList ++ shownL true r) := by
  rw [shownL, if_neg (by show ¬ (2 : Int) = 4; decide)]
  rfl
theorem tail_cons (x : List UInt8) (r : List (List UInt8)) : Lib.joinTail [32] (x :: r) = 32 :: (x ++ Lib.joinTail [32] r) := by simp [Lib.joinTail]
theorem sh_nums (l : List Int) (r : List Wd) : shownL true (l.map nuW ++ r) = Lib.joinTail [32] ((l.map numS).map (·.data.toList)) ++ shownL true r := by
  induction l with
  | nil => simp [Lib.joinTail]
  | cons x l ih =>
    rw [List.map_cons, List.map_cons, List.map_cons, List.cons_append, sh_num, ih, tail_cons]
    simp
theorem part_text (name : ByteArray) (l : List Int) : (joinS (partS name l)).data.toList = name.data.toList ++ Lib.joinTail [32] ((l.map numS).map (·.data.toList)) := by
  show (Lib.join ((partS name l).map (·.data.toList)) [32]).toArray.toList = _
  rw [partS, List.map_cons, Lib.join_cons]
theorem text_shown (m : Mm) : m.textS.data.toList = shownL false (m.wordsL ++ [enW]) := by
  have h1 : m.textS.data.toList = (joinS m.partsL).data.toList ++ [10] := by
    unfold Mm.textS
    rw [ByteArray.data_append, Array.toList_append]
  have h2 : (joinS m.partsL).data.toList = Lib.join (m.partsL.map (·.data.toList)) [32] := rfl
  have h3 : shownL true ([enW] : List Wd) = [10] := rfl
  rw [h1, h2]
  unfold Mm.partsL Mm.wordsL
  simp only [List.map_cons, List.map_nil, Lib.join_cons, part_text, tail_cons]
  simp only [List.cons_append, List.append_assoc]
  rw [shownL, if_neg (by decide)]
  simp only [sh_num, sh_name, sh_nums, h3]
  simp [Lib.joinTail, nmW, kMachine]
theorem can_name (t : ByteArray) (h : nameB t = true) : canB (nmW t) = true := by
  show (if (1 : Int) = 1 then decide ((0 : Int) = 0) && nameB t else _) = true
  rw [if_pos rfl, h]
  rfl
theorem can_num (x : Int) (h : 0 ≤ x ∧ x < 100) : canB (nuW x) = true := by
  have e : numS x = ⟨(Lib.itoa x).toArray⟩ := by
    unfold numS Lib.itoa
    rw [if_neg (by omega)]
  show (if (2 : Int) = 1 then _ else if (2 : Int) = 2 then boundB x && decide (numS x = ⟨(Lib.itoa x).toArray⟩) else _) = true
  rw [if_neg (by decide), if_pos rfl, decide_eq_true e, Bool.and_true]
  unfold boundB
  exact decide_eq_true (by omega)
theorem names_ok : nameB kMachine = true ∧ nameB kArgs = true ∧ nameB kRet = true ∧ nameB kSaved = true := by decide
theorem words_can (m : Mm) (h : m.rightB = true) : ∀ x ∈ m.wordsL ++ [enW], canB x = true := by
  obtain ⟨_, _, b3, b4, b5, b6⟩ := right_small h
  obtain ⟨n1, n2, n3, n4⟩ := names_ok
  intro x hx
  simp only [Mm.wordsL, List.mem_append, List.mem_cons, List.mem_map, List.not_mem_nil, or_false, List.cons_append] at hx
  rcases hx with rfl | rfl | rfl | (⟨y, hy, rfl⟩ | rfl | rfl | rfl | ⟨y, hy, rfl⟩) | rfl
  · exact can_name _ n1
  · exact can_num _ b3
  · exact can_name _ n2
  · exact can_num _ (b5 y hy)
  · exact can_name _ n3
  · exact can_num _ b4
  · exact can_name _ n4
  · exact can_num _ (b6 y hy)
  · rfl
theorem read_shown (s : ByteArray) (ws : List Wd) (hs : s.data.toList = shownL false ws) (hc : ∀ x ∈ ws, canB x = true) : readErr s = 0 ∧ (readWords s).map key = ws.map key := by
  obtain ⟨vs, e1, e2⟩ := back_go s ws false s.size 0 [] 1 1 (Nat.zero_le _) (by rw [List.drop_zero, ← hs]) hc (by omega)
  have e := read_eq s
  unfold refRead at e
  rw [e1] at e
  simp only [Prod.mk.injEq, List.nil_append] at e
  exact ⟨e.2.2.2.symm, by rw [← e.1]; exact e2⟩
/-- Words without ends, and one end: it goes. -/
theorem prune_one : ∀ (ws out : List Wd), (∀ x ∈ ws, endK x = false) → ws.foldl stepC (none, out) = (none, out ++ ws) := by
  intro ws
  induction ws with
  | nil => intro out _; simp
  | cons x r ih =>
    intro out h
    have hx := h x (by simp)
    rw [List.foldl_cons]
    have e : stepC (none, out) x = (none, out ++ [x]) := by
      unfold stepC
      rw [hx]
      by_cases ho : out = []
      · simp [ho]
      · simp [ho]
    rw [e, ih _ (fun y hy => h y (by simp [hy]))]
    simp
theorem pruned_end (ws : List Wd) (e : Wd) (h : ∀ x ∈ ws, endK x = false) (he : endK e = true) : pruned (ws ++ [e]) = ws := by
  unfold pruned
  rw [List.foldl_append, prune_one ws [] h]
  simp [stepC, he]
theorem key_end {x y : Wd} (h : key x = key y) : endK x = endK y := by
  have : x.k = y.k := congrArg Prod.fst h
  unfold endK
  rw [this]
theorem words_noend (m : Mm) : ∀ x ∈ m.wordsL, endK x = false := by
  intro x hx
  simp only [Mm.wordsL, List.mem_append, List.mem_cons, List.mem_map] at hx
  rcases hx with rfl | rfl | rfl | ⟨y, _, rfl⟩ | rfl | rfl | rfl | ⟨y, _, rfl⟩ <;> rfl
theorem pruned_keys (vs ws : List Wd) (hw : ∀ x ∈ ws, endK x = false) (h2 : vs.map key = (ws ++ [enW]).map key) : (pruned vs).map key = ws.map key := by
  rw [List.map_append] at h2
  obtain ⟨us, rs, rfl, hu, hr⟩ := List.map_eq_append_iff.1 h2
  obtain ⟨e, rfl, he⟩ : ∃ e, rs = [e] ∧ key e = key enW := by
    cases rs with
    | nil => simp at hr
    | cons e t =>
      simp only [List.map_cons, List.map_nil, List.cons.injEq, List.map_eq_nil_iff] at hr
      exact ⟨e, by rw [hr.2], hr.1⟩
  have hen : endK e = true := (key_end he).trans rfl
  have hus : ∀ x ∈ us, endK x = false := by
    intro x hx
    have hm : key x ∈ ws.map key := by rw [← hu]; exact List.mem_map_of_mem hx
    obtain ⟨y, hy, hk⟩ := List.mem_map.1 hm
    rw [← key_end hk]
    exact hw y hy
  rw [pruned_end us e hus hen]
  exact hu
theorem start_text (m : Mm) (h : m.rightB = true) : (startC m.textS).fault = 0 ∧ (startC m.textS).left.map key = m.wordsL.map key := by
  obtain ⟨h1, h2⟩ := read_shown m.textS _ (text_shown m) (words_can m h)
  unfold startC
  generalize readWords m.textS = vs at *
  generalize readErr m.textS = ee at *
  exact ⟨h1, pruned_keys vs m.wordsL (words_noend m) h2⟩

theorem step_keyed {c : Cu} {s : ByteArray} {ks : List (Int × ByteArray × Int)} (h : c.left.map key = (1, s, 0) :: ks) (hf : c.fault = 0) : (c.keyed s).left.map key = ks ∧ (c.keyed s).fault = 0 := by
  obtain ⟨x, r, hl, hx, hr⟩ := List.map_eq_cons_iff.1 h
  have hk : x.k = 1 := congrArg Prod.fst hx
  have ht : x.t = s := congrArg (fun p => p.2.1) hx
  have e : c.keyB s = true := by
    unfold Cu.keyB nameP
    rw [hl]
    simp [hk, ht]
  have e2 : c.keyed s = c.pass := by
    unfold Cu.keyed
    rw [if_pos e]
    unfold Cu.key Cu.over
    rw [if_pos e]
  rw [e2]
  unfold Cu.pass
  rw [hl]
  exact ⟨hr, hf⟩
theorem step_num {c : Cu} {t : ByteArray} {x : Int} {ks : List (Int × ByteArray × Int)} (h : c.left.map key = (2, t, x) :: ks) (hf : c.fault = 0) (hx0 : 0 ≤ x ∧ x ≤ 64) : (c.num 0 64).left.map key = ks ∧ (c.num 0 64).fault = 0 ∧ c.numN 0 64 = x ∧ c.goes = true := by
  obtain ⟨y, r, hl, hx, hr⟩ := List.map_eq_cons_iff.1 h
  have hk : y.k = 2 := congrArg Prod.fst hx
  have hn : y.n = x := congrArg (fun p => p.2.2) hx
  have e1 : numP c.left.head? = (x, true) := by
    unfold numP
    rw [hl]
    simp [hk, hn]
  have e2 : c.numFits 0 64 = true := by
    unfold Cu.numFits
    rw [e1]
    exact decide_eq_true hx0
  have e3 : c.num 0 64 = c.pass := by
    unfold Cu.num
    rw [e1, e2]
    rfl
  refine ⟨?_, ?_, ?_, ?_⟩
  · rw [e3]
    unfold Cu.pass
    rw [hl]
    exact hr
  · rw [e3]; exact hf
  · unfold Cu.numN
    rw [e1, e2]
    rfl
  · unfold Cu.goes Cu.ends Cu.more Cu.nameT nameP endP endK
    rw [hl]
    simp [hk]
theorem step_nums : ∀ (l : List Int) (c : Cu) (out : List Int) (ks : List (Int × ByteArray × Int)), c.Ok → c.left.map key = l.map (fun x => key (nuW x)) ++ ks → c.fault = 0 → (∀ x ∈ l, 0 ≤ x ∧ x ≤ 64) → (∀ d : Cu, d.left.map key = ks → d.goes = false) → (c.nums out).1.left.map key = ks ∧ (c.nums out).1.fault = 0 ∧ (c.nums out).2 = out ++ l := by
  intro l
  induction l with
  | nil =>
    intro c out ks _ h hf _ hs
    rw [nums_stop (hs c h)]
    exact ⟨h, hf, by simp⟩
  | cons x l ih =>
    intro c out ks hok h hf hl hs
    obtain ⟨h1, h2, h3, h4⟩ := step_num (t := numS x) (x := x) h hf (hl x (by simp))
    rw [nums_step hok h4, h3]
    obtain ⟨a, b, d⟩ := ih (c.num 0 64) (out ++ [x]) ks (hok.num 0 64) h1 h2 (fun y hy => hl y (by simp [hy])) hs
    exact ⟨a, b, by rw [d]; simp⟩
theorem stop_name {s : ByteArray} {ks : List (Int × ByteArray × Int)} (hs : s ≠ ⟨#[]⟩) (d : Cu) (h : d.left.map key = (1, s, 0) :: ks) : d.goes = false := by
  obtain ⟨x, r, hl, hx, _⟩ := List.map_eq_cons_iff.1 h
  have hk : x.k = 1 := congrArg Prod.fst hx
  have ht : x.t = s := congrArg (fun p => p.2.1) hx
  unfold Cu.goes Cu.nameT nameP
  rw [hl]
  simp [hk, ht, hs]
theorem stop_nil (d : Cu) (h : d.left.map key = []) : d.goes = false := by
  have : d.left = [] := List.map_eq_nil_iff.1 h
  unfold Cu.goes Cu.ends Cu.more
  rw [this]
  simp
/-- What is printed of a right machine tells it. -/
theorem text_told (m : Mm) (h : m.rightB = true) : toldE (startC m.textS) = 0 ∧ toldM (startC m.textS) = m := by
  obtain ⟨f0, l0⟩ := start_text m h
  have ok := start_ok m.textS
  have hi := (right_iff m).1 h
  have sm := hi.small
  have reg : ∀ x, m.regB x = true → 0 ≤ x ∧ x ≤ 64 := fun x hx => by
    have := reg_small sm hx
    omega
  have ha : ∀ x ∈ m.args, 0 ≤ x ∧ x ≤ 64 := fun x hx => reg x (List.all_eq_true.1 hi.args x hx)
  have hv : ∀ x ∈ m.saved, 0 ≤ x ∧ x ≤ 64 := fun x hx => reg x (List.all_eq_true.1 hi.saved x hx)
  have hr0 : 0 ≤ m.regs ∧ m.regs ≤ 64 := by
    simp only [Mm.smallB, Bool.and_eq_true, decide_eq_true_eq] at sm
    omega
  generalize startC m.textS = c at *
  unfold Mm.wordsL at l0
  simp only [List.map_cons, List.map_append, List.map_map] at l0
  obtain ⟨l1, f1⟩ := step_keyed (s := keyMa) (c := c) l0 f0
  obtain ⟨l2, f2, n2, _⟩ := step_num (c := mc1 c) l1 f1 hr0
  obtain ⟨l3, f3⟩ := step_keyed (s := keyAr) (c := mc2 c) l2 f2
  obtain ⟨l4, f4, n4⟩ := step_nums m.args (mc3 c) [] _ (mc3_ok ok) l3 f3 ha (stop_name (s := keyRe) (by decide))
  obtain ⟨l5, f5⟩ := step_keyed (s := keyRe) (c := mc4 c) l4 f4
  obtain ⟨l6, f6, n6, _⟩ := step_num (c := mc5 c) l5 f5 (reg _ hi.ret)
  obtain ⟨l7, f7⟩ := step_keyed (s := keySa) (c := mc6 c) l6 f6
  obtain ⟨l8, f8, n8⟩ := step_nums m.saved (mc7 c) [] [] (mc7_ok ok) (by rw [List.append_nil]; exact l7) f7 hv stop_nil
  have hg : gotM c = m := by
    unfold gotM
    rw [n2, n4, n6, n8]
    rfl
  have h8 : (mc8 c).left = [] := List.map_eq_nil_iff.1 l8
  have h9 : (mc9 c).eErr = 0 := by
    have e : mc9 c = mc8 c := by
      unfold mc9 Cu.end_ Cu.more endP
      rw [h8]
      simp
    rw [e]
    unfold Cu.eErr
    rw [h8]
    have : (mc8 c).fault = 0 := f8
    simp [this]
  obtain ⟨a, b⟩ := toldE_right h9 (by rw [hg]; exact h)
  exact ⟨a, b.trans hg⟩
end Go.Proofs.YtkfplffcegbdfaaDoor
