/-
  What is printed of a function tells it, plainly. No condition beyond those that each theorem states.
  A function's text is short enough, its words can be told: it is read again, the same (plainly). No condition beyond those that each theorem states.
  A function's text is no longer than a text may be; it is read again, the same (plainly). No condition beyond those that each theorem states.
-/
import Derived.Test.YthiipgahbmoiiaaGreatDoorPk42
namespace Go.Proofs.YthiipgahbmoiiaaGreatDoor

theorem params_nodup : ∀ (l seen : List Int), paramsB seen l = true → l.Nodup ∧ ∀ v ∈ l, v ∉ seen := by
  intro l
  induction l with
  | nil => intro seen _; exact ⟨List.nodup_nil, fun v hv => by simp at hv⟩
  | cons v l ih =>
    intro seen h
    simp only [paramsB, Bool.and_eq_true, Bool.not_eq_true'] at h
    obtain ⟨⟨_, h2⟩, h3⟩ := h
    obtain ⟨i1, i2⟩ := ih (v :: seen) h3
    refine ⟨List.nodup_cons.2 ⟨fun hm => i2 v hm (by simp), i1⟩, fun u hu => ?_⟩
    rcases List.mem_cons.1 hu with rfl | hu
    · intro hm
      have : seen.contains u = true := by simpa using hm
      rw [this] at h2
      cases h2
    · intro hm
      exact i2 u hu (by simp [hm])
/-- A block that can be written. -/
structure CanBq (b : Bb) : Prop where
  few : b.ins.length ≤ 64
  ins : ∀ i ∈ b.ins, isInsB i = true
  tm : isTermB b.tm = true
  far : (toL b.tm).any farB = false
theorem canF_parts {f : Ff} (h : canF f = true) : (∀ b ∈ f.blocks, CanBq b) ∧ (0 < f.blocks.length ∧ f.blocks.length ≤ 64) ∧ f.params.length ≤ 8 ∧ (∀ v ∈ f.params, 1 ≤ v ∧ v ≤ 200) ∧ f.params.Nodup := by
  obtain ⟨hs, h1, h2, h3, h4⟩ := can_ok h
  unfold canF at h
  simp only [Bool.and_eq_true, Bool.not_eq_true'] at h
  obtain ⟨_, hf⟩ := h
  obtain ⟨hl, hd⟩ := shape_zero hs
  unfold isLongB at hl
  simp only [Bool.or_eq_false_iff, beq_eq_false_iff_ne] at hl
  have hd2 := hd
  unfold shapedB at hd2
  simp only [Bool.and_eq_true] at hd2
  refine ⟨fun b hb => ?_, ⟨by omega, h2⟩, h3, h4, (params_nodup _ _ hd2.1).1⟩
  obtain ⟨p1, p2⟩ := shaped_blocks hd hb
  exact ⟨(h1 b hb).few, p1, p2, by simpa [farsB] using (List.any_eq_false.1 hf) b hb⟩
theorem insK_ne (x : Ii) : insK x ≠ [] := by
  unfold insK
  repeat' split
  all_goals simp
theorem termK_ne (t : Tt) : termK t ≠ [] := by
  unfold termK
  repeat' split
  all_goals simp
theorem more_of {c : Cu} {l : List Tk} {ks : List Kk} (h : StK c (l.map keyQT ++ ks)) (hl : l ≠ []) : c.more = true := by
  unfold Cu.more
  cases hq : c.left with
  | nil =>
    have := h.left
    rw [hq] at this
    cases l with
    | nil => exact absurd rfl hl
    | cons y r => simp at this
  | cons x r => rfl
theorem bq_told {b : Bb} (hb : CanBq b) {R : List (List Tk)} : ∀ (l : List Ii) (c : Cu) (acc : List Ii), Fit c → acc.length + l.length ≤ 64 → (∀ x ∈ l, isInsB x = true) → StK c (linesQ (l.map insK ++ termK b.tm :: R)) →
    (c.bq acc).2 = ⟨acc ++ l, b.tm⟩ ∧ StK (c.bq acc).1 (linesQ R) ∧ Fit (c.bq acc).1 := by
  intro l
  induction l with
  | nil =>
    intro c acc hF _ _ h
    have h1 : StK c ((termK b.tm).map keyQT ++ tailQ R) := h
    obtain ⟨p1, p2⟩ := term_told hb.tm hb.far h1
    rw [bq_end (more_of h1 (termK_ne _)) p1]
    exact ⟨by simp, p2.endQ.2, hF.pqC.end_⟩
  | cons x r ih =>
    intro c acc hF hlen hx h
    rw [List.length_cons] at hlen
    have h1 : StK c ((insK x).map keyQT ++ tailQ (r.map insK ++ termK b.tm :: R)) := h
    obtain ⟨p1, p2⟩ := ins_told (hx x (by simp)) h1
    have hlc : c.loQ acc.length = c.pqC := by unfold Cu.loQ; rw [if_neg (by omega)]
    rw [bq_ins hF (more_of h1 (insK_ne _)) p1, hlc]
    obtain ⟨q1, q2, q3⟩ := ih c.pqC.end_ (acc ++ [x]) hF.pqC.end_ (by simp; omega) (fun y hy => hx y (by simp [hy])) p2.endQ.2
    exact ⟨by rw [q1]; simp, q2, q3⟩
theorem lines_moreQ {c : Cu} {l : List Tk} {ls : List (List Tk)} (h : StK c (linesQ (l :: ls))) (hl : l ≠ []) : c.more = true := more_of (ks := tailQ ls) h hl
theorem fq_told : ∀ (bs : List Bb) (f n : Nat) (c : Cu) (acc : List Bb), Fit c → bs.length ≤ f → n + bs.length ≤ 64 → (n = 0 → bs ≠ []) → (∀ b ∈ bs, CanBq b) → StK c (linesQ (blsK n bs)) →
    (fqGo f n c acc).2 = acc ++ bs ∧ StK (fqGo f n c acc).1 [] := by
  intro bs
  induction bs with
  | nil =>
    intro f n c acc hF _ _ hn _ h
    have h0 : ¬ n = 0 := fun e => hn e rfl
    have hm := (StK.noMore h).1
    rw [fq_stop (by rw [hm]; rintro (e | e); exact h0 e; cases e)]
    exact ⟨by simp, h⟩
  | cons b r ih =>
    intro f n c acc hF hf hn _ hb h
    rw [List.length_cons] at hf hn
    obtain ⟨f, rfl⟩ : ∃ k, f = k + 1 := ⟨f - 1, by omega⟩
    have hB := hb b (by simp)
    have h1 : StK c (linesQ (openK n :: (b.ins.map insK ++ termK b.tm :: blsK (n + 1) r))) := by
      have e : blsK n (b :: r) = openK n :: (b.ins.map insK ++ termK b.tm :: blsK (n + 1) r) := by simp [blsK, blK]
      rw [← e]
      exact h
    have hm := lines_moreQ h1 (by simp [openK])
    rw [fq_step (.inr hm)]
    have h2 : StK c (keyQT (.tx kBlockQ) :: keyQT (.nm (n : Int)) :: tailQ (b.ins.map insK ++ termK b.tm :: blsK (n + 1) r)) := h1
    rw [k_txQ (by decide), k_nmQ] at h2
    obtain ⟨_, n2⟩ := h2.keyed.num (a := (n : Int)) (b := (n : Int)) ⟨Int.le_refl _, Int.le_refl _⟩
    have hF2 : Fit (c.headQ n) := ((hF.keyedP _).num _ _).end_
    obtain ⟨q1, q2, q3⟩ := bq_told hB b.ins (c.headQ n) [] hF2 (by simpa using hB.few) hB.ins n2.endQ.2
    obtain ⟨g1, g2⟩ := ih f (n + 1) _ (acc ++ [((c.headQ n).bq []).2]) q3 (by omega) (by omega) (fun e => by omega) (fun y hy => hb y (by simp [hy])) q2
    refine ⟨?_, g2⟩
    rw [g1, q1]
    simp
theorem fit_pars : ∀ (f : Nat) (c : Cu) (l : List Int), Fit c → Fit (parsGo f c l).1 := by
  intro f
  induction f with
  | zero => intro c l h; exact h
  | succ f ih =>
    intro c l h
    rw [parsGo]
    split
    · exact ih _ _ ((h.anoC _).pdC _).vaC
    · exact h.anoC _
/-- What is printed of a function tells it. -/
theorem fn_told {f : Ff} {c : Cu} (h : canF f = true) (hF : Fit c) (hs : StK c (linesQ (fnK f))) : c.fqC.eErr = 0 ∧ c.fqF = f := by
  obtain ⟨h1, h2, h3, h4, h5⟩ := canF_parts h
  have h6 : StK c (keyQT (.tx kFunQ) :: (vasK f.params ++ tailQ (blsK 0 f.blocks))) := hs
  rw [k_txQ (by decide)] at h6
  have hk : StK (c.keyedP kFunQ) (vasK f.params ++ tailQ (blsK 0 f.blocks)) := h6.keyed
  obtain ⟨p1, p2⟩ := pars_told f.params 9 (c.keyedP kFunQ) [] (by omega) (by simpa using h3) h4 (by simpa using h5) hk
  have hh : StK c.fqHead (linesQ (blsK 0 f.blocks)) := by
    have := p2.endQ.2
    exact this
  have hFh : Fit c.fqHead := by
    unfold Cu.fqHead
    exact (fit_pars 9 _ [] (hF.keyedP _)).end_
  obtain ⟨g1, g2⟩ := fq_told f.blocks 64 0 c.fqHead [] hFh h2.2 (by omega) (fun _ e => by rw [e] at h2; simp at h2) h1 hh
  refine ⟨(StK.noMore g2).2, ?_⟩
  unfold Cu.fqF
  have e1 : (c.keyedP kFunQ).parsL = f.params := by unfold Cu.parsL; rw [p1]; rfl
  rw [g1, e1]
  cases f
  rfl
end Go.Proofs.YthiipgahbmoiiaaGreatDoor
namespace Go.Proofs.YthiipgahbmoiiaaGreatDoor

theorem ins_fineQ {x : Ii} (h : isInsB x = true) : ∀ y ∈ insK x, y.fine := by
  have hop := (ins_ok h).1
  have kl : larrQ ∈ txLQ := txQ_in (by decide +kernel)
  have ks : kStQ ∈ txLQ := txQ_in (by decide +kernel)
  have kc : kCaQ ∈ txLQ := txQ_in (by decide +kernel)
  have kn : ∀ o : Int, 1 ≤ o ∧ o < 12 → opNmR o ∈ txLQ := fun o ho => opQ_in ho
  intro y hy
  unfold isInsB at h
  unfold insK at hy
  by_cases e4 : x.op = 13
  · rw [if_pos e4] at h
    unfold isCallB at h
    simp only [Bool.and_eq_true, beq_iff_eq, decide_eq_true_eq, List.all_eq_true] at h
    obtain ⟨⟨⟨⟨⟨⟨⟨⟨c0, c1⟩, c2⟩, c3⟩, c5⟩, _⟩, _⟩, _⟩, _⟩ := h
    have hv : ∀ y ∈ x.args.map Tk.va, y.fine := fun y hy => by
      obtain ⟨v, hv, rfl⟩ := List.mem_map.1 hy
      exact var_iff.1 (c5 v hv)
    rw [if_neg (by omega), if_neg (by omega), if_neg (by omega), if_pos e4] at hy
    by_cases hd : x.dst = 0
    · rw [if_pos hd] at hy
      simp only [List.mem_append, List.mem_cons, List.not_mem_nil, or_false] at hy
      rcases hy with (rfl | rfl) | hy
      · exact kc
      · show -1099511627776 ≤ x.callee ∧ _; omega
      · exact hv y hy
    · rw [if_neg hd] at hy
      rw [show (x.dst != 0) = true by simpa using hd] at c0
      simp only [List.mem_append, List.mem_cons, List.not_mem_nil, or_false] at hy
      rcases hy with (rfl | rfl | rfl | rfl) | hy
      · exact fit_var c0
      · exact kl
      · exact kc
      · show -1099511627776 ≤ x.callee ∧ _; omega
      · exact hv y hy
  rw [if_neg e4] at h
  obtain ⟨p1, p2, p3, himm, p4, _, _, _⟩ := op_parts h
  by_cases e1 : x.op = 1
  · rw [if_pos e1] at hy
    rw [e1] at p1
    simp only [List.mem_cons, List.not_mem_nil, or_false] at hy
    rcases hy with rfl | rfl | rfl | rfl
    · exact fit_var p1
    · exact kl
    · exact kn _ (by omega)
    · exact himm
  rw [if_neg e1] at hy
  by_cases e2 : x.op = 11
  · rw [if_pos e2] at hy
    rw [e2] at p1 p2
    simp only [List.mem_cons, List.not_mem_nil, or_false] at hy
    rcases hy with rfl | rfl | rfl | rfl | rfl
    · exact fit_var p1
    · exact kl
    · exact kn _ (by omega)
    · exact fit_var p2
    · exact himm
  rw [if_neg e2] at hy
  by_cases e3 : x.op = 12
  · rw [if_pos e3] at hy
    rw [e3] at p2 p3
    simp only [List.mem_cons, List.not_mem_nil, or_false] at hy
    rcases hy with rfl | rfl | rfl | rfl
    · exact ks
    · exact fit_var p2
    · exact himm
    · exact fit_var p3
  rw [if_neg e3, if_neg e4] at hy
  by_cases e5 : x.op = 14
  · rw [if_pos e5] at hy
    rw [e5] at p1 p2
    simp only [List.mem_cons, List.not_mem_nil, or_false] at hy
    rcases hy with rfl | rfl | rfl
    · exact fit_var p1
    · exact kl
    · exact fit_var p2
  rw [if_neg e5] at hy
  have ho : 2 ≤ x.op ∧ x.op ≤ 10 := by omega
  have har : arithB x.op = true := by unfold arithB; simp only [Bool.and_eq_true, decide_eq_true_eq]; exact ho
  have dD : opD x.op = true := by unfold opD; rw [har]; simp
  have dA : opA x.op = true := by unfold opA; rw [har]; simp
  have dB : opB x.op = true := by unfold opB; rw [har]; simp
  rw [dD] at p1
  rw [dA] at p2
  rw [dB] at p3
  simp only [List.mem_cons, List.not_mem_nil, or_false] at hy
  rcases hy with rfl | rfl | rfl | rfl | rfl
  · exact fit_var p1
  · exact kl
  · exact kn _ (by omega)
  · exact fit_var p2
  · exact fit_var p3
theorem tm_fineQ {t : Tt} (ht : isTermB t = true) (hf : (toL t).any farB = false) : ∀ y ∈ termK t, y.fine := by
  have ka : rarrQ ∈ txLQ := txQ_in (by decide +kernel)
  have kr : kReQ ∈ txLQ := txQ_in (by decide +kernel)
  have kt : kTrQ ∈ txLQ := txQ_in (by decide +kernel)
  have hfar : ∀ n ∈ toL t, 0 ≤ n ∧ n < 64 := fun n hn => far_not (by simpa using (List.any_eq_false.1 hf) n hn)
  have hT : toL t = if t.kind = 1 then [t.t0] else if t.kind = 2 then [t.t0, t.t1] else [] := by unfold toL; rw [if_pos ht]
  rw [hT] at hfar
  have hn : ∀ v ∈ needsL t, 1 ≤ v ∧ v ≤ 200 := fun v hv => by
    have h1 := (mem_needs ht).1 hv
    have := term_part ht
    omega
  intro y hy
  unfold termK at hy
  by_cases k1 : t.kind = 1
  · rw [if_pos k1] at hy hfar
    simp only [List.mem_cons, List.not_mem_nil, or_false] at hy
    rcases hy with rfl | rfl
    · exact ka
    · have := hfar t.t0 (by simp)
      show -1099511627776 ≤ t.t0 ∧ _; omega
  rw [if_neg k1] at hy hfar
  by_cases k2 : t.kind = 2
  · rw [if_pos k2] at hy hfar
    have ha : varB t.a = true := by
      unfold isTermB at ht
      rw [if_neg k1, if_pos k2] at ht
      exact ht
    have f0 := hfar t.t0 (by simp)
    have f1 := hfar t.t1 (by simp)
    simp only [List.mem_cons, List.not_mem_nil, or_false] at hy
    rcases hy with rfl | rfl | rfl | rfl
    · exact var_iff.1 ha
    · exact ka
    · show -1099511627776 ≤ t.t0 ∧ _; omega
    · show -1099511627776 ≤ t.t1 ∧ _; omega
  rw [if_neg k2] at hy
  by_cases k3 : t.kind = 3
  · rw [if_pos k3] at hy
    simp only [List.mem_append, List.mem_cons, List.not_mem_nil, or_false, List.mem_map] at hy
    rcases hy with rfl | ⟨v, hv, rfl⟩
    · exact kr
    · exact hn v hv
  · rw [if_neg k3] at hy
    simp only [List.mem_cons, List.not_mem_nil, or_false] at hy
    subst hy
    exact kt
theorem bls_fineQ : ∀ (bs : List Bb) (k : Nat), k + bs.length ≤ 64 → (∀ b ∈ bs, CanBq b) → ∀ l ∈ blsK k bs, l ≠ [] ∧ ∀ y ∈ l, y.fine := by
  intro bs
  induction bs with
  | nil => intro k _ _ l hl; simp [blsK] at hl
  | cons b r ih =>
    intro k hk hb l hl
    rw [List.length_cons] at hk
    have hB := hb b (by simp)
    simp only [blsK, blK, List.mem_append, List.mem_cons, List.mem_map, List.not_mem_nil, or_false, List.cons_append] at hl
    rcases hl with rfl | (⟨x, hx, rfl⟩ | rfl) | hl
    · refine ⟨by simp [openK], fun y hy => ?_⟩
      simp only [openK, List.mem_cons, List.not_mem_nil, or_false] at hy
      rcases hy with rfl | rfl
      · exact (txQ_in (by decide +kernel) : kBlockQ ∈ txLQ)
      · show -1099511627776 ≤ (k : Int) ∧ _; omega
    · exact ⟨insK_ne x, ins_fineQ (hB.ins x hx)⟩
    · exact ⟨termK_ne _, tm_fineQ hB.tm hB.far⟩
    · exact ih (k + 1) (by omega) (fun c hc => hb c (by simp [hc])) l hl
theorem fn_fine {f : Ff} (h : canF f = true) : ∀ l ∈ fnK f, l ≠ [] ∧ ∀ y ∈ l, y.fine := by
  obtain ⟨h1, h2, h3, h4, h5⟩ := canF_parts h
  intro l hl
  rcases List.mem_cons.1 hl with rfl | hl
  · refine ⟨by simp [headK], fun y hy => ?_⟩
    simp only [headK, List.mem_cons, List.mem_map] at hy
    rcases hy with rfl | ⟨v, hv, rfl⟩
    · exact (txQ_in (by decide +kernel) : kFunQ ∈ txLQ)
    · exact h4 v hv
  · exact bls_fineQ f.blocks 0 (by omega) h1 l hl
/-- How long lines are. -/
def Tk.w (x : Tk) : Nat := x.b.size + 1
theorem tail_size (u : List Tk) : (Lib.joinTail [32] (u.map fun x => x.b.data.toList)).length = (u.map Tk.w).sum := by
  induction u with
  | nil => simp [Lib.joinTail]
  | cons x u ih =>
    rw [List.map_cons, join_tail_cons, List.length_cons, List.length_append, ih, List.map_cons, List.sum_cons]
    unfold Tk.w
    rw [Array.length_toList]
    show x.b.size + _ + 1 = _
    omega
theorem row_size (l : List Tk) (h : l ≠ []) : (rowK l).length = (l.map Tk.w).sum := by
  have h1 : rowK l = Lib.join (l.map fun x => x.b.data.toList) [32] ++ [10] := by
    unfold rowK rdL rowT joinB
    rw [ByteArray.data_append, Array.toList_append, List.map_map]
    rfl
  cases l with
  | nil => exact absurd rfl h
  | cons x u =>
    rw [h1, List.map_cons, Lib.join_cons, List.length_append, List.length_append, tail_size, List.map_cons, List.sum_cons]
    unfold Tk.w
    rw [Array.length_toList]
    show x.b.size + _ + 1 = _
    omega
theorem va_w : ((List.range 201).all fun (n : Nat) => decide ((vaT (n : Int)).size ≤ 4)) = true := by decide +kernel
theorem it_w : ((List.range 100).all fun (n : Nat) => decide ((itS (n : Int)).size ≤ 2)) = true := by decide +kernel
theorem va_size {n : Int} (h : 1 ≤ n ∧ n ≤ 200) : (Tk.va n).w ≤ 5 := by
  obtain ⟨m, rfl, hm⟩ := nat_ofQ (n := n) (k := 201) ⟨by omega, by omega⟩
  have := List.all_eq_true.1 va_w m (List.mem_range.2 hm)
  rw [decide_eq_true_eq] at this
  show (vaT (m : Int)).size + 1 ≤ 5
  omega
theorem it_size {n : Int} (h : 0 ≤ n ∧ n ≤ 99) : (Tk.nm n).w ≤ 3 := by
  obtain ⟨m, rfl, hm⟩ := nat_ofQ (n := n) (k := 100) ⟨by omega, by omega⟩
  have := List.all_eq_true.1 it_w m (List.mem_range.2 hm)
  rw [decide_eq_true_eq] at this
  show (itS (m : Int)).size + 1 ≤ 3
  omega
theorem vas_size {l : List Int} (h : ∀ v ∈ l, 1 ≤ v ∧ v ≤ 200) : ((l.map Tk.va).map Tk.w).sum ≤ 5 * l.length := by
  induction l with
  | nil => simp
  | cons v l ih =>
    have h1 := va_size (h v (by simp))
    have h2 := ih (fun u hu => h u (by simp [hu]))
    simp only [List.map_cons, List.sum_cons, List.length_cons]
    omega
end Go.Proofs.YthiipgahbmoiiaaGreatDoor
namespace Go.Proofs.YthiipgahbmoiiaaGreatDoor

theorem nm_size {n : Int} (h : R64q n) : (Tk.nm n).w ≤ 22 := by
  have := itS_len n h.1 h.2
  show (itS n).size + 1 ≤ 22
  omega
theorem op_size (o : Int) : (Tk.tx (opNmR o)).w ≤ 6 := by
  have := opNmR_len o
  show (opNmR o).size + 1 ≤ 6
  omega
theorem insK_size {x : Ii} (h : isInsB x = true) : ((insK x).map Tk.w).sum ≤ 60 := by
  have hR := (ins_ok h).2
  have hop := (ins_ok h).1
  have hi := nm_size hR.imm
  have ho := op_size x.op
  have zl : (Tk.tx larrQ).w = 4 := by decide
  have zs : (Tk.tx kStQ).w = 6 := by decide
  have zc : (Tk.tx kCaQ).w = 5 := by decide
  unfold isInsB at h
  unfold insK
  by_cases e4 : x.op = 13
  · rw [if_pos e4] at h
    unfold isCallB at h
    simp only [Bool.and_eq_true, beq_iff_eq, decide_eq_true_eq, List.all_eq_true] at h
    obtain ⟨⟨⟨⟨⟨⟨⟨⟨c0, c1⟩, c2⟩, c3⟩, c5⟩, _⟩, _⟩, _⟩, _⟩ := h
    have hv := vas_size (l := x.args) (fun v hv => var_iff.1 (c5 v hv))
    have hc := it_size (n := x.callee) ⟨c1, c2⟩
    rw [if_neg (by omega), if_neg (by omega), if_neg (by omega), if_pos e4]
    by_cases hd : x.dst = 0
    · rw [if_pos hd]
      simp only [List.map_append, List.map_cons, List.map_nil, List.sum_append, List.sum_cons, List.sum_nil]
      omega
    · rw [if_neg hd]
      rw [show (x.dst != 0) = true by simpa using hd] at c0
      have h1 := va_size (fit_var c0)
      simp only [List.map_append, List.map_cons, List.map_nil, List.sum_append, List.sum_cons, List.sum_nil]
      omega
  rw [if_neg e4] at h
  obtain ⟨p1, p2, p3, himm, p4, _, _, _⟩ := op_parts h
  by_cases e1 : x.op = 1
  · rw [if_pos e1]
    rw [show opD x.op = true by rw [e1]; decide] at p1
    have h1 := va_size (fit_var p1)
    simp only [List.map_cons, List.map_nil, List.sum_cons, List.sum_nil]
    omega
  rw [if_neg e1]
  by_cases e2 : x.op = 11
  · rw [if_pos e2]
    rw [show opD x.op = true by rw [e2]; decide] at p1
    rw [show opA x.op = true by rw [e2]; decide] at p2
    have h1 := va_size (fit_var p1)
    have h2 := va_size (fit_var p2)
    simp only [List.map_cons, List.map_nil, List.sum_cons, List.sum_nil]
    omega
  rw [if_neg e2]
  by_cases e3 : x.op = 12
  · rw [if_pos e3]
    rw [show opA x.op = true by rw [e3]; decide] at p2
    rw [show opB x.op = true by rw [e3]; decide] at p3
    have h1 := va_size (fit_var p2)
    have h2 := va_size (fit_var p3)
    simp only [List.map_cons, List.map_nil, List.sum_cons, List.sum_nil]
    omega
  rw [if_neg e3, if_neg e4]
  by_cases e5 : x.op = 14
  · rw [if_pos e5]
    rw [show opD x.op = true by rw [e5]; decide] at p1
    rw [show opA x.op = true by rw [e5]; decide] at p2
    have h1 := va_size (fit_var p1)
    have h2 := va_size (fit_var p2)
    simp only [List.map_cons, List.map_nil, List.sum_cons, List.sum_nil]
    omega
  rw [if_neg e5]
  have har : arithB x.op = true := by unfold arithB; simp only [Bool.and_eq_true, decide_eq_true_eq]; omega
  have dD : opD x.op = true := by unfold opD; rw [har]; simp
  have dA : opA x.op = true := by unfold opA; rw [har]; simp
  have dB : opB x.op = true := by unfold opB; rw [har]; simp
  rw [dD] at p1
  rw [dA] at p2
  rw [dB] at p3
  have h1 := va_size (fit_var p1)
  have h2 := va_size (fit_var p2)
  have h3 := va_size (fit_var p3)
  simp only [List.map_cons, List.map_nil, List.sum_cons, List.sum_nil]
  omega
theorem termK_size {t : Tt} (ht : isTermB t = true) (hf : (toL t).any farB = false) : ((termK t).map Tk.w).sum ≤ 60 := by
  have hR := tm_ok ht hf
  have h0 := nm_size hR.t0
  have h1 := nm_size hR.t1
  have zr : (Tk.tx rarrQ).w = 4 := by decide
  have ze : (Tk.tx kReQ).w = 7 := by decide
  have zt : (Tk.tx kTrQ).w = 5 := by decide
  have hn : ∀ v ∈ needsL t, 1 ≤ v ∧ v ≤ 200 := fun v hv => by
    have h1 := (mem_needs ht).1 hv
    have := term_part ht
    omega
  have hs := vas_size hn
  have hl := (needs_few t).1
  unfold termK
  by_cases k1 : t.kind = 1
  · rw [if_pos k1]
    simp only [List.map_cons, List.map_nil, List.sum_cons, List.sum_nil]
    omega
  rw [if_neg k1]
  by_cases k2 : t.kind = 2
  · rw [if_pos k2]
    have ha : varB t.a = true := by
      unfold isTermB at ht
      rw [if_neg k1, if_pos k2] at ht
      exact ht
    have h2 := va_size (var_iff.1 ha)
    simp only [List.map_cons, List.map_nil, List.sum_cons, List.sum_nil]
    omega
  rw [if_neg k2]
  by_cases k3 : t.kind = 3
  · rw [if_pos k3]
    simp only [List.map_append, List.map_cons, List.map_nil, List.sum_append, List.sum_cons, List.sum_nil]
    omega
  · rw [if_neg k3]
    simp only [List.map_cons, List.map_nil, List.sum_cons, List.sum_nil]
    omega
theorem rows_size {l : List (List Tk)} {m : Nat} (h : ∀ x ∈ l, (rowK x).length ≤ m) : (l.flatMap rowK).length ≤ l.length * m := by
  induction l with
  | nil => simp
  | cons x l ih =>
    have h1 := h x (by simp)
    have h2 := ih (fun y hy => h y (by simp [hy]))
    rw [List.flatMap_cons, List.length_append, List.length_cons, Nat.add_mul, Nat.one_mul]
    omega
theorem bls_size : ∀ (bs : List Bb) (k : Nat), k + bs.length ≤ 64 → (∀ b ∈ bs, CanBq b) → ((blsK k bs).flatMap rowK).length ≤ bs.length * 3960 := by
  intro bs
  induction bs with
  | nil => intro k _ _; simp [blsK]
  | cons b r ih =>
    intro k hk hb
    rw [List.length_cons] at hk
    have hB := hb b (by simp)
    have h2 := ih (k + 1) (by omega) (fun c hc => hb c (by simp [hc]))
    have h1 : ((blK k b).flatMap rowK).length ≤ (blK k b).length * 60 := rows_size (fun l hl => by
      simp only [blK, List.mem_append, List.mem_cons, List.mem_map, List.not_mem_nil, or_false] at hl
      rcases hl with rfl | ⟨x, hx, rfl⟩ | rfl
      · rw [row_size _ (by simp [openK])]
        have h9 := nm_size (n := (k : Int)) ⟨by omega, by omega⟩
        have z9 : (Tk.tx kBlockQ).w = 6 := by decide
        simp only [openK, List.map_cons, List.map_nil, List.sum_cons, List.sum_nil]
        omega
      · rw [row_size _ (insK_ne x)]; exact insK_size (hB.ins x hx)
      · rw [row_size _ (termK_ne _)]; exact termK_size hB.tm hB.far)
    have h3 : (blK k b).length ≤ 66 := by
      have := hB.few
      unfold blK
      simp only [List.length_cons, List.length_append, List.length_map, List.length_nil]
      omega
    show ((blK k b ++ blsK (k + 1) r).flatMap rowK).length ≤ _
    rw [List.flatMap_append, List.length_append, List.length_cons, Nat.add_mul, Nat.one_mul]
    have : (blK k b).length * 60 ≤ 66 * 60 := Nat.mul_le_mul h3 (Nat.le_refl _)
    omega
theorem fn_size {f : Ff} (h : canF f = true) : (fnL f).length ≤ 262144 := by
  obtain ⟨h1, h2, h3, h4, h5⟩ := canF_parts h
  have b1 := bls_size f.blocks 0 (by omega) h1
  have b2 : (rowK (headK f)).length ≤ 44 := by
    rw [row_size _ (by simp [headK])]
    have z9 : (Tk.tx kFunQ).w = 4 := by decide
    have := vas_size h4
    simp only [headK, List.map_cons, List.sum_cons]
    omega
  rw [fnL_tk]
  unfold fnK
  rw [List.flatMap_cons, List.length_append]
  have : f.blocks.length * 3960 ≤ 64 * 3960 := Nat.mul_le_mul h2.2 (Nat.le_refl _)
  omega
/-- What is printed of a function is read: the same. -/
theorem back_fn {f : Ff} (h : canF f = true) {s : ByteArray} (hs : s.data.toList = fnL f) : s.size ≤ 262144 ∧ pfE s = 0 ∧ pfL s = 0 ∧ pfC s = 0 ∧ pfF s = f := by
  have hz : s.size ≤ 262144 := by
    have := fn_size h
    rw [← hs, Array.length_toList] at this
    exact this
  obtain ⟨t1, t2⟩ := fn_told h (start_fit s (by omega)) (start_fnQ (fn_fine h) s hs)
  have hn : ¬ 262144 < s.size := by omega
  have e1 : pfE s = 0 := by unfold pfE; rw [if_neg hn, t1]
  refine ⟨hz, e1, ?_, ?_, ?_⟩
  · unfold pfL; rw [if_neg hn, if_pos t1]
  · unfold pfC; rw [if_neg hn, if_pos t1]
  · unfold pfF; rw [if_pos e1, t2]
end Go.Proofs.YthiipgahbmoiiaaGreatDoor
