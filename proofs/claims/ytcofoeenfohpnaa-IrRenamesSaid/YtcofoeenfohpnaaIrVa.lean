/-
  Functions whose variables are named otherwise, plainly: they have the same error, as many variables, the same sizes. No condition beyond those that each theorem states.
-/
import Derived.Test.YtcofoeenfohpnaaIrRf
namespace Go.Proofs.Ytcofoeenfohpnaa

/-- A variable, some further on, around; what is none stays. -/
def renV (k : Nat) (v : Int) : Int := if v < 1 ∨ 200 < v then v else (v - 1 + k) % 200 + 1
def renI (k : Nat) (x : Ii) : Ii := ⟨x.op, renV k x.dst, renV k x.a, renV k x.b, x.imm, x.callee, x.args.map (renV k), x.many⟩
def renT (k : Nat) (t : Tt) : Tt := ⟨t.kind, renV k t.a, t.t0, t.t1⟩
def renB (k : Nat) (x : Bb) : Bb := ⟨x.ins.map (renI k), renT k x.tm⟩
def renF (k : Nat) (f : Ff) : Ff := ⟨f.params.map (renV k), f.blocks.map (renB k)⟩
theorem ren_var {k : Nat} (_hk : k < 200) (v : Int) : varB (renV k v) = varB v := by
  unfold varB renV
  by_cases h : v < 1 ∨ 200 < v
  · rw [if_pos h]
  · rw [if_neg h]
    rw [Bool.eq_iff_iff]
    simp only [Bool.and_eq_true, decide_eq_true_eq]
    omega
theorem ren_zero (k : Nat) (v : Int) : renV k v = 0 ↔ v = 0 := by
  unfold renV
  split <;> omega
theorem ren_same {k : Nat} (_hk : k < 200) {u v : Int} (h : renV k u = renV k v) : u = v := by
  unfold renV at h
  split at h <;> split at h <;> omega
theorem ren_onto {k : Nat} (_hk : k < 200) (v : Int) : ∃ u, renV k u = v := by
  refine ⟨if v < 1 ∨ 200 < v then v else (v - 1 + (200 - (k : Int))) % 200 + 1, ?_⟩
  unfold renV
  split
  · rfl
  · rename_i h
    have h2 : ¬ ((v - 1 + (200 - (k : Int))) % 200 + 1 < 1 ∨ 200 < (v - 1 + (200 - (k : Int))) % 200 + 1) := by omega
    rw [if_neg h2]
    omega
theorem ren_beq (k : Nat) (v : Int) : (renV k v == 0) = (v == 0) := by
  rw [Bool.eq_iff_iff, beq_iff_eq, beq_iff_eq]
  exact ren_zero k v
theorem ren_bne (k : Nat) (v : Int) : (renV k v != 0) = (v != 0) := by
  unfold bne
  rw [ren_beq]
theorem ren_fits {k : Nat} (hk : k < 200) (h : Bool) (v : Int) : fitsB h (renV k v) = fitsB h v := by
  unfold fitsB
  rw [ren_var hk, ren_beq]
theorem ren_all {k : Nat} (hk : k < 200) (l : List Int) : (l.map (renV k)).all varB = l.all varB := by
  rw [List.all_map]
  congr 1
  funext v
  exact ren_var hk v
theorem ren_given (k : Nat) (l : List Int) : givenL (l.map (renV k)) = (givenL l).map (renV k) := by
  unfold givenL
  rw [List.filter_map]
  congr 1
  congr 1
  funext v
  exact ren_bne k v
theorem ren_isIns {k : Nat} (hk : k < 200) (x : Ii) : isInsB (renI k x) = isInsB x := by
  unfold isInsB isCallB isOpB
  show (if x.op = 13 then _ else _) = _
  unfold renI
  simp only [ren_fits hk, ren_bne, ren_beq, ren_all hk, List.length_map, List.isEmpty_map]
theorem ren_isTerm {k : Nat} (hk : k < 200) (t : Tt) : isTermB (renT k t) = isTermB t := by
  unfold isTermB renT
  simp only [ren_fits hk, ren_bne, ren_beq, ren_var hk]
theorem ren_reads {k : Nat} (hk : k < 200) (x : Ii) : readsL (renI k x) = (readsL x).map (renV k) := by
  unfold readsL
  rw [ren_isIns hk]
  have e : (renI k x).a :: (renI k x).b :: (renI k x).args = (x.a :: x.b :: x.args).map (renV k) := rfl
  rw [e, ren_given]
  split <;> rfl
theorem ren_defines {k : Nat} (hk : k < 200) (x : Ii) : definesN (renI k x) = renV k (definesN x) := by
  unfold definesN
  rw [ren_isIns hk]
  split
  · rfl
  · exact ((ren_zero k 0).2 rfl).symm
theorem ren_needs {k : Nat} (hk : k < 200) (t : Tt) : needsL (renT k t) = (needsL t).map (renV k) := by
  unfold needsL
  rw [ren_isTerm hk]
  have e : [(renT k t).a] = [t.a].map (renV k) := rfl
  rw [e, ren_given]
  split <;> rfl
theorem ren_to {k : Nat} (hk : k < 200) (t : Tt) : toL (renT k t) = toL t := by
  unfold toL
  rw [ren_isTerm hk]
  rfl
theorem ren_mem {k : Nat} (hk : k < 200) (v : Int) (l : List Int) : renV k v ∈ l.map (renV k) ↔ v ∈ l := by
  constructor
  · intro h
    obtain ⟨u, hu, he⟩ := List.mem_map.1 h
    rw [← ren_same hk he]
    exact hu
  · exact fun h => List.mem_map.2 ⟨v, h, rfl⟩
theorem ren_params {k : Nat} (hk : k < 200) : ∀ (l s : List Int), paramsB (s.map (renV k)) (l.map (renV k)) = paramsB s l
  | [], _ => rfl
  | v :: l, s => by
    have h := ren_params hk l (v :: s)
    have hc : (s.map (renV k)).contains (renV k v) = s.contains v := by
      rw [Bool.eq_iff_iff, List.contains_iff_mem, List.contains_iff_mem]
      exact ren_mem hk v s
    show (varB (renV k v) && !((s.map (renV k)).contains (renV k v)) && paramsB ((v :: s).map (renV k)) (l.map (renV k))) = _
    rw [h, hc, ren_var hk]
    rfl
theorem ren_block {k : Nat} (hk : k < 200) (x : Bb) : isBlockB (renB k x) = isBlockB x := by
  unfold isBlockB renB
  rw [List.all_map, ren_isTerm hk]
  congr 2
  funext i
  exact ren_isIns hk i
theorem ren_shape {k : Nat} (hk : k < 200) (f : Ff) : shapeN (renF k f) = shapeN f := by
  have h1 : isLongB (renF k f) = isLongB f := by
    unfold isLongB renF
    simp only [List.length_map, List.any_map]
    congr 2
    funext b
    simp [renB]
  have h2 : shapedB (renF k f) = shapedB f := by
    unfold shapedB renF
    have h := ren_params hk f.params []
    simp only [List.map_nil] at h
    rw [h, List.all_map]
    congr 2
    funext b
    exact ren_block hk b
  unfold shapeN
  rw [h1, h2]
theorem ren_at (k : Nat) (f : Ff) (b : Nat) : (renF k f).blocks[b]? = (f.blocks[b]?).map (renB k) := by
  unfold renF
  rw [List.getElem?_map]
theorem ren_at' {k : Nat} {f : Ff} {b : Nat} {y : Bb} (h : (renF k f).blocks[b]? = some y) : ∃ x, f.blocks[b]? = some x ∧ y = renB k x := by
  rw [ren_at, Option.map_eq_some_iff] at h
  obtain ⟨x, hx, e⟩ := h
  exact ⟨x, hx, e.symm⟩
theorem ren_at2 {k : Nat} {f : Ff} {b : Nat} {x : Bb} (h : f.blocks[b]? = some x) : (renF k f).blocks[b]? = some (renB k x) := by
  rw [ren_at, h]
  rfl
theorem ren_goes {k : Nat} (hk : k < 200) (f : Ff) : goesB (renF k f) = goesB f := by
  unfold goesB
  have e : (renF k f).blocks = f.blocks.map (renB k) := rfl
  rw [e, List.all_map, List.length_map]
  congr 1
  funext x
  show ((toL (renT k x.tm)).all _) = _
  rw [ren_to hk]
theorem ren_reach {k : Nat} (hk : k < 200) (f : Ff) (b : Nat) : Reach (renF k f) b ↔ Reach f b := by
  constructor
  · intro h
    induction h with
    | zero => exact .zero
    | step _ hx hc ih =>
      obtain ⟨x, h1, rfl⟩ := ren_at' hx
      have hc : _ ∈ toL (renT k x.tm) := hc
      rw [ren_to hk] at hc
      exact .step ih h1 hc
  · intro h
    induction h with
    | zero => exact .zero
    | @step b c x _ hx hc ih =>
      refine .step ih (ren_at2 hx) ?_
      show _ ∈ toL (renT k x.tm)
      rw [ren_to hk]
      exact hc
theorem ren_defs {k : Nat} (hk : k < 200) (v : Int) (x : Bb) : renV k v ∈ defsL (renB k x) ↔ v ∈ defsL x := by
  have e : defsL (renB k x) = (defsL x).map (renV k) := by
    unfold defsL renB
    rw [List.map_map, List.map_map]
    rfl
  rw [e]
  exact ren_mem hk v _
theorem ren_bare {k : Nat} (hk : k < 200) (f : Ff) (v : Int) (b : Nat) : Bare (renF k f) (renV k v) b ↔ Bare f v b := by
  constructor
  · intro h
    induction h with
    | zero hp => exact .zero fun h => hp ((ren_mem hk v _).2 h)
    | step _ hx hd hc ih =>
      obtain ⟨x, h1, rfl⟩ := ren_at' hx
      have hc : _ ∈ toL (renT k x.tm) := hc
      rw [ren_to hk] at hc
      exact .step ih h1 (fun h => hd ((ren_defs hk v x).2 h)) hc
  · intro h
    induction h with
    | zero hp => exact .zero fun h => hp ((ren_mem hk v _).1 h)
    | @step b c x _ hx hd hc ih =>
      refine .step ih (ren_at2 hx) (fun h => hd ((ren_defs hk v x).1 h)) ?_
      show _ ∈ toL (renT k x.tm)
      rw [ren_to hk]
      exact hc
theorem ren_bareIn {k : Nat} (hk : k < 200) (v : Int) (t : Tt) : ∀ l : List Ii, bareIn (renV k v) (renT k t) (l.map (renI k)) ↔ bareIn v t l
  | [] => by
    show renV k v ∈ needsL (renT k t) ↔ _
    rw [ren_needs hk]
    exact ren_mem hk v _
  | i :: l => by
    show (renV k v ∈ readsL (renI k i) ∨ (renV k i.dst ≠ renV k v ∧ bareIn (renV k v) (renT k t) (l.map (renI k)))) ↔ _
    rw [ren_reads hk, ren_mem hk, ren_bareIn hk v t l]
    have e : renV k i.dst ≠ renV k v ↔ i.dst ≠ v := ⟨fun h e => h (by rw [e]), fun h e => h (ren_same hk e)⟩
    rw [e]
    rfl
theorem ren_lacks {k : Nat} (hk : k < 200) (f : Ff) (v : Int) : LacksV (renF k f) (renV k v) ↔ LacksV f v := by
  constructor
  · rintro ⟨b, y, hy, hb, hi⟩
    obtain ⟨x, h1, rfl⟩ := ren_at' hy
    exact ⟨b, x, h1, (ren_bare hk f v b).1 hb, (ren_bareIn hk v x.tm x.ins).1 hi⟩
  · rintro ⟨b, x, hx, hb, hi⟩
    exact ⟨b, renB k x, ren_at2 hx, (ren_bare hk f v b).2 hb, (ren_bareIn hk v x.tm x.ins).2 hi⟩
theorem ren_lost {k : Nat} (hk : k < 200) (f : Ff) : LostB (renF k f) ↔ LostB f := by
  unfold LostB
  rw [ren_goes hk]
  have e : (renF k f).blocks.length = f.blocks.length := by simp [renF]
  rw [e]
  simp only [ren_reach hk]
theorem ren_some {k : Nat} (hk : k < 200) (f : Ff) : (∃ v : Int, v ≠ 0 ∧ LacksV (renF k f) v) ↔ ∃ v : Int, v ≠ 0 ∧ LacksV f v := by
  constructor
  · rintro ⟨v, h0, hv⟩
    obtain ⟨u, rfl⟩ := ren_onto hk v
    exact ⟨u, fun e => h0 ((ren_zero k u).2 e), (ren_lacks hk f u).1 hv⟩
  · rintro ⟨u, h0, hu⟩
    exact ⟨renV k u, fun e => h0 ((ren_zero k u).1 e), (ren_lacks hk f u).2 hu⟩
theorem ren_right {k : Nat} (hk : k < 200) {f : Ff} {e : Int} (h : RightIs f e) : RightIs (renF k f) e := by
  refine ⟨fun h1 => ?_, fun h1 h2 => ?_, fun h1 h2 h3 => ?_, fun h1 h2 h3 => ?_⟩
  · rw [ren_shape hk] at h1 ⊢; exact h.shape h1
  · rw [ren_shape hk] at h1; exact h.lost h1 ((ren_lost hk f).1 h2)
  · rw [ren_shape hk] at h1; exact h.lacks h1 (fun k2 => h2 ((ren_lost hk f).2 k2)) ((ren_some hk f).1 h3)
  · rw [ren_shape hk] at h1
    refine h.fine h1 (fun k2 => h2 ((ren_lost hk f).2 k2)) (fun v h0 hv => ?_)
    exact h3 (renV k v) (fun e => h0 ((ren_zero k v).1 e)) ((ren_lacks hk f v).2 hv)
theorem ren_size {k : Nat} (hk : k < 200) (f : Ff) : sizeN (renF k f) = sizeN f := by
  unfold sizeN
  rw [ren_shape hk]
  have e : (renF k f).blocks = f.blocks.map (renB k) := rfl
  rw [e, List.map_map]
  congr 3
  funext x
  simp [renB]
theorem ren_ops (k : Nat) (x : Ii) : opsN (renI k x) = opsN x := by
  unfold opsN
  have e : [(renI k x).a, (renI k x).b] = [x.a, x.b].map (renV k) := rfl
  rw [e, ren_given, List.length_map]
theorem ren_mostI (k : Nat) : ∀ (l : List Ii) (n : Nat), mostIO n (l.map (renI k)) = mostIO n l
  | [], _ => rfl
  | x :: l, n => by
    show mostIO (max n (opsN (renI k x))) (l.map (renI k)) = _
    rw [ren_ops, ren_mostI k l]
    rfl
theorem ren_mostIA (k : Nat) : ∀ (l : List Ii) (n : Nat), mostIA n (l.map (renI k)) = mostIA n l
  | [], _ => rfl
  | x :: l, n => by
    show mostIA (max n (x.args.map (renV k)).length) (l.map (renI k)) = _
    rw [List.length_map, ren_mostIA k l]
    rfl
theorem ren_mostB (k : Nat) : ∀ (l : List Bb) (n : Nat), mostBO n (l.map (renB k)) = mostBO n l
  | [], _ => rfl
  | x :: l, n => by
    show mostBO (max (mostIO n (x.ins.map (renI k))) (givenL ([x.tm.a].map (renV k))).length) (l.map (renB k)) = _
    rw [ren_mostI, ren_given, List.length_map, ren_mostB k l]
    rfl
theorem ren_mostBA (k : Nat) : ∀ (l : List Bb) (n : Nat), mostBA n (l.map (renB k)) = mostBA n l
  | [], _ => rfl
  | x :: l, n => by
    show mostBA (mostIA n (x.ins.map (renI k))) (l.map (renB k)) = _
    rw [ren_mostIA, ren_mostBA k l]
    rfl
theorem ren_mostO {k : Nat} (hk : k < 200) (f : Ff) : mostO (renF k f) = mostO f := by
  unfold mostO
  rw [ren_shape hk]
  have e : (renF k f).blocks = f.blocks.map (renB k) := rfl
  rw [e, ren_mostB]
theorem ren_mostA {k : Nat} (hk : k < 200) (f : Ff) : mostA (renF k f) = mostA f := by
  unfold mostA
  rw [ren_shape hk]
  have e : (renF k f).blocks = f.blocks.map (renB k) := rfl
  have e2 : (renF k f).params.length = f.params.length := by simp [renF]
  rw [e, e2, ren_mostBA]
/-! The variables that stand in it. -/
theorem mem_listM {N n : Nat} {v : Int} : v ∈ listM N n ↔ ∃ j : Nat, v = j ∧ j < n ∧ j ≠ 0 ∧ N.testBit j = true := by
  unfold listM
  simp only [List.mem_map, List.mem_filter, List.mem_range, Bool.and_eq_true, bne_iff_ne]
  constructor
  · rintro ⟨j, ⟨h1, h2, h3⟩, rfl⟩; exact ⟨j, rfl, h1, h2, h3⟩
  · rintro ⟨j, rfl, h1, h2, h3⟩; exact ⟨j, ⟨h1, h2, h3⟩, rfl⟩
theorem mem_vars {f : Ff} (h : shapeN f = 0) (v : Int) : v ∈ varsL f ↔ 1 ≤ v ∧ v ≤ 200 ∧ v ∈ allL f := by
  unfold varsL
  rw [if_pos h, mem_listM]
  constructor
  · rintro ⟨j, rfl, h1, h2, h3⟩
    rw [vars_bit h h2] at h3
    exact ⟨by omega, by omega, of_decide_eq_true h3⟩
  · rintro ⟨h1, h2, h3⟩
    obtain ⟨j, rfl⟩ := Int.eq_ofNat_of_zero_le (show 0 ≤ v by omega)
    exact ⟨j, rfl, by omega, by omega, by rw [vars_bit h (by omega)]; exact decide_eq_true h3⟩
theorem ren_allI {k : Nat} (hk : k < 200) (l : List Ii) : allI (l.map (renI k)) = (allI l).map (renV k) := by
  induction l with
  | nil => rfl
  | cons i l ih => rw [List.map_cons, allI_cons, allI_cons, ih, ren_reads hk, ren_defines hk]; simp
theorem ren_allB {k : Nat} (hk : k < 200) (l : List Bb) : allB (l.map (renB k)) = (allB l).map (renV k) := by
  induction l with
  | nil => rfl
  | cons x l ih =>
    rw [List.map_cons, allB_cons, allB_cons, ih]
    have e1 : (renB k x).ins = x.ins.map (renI k) := rfl
    have e2 : (renB k x).tm = renT k x.tm := rfl
    rw [e1, e2, ren_allI hk, ren_needs hk]
    simp
theorem ren_allF {k : Nat} (hk : k < 200) (f : Ff) : allL (renF k f) = (allL f).map (renV k) := by
  unfold allL
  have e1 : (renF k f).blocks = f.blocks.map (renB k) := rfl
  have e2 : (renF k f).params = f.params.map (renV k) := rfl
  rw [e1, e2, ren_allB hk, List.map_append]
theorem ren_vars {k : Nat} (hk : k < 200) (f : Ff) (v : Int) : renV k v ∈ varsL (renF k f) ↔ v ∈ varsL f := by
  by_cases h : shapeN f = 0
  · have h2 : shapeN (renF k f) = 0 := by rw [ren_shape hk]; exact h
    rw [mem_vars h, mem_vars h2, ren_allF hk, ren_mem hk]
    have hv := ren_var hk v
    unfold varB at hv
    rw [Bool.eq_iff_iff] at hv
    simp only [Bool.and_eq_true, decide_eq_true_eq] at hv
    constructor
    · rintro ⟨h1, h2, h3⟩
      have := hv.1 ⟨h1, h2⟩
      exact ⟨this.1, this.2, h3⟩
    · rintro ⟨h1, h2, h3⟩
      have := hv.2 ⟨h1, h2⟩
      exact ⟨this.1, this.2, h3⟩
  · have h2 : ¬ shapeN (renF k f) = 0 := by rw [ren_shape hk]; exact h
    unfold varsL
    rw [if_neg h, if_neg h2]
    simp
theorem few_within : ∀ {l m : List Int}, l.Nodup → (∀ v ∈ l, v ∈ m) → l.length ≤ m.length := by
  intro l
  induction l with
  | nil => intro m _ _; simp
  | cons v l ih =>
    intro m hn hm
    rw [List.nodup_cons] at hn
    have h1 := ih (m := m.erase v) hn.2 (fun u hu => (List.mem_erase_of_ne (fun e => hn.1 (by rw [← e]; exact hu))).2 (hm u (by simp [hu])))
    have h2 := List.length_erase_of_mem (hm v (by simp))
    have h3 : 0 < m.length := List.length_pos_of_mem (hm v (by simp))
    rw [List.length_cons]
    omega
theorem listM_nodup (N n : Nat) : (listM N n).Nodup := by
  unfold listM
  have h : ((List.range n).filter (fun v => v != 0 && N.testBit v)).Nodup := List.Pairwise.filter _ List.nodup_range
  unfold List.Nodup at h ⊢
  rw [List.pairwise_map]
  exact h.imp fun hab e => hab (by exact_mod_cast e)
theorem vars_nodup (f : Ff) : (varsL f).Nodup := by
  unfold varsL
  split
  · exact listM_nodup _ _
  · simp
theorem ren_varsLen {k : Nat} (hk : k < 200) (f : Ff) : (varsL (renF k f)).length = (varsL f).length := by
  apply Nat.le_antisymm
  · have h : (varsL (renF k f)).length ≤ ((varsL f).map (renV k)).length := by
      refine few_within (vars_nodup _) (fun v hv => ?_)
      obtain ⟨u, rfl⟩ := ren_onto hk v
      exact List.mem_map.2 ⟨u, (ren_vars hk f u).1 hv, rfl⟩
    rwa [List.length_map] at h
  · have h : ((varsL f).map (renV k)).length ≤ (varsL (renF k f)).length := by
      refine few_within ?_ (fun v hv => ?_)
      · have h := vars_nodup f
        unfold List.Nodup at h ⊢
        rw [List.pairwise_map]
        exact h.imp fun hab e => hab (ren_same hk e)
      · obtain ⟨u, hu, rfl⟩ := List.mem_map.1 hv
        exact (ren_vars hk f u).2 hu
    rwa [List.length_map] at h
end Go.Proofs.Ytcofoeenfohpnaa
