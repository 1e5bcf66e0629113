/-
  Whether a machine is right: the document's own answer is the same. No condition beyond those that each theorem states.
-/
import Derived.Test.YtjmdgbgjleeloaaGreatDoorPk3
import Derived.Deep.CutRange
namespace Go.Proofs.YtjmdgbgjleeloaaGreatDoor

theorem unlike_iff : ∀ (l S : List Int), unlikeB S l = true ↔ ∀ k x, l[k]? = some x → S.contains x = false ∧ (l.take k).contains x = false
  | [], S => by simp [unlikeB]
  | r :: l, S => by
    have ih := unlike_iff l (r :: S)
    unfold unlikeB
    rw [Bool.and_eq_true, ih, Bool.not_eq_true']
    constructor
    · rintro ⟨h1, h2⟩ k x hx
      cases k with
      | zero =>
        simp at hx
        subst hx
        exact ⟨h1, by simp⟩
      | succ k =>
        rw [List.getElem?_cons_succ] at hx
        obtain ⟨a, b⟩ := h2 k x hx
        rw [List.contains_cons, Bool.or_eq_false_iff] at a
        refine ⟨a.2, ?_⟩
        rw [List.take_succ_cons, List.contains_cons, a.1, b]
        rfl
    · intro h
      refine ⟨(h 0 r rfl).1, fun k x hx => ?_⟩
      obtain ⟨a, b⟩ := h (k + 1) x (by rw [List.getElem?_cons_succ]; exact hx)
      rw [List.take_succ_cons, List.contains_cons, Bool.or_eq_false_iff] at b
      rw [List.contains_cons, a, b.1]
      exact ⟨rfl, b.2⟩
theorem rise_iff : ∀ (l : List Int), riseB l = true ↔ ∀ (k : Nat) (x y : Int), l[k]? = some x → l[k + 1]? = some y → x < y
  | [] => by simp [riseB]
  | [a] => by
    simp only [riseB, true_iff]
    intro k x y _ h
    simp at h
  | a :: b :: l => by
    have ih := rise_iff (b :: l)
    unfold riseB
    rw [Bool.and_eq_true, ih, decide_eq_true_eq]
    constructor
    · rintro ⟨h1, h2⟩ k x y hx hy
      cases k with
      | zero =>
        simp at hx hy
        subst hx hy
        exact h1
      | succ k => exact h2 k x y (by simpa using hx) (by simpa using hy)
    · intro h
      exact ⟨h 0 a b rfl rfl, fun k x y hx hy => h (k + 1) x y (by simpa using hx) (by simpa using hy)⟩
/-- Of the first i arguments each is a register, and unlike those ahead of it. -/
def OkA (m : Mm) (i : Nat) : Prop := ∀ k x, k < i → m.args[k]? = some x → m.regB x = true ∧ (m.args.take k).contains x = false
/-- Of the first i saved ones each is a register, and above the one ahead of it. -/
def OkS (m : Mm) (i : Nat) : Prop := ∀ k x, k < i → m.saved[k]? = some x → m.regB x = true ∧ (0 < k → ∀ y, m.saved[k - 1]? = some y → y < x)
theorem ok_a_next {m : Mm} {i : Nat} {x : Int} (h : OkA m i) (hx : m.args[i]? = some x) (h1 : m.regB x = true) (h2 : (m.args.take i).contains x = false) : OkA m (i + 1) := fun k y hk hy => by
  by_cases e : k = i
  · subst e
    rw [hx] at hy
    injection hy with hy
    subst hy
    exact ⟨h1, h2⟩
  · exact h k y (by omega) hy
theorem ok_s_next {m : Mm} {i : Nat} {x : Int} (h : OkS m i) (hx : m.saved[i]? = some x) (h1 : m.regB x = true) (h2 : 0 < i → ∀ y, m.saved[i - 1]? = some y → y < x) : OkS m (i + 1) := fun k y hk hy => by
  by_cases e : k = i
  · subst e
    rw [hx] at hy
    injection hy with hy
    subst hy
    exact ⟨h1, h2⟩
  · exact h k y (by omega) hy
theorem right_char (m : Mm) : m.rightB = true ↔ (m.smallB = true ∧ m.regB m.ret = true ∧ m.saved.contains m.ret = false) ∧ OkA m m.args.length ∧ OkS m m.saved.length := by
  rw [right_iff]
  constructor
  · intro h
    refine ⟨⟨h.small, h.ret, h.apart⟩, fun k x _ hx => ?_, fun k x _ hx => ?_⟩
    · exact ⟨List.all_eq_true.1 h.args x (List.mem_of_getElem? hx), ((unlike_iff m.args []).1 h.unlike k x hx).2⟩
    · refine ⟨List.all_eq_true.1 h.saved x (List.mem_of_getElem? hx), fun h0 y hy => ?_⟩
      exact (rise_iff m.saved).1 h.rise (k - 1) y x hy (by rw [show k - 1 + 1 = k by omega]; exact hx)
  · rintro ⟨⟨h1, h2, h3⟩, ha, hs⟩
    refine ⟨h1, ?_, h2, ?_, ?_, ?_, h3⟩
    · rw [List.all_eq_true]
      intro x hx
      obtain ⟨k, hk⟩ := List.getElem?_of_mem hx
      exact (ha k x (List.getElem?_eq_some_iff.1 hk).1 hk).1
    · rw [List.all_eq_true]
      intro x hx
      obtain ⟨k, hk⟩ := List.getElem?_of_mem hx
      exact (hs k x (List.getElem?_eq_some_iff.1 hk).1 hk).1
    · rw [unlike_iff]
      intro k x hx
      exact ⟨by simp, (ha k x (List.getElem?_eq_some_iff.1 hx).1 hx).2⟩
    · rw [rise_iff]
      intro k x y hx hy
      exact (hs (k + 1) y (List.getElem?_eq_some_iff.1 hy).1 hy).2 (by omega) x (by simpa using hx)
theorem right_no_head {m : Mm} (h : ¬ (m.smallB = true ∧ m.regB m.ret = true ∧ m.saved.contains m.ret = false)) : m.rightB = false := by
  rw [Bool.eq_false_iff]
  exact fun hr => h ((right_char m).1 hr).1
theorem right_no_arg {m : Mm} {i : Nat} {x : Int} (hx : m.args[i]? = some x) (h : ¬ (m.regB x = true ∧ (m.args.take i).contains x = false)) : m.rightB = false := by
  rw [Bool.eq_false_iff]
  exact fun hr => h (((right_char m).1 hr).2.1 i x (List.getElem?_eq_some_iff.1 hx).1 hx)
theorem right_no_saved {m : Mm} {i : Nat} {x : Int} (hx : m.saved[i]? = some x) (h : ¬ (m.regB x = true ∧ (0 < i → ∀ y, m.saved[i - 1]? = some y → y < x))) : m.rightB = false := by
  rw [Bool.eq_false_iff]
  exact fun hr => h (((right_char m).1 hr).2.2 i x (List.getElem?_eq_some_iff.1 hx).1 hx)

/-- The document's row of numbers: as many as are next. -/
def Cu.isNum (c : Cu) : Bool := match c.left.head? with | some x => x.k == 2 | none => false
def rnumsGo : Nat → Cu → List Int → Cu × List Int
  | 0, c, l => (c, l)
  | f + 1, c, l => if c.isNum then rnumsGo f (c.num 0 64) (l ++ [c.numN 0 64]) else (c, l)
def Cu.rnums (c : Cu) (l : List Int) : Cu × List Int := rnumsGo c.left.length c l
theorem num_left {c : Cu} (h : c.Ok) (hg : c.isNum = true) (a b : Int) : (c.num a b).left.length < c.left.length := by
  have hne : c.left ≠ [] := by
    intro e
    unfold Cu.isNum at hg
    simp [e] at hg
  have hpos := List.length_pos_iff.2 hne
  have hf : c.fault = 0 := by
    by_cases h0 : c.fault = 0
    · exact h0
    · exact absurd (h.gone h0) hne
  unfold Cu.num
  split
  · split
    · simp only [Cu.pass, List.length_tail]; omega
    · unfold Cu.fail
      rw [if_neg (by rintro (h1 | h1); omega; exact h1 hf)]
      exact hpos
  · unfold Cu.fail
    rw [if_neg (by rintro (h1 | h1); omega; exact h1 hf)]
    exact hpos
theorem rnums_fuel : ∀ (f g : Nat) (c : Cu) (l : List Int), c.Ok → c.left.length ≤ f → c.left.length ≤ g → rnumsGo f c l = rnumsGo g c l := by
  intro f
  induction f with
  | zero =>
    intro g c l h h1 h2
    have hg : c.isNum = false := by
      have : c.left = [] := List.length_eq_zero_iff.1 (by omega)
      simp [Cu.isNum, this]
    cases g with
    | zero => rfl
    | succ g => rw [rnumsGo, rnumsGo, if_neg (by rw [hg]; decide)]
  | succ f ih =>
    intro g c l h h1 h2
    by_cases hg : c.isNum = true
    · have := num_left h hg 0 64
      cases g with
      | zero => omega
      | succ g =>
        rw [rnumsGo, rnumsGo, if_pos hg, if_pos hg]
        exact ih g _ _ (h.num 0 64) (by omega) (by omega)
    · cases g with
      | zero => rw [rnumsGo, rnumsGo, if_neg hg]
      | succ g => rw [rnumsGo, rnumsGo, if_neg hg, if_neg hg]
theorem rnums_stop {c : Cu} (h : c.isNum = false) (l : List Int) : c.rnums l = (c, l) := by
  unfold Cu.rnums
  cases c.left.length with
  | zero => rfl
  | succ f => rw [rnumsGo, if_neg (by rw [h]; decide)]
theorem rnums_step {c : Cu} (ho : c.Ok) (h : c.isNum = true) (l : List Int) : c.rnums l = (c.num 0 64).rnums (l ++ [c.numN 0 64]) := by
  unfold Cu.rnums
  have := num_left ho h 0 64
  obtain ⟨f, hf⟩ : ∃ f, c.left.length = f + 1 := ⟨c.left.length - 1, by omega⟩
  rw [hf, rnumsGo, if_pos h]
  exact rnums_fuel _ _ _ _ (ho.num 0 64) (by omega) (Nat.le_refl _)
theorem rnums_ok' : ∀ (f : Nat) (c : Cu) (l : List Int), c.Ok → (rnumsGo f c l).1.Ok := by
  intro f
  induction f with
  | zero => intro c l h; exact h
  | succ f ih =>
    intro c l h
    rw [rnumsGo]
    split
    · exact ih _ _ (h.num 0 64)
    · exact h
theorem rnums_ok {c : Cu} (h : c.Ok) (l : List Int) : (c.rnums l).1.Ok := rnums_ok' _ _ _ h
/-- A cursor's names are not empty, and its last word is no end. -/
structure Cu.Neat (c : Cu) : Prop where
  ok : c.Ok
  names : ∀ x ∈ c.left, x.k = 1 → x.t ≠ ⟨#[]⟩
  last : ∀ y, c.left.getLast? = some y → y.k ≠ 4
theorem Cu.Neat.sub {c d : Cu} (h : c.Neat) (ho : d.Ok) (hs : d.left = c.left ∨ d.left = c.left.tail ∨ d.left = []) : d.Neat := by
  refine ⟨ho, ?_, ?_⟩
  · rcases hs with e | e | e <;> rw [e]
    · exact h.names
    · exact fun x hx => h.names x (List.mem_of_mem_tail hx)
    · simp
  · rcases hs with e | e | e <;> rw [e]
    · exact h.last
    · intro y hy
      cases hc : c.left with
      | nil => rw [hc] at hy; simp at hy
      | cons a r =>
        rw [hc] at hy
        simp only [List.tail_cons] at hy
        refine h.last y ?_
        rw [hc]
        cases r with
        | nil => simp at hy
        | cons b r => rw [List.getLast?_cons_cons]; exact hy
    · simp
theorem fail_left (c : Cu) (e : Int) : (c.fail e).left = c.left ∨ (c.fail e).left = [] := by
  unfold Cu.fail
  split
  · exact .inl rfl
  · exact .inr rfl
theorem Cu.Neat.num {c : Cu} (h : c.Neat) (a b : Int) : (c.num a b).Neat := by
  refine h.sub (h.ok.num a b) ?_
  unfold Cu.num
  split
  · split
    · exact .inr (.inl rfl)
    · rcases fail_left c 3 with e | e
      · exact .inl e
      · exact .inr (.inr e)
  · rcases fail_left c 7 with e | e
    · exact .inl e
    · exact .inr (.inr e)
theorem Cu.Neat.keyed {c : Cu} (h : c.Neat) (s : ByteArray) : (c.keyed s).Neat := by
  refine h.sub (h.ok.keyed s) ?_
  unfold Cu.keyed
  split
  · rename_i hb
    have e : c.key s = c.pass := by unfold Cu.key Cu.over; rw [if_pos hb]
    rw [e]
    exact .inr (.inl rfl)
  · rename_i hb
    have e : c.key s = c := by unfold Cu.key Cu.over; rw [if_neg hb]
    rw [e]
    rcases fail_left c 7 with e | e
    · exact .inl e
    · exact .inr (.inr e)
/-- Broken by a word that may not be there. -/
def Cu.Bad (c : Cu) : Prop := c.fault = 7 ∧ c.left = []
/-- A sign is next. -/
def Cu.Sgn (c : Cu) : Prop := c.fault = 0 ∧ ∃ x r, c.left = x :: r ∧ x.k = 3
theorem fail7_bad {c : Cu} (hf : c.fault = 0) : (c.fail 7).Bad := by
  have hn : ¬ ((7 : Int) = 0 ∨ c.fault ≠ 0) := by
    rintro (h1 | h1)
    · omega
    · exact h1 hf
  have e : c.fail 7 = ⟨[], (match c.left with | x :: _ => x.l | [] => 0), (match c.left with | x :: _ => x.c | [] => 0), 7⟩ := if_neg hn
  rw [e]
  exact ⟨rfl, rfl⟩
theorem num_sign {c : Cu} (h : c.Sgn) : (c.num 0 64).Bad := by
  obtain ⟨hf, x, r, hl, hk⟩ := h
  have e : c.num 0 64 = c.fail 7 := by
    unfold Cu.num numP
    rw [hl]
    simp [hk]
  rw [e]
  exact fail7_bad hf
theorem nums_bad {c : Cu} (h : c.Bad) (l : List Int) : c.nums l = (c, l) := nums_stop (by unfold Cu.goes Cu.ends Cu.more; rw [h.2]; rfl) l
theorem rnums_bad {c : Cu} (h : c.Bad) (l : List Int) : c.rnums l = (c, l) := rnums_stop (by unfold Cu.isNum; rw [h.2]; rfl) l
theorem nums_sync : ∀ (f : Nat) (c : Cu) (l : List Int), c.left.length ≤ f → c.Neat → (c.nums l = c.rnums l ∧ (c.nums l).1.Neat) ∨ ((c.nums l).1.Bad ∧ (c.rnums l).1.Sgn) := by
  intro f
  induction f with
  | zero =>
    intro c l hl hn
    have e : c.left = [] := List.length_eq_zero_iff.1 (by omega)
    have h1 : c.nums l = (c, l) := nums_stop (by unfold Cu.goes Cu.ends Cu.more; rw [e]; rfl) l
    have h2 : c.rnums l = (c, l) := rnums_stop (by unfold Cu.isNum; rw [e]; rfl) l
    rw [h1, h2]
    exact .inl ⟨rfl, hn⟩
  | succ f ih =>
    intro c l hl hn
    cases hc : c.left with
    | nil =>
      have h1 : c.nums l = (c, l) := nums_stop (by unfold Cu.goes Cu.ends Cu.more; rw [hc]; rfl) l
      have h2 : c.rnums l = (c, l) := rnums_stop (by unfold Cu.isNum; rw [hc]; rfl) l
      rw [h1, h2]
      exact .inl ⟨rfl, hn⟩
    | cons x r =>
      have hf : c.fault = 0 := by
        by_cases h0 : c.fault = 0
        · exact h0
        · have := hn.ok.gone h0
          rw [hc] at this
          cases this
      rcases hn.ok.kinds x (by rw [hc]; simp) with hk | hk | hk | hk
      · have hne := hn.names x (by rw [hc]; simp) hk
        have h1 : c.nums l = (c, l) := nums_stop (by
          unfold Cu.goes Cu.nameT nameP
          rw [hc]
          simp [hk, hne]) l
        have h2 : c.rnums l = (c, l) := rnums_stop (by unfold Cu.isNum; rw [hc]; simp [hk]) l
        rw [h1, h2]
        exact .inl ⟨rfl, hn⟩
      · have hg : c.goes = true := by
          unfold Cu.goes Cu.ends Cu.more Cu.nameT nameP endP endK
          rw [hc]
          simp [hk]
        have hi : c.isNum = true := by unfold Cu.isNum; rw [hc]; simp [hk]
        rw [nums_step hn.ok hg, rnums_step hn.ok hi]
        have := left_num hn.ok hg 0 64
        exact ih _ _ (by omega) (hn.num 0 64)
      · have hg : c.goes = true := by
          unfold Cu.goes Cu.ends Cu.more Cu.nameT nameP endP endK
          rw [hc]
          simp [hk]
        have hi : c.isNum = false := by unfold Cu.isNum; rw [hc]; simp [hk]
        have hs : c.Sgn := ⟨hf, x, r, hc, hk⟩
        have hb := num_sign hs
        rw [nums_step hn.ok hg, rnums_stop hi, nums_bad hb]
        exact .inr ⟨hb, hs⟩
      · have h1 : c.nums l = (c, l) := nums_stop (by
          unfold Cu.goes Cu.ends Cu.more endP endK
          rw [hc]
          simp [hk]) l
        have h2 : c.rnums l = (c, l) := rnums_stop (by unfold Cu.isNum; rw [hc]; simp [hk]) l
        rw [h1, h2]
        exact .inl ⟨rfl, hn⟩
/-- The document's places of a cursor, and what it gets. -/
def rc4 (c : Cu) : Cu := ((mc3 c).rnums []).1
def rc5 (c : Cu) : Cu := (rc4 c).keyed keyRe
def rc6 (c : Cu) : Cu := (rc5 c).num 0 64
def rc7 (c : Cu) : Cu := (rc6 c).keyed keySa
def rc8 (c : Cu) : Cu := ((rc7 c).rnums []).1
def gotR (c : Cu) : Mm := ⟨(mc1 c).numN 0 64, ((mc3 c).rnums []).2, (rc5 c).numN 0 64, ((rc7 c).rnums []).2⟩
theorem fail_bad {c : Cu} (h : c.Bad) (e : Int) : (c.fail e).Bad := by
  have : c.fail e = c := if_pos (.inr (by rw [h.1]; decide))
  rw [this]
  exact h
theorem keyed_bad {c : Cu} (h : c.Bad) (s : ByteArray) : (c.keyed s).Bad := by
  have hb : c.keyB s = false := by unfold Cu.keyB nameP; rw [h.2]; rfl
  have e : c.key s = c := by unfold Cu.key Cu.over; rw [hb]; rfl
  unfold Cu.keyed
  rw [hb, e]
  exact fail_bad h 7
theorem keyed_sign {c : Cu} (h : c.Sgn) (s : ByteArray) : (c.keyed s).Bad := by
  obtain ⟨hf, x, r, hl, hk⟩ := h
  have hb : c.keyB s = false := by unfold Cu.keyB nameP; rw [hl]; simp [hk]
  have e : c.key s = c := by unfold Cu.key Cu.over; rw [hb]; rfl
  unfold Cu.keyed
  rw [hb, e]
  exact fail7_bad hf
theorem num_bad {c : Cu} (h : c.Bad) (a b : Int) : (c.num a b).Bad := by
  unfold Cu.num numP
  rw [h.2]
  exact fail_bad h 7
theorem err_bad {c : Cu} (h : c.Bad) : c.eErr = 7 := by unfold Cu.eErr; rw [if_pos (by rw [h.1]; decide), h.1]
theorem end_bad {c : Cu} (h : c.Bad) : c.end_.Bad := by
  have : c.end_ = c := by unfold Cu.end_ endP Cu.more; rw [h.2]; rfl
  rw [this]
  exact h
theorem end_err {c : Cu} (h : c.Neat) : c.end_.eErr = c.eErr := by
  cases hc : c.left with
  | nil =>
    have : c.end_ = c := by unfold Cu.end_ endP Cu.more; rw [hc]; rfl
    rw [this]
  | cons x r =>
    have hf : c.fault = 0 := by
      by_cases h0 : c.fault = 0
      · exact h0
      · have := h.ok.gone h0
        rw [hc] at this
        cases this
    have e7 : c.eErr = 7 := by unfold Cu.eErr; rw [if_neg (by rw [hf]; simp), hc]
    rw [e7]
    by_cases hk : endK x = true
    · have e : c.end_ = c.pass := by unfold Cu.end_ endP; rw [hc]; simp [hk]
      rw [e]
      have hx4 : x.k = 4 := by
        rcases h.ok.kinds x (by rw [hc]; simp) with h | h | h | h
        · simp [endK, h] at hk
        · simp [endK, h] at hk
        · simp [endK, h] at hk
        · exact h
      cases r with
      | nil => exact absurd hx4 (h.last x (by rw [hc]; rfl))
      | cons b r => unfold Cu.eErr Cu.pass; rw [if_neg (by simp [hf]), hc]; rfl
    · have e : c.end_ = c.fail 7 := by unfold Cu.end_ endP Cu.more; rw [hc]; simp [hk]
      rw [e]
      unfold Cu.eErr
      rw [(fail7_bad hf).1]
      rfl
/-- Both ways through a text tell one error, and, where there is none, one machine. -/
theorem ways_same {c : Cu} (h : c.Neat) : (mc9 c).eErr = (rc8 c).eErr ∧ ((mc9 c).eErr = 0 → gotM c = gotR c) := by
  have h3 : (mc3 c).Neat := ((h.keyed keyMa).num 0 64).keyed keyAr
  rcases nums_sync _ (mc3 c) [] (Nat.le_refl _) h3 with ⟨e, h4⟩ | ⟨hb, hs⟩
  · have e4 : rc4 c = mc4 c := by unfold rc4 mc4; rw [e]
    have e5 : rc5 c = mc5 c := by unfold rc5 mc5; rw [e4]
    have e6 : rc6 c = mc6 c := by unfold rc6 mc6; rw [e5]
    have e7 : rc7 c = mc7 c := by unfold rc7 mc7; rw [e6]
    have h7 : (mc7 c).Neat := ((h4.keyed keyRe).num 0 64).keyed keySa
    rcases nums_sync _ (mc7 c) [] (Nat.le_refl _) h7 with ⟨g, h8⟩ | ⟨gb, gs⟩
    · have e8 : rc8 c = mc8 c := by unfold rc8 mc8; rw [e7, g]
      refine ⟨?_, fun _ => ?_⟩
      · rw [e8]; exact end_err h8
      · unfold gotM gotR; rw [e, e5, e7, g]
    · have h9 : (mc9 c).eErr = 7 := err_bad (end_bad gb)
      have h10 : (rc8 c).eErr = 7 := by
        obtain ⟨hf, x, r, hl, _⟩ : (rc8 c).Sgn := by unfold rc8; rw [e7]; exact gs
        unfold Cu.eErr
        rw [if_neg (by rw [hf]; simp), hl]
      exact ⟨by rw [h9, h10], fun h0 => by rw [h9] at h0; cases h0⟩
  · have h9 : (mc9 c).eErr = 7 := by
      have b7 : (mc7 c).Bad := keyed_bad (num_bad (keyed_bad hb keyRe) 0 64) keySa
      have b8 : (mc8 c).Bad := by unfold mc8; rw [nums_bad b7]; exact b7
      exact err_bad (end_bad b8)
    have h10 : (rc8 c).eErr = 7 := by
      have b7 : (rc7 c).Bad := keyed_bad (num_bad (keyed_sign hs keyRe) 0 64) keySa
      have b8 : (rc8 c).Bad := by unfold rc8; rw [rnums_bad b7]; exact b7
      exact err_bad b8
    exact ⟨by rw [h9, h10], fun h0 => by rw [h9] at h0; cases h0⟩
end Go.Proofs.YtjmdgbgjleeloaaGreatDoor
namespace Go.Proofs.YtjmdgbgjleeloaaGreatDoor
open Go.RowKit

set_option maxHeartbeats 1000000 in
set_option maxRecDepth 100000 in
theorem rhas_any (l : List Int) (v : Int) (a : Option Addr) (c : Nat) (w : World) (hl : l.length ≤ 140737488355328) (hI : IntsW w a l) :
    Calls Tryz.prog 141 #[.slice a l.length c, .int .i64 v] w fun e w' => e = .returned (.bool (l.contains v)) ∧ w = w' := by
  have HI := Lib.hid hI
  clear hI
  go_enter Tryz.func141, Tryz.ntmps141
  go_wp2
  go_loopw [5] (fun k wr => ∃ j : Nat, k = .int .i64 j ∧ j ≤ l.length ∧ Hid (l.contains v = (l.drop j).contains v) ∧ w = wr) (fun k _ => l.length - (intOf k).toNat)
  case atStart => exact ⟨0, rfl, Nat.zero_le _, rfl, rfl⟩
  case round =>
    obtain ⟨j, rfl, hj, HA, rfl⟩ := hrel
    by_cases hlt : j < l.length
    · have hlt' : (j : Int) < l.length := by omega
      have hj0 : (0 : Int) ≤ j := by omega
      obtain ⟨x, hx⟩ : ∃ x, l[j]? = some x := ⟨_, List.getElem?_eq_getElem hlt⟩
      obtain ⟨g, o, rfl, hg, h0⟩ := HI.out j x hx
      have HD : Hid (l.contains v = (v == x || (l.drop (j + 1)).contains v)) := by
        show _ = _
        rw [HA.out, List.drop_eq_getElem_cons hlt, (List.getElem?_eq_some_iff.1 hx).2]
        rw [List.contains_cons]
      clear hx HA
      cases hq : v == x
      · have hq2 : (x == v) = false := by rw [beq_eq_false_iff_ne] at hq ⊢; exact fun e => hq e.symm
        rw [hq] at HD
        go_wp2
        go_roundw
        case rel => exact ⟨j + 1, by go_num, by omega, by have := HD.out; simpa [Hid] using this, trivial⟩
        case measure => simp [intOf]; omega
      · have hq2 : (x == v) = true := by rw [beq_iff_eq] at hq ⊢; exact hq.symm
        rw [hq] at HD
        go_wp2
        go_ret
        exact ⟨by rw [HD.out]; simp, rfl⟩
    · have e : j = l.length := by omega
      subst e
      go_wp2
      go_ret
      exact ⟨by rw [HA.out]; simp, rfl⟩
theorem reg_no {m : Mm} {x : Int} (h : x < 0 ∨ m.regs ≤ x) : m.regB x = false := by
  unfold Mm.regB
  rw [Bool.and_eq_false_iff]
  rcases h with h | h
  · exact .inl (by simpa using h)
  · exact .inr (by simpa using h)
theorem reg_yes {m : Mm} {x : Int} (h0 : 0 ≤ x) (h1 : x < m.regs) : m.regB x = true := by
  unfold Mm.regB
  simp [h0, h1]
set_option maxHeartbeats 8000000 in
set_option maxRecDepth 100000 in
theorem rright_any (m : Mm) (aa sa : Option Addr) (ac sc : Nat) (w : World) (hl : m.args.length ≤ 140737488355328) (hs : m.saved.length ≤ 140737488355328) (hc : m.args.length ≤ ac) (hM : MaW w m aa sa) :
    Calls Tryz.prog 100 #[machV m aa ac sa sc] w fun e w' => e = .returned (.bool m.rightB) ∧ Below w.heap.size w w' := by
  have HB0 : Hid (Below w.heap.size w (w.alloc (.cells (maxC m aa ac sa sc) 39))) := (Below.refl _ w).alloc (Nat.le_refl _) _
  have HX0 : Hid (Blk (w.alloc (.cells (maxC m aa ac sa sc) 39)) w.heap.size 39 (maxC m aa ac sa sc)) := Blk.new w _ _
  have HI := Lib.hid (hM.below HB0.out)
  have HM : Hid (maxC m aa ac sa sc = _) := maxC.eq_1 m aa ac sa sc
  have NH := Lib.hid (@right_no_head m)
  have NA := Lib.hid (fun i x => @right_no_arg m i x)
  have NS := Lib.hid (fun i x => @right_no_saved m i x)
  have YS := Lib.hid (right_char m)
  have SM : Hid (m.smallB = (decide (1 ≤ m.regs) && decide (m.regs ≤ 64) && decide (m.args.length ≤ 8) && decide ((m.saved.length : Int) ≤ m.regs))) := rfl
  unfold machV
  clear hM
  rw [HM.out] at HB0 HX0 HI ⊢
  generalize m.rightB = R at *
  generalize hW : w.alloc (.cells #[.int .i64 m.regs, .slice aa m.args.length ac, .int .i64 m.ret, .slice sa m.saved.length sc] 39) = W at HB0 HX0 HI
  have HAS := Lib.hid (rhas_any m.saved m.ret sa sc W hs HI.out.saved)
  obtain ⟨c0, c1, c2, c3⟩ := boxMa (m := m) (aa := aa) (sa := sa) (ac := ac) (sc := sc) HX0.out
  have HWW := Lib.hid hW
  go_enter Tryz.func100, Tryz.ntmps100
  go_upto_region 1 with fail
  clear hW
  have no : Hid (∀ b : Prop, b → (¬ (m.smallB = true ∧ m.regB m.ret = true ∧ m.saved.contains m.ret = false)) → Ending.returned (.bool false) = Ending.returned (.bool R)) := fun _ _ h => by rw [NH.out h]
  by_cases h1 : m.regs < 1
  · go_wp2
    go_ret
    exact ⟨no.out True trivial (by rw [SM.out]; simp; omega), HB0.out⟩
  by_cases h2 : 64 < m.regs
  · go_wp2
    go_ret
    exact ⟨no.out True trivial (by rw [SM.out]; simp; omega), HB0.out⟩
  by_cases h3 : (8 : Int) < m.args.length
  · go_wp2
    go_ret
    exact ⟨no.out True trivial (by rw [SM.out]; simp; omega), HB0.out⟩
  by_cases h4 : m.regs < m.saved.length
  · go_wp2
    go_ret
    exact ⟨no.out True trivial (by rw [SM.out]; simp; omega), HB0.out⟩
  by_cases h5 : m.ret < 0
  · go_wp2
    go_ret
    exact ⟨no.out True trivial (by rw [reg_no (.inl h5)]; simp), HB0.out⟩
  by_cases h6 : m.regs ≤ m.ret
  · go_wp2
    go_ret
    exact ⟨no.out True trivial (by rw [reg_no (.inr h6)]; simp), HB0.out⟩
  go_wp2_with fail
  refine HAS.out.mono ?_
  rintro e w1 ⟨rfl, rfl⟩
  cases h7 : m.saved.contains m.ret
  case true =>
    go_wp2
    go_ret
    exact ⟨no.out True trivial (by rw [h7]; simp), HB0.out⟩
  have YE : Hid (OkA m m.args.length → OkS m m.saved.length → R = true) := fun ha hs2 => YS.out.2 ⟨⟨by rw [SM.out]; simp; omega, reg_yes (by omega) (by omega), h7⟩, ha, hs2⟩
  clear no NH HAS YS SM
  have hreg : m.regs ≤ 64 := by omega
  have hal : m.args.length ≤ 8 := by omega
  have hsl : m.saved.length ≤ 64 := by omega
  clear h1 h2 h3 h4 h5 h6 h7
  go_wp2
  go_loopw [3] (fun k wr => ∃ j : Nat, k = .int .i64 j ∧ j ≤ m.args.length ∧ OkA m j ∧ Below W.heap.size W wr) (fun k _ => m.args.length - (intOf k).toNat)
  case atStart => exact ⟨0, rfl, Nat.zero_le _, fun k x hk => by omega, Below.refl _ _⟩
  case round =>
    obtain ⟨j, rfl, hj, hA, hB⟩ := hrel
    have HA := Lib.hid hA
    have HB := Lib.hid hB
    have HX := Lib.hid (HX0.out.below hB HX0.out.lt)
    have HI2 := Lib.hid (HI.out.below hB)
    clear hA hB c0 c1 c2 c3
    obtain ⟨c0, c1, c2, c3⟩ := boxMa (m := m) (aa := aa) (sa := sa) (ac := ac) (sc := sc) HX.out
    by_cases hlt : j < m.args.length
    · have hlt' : (j : Int) < m.args.length := by omega
      have hj0 : (0 : Int) ≤ j := by omega
      have hlc : (j : Int) ≤ ac := by omega
      obtain ⟨x, hx⟩ : ∃ x, m.args[j]? = some x := ⟨_, List.getElem?_eq_getElem hlt⟩
      obtain ⟨g, o, rfl, hg, h0⟩ := HI2.out.args j x hx
      have NO := Lib.hid (NA.out j x hx)
      have NX := Lib.hid (fun a b => ok_a_next HA.out hx a b)
      have HT : Hid (IntsW wr (some ⟨g, o, none⟩) (m.args.take j)) := fun k y hy => by
        rw [List.getElem?_take] at hy
        split at hy
        · exact HI2.out.args k y hy
        · cases hy
      have HH := Lib.hid (fun d => rhas_any (m.args.take j) x (some ⟨g, o, none⟩) ac (wr.drewN d) (by simp; omega) HT.out)
      rw [show (m.args.take j).length = j by simp; omega] at HH
      clear hx
      by_cases h1 : x < 0
      · have d1 : decide (x < 0) = true := decide_eq_true h1
        go_wp2
        go_quiet (fail)
        go_wp2
        go_ret
        exact ⟨by rw [NO.out (by rw [reg_no (.inl h1)]; simp)]; rfl, HB0.out.trans ((below_draws HB.out _).mono HB0.out.size)⟩
      have d1 : decide (x < 0) = false := decide_eq_false h1
      by_cases h2 : m.regs ≤ x
      · have d2 : decide (m.regs ≤ x) = true := decide_eq_true h2
        go_wp2
        go_quiet (fail)
        go_wp2
        go_ret
        exact ⟨by rw [NO.out (by rw [reg_no (.inr h2)]; simp)]; rfl, HB0.out.trans ((below_draws HB.out _).mono HB0.out.size)⟩
      have d2 : decide (m.regs ≤ x) = false := decide_eq_false h2
      have hrx := reg_yes (m := m) (x := x) (by omega) (by omega)
      cases h3 : (m.args.take j).contains x
      · rw [h3] at HH
        have NN := Lib.hid (NX.out hrx h3)
        clear NX NO HA hrx h3
        go_wp2
        go_quiet (first | (go_at_call 141; refine Calls.quiet_of_same ((HH.out _).mono fun _ _ h => ⟨h.1, h.2.symm⟩)))
        go_wp2
        go_roundw
        case rel => exact ⟨j + 1, by go_num, by omega, NN.out, below_draws HB.out _⟩
        case measure => simp [intOf]; omega
      · rw [h3] at HH
        have NN := Lib.hid (NO.out (by rw [h3]; simp))
        clear NX NO HA hrx h3
        go_wp2
        go_quiet (first | (go_at_call 141; refine Calls.quiet_of_same ((HH.out _).mono fun _ _ h => ⟨h.1, h.2.symm⟩)))
        go_wp2
        go_ret
        exact ⟨by rw [NN.out]; rfl, HB0.out.trans ((below_draws HB.out _).mono HB0.out.size)⟩
    · have e : j = m.args.length := by omega
      subst e
      have YE2 : Hid (OkS m m.saved.length → R = true) := YE.out HA.out
      have hlt' : ¬ ((m.args.length : Nat) : Int) < m.args.length := by omega
      clear YE HA NA hlt
      go_wp2
      go_loopw [4] (fun k wr => ∃ j : Nat, k = .int .i64 j ∧ j ≤ m.saved.length ∧ OkS m j ∧ Below W.heap.size W wr) (fun k _ => m.saved.length - (intOf k).toNat)
      case atStart => exact ⟨0, rfl, Nat.zero_le _, fun k x hk => by omega, HB.out⟩
      case round =>
        obtain ⟨j, rfl, hj, hA, hB⟩ := hrel
        have HA := Lib.hid hA
        have HB := Lib.hid hB
        have HX := Lib.hid (HX0.out.below hB HX0.out.lt)
        have HI2 := Lib.hid (HI.out.below hB)
        clear hA hB c0 c1 c2 c3
        obtain ⟨c0, c1, c2, c3⟩ := boxMa (m := m) (aa := aa) (sa := sa) (ac := ac) (sc := sc) HX.out
        by_cases hlt : j < m.saved.length
        · have hlt' : (j : Int) < m.saved.length := by omega
          have hj0 : (0 : Int) ≤ j := by omega
          obtain ⟨x, hx⟩ : ∃ x, m.saved[j]? = some x := ⟨_, List.getElem?_eq_getElem hlt⟩
          obtain ⟨g, o, rfl, hg, h0⟩ := HI2.out.saved j x hx
          have NO := Lib.hid (NS.out j x hx)
          have NX := Lib.hid (fun a b => ok_s_next HA.out hx a b)
          by_cases h1 : x < 0
          · have d1 : decide (x < 0) = true := decide_eq_true h1
            clear hx
            go_wp2
            go_quiet (fail)
            go_wp2
            go_ret
            exact ⟨by rw [NO.out (by rw [reg_no (.inl h1)]; simp)]; rfl, HB0.out.trans ((below_draws HB.out _).mono HB0.out.size)⟩
          have d1 : decide (x < 0) = false := decide_eq_false h1
          by_cases h2 : m.regs ≤ x
          · have d2 : decide (m.regs ≤ x) = true := decide_eq_true h2
            clear hx
            go_wp2
            go_quiet (fail)
            go_wp2
            go_ret
            exact ⟨by rw [NO.out (by rw [reg_no (.inr h2)]; simp)]; rfl, HB0.out.trans ((below_draws HB.out _).mono HB0.out.size)⟩
          have d2 : decide (m.regs ≤ x) = false := decide_eq_false h2
          have hrx := reg_yes (m := m) (x := x) (by omega) (by omega)
          by_cases hz : j = 0
          · subst hz
            have NN := Lib.hid (NX.out hrx (fun h => absurd h (by omega)))
            have d3 : decide ((0 : Int) < ((0 : Nat) : Int)) = false := by decide
            have d3' : decide ((0 : Int) < 0) = false := by decide
            have hl0 : (0 : Int) < m.saved.length := by omega
            rw [Nat.add_zero] at h0
            clear NX NO HA hx hrx
            go_wp2
            go_quiet (fail)
            go_wp2
            go_roundw
            case rel => exact ⟨1, by go_num, by omega, NN.out, below_draws HB.out _⟩
            case measure => simp [intOf]; omega
          · obtain ⟨y, hy⟩ : ∃ y, m.saved[j - 1]? = some y := ⟨_, List.getElem?_eq_getElem (by omega)⟩
            obtain ⟨g', o', e, _, h9⟩ := HI2.out.saved (j - 1) y hy
            simp only [Option.some.injEq, Addr.mk.injEq, and_true] at e
            obtain ⟨rfl, rfl⟩ := e
            have d3 : decide ((0 : Int) < (j : Int)) = true := decide_eq_true (by omega)
            have d3' : decide (0 < j) = true := decide_eq_true (by omega)
            have d4 : (0 : Int) ≤ (j : Int) - 1 := by omega
            have d5 : (j : Int) - 1 < m.saved.length := by omega
            have d6 : IntKind.i64.wrap ((j : Int) - 1) = (j : Int) - 1 := by rw [IntKind.wrap_i64]; omega
            by_cases h3 : x ≤ y
            · have d7 : decide (x ≤ y) = true := decide_eq_true h3
              have NN := Lib.hid (NO.out (fun h => by have := h.2 (by omega) y hy; omega))
              clear NX NO HA hx hy hrx
              go_wp2
              go_quiet (fail)
              go_wp2
              go_ret
              exact ⟨by rw [NN.out]; rfl, HB0.out.trans ((below_draws HB.out _).mono HB0.out.size)⟩
            · have d7 : decide (x ≤ y) = false := decide_eq_false h3
              have NN := Lib.hid (NX.out hrx (fun _ z hz => by rw [hy] at hz; injection hz with hz; omega))
              clear NX NO HA hx hy hrx
              go_wp2
              go_quiet (fail)
              go_wp2
              go_roundw
              case rel => exact ⟨j + 1, by go_num, by omega, NN.out, below_draws HB.out _⟩
              case measure => simp [intOf]; omega
        · have e : j = m.saved.length := by omega
          subst e
          have hlt' : ¬ ((m.saved.length : Nat) : Int) < m.saved.length := by omega
          have YY := YE2.out HA.out
          go_wp2
          go_ret
          exact ⟨by first | rfl | (rw [YY]; rfl), HB0.out.trans (HB.out.mono HB0.out.size)⟩
end Go.Proofs.YtjmdgbgjleeloaaGreatDoor
