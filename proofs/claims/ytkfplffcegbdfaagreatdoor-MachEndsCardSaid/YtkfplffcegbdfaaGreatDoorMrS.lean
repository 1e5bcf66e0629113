/-
  The walk of the statement MachReads: it answers true for any text, and turns nothing that was there. No condition beyond those that each theorem states.
-/
import Derived.Test.YtkfplffcegbdfaaGreatDoorROver
import Derived.Test.YtkfplffcegbdfaaGreatDoorMaH
import Derived.Test.YtkfplffcegbdfaaGreatDoorMrA
import Derived.Test.YtkfplffcegbdfaaGreatDoorMaO
import Derived.Test.YtkfplffcegbdfaaGreatDoorMaY
namespace Go.Proofs.YtkfplffcegbdfaaGreatDoor
open Go.RowKit

theorem CurR.grown {w w' : World} {g : Nat} {c : Cu} {row : Option Nat} (h : CurR w g c) (hb : w.grownBy w' row) (hr : ∀ k t cs, Blk w k t cs → 3 ≠ t → some k ≠ row) : CurR w' g c := by
  obtain ⟨a, cap, L, hc, hf, hl, hm, hi⟩ := h
  refine ⟨a, cap, L, hc.grown hb (hr _ _ _ hc (by decide)), hf, hl, hm, fun k x hx => ?_⟩
  obtain ⟨gg, o, cs, ha, hg, r⟩ := hi k x hx
  exact ⟨gg, o, cs, ha, hg.grown hb (hr _ _ _ hg (by decide)), r⟩
set_option maxRecDepth 100000 in
theorem rkey_any (g : Nat) (c : Cu) (s : ByteArray) (w : World) (h : CurR w g c) (hok : c.Ok) :
    Calls Tryz.prog 66 #[.pointer (some ⟨g, 0, none⟩), .string s] w fun e w' => e = .returned (.tuple #[]) ∧ CurR w' g (c.keyed s) ∧ Keep w.heap.size g w w' := by
  have K := Lib.hid (keyR_any g c s w h hok)
  have F : Hid (∀ w1, CurR w1 g (c.key s) → _) := fun w1 h1 => failR_any g _ 7 w1 h1 (hok.key s)
  have E : Hid (c.keyed s = if c.keyB s then c.key s else (c.key s).fail 7) := rfl
  clear h hok
  generalize c.keyed s = D at *
  generalize c.key s = c1 at *
  cases hb : c.keyB s
  · rw [hb] at K E
    clear hb
    go_enter Tryz.func66, Tryz.ntmps66
    go_wp2_with fail
    refine K.out.mono ?_
    rintro e w1 ⟨rfl, h1, k1⟩
    have F1 := Lib.hid (F.out w1 h1)
    have K1 := Lib.hid k1
    clear h1 k1 F K
    go_wp2_with fail
    refine F1.out.mono ?_
    rintro e w2 ⟨rfl, h2, k2⟩
    have H2 := Lib.hid h2
    have K2 := Lib.hid (K1.out.then_keep k2)
    clear h2 k2 F1
    go_wp2
    go_end0
    exact ⟨rfl, by rw [E.out]; exact H2.out, K2.out⟩
  · rw [hb] at K E
    clear hb
    go_enter Tryz.func66, Tryz.ntmps66
    go_wp2_with fail
    refine K.out.mono ?_
    rintro e w1 ⟨rfl, h1, k1⟩
    have H1 := Lib.hid h1
    have K1 := Lib.hid k1
    clear h1 k1 F K
    go_wp2
    go_end0
    exact ⟨rfl, by rw [E.out]; exact H1.out, K1.out⟩
set_option maxHeartbeats 2000000 in
set_option maxRecDepth 100000 in
theorem rnums_any (g : Nat) (c : Cu) (w : World) (h : CurR w g c) (ho : c.Ok) (hl : c.left.length ≤ 1000000) :
    Calls Tryz.prog 68 #[.pointer (some ⟨g, 0, none⟩)] w fun e w' => ∃ a cap, e = .returned (.slice a (c.rnums []).2.length cap) ∧ OwnM w' w.heap.size (.slice a (c.rnums []).2.length cap) (c.rnums []).2 ∧ CurR w' g (c.rnums []).1 ∧ Keep w.heap.size g w w' := by
  obtain ⟨i0, hi0, hz0, hz1, hz2⟩ := info_parts intM_info
  have H := Lib.hid h
  have OK := Lib.hid ho
  have L := Lib.hid hl
  clear h ho hl
  go_enter Tryz.func68, Tryz.ntmps68
  go_wp2
  go_loopg [3] c.left.length (fun gk v wr => ∃ (d : Cu) (l : List Int) (a : Option Addr) (cap : Nat), v = .slice a l.length cap ∧ d.left.length ≤ gk ∧ l.length + d.left.length ≤ 1000000 ∧ d.Ok ∧ Hid (c.rnums [] = d.rnums l) ∧ OwnM wr w.heap.size v l ∧ CurR wr g d ∧ Keep w.heap.size g w wr)
  case atStart => exact ⟨c, [], none, 0, rfl, Nat.le_refl _, by have := L.out; simp; omega, OK.out, rfl, World.ownsRow_nil _ _ _ _, H.out, Keep.refl _ _ _⟩
  case round =>
    obtain ⟨d, l, a, cap, rfl, hg, hlen, hok, HN, hO, hc, hk⟩ := hrel
    have HO := Lib.hid hO
    have HC := Lib.hid hc
    have HK := Lib.hid hk
    have E := Lib.hid (moreR_any g d wr hc hok)
    clear hO hk H
    cases hdl : d.left with
    | nil =>
      have hm : d.more = false := by unfold Cu.more; rw [hdl]; rfl
      have HS := Lib.hid (rnums_stop (c := d) (by unfold Cu.isNum; rw [hdl]; rfl) l)
      rw [hm] at E
      clear hc hdl hm hok
      go_wp2_with fail
      refine E.out.mono ?_
      rintro e w1 ⟨rfl, rfl⟩
      go_wp2
      go_ret
      have HE := HN.out.trans HS.out
      rw [HE]
      exact ⟨a, cap, rfl, HO.out, HC.out, HK.out⟩
    | cons x r =>
      have hm : d.more = true := by unfold Cu.more; rw [hdl]; rfl
      rw [hm] at E
      obtain ⟨_, gg, o, cp, hb, hcap, hcm, _, hgl, n0, _, _, _, _⟩ := hc.some_ hok hdl
      have m0 : wr.cell? ⟨g, 0, none⟩ = some (.slice (some ⟨gg, o, none⟩) (r.length + 1) cp) := hb.cell 0
      have hr0 : (0 : Int) < ((r.length + 1 : Nat) : Int) := by omega
      have hr1 : (0 : Int) < (r.length : Int) + 1 := by omega
      by_cases hk2 : x.k = 2
      · have hi : d.isNum = true := by unfold Cu.isNum; rw [hdl]; simp [hk2]
        rw [hk2] at n0
        have hless := num_left hok hi 0 64
        have HS := Lib.hid (rnums_step hok hi l)
        have hok2 := hok.num 0 64
        have N := Lib.hid (numR_any g d 0 64 wr hc hok)
        have CB := Lib.hid hc.blk
        generalize d.num 0 64 = d2 at *
        generalize d.numN 0 64 = y at *
        clear hc hb hi hok hm hcap hcm
        cases gk with
        | zero => exfalso; omega
        | succ gk =>
          go_wp2_with fail
          refine E.out.mono ?_
          rintro e w1 ⟨rfl, rfl⟩
          go_wp2_with fail
          refine N.out.mono ?_
          rintro e w3 ⟨rfl, h3, k3⟩
          have C3 := Lib.hid h3
          have K3 := Lib.hid (HK.out.then_keep k3)
          have O3 : Hid (OwnM w3 w.heap.size (.slice a l.length cap) l) := by
            obtain ⟨cs, hcs⟩ := CB.out
            exact HO.out.kept k3 hcs (by decide)
          clear h3 k3 N HC HK HO CB m0 n0
          have hsz := K3.out.size
          go_wp2_with (at_builtin; go_must (refine wpList_append_lies _ rfl _ _ _ rfl w.heap.size 3 i0 _ 1 8 Tryz.underlying22 hi0 hz0 hz1 hz2 rfl (by omega) (.slice a l.length cap) l.length (l.map (Value.int .i64)) rfl (World.ownsRow.alloc O3.out _) ⟨w3.heap.size, 0, none⟩ 1 1 [.int .i64 y] rfl rfl (World.news_of_block (heap_alloc_new w3 _)) (by simp [Value.oneCell']) (by omega) (by simp only [maxLen]; omega) (by omega) (by simp; omega) (w3.heap.size + 1) (by simp) ?_; intro g4 cap4 w4 hown4 hgrow hat hlt4))
          have O4 := Lib.hid (OwnM.more hown4)
          have hrow : ∀ k t cs, Blk (w3.alloc (.cells #[.int .i64 y] 3)) k t cs → 3 ≠ t → some k ≠ (Value.slice a l.length cap).ownBlock := fun k t cs hk ht => own_far (World.ownsRow.alloc O3.out _) hk ht
          have C4 : Hid (CurR w4 g d2) := (C3.out.below ((Below.refl _ _).alloc (Nat.le_refl _) _)).grown hgrow hrow
          have K4 : Hid (Keep w.heap.size g w w4) := (K3.out.trans (Keep.alloc hsz g _)).trans (Keep.grown hgrow (by simp; omega) (fun k hk => (O3.out.lt k hk).1) g)
          clear hown4 hgrow hat hlt4 hrow C3 K3 O3
          go_wp2
          go_roundg gk
          case measure => omega
          case rel => exact ⟨d2, l ++ [y], some ⟨g4, 0, none⟩, cap4, by simp, by omega, by simp; omega, hok2, HN.out.trans HS.out, O4.out, C4.out, K4.out⟩
      · have hq : (x.k == 2) = false := by simpa using hk2
        have HS := Lib.hid (rnums_stop (c := d) (by unfold Cu.isNum; rw [hdl]; exact hq) l)
        clear hc hb hdl hm hok hcap hcm
        go_wp2_with fail
        refine E.out.mono ?_
        rintro e w1 ⟨rfl, rfl⟩
        go_wp2
        go_ret
        have HE := HN.out.trans HS.out
        rw [HE]
        exact ⟨a, cap, rfl, HO.out, HC.out, HK.out⟩
end Go.Proofs.YtkfplffcegbdfaaGreatDoor
namespace Go.Proofs.YtkfplffcegbdfaaGreatDoor
open Go.RowKit

theorem pruned_last (ws : List Wd) (hk : ∀ x ∈ ws, x.k = 1 ∨ x.k = 2 ∨ x.k = 3 ∨ x.k = 4) : ∀ st : Option Wd × List Wd, (∀ e, st.1 = some e → e.k = 4) → (∀ y, st.2.getLast? = some y → y.k ≠ 4) → ∀ y, (ws.foldl stepC st).2.getLast? = some y → y.k ≠ 4 := by
  induction ws with
  | nil => intro st _ h2 y hy; exact h2 y hy
  | cons x ws ih =>
    intro st h1 h2
    obtain ⟨g1, g2, _⟩ := prune_step st _ x (hk x (by simp)) h1 h2 rfl
    exact ih (fun y hy => hk y (by simp [hy])) _ g1 g2
theorem part_pos {s : ByteArray} {i j : Nat} (h1 : i < j) (h2 : j ≤ s.size) : partOf s i j ≠ ⟨#[]⟩ := by
  intro e
  have h3 : (partOf s i j).size = j - i := by
    unfold partOf
    simp [ByteArray.size_extract]
    omega
  rw [e] at h3
  have : (⟨#[]⟩ : ByteArray).size = 0 := rfl
  omega
theorem go_names (s : ByteArray) : ∀ (f i : Nat) (out : List Wd) (l c : Int) (r : Bool), (∀ x ∈ out, x.k = 1 → x.t ≠ ⟨#[]⟩) → i ≤ s.size → ∀ x ∈ (refGo s f out l c r i).1, x.k = 1 → x.t ≠ ⟨#[]⟩ := by
  intro f
  induction f with
  | zero => intro i out l c r h _; rw [refGo]; exact h
  | succ f ih =>
    intro i out l c r h hi
    have more : ∀ y : Wd, (y.k = 1 → y.t ≠ ⟨#[]⟩) → ∀ x ∈ out ++ [y], x.k = 1 → x.t ≠ ⟨#[]⟩ := by
      intro y hy x hx
      rcases List.mem_append.1 hx with hx | hx
      · exact h x hx
      · simp at hx; subst hx; exact hy
    rw [refGo]
    by_cases hlt : i < s.size
    · rw [if_pos hlt]
      have hal := atP_le s i hlt
      by_cases hm : (atP s i).2 = 0
      · rw [if_pos hm]; simp
      rw [if_neg hm]
      split
      · exact ih _ _ _ _ _ (more _ (fun h => by simp at h)) (by omega)
      split
      · exact ih _ _ _ _ _ h hal
      split
      · have hle := numLen_le s i hlt
        split
        · split
          · simp
          · exact ih _ _ _ _ _ (more _ (fun h => by simp at h)) hle
        · simp
      split
      · rename_i hl
        split
        · simp
        · have hr := runTo_le s false i hi
          have hpos : i < (runTo s false i).1 := by
            unfold runTo
            obtain ⟨q, hq⟩ : ∃ q, s.size = q + 1 := ⟨s.size - 1, by omega⟩
            rw [hq, runEnd, if_pos hlt, if_neg (by simp [stopB, hl]; omega)]
            have := (runEnd_le s false q (i + (atP s i).2) (0 + 1) hal).1
            omega
          exact ih _ _ _ _ _ (more _ (fun _ => part_pos hpos hr.2.1)) hr.2.1
      split
      · exact ih _ _ _ _ _ (more _ (fun h => by simp at h)) hal
      · simp
    · rw [if_neg hlt]
      exact h
theorem read_names (s : ByteArray) : ∀ x ∈ readWords s, x.k = 1 → x.t ≠ ⟨#[]⟩ := by
  have h := go_names s s.size 0 [] 1 1 false (by simp) (by omega)
  have e := read_eq s
  unfold refRead at e
  rw [e] at h
  exact h
theorem start_neat (s : ByteArray) : (startC s).Neat := by
  refine ⟨start_ok s, fun x hx h1 => ?_, ?_⟩
  · have hx : x ∈ pruned (readWords s) := hx
    rcases pruned_mem (readWords s) (none, []) (fun _ h => by simp at h) x hx with h | h | h
    · exact read_names s x h h1
    · simp at h
    · simp at h
  · exact pruned_last (readWords s) (read_kinds s) (none, []) (fun _ h => by simp at h) (fun _ h => by simp at h)
theorem own_cap {w : World} {B : Nat} {e : TypeId} {a : Option Addr} {n c : Nat} {xs : List Value} (h : w.ownsRow B e 1 (.slice a n c) n xs) : n ≤ c := by
  rcases h.2 with ⟨hv, hn⟩ | ⟨g, cap, cur, hv, _, _, hcap, _⟩
  · omega
  · simp only [Value.slice.injEq] at hv
    omega
/-- A machine that is being got by the document's way. -/
structure Mr (w w' : World) (g : Nat) (c : Cu) (m : Mm) (aa : Option Addr) (ac : Nat) (sa : Option Addr) (sc : Nat) : Prop where
  C : CurR w' g c
  B : Blk w' w.heap.size 24 (maxC m aa ac sa sc)
  A : OwnM w' w.heap.size (.slice aa m.args.length ac) m.args
  S : OwnM w' w.heap.size (.slice sa m.saved.length sc) m.saved
  K : Keep w.heap.size g w w'
section
variable {w w1 w2 : World} {g : Nat} {c d : Cu} {m : Mm} {aa sa : Option Addr} {ac sc : Nat}
theorem Mr.call (h : Mr w w1 g c m aa ac sa sc) (hc : CurR w2 g d) (k : Keep w1.heap.size g w1 w2) : Mr w w2 g d m aa ac sa sc := by
  obtain ⟨cs, hcs⟩ := h.C.blk
  exact ⟨hc, Blk.keep h.B k (blk_ne h.B hcs (by decide)), h.A.kept k hcs (by decide), h.S.kept k hcs (by decide), h.K.then_keep k⟩
theorem Mr.far (h : Mr w w1 g c m aa ac sa sc) (u : Value) (j : Nat) : CurR (w1.setCell ⟨w.heap.size, j, none⟩ u) g c ∧ (∀ {v : Value} {l : List Int}, OwnM w1 w.heap.size v l → OwnM (w1.setCell ⟨w.heap.size, j, none⟩ u) w.heap.size v l) ∧ Keep w.heap.size g w (w1.setCell ⟨w.heap.size, j, none⟩ u) :=
  ⟨h.C.keep (Keep.put _ _ _ _ _) h.B (by decide) (by decide), fun ho => own_put ho (own_far ho h.B (by decide)) u, h.K.trans (Keep.putFar (p := ⟨w.heap.size, j, none⟩) (Nat.le_refl _) u)⟩
theorem Mr.put0 (h : Mr w w1 g c m aa ac sa sc) (r : Int) : Mr w (w1.setCell ⟨w.heap.size, 0, none⟩ (.int .i64 r)) g c { m with regs := r } aa ac sa sc := by
  obtain ⟨a, o, k⟩ := h.far (.int .i64 r) 0
  exact ⟨a, h.B.put 0 _, o h.A, o h.S, k⟩
theorem Mr.put2 (h : Mr w w1 g c m aa ac sa sc) (r : Int) : Mr w (w1.setCell ⟨w.heap.size, 2, none⟩ (.int .i64 r)) g c { m with ret := r } aa ac sa sc := by
  obtain ⟨a, o, k⟩ := h.far (.int .i64 r) 2
  exact ⟨a, h.B.put 2 _, o h.A, o h.S, k⟩
theorem Mr.put1 (h : Mr w w1 g c m aa ac sa sc) {l : List Int} {xa : Option Addr} {xc : Nat} (ho : OwnM w1 w.heap.size (.slice xa l.length xc) l) : Mr w (w1.setCell ⟨w.heap.size, 1, none⟩ (.slice xa l.length xc)) g c { m with args := l } xa xc sa sc := by
  obtain ⟨a, o, k⟩ := h.far (.slice xa l.length xc) 1
  exact ⟨a, h.B.put 1 _, o ho, o h.S, k⟩
theorem Mr.put3 (h : Mr w w1 g c m aa ac sa sc) {l : List Int} {xa : Option Addr} {xc : Nat} (ho : OwnM w1 w.heap.size (.slice xa l.length xc) l) : Mr w (w1.setCell ⟨w.heap.size, 3, none⟩ (.slice xa l.length xc)) g c { m with saved := l } aa ac xa xc := by
  obtain ⟨a, o, k⟩ := h.far (.slice xa l.length xc) 3
  exact ⟨a, h.B.put 3 _, o h.A, o ho, k⟩
theorem Mr.key (h : Mr w w1 g c m aa ac sa sc) (ho : c.Ok) (s : ByteArray) : Calls Tryz.prog 66 #[.pointer (some ⟨g, 0, none⟩), .string s] w1 fun e w' => e = .returned (.tuple #[]) ∧ Mr w w' g (c.keyed s) m aa ac sa sc :=
  (rkey_any g c s w1 h.C ho).mono fun _ _ ⟨h1, h2, h4⟩ => ⟨h1, h.call h2 h4⟩
theorem Mr.num (h : Mr w w1 g c m aa ac sa sc) (ho : c.Ok) : Calls Tryz.prog 67 #[.pointer (some ⟨g, 0, none⟩), .int .i64 0, .int .i64 64] w1 fun e w' => e = .returned (.int .i64 (c.numN 0 64)) ∧ Mr w w' g (c.num 0 64) m aa ac sa sc :=
  (numR_any g c 0 64 w1 h.C ho).mono fun _ _ ⟨h1, h2, h4⟩ => ⟨h1, h.call h2 h4⟩
theorem Mr.nums (h : Mr w w1 g c m aa ac sa sc) (ho : c.Ok) (hl : c.left.length ≤ 1000000) : Calls Tryz.prog 68 #[.pointer (some ⟨g, 0, none⟩)] w1 fun e w' => ∃ xa xc, e = .returned (.slice xa (c.rnums []).2.length xc) ∧ OwnM w' w.heap.size (.slice xa (c.rnums []).2.length xc) (c.rnums []).2 ∧ Mr w w' g (c.rnums []).1 m aa ac sa sc :=
  (rnums_any g c w1 h.C ho hl).mono fun _ _ ⟨xa, xc, h1, h2, h3, h5⟩ => ⟨xa, xc, h1, own_base h2 h.K.size, h.call h3 h5⟩
theorem Mr.cells (h : Mr w w1 g c m aa ac sa sc) : (w1.cell? ⟨w.heap.size, 0, none⟩ = some (.int .i64 m.regs) ∧ w1.cell? ⟨w.heap.size, 1, none⟩ = some (.slice aa m.args.length ac) ∧ w1.cell? ⟨w.heap.size, 2, none⟩ = some (.int .i64 m.ret) ∧ w1.cell? ⟨w.heap.size, 3, none⟩ = some (.slice sa m.saved.length sc)) ∧
    (w1.frozen? ⟨w.heap.size, 0, none⟩ = false ∧ w1.frozen? ⟨w.heap.size, 1, none⟩ = false ∧ w1.frozen? ⟨w.heap.size, 2, none⟩ = false ∧ w1.frozen? ⟨w.heap.size, 3, none⟩ = false) :=
  ⟨boxMa h.B, h.B.free 0, h.B.free 1, h.B.free 2, h.B.free 3⟩
end
theorem rleft_go : ∀ (f : Nat) (c : Cu) (l : List Int), (rnumsGo f c l).1.left.length ≤ c.left.length := by
  intro f
  induction f with
  | zero => intro c l; exact Nat.le_refl _
  | succ f ih =>
    intro c l
    rw [rnumsGo]
    split
    · exact Nat.le_trans (ih _ _) (left_nums c 0 64)
    · exact Nat.le_refl _
theorem left_rc7 (c : Cu) : (rc7 c).left.length ≤ c.left.length := Nat.le_trans (left_keyed _ _) (Nat.le_trans (left_nums _ _ _) (Nat.le_trans (left_keyed _ _) (Nat.le_trans (rleft_go _ _ _) (left_mc3 c))))
theorem rlen : ∀ (f : Nat) (c : Cu) (l : List Int), (rnumsGo f c l).2.length ≤ l.length + f := by
  intro f
  induction f with
  | zero => intro c l; simp [rnumsGo]
  | succ f ih =>
    intro c l
    rw [rnumsGo]
    split
    · have := ih (c.num 0 64) (l ++ [c.numN 0 64])
      simp at this
      omega
    · simp only; omega
theorem gotR_small (c : Cu) (hl : c.left.length ≤ 1000000) : (gotR c).args.length ≤ 140737488355328 ∧ (gotR c).saved.length ≤ 140737488355328 := by
  have a1 := rlen (mc3 c).left.length (mc3 c) []
  have a2 := left_mc3 c
  have b1 := rlen (rc7 c).left.length (rc7 c) []
  have b2 := left_rc7 c
  constructor
  · show ((mc3 c).rnums []).2.length ≤ _
    unfold Cu.rnums
    simp at a1
    omega
  · show ((rc7 c).rnums []).2.length ≤ _
    unfold Cu.rnums
    simp at b1
    omega
theorem rtold_bad {c : Cu} (hn : c.Neat) (h : (rc8 c).eErr ≠ 0) : toldE c = (rc8 c).eErr ∧ toldM c = noM := by
  have e := (ways_same hn).1
  rw [← e] at h ⊢
  exact toldE_bad h
theorem rtold_wrong {c : Cu} (hn : c.Neat) (h : (rc8 c).eErr = 0) (hr : (gotR c).rightB = false) : toldE c = 2 ∧ toldM c = noM := by
  obtain ⟨e, g⟩ := ways_same hn
  rw [← e] at h
  rw [← g h] at hr
  exact toldE_wrong h hr
theorem rtold_right {c : Cu} (hn : c.Neat) (h : (rc8 c).eErr = 0) (hr : (gotR c).rightB = true) : toldE c = 0 ∧ toldM c = gotR c := by
  obtain ⟨e, g⟩ := ways_same hn
  rw [← e] at h
  rw [← g h] at hr ⊢
  exact toldE_right h hr
end Go.Proofs.YtkfplffcegbdfaaGreatDoor
namespace Go.Proofs.YtkfplffcegbdfaaGreatDoor
open Go.RowKit

set_option maxHeartbeats 4000000 in
set_option maxRecDepth 100000 in
theorem rparse_any (s : ByteArray) (w : World) (hz : s.size ≤ 100000) : Calls Tryz.prog 38 #[.string s] w fun e w' => ToldM s w w' e := by
  have hfew := start_few s
  have hb0 : Below w.heap.size w (w.alloc (.cells (maxC noM none 0 none 0) 24)) := (Below.refl _ w).alloc (Nat.le_refl _) _
  have hB0 : Hid (Blk (w.alloc (.cells (maxC noM none 0 none 0) 24)) w.heap.size 24 (maxC noM none 0 none 0)) := Blk.new w _ _
  have HB0 := Lib.hid hb0
  have OV := Lib.hid (overR0_any s (w.alloc (.cells (maxC noM none 0 none 0) 24)) (by omega))
  have NE := Lib.hid (start_neat s)
  have T : Hid (∀ w' e, (∃ aa ac sa sc, e = .returned (.tuple #[machV (toldM (startC s)) aa ac sa sc, .int .i64 (toldE (startC s))]) ∧ (OwnM w' w.heap.size (.slice aa (toldM (startC s)).args.length ac) (toldM (startC s)).args ∧ OwnM w' w.heap.size (.slice sa (toldM (startC s)).saved.length sc) (toldM (startC s)).saved) ∧ Below w.heap.size w w') → ToldM s w w' e) := fun _ _ h => h
  have FEW : Hid ((startC s).left.length ≤ 1000000) := by show _ ≤ _; omega
  clear hb0 hfew
  rw [show maxC noM none 0 none 0 = #[.int .i64 0, .slice none 0 0, .int .i64 0, .slice none 0 0] from rfl] at HB0 OV hB0
  have hlt : ¬ (262144 : Int) < s.size := by omega
  generalize startC s = c at *
  have BAD := Lib.hid (rtold_bad NE.out)
  have WRO := Lib.hid (rtold_wrong NE.out)
  have RIG := Lib.hid (rtold_right NE.out)
  have SM := Lib.hid (gotR_small c FEW.out)
  have G : Hid (gotR c = ⟨(mc1 c).numN 0 64, ((mc3 c).rnums []).2, (rc5 c).numN 0 64, ((rc7 c).rnums []).2⟩) := rfl
  have ok0 := NE.out.ok
  have k1 := mc1_ok ok0
  have k2 := mc2_ok ok0
  have k3 := mc3_ok ok0
  have k4 : (rc4 c).Ok := rnums_ok k3 []
  have k5 : (rc5 c).Ok := k4.keyed _
  have k6 : (rc6 c).Ok := k5.num 0 64
  have k7 : (rc7 c).Ok := k6.keyed _
  have k8 : (rc8 c).Ok := rnums_ok k7 []
  have l3 : (mc3 c).left.length ≤ 1000000 := Nat.le_trans (left_mc3 c) FEW.out
  have l7 : (rc7 c).left.length ≤ 1000000 := Nat.le_trans (left_rc7 c) FEW.out
  generalize toldM c = tm at *
  generalize toldE c = te at *
  go_enter Tryz.func38, Tryz.ntmps38
  go_wp2_with fail
  refine OV.out.mono ?_
  rintro e V ⟨g, rfl, h1, hg1, hb1⟩
  have B1 : Hid (Below w.heap.size w V) := HB0.out.trans (hb1.mono HB0.out.size)
  have R1 : Hid (Blk V w.heap.size 24 #[.int .i64 0, .slice none 0 0, .int .i64 0, .slice none 0 0]) := hB0.out.below hb1 hB0.out.lt
  have hgw : w.heap.size ≠ g := by have := hg1; simp at this; omega
  have hgw2 : w.heap.size ≤ g := by have := hg1; simp at this; omega
  have hbV : Below V.heap.size V (V.alloc (.cells (maxC noM none 0 none 0) 24)) := (Below.refl _ V).alloc (Nat.le_refl _) _
  have M0 : Hid (Mr V (V.alloc (.cells (maxC noM none 0 none 0) 24)) g c noM none 0 none 0) := ⟨h1.below hbV, Blk.new V _ _, World.ownsRow_nil _ _ _ _, World.ownsRow_nil _ _ _ _, Keep.of_below hbV g⟩
  have F0 := Lib.hid (M0.out.key ok0 keyMa)
  have F1 : Hid (∀ w1 m aa ac sa sc, Mr V w1 g (mc1 c) m aa ac sa sc → _) := fun w1 m aa ac sa sc hh => Mr.num hh k1
  have F2 : Hid (∀ w1 m aa ac sa sc, Mr V w1 g (mc2 c) m aa ac sa sc → _) := fun w1 m aa ac sa sc hh => Mr.key hh k2 keyAr
  have F3 : Hid (∀ w1 m aa ac sa sc, Mr V w1 g (mc3 c) m aa ac sa sc → _) := fun w1 m aa ac sa sc hh => Mr.nums hh k3 l3
  have F4 : Hid (∀ w1 m aa ac sa sc, Mr V w1 g (rc4 c) m aa ac sa sc → _) := fun w1 m aa ac sa sc hh => Mr.key hh k4 keyRe
  have F5 : Hid (∀ w1 m aa ac sa sc, Mr V w1 g (rc5 c) m aa ac sa sc → _) := fun w1 m aa ac sa sc hh => Mr.num hh k5
  have F6 : Hid (∀ w1 m aa ac sa sc, Mr V w1 g (rc6 c) m aa ac sa sc → _) := fun w1 m aa ac sa sc hh => Mr.key hh k6 keySa
  have F7 : Hid (∀ w1 m aa ac sa sc, Mr V w1 g (rc7 c) m aa ac sa sc → _) := fun w1 m aa ac sa sc hh => Mr.nums hh k7 l7
  have F8 : Hid (∀ w1 m aa ac sa sc, Mr V w1 g (rc8 c) m aa ac sa sc → _) := fun w1 m aa ac sa sc (hh : Mr V w1 g (rc8 c) m aa ac sa sc) => errR_any g (rc8 c) w1 hh.C k8
  have E1 : Hid (c.keyed keyMa = mc1 c) := rfl
  have E2 : Hid ((mc1 c).num 0 64 = mc2 c) := rfl
  have E3 : Hid ((mc2 c).keyed keyAr = mc3 c) := rfl
  have E4 : Hid (((mc3 c).rnums []).1 = rc4 c) := rfl
  have E5 : Hid ((rc4 c).keyed keyRe = rc5 c) := rfl
  have E6 : Hid ((rc5 c).num 0 64 = rc6 c) := rfl
  have E7 : Hid ((rc6 c).keyed keySa = rc7 c) := rfl
  have E8 : Hid (((rc7 c).rnums []).1 = rc8 c) := rfl
  rw [E1.out] at F0
  rw [E2.out] at F1
  rw [E3.out] at F2
  rw [E4.out] at F3
  rw [E5.out] at F4
  rw [E6.out] at F5
  rw [E7.out] at F6
  rw [E8.out] at F7
  unfold keyMa at F0
  unfold keyAr at F2
  unfold keyRe at F4
  unfold keySa at F6
  clear E1 E2 E3 E4 E5 E6 E7 E8 h1 hg1 hb1 hbV OV HB0 hB0 k1 k2 k3 k4 k5 k6 k7 k8 l3 l7 ok0 NE FEW
  rw [show maxC noM none 0 none 0 = #[.int .i64 0, .slice none 0 0, .int .i64 0, .slice none 0 0] from rfl] at M0 F0
  generalize (rc8 c).eErr = E at *
  generalize (rc8 c).eLine = EL at *
  generalize (rc8 c).eCol = EC at *
  generalize gotR c = gm at *
  generalize mc1 c = c1 at *
  generalize mc2 c = c2 at *
  generalize (mc3 c).rnums [] = n3 at *
  generalize mc3 c = c3 at *
  generalize rc4 c = c4 at *
  generalize rc5 c = c5 at *
  generalize rc6 c = c6 at *
  generalize (rc7 c).rnums [] = n7 at *
  generalize rc7 c = c7 at *
  generalize rc8 c = c8 at *
  go_wp2_with fail
  refine F0.out.mono ?_
  rintro e w1 ⟨rfl, h1⟩
  have M1 := Lib.hid h1
  clear h1 F0 M0
  go_wp2_with fail
  refine (F1.out _ _ _ _ _ _ M1.out).mono ?_
  rintro e w2 ⟨rfl, h2⟩
  have M2 := Lib.hid (Mr.put0 h2 (c1.numN 0 64))
  obtain ⟨⟨b0, _, _, _⟩, f0, _, _, _⟩ := h2.cells
  clear h2 M1 F1
  go_wp2_with fail
  refine (F2.out _ _ _ _ _ _ M2.out).mono ?_
  rintro e w3 ⟨rfl, h3⟩
  have M3 := Lib.hid h3
  clear h3 M2 F2 b0 f0
  go_wp2_with fail
  refine (F3.out _ _ _ _ _ _ M3.out).mono ?_
  rintro e w4 ⟨xa, xc, rfl, o4, h4⟩
  have M4 := Lib.hid (Mr.put1 h4 o4)
  obtain ⟨⟨_, b1, _, _⟩, _, f1, _, _⟩ := h4.cells
  clear h4 o4 M3 F3
  go_wp2_with fail
  refine (F4.out _ _ _ _ _ _ M4.out).mono ?_
  rintro e w5 ⟨rfl, h5⟩
  have M5 := Lib.hid h5
  clear h5 M4 F4 b1 f1
  go_wp2_with fail
  refine (F5.out _ _ _ _ _ _ M5.out).mono ?_
  rintro e w6 ⟨rfl, h6⟩
  have M6 := Lib.hid (Mr.put2 h6 (c5.numN 0 64))
  obtain ⟨⟨_, _, b2, _⟩, _, _, f2, _⟩ := h6.cells
  clear h6 M5 F5
  go_wp2_with fail
  refine (F6.out _ _ _ _ _ _ M6.out).mono ?_
  rintro e w7 ⟨rfl, h7⟩
  have M7 := Lib.hid h7
  clear h7 M6 F6 b2 f2
  go_wp2_with fail
  refine (F7.out _ _ _ _ _ _ M7.out).mono ?_
  rintro e w8 ⟨ya, yc, rfl, o8, h8⟩
  have M8 := Lib.hid (Mr.put3 h8 o8)
  obtain ⟨⟨_, _, _, b3⟩, _, _, _, f3⟩ := h8.cells
  clear h8 o8 M7 F7
  go_wp2_with fail
  refine (F8.out _ _ _ _ _ _ M8.out).mono ?_
  rintro e w9 ⟨rfl, hb9⟩
  have HG : Hid (Mr V w9 g c8 gm xa xc ya yc) := by
    have h := M8.out.call (M8.out.C.below hb9) (Keep.of_below hb9 g)
    rw [G.out]
    exact h
  have EG1 : Hid (gm.regs = c1.numN 0 64) := by show _ = _; rw [G.out]
  have EG2 : Hid (gm.args = n3.2) := by show _ = _; rw [G.out]
  have EG3 : Hid (gm.ret = c5.numN 0 64) := by show _ = _; rw [G.out]
  have EG4 : Hid (gm.saved = n7.2) := by show _ = _; rw [G.out]
  clear hb9 M8 F8 b3 f3 G
  have hK := HG.out.K
  have hlt2 : w.heap.size < V.heap.size := R1.out.lt
  have R9 : Hid (Blk w9 w.heap.size 24 #[.int .i64 0, .slice none 0 0, .int .i64 0, .slice none 0 0]) := (hK.block _ hlt2 hgw).trans R1.out
  have B9 : Hid (Below w.heap.size w w9) := B1.out.trans (hK.below B1.out.size hgw2)
  have OA := Lib.hid HG.out.A
  have OS := Lib.hid HG.out.S
  have X9 := Lib.hid HG.out.B
  have CP := own_cap OA.out
  have MV : Hid (machV gm xa xc ya yc = .agg (maxC gm xa xc ya yc)) := rfl
  have MX : Hid (maxC gm xa xc ya yc = _) := maxC.eq_1 gm xa xc ya yc
  have RM := Lib.hid (rright_any gm xa ya xc yc w9 SM.out.1 SM.out.2 CP ⟨IntsW.own OA.out, IntsW.own OS.out⟩)
  rw [MV.out, MX.out] at RM
  obtain ⟨x0, x1, x2, x3⟩ := boxMa X9.out
  have z0 := R9.out.cell 0
  have z1 := R9.out.cell 1
  have z2 := R9.out.cell 2
  have z3 := R9.out.cell 3
  have f0 := R9.out.free 0
  have f1 := R9.out.free 1
  have f2 := R9.out.free 2
  have f3 := R9.out.free 3
  clear HG hK CP
  generalize V.heap.size = Y at *
  cases hE : E != 0
  · have hE0 : E = 0 := by simpa using hE
    have hE1 : (E == 0) = true := by simp [hE0]
    cases hr : gm.rightB
    · obtain ⟨e1, e2⟩ := WRO.out hE0 hr
      rw [hr] at RM
      have U := Lib.hid e1
      have W2 := Lib.hid e2
      clear e1 e2 hr RIG BAD WRO
      go_wp2_with fail
      refine RM.out.mono ?_
      rintro e w10 ⟨rfl, hb10⟩
      have B10 : Hid (Below w.heap.size w w10) := B9.out.trans (hb10.mono B9.out.size)
      have R10 : Hid (Blk w10 w.heap.size 24 #[.int .i64 0, .slice none 0 0, .int .i64 0, .slice none 0 0]) := R9.out.below hb10 R9.out.lt
      clear z0 z1 z2 z3 f0 f1 f2 f3 x0 x1 x2 x3
      have z0 := R10.out.cell 0
      have z1 := R10.out.cell 1
      have z2 := R10.out.cell 2
      have z3 := R10.out.cell 3
      have f0 := R10.out.free 0
      have f1 := R10.out.free 1
      have f2 := R10.out.free 2
      have f3 := R10.out.free 3
      clear hb10 RM
      go_wp2
      (try simp only [Exit.inBlock, Exit.then])
      have hb := blk_four' R10.out rfl (.int .i64 0) (.slice none 0 0) (.int .i64 0) (.slice none 0 0)
      have hld := run_loadVar_row (P := Tryz.prog) _ w.heap.size 24 24 _ (0, 0) _ hb Tryz.underlying24 rfl machine_size
      refine bodyPost_ret (v := .tuple #[.agg #[.int .i64 0, .slice none 0 0, .int .i64 0, .slice none 0 0], .int .i64 2]) ?_ rfl ?_
      · rw [results_cell_tmp rfl]
        simp [asAddr, Result.andThen, hld]
      · refine T.out _ _ ⟨none, 0, none, 0, ?_, ?_, below_put4 B10.out (Nat.le_refl _) _ _ _ _⟩
        · rw [U.out, W2.out]; rfl
        · rw [W2.out]; exact ⟨World.ownsRow_nil _ _ _ _, World.ownsRow_nil _ _ _ _⟩
    · obtain ⟨e1, e2⟩ := RIG.out hE0 hr
      rw [hr] at RM
      have U := Lib.hid e1
      have W2 := Lib.hid e2
      clear e1 e2 hr RIG BAD WRO
      go_wp2_with fail
      refine RM.out.mono ?_
      rintro e w10 ⟨rfl, hb10⟩
      have B10 : Hid (Below w.heap.size w w10) := B9.out.trans (hb10.mono B9.out.size)
      have R10 : Hid (Blk w10 w.heap.size 24 #[.int .i64 0, .slice none 0 0, .int .i64 0, .slice none 0 0]) := R9.out.below hb10 R9.out.lt
      have X10 := Lib.hid (X9.out.below hb10 X9.out.lt)
      have OA10 := Lib.hid (OA.out.below hb10)
      have OS10 := Lib.hid (OS.out.below hb10)
      clear z0 z1 z2 z3 f0 f1 f2 f3 x0 x1 x2 x3
      obtain ⟨x0, x1, x2, x3⟩ := boxMa X10.out
      have z0 := R10.out.cell 0
      have z1 := R10.out.cell 1
      have z2 := R10.out.cell 2
      have z3 := R10.out.cell 3
      have f0 := R10.out.free 0
      have f1 := R10.out.free 1
      have f2 := R10.out.free 2
      have f3 := R10.out.free 3
      clear hb10 RM
      go_wp2
      (try simp only [Exit.inBlock, Exit.then])
      have hb := blk_four' R10.out rfl (.int .i64 gm.regs) (.slice xa gm.args.length xc) (.int .i64 gm.ret) (.slice ya gm.saved.length yc)
      have hld := run_loadVar_row (P := Tryz.prog) _ w.heap.size 24 24 _ (0, 0) _ hb Tryz.underlying24 rfl machine_size
      refine bodyPost_ret (v := .tuple #[.agg #[.int .i64 gm.regs, .slice xa gm.args.length xc, .int .i64 gm.ret, .slice ya gm.saved.length yc], .int .i64 0]) ?_ rfl ?_
      · rw [results_cell_tmp rfl]
        simp [asAddr, Result.andThen, hld]
      · refine T.out _ _ ⟨xa, xc, ya, yc, ?_, ?_, below_put4 B10.out (Nat.le_refl _) _ _ _ _⟩
        · rw [U.out, W2.out]; rfl
        · rw [W2.out]
          exact ⟨own_base (OA10.out.put4 hlt2 _ _ _ _) (by omega), own_base (OS10.out.put4 hlt2 _ _ _ _) (by omega)⟩
  · have hE0 : E ≠ 0 := by simpa using hE
    have hE1 : (E == 0) = false := by simp [hE0]
    obtain ⟨e1, e2⟩ := BAD.out hE0
    have U := Lib.hid e1
    have W2 := Lib.hid e2
    clear e1 e2 hE0 RIG BAD WRO RM
    go_wp2
    (try simp only [Exit.inBlock, Exit.then])
    have hb := blk_four' R9.out rfl (.int .i64 0) (.slice none 0 0) (.int .i64 0) (.slice none 0 0)
    have hld := run_loadVar_row (P := Tryz.prog) _ w.heap.size 24 24 _ (0, 0) _ hb Tryz.underlying24 rfl machine_size
    refine bodyPost_ret (v := .tuple #[.agg #[.int .i64 0, .slice none 0 0, .int .i64 0, .slice none 0 0], .int .i64 E]) ?_ rfl ?_
    · rw [results_cell_tmp rfl]
      simp [asAddr, Result.andThen, hld]
    · refine T.out _ _ ⟨none, 0, none, 0, ?_, ?_, below_put4 B9.out (Nat.le_refl _) _ _ _ _⟩
      · rw [U.out, W2.out]; rfl
      · rw [W2.out]; exact ⟨World.ownsRow_nil _ _ _ _, World.ownsRow_nil _ _ _ _⟩
end Go.Proofs.YtkfplffcegbdfaaGreatDoor
namespace Go.Proofs.YtkfplffcegbdfaaGreatDoor
open Go.RowKit

set_option maxHeartbeats 4000000 in
set_option maxRecDepth 100000 in
theorem reads5_any (s : ByteArray) (w : World) (hz : s.size ≤ 140737488355328) : Calls Tryz.prog 23 #[.string s] w fun e w' => e = .returned (.bool true) ∧ Below w.heap.size w w' := by
  by_cases hn : s.size ≤ 2000
  · have hn' : ¬ (2000 : Int) < s.size := by omega
    have SM := Lib.hid (told_small s (by omega))
    have P := Lib.hid (parseM_any s w (by omega))
    have R := Lib.hid (fun W => rparse_any s W (by omega))
    unfold ToldM at P R
    generalize toldM (startC s) = m at *
    generalize toldE (startC s) = E at *
    have MV : ∀ aa ac sa sc, machV m aa ac sa sc = .agg #[.int .i64 m.regs, .slice aa m.args.length ac, .int .i64 m.ret, .slice sa m.saved.length sc] := fun _ _ _ _ => rfl
    have SA : Hid (∀ aa ac sa sc aa' ac' sa' sc' W, MaW W m aa sa → MaW W m aa' sa' → Calls Tryz.prog 39 #[.agg #[.int .i64 m.regs, .slice aa m.args.length ac, .int .i64 m.ret, .slice sa m.saved.length sc], .agg #[.int .i64 m.regs, .slice aa' m.args.length ac', .int .i64 m.ret, .slice sa' m.saved.length sc']] W fun e w' => e = .returned (.bool true) ∧ Below W.heap.size W w') := fun aa ac sa sc aa' ac' sa' sc' W h h' => sameM_any m aa sa aa' sa' ac sc ac' sc' W SM.out.1 SM.out.2 h h'
    simp only [MV] at P R
    clear MV
    go_enter Tryz.func23, Tryz.ntmps23
    go_wp2_with fail
    refine P.out.mono ?_
    rintro e w1 ⟨aa, ac, sa, sc, rfl, ⟨ha, hs⟩, hb1⟩
    have hx2 : Below w1.heap.size w1 (w1.alloc (.cells #[.int .i64 m.regs, .slice aa m.args.length ac, .int .i64 m.ret, .slice sa m.saved.length sc] 24)) := (Below.refl _ _).alloc (Nat.le_refl _) _
    have R2 := Lib.hid (R.out (w1.alloc (.cells #[.int .i64 m.regs, .slice aa m.args.length ac, .int .i64 m.ret, .slice sa m.saved.length sc] 24)))
    have M2 : Hid (MaW (w1.alloc (.cells #[.int .i64 m.regs, .slice aa m.args.length ac, .int .i64 m.ret, .slice sa m.saved.length sc] 24)) m aa sa) := MaW.below ⟨IntsW.own ha, IntsW.own hs⟩ hx2
    have B2 : Hid (Below w.heap.size w (w1.alloc (.cells #[.int .i64 m.regs, .slice aa m.args.length ac, .int .i64 m.ret, .slice sa m.saved.length sc] 24))) := hb1.trans (hx2.mono hb1.size)
    have X2 : Hid (Blk (w1.alloc (.cells #[.int .i64 m.regs, .slice aa m.args.length ac, .int .i64 m.ret, .slice sa m.saved.length sc] 24)) w1.heap.size 24 #[.int .i64 m.regs, .slice aa m.args.length ac, .int .i64 m.ret, .slice sa m.saved.length sc]) := Blk.new w1 _ _
    clear ha hs hb1 hx2 P R
    go_wp2_with fail
    refine R2.out.mono ?_
    rintro e w3 ⟨ra, rc, ta, tc, rfl, ⟨ha, hs⟩, hb3⟩
    have hx4 : Below w3.heap.size w3 (w3.alloc (.cells #[.int .i64 m.regs, .slice ra m.args.length rc, .int .i64 m.ret, .slice ta m.saved.length tc] 24)) := (Below.refl _ _).alloc (Nat.le_refl _) _
    have M4 := Lib.hid ((M2.out.below hb3).below hx4)
    have N4 : Hid (MaW (w3.alloc (.cells #[.int .i64 m.regs, .slice ra m.args.length rc, .int .i64 m.ret, .slice ta m.saved.length tc] 24)) m ra ta) := MaW.below ⟨IntsW.own ha, IntsW.own hs⟩ hx4
    have B3 : Hid (Below w.heap.size w w3) := B2.out.trans (hb3.mono B2.out.size)
    have B4 : Hid (Below w.heap.size w (w3.alloc (.cells #[.int .i64 m.regs, .slice ra m.args.length rc, .int .i64 m.ret, .slice ta m.saved.length tc] 24))) := B3.out.trans (hx4.mono B3.out.size)
    have X4 : Hid (Blk (w3.alloc (.cells #[.int .i64 m.regs, .slice ra m.args.length rc, .int .i64 m.ret, .slice ta m.saved.length tc] 24)) w1.heap.size 24 #[.int .i64 m.regs, .slice aa m.args.length ac, .int .i64 m.ret, .slice sa m.saved.length sc]) := (X2.out.below hb3 X2.out.lt).alloc _
    have c0 := X4.out.cell 0
    have c1 := X4.out.cell 1
    have c2 := X4.out.cell 2
    have c3 := X4.out.cell 3
    have S4 := Lib.hid (SA.out aa ac sa sc ra rc ta tc _ M4.out N4.out)
    clear ha hs hb3 hx4 R2 M2 B2 X2 B3 SA M4 N4
    go_wp2_with fail
    refine S4.out.mono ?_
    rintro e w5 ⟨rfl, hb5⟩
    have B5 : Hid (Below w.heap.size w w5) := B4.out.trans (hb5.mono B4.out.size)
    clear hb5 B4 S4 X4 c0 c1 c2 c3
    go_wp2_with fail
    refine (awakeM_any _).mono ?_
    rintro e w6 ⟨rfl, hb6⟩
    have B6 : Hid (Below w.heap.size w w6) := B5.out.trans (hb6.mono B5.out.size)
    clear hb6 B5
    go_wp2
    go_ret
    exact ⟨rfl, B6.out⟩
  · have hn' : (2000 : Int) < s.size := by omega
    go_enter Tryz.func23, Tryz.ntmps23
    go_wp2_with fail
    refine (awakeM_any _).mono ?_
    rintro e w1 ⟨rfl, hb⟩
    have B1 := Lib.hid hb
    clear hb
    go_wp2
    go_ret
    exact ⟨rfl, B1.out⟩
end Go.Proofs.YtkfplffcegbdfaaGreatDoor
