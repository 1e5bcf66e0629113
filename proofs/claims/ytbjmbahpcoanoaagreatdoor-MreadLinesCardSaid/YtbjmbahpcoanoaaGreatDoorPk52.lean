/-
  MreadLines: many blocks, many instructions, a text that is too long. Conditions: the library's tables, its errors, the Ops' names and parts hold what the text lays.
-/
import Derived.Test.YtbjmbahpcoanoaaGreatDoorPk39
import Derived.Test.YtbjmbahpcoanoaaGreatDoorPk51
import Derived.Deep.QuietTactic
import Derived.BigQuiet
import Derived.Deep.RegionHeld3
import Derived.Deep.CutRange
namespace Go.Proofs.YtbjmbahpcoanoaaGreatDoor
open Go.RowKit

theorem bel9_alloc {A w : World} {o : Obj} (h : Below A.heap.size A w) : Below A.heap.size A (w.alloc o) := h.alloc h.size o
theorem bel9_drew {A w : World} (h : Below A.heap.size A w) : Below A.heap.size A w.drew := h.drew
theorem Mk.first {w W : World} {n : Nat} {bs : Array Value} (h : Mn w W) : Mn w ((W.alloc (.cells bs 53)).alloc (.cells #[.int .i64 0, .slice (some ⟨W.heap.size, 0, none⟩) n n] 24)) ∧ Blk ((W.alloc (.cells bs 53)).alloc (.cells #[.int .i64 0, .slice (some ⟨W.heap.size, 0, none⟩) n n] 24)) W.heap.size 53 bs ∧ Blk ((W.alloc (.cells bs 53)).alloc (.cells #[.int .i64 0, .slice (some ⟨W.heap.size, 0, none⟩) n n] 24)) (W.heap.size + 1) 24 #[.int .i64 0, .slice (some ⟨W.heap.size, 0, none⟩) n n] ∧ w.heap.size < W.heap.size :=
 ⟨h.below (((Below.refl _ W).alloc (Nat.le_refl _) _).alloc (by simp) _), (Blk.new W _ _).alloc _, new_two W _ _ _, h.t.lt⟩
theorem new_three (w : World) (a b : Obj) (t : TypeId) (cs : Array Value) : Blk (((w.alloc a).alloc b).alloc (.cells cs t)) (w.heap.size + 1 + 1) t cs := by
 have e : ((w.alloc a).alloc b).heap.size = w.heap.size + 1 + 1 := by simp
 rw [← e]
 exact Blk.new _ _ _
theorem below9_3 (W : World) (a b c : Obj) : Below W.heap.size W (((W.alloc a).alloc b).alloc c).drew := ((((Below.refl _ W).alloc (Nat.le_refl _) a).alloc (by simp) b).alloc (by simp; omega) c).drew
theorem Mk.of {w w1 X : World} {P H n O K G m : Nat} {bs cs : Array Value} (hM : Mn w w1) (h1 : Blk w1 H 53 bs) (h2 : Blk w1 P 24 #[.int .i64 0, .slice (some ⟨H, 0, none⟩) n n]) (hH : w.heap.size < H) (hb : RowV 5 (fT 0) bs n) (hc : RowV 8 (fI 0) cs m)
    (hX : Below w1.heap.size w1 X) (hG : Blk X G 46 cs) (hK : Blk X K 53 (kbC G m)) (hO : Blk X O 24 #[.int .i64 ((n : Int) + 200), .slice (some ⟨K, 0, none⟩) 1 1]) (gG : w1.heap.size ≤ G) (gK : w1.heap.size ≤ K) : Mk w X P H n 0 O K G m 0 := by
 have hl := h1.lt
 have hm := hM.t.lt
 exact ⟨hM.below hX, h2.below hX h2.lt, ⟨bs, h1.below hX h1.lt, hb⟩, hO, hK, ⟨cs, hG, hc⟩, by omega, hH, by omega⟩
theorem Blk.drawn {W : World} {g : Nat} {t : TypeId} {cs : Array Value} (h : Blk W g t cs) : Blk W.drew g t cs := h
section
variable {w w1 : World} {H n m : Nat} {bs cs : Array Value} (hM : Mn w w1) (h1 : Blk w1 H 53 bs) (h2 : Blk w1 (H + 1) 24 #[.int .i64 0, .slice (some ⟨H, 0, none⟩) n n]) (hH : w.heap.size < H) (hb : RowV 5 (fT 0) bs n) (hc : RowV 8 (fI 0) cs m)
include hM h1 h2 hH hb hc
theorem Mk.new1 : Mk w (((w1.alloc (.cells cs 46)).alloc (.cells #[.slice (some ⟨w1.heap.size, 0, none⟩) m m, .int .i64 4, .int .i64 0, .int .i64 0, .int .i64 0] 53)).alloc (.cells #[.int .i64 ((n : Int) + 200), .slice (some ⟨w1.heap.size + 1, 0, none⟩) 1 1] 24)).drew (H + 1) H n 0 (w1.heap.size + 1 + 1) (w1.heap.size + 1) w1.heap.size m 0 :=
 Mk.of hM h1 h2 hH hb hc (below9_3 _ _ _ _) (Blk.drawn (((Blk.new w1 _ _).alloc _).alloc _)) (Blk.drawn ((new_two w1 _ _ _).alloc _)) (Blk.drawn (new_three w1 _ _ _ _)) (Nat.le_refl _) (by omega)
theorem Mk.new2 : Mk w (((w1.alloc (.cells cs 46)).alloc (.cells #[.int .i64 ((n : Int) + 200), .slice (some ⟨w1.heap.size + 1 + 1, 0, none⟩) 1 1] 24)).alloc (.cells #[.slice (some ⟨w1.heap.size, 0, none⟩) m m, .int .i64 4, .int .i64 0, .int .i64 0, .int .i64 0] 53)).drew (H + 1) H n 0 (w1.heap.size + 1) (w1.heap.size + 1 + 1) w1.heap.size m 0 :=
 Mk.of hM h1 h2 hH hb hc (below9_3 _ _ _ _) (Blk.drawn (((Blk.new w1 _ _).alloc _).alloc _)) (Blk.drawn (new_three w1 _ _ _ _)) (Blk.drawn ((new_two w1 _ _ _).alloc _)) (Nat.le_refl _) (by omega)
theorem Mk.new3 : Mk w (((w1.alloc (.cells #[.int .i64 ((n : Int) + 200), .slice (some ⟨w1.heap.size + 1 + 1, 0, none⟩) 1 1] 24)).alloc (.cells cs 46)).alloc (.cells #[.slice (some ⟨w1.heap.size + 1, 0, none⟩) m m, .int .i64 4, .int .i64 0, .int .i64 0, .int .i64 0] 53)).drew (H + 1) H n 0 w1.heap.size (w1.heap.size + 1 + 1) (w1.heap.size + 1) m 0 :=
 Mk.of hM h1 h2 hH hb hc (below9_3 _ _ _ _) (Blk.drawn ((new_two w1 _ _ _).alloc _)) (Blk.drawn (new_three w1 _ _ _ _)) (Blk.drawn (((Blk.new w1 _ _).alloc _).alloc _)) (by omega) (by omega)
end
theorem wide_print {w W : World} {P H n O K G m : Nat} (h : Mk w W P H n n O K G m m) (hT : TabA W) (hn : n ≤ 1000000) : Calls Tryz.prog 11 #[.agg #[.int .i64 0, .slice (some ⟨H, 0, none⟩) n n]] W fun e w' => e = .returned (.tuple #[.string (printS (wsG n)), .int .i64 (printE (wsG n))]) ∧ Below W.heap.size W w' := by
 have h1 := print_any (wsG n) (some ⟨H, 0, none⟩) n W h.wide (mv_small 0 n 0 hn (by omega)) hT.t hT.r.pow hT.r.names
 have e : tgV (wsG n) (some ⟨H, 0, none⟩) n = .agg #[.int .i64 0, .slice (some ⟨H, 0, none⟩) n n] := by
  show Value.agg #[.int .i64 0, .slice (some ⟨H, 0, none⟩) (List.replicate n (mvB 0)).length n] = _
  rw [List.length_replicate]
 rw [e] at h1
 exact h1
theorem one_print {w W : World} {P H n O K G m : Nat} (h : Mk w W P H n n O K G m m) (hm : m = n + 3800) (hT : TabA W) (hn : n ≤ 100000) : Calls Tryz.prog 11 #[.agg #[.int .i64 ((n : Int) + 200), .slice (some ⟨K, 0, none⟩) 1 1]] W fun e w' => e = .returned (.tuple #[.string (printS (onG n)), .int .i64 (printE (onG n))]) ∧ Below W.heap.size W w' := by
 subst hm
 exact print_any (onG n) (some ⟨K, 0, none⟩) 1 W h.one (mv_small ((n : Int) + 200) 1 (n + 3800) (by omega) (by omega)) hT.t hT.r.pow hT.r.names
theorem ws_err (n : Nat) (h0 : 0 < n) (h : n ≤ 300) : printE (wsG n) = (if n ≤ 200 then 0 else 2) ∧ (printS (wsG n)).size ≤ 90000 := by
 refine ⟨?_, (ws_text n h0 h).2⟩
 split
 · rename_i h2; exact (ws_text n h0 h).1.2 h2
 · rename_i h2; exact (text_none (ws_not n (by omega))).1
theorem on_err (n : Nat) (h : n ≤ 300) : printE (onG n) = (if n ≤ 200 then 0 else 2) ∧ (printS (onG n)).size ≤ 90000 := by
 refine ⟨?_, (on_text n h).2⟩
 split
 · rename_i h2; exact (on_text n h).1.2 h2
 · rename_i h2; exact (text_none (on_not n (by omega))).1
theorem Gt.first {w W : World} {bs : Array Value} (h : Mn w W) (hb : RowV 5 (fT 0) bs 10) : Gt w ((W.alloc (.cells bs 53)).alloc (.cells #[.int .i64 0, .slice (some ⟨W.heap.size, 0, none⟩) 10 10] 24)) (W.heap.size + 1) W.heap.size [] 3000 := by
 obtain ⟨h1, h2, h3, h4⟩ := Mk.first (n := 10) (bs := bs) h
 exact ⟨h1, h3, ⟨bs, h2, hb.eq fun j r _ _ => fT_fB j r⟩, fun j G hj => by simp at hj, List.nodup_nil, by simp, h4⟩
theorem great_print {w W : World} {P H : Nat} {Gs : List Nat} (h : Gt w W P H Gs 3000) (hl : Gs.length = 10) (hT : TabA W) : Calls Tryz.prog 11 #[.agg #[.int .i64 0, .slice (some ⟨H, 0, none⟩) 10 10]] W fun e w' => (∃ s : ByteArray, e = .returned (.tuple #[.string s, .int .i64 3])) ∧ Below W.heap.size W w' := by
 have h1 := print_any bgG (some ⟨H, 0, none⟩) 10 W (h.great hl) (mv_small 0 10 3000 (by omega) (by omega)) hT.t hT.r.pow hT.r.names
 rw [bg_text] at h1
 have e : tgV bgG (some ⟨H, 0, none⟩) 10 = .agg #[.int .i64 0, .slice (some ⟨H, 0, none⟩) 10 10] := by
  show Value.agg #[.int .i64 0, .slice (some ⟨H, 0, none⟩) (List.replicate 10 (mvB 3000)).length 10] = _
  rw [List.length_replicate]
 rw [e] at h1
 exact h1.mono fun e w' ⟨h2, h3⟩ => ⟨⟨_, h2⟩, h3⟩
theorem blank_parse (s : ByteArray) (n : Nat) (hs : s.data.toList = List.replicate n 32) (W : World) (hT : TabA W) : Calls Tryz.prog 14 #[.string s] W fun e w' => (∃ (ba : Option Addr) (l bc : Nat) (fr a b : Int), e = .returned (.tuple #[.agg #[.int .i64 fr, .slice ba l bc], .int .i64 a, .int .i64 b, .int .i64 (if 262144 < n then 3 else 7)])) ∧ Below W.heap.size W w' := by
 refine (parse_any s W hT.r).mono fun e w' ⟨ba, bc, h1, _, h3⟩ => ⟨?_, h3⟩
 rw [pr_blank s n hs] at h1
 exact ⟨ba, _, bc, _, _, _, h1⟩
theorem byte_info9 : (Tryz.prog.info? 5).map (fun i => (i.zero, i.size, i.bytes)) = some (some (.int .u8 0), 1, 1) := by kernel_rfl
theorem row_store9 {w : World} {B g cap n m : Nat} {e : TypeId} {vals : List Value} (h : w.ownsRow B e 1 (.slice (some ⟨g, 0, none⟩) n cap) m vals) (i : Nat) (u : Value) : (w.setCell ⟨g, i, none⟩ u).ownsRow B e 1 (.slice (some ⟨g, 0, none⟩) n cap) m (vals.set i u) := by
 obtain ⟨h1, h2⟩ := h
 rcases h2 with ⟨h2, _⟩ | ⟨g2, cap2, cur2, e2, hB2, hh2, hle2, hmax2, hsz2, htk2⟩
 · cases h2
 injection e2 with e21 e22 e23
 injection e21 with e21
 injection e21 with e21
 subst e21
 subst e23
 subst e22
 refine ⟨by simpa using h1, .inr ⟨g, cap, cur2.setIfInBounds i u, rfl, hB2, Blk.put hh2 i _, hle2, hmax2, by simpa using hsz2, ?_⟩⟩
 rw [Array.toList_setIfInBounds, ← htk2, List.take_set]
theorem row_cell9 {w : World} {B g cap n m : Nat} {e : TypeId} {vals : List Value} (h : w.ownsRow B e 1 (.slice (some ⟨g, 0, none⟩) n cap) m vals) : (∀ (i : Nat) (x : Value), vals[i]? = some x → w.cell? ⟨g, i, none⟩ = some x) ∧ (∀ i, w.frozen? ⟨g, i, none⟩ = false) ∧ g < w.heap.size ∧ B ≤ g := by
 obtain ⟨h1, h2⟩ := h
 rcases h2 with ⟨h2, _⟩ | ⟨g2, cap2, cur2, e2, hB2, hh2, hle2, hmax2, hsz2, htk2⟩
 · cases h2
 injection e2 with e21 e22 e23
 injection e21 with e21
 injection e21 with e21
 subst e21
 refine ⟨fun i x hx => ?_, fun i => Blk.free hh2 i, (Array.getElem?_eq_some_iff.1 hh2).1, hB2⟩
 have hlt := (List.getElem?_eq_some_iff.1 hx).1
 rw [Blk.cell hh2, ← Array.getElem?_toList]
 rw [← htk2] at hx hlt
 rw [List.getElem?_take] at hx
 split at hx
 · exact hx
 · cases hx
theorem fill_set9 (a b : Value) (M i : Nat) (h : i < M) : (List.replicate i a ++ List.replicate (M - i) b).set i a = List.replicate (i + 1) a ++ List.replicate (M - (i + 1)) b := by
 obtain ⟨d, hd⟩ : ∃ d, M - i = d + 1 := ⟨M - i - 1, by omega⟩
 have hd2 : M - (i + 1) = d := by omega
 rw [hd, hd2, List.set_append_right _ _ (by simp), List.length_replicate, Nat.sub_self, List.replicate_succ, List.set_cons_zero, List.replicate_succ']
 simp
theorem conv_blanks9 (W : World) (g o n cap : Nat) (h : ∀ k, k < n → W.cell? ⟨g, o + k, none⟩ = some (.int .u8 32)) : (convert 56 9 (.slice (some ⟨g, o, none⟩) n cap)).run Tryz.prog W = .ok (.string ⟨(List.replicate n (32 : UInt8)).toArray⟩) W := by
 have := run_convert_bytes_back (P := Tryz.prog) W 56 9 5 ⟨g, o, none⟩ cap (List.replicate n (32 : UInt8)) Tryz.underlying56 Tryz.underlying5 Tryz.underlying9 (fun j hj => by
  have e : (⟨g, o, none⟩ : Addr).add j = ⟨g, o + j, none⟩ := by
   unfold Addr.add
   split <;> simp_all
  have hj' : j < n := by simpa using hj
  rw [e, h j hj']
  simp)
 rw [List.length_replicate] at this
 exact this
set_option maxHeartbeats 16000000 in
set_option maxRecDepth 100000 in
theorem many7_any (w : World) (hT : TabA w) : Calls Tryz.prog 17 #[] w fun e w' => e = .returned (.bool true) ∧ Below w.heap.size w w' := by
 have HTA : Hid (∀ W, Below w.heap.size w W → TabA W) := fun W h => hT.below h
 have M0 : Hid (Mn w (w.alloc (.cells #[.int .i64 4, .int .i64 0, .int .i64 0, .int .i64 0] 51))) := ⟨(Below.refl _ w).alloc (Nat.le_refl _) _, Blk.new w _ _⟩
 clear hT
 go_enter Tryz.func17, Tryz.ntmps17
 go_wp2
 go_loopw [2] (fun k wr => ∃ n : Nat, k = .int .i64 n ∧ 198 ≤ n ∧ n ≤ 203 ∧ Mn w wr) (fun k _ => 203 - (intOf k).toNat)
 case atStart => exact ⟨198, rfl, by omega, by omega, M0.out⟩
 case round =>
  obtain ⟨n, rfl, hn1, hn2, hM⟩ := hrel
  have HM := Lib.hid hM
  clear hM M0
  by_cases hlt : n < 203
  · have hlt' : (n : Int) < 203 := by omega
    have hn0 : (198 : Int) ≤ n := by omega
    have hn00 : (0 : Int) ≤ n := by omega
    obtain ⟨bs, hbs, hmkb⟩ := make_blocksV (n := n) (by omega)
    have HF := Lib.hid (Mk.first (n := n) (bs := bs) HM.out)
    have HBS := Lib.hid hbs
    clear hbs HM
    go_upto_region 6 with fail
    clear hmkb
    generalize hw1 : (wr.alloc (.cells bs 53)).alloc (.cells #[.int .i64 0, .slice (some ⟨wr.heap.size, 0, none⟩) n n] 24) = w1 at *
    generalize hH : wr.heap.size = H at *
    clear hw1
    obtain ⟨cs, hcs, hmk⟩ := make_insV (n := n + 3800) (by omega)
    rw [show ((n + 3800 : Nat) : Int) = (n : Int) + 3800 by omega] at hmk
    have HCS := Lib.hid hcs
    have hwn : IntKind.i64.wrap ((n : Int) + 3800) = (n : Int) + 3800 := by rw [IntKind.wrap_i64]; omega
    have hwm : IntKind.i64.wrap ((n : Int) + 200) = (n : Int) + 200 := by rw [IntKind.wrap_i64]; omega
    have HTR : Hid (∀ W, Below w1.heap.size w1 W → Below w1.heap.size w1 W ∧ (W.cell? ⟨w.heap.size, 0, none⟩ = some (.int .i64 4) ∧ W.cell? ⟨w.heap.size, 1, none⟩ = some (.int .i64 0) ∧ W.cell? ⟨w.heap.size, 2, none⟩ = some (.int .i64 0) ∧ W.cell? ⟨w.heap.size, 3, none⟩ = some (.int .i64 0))) := fun W hb =>
     have he := HF.out.1.below hb
     ⟨hb, he.t.cell 0, he.t.cell 1, he.t.cell 2, he.t.cell 3⟩
    have HLT : Hid (w.heap.size < w1.heap.size ∧ H < w1.heap.size) := ⟨HF.out.1.t.lt, HF.out.2.1.lt⟩
    clear hcs
    go_cut [4] from 34 to 42 (fun v4 wx => ∃ O K G : Nat, v4 = .pointer (some ⟨O, 0, none⟩) ∧ Mk w wx (H + 1) H n 0 O K G (n + 3800) 0)
    case first =>
     go_region_held3 (fun W => Below w1.heap.size w1 W ∧ (W.cell? ⟨w.heap.size, 0, none⟩ = some (.int .i64 4) ∧ W.cell? ⟨w.heap.size, 1, none⟩ = some (.int .i64 0) ∧ W.cell? ⟨w.heap.size, 2, none⟩ = some (.int .i64 0) ∧ W.cell? ⟨w.heap.size, 3, none⟩ = some (.int .i64 0)))
      (first | (refine HTR.out _ ?_; (repeat (first | with_reducible apply bel9_alloc | with_reducible apply bel9_drew)); (first | exact Below.refl _ _ | assumption)))
      (fail)
     all_goals (try go_wp2)
     all_goals (try go_meet)
     all_goals (first | exact ⟨_, _, _, rfl, Mk.new1 HF.out.1 HF.out.2.1 HF.out.2.2.1 HF.out.2.2.2 HBS.out HCS.out⟩ | exact ⟨_, _, _, rfl, Mk.new2 HF.out.1 HF.out.2.1 HF.out.2.2.1 HF.out.2.2.2 HBS.out HCS.out⟩ | exact ⟨_, _, _, rfl, Mk.new3 HF.out.1 HF.out.2.1 HF.out.2.2.1 HF.out.2.2.2 HBS.out HCS.out⟩)
    case rest =>
    obtain ⟨O, K, G, rfl, hK⟩ := hcut
    have HK := Lib.hid hK
    have HP1 : Hid (H + 1 = H + 1) := rfl
    clear hK HTR HF HBS HCS HLT hmk hwm
    generalize hP : H + 1 = P at HK ⊢
    clear HP1
    obtain ⟨m, hm⟩ : ∃ m, m = n + 3800 := ⟨_, rfl⟩
    rw [← hm] at HK
    have HMI : Hid ((n : Int) + 3800 = (m : Int)) := by show _ = _; omega
    have HMN := Lib.hid hm
    have hmb : m ≤ 1000000 := by omega
    clear hm
    go_wp2
    go_loopw [5] (fun k wr => ∃ j : Nat, k = .int .i64 j ∧ j ≤ n ∧ Mk w wr P H n j O K G m 0) (fun k _ => n - (intOf k).toNat)
    case atStart => exact ⟨0, rfl, by omega, HK.out⟩
    case round =>
     obtain ⟨j, rfl, hj, hK⟩ := hrel
     have HK2 := Lib.hid hK
     clear hK HK
     by_cases hjn : j < n
     · have hjn' : (j : Int) < n := by omega
       have hj0 : (0 : Int) ≤ j := by omega
       have t0 : wr.cell? ⟨w.heap.size, 0, none⟩ = some (.int .i64 4) := HK2.out.mn.t.cell 0
       have t1 : wr.cell? ⟨w.heap.size, 1, none⟩ = some (.int .i64 0) := HK2.out.mn.t.cell 1
       have t2 : wr.cell? ⟨w.heap.size, 2, none⟩ = some (.int .i64 0) := HK2.out.mn.t.cell 2
       have t3 : wr.cell? ⟨w.heap.size, 3, none⟩ = some (.int .i64 0) := HK2.out.mn.t.cell 3
       have c1 : wr.cell? ⟨P, 1, none⟩ = some (.slice (some ⟨H, 0, none⟩) n n) := HK2.out.wb.cell 1
       have v1 : wr.cell? ⟨H, j * 5 + 1, none⟩ = some (.int .i64 0) := (HK2.out.atB hjn (r := 1) (by omega)).trans (by simp [fT])
       have v2 : wr.cell? ⟨H, j * 5 + 2, none⟩ = some (.int .i64 0) := (HK2.out.atB hjn (r := 2) (by omega)).trans (by simp [fT])
       have v3 : wr.cell? ⟨H, j * 5 + 3, none⟩ = some (.int .i64 0) := (HK2.out.atB hjn (r := 3) (by omega)).trans (by simp [fT])
       have v4 : wr.cell? ⟨H, j * 5 + 4, none⟩ = some (.int .i64 0) := (HK2.out.atB hjn (r := 4) (by omega)).trans (by simp [fT])
       have f1 := (HK2.out.freeB (j * 5 + 1)).1
       have f2 := (HK2.out.freeB (j * 5 + 2)).1
       have f3 := (HK2.out.freeB (j * 5 + 3)).1
       have f4 := (HK2.out.freeB (j * 5 + 4)).1
       have hgl := (HK2.out.freeB 0).2
       have HP := Lib.hid (HK2.out.trap hjn)
       go_wp2
       go_roundw
       case rel => exact ⟨j + 1, by go_num, by omega, HP.out⟩
       case measure => simp [intOf]; omega
     · have hjn' : ¬ (j : Int) < n := by omega
       have hje : j = n := by omega
       rw [hje] at HK2
       clear hjn hje
       go_wp2
       go_loopw [6] (fun k wr => ∃ i : Nat, k = .int .i64 i ∧ i ≤ m ∧ Mk w wr P H n n O K G m i) (fun k _ => m - (intOf k).toNat)
       case atStart => exact ⟨0, rfl, by omega, HK2.out⟩
       case round =>
        obtain ⟨i, rfl, hi, hK⟩ := hrel
        have HK3 := Lib.hid hK
        clear hK HK2
        by_cases him : i < m
        · have him' : (i : Int) < (n : Int) + 3800 := by have := HMI.out; omega
          have him2 : (i : Int) < m := by omega
          have hi0 : (0 : Int) ≤ i := by omega
          have c1 : wr.cell? ⟨O, 1, none⟩ = some (.slice (some ⟨K, 0, none⟩) 1 1) := HK3.out.ob.cell 1
          have c2 : wr.cell? ⟨K, 0, none⟩ = some (.slice (some ⟨G, 0, none⟩) m m) := HK3.out.kb.cell 0
          have v0 : wr.cell? ⟨G, i * 8, none⟩ = some (.int .i64 0) := (HK3.out.atI him (r := 0) (by omega)).trans (by simp [fI])
          have v1 : wr.cell? ⟨G, i * 8 + 1, none⟩ = some (.int .i64 0) := (HK3.out.atI him (r := 1) (by omega)).trans (by simp [fI])
          have v2 : wr.cell? ⟨G, i * 8 + 2, none⟩ = some (.int .i64 0) := (HK3.out.atI him (r := 2) (by omega)).trans (by simp [fI])
          have v3 : wr.cell? ⟨G, i * 8 + 3, none⟩ = some (.int .i64 0) := (HK3.out.atI him (r := 3) (by omega)).trans (by simp [fI])
          have v4 : wr.cell? ⟨G, i * 8 + 4, none⟩ = some (.int .i64 0) := (HK3.out.atI him (r := 4) (by omega)).trans (by simp [fI])
          have v5 : wr.cell? ⟨G, i * 8 + 5, none⟩ = some (.int .i64 0) := (HK3.out.atI him (r := 5) (by omega)).trans (by simp [fI])
          have v6 : wr.cell? ⟨G, i * 8 + 6, none⟩ = some (.slice none 0 0) := (HK3.out.atI him (r := 6) (by omega)).trans (by simp [fI])
          have v7 : wr.cell? ⟨G, i * 8 + 7, none⟩ = some (.int .i64 0) := (HK3.out.atI him (r := 7) (by omega)).trans (by simp [fI])
          have f0 := (HK3.out.freeI (i * 8)).1
          have f1 := (HK3.out.freeI (i * 8 + 1)).1
          have f2 := (HK3.out.freeI (i * 8 + 2)).1
          have f3 := (HK3.out.freeI (i * 8 + 3)).1
          have f4 := (HK3.out.freeI (i * 8 + 4)).1
          have f5 := (HK3.out.freeI (i * 8 + 5)).1
          have f6 := (HK3.out.freeI (i * 8 + 6)).1
          have f7 := (HK3.out.freeI (i * 8 + 7)).1
          have hgl := (HK3.out.freeI 0).2
          have HP := Lib.hid (HK3.out.move him)
          go_wp2
          go_roundw
          case rel => exact ⟨i + 1, by go_num, by omega, HP.out⟩
          case measure => simp [intOf]; omega
        · have him' : ¬ (i : Int) < (n : Int) + 3800 := by have := HMI.out; omega
          have hie : i = m := by omega
          rw [hie] at HK3
          clear him hie
          have c0 : wr.cell? ⟨P, 0, none⟩ = some (.int .i64 0) := HK3.out.wb.cell 0
          have c1 : wr.cell? ⟨P, 1, none⟩ = some (.slice (some ⟨H, 0, none⟩) n n) := HK3.out.wb.cell 1
          have PW := Lib.hid (wide_print HK3.out (HTA.out _ HK3.out.mn.be) (by omega))
          have PO : Hid (∀ W, Below wr.heap.size wr W → _) := fun W h => one_print (HK3.out.below h) HMN.out (HTA.out _ (HK3.out.below h).mn.be) (by omega)
          have SM : Hid (∀ (s : ByteArray) W, s.size ≤ 100000 → Below w.heap.size w W → _) := fun s W hs h => same7_any s W (HTA.out W h) hs
          obtain ⟨hpe, hps⟩ := ws_err n (by omega) (by omega)
          obtain ⟨hqe, hqs⟩ := on_err n (by omega)
          generalize printE (wsG n) = pe at *
          generalize printS (wsG n) = ps at *
          generalize printE (onG n) = qe at *
          generalize printS (onG n) = qs at *
          have HPE := Lib.hid hpe
          have HQE := Lib.hid hqe
          clear hpe hqe
          go_wp2_with fail
          refine PW.out.mono ?_
          rintro e w5 ⟨rfl, hb5⟩
          have HK5 := Lib.hid (HK3.out.below hb5)
          have PO5 := Lib.hid (PO.out w5 hb5)
          clear PW c0 c1 HK3 PO hb5
          have c0 : w5.cell? ⟨O, 0, none⟩ = some (.int .i64 ((n : Int) + 200)) := HK5.out.ob.cell 0
          have c1 : w5.cell? ⟨O, 1, none⟩ = some (.slice (some ⟨K, 0, none⟩) 1 1) := HK5.out.ob.cell 1
          go_wp2_with fail
          refine PO5.out.mono ?_
          rintro e w6 ⟨rfl, hb6⟩
          have HM6 := Lib.hid (HK5.out.below hb6).mn
          have HB6 := Lib.hid HM6.out.be
          clear PO5 c0 c1 HK5 hb6
          obtain ⟨p1, hp1, hz1⟩ : ∃ p1 : ByteArray, (∀ w, (Op.stringOp .add ps ⟨#[98, 108, 111, 99, 107, 32]⟩).run Tryz.prog w = .ok (.string p1) w) ∧ p1.size ≤ 90006 := ⟨_, fun w => run_string_add_sum w _ _ (by show ps.size + 6 ≤ _; omega), by rw [ByteArray.size_append]; show ps.size + 6 ≤ _; omega⟩
          obtain ⟨p2, hp2, hz2⟩ : ∃ p2 : ByteArray, (∀ w, (Op.stringOp .add p1 ⟨#[50, 48, 48, 10, 116, 114, 97, 112]⟩).run Tryz.prog w = .ok (.string p2) w) ∧ p2.size ≤ 90014 := ⟨_, fun w => run_string_add_sum w _ _ (by show p1.size + 8 ≤ _; omega), by rw [ByteArray.size_append]; show p1.size + 8 ≤ _; omega⟩
          by_cases h2 : n ≤ 200
          · have hpe := HPE.out
            have hqe := HQE.out
            clear HPE HQE
            rw [if_pos h2] at hpe hqe
            subst hpe hqe
            have h2' : (n : Int) ≤ 200 := by omega
            go_wp2_with fail
            refine (SM.out p2 w6 (by omega) HB6.out).mono ?_
            rintro e w7 ⟨rfl, hb7⟩
            have HB7 : Hid (Below w.heap.size w w7) := HB6.out.trans (hb7.mono HB6.out.size)
            have HM7 := Lib.hid (HM6.out.below hb7)
            clear hb7 HB6 HM6 hp1 hp2
            go_wp2_with fail
            refine (SM.out ps w7 (by omega) HB7.out).mono ?_
            rintro e w8 ⟨rfl, hb8⟩
            have HB8 : Hid (Below w.heap.size w w8) := HB7.out.trans (hb8.mono HB7.out.size)
            have HM8 := Lib.hid (HM7.out.below hb8)
            clear hb8 HB7 HM7
            go_wp2_with fail
            refine (SM.out qs w8 (by omega) HB8.out).mono ?_
            rintro e w9 ⟨rfl, hb9⟩
            have HM9 := Lib.hid (HM8.out.below hb9)
            clear hb9 HB8 HM8
            go_wp2
            go_roundw
            case rel => exact ⟨n + 1, by go_num, by omega, by omega, HM9.out⟩
            case measure => simp [intOf]; omega
          · have hpe := HPE.out
            have hqe := HQE.out
            clear HPE HQE
            rw [if_neg h2] at hpe hqe
            subst hpe hqe
            have h2' : ¬ (n : Int) ≤ 200 := by omega
            go_wp2_with fail
            refine (SM.out p2 w6 (by omega) HB6.out).mono ?_
            rintro e w7 ⟨rfl, hb7⟩
            have HB7 : Hid (Below w.heap.size w w7) := HB6.out.trans (hb7.mono HB6.out.size)
            have HM7 := Lib.hid (HM6.out.below hb7)
            clear hb7 HB6 HM6 hp1 hp2
            go_wp2_with fail
            refine (SM.out ps w7 (by omega) HB7.out).mono ?_
            rintro e w8 ⟨rfl, hb8⟩
            have HB8 : Hid (Below w.heap.size w w8) := HB7.out.trans (hb8.mono HB7.out.size)
            have HM8 := Lib.hid (HM7.out.below hb8)
            clear hb8 HB7 HM7
            go_wp2_with fail
            refine (SM.out qs w8 (by omega) HB8.out).mono ?_
            rintro e w9 ⟨rfl, hb9⟩
            have HM9 := Lib.hid (HM8.out.below hb9)
            clear hb9 HB8 HM8
            go_wp2
            go_roundw
            case rel => exact ⟨n + 1, by go_num, by omega, by omega, HM9.out⟩
            case measure => simp [intOf]; omega
  · have hge : ¬ (n : Int) < 203 := by omega
    obtain ⟨bs, hbs, hmkb⟩ := make_blocksV (n := 10) (by omega)
    rw [show ((10 : Nat) : Int) = 10 from rfl] at hmkb
    have HG0 := Lib.hid (Gt.first HM.out hbs)
    clear hbs HM hlt hn1 hn2
    go_wp2
    clear hmkb
    generalize (wr.alloc (.cells bs 53)).alloc (.cells #[.int .i64 0, .slice (some ⟨wr.heap.size, 0, none⟩) 10 10] 24) = w1 at *
    generalize hP : wr.heap.size + 1 = P at *
    clear hP
    generalize wr.heap.size = H at *
    go_loopw [12] (fun v wr => ∃ (b : Nat) (Gs : List Nat), v = .int .i64 b ∧ Hid (Gs.length = b) ∧ b ≤ 10 ∧ Gt w wr P H Gs 3000) (fun v _ => 10 - (intOf v).toNat)
    case atStart => exact ⟨0, [], rfl, rfl, by omega, HG0.out⟩
    case round =>
     obtain ⟨b, Gs, rfl, HL, hb, hG⟩ := hrel
     have HG := Lib.hid hG
     clear hG HG0
     by_cases hb10 : b < 10
     · have hb10' : (b : Int) < 10 := by omega
       have hb0 : (0 : Int) ≤ b := by omega
       obtain ⟨ds, hds, hmk⟩ := make_insV (n := 3000) (by omega)
       rw [show ((3000 : Nat) : Int) = 3000 from rfl] at hmk
       have HDS := Lib.hid hds
       have hz : ∀ r, fB Gs b r = if r = 0 then .slice none 0 0 else .int .i64 0 := fun r => by unfold fB; rw [List.getElem?_eq_none (by have := HL.out; omega)]
       have t0 : wr.cell? ⟨w.heap.size, 0, none⟩ = some (.int .i64 4) := HG.out.mn.t.cell 0
       have t1 : wr.cell? ⟨w.heap.size, 1, none⟩ = some (.int .i64 0) := HG.out.mn.t.cell 1
       have t2 : wr.cell? ⟨w.heap.size, 2, none⟩ = some (.int .i64 0) := HG.out.mn.t.cell 2
       have t3 : wr.cell? ⟨w.heap.size, 3, none⟩ = some (.int .i64 0) := HG.out.mn.t.cell 3
       have c1 : wr.cell? ⟨P, 1, none⟩ = some (.slice (some ⟨H, 0, none⟩) 10 10) := HG.out.wb.cell 1
       have v0 : wr.cell? ⟨H, b * 5, none⟩ = some (.slice none 0 0) := (HG.out.cellsB hb10 0 (by omega)).trans (by rw [hz]; rfl)
       have v1 : wr.cell? ⟨H, b * 5 + 1, none⟩ = some (.int .i64 0) := (HG.out.cellsB hb10 1 (by omega)).trans (by rw [hz]; rfl)
       have v2 : wr.cell? ⟨H, b * 5 + 2, none⟩ = some (.int .i64 0) := (HG.out.cellsB hb10 2 (by omega)).trans (by rw [hz]; rfl)
       have v3 : wr.cell? ⟨H, b * 5 + 3, none⟩ = some (.int .i64 0) := (HG.out.cellsB hb10 3 (by omega)).trans (by rw [hz]; rfl)
       have v4 : wr.cell? ⟨H, b * 5 + 4, none⟩ = some (.int .i64 0) := (HG.out.cellsB hb10 4 (by omega)).trans (by rw [hz]; rfl)
       have f0 := (HG.out.freeB (b * 5)).1
       have f1 := (HG.out.freeB (b * 5 + 1)).1
       have f2 := (HG.out.freeB (b * 5 + 2)).1
       have f3 := (HG.out.freeB (b * 5 + 3)).1
       have f4 := (HG.out.freeB (b * 5 + 4)).1
       have l1 := (HG.out.freeB 0).2
       have l2 : P < wr.heap.size := HG.out.wb.lt
       have l3 : w.heap.size < wr.heap.size := HG.out.mn.t.lt
       clear hz hds
       go_upto_region 23 with fail
       go_cut [] from 113 to 119 (fun wx => ∃ G, Gt w wx P H (Gs ++ [G]) 0)
       case first =>
        go_region
        (try go_wp2)
        go_meet
        refine ⟨wr.heap.size, ?_⟩
        have hq := HG.out.block (by have := HL.out; omega) HDS.out
        rw [HL.out] at hq
        exact hq
       case rest =>
       obtain ⟨G, hG2⟩ := hcut
       have HG2 := Lib.hid hG2
       clear hG2 HG HDS hmk t0 t1 t2 t3 c1 v0 v1 v2 v3 v4 f0 f1 f2 f3 f4 l1 l2 l3
       go_wp2
       go_loopw [13] (fun v wr => ∃ j : Nat, v = .int .i64 j ∧ j ≤ 3000 ∧ Gt w wr P H (Gs ++ [G]) j) (fun v _ => 3000 - (intOf v).toNat)
       case atStart => exact ⟨0, rfl, by omega, HG2.out⟩
       case round =>
        obtain ⟨j, rfl, hj, hG⟩ := hrel
        have HG3 := Lib.hid hG
        clear hG HG2
        by_cases hjn : j < 3000
        · have hj' : (j : Int) < 3000 := by omega
          have hj0 : (0 : Int) ≤ j := by omega
          have c1 : wr.cell? ⟨P, 1, none⟩ = some (.slice (some ⟨H, 0, none⟩) 10 10) := HG3.out.wb.cell 1
          have c2 : wr.cell? ⟨H, b * 5, none⟩ = some (.slice (some ⟨G, 0, none⟩) 3000 3000) := by
           have := HG3.out.cellsB hb10 0 (by omega)
           rw [Nat.add_zero] at this
           rw [this, ← HL.out]
           simp [fB]
          obtain ⟨hlast, hfree, hgl⟩ := HG3.out.last hjn
          have v0 : wr.cell? ⟨G, j * 8, none⟩ = some (.int .i64 0) := (hlast 0 (by omega)).trans (by simp [fI])
          have f0 := hfree (j * 8)
          have v1 : wr.cell? ⟨G, j * 8 + 1, none⟩ = some (.int .i64 0) := (hlast 1 (by omega)).trans (by simp [fI])
          have f1 := hfree (j * 8 + 1)
          have v2 : wr.cell? ⟨G, j * 8 + 2, none⟩ = some (.int .i64 0) := (hlast 2 (by omega)).trans (by simp [fI])
          have f2 := hfree (j * 8 + 2)
          have v3 : wr.cell? ⟨G, j * 8 + 3, none⟩ = some (.int .i64 0) := (hlast 3 (by omega)).trans (by simp [fI])
          have f3 := hfree (j * 8 + 3)
          have v4 : wr.cell? ⟨G, j * 8 + 4, none⟩ = some (.int .i64 0) := (hlast 4 (by omega)).trans (by simp [fI])
          have f4 := hfree (j * 8 + 4)
          have v5 : wr.cell? ⟨G, j * 8 + 5, none⟩ = some (.int .i64 0) := (hlast 5 (by omega)).trans (by simp [fI])
          have f5 := hfree (j * 8 + 5)
          have v6 : wr.cell? ⟨G, j * 8 + 6, none⟩ = some (.slice none 0 0) := (hlast 6 (by omega)).trans (by simp [fI])
          have f6 := hfree (j * 8 + 6)
          have v7 : wr.cell? ⟨G, j * 8 + 7, none⟩ = some (.int .i64 0) := (hlast 7 (by omega)).trans (by simp [fI])
          have f7 := hfree (j * 8 + 7)
          have HP := Lib.hid (HG3.out.move hjn)
          clear hlast hfree
          go_wp2
          go_roundw
          case rel => exact ⟨j + 1, by go_num, by omega, HP.out⟩
          case measure => simp [intOf]; omega
        · have hj' : ¬ (j : Int) < 3000 := by omega
          have hje : j = 3000 := by omega
          rw [hje] at HG3
          clear hjn hje
          go_wp2
          go_roundw
          case rel => exact ⟨b + 1, Gs ++ [G], by go_num, by have := HL.out; show _ = _; rw [List.length_append, List.length_singleton, this], by omega, HG3.out⟩
          case measure => simp [intOf]; omega
     · have hb10' : ¬ (b : Int) < 10 := by omega
       have hbe : b = 10 := by omega
       have c0 : wr.cell? ⟨P, 0, none⟩ = some (.int .i64 0) := HG.out.wb.cell 0
       have c1 : wr.cell? ⟨P, 1, none⟩ = some (.slice (some ⟨H, 0, none⟩) 10 10) := HG.out.wb.cell 1
       have PG := Lib.hid (great_print HG.out (by have := HL.out; omega) (HTA.out _ HG.out.mn.be))
       clear hb10 hbe
       go_wp2_with fail
       refine PG.out.mono ?_
       rintro e w5 ⟨⟨sg, rfl⟩, hb5⟩
       have HW : Hid (Below w.heap.size w w5) := (HG.out.below hb5).mn.be
       clear PG c0 c1 HG hb5
       obtain ⟨b0, hb0, hy0, hy1, hy2⟩ := info_parts byte_info9
       obtain ⟨M, hM⟩ : ∃ M : Nat, M = 262145 := ⟨_, rfl⟩
       have HM : Hid (M = 262145) := hM
       have hM0 : (262145 : Int) = (M : Int) := by rw [hM]; rfl
       have HM0 := Lib.hid hM0
       clear hM hM0
       go_wp2_with (at_make; go_must (refine wpList_make_full _ rfl _ _ _ rfl w5.heap.size 5 b0 _ 1 Tryz.underlying56 hb0 hy0 hy1 .i64 .i64 262145 262145 M rfl rfl HM0.out HM0.out (by rw [hy2, HM.out]; decide) (by rw [HM.out]; decide) (Nat.le_refl _) ?_; intro w6 hown1 hgrow1))
       have HR1 : Hid (w6.ownsRow w5.heap.size 5 1 (.slice (some ⟨w5.heap.size, 0, none⟩) M M) M (List.replicate 0 (.int .u8 32) ++ List.replicate (M - 0) (.int .u8 0))) := by
        have e : (madeCells (Value.int .u8 0).cells (M * 1)).toList = List.replicate 0 (.int .u8 32) ++ List.replicate (M - 0) (.int .u8 0) := by
         rw [Nat.mul_one]
         exact (toList_madeCells_one (.int .u8 0) M).trans (by simp)
        show World.ownsRow _ _ _ _ _ _ _
        rw [← e]
        exact hown1
       have HW1 : Hid (Below w.heap.size w w6) := HW.out.grown hgrow1 HW.out.size (fun k hk => by cases hk)
       have HNB : Hid (w.heap.size ≤ w5.heap.size) := HW.out.size
       generalize w5.heap.size = NB at HR1 HNB ⊢
       clear hown1 hgrow1 HW
       go_loopw [17] (fun v wx => ∃ k : Nat, v = .int .i64 k ∧ k ≤ M ∧ wx.ownsRow NB 5 1 (.slice (some ⟨NB, 0, none⟩) M M) M (List.replicate k (.int .u8 32) ++ List.replicate (M - k) (.int .u8 0)) ∧ Below w.heap.size w wx) (fun v _ => M - (intOf v).toNat)
       case atStart => exact ⟨0, rfl, Nat.zero_le _, HR1.out, HW1.out⟩
       case round =>
        obtain ⟨k, rfl, hk, hR, hW⟩ := hrel
        clear HR1 HW1
        have HR := Lib.hid hR
        have HW := Lib.hid hW
        clear hR hW
        by_cases hk2 : k < M
        · have hk3 : (k : Int) < M := by omega
          have hk0 : (0 : Int) ≤ k := by omega
          have hwk : IntKind.i64.wrap ((k : Int) + 1) = (k : Int) + 1 := by have := HM.out; rw [IntKind.wrap_i64]; omega
          obtain ⟨hcell, hfroz, hgs2, hgB⟩ := row_cell9 HR.out
          have d0 := hcell k (.int .u8 0) (by rw [List.getElem?_append_right (by simp), List.length_replicate, Nat.sub_self, List.getElem?_replicate, if_pos (by omega)])
          have f0 := hfroz k
          have HR2 : Hid ((wr.setCell ⟨NB, k, none⟩ (.int .u8 32)).ownsRow NB 5 1 (.slice (some ⟨NB, 0, none⟩) M M) M (List.replicate (k + 1) (.int .u8 32) ++ List.replicate (M - (k + 1)) (.int .u8 0))) := by
           show World.ownsRow _ _ _ _ _ _ _
           rw [← fill_set9 _ _ M k hk2]
           exact row_store9 HR.out k _
          have HW2 : Hid (Below w.heap.size w (wr.setCell ⟨NB, k, none⟩ (.int .u8 32))) := HW.out.setCell (p := ⟨NB, k, none⟩) HNB.out _
          clear hcell hfroz HR HW
          go_wp2
          go_roundw
          case rel => exact ⟨k + 1, by go_num, by omega, HR2.out, HW2.out⟩
          case measure => simp [intOf]; omega
        · have hk3 : ¬ (k : Int) < M := by omega
          have hke : k = M := by omega
          rw [hke] at HR
          have HC : Hid (∀ i, i < M → wr.cell? ⟨NB, i, none⟩ = some (.int .u8 32)) := fun i hi => (row_cell9 HR.out).1 i _ (by rw [List.getElem?_append_left (by rw [List.length_replicate]; omega), List.getElem?_replicate, if_pos (by omega)])
          have HLT : Hid (NB < wr.heap.size) := (row_cell9 HR.out).2.2.1
          obtain ⟨S1, hS1, conv1⟩ : ∃ S1 : ByteArray, S1.data.toList = List.replicate M 32 ∧ (convert 56 9 (.slice (some ⟨NB, 0, none⟩) M M)).run Tryz.prog wr = .ok (.string S1) wr := ⟨_, by simp, conv_blanks9 wr NB 0 M M (fun i hi => by rw [Nat.zero_add]; exact HC.out i hi)⟩
          have PL := Lib.hid (blank_parse S1 M hS1 wr (HTA.out _ HW.out))
          rw [if_pos (by have := HM.out; omega)] at PL
          clear hS1 HR hke
          go_wp2_with fail
          refine PL.out.mono ?_
          rintro e w7 ⟨⟨ba, la, bc, fr, a1, a2, rfl⟩, hb7⟩
          clear PL conv1
          have HB7 : Hid (Below wr.heap.size wr (w7.alloc (.cells #[.int .i64 fr, .slice ba la bc] 24))) := hb7.alloc hb7.size _
          clear hb7
          have hM1 : (1 : Int) ≤ M := by have := HM0.out; omega
          go_upto_region 35 with fail
          generalize w7.alloc (.cells #[.int .i64 fr, .slice ba la bc] 24) = W7 at HB7 ⊢
          obtain ⟨S2, hS2, conv2⟩ : ∃ S2 : ByteArray, S2.data.toList = List.replicate (M - 1) 32 ∧ (convert 56 9 (.slice (some ⟨NB, 1, none⟩) (M - 1) (M - 1))).run Tryz.prog W7 = .ok (.string S2) W7 := ⟨_, by simp, conv_blanks9 W7 NB 1 (M - 1) (M - 1) (fun i hi => (HB7.out.cell HLT.out).trans (HC.out (1 + i) (by omega)))⟩
          have HBW : Hid (Below w.heap.size w W7) := HW.out.trans (HB7.out.mono HW.out.size)
          have PB := Lib.hid (blank_parse S2 (M - 1) hS2 W7 (HTA.out _ HBW.out))
          rw [if_neg (by have := HM.out; omega)] at PB
          have hMn : ((M : Int) - 1).toNat = M - 1 := by omega
          have hMq := HM.out
          have hMa : 1 < M := by omega
          have hMb : ¬ M = 1 := by omega
          have hMc : ¬ (M : Int) = 1 := by omega
          have hMd : (1 : Int) < M := by omega
          have hMe : ¬ M ≤ 1 := by omega
          have hMf : ¬ M - 1 = 0 := by omega
          clear hMq
          clear hS2 HC HLT HB7 HW
          go_wp2_with fail
          refine PB.out.mono ?_
          rintro e w8 ⟨⟨ba2, la2, bc2, fr2, b1, b2, rfl⟩, hb8⟩
          have HB8 : Hid (Below w.heap.size w (w8.alloc (.cells #[.int .i64 fr2, .slice ba2 la2 bc2] 24))) := (HBW.out.trans (hb8.mono HBW.out.size)).alloc (HBW.out.trans (hb8.mono HBW.out.size)).size _
          clear hb8 conv2 PB HBW
          go_wp2
          go_ret
          exact ⟨rfl, HB8.out⟩
end Go.Proofs.YtbjmbahpcoanoaaGreatDoor
