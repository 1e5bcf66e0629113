/-
  Rows of numbers lie apart, by the bag. No condition beyond those that each theorem states.
-/
import Derived.Test.YtgpbpbhidemciaaGreatIrPj
import Derived.Deep.AppendLies
namespace Go.Proofs.YtgpbpbhidemciaaGreat
open Go.RowKit

/-- A bag that has rows of numbers alone. -/
def bagC (v : Value) : Array Value := #[.slice none 0 0, .slice none 0 0, v, .slice none 0 0, .slice none 0 0, .slice none 0 0, .slice none 0 0, .slice none 0 0, .slice none 0 0, .slice none 0 0, .slice none 0 0, .slice none 0 0, .slice none 0 0, .slice none 0 0, .slice none 0 0, .slice none 0 0, .slice none 0 0]
/-- What a put leaves of all else. -/
structure PutI (w w' : World) (B g : Nat) (v : Value) : Prop where
  own : ∀ b u l, OwnI w b u l → OwnI w' b u l
  blk : ∀ g' t cs, Blk w g' t cs → g' ≠ g → some g' ≠ v.ownBlock → Blk w' g' t cs
  below : ∀ b, b ≤ g → b ≤ B → Below b w w'
set_option maxHeartbeats 1000000 in
set_option maxRecDepth 100000 in
theorem putInts_any (g : Nat) (v : Value) (n : Nat) (vals : List Value) (sa : Option Addr) (m c : Nat) (w : World) (B : Nat) (hn : n ≤ 1000) (hB : B ≤ w.heap.size) (hb : Blk w g 87 (bagC v)) (ho : w.ownsRow B 22 1 v n vals) :
    Calls Tryz.prog 47 #[.pointer (some ⟨g, 0, none⟩), .slice sa m c] w fun e w' => e = .returned (.tuple #[]) ∧ ∃ G cap, Blk w' g 87 (bagC (.slice (some ⟨G, 0, none⟩) (n + 1) cap)) ∧
      w'.ownsRow B 22 1 (.slice (some ⟨G, 0, none⟩) (n + 1) cap) (n + 1) (vals ++ [.slice sa m c]) ∧ PutI w w' B g v ∧ (v.ownBlock = some G ∨ w.heap.size ≤ G) := by
  obtain ⟨i1, hi1, hy0, hy1, hy2⟩ := info_parts row_info
  have c2 : w.cell? ⟨g, 2, none⟩ = some v := by rw [hb.cell]; rfl
  have HB := Lib.hid hB
  have HBK := Lib.hid hb
  have HO := Lib.hid ho
  clear hB hb ho
  go_enter Tryz.func47, Tryz.ntmps47
  go_wp2_with (at_builtin; go_must (refine wpList_append_lies _ rfl _ _ _ rfl B 22 i1 _ 1 24 Tryz.underlying48 hi1 hy0 hy1 hy2 rfl (by omega) v n vals rfl (World.ownsRow.alloc HO.out _) ⟨w.heap.size, 0, none⟩ 1 1 [.slice sa m c] rfl rfl (World.news_of_block (heap_alloc_new w _)) (by simp [Value.oneCell']) (by omega) (by simp only [maxLen]; omega) (by omega) (by have := HB.out; simp; omega) (w.heap.size + 1) (by simp) ?_; intro G cap w1 hown1 hgrow1 hat1 hlt1; have HB1 : Hid (Blk w1 g 87 (bagC v)) := (by exact (HBK.out.alloc _).grown hgrow1 (own_far HO.out HBK.out (by decide))); have k2 : w1.cell? ⟨g, 2, none⟩ = some v := (by rw [HB1.out.cell]; rfl); have f2 : w1.frozen? ⟨g, 2, none⟩ = false := (by exact HB1.out.free 2); have HO1 := Lib.hid hown1; have HG1 := Lib.hid hgrow1; have HA1 := Lib.hid hat1; clear hown1 hgrow1 hat1))
  go_end0
  have hne := own_far HO1.out HB1.out (by decide)
  refine ⟨rfl, G, cap, ?_, own_put HO1.out hne _, ⟨fun b u l hu => ?_, fun g' t cs hg' hne1 hne2 => ?_, fun b hb1 hb2 => ?_⟩, ?_⟩
  · exact HB1.out.put 2 _
  · have h1 : OwnI (w.alloc (.cells #[.slice sa m c] 22)) b u l := World.ownsRow.alloc hu _
    have h2 : OwnI w1 b u l := own_grown h1 HG1.out (fun k hk e => by
      rcases HO.out.2 with ⟨h3, _⟩ | ⟨g2, cap2, cur2, h3, _, h4, _⟩
      · rw [h3] at e; cases e
      · rw [h3] at e
        injection e with e
        exact own_far hu (show Blk w g2 _ _ from h4) (by decide) (by rw [hk, e]))
    exact own_put h2 (own_far h2 HB1.out (by decide)) _
  · exact ((hg'.alloc _).grown HG1.out hne2).far (p := ⟨g, 2, none⟩) hne1 _
  · exact (((Below.refl b w).alloc (by have := HB.out; omega) _).grown HG1.out (by have := HB.out; simp; omega) (fun k hk => by have := (World.ownsRow.lt HO.out k hk).1; omega)).setCell (p := ⟨g, 2, none⟩) hb1 _
  · rcases HA1.out with h | h
    · exact .inl h
    · exact .inr (by omega)
end Go.Proofs.YtgpbpbhidemciaaGreat
namespace Go.Proofs.YtgpbpbhidemciaaGreat
open Go.RowKit

theorem rows_below {w w' : World} {B n : Nat} {V : Nat → Value} {C : Nat → List Int} (h : Rows w B n V C) (hb : Below w.heap.size w w') : Rows w' B n V C :=
  ⟨fun k hk => own_keep (h.own k hk) ⟨hb.size, fun j _ hj => hb.block j hj⟩, h.off⟩
set_option maxHeartbeats 4000000 in
set_option maxRecDepth 100000 in
theorem apart_any (g n G gc : Nat) (V : Nat → Value) (C : Nat → List Int) (cs : Array Value) (w : World) (B : Nat) (hn : n ≤ 1000) (hB : B ≤ w.heap.size) (hC : ∀ k, k < n → (C k).length ≤ 100000) (hR : Rows w B n V C) (hV : Blk w G 22 cs) (hcs : ∀ k, k < n → cs[k]? = some (V k)) (hb : Blk w g 87 (bagC (.slice (some ⟨G, 0, none⟩) n gc))) :
    Calls Tryz.prog 48 #[.pointer (some ⟨g, 0, none⟩)] w fun e w' => e = .returned (.bool true) ∧ Below B w w' := by
  have HR := Lib.hid hR
  have HV := Lib.hid hV
  have HCS := Lib.hid hcs
  have HCL := Lib.hid hC
  have HB := Lib.hid hB
  have HK0 := Lib.hid hb
  have HW0 := Lib.hid (Below.refl B w)
  have HF0 := Lib.hid (Below.refl w.heap.size w)
  clear hR hV hcs hC hB hb
  have c0 : w.cell? ⟨g, 0, none⟩ = some (.slice none 0 0) := by rw [HK0.out.cell]; rfl
  go_enter Tryz.func48, Tryz.ntmps48
  go_wp2_with fail
  refine (flatLimbs_nil _).mono ?_
  rintro e w1 ⟨rfl, hb1⟩
  have HK1 : Hid (Blk w1 g 87 (bagC (.slice (some ⟨G, 0, none⟩) n gc))) := HK0.out.below hb1 HK0.out.lt
  have HF1 : Hid (Below w.heap.size w w1) := HF0.out.trans (hb1.mono HF0.out.size)
  have HW1 : Hid (Below B w w1) := HW0.out.trans (hb1.mono (Nat.le_trans HB.out HW0.out.size))
  clear hb1
  have c1 : w1.cell? ⟨g, 1, none⟩ = some (.slice none 0 0) := by rw [HK1.out.cell]; rfl
  clear c0 HK0 HW0
  go_wp2_with fail
  refine (flatWords_nil _).mono ?_
  rintro e w2 ⟨rfl, hb1⟩
  have HK2 : Hid (Blk w2 g 87 (bagC (.slice (some ⟨G, 0, none⟩) n gc))) := HK1.out.below hb1 HK1.out.lt
  have HF2 : Hid (Below w.heap.size w w2) := HF1.out.trans (hb1.mono HF1.out.size)
  have HW2 : Hid (Below B w w2) := HW1.out.trans (hb1.mono (Nat.le_trans HB.out HW1.out.size))
  clear hb1
  have c2 : w2.cell? ⟨g, 2, none⟩ = some (.slice (some ⟨G, 0, none⟩) n gc) := by rw [HK2.out.cell]; rfl
  clear c1 HK1 HW1
  go_wp2_with fail
  have HR2 := Lib.hid (rows_below HR.out HF2.out)
  have HV2 : Hid (Blk w2 G 22 cs) := HV.out.below HF2.out HV.out.lt
  refine (flatInts_any n V C G gc cs g 87 _ (by decide) w2 B (by omega) (Nat.le_trans HB.out HF2.out.size) HCL.out HR2.out HV2.out HK2.out HCS.out).mono ?_
  rintro e w3 ⟨rfl, hb1, hb2⟩
  have HK3 := Lib.hid hb2
  have HW3 : Hid (Below B w w3) := HW2.out.trans hb1
  clear hb1 hb2 HR2 HV2
  have c3 : w3.cell? ⟨g, 3, none⟩ = some (.slice none 0 0) := by rw [HK3.out.cell]; rfl
  clear c2 HK2 HW2
  go_wp2_with fail
  refine (flatLongs_nil _).mono ?_
  rintro e w4 ⟨rfl, hb1⟩
  have HK4 : Hid (Blk w4 g 87 (bagC (.slice (some ⟨G, 0, none⟩) n gc))) := HK3.out.below hb1 HK3.out.lt
  have HW4 : Hid (Below B w w4) := HW3.out.trans (hb1.mono (Nat.le_trans HB.out HW3.out.size))
  clear hb1
  have c4 : w4.cell? ⟨g, 4, none⟩ = some (.slice none 0 0) := by rw [HK4.out.cell]; rfl
  clear c3 HK3 HW3
  go_wp2_with fail
  refine (flatTexts_nil _).mono ?_
  rintro e w5 ⟨rfl, hb1⟩
  have HK5 : Hid (Blk w5 g 87 (bagC (.slice (some ⟨G, 0, none⟩) n gc))) := HK4.out.below hb1 HK4.out.lt
  have HW5 : Hid (Below B w w5) := HW4.out.trans (hb1.mono (Nat.le_trans HB.out HW4.out.size))
  clear hb1
  have c5 : w5.cell? ⟨g, 5, none⟩ = some (.slice none 0 0) := by rw [HK5.out.cell]; rfl
  clear c4 HK4 HW4
  go_wp2_with fail
  refine (flatBytes_nil _).mono ?_
  rintro e w6 ⟨rfl, hb1⟩
  have HK6 : Hid (Blk w6 g 87 (bagC (.slice (some ⟨G, 0, none⟩) n gc))) := HK5.out.below hb1 HK5.out.lt
  have HW6 : Hid (Below B w w6) := HW5.out.trans (hb1.mono (Nat.le_trans HB.out HW5.out.size))
  clear hb1
  have c6 : w6.cell? ⟨g, 6, none⟩ = some (.slice none 0 0) := by rw [HK6.out.cell]; rfl
  clear c5 HK5 HW5
  go_wp2_with fail
  refine (flatTruths_nil _).mono ?_
  rintro e w7 ⟨rfl, hb1⟩
  have HK7 : Hid (Blk w7 g 87 (bagC (.slice (some ⟨G, 0, none⟩) n gc))) := HK6.out.below hb1 HK6.out.lt
  have HW7 : Hid (Below B w w7) := HW6.out.trans (hb1.mono (Nat.le_trans HB.out HW6.out.size))
  clear hb1
  have c7 : w7.cell? ⟨g, 7, none⟩ = some (.slice none 0 0) := by rw [HK7.out.cell]; rfl
  clear c6 HK6 HW6
  go_wp2_with fail
  refine (flatRow_nil _).mono ?_
  rintro e w8 ⟨rfl, hb1⟩
  have HK8 : Hid (Blk w8 g 87 (bagC (.slice (some ⟨G, 0, none⟩) n gc))) := HK7.out.below hb1 HK7.out.lt
  have HW8 : Hid (Below B w w8) := HW7.out.trans (hb1.mono (Nat.le_trans HB.out HW7.out.size))
  clear hb1
  have c8 : w8.cell? ⟨g, 8, none⟩ = some (.slice none 0 0) := by rw [HK8.out.cell]; rfl
  clear c7 HK7 HW7
  go_wp2_with fail
  refine (flatBlocks_nil _).mono ?_
  rintro e w9 ⟨rfl, hb1⟩
  have HK9 : Hid (Blk w9 g 87 (bagC (.slice (some ⟨G, 0, none⟩) n gc))) := HK8.out.below hb1 HK8.out.lt
  have HW9 : Hid (Below B w w9) := HW8.out.trans (hb1.mono (Nat.le_trans HB.out HW8.out.size))
  clear hb1
  have c9 : w9.cell? ⟨g, 9, none⟩ = some (.slice none 0 0) := by rw [HK9.out.cell]; rfl
  clear c8 HK8 HW8
  go_wp2_with fail
  refine (flatFuncs_nil _).mono ?_
  rintro e w10 ⟨rfl, hb1⟩
  have HK10 : Hid (Blk w10 g 87 (bagC (.slice (some ⟨G, 0, none⟩) n gc))) := HK9.out.below hb1 HK9.out.lt
  have HW10 : Hid (Below B w w10) := HW9.out.trans (hb1.mono (Nat.le_trans HB.out HW9.out.size))
  clear hb1
  have c10 : w10.cell? ⟨g, 10, none⟩ = some (.slice none 0 0) := by rw [HK10.out.cell]; rfl
  clear c9 HK9 HW9
  go_wp2_with fail
  refine (flatTargets_nil _).mono ?_
  rintro e w11 ⟨rfl, hb1⟩
  have HK11 : Hid (Blk w11 g 87 (bagC (.slice (some ⟨G, 0, none⟩) n gc))) := HK10.out.below hb1 HK10.out.lt
  have HW11 : Hid (Below B w w11) := HW10.out.trans (hb1.mono (Nat.le_trans HB.out HW10.out.size))
  clear hb1
  have c11 : w11.cell? ⟨g, 11, none⟩ = some (.slice none 0 0) := by rw [HK11.out.cell]; rfl
  clear c10 HK10 HW10
  go_wp2_with fail
  refine (flatMachines_nil _).mono ?_
  rintro e w12 ⟨rfl, hb1⟩
  have HK12 : Hid (Blk w12 g 87 (bagC (.slice (some ⟨G, 0, none⟩) n gc))) := HK11.out.below hb1 HK11.out.lt
  have HW12 : Hid (Below B w w12) := HW11.out.trans (hb1.mono (Nat.le_trans HB.out HW11.out.size))
  clear hb1
  have c12 : w12.cell? ⟨g, 12, none⟩ = some (.slice none 0 0) := by rw [HK12.out.cell]; rfl
  clear c11 HK11 HW11
  go_wp2_with fail
  refine (flatLocs_nil _).mono ?_
  rintro e w13 ⟨rfl, hb1⟩
  have HK13 : Hid (Blk w13 g 87 (bagC (.slice (some ⟨G, 0, none⟩) n gc))) := HK12.out.below hb1 HK12.out.lt
  have HW13 : Hid (Below B w w13) := HW12.out.trans (hb1.mono (Nat.le_trans HB.out HW12.out.size))
  clear hb1
  have c13 : w13.cell? ⟨g, 13, none⟩ = some (.slice none 0 0) := by rw [HK13.out.cell]; rfl
  clear c12 HK12 HW12
  go_wp2_with fail
  refine (flatFacts_nil _).mono ?_
  rintro e w14 ⟨rfl, hb1⟩
  have HK14 : Hid (Blk w14 g 87 (bagC (.slice (some ⟨G, 0, none⟩) n gc))) := HK13.out.below hb1 HK13.out.lt
  have HW14 : Hid (Below B w w14) := HW13.out.trans (hb1.mono (Nat.le_trans HB.out HW13.out.size))
  clear hb1
  have c14 : w14.cell? ⟨g, 14, none⟩ = some (.slice none 0 0) := by rw [HK14.out.cell]; rfl
  clear c13 HK13 HW13
  go_wp2_with fail
  refine (flatEdges_nil _).mono ?_
  rintro e w15 ⟨rfl, hb1⟩
  have HK15 : Hid (Blk w15 g 87 (bagC (.slice (some ⟨G, 0, none⟩) n gc))) := HK14.out.below hb1 HK14.out.lt
  have HW15 : Hid (Below B w w15) := HW14.out.trans (hb1.mono (Nat.le_trans HB.out HW14.out.size))
  clear hb1
  have c15 : w15.cell? ⟨g, 15, none⟩ = some (.slice none 0 0) := by rw [HK15.out.cell]; rfl
  clear c14 HK14 HW14
  go_wp2_with fail
  refine (flatTiles_nil _).mono ?_
  rintro e w16 ⟨rfl, hb1⟩
  have HK16 : Hid (Blk w16 g 87 (bagC (.slice (some ⟨G, 0, none⟩) n gc))) := HK15.out.below hb1 HK15.out.lt
  have HW16 : Hid (Below B w w16) := HW15.out.trans (hb1.mono (Nat.le_trans HB.out HW15.out.size))
  clear hb1
  have c16 : w16.cell? ⟨g, 16, none⟩ = some (.slice none 0 0) := by rw [HK16.out.cell]; rfl
  clear c15 HK15 HW15
  go_wp2_with fail
  refine (flatCalls_nil _).mono ?_
  rintro e w17 ⟨rfl, hb1⟩
  have HK17 : Hid (Blk w17 g 87 (bagC (.slice (some ⟨G, 0, none⟩) n gc))) := HK16.out.below hb1 HK16.out.lt
  have HW17 : Hid (Below B w w17) := HW16.out.trans (hb1.mono (Nat.le_trans HB.out HW16.out.size))
  clear hb1
  go_wp2
  go_ret
  exact ⟨rfl, HW17.out⟩
theorem row_at {w : World} {B n G gc : Nat} {V : Nat → Value} (h : w.ownsRow B 22 1 (.slice (some ⟨G, 0, none⟩) n gc) n ((List.range n).map V)) : ∃ cs : Array Value, Blk w G 22 cs ∧ ∀ k, k < n → cs[k]? = some (V k) := by
  rcases h.2 with ⟨h1, _⟩ | ⟨g, cap, cur, h1, _, h2, _, _, _, h3⟩
  · cases h1
  · injection h1 with h4 h5 h6
    injection h4 with h4
    injection h4 with h4
    subst h4
    refine ⟨cur, h2, fun k hk => ?_⟩
    rw [← Array.getElem?_toList, ← List.getElem?_take_of_lt (show k < n * 1 by omega), h3, List.getElem?_map, List.getElem?_range hk]
    rfl
set_option maxHeartbeats 2000000 in
set_option maxRecDepth 100000 in
theorem apartInts_any (n : Nat) (V : Nat → Value) (C : Nat → List Int) (gl lc : Nat) (csl : Array Value) (w : World) (B : Nat) (hn0 : 0 < n) (hn : n ≤ 1000) (hB : B ≤ w.heap.size) (hC : ∀ k, k < n → (C k).length ≤ 100000) (hR : Rows w B n V C) (hV : Blk w gl 22 csl) (hcs : ∀ k, k < n → csl[k]? = some (V k)) :
    Calls Tryz.prog 24 #[.slice (some ⟨gl, 0, none⟩) n lc] w fun e w' => e = .returned (.bool true) ∧ Below B w w' := by
  have HR0 : Hid (Rows (w.alloc (.cells (bagC (.slice none 0 0)) 87)) B n V C) := Lib.hid ⟨fun k hk => World.ownsRow.alloc (hR.own k hk) _, hR.off⟩
  have HV0 : Hid (Blk (w.alloc (.cells (bagC (.slice none 0 0)) 87)) gl 22 csl) := Lib.hid (hV.alloc _)
  have HG0 : Hid (Blk (w.alloc (.cells (bagC (.slice none 0 0)) 87)) w.heap.size 87 (bagC (.slice none 0 0))) := Lib.hid (Blk.new w _ _)
  have HW0 : Hid (Below B w (w.alloc (.cells (bagC (.slice none 0 0)) 87))) := Lib.hid ((Below.refl B w).alloc hB _)
  have HO0 : Hid ((w.alloc (.cells (bagC (.slice none 0 0)) 87)).ownsRow w.heap.size 22 1 (.slice none 0 0) 0 ((List.range 0).map V)) := Lib.hid ⟨by simp, .inl ⟨rfl, rfl⟩⟩
  have HL := Lib.hid hV.lt
  have HCS := Lib.hid hcs
  have HCL := Lib.hid hC
  have HBS := Lib.hid hB
  clear hR hV hcs hC hB
  go_enter Tryz.func24, Tryz.ntmps24
  go_wp2
  go_loopw [4] (fun v wr => ∃ (k : Nat) (u : Value), v = .int .i64 k ∧ k ≤ n ∧ Rows wr B n V C ∧ Blk wr gl 22 csl ∧ Blk wr w.heap.size 87 (bagC u) ∧ wr.ownsRow w.heap.size 22 1 u k ((List.range k).map V) ∧ Below B w wr) (fun v _ => n - (intOf v).toNat)
  case atStart => exact ⟨0, .slice none 0 0, rfl, Nat.zero_le _, HR0.out, HV0.out, HG0.out, HO0.out, HW0.out⟩
  case round =>
    obtain ⟨k, u, rfl, hk, hR, hV, hG, hO, hW⟩ := hrel
    clear HR0 HV0 HG0 HO0 HW0
    have HR := Lib.hid hR
    have HV := Lib.hid hV
    have HG := Lib.hid hG
    have HO := Lib.hid hO
    have HW := Lib.hid hW
    clear hR hV hG hO hW
    by_cases hlt : k < n
    · have hlt' : (k : Int) < n := by omega
      have hk0 : (0 : Int) ≤ k := by omega
      obtain ⟨a, c, hVk, _, _⟩ := (HR.out.own k hlt).shape
      have HVK := Lib.hid hVk
      generalize (C k).length = L at hVk HVK
      have c0 : wr.cell? ⟨gl, k, none⟩ = some (.slice a L c) := by rw [HV.out.cell, HCS.out k hlt, hVk]
      clear hVk
      have HP := Lib.hid (putInts_any w.heap.size u k ((List.range k).map V) a L c wr w.heap.size (by omega) HW.out.size HG.out HO.out)
      go_wp2_with fail
      refine HP.out.mono ?_
      rintro e w1 ⟨rfl, G, cap, hg1, ho1, hp1, hn1⟩
      have HR1 : Hid (Rows w1 B n V C) := Lib.hid ⟨fun j hj => hp1.own B _ _ (HR.out.own j hj), HR.out.off⟩
      have HV1 : Hid (Blk w1 gl 22 csl) := Lib.hid (hp1.blk _ _ _ HV.out (by have := HL.out; omega) (fun e => by have := (World.ownsRow.lt HO.out gl e.symm).1; have := HL.out; omega))
      have HG1 := Lib.hid hg1
      have HO1 : Hid (w1.ownsRow w.heap.size 22 1 (.slice (some ⟨G, 0, none⟩) (k + 1) cap) (k + 1) ((List.range (k + 1)).map V)) := by
        show World.ownsRow _ _ _ _ _ _ _
        rw [List.range_succ, List.map_append, List.map_singleton, HVK.out]
        exact ho1
      have HW1 : Hid (Below B w w1) := Lib.hid (HW.out.trans (hp1.below B HBS.out HBS.out))
      clear hg1 ho1 hp1 hn1 HP
      go_wp2
      go_roundw
      case rel => exact ⟨k + 1, _, by go_num, by omega, HR1.out, HV1.out, HG1.out, HO1.out, HW1.out⟩
      case measure => simp [intOf]; omega
    · have e : n = k := by omega
      subst e
      have hlt' : ¬ (n : Int) < n := by omega
      obtain ⟨G, cap, rfl, _, _⟩ := World.ownsRow.form HO.out hn0
      obtain ⟨cs, hcs1, hcs2⟩ := row_at HO.out
      have HA := Lib.hid (apart_any w.heap.size n G cap V C cs wr B hn (Nat.le_trans HBS.out HW.out.size) HCL.out HR.out hcs1 hcs2 HG.out)
      clear hcs1 hcs2
      go_wp2_with fail
      refine HA.out.mono ?_
      rintro e w1 ⟨rfl, hb1⟩
      have HW1 : Hid (Below B w w1) := Lib.hid (HW.out.trans hb1)
      clear hb1
      go_wp2
      go_ret
      exact ⟨rfl, HW1.out⟩
end Go.Proofs.YtgpbpbhidemciaaGreat
