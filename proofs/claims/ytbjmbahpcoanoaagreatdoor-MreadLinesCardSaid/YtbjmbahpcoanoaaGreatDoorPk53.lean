/-
  MreadLines: the walk (written by gen/mle.py). Conditions: the library's tables, its errors, the Ops' names and parts hold what the text lays.
-/
import Derived.Test.YtbjmbahpcoanoaaGreatDoorPk52
namespace Go.Proofs.YtbjmbahpcoanoaaGreatDoor
open Go.RowKit

def linesA : Array Value := #[.string ⟨#[114, 49, 32, 226, 134, 144, 32, 99, 111, 110, 115, 116, 32, 45, 53]⟩, .string ⟨#[114, 50, 32, 226, 134, 144, 32, 97, 100, 100, 32, 114, 49, 32, 114, 54, 51]⟩, .string ⟨#[114, 49, 32, 226, 134, 144, 32, 115, 97, 109, 101, 32, 114, 50, 32, 114, 50]⟩, .string ⟨#[114, 49, 32, 226, 134, 144, 32, 108, 111, 97, 100, 32, 114, 50, 32, 55]⟩, .string ⟨#[115, 116, 111, 114, 101, 32, 114, 49, 32, 45, 51, 32, 114, 50]⟩, .string ⟨#[99, 97, 108, 108, 32, 57, 57, 32, 56]⟩, .string ⟨#[114, 49, 32, 226, 134, 144, 32, 114, 48]⟩, .string ⟨#[115, 51, 57, 57, 32, 226, 134, 144, 32, 114, 49]⟩, .string ⟨#[114, 49, 32, 226, 134, 144, 32, 115, 48]⟩, .string ⟨#[226, 134, 146, 32, 49]⟩, .string ⟨#[114, 49, 32, 226, 134, 146, 32, 48, 32, 49, 57, 57]⟩, .string ⟨#[114, 101, 116, 117, 114, 110, 32, 114, 49]⟩, .string ⟨#[114, 101, 116, 117, 114, 110]⟩, .string ⟨#[116, 114, 97, 112]⟩]
def wordsA : Array Value := #[.string ⟨#[]⟩, .string ⟨#[114, 54, 52]⟩, .string ⟨#[114, 48, 49]⟩, .string ⟨#[115, 52, 48, 48]⟩, .string ⟨#[115, 49]⟩, .string ⟨#[114, 49]⟩, .string ⟨#[118, 49]⟩, .string ⟨#[226, 134, 144]⟩, .string ⟨#[226, 134, 146]⟩, .string ⟨#[53]⟩, .string ⟨#[45, 49]⟩, .string ⟨#[50, 48, 48]⟩, .string ⟨#[57]⟩, .string ⟨#[97, 100, 100]⟩, .string ⟨#[98, 108, 111, 99, 107]⟩, .string ⟨#[10]⟩, .string ⟨#[59, 32, 120, 10]⟩, .string ⟨#[49, 48, 57, 57, 53, 49, 49, 54, 50, 55, 55, 55, 55]⟩]
def headsA : Array Value := #[.string ⟨#[]⟩, .string ⟨#[116, 97, 114, 103, 101, 116]⟩, .string ⟨#[116, 97, 114, 103, 101, 116, 32, 52, 48, 49]⟩, .string ⟨#[116, 97, 114, 103, 101, 116, 32, 45, 49]⟩, .string ⟨#[116, 97, 114, 103, 101, 116, 32, 48, 32, 48]⟩, .string ⟨#[116, 97, 114, 103, 101, 116, 32, 114, 49]⟩, .string ⟨#[102, 117, 110, 32, 49]⟩, .string ⟨#[116, 97, 114, 103, 101, 116, 32, 53, 10, 10, 59, 10]⟩, .string ⟨#[116, 97, 114, 103, 101, 116, 32, 53, 32, 98, 108, 111, 99, 107, 32, 48]⟩]
def blocksA : Array Value := #[.string ⟨#[]⟩, .string ⟨#[98, 108, 111, 99, 107, 32, 48, 10, 116, 114, 97, 112]⟩, .string ⟨#[98, 108, 111, 99, 107, 32, 49, 10, 116, 114, 97, 112]⟩, .string ⟨#[98, 108, 111, 99, 107, 32, 48, 32, 116, 114, 97, 112]⟩, .string ⟨#[98, 108, 111, 99, 107, 32, 48, 10]⟩, .string ⟨#[98, 108, 111, 99, 107, 32, 48, 10, 116, 114, 97, 112, 10, 98, 108, 111, 99, 107, 32, 48, 10, 116, 114, 97, 112]⟩, .string ⟨#[98, 108, 111, 99, 107, 32, 48, 10, 116, 114, 97, 112, 10, 116, 114, 97, 112]⟩, .string ⟨#[98, 108, 111, 99, 107, 32, 48, 10, 114, 101, 116, 117, 114, 110, 32, 114, 49, 32, 114, 50]⟩]
theorem linesA_at {k : Nat} (h : k < 14) : ∃ s : ByteArray, linesA[k]? = some (.string s) ∧ s.size ≤ 30 := by
 match k, h with
 | 0, _ => exact ⟨_, rfl, by decide⟩
 | 1, _ => exact ⟨_, rfl, by decide⟩
 | 2, _ => exact ⟨_, rfl, by decide⟩
 | 3, _ => exact ⟨_, rfl, by decide⟩
 | 4, _ => exact ⟨_, rfl, by decide⟩
 | 5, _ => exact ⟨_, rfl, by decide⟩
 | 6, _ => exact ⟨_, rfl, by decide⟩
 | 7, _ => exact ⟨_, rfl, by decide⟩
 | 8, _ => exact ⟨_, rfl, by decide⟩
 | 9, _ => exact ⟨_, rfl, by decide⟩
 | 10, _ => exact ⟨_, rfl, by decide⟩
 | 11, _ => exact ⟨_, rfl, by decide⟩
 | 12, _ => exact ⟨_, rfl, by decide⟩
 | 13, _ => exact ⟨_, rfl, by decide⟩
theorem wordsA_at {k : Nat} (h : k < 18) : ∃ s : ByteArray, wordsA[k]? = some (.string s) ∧ s.size ≤ 30 := by
 match k, h with
 | 0, _ => exact ⟨_, rfl, by decide⟩
 | 1, _ => exact ⟨_, rfl, by decide⟩
 | 2, _ => exact ⟨_, rfl, by decide⟩
 | 3, _ => exact ⟨_, rfl, by decide⟩
 | 4, _ => exact ⟨_, rfl, by decide⟩
 | 5, _ => exact ⟨_, rfl, by decide⟩
 | 6, _ => exact ⟨_, rfl, by decide⟩
 | 7, _ => exact ⟨_, rfl, by decide⟩
 | 8, _ => exact ⟨_, rfl, by decide⟩
 | 9, _ => exact ⟨_, rfl, by decide⟩
 | 10, _ => exact ⟨_, rfl, by decide⟩
 | 11, _ => exact ⟨_, rfl, by decide⟩
 | 12, _ => exact ⟨_, rfl, by decide⟩
 | 13, _ => exact ⟨_, rfl, by decide⟩
 | 14, _ => exact ⟨_, rfl, by decide⟩
 | 15, _ => exact ⟨_, rfl, by decide⟩
 | 16, _ => exact ⟨_, rfl, by decide⟩
 | 17, _ => exact ⟨_, rfl, by decide⟩
 | n + 18, h => exact absurd h (by omega)
theorem headsA_at {k : Nat} (h : k < 9) : ∃ s : ByteArray, headsA[k]? = some (.string s) ∧ s.size ≤ 30 := by
 match k, h with
 | 0, _ => exact ⟨_, rfl, by decide⟩
 | 1, _ => exact ⟨_, rfl, by decide⟩
 | 2, _ => exact ⟨_, rfl, by decide⟩
 | 3, _ => exact ⟨_, rfl, by decide⟩
 | 4, _ => exact ⟨_, rfl, by decide⟩
 | 5, _ => exact ⟨_, rfl, by decide⟩
 | 6, _ => exact ⟨_, rfl, by decide⟩
 | 7, _ => exact ⟨_, rfl, by decide⟩
 | 8, _ => exact ⟨_, rfl, by decide⟩
theorem blocksA_at {k : Nat} (h : k < 8) : ∃ s : ByteArray, blocksA[k]? = some (.string s) ∧ s.size ≤ 30 := by
 match k, h with
 | 0, _ => exact ⟨_, rfl, by decide⟩
 | 1, _ => exact ⟨_, rfl, by decide⟩
 | 2, _ => exact ⟨_, rfl, by decide⟩
 | 3, _ => exact ⟨_, rfl, by decide⟩
 | 4, _ => exact ⟨_, rfl, by decide⟩
 | 5, _ => exact ⟨_, rfl, by decide⟩
 | 6, _ => exact ⟨_, rfl, by decide⟩
 | 7, _ => exact ⟨_, rfl, by decide⟩
theorem add_any (a b : ByteArray) (h : a.size + b.size ≤ 1000) : ∃ q : ByteArray, (∀ w, (Op.stringOp .add a b).run Tryz.prog w = .ok (.string q) w) ∧ q.size = a.size + b.size := ⟨_, fun w => run_string_add_sum w _ _ (by omega), ByteArray.size_append⟩
theorem row_at {w : World} {g k : Nat} {cs : Array Value} {s : ByteArray} (h : Blk w g 9 cs) (hk : cs[k]? = some (.string s)) : w.cell? ⟨g, k, none⟩ = some (.string s) := (h.cell k).trans hk
set_option maxHeartbeats 16000000 in
set_option maxRecDepth 100000 in
theorem mreadLines_any (w : World) (hT : TabA w) : Calls Tryz.prog 5 #[] w fun e w' => e = .returned (.bool true) ∧ Below w.heap.size w w' := by
 have HTA : Hid (∀ W, Below w.heap.size w W → TabA W) := fun W h => hT.below h
 have MP : Hid (∀ (s : ByteArray) (W : World), Below w.heap.size w W → Calls Tryz.prog 4 #[.string s] W fun e w' => e = .returned (.bool true) ∧ Below W.heap.size W w') := fun s W h => mreadParses_any s W (HTA.out W h)
 have MY : Hid (∀ (W : World), Below w.heap.size w W → _) := fun W h => many7_any W (HTA.out W h)
 have AW : Hid (∀ (W : World), Below w.heap.size w W → _) := fun W h => awake7_any W (HTA.out W h)
 have HB0 : Hid (Below w.heap.size w ((w.alloc (.cells linesA 9)).alloc (.cells wordsA 9))) := ((Below.refl _ w).alloc (Nat.le_refl _) _).alloc (by simp) _
 have HLA0 : Hid (Blk ((w.alloc (.cells linesA 9)).alloc (.cells wordsA 9)) w.heap.size 9 linesA) := (Blk.new w _ _).alloc _
 have HLB0 : Hid (Blk ((w.alloc (.cells linesA 9)).alloc (.cells wordsA 9)) (w.heap.size + 1) 9 wordsA) := new_two w _ _ _
 rw [show linesA = #[.string ⟨#[114, 49, 32, 226, 134, 144, 32, 99, 111, 110, 115, 116, 32, 45, 53]⟩, .string ⟨#[114, 50, 32, 226, 134, 144, 32, 97, 100, 100, 32, 114, 49, 32, 114, 54, 51]⟩, .string ⟨#[114, 49, 32, 226, 134, 144, 32, 115, 97, 109, 101, 32, 114, 50, 32, 114, 50]⟩, .string ⟨#[114, 49, 32, 226, 134, 144, 32, 108, 111, 97, 100, 32, 114, 50, 32, 55]⟩, .string ⟨#[115, 116, 111, 114, 101, 32, 114, 49, 32, 45, 51, 32, 114, 50]⟩, .string ⟨#[99, 97, 108, 108, 32, 57, 57, 32, 56]⟩, .string ⟨#[114, 49, 32, 226, 134, 144, 32, 114, 48]⟩, .string ⟨#[115, 51, 57, 57, 32, 226, 134, 144, 32, 114, 49]⟩, .string ⟨#[114, 49, 32, 226, 134, 144, 32, 115, 48]⟩, .string ⟨#[226, 134, 146, 32, 49]⟩, .string ⟨#[114, 49, 32, 226, 134, 146, 32, 48, 32, 49, 57, 57]⟩, .string ⟨#[114, 101, 116, 117, 114, 110, 32, 114, 49]⟩, .string ⟨#[114, 101, 116, 117, 114, 110]⟩, .string ⟨#[116, 114, 97, 112]⟩] from rfl, show wordsA = #[.string ⟨#[]⟩, .string ⟨#[114, 54, 52]⟩, .string ⟨#[114, 48, 49]⟩, .string ⟨#[115, 52, 48, 48]⟩, .string ⟨#[115, 49]⟩, .string ⟨#[114, 49]⟩, .string ⟨#[118, 49]⟩, .string ⟨#[226, 134, 144]⟩, .string ⟨#[226, 134, 146]⟩, .string ⟨#[53]⟩, .string ⟨#[45, 49]⟩, .string ⟨#[50, 48, 48]⟩, .string ⟨#[57]⟩, .string ⟨#[97, 100, 100]⟩, .string ⟨#[98, 108, 111, 99, 107]⟩, .string ⟨#[10]⟩, .string ⟨#[59, 32, 120, 10]⟩, .string ⟨#[49, 48, 57, 57, 53, 49, 49, 54, 50, 55, 55, 55, 55]⟩] from rfl] at HB0 HLA0 HLB0
 clear hT
 go_enter Tryz.func5, Tryz.ntmps5
 go_wp2
 go_loopw [3] (fun v wr => ∃ i : Nat, v = .int .i64 i ∧ i ≤ 14 ∧ Blk wr w.heap.size 9 linesA ∧ Blk wr (w.heap.size + 1) 9 wordsA ∧ Below w.heap.size w wr) (fun v _ => 14 - (intOf v).toNat)
 case atStart => exact ⟨0, rfl, by omega, HLA0.out, HLB0.out, HB0.out⟩
 case round =>
  obtain ⟨i, rfl, hi, hA, hW, hB⟩ := hrel
  have HA := Lib.hid hA
  have HW := Lib.hid hW
  have HB := Lib.hid hB
  clear hA hW hB HB0 HLA0 HLB0
  by_cases hin : i < 14
  · have hin' : (i : Int) < 14 := by omega
    have hi0 : (0 : Int) ≤ i := by omega
    obtain ⟨s, hs, hsz⟩ := linesA_at hin
    have cs := row_at HA.out hs
    obtain ⟨p1, hp1, _⟩ := add_any ⟨#[116, 97, 114, 103, 101, 116, 32, 48, 10, 98, 108, 111, 99, 107, 32, 48, 10]⟩ s (by show 17 + _ ≤ _; omega)
    obtain ⟨p2, hp2, z2⟩ := add_any ⟨#[116, 97, 114, 103, 101, 116, 32, 52, 48, 48, 10, 98, 108, 111, 99, 107, 32, 48, 10]⟩ s (by show 19 + _ ≤ _; omega)
    replace z2 : p2.size = 19 + s.size := z2
    obtain ⟨p3, hp3, _⟩ := add_any p2 ⟨#[10, 116, 114, 97, 112]⟩ (by show _ + 5 ≤ _; omega)
    obtain ⟨p4, hp4, z4⟩ := add_any ⟨#[116, 97, 114, 103, 101, 116, 32, 49, 10, 98, 108, 111, 99, 107, 32, 48, 10, 116, 114, 97, 112, 10, 98, 108, 111, 99, 107, 32, 49, 10]⟩ s (by show 30 + _ ≤ _; omega)
    replace z4 : p4.size = 30 + s.size := z4
    obtain ⟨p5, hp5, z5⟩ := add_any p4 ⟨#[10]⟩ (by show _ + 1 ≤ _; omega)
    replace z5 : p5.size = p4.size + 1 := z5
    obtain ⟨p6, hp6, z6⟩ := add_any p5 s (by omega)
    obtain ⟨p7, hp7, _⟩ := add_any p6 ⟨#[10]⟩ (by show _ + 1 ≤ _; omega)
    clear hs z2 z4 z5 z6
    go_wp2_with fail
    refine (MP.out p1 _ HB.out).mono ?_
    rintro e w1 ⟨rfl, hb⟩
    have HA1 := Lib.hid (HA.out.below hb HA.out.lt)
    have HW1 := Lib.hid (HW.out.below hb HW.out.lt)
    have HB1 : Hid (Below w.heap.size w w1) := HB.out.trans (hb.mono HB.out.size)
    clear hb HA HW HB cs
    go_wp2_with fail
    refine (MP.out p3 _ HB1.out).mono ?_
    rintro e w2 ⟨rfl, hb⟩
    have HA2 := Lib.hid (HA1.out.below hb HA1.out.lt)
    have HW2 := Lib.hid (HW1.out.below hb HW1.out.lt)
    have HB2 : Hid (Below w.heap.size w w2) := HB1.out.trans (hb.mono HB1.out.size)
    clear hb HA1 HW1 HB1
    go_wp2_with fail
    refine (MP.out p7 _ HB2.out).mono ?_
    rintro e w3 ⟨rfl, hb⟩
    have HA := Lib.hid (HA2.out.below hb HA2.out.lt)
    have HW := Lib.hid (HW2.out.below hb HW2.out.lt)
    have HB : Hid (Below w.heap.size w w3) := HB2.out.trans (hb.mono HB2.out.size)
    clear hb HA2 HW2 HB2 hp1 hp2 hp3 hp4 hp5 hp6 hp7
    go_wp2
    go_loopw [5, 6] (fun v u wx => ∃ (f k : Nat), v = .int .i64 f ∧ u = .int .i64 k ∧ f ≤ s.size ∧ k ≤ s.size + 1 ∧ Blk wx w.heap.size 9 linesA ∧ Blk wx (w.heap.size + 1) 9 wordsA ∧ Below w.heap.size w wx) (fun _ u _ => s.size + 1 - (intOf u).toNat)
    case atStart => exact ⟨0, 0, rfl, rfl, by omega, by omega, HA.out, HW.out, HB.out⟩
    case round =>
     obtain ⟨f, k, rfl, rfl, hf, hk, hA, hW, hB⟩ := hrel
     clear HA HW HB
     have HA := Lib.hid hA
     have HW := Lib.hid hW
     have HB := Lib.hid hB
     clear hA hW hB
     have hk0 : (0 : Int) ≤ k := by omega
     have hf0 : (0 : Int) ≤ f := by omega
     have hf1 : (f : Int) ≤ s.size := by omega
     by_cases hks : k < s.size
     · have hks' : (k : Int) < s.size := by omega
       have hks2 : (k : Int) ≤ s.size := by omega
       cases hby : (((s[k]'hks).toNat : Int) != 32)
       case true =>
        go_wp2
        go_roundw
        case rel => exact ⟨f, k + 1, rfl, by go_num, hf, by omega, HA.out, HW.out, HB.out⟩
        case measure => simp [intOf]; omega
       case false =>
        go_wp2_with fail
        clear hby
        go_loopw [7] (fun v wy => ∃ p : Nat, v = .int .i64 p ∧ p ≤ 18 ∧ Blk wy w.heap.size 9 linesA ∧ Blk wy (w.heap.size + 1) 9 wordsA ∧ Below w.heap.size w wy) (fun v _ => 18 - (intOf v).toNat)
        case atStart => exact ⟨0, rfl, by omega, HA.out, HW.out, HB.out⟩
        case round =>
         obtain ⟨p, rfl, hp, hA, hW, hB⟩ := hrel
         clear HA HW HB
         have HA := Lib.hid hA
         have HW := Lib.hid hW
         have HB := Lib.hid hB
         clear hA hW hB
         by_cases hpn : p < 18
         · have hpn' : (p : Int) < 18 := by omega
           have hp0 : (0 : Int) ≤ p := by omega
           obtain ⟨q, hq, hqz⟩ := wordsA_at hpn
           have cq := row_at HW.out hq
           obtain ⟨q1, hq1, y1⟩ := add_any ⟨#[116, 97, 114, 103, 101, 116, 32, 57, 10, 98, 108, 111, 99, 107, 32, 48, 10]⟩ (s.extract 0 f) (by rw [ByteArray.size_extract]; show 17 + _ ≤ _; omega)
           replace y1 : q1.size = 17 + _ := y1
           rw [ByteArray.size_extract] at y1
           obtain ⟨q2, hq2, y2⟩ := add_any q1 q (by omega)
           obtain ⟨q3, hq3, y3⟩ := add_any q2 (s.extract k s.size) (by rw [ByteArray.size_extract]; omega)
           rw [ByteArray.size_extract] at y3
           obtain ⟨q4, hq4, _⟩ := add_any q3 ⟨#[10, 116, 114, 97, 112]⟩ (by show _ + 5 ≤ _; omega)
           have hb0 := (Below.refl wr.heap.size wr).drew
           have HQ : Hid (∀ W, Below wr.heap.size wr W → Below wr.heap.size wr W ∧ W.cell? ⟨w.heap.size + 1, p, none⟩ = some (.string q)) := fun W h => ⟨h, row_at (HW.out.below h HW.out.lt) hq⟩
           have CR : Hid (∀ (t : ByteArray) W, Below wr.heap.size wr W → Calls Tryz.prog 4 #[.string t] W fun e w' => e = .returned (.bool true) ∧ Below wr.heap.size wr w') := fun t W h => (MP.out t W (HB.out.trans (h.mono HB.out.size))).mono fun e w' ⟨h1, h2⟩ => ⟨h1, h.trans (h2.mono h.size)⟩
           clear hq y1 y2 y3
           go_upto_region 17 with fail
           go_region_held3 (fun W => Below wr.heap.size wr W ∧ W.cell? ⟨w.heap.size + 1, p, none⟩ = some (.string q))
            (first | (refine HQ.out _ ?_; assumption))
            (first
              | (go_at_call 4; refine (CR.out _ _ (by go_split_ands; assumption)).mono ?_; rintro e w9 ⟨rfl, hb9⟩))
           rename_i hH
           clear hH CR HQ cq hq1 hq2 hq3 hq4
           have HA9 := Lib.hid (HA.out.below hb9 HA.out.lt)
           have HW9 := Lib.hid (HW.out.below hb9 HW.out.lt)
           have HB9 : Hid (Below w.heap.size w w9) := HB.out.trans (hb9.mono HB.out.size)
           clear hb9 hb0
           go_wp2
           go_roundw
           case rel => exact ⟨p + 1, by go_num, by omega, HA9.out, HW9.out, HB9.out⟩
           case measure => simp [intOf]; omega
         · have hpn' : ¬ (p : Int) < 18 := by omega
           have hmn : min ((k : Int) + 1) (s.size : Int) = (k : Int) + 1 := by omega
           have hwj : IntKind.i64.wrap ((k : Int) + 1) = (k : Int) + 1 := by rw [IntKind.wrap_i64]; omega
           go_wp2
           go_roundw
           case rel => exact ⟨k + 1, k + 1, by go_num, by go_num, by omega, by omega, HA.out, HW.out, HB.out⟩
           case measure => simp [intOf]; omega
     · by_cases hks3 : k ≤ s.size
       · have hks' : ¬ (k : Int) < s.size := by omega
         have hks2 : (k : Int) ≤ s.size := by omega
         go_wp2_with fail
         go_loopw [7] (fun v wy => ∃ p : Nat, v = .int .i64 p ∧ p ≤ 18 ∧ Blk wy w.heap.size 9 linesA ∧ Blk wy (w.heap.size + 1) 9 wordsA ∧ Below w.heap.size w wy) (fun v _ => 18 - (intOf v).toNat)
         case atStart => exact ⟨0, rfl, by omega, HA.out, HW.out, HB.out⟩
         case round =>
          obtain ⟨p, rfl, hp, hA, hW, hB⟩ := hrel
          clear HA HW HB
          have HA := Lib.hid hA
          have HW := Lib.hid hW
          have HB := Lib.hid hB
          clear hA hW hB
          by_cases hpn : p < 18
          · have hpn' : (p : Int) < 18 := by omega
            have hp0 : (0 : Int) ≤ p := by omega
            obtain ⟨q, hq, hqz⟩ := wordsA_at hpn
            have cq := row_at HW.out hq
            obtain ⟨q1, hq1, y1⟩ := add_any ⟨#[116, 97, 114, 103, 101, 116, 32, 57, 10, 98, 108, 111, 99, 107, 32, 48, 10]⟩ (s.extract 0 f) (by rw [ByteArray.size_extract]; show 17 + _ ≤ _; omega)
            replace y1 : q1.size = 17 + _ := y1
            rw [ByteArray.size_extract] at y1
            obtain ⟨q2, hq2, y2⟩ := add_any q1 q (by omega)
            obtain ⟨q3, hq3, y3⟩ := add_any q2 (s.extract k s.size) (by rw [ByteArray.size_extract]; omega)
            rw [ByteArray.size_extract] at y3
            obtain ⟨q4, hq4, _⟩ := add_any q3 ⟨#[10, 116, 114, 97, 112]⟩ (by show _ + 5 ≤ _; omega)
            have hb0 := (Below.refl wr.heap.size wr).drew
            have HQ : Hid (∀ W, Below wr.heap.size wr W → Below wr.heap.size wr W ∧ W.cell? ⟨w.heap.size + 1, p, none⟩ = some (.string q)) := fun W h => ⟨h, row_at (HW.out.below h HW.out.lt) hq⟩
            have CR : Hid (∀ (t : ByteArray) W, Below wr.heap.size wr W → Calls Tryz.prog 4 #[.string t] W fun e w' => e = .returned (.bool true) ∧ Below wr.heap.size wr w') := fun t W h => (MP.out t W (HB.out.trans (h.mono HB.out.size))).mono fun e w' ⟨h1, h2⟩ => ⟨h1, h.trans (h2.mono h.size)⟩
            clear hq y1 y2 y3
            go_upto_region 17 with fail
            go_region_held3 (fun W => Below wr.heap.size wr W ∧ W.cell? ⟨w.heap.size + 1, p, none⟩ = some (.string q))
             (first | (refine HQ.out _ ?_; assumption))
             (first
               | (go_at_call 4; refine (CR.out _ _ (by go_split_ands; assumption)).mono ?_; rintro e w9 ⟨rfl, hb9⟩))
            rename_i hH
            clear hH CR HQ cq hq1 hq2 hq3 hq4
            have HA9 := Lib.hid (HA.out.below hb9 HA.out.lt)
            have HW9 := Lib.hid (HW.out.below hb9 HW.out.lt)
            have HB9 : Hid (Below w.heap.size w w9) := HB.out.trans (hb9.mono HB.out.size)
            clear hb9 hb0
            go_wp2
            go_roundw
            case rel => exact ⟨p + 1, by go_num, by omega, HA9.out, HW9.out, HB9.out⟩
            case measure => simp [intOf]; omega
          · have hpn' : ¬ (p : Int) < 18 := by omega
            have hmn : min ((k : Int) + 1) (s.size : Int) = (s.size : Int) := by omega
            have hwj : IntKind.i64.wrap ((k : Int) + 1) = (k : Int) + 1 := by rw [IntKind.wrap_i64]; omega
            go_wp2
            go_roundw
            case rel => exact ⟨s.size, k + 1, by rfl, by go_num, by omega, by omega, HA.out, HW.out, HB.out⟩
            case measure => simp [intOf]; omega
       · have hks' : ¬ (k : Int) ≤ s.size := by omega
         go_wp2
         go_roundw
         case rel => exact ⟨i + 1, by go_num, by omega, HA.out, HW.out, HB.out⟩
         case measure => simp [intOf]; omega
  · have hin' : ¬ (i : Int) < 14 := by omega
    have HB1 : Hid (Below w.heap.size w ((wr.alloc (.cells headsA 9)).alloc (.cells blocksA 9))) := (HB.out.alloc HB.out.size _).alloc (by have := HB.out.size; simp; omega) _
    have HHA0 : Hid (Blk ((wr.alloc (.cells headsA 9)).alloc (.cells blocksA 9)) wr.heap.size 9 headsA) := (Blk.new wr _ _).alloc _
    have HHB0 : Hid (Blk ((wr.alloc (.cells headsA 9)).alloc (.cells blocksA 9)) (wr.heap.size + 1) 9 blocksA) := new_two wr _ _ _
    rw [show headsA = #[.string ⟨#[]⟩, .string ⟨#[116, 97, 114, 103, 101, 116]⟩, .string ⟨#[116, 97, 114, 103, 101, 116, 32, 52, 48, 49]⟩, .string ⟨#[116, 97, 114, 103, 101, 116, 32, 45, 49]⟩, .string ⟨#[116, 97, 114, 103, 101, 116, 32, 48, 32, 48]⟩, .string ⟨#[116, 97, 114, 103, 101, 116, 32, 114, 49]⟩, .string ⟨#[102, 117, 110, 32, 49]⟩, .string ⟨#[116, 97, 114, 103, 101, 116, 32, 53, 10, 10, 59, 10]⟩, .string ⟨#[116, 97, 114, 103, 101, 116, 32, 53, 32, 98, 108, 111, 99, 107, 32, 48]⟩] from rfl, show blocksA = #[.string ⟨#[]⟩, .string ⟨#[98, 108, 111, 99, 107, 32, 48, 10, 116, 114, 97, 112]⟩, .string ⟨#[98, 108, 111, 99, 107, 32, 49, 10, 116, 114, 97, 112]⟩, .string ⟨#[98, 108, 111, 99, 107, 32, 48, 32, 116, 114, 97, 112]⟩, .string ⟨#[98, 108, 111, 99, 107, 32, 48, 10]⟩, .string ⟨#[98, 108, 111, 99, 107, 32, 48, 10, 116, 114, 97, 112, 10, 98, 108, 111, 99, 107, 32, 48, 10, 116, 114, 97, 112]⟩, .string ⟨#[98, 108, 111, 99, 107, 32, 48, 10, 116, 114, 97, 112, 10, 116, 114, 97, 112]⟩, .string ⟨#[98, 108, 111, 99, 107, 32, 48, 10, 114, 101, 116, 117, 114, 110, 32, 114, 49, 32, 114, 50]⟩] from rfl] at HB1 HHA0 HHB0
    clear HA HW HB hin
    go_wp2
    generalize (wr.heap.size + 1) = XB at *
    generalize wr.heap.size = XA at *
    go_loopw [10] (fun v wr => ∃ i : Nat, v = .int .i64 i ∧ i ≤ 9 ∧ Blk wr XA 9 headsA ∧ Blk wr XB 9 blocksA ∧ Below w.heap.size w wr) (fun v _ => 9 - (intOf v).toNat)
    case atStart => exact ⟨0, rfl, by omega, HHA0.out, HHB0.out, HB1.out⟩
    case round =>
     obtain ⟨i, rfl, hi, hA, hW, hB⟩ := hrel
     have HA := Lib.hid hA
     have HW := Lib.hid hW
     have HB := Lib.hid hB
     clear hA hW hB HHA0 HHB0 HB1
     by_cases hin : i < 9
     · have hin2 : (i : Int) < 9 := by omega
       have hi0 : (0 : Int) ≤ i := by omega
       obtain ⟨s, hs, hsz⟩ := headsA_at hin
       go_wp2
       go_loopw [11] (fun v wy => ∃ p : Nat, v = .int .i64 p ∧ p ≤ 8 ∧ Blk wy XA 9 headsA ∧ Blk wy XB 9 blocksA ∧ Below w.heap.size w wy) (fun v _ => 8 - (intOf v).toNat)
       case atStart => exact ⟨0, rfl, by omega, HA.out, HW.out, HB.out⟩
       case round =>
        obtain ⟨p, rfl, hp, hA, hW, hB⟩ := hrel
        clear HA HW HB
        have HA := Lib.hid hA
        have HW := Lib.hid hW
        have HB := Lib.hid hB
        clear hA hW hB
        by_cases hpn : p < 8
        · have hpn' : (p : Int) < 8 := by omega
          have hp0 : (0 : Int) ≤ p := by omega
          obtain ⟨q, hq, hqz⟩ := blocksA_at hpn
          have cs := row_at HA.out hs
          have cq := row_at HW.out hq
          obtain ⟨q1, hq1, y1⟩ := add_any s ⟨#[10]⟩ (by show _ + 1 ≤ _; omega)
          replace y1 : q1.size = s.size + 1 := y1
          obtain ⟨q2, hq2, _⟩ := add_any q1 q (by omega)
          have hb0 := (Below.refl wr.heap.size wr).drew
          have HQ : Hid (∀ W, Below wr.heap.size wr W → Below wr.heap.size wr W ∧ W.cell? ⟨XA, i, none⟩ = some (.string s) ∧ W.cell? ⟨XB, p, none⟩ = some (.string q)) := fun W h => ⟨h, row_at (HA.out.below h HA.out.lt) hs, row_at (HW.out.below h HW.out.lt) hq⟩
          have CR : Hid (∀ (t : ByteArray) W, Below wr.heap.size wr W → Calls Tryz.prog 4 #[.string t] W fun e w' => e = .returned (.bool true) ∧ Below wr.heap.size wr w') := fun t W h => (MP.out t W (HB.out.trans (h.mono HB.out.size))).mono fun e w' ⟨h1, h2⟩ => ⟨h1, h.trans (h2.mono h.size)⟩
          clear hq y1
          go_upto_region 28 with fail
          go_region_held3 (fun W => Below wr.heap.size wr W ∧ W.cell? ⟨XA, i, none⟩ = some (.string s) ∧ W.cell? ⟨XB, p, none⟩ = some (.string q))
           (first | (refine HQ.out _ ?_; assumption))
           (first
             | (go_at_call 4; refine (CR.out _ _ (by go_split_ands; assumption)).mono ?_; rintro e w9 ⟨rfl, hb9⟩))
          rename_i hH
          clear hH CR HQ cs cq hq1 hq2
          have HA9 := Lib.hid (HA.out.below hb9 HA.out.lt)
          have HW9 := Lib.hid (HW.out.below hb9 HW.out.lt)
          have HB9 : Hid (Below w.heap.size w w9) := HB.out.trans (hb9.mono HB.out.size)
          clear hb9 hb0
          go_wp2
          go_roundw
          case rel => exact ⟨p + 1, by go_num, by omega, HA9.out, HW9.out, HB9.out⟩
          case measure => simp [intOf]; omega
        · have hpn' : ¬ (p : Int) < 8 := by omega
          go_wp2
          go_roundw
          case rel => exact ⟨i + 1, by go_num, by omega, HA.out, HW.out, HB.out⟩
          case measure => simp [intOf]; omega
     · have hin2 : ¬ (i : Int) < 9 := by omega
       clear HA HW
       go_wp2_with fail
       refine (MY.out _ HB.out).mono ?_
       rintro e w5 ⟨rfl, hb5⟩
       have HB5 : Hid (Below w.heap.size w w5) := HB.out.trans (hb5.mono HB.out.size)
       clear hb5 HB
       go_wp2_with fail
       refine (AW.out _ HB5.out).mono ?_
       rintro e w6 ⟨rfl, hb6⟩
       have HB6 : Hid (Below w.heap.size w w6) := HB5.out.trans (hb6.mono HB5.out.size)
       clear hb6 HB5
       go_wp2
       go_ret
       exact ⟨rfl, HB6.out⟩
end Go.Proofs.YtbjmbahpcoanoaaGreatDoor
