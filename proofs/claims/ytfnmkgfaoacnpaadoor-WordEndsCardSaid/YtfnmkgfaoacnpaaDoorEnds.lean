/-
  The walk of the statement WordEnds: it answers true and turns nothing that was there. No condition.
-/
import Derived.Test.YtfnmkgfaoacnpaaDoorShowNil
import Derived.Test.YtfnmkgfaoacnpaaDoorLaw3
import Derived.Laws.Cover4
import Derived.Laws.IdiomStrings
import Derived.Laws.BytesString
namespace Go.Proofs.YtfnmkgfaoacnpaaDoor
open Go.RowKit
/-- WordReads of any text whatever. -/
theorem reads_all (s : ByteArray) (W : World) : Calls Tryd.prog 14 #[.string s] W fun e w' => e = .returned (.bool true) ∧ Below W.heap.size W w' := by
  by_cases hs : s.size ≤ maxLen
  · exact word_reads_any s W hs
  · have hl : 4000 < s.size := by unfold maxLen at hs; omega
    have hl' : (4000 : Int) < s.size := by omega
    clear hs
    go_enter Tryd.func14, Tryd.ntmps14
    go_wp2_with fail
    refine (awake_any _).mono ?_
    rintro e w1 ⟨rfl, hb1⟩
    have HB1 := Lib.hid hb1
    clear hb1
    go_wp2
    go_ret
    exact ⟨rfl, HB1.out⟩
/-- What the walk holds on to: nothing below has turned. -/
def Still (w0 W : World) : Prop := Below w0.heap.size w0 W
theorem Still.out {w0 W : World} (h : Still w0 W) : Below w0.heap.size w0 W := h
theorem Still.alloc {w0 W : World} (h : Still w0 W) (o : Obj) : Still w0 (W.alloc o) := h.out.alloc h.out.size o
theorem Still.drew {w0 W : World} (h : Still w0 W) : Still w0 W.drew := h.out.drew
theorem Still.drewN {w0 W : World} (h : Still w0 W) (n : Nat) : Still w0 (W.drewN n) := below_draws h.out n
theorem reads_from {w0 W : World} (s : ByteArray) (h : Still w0 W) : Calls Tryd.prog 14 #[.string s] W fun e w' => e = .returned (.bool true) ∧ Still w0 w' :=
  (reads_all s W).mono fun _ _ ⟨he, hb⟩ => ⟨he, h.out.trans (hb.mono h.out.size)⟩
theorem shows_from {w0 W : World} (r : Int) (h : Still w0 W) : Calls Tryd.prog 3 #[.slice none 0 0, .int .i32 r] W fun e w' => e = .returned (.bool true) ∧ Still w0 w' :=
  (shows_nil r W).mono fun _ _ ⟨he, hb⟩ => ⟨he, h.out.trans (hb.mono h.out.size)⟩
theorem awake_from {w0 W : World} (h : Still w0 W) : Calls Tryd.prog 6 #[] W fun e w' => e = .returned (.bool true) ∧ Still w0 w' :=
  (awake_any W).mono fun _ _ ⟨he, hb⟩ => ⟨he, h.out.trans (hb.mono h.out.size)⟩
theorem rune_text (W : World) (n : Int) : (convert 35 9 (.slice (some ⟨W.heap.size, 0, none⟩) 1 1)).run Tryd.prog (W.alloc (.cells #[.int .i32 n] 21)) = .ok (.string (runesBytes [n])) (W.alloc (.cells #[.int .i32 n] 21)) := by
  have h := run_convert_runes (P := Tryd.prog) (W.alloc (.cells #[.int .i32 n] 21)) 35 9 21 ⟨W.heap.size, 0, none⟩ 1 1 [n] (by simp) Tryd.underlying35 Tryd.underlying21 Tryd.underlying9 (by
    intro j hj
    have : j = 0 := by simpa using hj
    subst this
    simp [Addr.add])
  simpa using h
def bytesText (ns : List Int) : ByteArray := ns.foldl (fun r n => r.push (UInt8.ofNat n.toNat)) ByteArray.empty
theorem bytes_from {w0 W : World} (g cap : Nat) (ns : List Int) (hc : ∀ j u, (ns.map (Value.int .u8))[j]? = some u → W.cell? ((⟨g, 0, none⟩ : Addr).add j) = some u) (h : Still w0 W) :
    Calls Tryd.prog 15 #[.slice (some ⟨g, 0, none⟩) ns.length cap] W fun e w' => e = .returned (.string (bytesText ns)) ∧ W = w' ∧ Still w0 w' := by
  have hcv : (convert 44 9 (.slice (some ⟨g, 0, none⟩) ns.length cap)).run Tryd.prog W = .ok (.string (bytesText ns)) W := by
    rw [run_convert_bytes_string W 44 9 5 _ _ _ Tryd.underlying44 Tryd.underlying5 Tryd.underlying9]
    have hl := run_loadCells_list (P := Tryd.prog) W ⟨g, 0, none⟩ (ns.map (Value.int .u8)) hc
    simp only [List.length_map] at hl
    exact run_bytesToString W ⟨g, 0, none⟩ ns.length cap ns hl
  have H := Lib.hid h
  clear h hc
  go_enter Tryd.func15, Tryd.ntmps15
  go_wp2
  go_ret
  exact ⟨rfl, rfl, H.out⟩
theorem Still.trans {a b c : World} (h : Still a b) (k : Still b c) : Still a c := h.out.trans (k.out.mono h.out.size)
theorem bytesText_size (ns : List Int) : (bytesText ns).size = ns.length := by
  have h : ∀ (l : List Int) (r : ByteArray), (l.foldl (fun r n => r.push (UInt8.ofNat n.toNat)) r).size = r.size + l.length := by
    intro l
    induction l with
    | nil => intro r; simp
    | cons n l ih => intro r; rw [List.foldl_cons, ih]; simp; omega
  have := h ns ByteArray.empty
  simpa [bytesText] using this
set_option maxHeartbeats 4000000 in
set_option maxRecDepth 1000000 in
theorem ends_any (w : World) : Calls Tryd.prog 4 #[] w fun e w' => e = .returned (.bool true) ∧ Below w.heap.size w w' := by
  go_enter Tryd.func4, Tryd.ntmps4
  go_wp2
  go_loopw [1] (fun r wr => ∃ k : Nat, r = .int .i32 k ∧ k ≤ 1280 ∧ Still w wr) (fun r _ => 1280 - (intOf r).toNat)
  case atStart => exact ⟨0, rfl, by omega, Below.refl _ _⟩
  case round =>
    obtain ⟨k, rfl, hk, HB⟩ := hrel
    by_cases hlt : k < 1280
    · have hlt' : (k : Int) < 1280 := by omega
      have hrt := rune_text
      go_wp2_with fail
      clear hrt
      have hS : (runesBytes [(k : Int)]).size ≤ 4 := by have := runesBytes_size_le [(k : Int)]; simpa using this
      generalize runesBytes [(k : Int)] = S at *
      go_wp2_with fail
      refine (reads_from _ (HB.alloc _)).mono ?_
      rintro e w1 ⟨rfl, H1⟩
      go_wp2_with fail
      refine (reads_from _ H1).mono ?_
      rintro e w2 ⟨rfl, H2⟩
      clear H1
      go_wp2_with fail
      refine (reads_from _ H2).mono ?_
      rintro e w3 ⟨rfl, H3⟩
      clear H2
      go_wp2_with fail
      refine (reads_from _ H3).mono ?_
      rintro e w4 ⟨rfl, H4⟩
      clear H3
      go_wp2_with fail
      refine (shows_from _ H4).mono ?_
      rintro e w5 ⟨rfl, H5⟩
      clear H4
      go_wp2
      go_roundw
      case rel => exact ⟨k + 1, by go_num, by omega, H5⟩
      case measure => simp [intOf]; omega
    · have hlt' : 1280 ≤ (k : Int) := by omega
      obtain ⟨wo, rfl⟩ : ∃ wo : World, wo = wr := ⟨_, rfl⟩
      go_wp2_with fail
      have hEb : Blk (wo.alloc (.cells #[.int .i32 2047, .int .i32 2048, .int .i32 8585, .int .i32 8592, .int .i32 8593, .int .i32 8594, .int .i32 8595, .int .i32 55295, .int .i32 57344, .int .i32 65533, .int .i32 65534, .int .i32 65535, .int .i32 65536, .int .i32 1114111] 21)) wo.heap.size 21 #[.int .i32 2047, .int .i32 2048, .int .i32 8585, .int .i32 8592, .int .i32 8593, .int .i32 8594, .int .i32 8595, .int .i32 55295, .int .i32 57344, .int .i32 65533, .int .i32 65534, .int .i32 65535, .int .i32 65536, .int .i32 1114111] := Blk.new wo _ _
      have HE : Still w (wo.alloc (.cells #[.int .i32 2047, .int .i32 2048, .int .i32 8585, .int .i32 8592, .int .i32 8593, .int .i32 8594, .int .i32 8595, .int .i32 55295, .int .i32 57344, .int .i32 65533, .int .i32 65534, .int .i32 65535, .int .i32 65536, .int .i32 1114111] 21)) := HB.alloc _
      generalize wo.alloc (.cells #[.int .i32 2047, .int .i32 2048, .int .i32 8585, .int .i32 8592, .int .i32 8593, .int .i32 8594, .int .i32 8595, .int .i32 55295, .int .i32 57344, .int .i32 65533, .int .i32 65534, .int .i32 65535, .int .i32 65536, .int .i32 1114111] 21) = E at *
      have hgE := hEb.lt
      have hEc : ∀ k : Nat, k < 14 → ∃ z, E.cell? ⟨wo.heap.size, k, none⟩ = some (.int .i32 z) := by
        intro k hk
        rw [hEb.cell k]
        match k, hk with
        | 0, _ => exact ⟨_, rfl⟩
        | 1, _ => exact ⟨_, rfl⟩
        | 2, _ => exact ⟨_, rfl⟩
        | 3, _ => exact ⟨_, rfl⟩
        | 4, _ => exact ⟨_, rfl⟩
        | 5, _ => exact ⟨_, rfl⟩
        | 6, _ => exact ⟨_, rfl⟩
        | 7, _ => exact ⟨_, rfl⟩
        | 8, _ => exact ⟨_, rfl⟩
        | 9, _ => exact ⟨_, rfl⟩
        | 10, _ => exact ⟨_, rfl⟩
        | 11, _ => exact ⟨_, rfl⟩
        | 12, _ => exact ⟨_, rfl⟩
        | 13, _ => exact ⟨_, rfl⟩
        | n + 14, h => omega
      clear hEb HB
      have HEc := Lib.hid hEc
      clear hEc
      go_loopw [4] (fun i wx => ∃ k : Nat, i = .int .i64 k ∧ k ≤ 14 ∧ Still E wx) (fun i _ => 14 - (intOf i).toNat)
      case atStart => exact ⟨0, rfl, by omega, Below.refl _ _⟩
      case round =>
        obtain ⟨j, rfl, hj, HX⟩ := hrel
        by_cases hlt2 : j < 14
        · have hlt2' : (j : Int) < 14 := by omega
          have hj0 : (0 : Int) ≤ j := by omega
          obtain ⟨z, hz⟩ := HEc.out j hlt2
          have cz := (HX.out.cell (p := ⟨wo.heap.size, j, none⟩) hgE).trans hz
          have hrt := rune_text
          go_wp2_with fail
          clear hrt cz
          have hS : (runesBytes [z]).size ≤ 4 := by have := runesBytes_size_le [z]; simpa using this
          generalize runesBytes [z] = S at *
          go_wp2_with fail
          refine (reads_from _ (HX.alloc _)).mono ?_
          rintro e w6 ⟨rfl, H6⟩
          go_wp2_with fail
          refine (reads_from _ H6).mono ?_
          rintro e w7 ⟨rfl, H7⟩
          clear H6
          go_wp2_with fail
          refine (reads_from _ H7).mono ?_
          rintro e w8 ⟨rfl, H8⟩
          clear H7
          have cz := (H8.out.cell (p := ⟨wo.heap.size, j, none⟩) hgE).trans hz
          go_wp2_with fail
          refine (shows_from _ H8).mono ?_
          rintro e w9 ⟨rfl, H9⟩
          clear H8
          go_wp2
          go_roundw
          case rel => exact ⟨j + 1, by go_num, by omega, H9⟩
          case measure => simp [intOf]; omega
        · have hlt2' : 14 ≤ (j : Int) := by omega
          obtain ⟨wx, rfl⟩ : ∃ wx : World, wx = wr := ⟨_, rfl⟩
          have HY : Still w wx := HE.trans HX
          clear HX HE HEc hgE
          go_wp2_with fail
          go_loopw [6] (fun x wy => ∃ k : Nat, x = .int .i64 k ∧ k ≤ 256 ∧ Still w wy) (fun x _ => 256 - (intOf x).toNat)
          case atStart => exact ⟨0, rfl, by omega, HY⟩
          case round =>
            clear HY
            obtain ⟨x, rfl, hx, HZ⟩ := hrel
            obtain ⟨wp, rfl⟩ : ∃ wp : World, wp = wr := ⟨_, rfl⟩
            by_cases hlt3 : x < 256
            · have hlt3' : (x : Int) < 256 := by omega
              have hx0 : (0 : Int) ≤ x := by omega
              go_wp2_with fail
              go_loopw [7] (fun y wy => ∃ m : Nat, y = .int .i64 m ∧ m ≤ 300 ∧ Still w wy) (fun y _ => 300 - (intOf y).toNat)
              case atStart => exact ⟨0, rfl, by omega, HZ⟩
              case round =>
                clear HZ
                obtain ⟨m, rfl, hm, HQ⟩ := hrel
                by_cases hlt4 : m < 256
                · have hlt4' : (m : Int) < 256 := by omega
                  have hm0 : (0 : Int) ≤ m := by omega
                  go_wp2_with fail
                  refine (bytes_from (w0 := w) wr.heap.size 2 [(x : Int), (m : Int)] (World.news_of_block (cs := #[.int .u8 (x : Int), .int .u8 (m : Int)]) (t := 5) (fr := (0, 0)) (heap_alloc_new wr _)) (HQ.alloc _)).mono ?_
                  rintro e w10 ⟨rfl, rfl, H10⟩
                  have hT := bytesText_size [(x : Int), (m : Int)]
                  simp only [List.length_cons, List.length_nil] at hT
                  have hTT : (bytesText [(x : Int), (m : Int)]).size ≤ 4 := by omega
                  clear hT
                  generalize bytesText [(x : Int), (m : Int)] = T10 at *
                  clear HQ
                  go_wp2_with fail
                  refine (reads_from _ H10).mono ?_
                  rintro e w11 ⟨rfl, H11⟩
                  clear H10
                  go_wp2_with fail
                  refine (bytes_from (w0 := w) w11.heap.size 2 [(x : Int), (m : Int)] (World.news_of_block (cs := #[.int .u8 (x : Int), .int .u8 (m : Int)]) (t := 5) (fr := (0, 0)) (heap_alloc_new w11 _)) (H11.alloc _)).mono ?_
                  rintro e w12 ⟨rfl, rfl, H12⟩
                  have hT := bytesText_size [(x : Int), (m : Int)]
                  simp only [List.length_cons, List.length_nil] at hT
                  have hTT : (bytesText [(x : Int), (m : Int)]).size ≤ 4 := by omega
                  clear hT
                  generalize bytesText [(x : Int), (m : Int)] = T12 at *
                  clear H11
                  go_wp2_with fail
                  refine (reads_from _ H12).mono ?_
                  rintro e w13 ⟨rfl, H13⟩
                  clear H12
                  go_wp2
                  go_roundw
                  case rel => exact ⟨m + 1 + x % 3 * 9, by simp, by omega, H13⟩
                  case measure => simp [intOf]; omega
                · have hlt4' : 256 ≤ (m : Int) := by omega
                  go_wp2_with fail
                  refine (bytes_from (w0 := w) wr.heap.size 3 [237, (x : Int), 128] (World.news_of_block (cs := #[.int .u8 237, .int .u8 (x : Int), .int .u8 128]) (t := 5) (fr := (0, 0)) (heap_alloc_new wr _)) (HQ.alloc _)).mono ?_
                  rintro e w14 ⟨rfl, rfl, H14⟩
                  have hT := bytesText_size [237, (x : Int), 128]
                  simp only [List.length_cons, List.length_nil] at hT
                  have hTT : (bytesText [237, (x : Int), 128]).size ≤ 4 := by omega
                  clear hT
                  generalize bytesText [237, (x : Int), 128] = T14 at *
                  clear HQ
                  go_wp2_with fail
                  refine (reads_from _ H14).mono ?_
                  rintro e w15 ⟨rfl, H15⟩
                  clear H14
                  go_wp2_with fail
                  refine (bytes_from (w0 := w) w15.heap.size 3 [224, (x : Int), 146] (World.news_of_block (cs := #[.int .u8 224, .int .u8 (x : Int), .int .u8 146]) (t := 5) (fr := (0, 0)) (heap_alloc_new w15 _)) (H15.alloc _)).mono ?_
                  rintro e w16 ⟨rfl, rfl, H16⟩
                  have hT := bytesText_size [224, (x : Int), 146]
                  simp only [List.length_cons, List.length_nil] at hT
                  have hTT : (bytesText [224, (x : Int), 146]).size ≤ 4 := by omega
                  clear hT
                  generalize bytesText [224, (x : Int), 146] = T16 at *
                  clear H15
                  go_wp2_with fail
                  refine (reads_from _ H16).mono ?_
                  rintro e w17 ⟨rfl, H17⟩
                  clear H16
                  go_wp2_with fail
                  refine (bytes_from (w0 := w) w17.heap.size 4 [244, (x : Int), 128, 128] (World.news_of_block (cs := #[.int .u8 244, .int .u8 (x : Int), .int .u8 128, .int .u8 128]) (t := 5) (fr := (0, 0)) (heap_alloc_new w17 _)) (H17.alloc _)).mono ?_
                  rintro e w18 ⟨rfl, rfl, H18⟩
                  have hT := bytesText_size [244, (x : Int), 128, 128]
                  simp only [List.length_cons, List.length_nil] at hT
                  have hTT : (bytesText [244, (x : Int), 128, 128]).size ≤ 4 := by omega
                  clear hT
                  generalize bytesText [244, (x : Int), 128, 128] = T18 at *
                  clear H17
                  go_wp2_with fail
                  refine (reads_from _ H18).mono ?_
                  rintro e w19 ⟨rfl, H19⟩
                  clear H18
                  go_wp2_with fail
                  refine (bytes_from (w0 := w) w19.heap.size 4 [240, (x : Int), 128, 128] (World.news_of_block (cs := #[.int .u8 240, .int .u8 (x : Int), .int .u8 128, .int .u8 128]) (t := 5) (fr := (0, 0)) (heap_alloc_new w19 _)) (H19.alloc _)).mono ?_
                  rintro e w20 ⟨rfl, rfl, H20⟩
                  have hT := bytesText_size [240, (x : Int), 128, 128]
                  simp only [List.length_cons, List.length_nil] at hT
                  have hTT : (bytesText [240, (x : Int), 128, 128]).size ≤ 4 := by omega
                  clear hT
                  generalize bytesText [240, (x : Int), 128, 128] = T20 at *
                  clear H19
                  go_wp2_with fail
                  refine (reads_from _ H20).mono ?_
                  rintro e w21 ⟨rfl, H21⟩
                  clear H20
                  go_wp2_with fail
                  refine (bytes_from (w0 := w) w21.heap.size 3 [226, 134, (x : Int)] (World.news_of_block (cs := #[.int .u8 226, .int .u8 134, .int .u8 (x : Int)]) (t := 5) (fr := (0, 0)) (heap_alloc_new w21 _)) (H21.alloc _)).mono ?_
                  rintro e w22 ⟨rfl, rfl, H22⟩
                  have hT := bytesText_size [226, 134, (x : Int)]
                  simp only [List.length_cons, List.length_nil] at hT
                  have hTT : (bytesText [226, 134, (x : Int)]).size ≤ 4 := by omega
                  clear hT
                  generalize bytesText [226, 134, (x : Int)] = T22 at *
                  clear H21
                  go_wp2_with fail
                  refine (reads_from _ H22).mono ?_
                  rintro e w23 ⟨rfl, H23⟩
                  clear H22
                  go_wp2
                  go_roundw
                  case rel => exact ⟨x + 1, by go_num, by omega, H23⟩
                  case measure => simp [intOf]; omega
            · have hlt3' : 256 ≤ (x : Int) := by omega
              go_wp2_with fail
              go_loopw [8, 9, 10] (fun a b c wx => ∃ (k : Nat) (n d : ByteArray), a = .string n ∧ b = .string d ∧ c = .int .i64 k ∧ n.size ≤ k ∧ d.size ≤ k + 1 ∧ k ≤ 20 ∧ Still w wx) (fun _ _ c _ => 20 - (intOf c).toNat)
              case atStart => exact ⟨0, ⟨#[]⟩, ⟨#[49]⟩, rfl, rfl, rfl, by decide, by decide, by omega, HZ⟩
              case round =>
                clear HZ
                obtain ⟨q, n, d, rfl, rfl, rfl, hn, hd, hq, HQ⟩ := hrel
                by_cases hlt5 : q < 20
                · have hlt5' : (q : Int) < 20 := by omega
                  go_wp2_with fail
                  refine (reads_from _ HQ).mono ?_
                  rintro e w24 ⟨rfl, H24⟩
                  clear HQ
                  go_wp2_with fail
                  refine (reads_from _ H24).mono ?_
                  rintro e w25 ⟨rfl, H25⟩
                  clear H24
                  go_wp2_with fail
                  refine (reads_from _ H25).mono ?_
                  rintro e w26 ⟨rfl, H26⟩
                  clear H25
                  go_wp2_with fail
                  refine (reads_from _ H26).mono ?_
                  rintro e w27 ⟨rfl, H27⟩
                  clear H26
                  go_wp2_with fail
                  refine (reads_from _ H27).mono ?_
                  rintro e w28 ⟨rfl, H28⟩
                  clear H27
                  go_wp2_with fail
                  refine (reads_from _ H28).mono ?_
                  rintro e w29 ⟨rfl, H29⟩
                  clear H28
                  go_wp2
                  go_roundw
                  case rel => exact ⟨q + 1, n ++ ⟨#[98]⟩, d ++ ⟨#[48]⟩, rfl, rfl, by go_num, by rw [ByteArray.size_append]; show n.size + 1 ≤ q + 1; omega, by rw [ByteArray.size_append]; show d.size + 1 ≤ q + 1 + 1; omega, by omega, H29⟩
                  case measure => simp [intOf]; omega
                · have hlt5' : 20 ≤ (q : Int) := by omega
                  go_wp2_with fail
                  refine (reads_from _ HQ).mono ?_
                  rintro e w30 ⟨rfl, H30⟩
                  clear HQ
                  go_wp2_with fail
                  refine (reads_from _ H30).mono ?_
                  rintro e w31 ⟨rfl, H31⟩
                  clear H30
                  go_wp2_with fail
                  refine (reads_from _ H31).mono ?_
                  rintro e w32 ⟨rfl, H32⟩
                  clear H31
                  go_wp2_with fail
                  refine (reads_from _ H32).mono ?_
                  rintro e w33 ⟨rfl, H33⟩
                  clear H32
                  go_wp2_with fail
                  refine (reads_from _ H33).mono ?_
                  rintro e w34 ⟨rfl, H34⟩
                  clear H33
                  go_wp2_with fail
                  refine (reads_from _ H34).mono ?_
                  rintro e w35 ⟨rfl, H35⟩
                  clear H34
                  go_wp2_with fail
                  refine (awake_from H35).mono ?_
                  rintro e w36 ⟨rfl, H36⟩
                  clear H35
                  go_wp2
                  go_ret
                  exact ⟨rfl, H36.out⟩
end Go.Proofs.YtfnmkgfaoacnpaaDoor
