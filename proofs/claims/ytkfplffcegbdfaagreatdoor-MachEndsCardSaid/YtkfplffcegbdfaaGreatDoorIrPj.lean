/-
  No rows at all lie apart. No condition beyond those that each theorem states.
-/
import Derived.Test.YtkfplffcegbdfaaGreatDoorIrPi
namespace Go.Proofs.YtkfplffcegbdfaaGreatDoor
open Go.RowKit

theorem info_Limbs : (Tryz.prog.info? 138).map (fun i => (i.zero, i.size, i.bytes)) = some (some (.slice none 0 0), 1, 24) := by kernel_rfl
set_option maxHeartbeats 1000000 in
set_option maxRecDepth 100000 in
theorem flatLimbs_nil (w : World) : Calls Tryz.prog 48 #[.slice none 0 0] w fun e w' => e = .returned (.bool true) ∧ Below w.heap.size w w' := by
  obtain ⟨i1, hi1, hy0, hy1, hy2⟩ := info_parts info_Limbs
  go_enter Tryz.func48, Tryz.ntmps48
  go_wp2
  go_loopw [3] (fun v wr => v = .int .i64 0 ∧ Below w.heap.size w wr) (fun v _ => 0 - (intOf v).toNat)
  case atStart => exact ⟨rfl, Below.refl _ _⟩
  case round =>
    obtain ⟨rfl, h2⟩ := hrel
    have HB0 := Lib.hid h2
    clear h2
    go_wp2_with (at_make; go_must (refine wpList_make_full _ rfl _ _ _ rfl wr.heap.size 138 i1 _ 1 Tryz.underlying60 hi1 hy0 hy1 .i64 .i64 0 0 0 rfl rfl rfl rfl (by omega) (by simp only [maxLen]; omega) (Nat.le_refl _) ?_; intro w1 hown1 hgrow1))
    have HB : Hid (Below w.heap.size w w1) := HB0.out.grown hgrow1 HB0.out.size (fun k hk => by cases hk)
    clear hown1 hgrow1
    go_loopw [6] (fun v w2 => v = .int .i64 0 ∧ Below w.heap.size w w2) (fun v _ => 0 - (intOf v).toNat)
    case atStart => exact ⟨rfl, HB.out⟩
    case round =>
      obtain ⟨rfl, h2⟩ := hrel
      clear HB
      have HB := Lib.hid h2
      clear h2
      go_wp2
      go_loopw [9] (fun v w2 => v = .int .i64 0 ∧ Below w.heap.size w w2) (fun v _ => 0 - (intOf v).toNat)
      case atStart => exact ⟨rfl, HB.out⟩
      case round =>
        obtain ⟨rfl, h2⟩ := hrel
        have HB2 := Lib.hid h2
        clear h2
        go_wp2
        go_loopw [11] (fun v w2 => v = .int .i64 0 ∧ Below w.heap.size w w2) (fun v _ => 0 - (intOf v).toNat)
        case atStart => exact ⟨rfl, HB2.out⟩
        case round =>
          obtain ⟨rfl, h2⟩ := hrel
          have HB3 := Lib.hid h2
          clear h2
          go_wp2
          go_loopw [14] (fun v w2 => v = .int .i64 0 ∧ Below w.heap.size w w2) (fun v _ => 0 - (intOf v).toNat)
          case atStart => exact ⟨rfl, HB3.out⟩
          case round =>
            obtain ⟨rfl, h2⟩ := hrel
            have HB4 := Lib.hid h2
            clear h2
            go_wp2
            go_ret
            exact ⟨rfl, HB4.out⟩
theorem info_Words : (Tryz.prog.info? 140).map (fun i => (i.zero, i.size, i.bytes)) = some (some (.slice none 0 0), 1, 24) := by kernel_rfl
set_option maxHeartbeats 1000000 in
set_option maxRecDepth 100000 in
theorem flatWords_nil (w : World) : Calls Tryz.prog 49 #[.slice none 0 0] w fun e w' => e = .returned (.bool true) ∧ Below w.heap.size w w' := by
  obtain ⟨i1, hi1, hy0, hy1, hy2⟩ := info_parts info_Words
  go_enter Tryz.func49, Tryz.ntmps49
  go_wp2
  go_loopw [3] (fun v wr => v = .int .i64 0 ∧ Below w.heap.size w wr) (fun v _ => 0 - (intOf v).toNat)
  case atStart => exact ⟨rfl, Below.refl _ _⟩
  case round =>
    obtain ⟨rfl, h2⟩ := hrel
    have HB0 := Lib.hid h2
    clear h2
    go_wp2_with (at_make; go_must (refine wpList_make_full _ rfl _ _ _ rfl wr.heap.size 140 i1 _ 1 Tryz.underlying61 hi1 hy0 hy1 .i64 .i64 0 0 0 rfl rfl rfl rfl (by omega) (by simp only [maxLen]; omega) (Nat.le_refl _) ?_; intro w1 hown1 hgrow1))
    have HB : Hid (Below w.heap.size w w1) := HB0.out.grown hgrow1 HB0.out.size (fun k hk => by cases hk)
    clear hown1 hgrow1
    go_loopw [6] (fun v w2 => v = .int .i64 0 ∧ Below w.heap.size w w2) (fun v _ => 0 - (intOf v).toNat)
    case atStart => exact ⟨rfl, HB.out⟩
    case round =>
      obtain ⟨rfl, h2⟩ := hrel
      clear HB
      have HB := Lib.hid h2
      clear h2
      go_wp2
      go_loopw [9] (fun v w2 => v = .int .i64 0 ∧ Below w.heap.size w w2) (fun v _ => 0 - (intOf v).toNat)
      case atStart => exact ⟨rfl, HB.out⟩
      case round =>
        obtain ⟨rfl, h2⟩ := hrel
        have HB2 := Lib.hid h2
        clear h2
        go_wp2
        go_loopw [11] (fun v w2 => v = .int .i64 0 ∧ Below w.heap.size w w2) (fun v _ => 0 - (intOf v).toNat)
        case atStart => exact ⟨rfl, HB2.out⟩
        case round =>
          obtain ⟨rfl, h2⟩ := hrel
          have HB3 := Lib.hid h2
          clear h2
          go_wp2
          go_loopw [14] (fun v w2 => v = .int .i64 0 ∧ Below w.heap.size w w2) (fun v _ => 0 - (intOf v).toNat)
          case atStart => exact ⟨rfl, HB3.out⟩
          case round =>
            obtain ⟨rfl, h2⟩ := hrel
            have HB4 := Lib.hid h2
            clear h2
            go_wp2
            go_ret
            exact ⟨rfl, HB4.out⟩
theorem info_Longs : (Tryz.prog.info? 142).map (fun i => (i.zero, i.size, i.bytes)) = some (some (.slice none 0 0), 1, 24) := by kernel_rfl
set_option maxHeartbeats 1000000 in
set_option maxRecDepth 100000 in
theorem flatLongs_nil (w : World) : Calls Tryz.prog 51 #[.slice none 0 0] w fun e w' => e = .returned (.bool true) ∧ Below w.heap.size w w' := by
  obtain ⟨i1, hi1, hy0, hy1, hy2⟩ := info_parts info_Longs
  go_enter Tryz.func51, Tryz.ntmps51
  go_wp2
  go_loopw [3] (fun v wr => v = .int .i64 0 ∧ Below w.heap.size w wr) (fun v _ => 0 - (intOf v).toNat)
  case atStart => exact ⟨rfl, Below.refl _ _⟩
  case round =>
    obtain ⟨rfl, h2⟩ := hrel
    have HB0 := Lib.hid h2
    clear h2
    go_wp2_with (at_make; go_must (refine wpList_make_full _ rfl _ _ _ rfl wr.heap.size 142 i1 _ 1 Tryz.underlying62 hi1 hy0 hy1 .i64 .i64 0 0 0 rfl rfl rfl rfl (by omega) (by simp only [maxLen]; omega) (Nat.le_refl _) ?_; intro w1 hown1 hgrow1))
    have HB : Hid (Below w.heap.size w w1) := HB0.out.grown hgrow1 HB0.out.size (fun k hk => by cases hk)
    clear hown1 hgrow1
    go_loopw [6] (fun v w2 => v = .int .i64 0 ∧ Below w.heap.size w w2) (fun v _ => 0 - (intOf v).toNat)
    case atStart => exact ⟨rfl, HB.out⟩
    case round =>
      obtain ⟨rfl, h2⟩ := hrel
      clear HB
      have HB := Lib.hid h2
      clear h2
      go_wp2
      go_loopw [9] (fun v w2 => v = .int .i64 0 ∧ Below w.heap.size w w2) (fun v _ => 0 - (intOf v).toNat)
      case atStart => exact ⟨rfl, HB.out⟩
      case round =>
        obtain ⟨rfl, h2⟩ := hrel
        have HB2 := Lib.hid h2
        clear h2
        go_wp2
        go_loopw [11] (fun v w2 => v = .int .i64 0 ∧ Below w.heap.size w w2) (fun v _ => 0 - (intOf v).toNat)
        case atStart => exact ⟨rfl, HB2.out⟩
        case round =>
          obtain ⟨rfl, h2⟩ := hrel
          have HB3 := Lib.hid h2
          clear h2
          go_wp2
          go_loopw [14] (fun v w2 => v = .int .i64 0 ∧ Below w.heap.size w w2) (fun v _ => 0 - (intOf v).toNat)
          case atStart => exact ⟨rfl, HB3.out⟩
          case round =>
            obtain ⟨rfl, h2⟩ := hrel
            have HB4 := Lib.hid h2
            clear h2
            go_wp2
            go_ret
            exact ⟨rfl, HB4.out⟩
theorem info_Texts : (Tryz.prog.info? 41).map (fun i => (i.zero, i.size, i.bytes)) = some (some (.slice none 0 0), 1, 24) := by kernel_rfl
set_option maxHeartbeats 1000000 in
set_option maxRecDepth 100000 in
theorem flatTexts_nil (w : World) : Calls Tryz.prog 52 #[.slice none 0 0] w fun e w' => e = .returned (.bool true) ∧ Below w.heap.size w w' := by
  obtain ⟨i1, hi1, hy0, hy1, hy2⟩ := info_parts info_Texts
  go_enter Tryz.func52, Tryz.ntmps52
  go_wp2
  go_loopw [3] (fun v wr => v = .int .i64 0 ∧ Below w.heap.size w wr) (fun v _ => 0 - (intOf v).toNat)
  case atStart => exact ⟨rfl, Below.refl _ _⟩
  case round =>
    obtain ⟨rfl, h2⟩ := hrel
    have HB0 := Lib.hid h2
    clear h2
    go_wp2_with (at_make; go_must (refine wpList_make_full _ rfl _ _ _ rfl wr.heap.size 41 i1 _ 1 Tryz.underlying63 hi1 hy0 hy1 .i64 .i64 0 0 0 rfl rfl rfl rfl (by omega) (by simp only [maxLen]; omega) (Nat.le_refl _) ?_; intro w1 hown1 hgrow1))
    have HB : Hid (Below w.heap.size w w1) := HB0.out.grown hgrow1 HB0.out.size (fun k hk => by cases hk)
    clear hown1 hgrow1
    go_loopw [6] (fun v w2 => v = .int .i64 0 ∧ Below w.heap.size w w2) (fun v _ => 0 - (intOf v).toNat)
    case atStart => exact ⟨rfl, HB.out⟩
    case round =>
      obtain ⟨rfl, h2⟩ := hrel
      clear HB
      have HB := Lib.hid h2
      clear h2
      go_wp2
      go_loopw [9] (fun v w2 => v = .int .i64 0 ∧ Below w.heap.size w w2) (fun v _ => 0 - (intOf v).toNat)
      case atStart => exact ⟨rfl, HB.out⟩
      case round =>
        obtain ⟨rfl, h2⟩ := hrel
        have HB2 := Lib.hid h2
        clear h2
        go_wp2
        go_loopw [11] (fun v w2 => v = .int .i64 0 ∧ Below w.heap.size w w2) (fun v _ => 0 - (intOf v).toNat)
        case atStart => exact ⟨rfl, HB2.out⟩
        case round =>
          obtain ⟨rfl, h2⟩ := hrel
          have HB3 := Lib.hid h2
          clear h2
          go_wp2
          go_loopw [14] (fun v w2 => v = .int .i64 0 ∧ Below w.heap.size w w2) (fun v _ => 0 - (intOf v).toNat)
          case atStart => exact ⟨rfl, HB3.out⟩
          case round =>
            obtain ⟨rfl, h2⟩ := hrel
            have HB4 := Lib.hid h2
            clear h2
            go_wp2
            go_ret
            exact ⟨rfl, HB4.out⟩
theorem info_Bytes : (Tryz.prog.info? 43).map (fun i => (i.zero, i.size, i.bytes)) = some (some (.slice none 0 0), 1, 24) := by kernel_rfl
set_option maxHeartbeats 1000000 in
set_option maxRecDepth 100000 in
theorem flatBytes_nil (w : World) : Calls Tryz.prog 53 #[.slice none 0 0] w fun e w' => e = .returned (.bool true) ∧ Below w.heap.size w w' := by
  obtain ⟨i1, hi1, hy0, hy1, hy2⟩ := info_parts info_Bytes
  go_enter Tryz.func53, Tryz.ntmps53
  go_wp2
  go_loopw [3] (fun v wr => v = .int .i64 0 ∧ Below w.heap.size w wr) (fun v _ => 0 - (intOf v).toNat)
  case atStart => exact ⟨rfl, Below.refl _ _⟩
  case round =>
    obtain ⟨rfl, h2⟩ := hrel
    have HB0 := Lib.hid h2
    clear h2
    go_wp2_with (at_make; go_must (refine wpList_make_full _ rfl _ _ _ rfl wr.heap.size 43 i1 _ 1 Tryz.underlying64 hi1 hy0 hy1 .i64 .i64 0 0 0 rfl rfl rfl rfl (by omega) (by simp only [maxLen]; omega) (Nat.le_refl _) ?_; intro w1 hown1 hgrow1))
    have HB : Hid (Below w.heap.size w w1) := HB0.out.grown hgrow1 HB0.out.size (fun k hk => by cases hk)
    clear hown1 hgrow1
    go_loopw [6] (fun v w2 => v = .int .i64 0 ∧ Below w.heap.size w w2) (fun v _ => 0 - (intOf v).toNat)
    case atStart => exact ⟨rfl, HB.out⟩
    case round =>
      obtain ⟨rfl, h2⟩ := hrel
      clear HB
      have HB := Lib.hid h2
      clear h2
      go_wp2
      go_loopw [9] (fun v w2 => v = .int .i64 0 ∧ Below w.heap.size w w2) (fun v _ => 0 - (intOf v).toNat)
      case atStart => exact ⟨rfl, HB.out⟩
      case round =>
        obtain ⟨rfl, h2⟩ := hrel
        have HB2 := Lib.hid h2
        clear h2
        go_wp2
        go_loopw [11] (fun v w2 => v = .int .i64 0 ∧ Below w.heap.size w w2) (fun v _ => 0 - (intOf v).toNat)
        case atStart => exact ⟨rfl, HB2.out⟩
        case round =>
          obtain ⟨rfl, h2⟩ := hrel
          have HB3 := Lib.hid h2
          clear h2
          go_wp2
          go_loopw [14] (fun v w2 => v = .int .i64 0 ∧ Below w.heap.size w w2) (fun v _ => 0 - (intOf v).toNat)
          case atStart => exact ⟨rfl, HB3.out⟩
          case round =>
            obtain ⟨rfl, h2⟩ := hrel
            have HB4 := Lib.hid h2
            clear h2
            go_wp2
            go_ret
            exact ⟨rfl, HB4.out⟩
theorem info_Truths : (Tryz.prog.info? 145).map (fun i => (i.zero, i.size, i.bytes)) = some (some (.slice none 0 0), 1, 24) := by kernel_rfl
set_option maxHeartbeats 1000000 in
set_option maxRecDepth 100000 in
theorem flatTruths_nil (w : World) : Calls Tryz.prog 54 #[.slice none 0 0] w fun e w' => e = .returned (.bool true) ∧ Below w.heap.size w w' := by
  obtain ⟨i1, hi1, hy0, hy1, hy2⟩ := info_parts info_Truths
  go_enter Tryz.func54, Tryz.ntmps54
  go_wp2
  go_loopw [3] (fun v wr => v = .int .i64 0 ∧ Below w.heap.size w wr) (fun v _ => 0 - (intOf v).toNat)
  case atStart => exact ⟨rfl, Below.refl _ _⟩
  case round =>
    obtain ⟨rfl, h2⟩ := hrel
    have HB0 := Lib.hid h2
    clear h2
    go_wp2_with (at_make; go_must (refine wpList_make_full _ rfl _ _ _ rfl wr.heap.size 145 i1 _ 1 Tryz.underlying65 hi1 hy0 hy1 .i64 .i64 0 0 0 rfl rfl rfl rfl (by omega) (by simp only [maxLen]; omega) (Nat.le_refl _) ?_; intro w1 hown1 hgrow1))
    have HB : Hid (Below w.heap.size w w1) := HB0.out.grown hgrow1 HB0.out.size (fun k hk => by cases hk)
    clear hown1 hgrow1
    go_loopw [6] (fun v w2 => v = .int .i64 0 ∧ Below w.heap.size w w2) (fun v _ => 0 - (intOf v).toNat)
    case atStart => exact ⟨rfl, HB.out⟩
    case round =>
      obtain ⟨rfl, h2⟩ := hrel
      clear HB
      have HB := Lib.hid h2
      clear h2
      go_wp2
      go_loopw [9] (fun v w2 => v = .int .i64 0 ∧ Below w.heap.size w w2) (fun v _ => 0 - (intOf v).toNat)
      case atStart => exact ⟨rfl, HB.out⟩
      case round =>
        obtain ⟨rfl, h2⟩ := hrel
        have HB2 := Lib.hid h2
        clear h2
        go_wp2
        go_loopw [11] (fun v w2 => v = .int .i64 0 ∧ Below w.heap.size w w2) (fun v _ => 0 - (intOf v).toNat)
        case atStart => exact ⟨rfl, HB2.out⟩
        case round =>
          obtain ⟨rfl, h2⟩ := hrel
          have HB3 := Lib.hid h2
          clear h2
          go_wp2
          go_loopw [14] (fun v w2 => v = .int .i64 0 ∧ Below w.heap.size w w2) (fun v _ => 0 - (intOf v).toNat)
          case atStart => exact ⟨rfl, HB3.out⟩
          case round =>
            obtain ⟨rfl, h2⟩ := hrel
            have HB4 := Lib.hid h2
            clear h2
            go_wp2
            go_ret
            exact ⟨rfl, HB4.out⟩
theorem info_Row : (Tryz.prog.info? 146).map (fun i => (i.zero, i.size, i.bytes)) = some (some (.slice none 0 0), 1, 24) := by kernel_rfl
set_option maxHeartbeats 1000000 in
set_option maxRecDepth 100000 in
theorem flatRow_nil (w : World) : Calls Tryz.prog 55 #[.slice none 0 0] w fun e w' => e = .returned (.bool true) ∧ Below w.heap.size w w' := by
  obtain ⟨i1, hi1, hy0, hy1, hy2⟩ := info_parts info_Row
  go_enter Tryz.func55, Tryz.ntmps55
  go_wp2
  go_loopw [3] (fun v wr => v = .int .i64 0 ∧ Below w.heap.size w wr) (fun v _ => 0 - (intOf v).toNat)
  case atStart => exact ⟨rfl, Below.refl _ _⟩
  case round =>
    obtain ⟨rfl, h2⟩ := hrel
    have HB0 := Lib.hid h2
    clear h2
    go_wp2_with (at_make; go_must (refine wpList_make_full _ rfl _ _ _ rfl wr.heap.size 146 i1 _ 1 Tryz.underlying66 hi1 hy0 hy1 .i64 .i64 0 0 0 rfl rfl rfl rfl (by omega) (by simp only [maxLen]; omega) (Nat.le_refl _) ?_; intro w1 hown1 hgrow1))
    have HB : Hid (Below w.heap.size w w1) := HB0.out.grown hgrow1 HB0.out.size (fun k hk => by cases hk)
    clear hown1 hgrow1
    go_loopw [6] (fun v w2 => v = .int .i64 0 ∧ Below w.heap.size w w2) (fun v _ => 0 - (intOf v).toNat)
    case atStart => exact ⟨rfl, HB.out⟩
    case round =>
      obtain ⟨rfl, h2⟩ := hrel
      clear HB
      have HB := Lib.hid h2
      clear h2
      go_wp2
      go_loopw [9] (fun v w2 => v = .int .i64 0 ∧ Below w.heap.size w w2) (fun v _ => 0 - (intOf v).toNat)
      case atStart => exact ⟨rfl, HB.out⟩
      case round =>
        obtain ⟨rfl, h2⟩ := hrel
        have HB2 := Lib.hid h2
        clear h2
        go_wp2
        go_loopw [11] (fun v w2 => v = .int .i64 0 ∧ Below w.heap.size w w2) (fun v _ => 0 - (intOf v).toNat)
        case atStart => exact ⟨rfl, HB2.out⟩
        case round =>
          obtain ⟨rfl, h2⟩ := hrel
          have HB3 := Lib.hid h2
          clear h2
          go_wp2
          go_loopw [14] (fun v w2 => v = .int .i64 0 ∧ Below w.heap.size w w2) (fun v _ => 0 - (intOf v).toNat)
          case atStart => exact ⟨rfl, HB3.out⟩
          case round =>
            obtain ⟨rfl, h2⟩ := hrel
            have HB4 := Lib.hid h2
            clear h2
            go_wp2
            go_ret
            exact ⟨rfl, HB4.out⟩
theorem info_Blocks : (Tryz.prog.info? 152).map (fun i => (i.zero, i.size, i.bytes)) = some (some (.slice none 0 0), 1, 24) := by kernel_rfl
set_option maxHeartbeats 1000000 in
set_option maxRecDepth 100000 in
theorem flatBlocks_nil (w : World) : Calls Tryz.prog 56 #[.slice none 0 0] w fun e w' => e = .returned (.bool true) ∧ Below w.heap.size w w' := by
  obtain ⟨i1, hi1, hy0, hy1, hy2⟩ := info_parts info_Blocks
  go_enter Tryz.func56, Tryz.ntmps56
  go_wp2
  go_loopw [3] (fun v wr => v = .int .i64 0 ∧ Below w.heap.size w wr) (fun v _ => 0 - (intOf v).toNat)
  case atStart => exact ⟨rfl, Below.refl _ _⟩
  case round =>
    obtain ⟨rfl, h2⟩ := hrel
    have HB0 := Lib.hid h2
    clear h2
    go_wp2_with (at_make; go_must (refine wpList_make_full _ rfl _ _ _ rfl wr.heap.size 152 i1 _ 1 Tryz.underlying67 hi1 hy0 hy1 .i64 .i64 0 0 0 rfl rfl rfl rfl (by omega) (by simp only [maxLen]; omega) (Nat.le_refl _) ?_; intro w1 hown1 hgrow1))
    have HB : Hid (Below w.heap.size w w1) := HB0.out.grown hgrow1 HB0.out.size (fun k hk => by cases hk)
    clear hown1 hgrow1
    go_loopw [6] (fun v w2 => v = .int .i64 0 ∧ Below w.heap.size w w2) (fun v _ => 0 - (intOf v).toNat)
    case atStart => exact ⟨rfl, HB.out⟩
    case round =>
      obtain ⟨rfl, h2⟩ := hrel
      clear HB
      have HB := Lib.hid h2
      clear h2
      go_wp2
      go_loopw [9] (fun v w2 => v = .int .i64 0 ∧ Below w.heap.size w w2) (fun v _ => 0 - (intOf v).toNat)
      case atStart => exact ⟨rfl, HB.out⟩
      case round =>
        obtain ⟨rfl, h2⟩ := hrel
        have HB2 := Lib.hid h2
        clear h2
        go_wp2
        go_loopw [11] (fun v w2 => v = .int .i64 0 ∧ Below w.heap.size w w2) (fun v _ => 0 - (intOf v).toNat)
        case atStart => exact ⟨rfl, HB2.out⟩
        case round =>
          obtain ⟨rfl, h2⟩ := hrel
          have HB3 := Lib.hid h2
          clear h2
          go_wp2
          go_loopw [14] (fun v w2 => v = .int .i64 0 ∧ Below w.heap.size w w2) (fun v _ => 0 - (intOf v).toNat)
          case atStart => exact ⟨rfl, HB3.out⟩
          case round =>
            obtain ⟨rfl, h2⟩ := hrel
            have HB4 := Lib.hid h2
            clear h2
            go_wp2
            go_ret
            exact ⟨rfl, HB4.out⟩
theorem info_Funcs : (Tryz.prog.info? 161).map (fun i => (i.zero, i.size, i.bytes)) = some (some (.slice none 0 0), 1, 24) := by kernel_rfl
set_option maxHeartbeats 1000000 in
set_option maxRecDepth 100000 in
theorem flatFuncs_nil (w : World) : Calls Tryz.prog 57 #[.slice none 0 0] w fun e w' => e = .returned (.bool true) ∧ Below w.heap.size w w' := by
  obtain ⟨i1, hi1, hy0, hy1, hy2⟩ := info_parts info_Funcs
  go_enter Tryz.func57, Tryz.ntmps57
  go_wp2
  go_loopw [3] (fun v wr => v = .int .i64 0 ∧ Below w.heap.size w wr) (fun v _ => 0 - (intOf v).toNat)
  case atStart => exact ⟨rfl, Below.refl _ _⟩
  case round =>
    obtain ⟨rfl, h2⟩ := hrel
    have HB0 := Lib.hid h2
    clear h2
    go_wp2_with (at_make; go_must (refine wpList_make_full _ rfl _ _ _ rfl wr.heap.size 161 i1 _ 1 Tryz.underlying68 hi1 hy0 hy1 .i64 .i64 0 0 0 rfl rfl rfl rfl (by omega) (by simp only [maxLen]; omega) (Nat.le_refl _) ?_; intro w1 hown1 hgrow1))
    have HB : Hid (Below w.heap.size w w1) := HB0.out.grown hgrow1 HB0.out.size (fun k hk => by cases hk)
    clear hown1 hgrow1
    go_loopw [6] (fun v w2 => v = .int .i64 0 ∧ Below w.heap.size w w2) (fun v _ => 0 - (intOf v).toNat)
    case atStart => exact ⟨rfl, HB.out⟩
    case round =>
      obtain ⟨rfl, h2⟩ := hrel
      clear HB
      have HB := Lib.hid h2
      clear h2
      go_wp2
      go_loopw [9] (fun v w2 => v = .int .i64 0 ∧ Below w.heap.size w w2) (fun v _ => 0 - (intOf v).toNat)
      case atStart => exact ⟨rfl, HB.out⟩
      case round =>
        obtain ⟨rfl, h2⟩ := hrel
        have HB2 := Lib.hid h2
        clear h2
        go_wp2
        go_loopw [11] (fun v w2 => v = .int .i64 0 ∧ Below w.heap.size w w2) (fun v _ => 0 - (intOf v).toNat)
        case atStart => exact ⟨rfl, HB2.out⟩
        case round =>
          obtain ⟨rfl, h2⟩ := hrel
          have HB3 := Lib.hid h2
          clear h2
          go_wp2
          go_loopw [14] (fun v w2 => v = .int .i64 0 ∧ Below w.heap.size w w2) (fun v _ => 0 - (intOf v).toNat)
          case atStart => exact ⟨rfl, HB3.out⟩
          case round =>
            obtain ⟨rfl, h2⟩ := hrel
            have HB4 := Lib.hid h2
            clear h2
            go_wp2
            go_ret
            exact ⟨rfl, HB4.out⟩
theorem info_Targets : (Tryz.prog.info? 166).map (fun i => (i.zero, i.size, i.bytes)) = some (some (.slice none 0 0), 1, 24) := by kernel_rfl
set_option maxHeartbeats 1000000 in
set_option maxRecDepth 100000 in
theorem flatTargets_nil (w : World) : Calls Tryz.prog 58 #[.slice none 0 0] w fun e w' => e = .returned (.bool true) ∧ Below w.heap.size w w' := by
  obtain ⟨i1, hi1, hy0, hy1, hy2⟩ := info_parts info_Targets
  go_enter Tryz.func58, Tryz.ntmps58
  go_wp2
  go_loopw [3] (fun v wr => v = .int .i64 0 ∧ Below w.heap.size w wr) (fun v _ => 0 - (intOf v).toNat)
  case atStart => exact ⟨rfl, Below.refl _ _⟩
  case round =>
    obtain ⟨rfl, h2⟩ := hrel
    have HB0 := Lib.hid h2
    clear h2
    go_wp2_with (at_make; go_must (refine wpList_make_full _ rfl _ _ _ rfl wr.heap.size 166 i1 _ 1 Tryz.underlying69 hi1 hy0 hy1 .i64 .i64 0 0 0 rfl rfl rfl rfl (by omega) (by simp only [maxLen]; omega) (Nat.le_refl _) ?_; intro w1 hown1 hgrow1))
    have HB : Hid (Below w.heap.size w w1) := HB0.out.grown hgrow1 HB0.out.size (fun k hk => by cases hk)
    clear hown1 hgrow1
    go_loopw [6] (fun v w2 => v = .int .i64 0 ∧ Below w.heap.size w w2) (fun v _ => 0 - (intOf v).toNat)
    case atStart => exact ⟨rfl, HB.out⟩
    case round =>
      obtain ⟨rfl, h2⟩ := hrel
      clear HB
      have HB := Lib.hid h2
      clear h2
      go_wp2
      go_loopw [9] (fun v w2 => v = .int .i64 0 ∧ Below w.heap.size w w2) (fun v _ => 0 - (intOf v).toNat)
      case atStart => exact ⟨rfl, HB.out⟩
      case round =>
        obtain ⟨rfl, h2⟩ := hrel
        have HB2 := Lib.hid h2
        clear h2
        go_wp2
        go_loopw [11] (fun v w2 => v = .int .i64 0 ∧ Below w.heap.size w w2) (fun v _ => 0 - (intOf v).toNat)
        case atStart => exact ⟨rfl, HB2.out⟩
        case round =>
          obtain ⟨rfl, h2⟩ := hrel
          have HB3 := Lib.hid h2
          clear h2
          go_wp2
          go_loopw [14] (fun v w2 => v = .int .i64 0 ∧ Below w.heap.size w w2) (fun v _ => 0 - (intOf v).toNat)
          case atStart => exact ⟨rfl, HB3.out⟩
          case round =>
            obtain ⟨rfl, h2⟩ := hrel
            have HB4 := Lib.hid h2
            clear h2
            go_wp2
            go_ret
            exact ⟨rfl, HB4.out⟩
theorem info_Machines : (Tryz.prog.info? 171).map (fun i => (i.zero, i.size, i.bytes)) = some (some (.slice none 0 0), 1, 24) := by kernel_rfl
set_option maxHeartbeats 1000000 in
set_option maxRecDepth 100000 in
theorem flatMachines_nil (w : World) : Calls Tryz.prog 59 #[.slice none 0 0] w fun e w' => e = .returned (.bool true) ∧ Below w.heap.size w w' := by
  obtain ⟨i1, hi1, hy0, hy1, hy2⟩ := info_parts info_Machines
  go_enter Tryz.func59, Tryz.ntmps59
  go_wp2
  go_loopw [3] (fun v wr => v = .int .i64 0 ∧ Below w.heap.size w wr) (fun v _ => 0 - (intOf v).toNat)
  case atStart => exact ⟨rfl, Below.refl _ _⟩
  case round =>
    obtain ⟨rfl, h2⟩ := hrel
    have HB0 := Lib.hid h2
    clear h2
    go_wp2_with (at_make; go_must (refine wpList_make_full _ rfl _ _ _ rfl wr.heap.size 171 i1 _ 1 Tryz.underlying70 hi1 hy0 hy1 .i64 .i64 0 0 0 rfl rfl rfl rfl (by omega) (by simp only [maxLen]; omega) (Nat.le_refl _) ?_; intro w1 hown1 hgrow1))
    have HB : Hid (Below w.heap.size w w1) := HB0.out.grown hgrow1 HB0.out.size (fun k hk => by cases hk)
    clear hown1 hgrow1
    go_loopw [6] (fun v w2 => v = .int .i64 0 ∧ Below w.heap.size w w2) (fun v _ => 0 - (intOf v).toNat)
    case atStart => exact ⟨rfl, HB.out⟩
    case round =>
      obtain ⟨rfl, h2⟩ := hrel
      clear HB
      have HB := Lib.hid h2
      clear h2
      go_wp2
      go_loopw [9] (fun v w2 => v = .int .i64 0 ∧ Below w.heap.size w w2) (fun v _ => 0 - (intOf v).toNat)
      case atStart => exact ⟨rfl, HB.out⟩
      case round =>
        obtain ⟨rfl, h2⟩ := hrel
        have HB2 := Lib.hid h2
        clear h2
        go_wp2
        go_loopw [11] (fun v w2 => v = .int .i64 0 ∧ Below w.heap.size w w2) (fun v _ => 0 - (intOf v).toNat)
        case atStart => exact ⟨rfl, HB2.out⟩
        case round =>
          obtain ⟨rfl, h2⟩ := hrel
          have HB3 := Lib.hid h2
          clear h2
          go_wp2
          go_loopw [14] (fun v w2 => v = .int .i64 0 ∧ Below w.heap.size w w2) (fun v _ => 0 - (intOf v).toNat)
          case atStart => exact ⟨rfl, HB3.out⟩
          case round =>
            obtain ⟨rfl, h2⟩ := hrel
            have HB4 := Lib.hid h2
            clear h2
            go_wp2
            go_ret
            exact ⟨rfl, HB4.out⟩
theorem info_Locs : (Tryz.prog.info? 173).map (fun i => (i.zero, i.size, i.bytes)) = some (some (.slice none 0 0), 1, 24) := by kernel_rfl
set_option maxHeartbeats 1000000 in
set_option maxRecDepth 100000 in
theorem flatLocs_nil (w : World) : Calls Tryz.prog 60 #[.slice none 0 0] w fun e w' => e = .returned (.bool true) ∧ Below w.heap.size w w' := by
  obtain ⟨i1, hi1, hy0, hy1, hy2⟩ := info_parts info_Locs
  go_enter Tryz.func60, Tryz.ntmps60
  go_wp2
  go_loopw [3] (fun v wr => v = .int .i64 0 ∧ Below w.heap.size w wr) (fun v _ => 0 - (intOf v).toNat)
  case atStart => exact ⟨rfl, Below.refl _ _⟩
  case round =>
    obtain ⟨rfl, h2⟩ := hrel
    have HB0 := Lib.hid h2
    clear h2
    go_wp2_with (at_make; go_must (refine wpList_make_full _ rfl _ _ _ rfl wr.heap.size 173 i1 _ 1 Tryz.underlying71 hi1 hy0 hy1 .i64 .i64 0 0 0 rfl rfl rfl rfl (by omega) (by simp only [maxLen]; omega) (Nat.le_refl _) ?_; intro w1 hown1 hgrow1))
    have HB : Hid (Below w.heap.size w w1) := HB0.out.grown hgrow1 HB0.out.size (fun k hk => by cases hk)
    clear hown1 hgrow1
    go_loopw [6] (fun v w2 => v = .int .i64 0 ∧ Below w.heap.size w w2) (fun v _ => 0 - (intOf v).toNat)
    case atStart => exact ⟨rfl, HB.out⟩
    case round =>
      obtain ⟨rfl, h2⟩ := hrel
      clear HB
      have HB := Lib.hid h2
      clear h2
      go_wp2
      go_loopw [9] (fun v w2 => v = .int .i64 0 ∧ Below w.heap.size w w2) (fun v _ => 0 - (intOf v).toNat)
      case atStart => exact ⟨rfl, HB.out⟩
      case round =>
        obtain ⟨rfl, h2⟩ := hrel
        have HB2 := Lib.hid h2
        clear h2
        go_wp2
        go_loopw [11] (fun v w2 => v = .int .i64 0 ∧ Below w.heap.size w w2) (fun v _ => 0 - (intOf v).toNat)
        case atStart => exact ⟨rfl, HB2.out⟩
        case round =>
          obtain ⟨rfl, h2⟩ := hrel
          have HB3 := Lib.hid h2
          clear h2
          go_wp2
          go_loopw [14] (fun v w2 => v = .int .i64 0 ∧ Below w.heap.size w w2) (fun v _ => 0 - (intOf v).toNat)
          case atStart => exact ⟨rfl, HB3.out⟩
          case round =>
            obtain ⟨rfl, h2⟩ := hrel
            have HB4 := Lib.hid h2
            clear h2
            go_wp2
            go_ret
            exact ⟨rfl, HB4.out⟩
theorem info_Facts : (Tryz.prog.info? 35).map (fun i => (i.zero, i.size, i.bytes)) = some (some (.slice none 0 0), 1, 24) := by kernel_rfl
set_option maxHeartbeats 1000000 in
set_option maxRecDepth 100000 in
theorem flatFacts_nil (w : World) : Calls Tryz.prog 61 #[.slice none 0 0] w fun e w' => e = .returned (.bool true) ∧ Below w.heap.size w w' := by
  obtain ⟨i1, hi1, hy0, hy1, hy2⟩ := info_parts info_Facts
  go_enter Tryz.func61, Tryz.ntmps61
  go_wp2
  go_loopw [3] (fun v wr => v = .int .i64 0 ∧ Below w.heap.size w wr) (fun v _ => 0 - (intOf v).toNat)
  case atStart => exact ⟨rfl, Below.refl _ _⟩
  case round =>
    obtain ⟨rfl, h2⟩ := hrel
    have HB0 := Lib.hid h2
    clear h2
    go_wp2_with (at_make; go_must (refine wpList_make_full _ rfl _ _ _ rfl wr.heap.size 35 i1 _ 1 Tryz.underlying72 hi1 hy0 hy1 .i64 .i64 0 0 0 rfl rfl rfl rfl (by omega) (by simp only [maxLen]; omega) (Nat.le_refl _) ?_; intro w1 hown1 hgrow1))
    have HB : Hid (Below w.heap.size w w1) := HB0.out.grown hgrow1 HB0.out.size (fun k hk => by cases hk)
    clear hown1 hgrow1
    go_loopw [6] (fun v w2 => v = .int .i64 0 ∧ Below w.heap.size w w2) (fun v _ => 0 - (intOf v).toNat)
    case atStart => exact ⟨rfl, HB.out⟩
    case round =>
      obtain ⟨rfl, h2⟩ := hrel
      clear HB
      have HB := Lib.hid h2
      clear h2
      go_wp2
      go_loopw [9] (fun v w2 => v = .int .i64 0 ∧ Below w.heap.size w w2) (fun v _ => 0 - (intOf v).toNat)
      case atStart => exact ⟨rfl, HB.out⟩
      case round =>
        obtain ⟨rfl, h2⟩ := hrel
        have HB2 := Lib.hid h2
        clear h2
        go_wp2
        go_loopw [11] (fun v w2 => v = .int .i64 0 ∧ Below w.heap.size w w2) (fun v _ => 0 - (intOf v).toNat)
        case atStart => exact ⟨rfl, HB2.out⟩
        case round =>
          obtain ⟨rfl, h2⟩ := hrel
          have HB3 := Lib.hid h2
          clear h2
          go_wp2
          go_loopw [14] (fun v w2 => v = .int .i64 0 ∧ Below w.heap.size w w2) (fun v _ => 0 - (intOf v).toNat)
          case atStart => exact ⟨rfl, HB3.out⟩
          case round =>
            obtain ⟨rfl, h2⟩ := hrel
            have HB4 := Lib.hid h2
            clear h2
            go_wp2
            go_ret
            exact ⟨rfl, HB4.out⟩
theorem info_Edges : (Tryz.prog.info? 176).map (fun i => (i.zero, i.size, i.bytes)) = some (some (.slice none 0 0), 1, 24) := by kernel_rfl
set_option maxHeartbeats 1000000 in
set_option maxRecDepth 100000 in
theorem flatEdges_nil (w : World) : Calls Tryz.prog 62 #[.slice none 0 0] w fun e w' => e = .returned (.bool true) ∧ Below w.heap.size w w' := by
  obtain ⟨i1, hi1, hy0, hy1, hy2⟩ := info_parts info_Edges
  go_enter Tryz.func62, Tryz.ntmps62
  go_wp2
  go_loopw [3] (fun v wr => v = .int .i64 0 ∧ Below w.heap.size w wr) (fun v _ => 0 - (intOf v).toNat)
  case atStart => exact ⟨rfl, Below.refl _ _⟩
  case round =>
    obtain ⟨rfl, h2⟩ := hrel
    have HB0 := Lib.hid h2
    clear h2
    go_wp2_with (at_make; go_must (refine wpList_make_full _ rfl _ _ _ rfl wr.heap.size 176 i1 _ 1 Tryz.underlying73 hi1 hy0 hy1 .i64 .i64 0 0 0 rfl rfl rfl rfl (by omega) (by simp only [maxLen]; omega) (Nat.le_refl _) ?_; intro w1 hown1 hgrow1))
    have HB : Hid (Below w.heap.size w w1) := HB0.out.grown hgrow1 HB0.out.size (fun k hk => by cases hk)
    clear hown1 hgrow1
    go_loopw [6] (fun v w2 => v = .int .i64 0 ∧ Below w.heap.size w w2) (fun v _ => 0 - (intOf v).toNat)
    case atStart => exact ⟨rfl, HB.out⟩
    case round =>
      obtain ⟨rfl, h2⟩ := hrel
      clear HB
      have HB := Lib.hid h2
      clear h2
      go_wp2
      go_loopw [9] (fun v w2 => v = .int .i64 0 ∧ Below w.heap.size w w2) (fun v _ => 0 - (intOf v).toNat)
      case atStart => exact ⟨rfl, HB.out⟩
      case round =>
        obtain ⟨rfl, h2⟩ := hrel
        have HB2 := Lib.hid h2
        clear h2
        go_wp2
        go_loopw [11] (fun v w2 => v = .int .i64 0 ∧ Below w.heap.size w w2) (fun v _ => 0 - (intOf v).toNat)
        case atStart => exact ⟨rfl, HB2.out⟩
        case round =>
          obtain ⟨rfl, h2⟩ := hrel
          have HB3 := Lib.hid h2
          clear h2
          go_wp2
          go_loopw [14] (fun v w2 => v = .int .i64 0 ∧ Below w.heap.size w w2) (fun v _ => 0 - (intOf v).toNat)
          case atStart => exact ⟨rfl, HB3.out⟩
          case round =>
            obtain ⟨rfl, h2⟩ := hrel
            have HB4 := Lib.hid h2
            clear h2
            go_wp2
            go_ret
            exact ⟨rfl, HB4.out⟩
theorem info_Tiles : (Tryz.prog.info? 180).map (fun i => (i.zero, i.size, i.bytes)) = some (some (.slice none 0 0), 1, 24) := by kernel_rfl
set_option maxHeartbeats 1000000 in
set_option maxRecDepth 100000 in
theorem flatTiles_nil (w : World) : Calls Tryz.prog 63 #[.slice none 0 0] w fun e w' => e = .returned (.bool true) ∧ Below w.heap.size w w' := by
  obtain ⟨i1, hi1, hy0, hy1, hy2⟩ := info_parts info_Tiles
  go_enter Tryz.func63, Tryz.ntmps63
  go_wp2
  go_loopw [3] (fun v wr => v = .int .i64 0 ∧ Below w.heap.size w wr) (fun v _ => 0 - (intOf v).toNat)
  case atStart => exact ⟨rfl, Below.refl _ _⟩
  case round =>
    obtain ⟨rfl, h2⟩ := hrel
    have HB0 := Lib.hid h2
    clear h2
    go_wp2_with (at_make; go_must (refine wpList_make_full _ rfl _ _ _ rfl wr.heap.size 180 i1 _ 1 Tryz.underlying74 hi1 hy0 hy1 .i64 .i64 0 0 0 rfl rfl rfl rfl (by omega) (by simp only [maxLen]; omega) (Nat.le_refl _) ?_; intro w1 hown1 hgrow1))
    have HB : Hid (Below w.heap.size w w1) := HB0.out.grown hgrow1 HB0.out.size (fun k hk => by cases hk)
    clear hown1 hgrow1
    go_loopw [6] (fun v w2 => v = .int .i64 0 ∧ Below w.heap.size w w2) (fun v _ => 0 - (intOf v).toNat)
    case atStart => exact ⟨rfl, HB.out⟩
    case round =>
      obtain ⟨rfl, h2⟩ := hrel
      clear HB
      have HB := Lib.hid h2
      clear h2
      go_wp2
      go_loopw [9] (fun v w2 => v = .int .i64 0 ∧ Below w.heap.size w w2) (fun v _ => 0 - (intOf v).toNat)
      case atStart => exact ⟨rfl, HB.out⟩
      case round =>
        obtain ⟨rfl, h2⟩ := hrel
        have HB2 := Lib.hid h2
        clear h2
        go_wp2
        go_loopw [11] (fun v w2 => v = .int .i64 0 ∧ Below w.heap.size w w2) (fun v _ => 0 - (intOf v).toNat)
        case atStart => exact ⟨rfl, HB2.out⟩
        case round =>
          obtain ⟨rfl, h2⟩ := hrel
          have HB3 := Lib.hid h2
          clear h2
          go_wp2
          go_loopw [14] (fun v w2 => v = .int .i64 0 ∧ Below w.heap.size w w2) (fun v _ => 0 - (intOf v).toNat)
          case atStart => exact ⟨rfl, HB3.out⟩
          case round =>
            obtain ⟨rfl, h2⟩ := hrel
            have HB4 := Lib.hid h2
            clear h2
            go_wp2
            go_ret
            exact ⟨rfl, HB4.out⟩
theorem info_Calls : (Tryz.prog.info? 186).map (fun i => (i.zero, i.size, i.bytes)) = some (some (.slice none 0 0), 1, 24) := by kernel_rfl
set_option maxHeartbeats 1000000 in
set_option maxRecDepth 100000 in
theorem flatCalls_nil (w : World) : Calls Tryz.prog 64 #[.slice none 0 0] w fun e w' => e = .returned (.bool true) ∧ Below w.heap.size w w' := by
  obtain ⟨i1, hi1, hy0, hy1, hy2⟩ := info_parts info_Calls
  go_enter Tryz.func64, Tryz.ntmps64
  go_wp2
  go_loopw [3] (fun v wr => v = .int .i64 0 ∧ Below w.heap.size w wr) (fun v _ => 0 - (intOf v).toNat)
  case atStart => exact ⟨rfl, Below.refl _ _⟩
  case round =>
    obtain ⟨rfl, h2⟩ := hrel
    have HB0 := Lib.hid h2
    clear h2
    go_wp2_with (at_make; go_must (refine wpList_make_full _ rfl _ _ _ rfl wr.heap.size 186 i1 _ 1 Tryz.underlying75 hi1 hy0 hy1 .i64 .i64 0 0 0 rfl rfl rfl rfl (by omega) (by simp only [maxLen]; omega) (Nat.le_refl _) ?_; intro w1 hown1 hgrow1))
    have HB : Hid (Below w.heap.size w w1) := HB0.out.grown hgrow1 HB0.out.size (fun k hk => by cases hk)
    clear hown1 hgrow1
    go_loopw [6] (fun v w2 => v = .int .i64 0 ∧ Below w.heap.size w w2) (fun v _ => 0 - (intOf v).toNat)
    case atStart => exact ⟨rfl, HB.out⟩
    case round =>
      obtain ⟨rfl, h2⟩ := hrel
      clear HB
      have HB := Lib.hid h2
      clear h2
      go_wp2
      go_loopw [9] (fun v w2 => v = .int .i64 0 ∧ Below w.heap.size w w2) (fun v _ => 0 - (intOf v).toNat)
      case atStart => exact ⟨rfl, HB.out⟩
      case round =>
        obtain ⟨rfl, h2⟩ := hrel
        have HB2 := Lib.hid h2
        clear h2
        go_wp2
        go_loopw [11] (fun v w2 => v = .int .i64 0 ∧ Below w.heap.size w w2) (fun v _ => 0 - (intOf v).toNat)
        case atStart => exact ⟨rfl, HB2.out⟩
        case round =>
          obtain ⟨rfl, h2⟩ := hrel
          have HB3 := Lib.hid h2
          clear h2
          go_wp2
          go_loopw [14] (fun v w2 => v = .int .i64 0 ∧ Below w.heap.size w w2) (fun v _ => 0 - (intOf v).toNat)
          case atStart => exact ⟨rfl, HB3.out⟩
          case round =>
            obtain ⟨rfl, h2⟩ := hrel
            have HB4 := Lib.hid h2
            clear h2
            go_wp2
            go_ret
            exact ⟨rfl, HB4.out⟩
end Go.Proofs.YtkfplffcegbdfaaGreatDoor
