/-
  No rows at all lie apart. No condition beyond those that each theorem states.
-/
import Derived.Test.YtgpbpbhidemciaaGreatIrPi
namespace Go.Proofs.YtgpbpbhidemciaaGreat
open Go.RowKit

theorem info_Limbs : (Tryz.prog.info? 131).map (fun i => (i.zero, i.size, i.bytes)) = some (some (.slice none 0 0), 1, 24) := by kernel_rfl
set_option maxHeartbeats 1000000 in
set_option maxRecDepth 100000 in
theorem flatLimbs_nil (w : World) : Calls Tryz.prog 67 #[.slice none 0 0] w fun e w' => e = .returned (.bool true) ∧ Below w.heap.size w w' := by
  obtain ⟨i1, hi1, hy0, hy1, hy2⟩ := info_parts info_Limbs
  go_enter Tryz.func67, Tryz.ntmps67
  go_wp2
  go_loopw [3] (fun v wr => v = .int .i64 0 ∧ Below w.heap.size w wr) (fun v _ => 0 - (intOf v).toNat)
  case atStart => exact ⟨rfl, Below.refl _ _⟩
  case round =>
    obtain ⟨rfl, h2⟩ := hrel
    have HB0 := Lib.hid h2
    clear h2
    go_wp2_with (at_make; go_must (refine wpList_make_full _ rfl _ _ _ rfl wr.heap.size 131 i1 _ 1 Tryz.underlying70 hi1 hy0 hy1 .i64 .i64 0 0 0 rfl rfl rfl rfl (by omega) (by simp only [maxLen]; omega) (Nat.le_refl _) ?_; intro w1 hown1 hgrow1))
    have HB : Hid (Below w.heap.size w w1) := HB0.out.grown hgrow1 HB0.out.size (fun k hk => by cases hk)
    clear hown1 hgrow1
    go_loopw [6] (fun v w2 => v = .int .i64 0 ∧ Below w.heap.size w w2) (fun v _ => 0 - (intOf v).toNat)
    case atStart => exact ⟨rfl, HB.out⟩
    case round =>
      obtain ⟨rfl, h2⟩ := hrel
      clear HB
      have HB := Lib.hid h2
      clear h2
      go_wp2
      go_loopw [9] (fun v w2 => v = .int .i64 0 ∧ Below w.heap.size w w2) (fun v _ => 0 - (intOf v).toNat)
      case atStart => exact ⟨rfl, HB.out⟩
      case round =>
        obtain ⟨rfl, h2⟩ := hrel
        have HB2 := Lib.hid h2
        clear h2
        go_wp2
        go_loopw [11] (fun v w2 => v = .int .i64 0 ∧ Below w.heap.size w w2) (fun v _ => 0 - (intOf v).toNat)
        case atStart => exact ⟨rfl, HB2.out⟩
        case round =>
          obtain ⟨rfl, h2⟩ := hrel
          have HB3 := Lib.hid h2
          clear h2
          go_wp2
          go_loopw [14] (fun v w2 => v = .int .i64 0 ∧ Below w.heap.size w w2) (fun v _ => 0 - (intOf v).toNat)
          case atStart => exact ⟨rfl, HB3.out⟩
          case round =>
            obtain ⟨rfl, h2⟩ := hrel
            have HB4 := Lib.hid h2
            clear h2
            go_wp2
            go_ret
            exact ⟨rfl, HB4.out⟩
theorem info_Words : (Tryz.prog.info? 133).map (fun i => (i.zero, i.size, i.bytes)) = some (some (.slice none 0 0), 1, 24) := by kernel_rfl
set_option maxHeartbeats 1000000 in
set_option maxRecDepth 100000 in
theorem flatWords_nil (w : World) : Calls Tryz.prog 68 #[.slice none 0 0] w fun e w' => e = .returned (.bool true) ∧ Below w.heap.size w w' := by
  obtain ⟨i1, hi1, hy0, hy1, hy2⟩ := info_parts info_Words
  go_enter Tryz.func68, Tryz.ntmps68
  go_wp2
  go_loopw [3] (fun v wr => v = .int .i64 0 ∧ Below w.heap.size w wr) (fun v _ => 0 - (intOf v).toNat)
  case atStart => exact ⟨rfl, Below.refl _ _⟩
  case round =>
    obtain ⟨rfl, h2⟩ := hrel
    have HB0 := Lib.hid h2
    clear h2
    go_wp2_with (at_make; go_must (refine wpList_make_full _ rfl _ _ _ rfl wr.heap.size 133 i1 _ 1 Tryz.underlying71 hi1 hy0 hy1 .i64 .i64 0 0 0 rfl rfl rfl rfl (by omega) (by simp only [maxLen]; omega) (Nat.le_refl _) ?_; intro w1 hown1 hgrow1))
    have HB : Hid (Below w.heap.size w w1) := HB0.out.grown hgrow1 HB0.out.size (fun k hk => by cases hk)
    clear hown1 hgrow1
    go_loopw [6] (fun v w2 => v = .int .i64 0 ∧ Below w.heap.size w w2) (fun v _ => 0 - (intOf v).toNat)
    case atStart => exact ⟨rfl, HB.out⟩
    case round =>
      obtain ⟨rfl, h2⟩ := hrel
      clear HB
      have HB := Lib.hid h2
      clear h2
      go_wp2
      go_loopw [9] (fun v w2 => v = .int .i64 0 ∧ Below w.heap.size w w2) (fun v _ => 0 - (intOf v).toNat)
      case atStart => exact ⟨rfl, HB.out⟩
      case round =>
        obtain ⟨rfl, h2⟩ := hrel
        have HB2 := Lib.hid h2
        clear h2
        go_wp2
        go_loopw [11] (fun v w2 => v = .int .i64 0 ∧ Below w.heap.size w w2) (fun v _ => 0 - (intOf v).toNat)
        case atStart => exact ⟨rfl, HB2.out⟩
        case round =>
          obtain ⟨rfl, h2⟩ := hrel
          have HB3 := Lib.hid h2
          clear h2
          go_wp2
          go_loopw [14] (fun v w2 => v = .int .i64 0 ∧ Below w.heap.size w w2) (fun v _ => 0 - (intOf v).toNat)
          case atStart => exact ⟨rfl, HB3.out⟩
          case round =>
            obtain ⟨rfl, h2⟩ := hrel
            have HB4 := Lib.hid h2
            clear h2
            go_wp2
            go_ret
            exact ⟨rfl, HB4.out⟩
theorem info_Longs : (Tryz.prog.info? 134).map (fun i => (i.zero, i.size, i.bytes)) = some (some (.slice none 0 0), 1, 24) := by kernel_rfl
set_option maxHeartbeats 1000000 in
set_option maxRecDepth 100000 in
theorem flatLongs_nil (w : World) : Calls Tryz.prog 70 #[.slice none 0 0] w fun e w' => e = .returned (.bool true) ∧ Below w.heap.size w w' := by
  obtain ⟨i1, hi1, hy0, hy1, hy2⟩ := info_parts info_Longs
  go_enter Tryz.func70, Tryz.ntmps70
  go_wp2
  go_loopw [3] (fun v wr => v = .int .i64 0 ∧ Below w.heap.size w wr) (fun v _ => 0 - (intOf v).toNat)
  case atStart => exact ⟨rfl, Below.refl _ _⟩
  case round =>
    obtain ⟨rfl, h2⟩ := hrel
    have HB0 := Lib.hid h2
    clear h2
    go_wp2_with (at_make; go_must (refine wpList_make_full _ rfl _ _ _ rfl wr.heap.size 134 i1 _ 1 Tryz.underlying72 hi1 hy0 hy1 .i64 .i64 0 0 0 rfl rfl rfl rfl (by omega) (by simp only [maxLen]; omega) (Nat.le_refl _) ?_; intro w1 hown1 hgrow1))
    have HB : Hid (Below w.heap.size w w1) := HB0.out.grown hgrow1 HB0.out.size (fun k hk => by cases hk)
    clear hown1 hgrow1
    go_loopw [6] (fun v w2 => v = .int .i64 0 ∧ Below w.heap.size w w2) (fun v _ => 0 - (intOf v).toNat)
    case atStart => exact ⟨rfl, HB.out⟩
    case round =>
      obtain ⟨rfl, h2⟩ := hrel
      clear HB
      have HB := Lib.hid h2
      clear h2
      go_wp2
      go_loopw [9] (fun v w2 => v = .int .i64 0 ∧ Below w.heap.size w w2) (fun v _ => 0 - (intOf v).toNat)
      case atStart => exact ⟨rfl, HB.out⟩
      case round =>
        obtain ⟨rfl, h2⟩ := hrel
        have HB2 := Lib.hid h2
        clear h2
        go_wp2
        go_loopw [11] (fun v w2 => v = .int .i64 0 ∧ Below w.heap.size w w2) (fun v _ => 0 - (intOf v).toNat)
        case atStart => exact ⟨rfl, HB2.out⟩
        case round =>
          obtain ⟨rfl, h2⟩ := hrel
          have HB3 := Lib.hid h2
          clear h2
          go_wp2
          go_loopw [14] (fun v w2 => v = .int .i64 0 ∧ Below w.heap.size w w2) (fun v _ => 0 - (intOf v).toNat)
          case atStart => exact ⟨rfl, HB3.out⟩
          case round =>
            obtain ⟨rfl, h2⟩ := hrel
            have HB4 := Lib.hid h2
            clear h2
            go_wp2
            go_ret
            exact ⟨rfl, HB4.out⟩
theorem info_Texts : (Tryz.prog.info? 135).map (fun i => (i.zero, i.size, i.bytes)) = some (some (.slice none 0 0), 1, 24) := by kernel_rfl
set_option maxHeartbeats 1000000 in
set_option maxRecDepth 100000 in
theorem flatTexts_nil (w : World) : Calls Tryz.prog 71 #[.slice none 0 0] w fun e w' => e = .returned (.bool true) ∧ Below w.heap.size w w' := by
  obtain ⟨i1, hi1, hy0, hy1, hy2⟩ := info_parts info_Texts
  go_enter Tryz.func71, Tryz.ntmps71
  go_wp2
  go_loopw [3] (fun v wr => v = .int .i64 0 ∧ Below w.heap.size w wr) (fun v _ => 0 - (intOf v).toNat)
  case atStart => exact ⟨rfl, Below.refl _ _⟩
  case round =>
    obtain ⟨rfl, h2⟩ := hrel
    have HB0 := Lib.hid h2
    clear h2
    go_wp2_with (at_make; go_must (refine wpList_make_full _ rfl _ _ _ rfl wr.heap.size 135 i1 _ 1 Tryz.underlying73 hi1 hy0 hy1 .i64 .i64 0 0 0 rfl rfl rfl rfl (by omega) (by simp only [maxLen]; omega) (Nat.le_refl _) ?_; intro w1 hown1 hgrow1))
    have HB : Hid (Below w.heap.size w w1) := HB0.out.grown hgrow1 HB0.out.size (fun k hk => by cases hk)
    clear hown1 hgrow1
    go_loopw [6] (fun v w2 => v = .int .i64 0 ∧ Below w.heap.size w w2) (fun v _ => 0 - (intOf v).toNat)
    case atStart => exact ⟨rfl, HB.out⟩
    case round =>
      obtain ⟨rfl, h2⟩ := hrel
      clear HB
      have HB := Lib.hid h2
      clear h2
      go_wp2
      go_loopw [9] (fun v w2 => v = .int .i64 0 ∧ Below w.heap.size w w2) (fun v _ => 0 - (intOf v).toNat)
      case atStart => exact ⟨rfl, HB.out⟩
      case round =>
        obtain ⟨rfl, h2⟩ := hrel
        have HB2 := Lib.hid h2
        clear h2
        go_wp2
        go_loopw [11] (fun v w2 => v = .int .i64 0 ∧ Below w.heap.size w w2) (fun v _ => 0 - (intOf v).toNat)
        case atStart => exact ⟨rfl, HB2.out⟩
        case round =>
          obtain ⟨rfl, h2⟩ := hrel
          have HB3 := Lib.hid h2
          clear h2
          go_wp2
          go_loopw [14] (fun v w2 => v = .int .i64 0 ∧ Below w.heap.size w w2) (fun v _ => 0 - (intOf v).toNat)
          case atStart => exact ⟨rfl, HB3.out⟩
          case round =>
            obtain ⟨rfl, h2⟩ := hrel
            have HB4 := Lib.hid h2
            clear h2
            go_wp2
            go_ret
            exact ⟨rfl, HB4.out⟩
theorem info_Bytes : (Tryz.prog.info? 137).map (fun i => (i.zero, i.size, i.bytes)) = some (some (.slice none 0 0), 1, 24) := by kernel_rfl
set_option maxHeartbeats 1000000 in
set_option maxRecDepth 100000 in
theorem flatBytes_nil (w : World) : Calls Tryz.prog 72 #[.slice none 0 0] w fun e w' => e = .returned (.bool true) ∧ Below w.heap.size w w' := by
  obtain ⟨i1, hi1, hy0, hy1, hy2⟩ := info_parts info_Bytes
  go_enter Tryz.func72, Tryz.ntmps72
  go_wp2
  go_loopw [3] (fun v wr => v = .int .i64 0 ∧ Below w.heap.size w wr) (fun v _ => 0 - (intOf v).toNat)
  case atStart => exact ⟨rfl, Below.refl _ _⟩
  case round =>
    obtain ⟨rfl, h2⟩ := hrel
    have HB0 := Lib.hid h2
    clear h2
    go_wp2_with (at_make; go_must (refine wpList_make_full _ rfl _ _ _ rfl wr.heap.size 137 i1 _ 1 Tryz.underlying74 hi1 hy0 hy1 .i64 .i64 0 0 0 rfl rfl rfl rfl (by omega) (by simp only [maxLen]; omega) (Nat.le_refl _) ?_; intro w1 hown1 hgrow1))
    have HB : Hid (Below w.heap.size w w1) := HB0.out.grown hgrow1 HB0.out.size (fun k hk => by cases hk)
    clear hown1 hgrow1
    go_loopw [6] (fun v w2 => v = .int .i64 0 ∧ Below w.heap.size w w2) (fun v _ => 0 - (intOf v).toNat)
    case atStart => exact ⟨rfl, HB.out⟩
    case round =>
      obtain ⟨rfl, h2⟩ := hrel
      clear HB
      have HB := Lib.hid h2
      clear h2
      go_wp2
      go_loopw [9] (fun v w2 => v = .int .i64 0 ∧ Below w.heap.size w w2) (fun v _ => 0 - (intOf v).toNat)
      case atStart => exact ⟨rfl, HB.out⟩
      case round =>
        obtain ⟨rfl, h2⟩ := hrel
        have HB2 := Lib.hid h2
        clear h2
        go_wp2
        go_loopw [11] (fun v w2 => v = .int .i64 0 ∧ Below w.heap.size w w2) (fun v _ => 0 - (intOf v).toNat)
        case atStart => exact ⟨rfl, HB2.out⟩
        case round =>
          obtain ⟨rfl, h2⟩ := hrel
          have HB3 := Lib.hid h2
          clear h2
          go_wp2
          go_loopw [14] (fun v w2 => v = .int .i64 0 ∧ Below w.heap.size w w2) (fun v _ => 0 - (intOf v).toNat)
          case atStart => exact ⟨rfl, HB3.out⟩
          case round =>
            obtain ⟨rfl, h2⟩ := hrel
            have HB4 := Lib.hid h2
            clear h2
            go_wp2
            go_ret
            exact ⟨rfl, HB4.out⟩
theorem info_Truths : (Tryz.prog.info? 93).map (fun i => (i.zero, i.size, i.bytes)) = some (some (.slice none 0 0), 1, 24) := by kernel_rfl
set_option maxHeartbeats 1000000 in
set_option maxRecDepth 100000 in
theorem flatTruths_nil (w : World) : Calls Tryz.prog 73 #[.slice none 0 0] w fun e w' => e = .returned (.bool true) ∧ Below w.heap.size w w' := by
  obtain ⟨i1, hi1, hy0, hy1, hy2⟩ := info_parts info_Truths
  go_enter Tryz.func73, Tryz.ntmps73
  go_wp2
  go_loopw [3] (fun v wr => v = .int .i64 0 ∧ Below w.heap.size w wr) (fun v _ => 0 - (intOf v).toNat)
  case atStart => exact ⟨rfl, Below.refl _ _⟩
  case round =>
    obtain ⟨rfl, h2⟩ := hrel
    have HB0 := Lib.hid h2
    clear h2
    go_wp2_with (at_make; go_must (refine wpList_make_full _ rfl _ _ _ rfl wr.heap.size 93 i1 _ 1 Tryz.underlying75 hi1 hy0 hy1 .i64 .i64 0 0 0 rfl rfl rfl rfl (by omega) (by simp only [maxLen]; omega) (Nat.le_refl _) ?_; intro w1 hown1 hgrow1))
    have HB : Hid (Below w.heap.size w w1) := HB0.out.grown hgrow1 HB0.out.size (fun k hk => by cases hk)
    clear hown1 hgrow1
    go_loopw [6] (fun v w2 => v = .int .i64 0 ∧ Below w.heap.size w w2) (fun v _ => 0 - (intOf v).toNat)
    case atStart => exact ⟨rfl, HB.out⟩
    case round =>
      obtain ⟨rfl, h2⟩ := hrel
      clear HB
      have HB := Lib.hid h2
      clear h2
      go_wp2
      go_loopw [9] (fun v w2 => v = .int .i64 0 ∧ Below w.heap.size w w2) (fun v _ => 0 - (intOf v).toNat)
      case atStart => exact ⟨rfl, HB.out⟩
      case round =>
        obtain ⟨rfl, h2⟩ := hrel
        have HB2 := Lib.hid h2
        clear h2
        go_wp2
        go_loopw [11] (fun v w2 => v = .int .i64 0 ∧ Below w.heap.size w w2) (fun v _ => 0 - (intOf v).toNat)
        case atStart => exact ⟨rfl, HB2.out⟩
        case round =>
          obtain ⟨rfl, h2⟩ := hrel
          have HB3 := Lib.hid h2
          clear h2
          go_wp2
          go_loopw [14] (fun v w2 => v = .int .i64 0 ∧ Below w.heap.size w w2) (fun v _ => 0 - (intOf v).toNat)
          case atStart => exact ⟨rfl, HB3.out⟩
          case round =>
            obtain ⟨rfl, h2⟩ := hrel
            have HB4 := Lib.hid h2
            clear h2
            go_wp2
            go_ret
            exact ⟨rfl, HB4.out⟩
theorem info_Row : (Tryz.prog.info? 32).map (fun i => (i.zero, i.size, i.bytes)) = some (some (.slice none 0 0), 1, 24) := by kernel_rfl
set_option maxHeartbeats 1000000 in
set_option maxRecDepth 100000 in
theorem flatRow_nil (w : World) : Calls Tryz.prog 74 #[.slice none 0 0] w fun e w' => e = .returned (.bool true) ∧ Below w.heap.size w w' := by
  obtain ⟨i1, hi1, hy0, hy1, hy2⟩ := info_parts info_Row
  go_enter Tryz.func74, Tryz.ntmps74
  go_wp2
  go_loopw [3] (fun v wr => v = .int .i64 0 ∧ Below w.heap.size w wr) (fun v _ => 0 - (intOf v).toNat)
  case atStart => exact ⟨rfl, Below.refl _ _⟩
  case round =>
    obtain ⟨rfl, h2⟩ := hrel
    have HB0 := Lib.hid h2
    clear h2
    go_wp2_with (at_make; go_must (refine wpList_make_full _ rfl _ _ _ rfl wr.heap.size 32 i1 _ 1 Tryz.underlying76 hi1 hy0 hy1 .i64 .i64 0 0 0 rfl rfl rfl rfl (by omega) (by simp only [maxLen]; omega) (Nat.le_refl _) ?_; intro w1 hown1 hgrow1))
    have HB : Hid (Below w.heap.size w w1) := HB0.out.grown hgrow1 HB0.out.size (fun k hk => by cases hk)
    clear hown1 hgrow1
    go_loopw [6] (fun v w2 => v = .int .i64 0 ∧ Below w.heap.size w w2) (fun v _ => 0 - (intOf v).toNat)
    case atStart => exact ⟨rfl, HB.out⟩
    case round =>
      obtain ⟨rfl, h2⟩ := hrel
      clear HB
      have HB := Lib.hid h2
      clear h2
      go_wp2
      go_loopw [9] (fun v w2 => v = .int .i64 0 ∧ Below w.heap.size w w2) (fun v _ => 0 - (intOf v).toNat)
      case atStart => exact ⟨rfl, HB.out⟩
      case round =>
        obtain ⟨rfl, h2⟩ := hrel
        have HB2 := Lib.hid h2
        clear h2
        go_wp2
        go_loopw [11] (fun v w2 => v = .int .i64 0 ∧ Below w.heap.size w w2) (fun v _ => 0 - (intOf v).toNat)
        case atStart => exact ⟨rfl, HB2.out⟩
        case round =>
          obtain ⟨rfl, h2⟩ := hrel
          have HB3 := Lib.hid h2
          clear h2
          go_wp2
          go_loopw [14] (fun v w2 => v = .int .i64 0 ∧ Below w.heap.size w w2) (fun v _ => 0 - (intOf v).toNat)
          case atStart => exact ⟨rfl, HB3.out⟩
          case round =>
            obtain ⟨rfl, h2⟩ := hrel
            have HB4 := Lib.hid h2
            clear h2
            go_wp2
            go_ret
            exact ⟨rfl, HB4.out⟩
theorem info_Blocks : (Tryz.prog.info? 35).map (fun i => (i.zero, i.size, i.bytes)) = some (some (.slice none 0 0), 1, 24) := by kernel_rfl
set_option maxHeartbeats 1000000 in
set_option maxRecDepth 100000 in
theorem flatBlocks_nil (w : World) : Calls Tryz.prog 75 #[.slice none 0 0] w fun e w' => e = .returned (.bool true) ∧ Below w.heap.size w w' := by
  obtain ⟨i1, hi1, hy0, hy1, hy2⟩ := info_parts info_Blocks
  go_enter Tryz.func75, Tryz.ntmps75
  go_wp2
  go_loopw [3] (fun v wr => v = .int .i64 0 ∧ Below w.heap.size w wr) (fun v _ => 0 - (intOf v).toNat)
  case atStart => exact ⟨rfl, Below.refl _ _⟩
  case round =>
    obtain ⟨rfl, h2⟩ := hrel
    have HB0 := Lib.hid h2
    clear h2
    go_wp2_with (at_make; go_must (refine wpList_make_full _ rfl _ _ _ rfl wr.heap.size 35 i1 _ 1 Tryz.underlying77 hi1 hy0 hy1 .i64 .i64 0 0 0 rfl rfl rfl rfl (by omega) (by simp only [maxLen]; omega) (Nat.le_refl _) ?_; intro w1 hown1 hgrow1))
    have HB : Hid (Below w.heap.size w w1) := HB0.out.grown hgrow1 HB0.out.size (fun k hk => by cases hk)
    clear hown1 hgrow1
    go_loopw [6] (fun v w2 => v = .int .i64 0 ∧ Below w.heap.size w w2) (fun v _ => 0 - (intOf v).toNat)
    case atStart => exact ⟨rfl, HB.out⟩
    case round =>
      obtain ⟨rfl, h2⟩ := hrel
      clear HB
      have HB := Lib.hid h2
      clear h2
      go_wp2
      go_loopw [9] (fun v w2 => v = .int .i64 0 ∧ Below w.heap.size w w2) (fun v _ => 0 - (intOf v).toNat)
      case atStart => exact ⟨rfl, HB.out⟩
      case round =>
        obtain ⟨rfl, h2⟩ := hrel
        have HB2 := Lib.hid h2
        clear h2
        go_wp2
        go_loopw [11] (fun v w2 => v = .int .i64 0 ∧ Below w.heap.size w w2) (fun v _ => 0 - (intOf v).toNat)
        case atStart => exact ⟨rfl, HB2.out⟩
        case round =>
          obtain ⟨rfl, h2⟩ := hrel
          have HB3 := Lib.hid h2
          clear h2
          go_wp2
          go_loopw [14] (fun v w2 => v = .int .i64 0 ∧ Below w.heap.size w w2) (fun v _ => 0 - (intOf v).toNat)
          case atStart => exact ⟨rfl, HB3.out⟩
          case round =>
            obtain ⟨rfl, h2⟩ := hrel
            have HB4 := Lib.hid h2
            clear h2
            go_wp2
            go_ret
            exact ⟨rfl, HB4.out⟩
theorem info_Funcs : (Tryz.prog.info? 141).map (fun i => (i.zero, i.size, i.bytes)) = some (some (.slice none 0 0), 1, 24) := by kernel_rfl
set_option maxHeartbeats 1000000 in
set_option maxRecDepth 100000 in
theorem flatFuncs_nil (w : World) : Calls Tryz.prog 76 #[.slice none 0 0] w fun e w' => e = .returned (.bool true) ∧ Below w.heap.size w w' := by
  obtain ⟨i1, hi1, hy0, hy1, hy2⟩ := info_parts info_Funcs
  go_enter Tryz.func76, Tryz.ntmps76
  go_wp2
  go_loopw [3] (fun v wr => v = .int .i64 0 ∧ Below w.heap.size w wr) (fun v _ => 0 - (intOf v).toNat)
  case atStart => exact ⟨rfl, Below.refl _ _⟩
  case round =>
    obtain ⟨rfl, h2⟩ := hrel
    have HB0 := Lib.hid h2
    clear h2
    go_wp2_with (at_make; go_must (refine wpList_make_full _ rfl _ _ _ rfl wr.heap.size 141 i1 _ 1 Tryz.underlying78 hi1 hy0 hy1 .i64 .i64 0 0 0 rfl rfl rfl rfl (by omega) (by simp only [maxLen]; omega) (Nat.le_refl _) ?_; intro w1 hown1 hgrow1))
    have HB : Hid (Below w.heap.size w w1) := HB0.out.grown hgrow1 HB0.out.size (fun k hk => by cases hk)
    clear hown1 hgrow1
    go_loopw [6] (fun v w2 => v = .int .i64 0 ∧ Below w.heap.size w w2) (fun v _ => 0 - (intOf v).toNat)
    case atStart => exact ⟨rfl, HB.out⟩
    case round =>
      obtain ⟨rfl, h2⟩ := hrel
      clear HB
      have HB := Lib.hid h2
      clear h2
      go_wp2
      go_loopw [9] (fun v w2 => v = .int .i64 0 ∧ Below w.heap.size w w2) (fun v _ => 0 - (intOf v).toNat)
      case atStart => exact ⟨rfl, HB.out⟩
      case round =>
        obtain ⟨rfl, h2⟩ := hrel
        have HB2 := Lib.hid h2
        clear h2
        go_wp2
        go_loopw [11] (fun v w2 => v = .int .i64 0 ∧ Below w.heap.size w w2) (fun v _ => 0 - (intOf v).toNat)
        case atStart => exact ⟨rfl, HB2.out⟩
        case round =>
          obtain ⟨rfl, h2⟩ := hrel
          have HB3 := Lib.hid h2
          clear h2
          go_wp2
          go_loopw [14] (fun v w2 => v = .int .i64 0 ∧ Below w.heap.size w w2) (fun v _ => 0 - (intOf v).toNat)
          case atStart => exact ⟨rfl, HB3.out⟩
          case round =>
            obtain ⟨rfl, h2⟩ := hrel
            have HB4 := Lib.hid h2
            clear h2
            go_wp2
            go_ret
            exact ⟨rfl, HB4.out⟩
theorem info_Targets : (Tryz.prog.info? 143).map (fun i => (i.zero, i.size, i.bytes)) = some (some (.slice none 0 0), 1, 24) := by kernel_rfl
set_option maxHeartbeats 1000000 in
set_option maxRecDepth 100000 in
theorem flatTargets_nil (w : World) : Calls Tryz.prog 77 #[.slice none 0 0] w fun e w' => e = .returned (.bool true) ∧ Below w.heap.size w w' := by
  obtain ⟨i1, hi1, hy0, hy1, hy2⟩ := info_parts info_Targets
  go_enter Tryz.func77, Tryz.ntmps77
  go_wp2
  go_loopw [3] (fun v wr => v = .int .i64 0 ∧ Below w.heap.size w wr) (fun v _ => 0 - (intOf v).toNat)
  case atStart => exact ⟨rfl, Below.refl _ _⟩
  case round =>
    obtain ⟨rfl, h2⟩ := hrel
    have HB0 := Lib.hid h2
    clear h2
    go_wp2_with (at_make; go_must (refine wpList_make_full _ rfl _ _ _ rfl wr.heap.size 143 i1 _ 1 Tryz.underlying79 hi1 hy0 hy1 .i64 .i64 0 0 0 rfl rfl rfl rfl (by omega) (by simp only [maxLen]; omega) (Nat.le_refl _) ?_; intro w1 hown1 hgrow1))
    have HB : Hid (Below w.heap.size w w1) := HB0.out.grown hgrow1 HB0.out.size (fun k hk => by cases hk)
    clear hown1 hgrow1
    go_loopw [6] (fun v w2 => v = .int .i64 0 ∧ Below w.heap.size w w2) (fun v _ => 0 - (intOf v).toNat)
    case atStart => exact ⟨rfl, HB.out⟩
    case round =>
      obtain ⟨rfl, h2⟩ := hrel
      clear HB
      have HB := Lib.hid h2
      clear h2
      go_wp2
      go_loopw [9] (fun v w2 => v = .int .i64 0 ∧ Below w.heap.size w w2) (fun v _ => 0 - (intOf v).toNat)
      case atStart => exact ⟨rfl, HB.out⟩
      case round =>
        obtain ⟨rfl, h2⟩ := hrel
        have HB2 := Lib.hid h2
        clear h2
        go_wp2
        go_loopw [11] (fun v w2 => v = .int .i64 0 ∧ Below w.heap.size w w2) (fun v _ => 0 - (intOf v).toNat)
        case atStart => exact ⟨rfl, HB2.out⟩
        case round =>
          obtain ⟨rfl, h2⟩ := hrel
          have HB3 := Lib.hid h2
          clear h2
          go_wp2
          go_loopw [14] (fun v w2 => v = .int .i64 0 ∧ Below w.heap.size w w2) (fun v _ => 0 - (intOf v).toNat)
          case atStart => exact ⟨rfl, HB3.out⟩
          case round =>
            obtain ⟨rfl, h2⟩ := hrel
            have HB4 := Lib.hid h2
            clear h2
            go_wp2
            go_ret
            exact ⟨rfl, HB4.out⟩
theorem info_Machines : (Tryz.prog.info? 148).map (fun i => (i.zero, i.size, i.bytes)) = some (some (.slice none 0 0), 1, 24) := by kernel_rfl
set_option maxHeartbeats 1000000 in
set_option maxRecDepth 100000 in
theorem flatMachines_nil (w : World) : Calls Tryz.prog 78 #[.slice none 0 0] w fun e w' => e = .returned (.bool true) ∧ Below w.heap.size w w' := by
  obtain ⟨i1, hi1, hy0, hy1, hy2⟩ := info_parts info_Machines
  go_enter Tryz.func78, Tryz.ntmps78
  go_wp2
  go_loopw [3] (fun v wr => v = .int .i64 0 ∧ Below w.heap.size w wr) (fun v _ => 0 - (intOf v).toNat)
  case atStart => exact ⟨rfl, Below.refl _ _⟩
  case round =>
    obtain ⟨rfl, h2⟩ := hrel
    have HB0 := Lib.hid h2
    clear h2
    go_wp2_with (at_make; go_must (refine wpList_make_full _ rfl _ _ _ rfl wr.heap.size 148 i1 _ 1 Tryz.underlying80 hi1 hy0 hy1 .i64 .i64 0 0 0 rfl rfl rfl rfl (by omega) (by simp only [maxLen]; omega) (Nat.le_refl _) ?_; intro w1 hown1 hgrow1))
    have HB : Hid (Below w.heap.size w w1) := HB0.out.grown hgrow1 HB0.out.size (fun k hk => by cases hk)
    clear hown1 hgrow1
    go_loopw [6] (fun v w2 => v = .int .i64 0 ∧ Below w.heap.size w w2) (fun v _ => 0 - (intOf v).toNat)
    case atStart => exact ⟨rfl, HB.out⟩
    case round =>
      obtain ⟨rfl, h2⟩ := hrel
      clear HB
      have HB := Lib.hid h2
      clear h2
      go_wp2
      go_loopw [9] (fun v w2 => v = .int .i64 0 ∧ Below w.heap.size w w2) (fun v _ => 0 - (intOf v).toNat)
      case atStart => exact ⟨rfl, HB.out⟩
      case round =>
        obtain ⟨rfl, h2⟩ := hrel
        have HB2 := Lib.hid h2
        clear h2
        go_wp2
        go_loopw [11] (fun v w2 => v = .int .i64 0 ∧ Below w.heap.size w w2) (fun v _ => 0 - (intOf v).toNat)
        case atStart => exact ⟨rfl, HB2.out⟩
        case round =>
          obtain ⟨rfl, h2⟩ := hrel
          have HB3 := Lib.hid h2
          clear h2
          go_wp2
          go_loopw [14] (fun v w2 => v = .int .i64 0 ∧ Below w.heap.size w w2) (fun v _ => 0 - (intOf v).toNat)
          case atStart => exact ⟨rfl, HB3.out⟩
          case round =>
            obtain ⟨rfl, h2⟩ := hrel
            have HB4 := Lib.hid h2
            clear h2
            go_wp2
            go_ret
            exact ⟨rfl, HB4.out⟩
theorem info_Locs : (Tryz.prog.info? 153).map (fun i => (i.zero, i.size, i.bytes)) = some (some (.slice none 0 0), 1, 24) := by kernel_rfl
set_option maxHeartbeats 1000000 in
set_option maxRecDepth 100000 in
theorem flatLocs_nil (w : World) : Calls Tryz.prog 79 #[.slice none 0 0] w fun e w' => e = .returned (.bool true) ∧ Below w.heap.size w w' := by
  obtain ⟨i1, hi1, hy0, hy1, hy2⟩ := info_parts info_Locs
  go_enter Tryz.func79, Tryz.ntmps79
  go_wp2
  go_loopw [3] (fun v wr => v = .int .i64 0 ∧ Below w.heap.size w wr) (fun v _ => 0 - (intOf v).toNat)
  case atStart => exact ⟨rfl, Below.refl _ _⟩
  case round =>
    obtain ⟨rfl, h2⟩ := hrel
    have HB0 := Lib.hid h2
    clear h2
    go_wp2_with (at_make; go_must (refine wpList_make_full _ rfl _ _ _ rfl wr.heap.size 153 i1 _ 1 Tryz.underlying81 hi1 hy0 hy1 .i64 .i64 0 0 0 rfl rfl rfl rfl (by omega) (by simp only [maxLen]; omega) (Nat.le_refl _) ?_; intro w1 hown1 hgrow1))
    have HB : Hid (Below w.heap.size w w1) := HB0.out.grown hgrow1 HB0.out.size (fun k hk => by cases hk)
    clear hown1 hgrow1
    go_loopw [6] (fun v w2 => v = .int .i64 0 ∧ Below w.heap.size w w2) (fun v _ => 0 - (intOf v).toNat)
    case atStart => exact ⟨rfl, HB.out⟩
    case round =>
      obtain ⟨rfl, h2⟩ := hrel
      clear HB
      have HB := Lib.hid h2
      clear h2
      go_wp2
      go_loopw [9] (fun v w2 => v = .int .i64 0 ∧ Below w.heap.size w w2) (fun v _ => 0 - (intOf v).toNat)
      case atStart => exact ⟨rfl, HB.out⟩
      case round =>
        obtain ⟨rfl, h2⟩ := hrel
        have HB2 := Lib.hid h2
        clear h2
        go_wp2
        go_loopw [11] (fun v w2 => v = .int .i64 0 ∧ Below w.heap.size w w2) (fun v _ => 0 - (intOf v).toNat)
        case atStart => exact ⟨rfl, HB2.out⟩
        case round =>
          obtain ⟨rfl, h2⟩ := hrel
          have HB3 := Lib.hid h2
          clear h2
          go_wp2
          go_loopw [14] (fun v w2 => v = .int .i64 0 ∧ Below w.heap.size w w2) (fun v _ => 0 - (intOf v).toNat)
          case atStart => exact ⟨rfl, HB3.out⟩
          case round =>
            obtain ⟨rfl, h2⟩ := hrel
            have HB4 := Lib.hid h2
            clear h2
            go_wp2
            go_ret
            exact ⟨rfl, HB4.out⟩
theorem info_Facts : (Tryz.prog.info? 157).map (fun i => (i.zero, i.size, i.bytes)) = some (some (.slice none 0 0), 1, 24) := by kernel_rfl
set_option maxHeartbeats 1000000 in
set_option maxRecDepth 100000 in
theorem flatFacts_nil (w : World) : Calls Tryz.prog 80 #[.slice none 0 0] w fun e w' => e = .returned (.bool true) ∧ Below w.heap.size w w' := by
  obtain ⟨i1, hi1, hy0, hy1, hy2⟩ := info_parts info_Facts
  go_enter Tryz.func80, Tryz.ntmps80
  go_wp2
  go_loopw [3] (fun v wr => v = .int .i64 0 ∧ Below w.heap.size w wr) (fun v _ => 0 - (intOf v).toNat)
  case atStart => exact ⟨rfl, Below.refl _ _⟩
  case round =>
    obtain ⟨rfl, h2⟩ := hrel
    have HB0 := Lib.hid h2
    clear h2
    go_wp2_with (at_make; go_must (refine wpList_make_full _ rfl _ _ _ rfl wr.heap.size 157 i1 _ 1 Tryz.underlying82 hi1 hy0 hy1 .i64 .i64 0 0 0 rfl rfl rfl rfl (by omega) (by simp only [maxLen]; omega) (Nat.le_refl _) ?_; intro w1 hown1 hgrow1))
    have HB : Hid (Below w.heap.size w w1) := HB0.out.grown hgrow1 HB0.out.size (fun k hk => by cases hk)
    clear hown1 hgrow1
    go_loopw [6] (fun v w2 => v = .int .i64 0 ∧ Below w.heap.size w w2) (fun v _ => 0 - (intOf v).toNat)
    case atStart => exact ⟨rfl, HB.out⟩
    case round =>
      obtain ⟨rfl, h2⟩ := hrel
      clear HB
      have HB := Lib.hid h2
      clear h2
      go_wp2
      go_loopw [9] (fun v w2 => v = .int .i64 0 ∧ Below w.heap.size w w2) (fun v _ => 0 - (intOf v).toNat)
      case atStart => exact ⟨rfl, HB.out⟩
      case round =>
        obtain ⟨rfl, h2⟩ := hrel
        have HB2 := Lib.hid h2
        clear h2
        go_wp2
        go_loopw [11] (fun v w2 => v = .int .i64 0 ∧ Below w.heap.size w w2) (fun v _ => 0 - (intOf v).toNat)
        case atStart => exact ⟨rfl, HB2.out⟩
        case round =>
          obtain ⟨rfl, h2⟩ := hrel
          have HB3 := Lib.hid h2
          clear h2
          go_wp2
          go_loopw [14] (fun v w2 => v = .int .i64 0 ∧ Below w.heap.size w w2) (fun v _ => 0 - (intOf v).toNat)
          case atStart => exact ⟨rfl, HB3.out⟩
          case round =>
            obtain ⟨rfl, h2⟩ := hrel
            have HB4 := Lib.hid h2
            clear h2
            go_wp2
            go_ret
            exact ⟨rfl, HB4.out⟩
theorem info_Edges : (Tryz.prog.info? 161).map (fun i => (i.zero, i.size, i.bytes)) = some (some (.slice none 0 0), 1, 24) := by kernel_rfl
set_option maxHeartbeats 1000000 in
set_option maxRecDepth 100000 in
theorem flatEdges_nil (w : World) : Calls Tryz.prog 81 #[.slice none 0 0] w fun e w' => e = .returned (.bool true) ∧ Below w.heap.size w w' := by
  obtain ⟨i1, hi1, hy0, hy1, hy2⟩ := info_parts info_Edges
  go_enter Tryz.func81, Tryz.ntmps81
  go_wp2
  go_loopw [3] (fun v wr => v = .int .i64 0 ∧ Below w.heap.size w wr) (fun v _ => 0 - (intOf v).toNat)
  case atStart => exact ⟨rfl, Below.refl _ _⟩
  case round =>
    obtain ⟨rfl, h2⟩ := hrel
    have HB0 := Lib.hid h2
    clear h2
    go_wp2_with (at_make; go_must (refine wpList_make_full _ rfl _ _ _ rfl wr.heap.size 161 i1 _ 1 Tryz.underlying83 hi1 hy0 hy1 .i64 .i64 0 0 0 rfl rfl rfl rfl (by omega) (by simp only [maxLen]; omega) (Nat.le_refl _) ?_; intro w1 hown1 hgrow1))
    have HB : Hid (Below w.heap.size w w1) := HB0.out.grown hgrow1 HB0.out.size (fun k hk => by cases hk)
    clear hown1 hgrow1
    go_loopw [6] (fun v w2 => v = .int .i64 0 ∧ Below w.heap.size w w2) (fun v _ => 0 - (intOf v).toNat)
    case atStart => exact ⟨rfl, HB.out⟩
    case round =>
      obtain ⟨rfl, h2⟩ := hrel
      clear HB
      have HB := Lib.hid h2
      clear h2
      go_wp2
      go_loopw [9] (fun v w2 => v = .int .i64 0 ∧ Below w.heap.size w w2) (fun v _ => 0 - (intOf v).toNat)
      case atStart => exact ⟨rfl, HB.out⟩
      case round =>
        obtain ⟨rfl, h2⟩ := hrel
        have HB2 := Lib.hid h2
        clear h2
        go_wp2
        go_loopw [11] (fun v w2 => v = .int .i64 0 ∧ Below w.heap.size w w2) (fun v _ => 0 - (intOf v).toNat)
        case atStart => exact ⟨rfl, HB2.out⟩
        case round =>
          obtain ⟨rfl, h2⟩ := hrel
          have HB3 := Lib.hid h2
          clear h2
          go_wp2
          go_loopw [14] (fun v w2 => v = .int .i64 0 ∧ Below w.heap.size w w2) (fun v _ => 0 - (intOf v).toNat)
          case atStart => exact ⟨rfl, HB3.out⟩
          case round =>
            obtain ⟨rfl, h2⟩ := hrel
            have HB4 := Lib.hid h2
            clear h2
            go_wp2
            go_ret
            exact ⟨rfl, HB4.out⟩
theorem info_Tiles : (Tryz.prog.info? 165).map (fun i => (i.zero, i.size, i.bytes)) = some (some (.slice none 0 0), 1, 24) := by kernel_rfl
set_option maxHeartbeats 1000000 in
set_option maxRecDepth 100000 in
theorem flatTiles_nil (w : World) : Calls Tryz.prog 82 #[.slice none 0 0] w fun e w' => e = .returned (.bool true) ∧ Below w.heap.size w w' := by
  obtain ⟨i1, hi1, hy0, hy1, hy2⟩ := info_parts info_Tiles
  go_enter Tryz.func82, Tryz.ntmps82
  go_wp2
  go_loopw [3] (fun v wr => v = .int .i64 0 ∧ Below w.heap.size w wr) (fun v _ => 0 - (intOf v).toNat)
  case atStart => exact ⟨rfl, Below.refl _ _⟩
  case round =>
    obtain ⟨rfl, h2⟩ := hrel
    have HB0 := Lib.hid h2
    clear h2
    go_wp2_with (at_make; go_must (refine wpList_make_full _ rfl _ _ _ rfl wr.heap.size 165 i1 _ 1 Tryz.underlying84 hi1 hy0 hy1 .i64 .i64 0 0 0 rfl rfl rfl rfl (by omega) (by simp only [maxLen]; omega) (Nat.le_refl _) ?_; intro w1 hown1 hgrow1))
    have HB : Hid (Below w.heap.size w w1) := HB0.out.grown hgrow1 HB0.out.size (fun k hk => by cases hk)
    clear hown1 hgrow1
    go_loopw [6] (fun v w2 => v = .int .i64 0 ∧ Below w.heap.size w w2) (fun v _ => 0 - (intOf v).toNat)
    case atStart => exact ⟨rfl, HB.out⟩
    case round =>
      obtain ⟨rfl, h2⟩ := hrel
      clear HB
      have HB := Lib.hid h2
      clear h2
      go_wp2
      go_loopw [9] (fun v w2 => v = .int .i64 0 ∧ Below w.heap.size w w2) (fun v _ => 0 - (intOf v).toNat)
      case atStart => exact ⟨rfl, HB.out⟩
      case round =>
        obtain ⟨rfl, h2⟩ := hrel
        have HB2 := Lib.hid h2
        clear h2
        go_wp2
        go_loopw [11] (fun v w2 => v = .int .i64 0 ∧ Below w.heap.size w w2) (fun v _ => 0 - (intOf v).toNat)
        case atStart => exact ⟨rfl, HB2.out⟩
        case round =>
          obtain ⟨rfl, h2⟩ := hrel
          have HB3 := Lib.hid h2
          clear h2
          go_wp2
          go_loopw [14] (fun v w2 => v = .int .i64 0 ∧ Below w.heap.size w w2) (fun v _ => 0 - (intOf v).toNat)
          case atStart => exact ⟨rfl, HB3.out⟩
          case round =>
            obtain ⟨rfl, h2⟩ := hrel
            have HB4 := Lib.hid h2
            clear h2
            go_wp2
            go_ret
            exact ⟨rfl, HB4.out⟩
theorem info_Calls : (Tryz.prog.info? 171).map (fun i => (i.zero, i.size, i.bytes)) = some (some (.slice none 0 0), 1, 24) := by kernel_rfl
set_option maxHeartbeats 1000000 in
set_option maxRecDepth 100000 in
theorem flatCalls_nil (w : World) : Calls Tryz.prog 83 #[.slice none 0 0] w fun e w' => e = .returned (.bool true) ∧ Below w.heap.size w w' := by
  obtain ⟨i1, hi1, hy0, hy1, hy2⟩ := info_parts info_Calls
  go_enter Tryz.func83, Tryz.ntmps83
  go_wp2
  go_loopw [3] (fun v wr => v = .int .i64 0 ∧ Below w.heap.size w wr) (fun v _ => 0 - (intOf v).toNat)
  case atStart => exact ⟨rfl, Below.refl _ _⟩
  case round =>
    obtain ⟨rfl, h2⟩ := hrel
    have HB0 := Lib.hid h2
    clear h2
    go_wp2_with (at_make; go_must (refine wpList_make_full _ rfl _ _ _ rfl wr.heap.size 171 i1 _ 1 Tryz.underlying85 hi1 hy0 hy1 .i64 .i64 0 0 0 rfl rfl rfl rfl (by omega) (by simp only [maxLen]; omega) (Nat.le_refl _) ?_; intro w1 hown1 hgrow1))
    have HB : Hid (Below w.heap.size w w1) := HB0.out.grown hgrow1 HB0.out.size (fun k hk => by cases hk)
    clear hown1 hgrow1
    go_loopw [6] (fun v w2 => v = .int .i64 0 ∧ Below w.heap.size w w2) (fun v _ => 0 - (intOf v).toNat)
    case atStart => exact ⟨rfl, HB.out⟩
    case round =>
      obtain ⟨rfl, h2⟩ := hrel
      clear HB
      have HB := Lib.hid h2
      clear h2
      go_wp2
      go_loopw [9] (fun v w2 => v = .int .i64 0 ∧ Below w.heap.size w w2) (fun v _ => 0 - (intOf v).toNat)
      case atStart => exact ⟨rfl, HB.out⟩
      case round =>
        obtain ⟨rfl, h2⟩ := hrel
        have HB2 := Lib.hid h2
        clear h2
        go_wp2
        go_loopw [11] (fun v w2 => v = .int .i64 0 ∧ Below w.heap.size w w2) (fun v _ => 0 - (intOf v).toNat)
        case atStart => exact ⟨rfl, HB2.out⟩
        case round =>
          obtain ⟨rfl, h2⟩ := hrel
          have HB3 := Lib.hid h2
          clear h2
          go_wp2
          go_loopw [14] (fun v w2 => v = .int .i64 0 ∧ Below w.heap.size w w2) (fun v _ => 0 - (intOf v).toNat)
          case atStart => exact ⟨rfl, HB3.out⟩
          case round =>
            obtain ⟨rfl, h2⟩ := hrel
            have HB4 := Lib.hid h2
            clear h2
            go_wp2
            go_ret
            exact ⟨rfl, HB4.out⟩
end Go.Proofs.YtgpbpbhidemciaaGreat
