/-
  No rows at all lie apart. No condition beyond those that each theorem states.
-/
import Derived.Test.YtcofoeenfohpnaaIrPi
namespace Go.Proofs.Ytcofoeenfohpnaa
open Go.RowKit

theorem info_Limbs : (Try.prog.info? 132).map (fun i => (i.zero, i.size, i.bytes)) = some (some (.slice none 0 0), 1, 24) := by kernel_rfl
set_option maxHeartbeats 1000000 in
set_option maxRecDepth 100000 in
theorem flatLimbs_nil (w : World) : Calls Try.prog 71 #[.slice none 0 0] w fun e w' => e = .returned (.bool true) ∧ Below w.heap.size w w' := by
  obtain ⟨i1, hi1, hy0, hy1, hy2⟩ := info_parts info_Limbs
  go_enter Try.func71, Try.ntmps71
  go_wp2
  go_loopw [3] (fun v wr => v = .int .i64 0 ∧ Below w.heap.size w wr) (fun v _ => 0 - (intOf v).toNat)
  case atStart => exact ⟨rfl, Below.refl _ _⟩
  case round =>
    obtain ⟨rfl, h2⟩ := hrel
    have HB0 := Lib.hid h2
    clear h2
    go_wp2_with (at_make; go_must (refine wpList_make_full _ rfl _ _ _ rfl wr.heap.size 132 i1 _ 1 Try.underlying72 hi1 hy0 hy1 .i64 .i64 0 0 0 rfl rfl rfl rfl (by omega) (by simp only [maxLen]; omega) (Nat.le_refl _) ?_; intro w1 hown1 hgrow1))
    have HB : Hid (Below w.heap.size w w1) := HB0.out.grown hgrow1 HB0.out.size (fun k hk => by cases hk)
    clear hown1 hgrow1
    go_loopw [6] (fun v w2 => v = .int .i64 0 ∧ Below w.heap.size w w2) (fun v _ => 0 - (intOf v).toNat)
    case atStart => exact ⟨rfl, HB.out⟩
    case round =>
      obtain ⟨rfl, h2⟩ := hrel
      clear HB
      have HB := Lib.hid h2
      clear h2
      go_wp2
      go_loopw [9] (fun v w2 => v = .int .i64 0 ∧ Below w.heap.size w w2) (fun v _ => 0 - (intOf v).toNat)
      case atStart => exact ⟨rfl, HB.out⟩
      case round =>
        obtain ⟨rfl, h2⟩ := hrel
        have HB2 := Lib.hid h2
        clear h2
        go_wp2
        go_loopw [11] (fun v w2 => v = .int .i64 0 ∧ Below w.heap.size w w2) (fun v _ => 0 - (intOf v).toNat)
        case atStart => exact ⟨rfl, HB2.out⟩
        case round =>
          obtain ⟨rfl, h2⟩ := hrel
          have HB3 := Lib.hid h2
          clear h2
          go_wp2
          go_loopw [14] (fun v w2 => v = .int .i64 0 ∧ Below w.heap.size w w2) (fun v _ => 0 - (intOf v).toNat)
          case atStart => exact ⟨rfl, HB3.out⟩
          case round =>
            obtain ⟨rfl, h2⟩ := hrel
            have HB4 := Lib.hid h2
            clear h2
            go_wp2
            go_ret
            exact ⟨rfl, HB4.out⟩
theorem info_Words : (Try.prog.info? 134).map (fun i => (i.zero, i.size, i.bytes)) = some (some (.slice none 0 0), 1, 24) := by kernel_rfl
set_option maxHeartbeats 1000000 in
set_option maxRecDepth 100000 in
theorem flatWords_nil (w : World) : Calls Try.prog 72 #[.slice none 0 0] w fun e w' => e = .returned (.bool true) ∧ Below w.heap.size w w' := by
  obtain ⟨i1, hi1, hy0, hy1, hy2⟩ := info_parts info_Words
  go_enter Try.func72, Try.ntmps72
  go_wp2
  go_loopw [3] (fun v wr => v = .int .i64 0 ∧ Below w.heap.size w wr) (fun v _ => 0 - (intOf v).toNat)
  case atStart => exact ⟨rfl, Below.refl _ _⟩
  case round =>
    obtain ⟨rfl, h2⟩ := hrel
    have HB0 := Lib.hid h2
    clear h2
    go_wp2_with (at_make; go_must (refine wpList_make_full _ rfl _ _ _ rfl wr.heap.size 134 i1 _ 1 Try.underlying73 hi1 hy0 hy1 .i64 .i64 0 0 0 rfl rfl rfl rfl (by omega) (by simp only [maxLen]; omega) (Nat.le_refl _) ?_; intro w1 hown1 hgrow1))
    have HB : Hid (Below w.heap.size w w1) := HB0.out.grown hgrow1 HB0.out.size (fun k hk => by cases hk)
    clear hown1 hgrow1
    go_loopw [6] (fun v w2 => v = .int .i64 0 ∧ Below w.heap.size w w2) (fun v _ => 0 - (intOf v).toNat)
    case atStart => exact ⟨rfl, HB.out⟩
    case round =>
      obtain ⟨rfl, h2⟩ := hrel
      clear HB
      have HB := Lib.hid h2
      clear h2
      go_wp2
      go_loopw [9] (fun v w2 => v = .int .i64 0 ∧ Below w.heap.size w w2) (fun v _ => 0 - (intOf v).toNat)
      case atStart => exact ⟨rfl, HB.out⟩
      case round =>
        obtain ⟨rfl, h2⟩ := hrel
        have HB2 := Lib.hid h2
        clear h2
        go_wp2
        go_loopw [11] (fun v w2 => v = .int .i64 0 ∧ Below w.heap.size w w2) (fun v _ => 0 - (intOf v).toNat)
        case atStart => exact ⟨rfl, HB2.out⟩
        case round =>
          obtain ⟨rfl, h2⟩ := hrel
          have HB3 := Lib.hid h2
          clear h2
          go_wp2
          go_loopw [14] (fun v w2 => v = .int .i64 0 ∧ Below w.heap.size w w2) (fun v _ => 0 - (intOf v).toNat)
          case atStart => exact ⟨rfl, HB3.out⟩
          case round =>
            obtain ⟨rfl, h2⟩ := hrel
            have HB4 := Lib.hid h2
            clear h2
            go_wp2
            go_ret
            exact ⟨rfl, HB4.out⟩
theorem info_Longs : (Try.prog.info? 135).map (fun i => (i.zero, i.size, i.bytes)) = some (some (.slice none 0 0), 1, 24) := by kernel_rfl
set_option maxHeartbeats 1000000 in
set_option maxRecDepth 100000 in
theorem flatLongs_nil (w : World) : Calls Try.prog 74 #[.slice none 0 0] w fun e w' => e = .returned (.bool true) ∧ Below w.heap.size w w' := by
  obtain ⟨i1, hi1, hy0, hy1, hy2⟩ := info_parts info_Longs
  go_enter Try.func74, Try.ntmps74
  go_wp2
  go_loopw [3] (fun v wr => v = .int .i64 0 ∧ Below w.heap.size w wr) (fun v _ => 0 - (intOf v).toNat)
  case atStart => exact ⟨rfl, Below.refl _ _⟩
  case round =>
    obtain ⟨rfl, h2⟩ := hrel
    have HB0 := Lib.hid h2
    clear h2
    go_wp2_with (at_make; go_must (refine wpList_make_full _ rfl _ _ _ rfl wr.heap.size 135 i1 _ 1 Try.underlying74 hi1 hy0 hy1 .i64 .i64 0 0 0 rfl rfl rfl rfl (by omega) (by simp only [maxLen]; omega) (Nat.le_refl _) ?_; intro w1 hown1 hgrow1))
    have HB : Hid (Below w.heap.size w w1) := HB0.out.grown hgrow1 HB0.out.size (fun k hk => by cases hk)
    clear hown1 hgrow1
    go_loopw [6] (fun v w2 => v = .int .i64 0 ∧ Below w.heap.size w w2) (fun v _ => 0 - (intOf v).toNat)
    case atStart => exact ⟨rfl, HB.out⟩
    case round =>
      obtain ⟨rfl, h2⟩ := hrel
      clear HB
      have HB := Lib.hid h2
      clear h2
      go_wp2
      go_loopw [9] (fun v w2 => v = .int .i64 0 ∧ Below w.heap.size w w2) (fun v _ => 0 - (intOf v).toNat)
      case atStart => exact ⟨rfl, HB.out⟩
      case round =>
        obtain ⟨rfl, h2⟩ := hrel
        have HB2 := Lib.hid h2
        clear h2
        go_wp2
        go_loopw [11] (fun v w2 => v = .int .i64 0 ∧ Below w.heap.size w w2) (fun v _ => 0 - (intOf v).toNat)
        case atStart => exact ⟨rfl, HB2.out⟩
        case round =>
          obtain ⟨rfl, h2⟩ := hrel
          have HB3 := Lib.hid h2
          clear h2
          go_wp2
          go_loopw [14] (fun v w2 => v = .int .i64 0 ∧ Below w.heap.size w w2) (fun v _ => 0 - (intOf v).toNat)
          case atStart => exact ⟨rfl, HB3.out⟩
          case round =>
            obtain ⟨rfl, h2⟩ := hrel
            have HB4 := Lib.hid h2
            clear h2
            go_wp2
            go_ret
            exact ⟨rfl, HB4.out⟩
theorem info_Texts : (Try.prog.info? 136).map (fun i => (i.zero, i.size, i.bytes)) = some (some (.slice none 0 0), 1, 24) := by kernel_rfl
set_option maxHeartbeats 1000000 in
set_option maxRecDepth 100000 in
theorem flatTexts_nil (w : World) : Calls Try.prog 75 #[.slice none 0 0] w fun e w' => e = .returned (.bool true) ∧ Below w.heap.size w w' := by
  obtain ⟨i1, hi1, hy0, hy1, hy2⟩ := info_parts info_Texts
  go_enter Try.func75, Try.ntmps75
  go_wp2
  go_loopw [3] (fun v wr => v = .int .i64 0 ∧ Below w.heap.size w wr) (fun v _ => 0 - (intOf v).toNat)
  case atStart => exact ⟨rfl, Below.refl _ _⟩
  case round =>
    obtain ⟨rfl, h2⟩ := hrel
    have HB0 := Lib.hid h2
    clear h2
    go_wp2_with (at_make; go_must (refine wpList_make_full _ rfl _ _ _ rfl wr.heap.size 136 i1 _ 1 Try.underlying75 hi1 hy0 hy1 .i64 .i64 0 0 0 rfl rfl rfl rfl (by omega) (by simp only [maxLen]; omega) (Nat.le_refl _) ?_; intro w1 hown1 hgrow1))
    have HB : Hid (Below w.heap.size w w1) := HB0.out.grown hgrow1 HB0.out.size (fun k hk => by cases hk)
    clear hown1 hgrow1
    go_loopw [6] (fun v w2 => v = .int .i64 0 ∧ Below w.heap.size w w2) (fun v _ => 0 - (intOf v).toNat)
    case atStart => exact ⟨rfl, HB.out⟩
    case round =>
      obtain ⟨rfl, h2⟩ := hrel
      clear HB
      have HB := Lib.hid h2
      clear h2
      go_wp2
      go_loopw [9] (fun v w2 => v = .int .i64 0 ∧ Below w.heap.size w w2) (fun v _ => 0 - (intOf v).toNat)
      case atStart => exact ⟨rfl, HB.out⟩
      case round =>
        obtain ⟨rfl, h2⟩ := hrel
        have HB2 := Lib.hid h2
        clear h2
        go_wp2
        go_loopw [11] (fun v w2 => v = .int .i64 0 ∧ Below w.heap.size w w2) (fun v _ => 0 - (intOf v).toNat)
        case atStart => exact ⟨rfl, HB2.out⟩
        case round =>
          obtain ⟨rfl, h2⟩ := hrel
          have HB3 := Lib.hid h2
          clear h2
          go_wp2
          go_loopw [14] (fun v w2 => v = .int .i64 0 ∧ Below w.heap.size w w2) (fun v _ => 0 - (intOf v).toNat)
          case atStart => exact ⟨rfl, HB3.out⟩
          case round =>
            obtain ⟨rfl, h2⟩ := hrel
            have HB4 := Lib.hid h2
            clear h2
            go_wp2
            go_ret
            exact ⟨rfl, HB4.out⟩
theorem info_Bytes : (Try.prog.info? 138).map (fun i => (i.zero, i.size, i.bytes)) = some (some (.slice none 0 0), 1, 24) := by kernel_rfl
set_option maxHeartbeats 1000000 in
set_option maxRecDepth 100000 in
theorem flatBytes_nil (w : World) : Calls Try.prog 76 #[.slice none 0 0] w fun e w' => e = .returned (.bool true) ∧ Below w.heap.size w w' := by
  obtain ⟨i1, hi1, hy0, hy1, hy2⟩ := info_parts info_Bytes
  go_enter Try.func76, Try.ntmps76
  go_wp2
  go_loopw [3] (fun v wr => v = .int .i64 0 ∧ Below w.heap.size w wr) (fun v _ => 0 - (intOf v).toNat)
  case atStart => exact ⟨rfl, Below.refl _ _⟩
  case round =>
    obtain ⟨rfl, h2⟩ := hrel
    have HB0 := Lib.hid h2
    clear h2
    go_wp2_with (at_make; go_must (refine wpList_make_full _ rfl _ _ _ rfl wr.heap.size 138 i1 _ 1 Try.underlying76 hi1 hy0 hy1 .i64 .i64 0 0 0 rfl rfl rfl rfl (by omega) (by simp only [maxLen]; omega) (Nat.le_refl _) ?_; intro w1 hown1 hgrow1))
    have HB : Hid (Below w.heap.size w w1) := HB0.out.grown hgrow1 HB0.out.size (fun k hk => by cases hk)
    clear hown1 hgrow1
    go_loopw [6] (fun v w2 => v = .int .i64 0 ∧ Below w.heap.size w w2) (fun v _ => 0 - (intOf v).toNat)
    case atStart => exact ⟨rfl, HB.out⟩
    case round =>
      obtain ⟨rfl, h2⟩ := hrel
      clear HB
      have HB := Lib.hid h2
      clear h2
      go_wp2
      go_loopw [9] (fun v w2 => v = .int .i64 0 ∧ Below w.heap.size w w2) (fun v _ => 0 - (intOf v).toNat)
      case atStart => exact ⟨rfl, HB.out⟩
      case round =>
        obtain ⟨rfl, h2⟩ := hrel
        have HB2 := Lib.hid h2
        clear h2
        go_wp2
        go_loopw [11] (fun v w2 => v = .int .i64 0 ∧ Below w.heap.size w w2) (fun v _ => 0 - (intOf v).toNat)
        case atStart => exact ⟨rfl, HB2.out⟩
        case round =>
          obtain ⟨rfl, h2⟩ := hrel
          have HB3 := Lib.hid h2
          clear h2
          go_wp2
          go_loopw [14] (fun v w2 => v = .int .i64 0 ∧ Below w.heap.size w w2) (fun v _ => 0 - (intOf v).toNat)
          case atStart => exact ⟨rfl, HB3.out⟩
          case round =>
            obtain ⟨rfl, h2⟩ := hrel
            have HB4 := Lib.hid h2
            clear h2
            go_wp2
            go_ret
            exact ⟨rfl, HB4.out⟩
theorem info_Truths : (Try.prog.info? 95).map (fun i => (i.zero, i.size, i.bytes)) = some (some (.slice none 0 0), 1, 24) := by kernel_rfl
set_option maxHeartbeats 1000000 in
set_option maxRecDepth 100000 in
theorem flatTruths_nil (w : World) : Calls Try.prog 77 #[.slice none 0 0] w fun e w' => e = .returned (.bool true) ∧ Below w.heap.size w w' := by
  obtain ⟨i1, hi1, hy0, hy1, hy2⟩ := info_parts info_Truths
  go_enter Try.func77, Try.ntmps77
  go_wp2
  go_loopw [3] (fun v wr => v = .int .i64 0 ∧ Below w.heap.size w wr) (fun v _ => 0 - (intOf v).toNat)
  case atStart => exact ⟨rfl, Below.refl _ _⟩
  case round =>
    obtain ⟨rfl, h2⟩ := hrel
    have HB0 := Lib.hid h2
    clear h2
    go_wp2_with (at_make; go_must (refine wpList_make_full _ rfl _ _ _ rfl wr.heap.size 95 i1 _ 1 Try.underlying77 hi1 hy0 hy1 .i64 .i64 0 0 0 rfl rfl rfl rfl (by omega) (by simp only [maxLen]; omega) (Nat.le_refl _) ?_; intro w1 hown1 hgrow1))
    have HB : Hid (Below w.heap.size w w1) := HB0.out.grown hgrow1 HB0.out.size (fun k hk => by cases hk)
    clear hown1 hgrow1
    go_loopw [6] (fun v w2 => v = .int .i64 0 ∧ Below w.heap.size w w2) (fun v _ => 0 - (intOf v).toNat)
    case atStart => exact ⟨rfl, HB.out⟩
    case round =>
      obtain ⟨rfl, h2⟩ := hrel
      clear HB
      have HB := Lib.hid h2
      clear h2
      go_wp2
      go_loopw [9] (fun v w2 => v = .int .i64 0 ∧ Below w.heap.size w w2) (fun v _ => 0 - (intOf v).toNat)
      case atStart => exact ⟨rfl, HB.out⟩
      case round =>
        obtain ⟨rfl, h2⟩ := hrel
        have HB2 := Lib.hid h2
        clear h2
        go_wp2
        go_loopw [11] (fun v w2 => v = .int .i64 0 ∧ Below w.heap.size w w2) (fun v _ => 0 - (intOf v).toNat)
        case atStart => exact ⟨rfl, HB2.out⟩
        case round =>
          obtain ⟨rfl, h2⟩ := hrel
          have HB3 := Lib.hid h2
          clear h2
          go_wp2
          go_loopw [14] (fun v w2 => v = .int .i64 0 ∧ Below w.heap.size w w2) (fun v _ => 0 - (intOf v).toNat)
          case atStart => exact ⟨rfl, HB3.out⟩
          case round =>
            obtain ⟨rfl, h2⟩ := hrel
            have HB4 := Lib.hid h2
            clear h2
            go_wp2
            go_ret
            exact ⟨rfl, HB4.out⟩
theorem info_Row : (Try.prog.info? 55).map (fun i => (i.zero, i.size, i.bytes)) = some (some (.slice none 0 0), 1, 24) := by kernel_rfl
set_option maxHeartbeats 1000000 in
set_option maxRecDepth 100000 in
theorem flatRow_nil (w : World) : Calls Try.prog 78 #[.slice none 0 0] w fun e w' => e = .returned (.bool true) ∧ Below w.heap.size w w' := by
  obtain ⟨i1, hi1, hy0, hy1, hy2⟩ := info_parts info_Row
  go_enter Try.func78, Try.ntmps78
  go_wp2
  go_loopw [3] (fun v wr => v = .int .i64 0 ∧ Below w.heap.size w wr) (fun v _ => 0 - (intOf v).toNat)
  case atStart => exact ⟨rfl, Below.refl _ _⟩
  case round =>
    obtain ⟨rfl, h2⟩ := hrel
    have HB0 := Lib.hid h2
    clear h2
    go_wp2_with (at_make; go_must (refine wpList_make_full _ rfl _ _ _ rfl wr.heap.size 55 i1 _ 1 Try.underlying78 hi1 hy0 hy1 .i64 .i64 0 0 0 rfl rfl rfl rfl (by omega) (by simp only [maxLen]; omega) (Nat.le_refl _) ?_; intro w1 hown1 hgrow1))
    have HB : Hid (Below w.heap.size w w1) := HB0.out.grown hgrow1 HB0.out.size (fun k hk => by cases hk)
    clear hown1 hgrow1
    go_loopw [6] (fun v w2 => v = .int .i64 0 ∧ Below w.heap.size w w2) (fun v _ => 0 - (intOf v).toNat)
    case atStart => exact ⟨rfl, HB.out⟩
    case round =>
      obtain ⟨rfl, h2⟩ := hrel
      clear HB
      have HB := Lib.hid h2
      clear h2
      go_wp2
      go_loopw [9] (fun v w2 => v = .int .i64 0 ∧ Below w.heap.size w w2) (fun v _ => 0 - (intOf v).toNat)
      case atStart => exact ⟨rfl, HB.out⟩
      case round =>
        obtain ⟨rfl, h2⟩ := hrel
        have HB2 := Lib.hid h2
        clear h2
        go_wp2
        go_loopw [11] (fun v w2 => v = .int .i64 0 ∧ Below w.heap.size w w2) (fun v _ => 0 - (intOf v).toNat)
        case atStart => exact ⟨rfl, HB2.out⟩
        case round =>
          obtain ⟨rfl, h2⟩ := hrel
          have HB3 := Lib.hid h2
          clear h2
          go_wp2
          go_loopw [14] (fun v w2 => v = .int .i64 0 ∧ Below w.heap.size w w2) (fun v _ => 0 - (intOf v).toNat)
          case atStart => exact ⟨rfl, HB3.out⟩
          case round =>
            obtain ⟨rfl, h2⟩ := hrel
            have HB4 := Lib.hid h2
            clear h2
            go_wp2
            go_ret
            exact ⟨rfl, HB4.out⟩
theorem info_Blocks : (Try.prog.info? 41).map (fun i => (i.zero, i.size, i.bytes)) = some (some (.slice none 0 0), 1, 24) := by kernel_rfl
set_option maxHeartbeats 1000000 in
set_option maxRecDepth 100000 in
theorem flatBlocks_nil (w : World) : Calls Try.prog 79 #[.slice none 0 0] w fun e w' => e = .returned (.bool true) ∧ Below w.heap.size w w' := by
  obtain ⟨i1, hi1, hy0, hy1, hy2⟩ := info_parts info_Blocks
  go_enter Try.func79, Try.ntmps79
  go_wp2
  go_loopw [3] (fun v wr => v = .int .i64 0 ∧ Below w.heap.size w wr) (fun v _ => 0 - (intOf v).toNat)
  case atStart => exact ⟨rfl, Below.refl _ _⟩
  case round =>
    obtain ⟨rfl, h2⟩ := hrel
    have HB0 := Lib.hid h2
    clear h2
    go_wp2_with (at_make; go_must (refine wpList_make_full _ rfl _ _ _ rfl wr.heap.size 41 i1 _ 1 Try.underlying79 hi1 hy0 hy1 .i64 .i64 0 0 0 rfl rfl rfl rfl (by omega) (by simp only [maxLen]; omega) (Nat.le_refl _) ?_; intro w1 hown1 hgrow1))
    have HB : Hid (Below w.heap.size w w1) := HB0.out.grown hgrow1 HB0.out.size (fun k hk => by cases hk)
    clear hown1 hgrow1
    go_loopw [6] (fun v w2 => v = .int .i64 0 ∧ Below w.heap.size w w2) (fun v _ => 0 - (intOf v).toNat)
    case atStart => exact ⟨rfl, HB.out⟩
    case round =>
      obtain ⟨rfl, h2⟩ := hrel
      clear HB
      have HB := Lib.hid h2
      clear h2
      go_wp2
      go_loopw [9] (fun v w2 => v = .int .i64 0 ∧ Below w.heap.size w w2) (fun v _ => 0 - (intOf v).toNat)
      case atStart => exact ⟨rfl, HB.out⟩
      case round =>
        obtain ⟨rfl, h2⟩ := hrel
        have HB2 := Lib.hid h2
        clear h2
        go_wp2
        go_loopw [11] (fun v w2 => v = .int .i64 0 ∧ Below w.heap.size w w2) (fun v _ => 0 - (intOf v).toNat)
        case atStart => exact ⟨rfl, HB2.out⟩
        case round =>
          obtain ⟨rfl, h2⟩ := hrel
          have HB3 := Lib.hid h2
          clear h2
          go_wp2
          go_loopw [14] (fun v w2 => v = .int .i64 0 ∧ Below w.heap.size w w2) (fun v _ => 0 - (intOf v).toNat)
          case atStart => exact ⟨rfl, HB3.out⟩
          case round =>
            obtain ⟨rfl, h2⟩ := hrel
            have HB4 := Lib.hid h2
            clear h2
            go_wp2
            go_ret
            exact ⟨rfl, HB4.out⟩
theorem info_Funcs : (Try.prog.info? 142).map (fun i => (i.zero, i.size, i.bytes)) = some (some (.slice none 0 0), 1, 24) := by kernel_rfl
set_option maxHeartbeats 1000000 in
set_option maxRecDepth 100000 in
theorem flatFuncs_nil (w : World) : Calls Try.prog 80 #[.slice none 0 0] w fun e w' => e = .returned (.bool true) ∧ Below w.heap.size w w' := by
  obtain ⟨i1, hi1, hy0, hy1, hy2⟩ := info_parts info_Funcs
  go_enter Try.func80, Try.ntmps80
  go_wp2
  go_loopw [3] (fun v wr => v = .int .i64 0 ∧ Below w.heap.size w wr) (fun v _ => 0 - (intOf v).toNat)
  case atStart => exact ⟨rfl, Below.refl _ _⟩
  case round =>
    obtain ⟨rfl, h2⟩ := hrel
    have HB0 := Lib.hid h2
    clear h2
    go_wp2_with (at_make; go_must (refine wpList_make_full _ rfl _ _ _ rfl wr.heap.size 142 i1 _ 1 Try.underlying80 hi1 hy0 hy1 .i64 .i64 0 0 0 rfl rfl rfl rfl (by omega) (by simp only [maxLen]; omega) (Nat.le_refl _) ?_; intro w1 hown1 hgrow1))
    have HB : Hid (Below w.heap.size w w1) := HB0.out.grown hgrow1 HB0.out.size (fun k hk => by cases hk)
    clear hown1 hgrow1
    go_loopw [6] (fun v w2 => v = .int .i64 0 ∧ Below w.heap.size w w2) (fun v _ => 0 - (intOf v).toNat)
    case atStart => exact ⟨rfl, HB.out⟩
    case round =>
      obtain ⟨rfl, h2⟩ := hrel
      clear HB
      have HB := Lib.hid h2
      clear h2
      go_wp2
      go_loopw [9] (fun v w2 => v = .int .i64 0 ∧ Below w.heap.size w w2) (fun v _ => 0 - (intOf v).toNat)
      case atStart => exact ⟨rfl, HB.out⟩
      case round =>
        obtain ⟨rfl, h2⟩ := hrel
        have HB2 := Lib.hid h2
        clear h2
        go_wp2
        go_loopw [11] (fun v w2 => v = .int .i64 0 ∧ Below w.heap.size w w2) (fun v _ => 0 - (intOf v).toNat)
        case atStart => exact ⟨rfl, HB2.out⟩
        case round =>
          obtain ⟨rfl, h2⟩ := hrel
          have HB3 := Lib.hid h2
          clear h2
          go_wp2
          go_loopw [14] (fun v w2 => v = .int .i64 0 ∧ Below w.heap.size w w2) (fun v _ => 0 - (intOf v).toNat)
          case atStart => exact ⟨rfl, HB3.out⟩
          case round =>
            obtain ⟨rfl, h2⟩ := hrel
            have HB4 := Lib.hid h2
            clear h2
            go_wp2
            go_ret
            exact ⟨rfl, HB4.out⟩
theorem info_Targets : (Try.prog.info? 144).map (fun i => (i.zero, i.size, i.bytes)) = some (some (.slice none 0 0), 1, 24) := by kernel_rfl
set_option maxHeartbeats 1000000 in
set_option maxRecDepth 100000 in
theorem flatTargets_nil (w : World) : Calls Try.prog 81 #[.slice none 0 0] w fun e w' => e = .returned (.bool true) ∧ Below w.heap.size w w' := by
  obtain ⟨i1, hi1, hy0, hy1, hy2⟩ := info_parts info_Targets
  go_enter Try.func81, Try.ntmps81
  go_wp2
  go_loopw [3] (fun v wr => v = .int .i64 0 ∧ Below w.heap.size w wr) (fun v _ => 0 - (intOf v).toNat)
  case atStart => exact ⟨rfl, Below.refl _ _⟩
  case round =>
    obtain ⟨rfl, h2⟩ := hrel
    have HB0 := Lib.hid h2
    clear h2
    go_wp2_with (at_make; go_must (refine wpList_make_full _ rfl _ _ _ rfl wr.heap.size 144 i1 _ 1 Try.underlying81 hi1 hy0 hy1 .i64 .i64 0 0 0 rfl rfl rfl rfl (by omega) (by simp only [maxLen]; omega) (Nat.le_refl _) ?_; intro w1 hown1 hgrow1))
    have HB : Hid (Below w.heap.size w w1) := HB0.out.grown hgrow1 HB0.out.size (fun k hk => by cases hk)
    clear hown1 hgrow1
    go_loopw [6] (fun v w2 => v = .int .i64 0 ∧ Below w.heap.size w w2) (fun v _ => 0 - (intOf v).toNat)
    case atStart => exact ⟨rfl, HB.out⟩
    case round =>
      obtain ⟨rfl, h2⟩ := hrel
      clear HB
      have HB := Lib.hid h2
      clear h2
      go_wp2
      go_loopw [9] (fun v w2 => v = .int .i64 0 ∧ Below w.heap.size w w2) (fun v _ => 0 - (intOf v).toNat)
      case atStart => exact ⟨rfl, HB.out⟩
      case round =>
        obtain ⟨rfl, h2⟩ := hrel
        have HB2 := Lib.hid h2
        clear h2
        go_wp2
        go_loopw [11] (fun v w2 => v = .int .i64 0 ∧ Below w.heap.size w w2) (fun v _ => 0 - (intOf v).toNat)
        case atStart => exact ⟨rfl, HB2.out⟩
        case round =>
          obtain ⟨rfl, h2⟩ := hrel
          have HB3 := Lib.hid h2
          clear h2
          go_wp2
          go_loopw [14] (fun v w2 => v = .int .i64 0 ∧ Below w.heap.size w w2) (fun v _ => 0 - (intOf v).toNat)
          case atStart => exact ⟨rfl, HB3.out⟩
          case round =>
            obtain ⟨rfl, h2⟩ := hrel
            have HB4 := Lib.hid h2
            clear h2
            go_wp2
            go_ret
            exact ⟨rfl, HB4.out⟩
theorem info_Machines : (Try.prog.info? 149).map (fun i => (i.zero, i.size, i.bytes)) = some (some (.slice none 0 0), 1, 24) := by kernel_rfl
set_option maxHeartbeats 1000000 in
set_option maxRecDepth 100000 in
theorem flatMachines_nil (w : World) : Calls Try.prog 82 #[.slice none 0 0] w fun e w' => e = .returned (.bool true) ∧ Below w.heap.size w w' := by
  obtain ⟨i1, hi1, hy0, hy1, hy2⟩ := info_parts info_Machines
  go_enter Try.func82, Try.ntmps82
  go_wp2
  go_loopw [3] (fun v wr => v = .int .i64 0 ∧ Below w.heap.size w wr) (fun v _ => 0 - (intOf v).toNat)
  case atStart => exact ⟨rfl, Below.refl _ _⟩
  case round =>
    obtain ⟨rfl, h2⟩ := hrel
    have HB0 := Lib.hid h2
    clear h2
    go_wp2_with (at_make; go_must (refine wpList_make_full _ rfl _ _ _ rfl wr.heap.size 149 i1 _ 1 Try.underlying82 hi1 hy0 hy1 .i64 .i64 0 0 0 rfl rfl rfl rfl (by omega) (by simp only [maxLen]; omega) (Nat.le_refl _) ?_; intro w1 hown1 hgrow1))
    have HB : Hid (Below w.heap.size w w1) := HB0.out.grown hgrow1 HB0.out.size (fun k hk => by cases hk)
    clear hown1 hgrow1
    go_loopw [6] (fun v w2 => v = .int .i64 0 ∧ Below w.heap.size w w2) (fun v _ => 0 - (intOf v).toNat)
    case atStart => exact ⟨rfl, HB.out⟩
    case round =>
      obtain ⟨rfl, h2⟩ := hrel
      clear HB
      have HB := Lib.hid h2
      clear h2
      go_wp2
      go_loopw [9] (fun v w2 => v = .int .i64 0 ∧ Below w.heap.size w w2) (fun v _ => 0 - (intOf v).toNat)
      case atStart => exact ⟨rfl, HB.out⟩
      case round =>
        obtain ⟨rfl, h2⟩ := hrel
        have HB2 := Lib.hid h2
        clear h2
        go_wp2
        go_loopw [11] (fun v w2 => v = .int .i64 0 ∧ Below w.heap.size w w2) (fun v _ => 0 - (intOf v).toNat)
        case atStart => exact ⟨rfl, HB2.out⟩
        case round =>
          obtain ⟨rfl, h2⟩ := hrel
          have HB3 := Lib.hid h2
          clear h2
          go_wp2
          go_loopw [14] (fun v w2 => v = .int .i64 0 ∧ Below w.heap.size w w2) (fun v _ => 0 - (intOf v).toNat)
          case atStart => exact ⟨rfl, HB3.out⟩
          case round =>
            obtain ⟨rfl, h2⟩ := hrel
            have HB4 := Lib.hid h2
            clear h2
            go_wp2
            go_ret
            exact ⟨rfl, HB4.out⟩
theorem info_Locs : (Try.prog.info? 154).map (fun i => (i.zero, i.size, i.bytes)) = some (some (.slice none 0 0), 1, 24) := by kernel_rfl
set_option maxHeartbeats 1000000 in
set_option maxRecDepth 100000 in
theorem flatLocs_nil (w : World) : Calls Try.prog 83 #[.slice none 0 0] w fun e w' => e = .returned (.bool true) ∧ Below w.heap.size w w' := by
  obtain ⟨i1, hi1, hy0, hy1, hy2⟩ := info_parts info_Locs
  go_enter Try.func83, Try.ntmps83
  go_wp2
  go_loopw [3] (fun v wr => v = .int .i64 0 ∧ Below w.heap.size w wr) (fun v _ => 0 - (intOf v).toNat)
  case atStart => exact ⟨rfl, Below.refl _ _⟩
  case round =>
    obtain ⟨rfl, h2⟩ := hrel
    have HB0 := Lib.hid h2
    clear h2
    go_wp2_with (at_make; go_must (refine wpList_make_full _ rfl _ _ _ rfl wr.heap.size 154 i1 _ 1 Try.underlying83 hi1 hy0 hy1 .i64 .i64 0 0 0 rfl rfl rfl rfl (by omega) (by simp only [maxLen]; omega) (Nat.le_refl _) ?_; intro w1 hown1 hgrow1))
    have HB : Hid (Below w.heap.size w w1) := HB0.out.grown hgrow1 HB0.out.size (fun k hk => by cases hk)
    clear hown1 hgrow1
    go_loopw [6] (fun v w2 => v = .int .i64 0 ∧ Below w.heap.size w w2) (fun v _ => 0 - (intOf v).toNat)
    case atStart => exact ⟨rfl, HB.out⟩
    case round =>
      obtain ⟨rfl, h2⟩ := hrel
      clear HB
      have HB := Lib.hid h2
      clear h2
      go_wp2
      go_loopw [9] (fun v w2 => v = .int .i64 0 ∧ Below w.heap.size w w2) (fun v _ => 0 - (intOf v).toNat)
      case atStart => exact ⟨rfl, HB.out⟩
      case round =>
        obtain ⟨rfl, h2⟩ := hrel
        have HB2 := Lib.hid h2
        clear h2
        go_wp2
        go_loopw [11] (fun v w2 => v = .int .i64 0 ∧ Below w.heap.size w w2) (fun v _ => 0 - (intOf v).toNat)
        case atStart => exact ⟨rfl, HB2.out⟩
        case round =>
          obtain ⟨rfl, h2⟩ := hrel
          have HB3 := Lib.hid h2
          clear h2
          go_wp2
          go_loopw [14] (fun v w2 => v = .int .i64 0 ∧ Below w.heap.size w w2) (fun v _ => 0 - (intOf v).toNat)
          case atStart => exact ⟨rfl, HB3.out⟩
          case round =>
            obtain ⟨rfl, h2⟩ := hrel
            have HB4 := Lib.hid h2
            clear h2
            go_wp2
            go_ret
            exact ⟨rfl, HB4.out⟩
theorem info_Facts : (Try.prog.info? 158).map (fun i => (i.zero, i.size, i.bytes)) = some (some (.slice none 0 0), 1, 24) := by kernel_rfl
set_option maxHeartbeats 1000000 in
set_option maxRecDepth 100000 in
theorem flatFacts_nil (w : World) : Calls Try.prog 84 #[.slice none 0 0] w fun e w' => e = .returned (.bool true) ∧ Below w.heap.size w w' := by
  obtain ⟨i1, hi1, hy0, hy1, hy2⟩ := info_parts info_Facts
  go_enter Try.func84, Try.ntmps84
  go_wp2
  go_loopw [3] (fun v wr => v = .int .i64 0 ∧ Below w.heap.size w wr) (fun v _ => 0 - (intOf v).toNat)
  case atStart => exact ⟨rfl, Below.refl _ _⟩
  case round =>
    obtain ⟨rfl, h2⟩ := hrel
    have HB0 := Lib.hid h2
    clear h2
    go_wp2_with (at_make; go_must (refine wpList_make_full _ rfl _ _ _ rfl wr.heap.size 158 i1 _ 1 Try.underlying84 hi1 hy0 hy1 .i64 .i64 0 0 0 rfl rfl rfl rfl (by omega) (by simp only [maxLen]; omega) (Nat.le_refl _) ?_; intro w1 hown1 hgrow1))
    have HB : Hid (Below w.heap.size w w1) := HB0.out.grown hgrow1 HB0.out.size (fun k hk => by cases hk)
    clear hown1 hgrow1
    go_loopw [6] (fun v w2 => v = .int .i64 0 ∧ Below w.heap.size w w2) (fun v _ => 0 - (intOf v).toNat)
    case atStart => exact ⟨rfl, HB.out⟩
    case round =>
      obtain ⟨rfl, h2⟩ := hrel
      clear HB
      have HB := Lib.hid h2
      clear h2
      go_wp2
      go_loopw [9] (fun v w2 => v = .int .i64 0 ∧ Below w.heap.size w w2) (fun v _ => 0 - (intOf v).toNat)
      case atStart => exact ⟨rfl, HB.out⟩
      case round =>
        obtain ⟨rfl, h2⟩ := hrel
        have HB2 := Lib.hid h2
        clear h2
        go_wp2
        go_loopw [11] (fun v w2 => v = .int .i64 0 ∧ Below w.heap.size w w2) (fun v _ => 0 - (intOf v).toNat)
        case atStart => exact ⟨rfl, HB2.out⟩
        case round =>
          obtain ⟨rfl, h2⟩ := hrel
          have HB3 := Lib.hid h2
          clear h2
          go_wp2
          go_loopw [14] (fun v w2 => v = .int .i64 0 ∧ Below w.heap.size w w2) (fun v _ => 0 - (intOf v).toNat)
          case atStart => exact ⟨rfl, HB3.out⟩
          case round =>
            obtain ⟨rfl, h2⟩ := hrel
            have HB4 := Lib.hid h2
            clear h2
            go_wp2
            go_ret
            exact ⟨rfl, HB4.out⟩
theorem info_Edges : (Try.prog.info? 162).map (fun i => (i.zero, i.size, i.bytes)) = some (some (.slice none 0 0), 1, 24) := by kernel_rfl
set_option maxHeartbeats 1000000 in
set_option maxRecDepth 100000 in
theorem flatEdges_nil (w : World) : Calls Try.prog 85 #[.slice none 0 0] w fun e w' => e = .returned (.bool true) ∧ Below w.heap.size w w' := by
  obtain ⟨i1, hi1, hy0, hy1, hy2⟩ := info_parts info_Edges
  go_enter Try.func85, Try.ntmps85
  go_wp2
  go_loopw [3] (fun v wr => v = .int .i64 0 ∧ Below w.heap.size w wr) (fun v _ => 0 - (intOf v).toNat)
  case atStart => exact ⟨rfl, Below.refl _ _⟩
  case round =>
    obtain ⟨rfl, h2⟩ := hrel
    have HB0 := Lib.hid h2
    clear h2
    go_wp2_with (at_make; go_must (refine wpList_make_full _ rfl _ _ _ rfl wr.heap.size 162 i1 _ 1 Try.underlying85 hi1 hy0 hy1 .i64 .i64 0 0 0 rfl rfl rfl rfl (by omega) (by simp only [maxLen]; omega) (Nat.le_refl _) ?_; intro w1 hown1 hgrow1))
    have HB : Hid (Below w.heap.size w w1) := HB0.out.grown hgrow1 HB0.out.size (fun k hk => by cases hk)
    clear hown1 hgrow1
    go_loopw [6] (fun v w2 => v = .int .i64 0 ∧ Below w.heap.size w w2) (fun v _ => 0 - (intOf v).toNat)
    case atStart => exact ⟨rfl, HB.out⟩
    case round =>
      obtain ⟨rfl, h2⟩ := hrel
      clear HB
      have HB := Lib.hid h2
      clear h2
      go_wp2
      go_loopw [9] (fun v w2 => v = .int .i64 0 ∧ Below w.heap.size w w2) (fun v _ => 0 - (intOf v).toNat)
      case atStart => exact ⟨rfl, HB.out⟩
      case round =>
        obtain ⟨rfl, h2⟩ := hrel
        have HB2 := Lib.hid h2
        clear h2
        go_wp2
        go_loopw [11] (fun v w2 => v = .int .i64 0 ∧ Below w.heap.size w w2) (fun v _ => 0 - (intOf v).toNat)
        case atStart => exact ⟨rfl, HB2.out⟩
        case round =>
          obtain ⟨rfl, h2⟩ := hrel
          have HB3 := Lib.hid h2
          clear h2
          go_wp2
          go_loopw [14] (fun v w2 => v = .int .i64 0 ∧ Below w.heap.size w w2) (fun v _ => 0 - (intOf v).toNat)
          case atStart => exact ⟨rfl, HB3.out⟩
          case round =>
            obtain ⟨rfl, h2⟩ := hrel
            have HB4 := Lib.hid h2
            clear h2
            go_wp2
            go_ret
            exact ⟨rfl, HB4.out⟩
theorem info_Tiles : (Try.prog.info? 166).map (fun i => (i.zero, i.size, i.bytes)) = some (some (.slice none 0 0), 1, 24) := by kernel_rfl
set_option maxHeartbeats 1000000 in
set_option maxRecDepth 100000 in
theorem flatTiles_nil (w : World) : Calls Try.prog 86 #[.slice none 0 0] w fun e w' => e = .returned (.bool true) ∧ Below w.heap.size w w' := by
  obtain ⟨i1, hi1, hy0, hy1, hy2⟩ := info_parts info_Tiles
  go_enter Try.func86, Try.ntmps86
  go_wp2
  go_loopw [3] (fun v wr => v = .int .i64 0 ∧ Below w.heap.size w wr) (fun v _ => 0 - (intOf v).toNat)
  case atStart => exact ⟨rfl, Below.refl _ _⟩
  case round =>
    obtain ⟨rfl, h2⟩ := hrel
    have HB0 := Lib.hid h2
    clear h2
    go_wp2_with (at_make; go_must (refine wpList_make_full _ rfl _ _ _ rfl wr.heap.size 166 i1 _ 1 Try.underlying86 hi1 hy0 hy1 .i64 .i64 0 0 0 rfl rfl rfl rfl (by omega) (by simp only [maxLen]; omega) (Nat.le_refl _) ?_; intro w1 hown1 hgrow1))
    have HB : Hid (Below w.heap.size w w1) := HB0.out.grown hgrow1 HB0.out.size (fun k hk => by cases hk)
    clear hown1 hgrow1
    go_loopw [6] (fun v w2 => v = .int .i64 0 ∧ Below w.heap.size w w2) (fun v _ => 0 - (intOf v).toNat)
    case atStart => exact ⟨rfl, HB.out⟩
    case round =>
      obtain ⟨rfl, h2⟩ := hrel
      clear HB
      have HB := Lib.hid h2
      clear h2
      go_wp2
      go_loopw [9] (fun v w2 => v = .int .i64 0 ∧ Below w.heap.size w w2) (fun v _ => 0 - (intOf v).toNat)
      case atStart => exact ⟨rfl, HB.out⟩
      case round =>
        obtain ⟨rfl, h2⟩ := hrel
        have HB2 := Lib.hid h2
        clear h2
        go_wp2
        go_loopw [11] (fun v w2 => v = .int .i64 0 ∧ Below w.heap.size w w2) (fun v _ => 0 - (intOf v).toNat)
        case atStart => exact ⟨rfl, HB2.out⟩
        case round =>
          obtain ⟨rfl, h2⟩ := hrel
          have HB3 := Lib.hid h2
          clear h2
          go_wp2
          go_loopw [14] (fun v w2 => v = .int .i64 0 ∧ Below w.heap.size w w2) (fun v _ => 0 - (intOf v).toNat)
          case atStart => exact ⟨rfl, HB3.out⟩
          case round =>
            obtain ⟨rfl, h2⟩ := hrel
            have HB4 := Lib.hid h2
            clear h2
            go_wp2
            go_ret
            exact ⟨rfl, HB4.out⟩
theorem info_Calls : (Try.prog.info? 172).map (fun i => (i.zero, i.size, i.bytes)) = some (some (.slice none 0 0), 1, 24) := by kernel_rfl
set_option maxHeartbeats 1000000 in
set_option maxRecDepth 100000 in
theorem flatCalls_nil (w : World) : Calls Try.prog 87 #[.slice none 0 0] w fun e w' => e = .returned (.bool true) ∧ Below w.heap.size w w' := by
  obtain ⟨i1, hi1, hy0, hy1, hy2⟩ := info_parts info_Calls
  go_enter Try.func87, Try.ntmps87
  go_wp2
  go_loopw [3] (fun v wr => v = .int .i64 0 ∧ Below w.heap.size w wr) (fun v _ => 0 - (intOf v).toNat)
  case atStart => exact ⟨rfl, Below.refl _ _⟩
  case round =>
    obtain ⟨rfl, h2⟩ := hrel
    have HB0 := Lib.hid h2
    clear h2
    go_wp2_with (at_make; go_must (refine wpList_make_full _ rfl _ _ _ rfl wr.heap.size 172 i1 _ 1 Try.underlying87 hi1 hy0 hy1 .i64 .i64 0 0 0 rfl rfl rfl rfl (by omega) (by simp only [maxLen]; omega) (Nat.le_refl _) ?_; intro w1 hown1 hgrow1))
    have HB : Hid (Below w.heap.size w w1) := HB0.out.grown hgrow1 HB0.out.size (fun k hk => by cases hk)
    clear hown1 hgrow1
    go_loopw [6] (fun v w2 => v = .int .i64 0 ∧ Below w.heap.size w w2) (fun v _ => 0 - (intOf v).toNat)
    case atStart => exact ⟨rfl, HB.out⟩
    case round =>
      obtain ⟨rfl, h2⟩ := hrel
      clear HB
      have HB := Lib.hid h2
      clear h2
      go_wp2
      go_loopw [9] (fun v w2 => v = .int .i64 0 ∧ Below w.heap.size w w2) (fun v _ => 0 - (intOf v).toNat)
      case atStart => exact ⟨rfl, HB.out⟩
      case round =>
        obtain ⟨rfl, h2⟩ := hrel
        have HB2 := Lib.hid h2
        clear h2
        go_wp2
        go_loopw [11] (fun v w2 => v = .int .i64 0 ∧ Below w.heap.size w w2) (fun v _ => 0 - (intOf v).toNat)
        case atStart => exact ⟨rfl, HB2.out⟩
        case round =>
          obtain ⟨rfl, h2⟩ := hrel
          have HB3 := Lib.hid h2
          clear h2
          go_wp2
          go_loopw [14] (fun v w2 => v = .int .i64 0 ∧ Below w.heap.size w w2) (fun v _ => 0 - (intOf v).toNat)
          case atStart => exact ⟨rfl, HB3.out⟩
          case round =>
            obtain ⟨rfl, h2⟩ := hrel
            have HB4 := Lib.hid h2
            clear h2
            go_wp2
            go_ret
            exact ⟨rfl, HB4.out⟩
end Go.Proofs.Ytcofoeenfohpnaa
