/-
  Package read's line of an end (written by gen/rdm.py). Conditions: the library's tables hold what the text lays.
  What a Builder of the call's own holds behind each write. Conditions: those that each theorem states.
  A builder that holds these bytes. No condition beyond those that each theorem states.
-/
import Derived.Test.YthiipgahbmoiiaaGreatDoorPk25
import Derived.Test.YthiipgahbmoiiaaGreatDoorPk4
import Derived.Test.YthiipgahbmoiiaaGreatDoorPk11
import Derived.Lib.Builder
import Derived.Lib.AppendStr
import Derived.Lib.Strings
import Derived.Lib.Walk
import Derived.Laws.Externs
import Derived.Lib.OthersKept
import Derived.Lib.OwnKind
import Derived.OwnWalk
namespace Go.Proofs.YthiipgahbmoiiaaGreatDoor
open Go.RowKit

/-- The words of an end's line. -/
def termT (t : Tt) : List ByteArray :=
  if t.kind = 1 then [rarrQ, itS t.t0]
  else if t.kind = 2 then [vaT t.a, rarrQ, itS t.t0, itS t.t1]
  else if t.kind = 3 then [⟨#[114, 101, 116, 117, 114, 110]⟩] ++ (needsL t).map vaT
  else [⟨#[116, 114, 97, 112]⟩]
structure TmRq (t : Tt) : Prop where
  a : R64q t.a
  t0 : R64q t.t0
  t1 : R64q t.t1
theorem needs_few (t : Tt) : (needsL t).length ≤ 1 ∧ ∀ v ∈ needsL t, v = t.a := by
  unfold needsL
  split
  · unfold givenL
    refine ⟨Nat.le_trans (List.length_filter_le _ _) (by simp), fun v hv => ?_⟩
    have := (List.mem_filter.1 hv).1
    simpa using this
  · exact ⟨by simp, fun v hv => by simp at hv⟩
set_option maxHeartbeats 4000000 in
set_option maxRecDepth 100000 in
theorem rowEnd_jump (t : Tt) (w : World) (ho : t.kind = 1) (hR : TmRq t) (hP : PowW w) :
    Calls Tryz.prog 63 #[termV t] w fun e w' => e = .returned (.string (rowT (termT t))) ∧ Below w.heap.size w w' := by
  have E : termT t = ([.tx ⟨#[226, 134, 146]⟩, .nm t.t0] : List Wq).flatMap Wq.bs := by
    unfold termT
    rw [if_pos ho]
    rfl
  have HB0 : Hid (Below w.heap.size w (w.alloc (.cells (termC t) 50))) := (Below.refl _ w).alloc (Nat.le_refl _) _
  have hx : ∀ y ∈ ([.tx ⟨#[226, 134, 146]⟩, .nm t.t0] : List Wq), y.ok (w.alloc (.cells (termC t) 50)) := by
    intro y hy
    simp only [List.mem_cons, List.not_mem_nil, or_false] at hy
    rcases hy with rfl | rfl
    · (show _ ≤ 50; decide)
    · exact hR.t0
  have R : Hid (Calls Tryz.prog 61 #[.slice (some ⟨((w.alloc (.cells (termC t) 50))).heap.size, 0, none⟩) 2 2] ((w.alloc (.cells (termC t) 50)).alloc (.cells #[.iface 9 (.string ⟨#[226, 134, 146]⟩), .iface 3 (.int .i64 t.t0)] 20)) fun e w' => e = .returned (.string (rowT (([.tx ⟨#[226, 134, 146]⟩, .nm t.t0] : List Wq).flatMap Wq.bs))) ∧ Below ((w.alloc (.cells (termC t) 50))).heap.size (w.alloc (.cells (termC t) 50)) w') :=
    rowQ_lit [.tx ⟨#[226, 134, 146]⟩, .nm t.t0] (w.alloc (.cells (termC t) 50)) _ 2 rfl (Below.refl _ _) (by simp [Wq.bs]) (by simp) (by simp [Wq.bs]) hx (hP.below HB0.out)
  rw [← E] at R
  have SX := termC.eq_1 t
  rw [SX] at R HB0
  simp only [szQ] at R
  unfold termV
  generalize rowT (termT t) = res at *
  clear E hx hP SX
  rw [ho] at R HB0 ⊢
  clear ho hR
  go_enter Tryz.func63, Tryz.ntmps63
  go_wp2_with fail
  refine R.out.mono ?_
  rintro e w21 ⟨rfl, hb21⟩
  go_wp2
  go_ret
  exact ⟨rfl, HB0.out.trans (hb21.mono (by first | omega | (simp; omega) | simp))⟩
set_option maxHeartbeats 4000000 in
set_option maxRecDepth 100000 in
theorem rowEnd_branch (t : Tt) (w : World) (ho : t.kind = 2) (hR : TmRq t) (hP : PowW w) :
    Calls Tryz.prog 63 #[termV t] w fun e w' => e = .returned (.string (rowT (termT t))) ∧ Below w.heap.size w w' := by
  have E : termT t = ([.vs [t.a] (some ⟨((w.alloc (.cells (termC t) 50))).heap.size, 0, none⟩) 1, .tx ⟨#[226, 134, 146]⟩, .nm t.t0, .nm t.t1] : List Wq).flatMap Wq.bs := by
    unfold termT
    rw [if_neg (by omega), if_pos ho]
    rfl
  have HB0 : Hid (Below w.heap.size w ((w.alloc (.cells (termC t) 50)).alloc (.cells #[.int .i64 t.a] 3))) := ((Below.refl _ w).alloc (Nat.le_refl _) _).alloc (by simp) _
  have hx : ∀ y ∈ ([.vs [t.a] (some ⟨((w.alloc (.cells (termC t) 50))).heap.size, 0, none⟩) 1, .tx ⟨#[226, 134, 146]⟩, .nm t.t0, .nm t.t1] : List Wq), y.ok ((w.alloc (.cells (termC t) 50)).alloc (.cells #[.int .i64 t.a] 3)) := by
    intro y hy
    simp only [List.mem_cons, List.not_mem_nil, or_false] at hy
    rcases hy with rfl | rfl | rfl | rfl
    · exact ⟨r64_1 hR.a, ints1 (Below.refl _ _) rfl⟩
    · (show _ ≤ 50; decide)
    · exact hR.t0
    · exact hR.t1
  have R : Hid (Calls Tryz.prog 61 #[.slice (some ⟨(((w.alloc (.cells (termC t) 50)).alloc (.cells #[.int .i64 t.a] 3))).heap.size, 0, none⟩) 4 4] (((w.alloc (.cells (termC t) 50)).alloc (.cells #[.int .i64 t.a] 3)).alloc (.cells #[.iface 100 (.slice (some ⟨((w.alloc (.cells (termC t) 50))).heap.size, 0, none⟩) 1 1), .iface 9 (.string ⟨#[226, 134, 146]⟩), .iface 3 (.int .i64 t.t0), .iface 3 (.int .i64 t.t1)] 20)) fun e w' => e = .returned (.string (rowT (([.vs [t.a] (some ⟨((w.alloc (.cells (termC t) 50))).heap.size, 0, none⟩) 1, .tx ⟨#[226, 134, 146]⟩, .nm t.t0, .nm t.t1] : List Wq).flatMap Wq.bs))) ∧ Below (((w.alloc (.cells (termC t) 50)).alloc (.cells #[.int .i64 t.a] 3))).heap.size ((w.alloc (.cells (termC t) 50)).alloc (.cells #[.int .i64 t.a] 3)) w') :=
    rowQ_lit [.vs [t.a] (some ⟨((w.alloc (.cells (termC t) 50))).heap.size, 0, none⟩) 1, .tx ⟨#[226, 134, 146]⟩, .nm t.t0, .nm t.t1] ((w.alloc (.cells (termC t) 50)).alloc (.cells #[.int .i64 t.a] 3)) _ 4 rfl (Below.refl _ _) (by simp [Wq.bs]) (by simp) (by simp [Wq.bs]) hx (hP.below HB0.out)
  rw [← E] at R
  have SX := termC.eq_1 t
  rw [SX] at R HB0
  simp only [szQ] at R
  unfold termV
  generalize rowT (termT t) = res at *
  clear E hx hP SX
  rw [ho] at R HB0 ⊢
  clear ho hR
  go_enter Tryz.func63, Tryz.ntmps63
  go_wp2_with fail
  refine R.out.mono ?_
  rintro e w21 ⟨rfl, hb21⟩
  go_wp2
  go_ret
  exact ⟨rfl, HB0.out.trans (hb21.mono (by first | omega | (simp; omega) | simp))⟩
set_option maxHeartbeats 4000000 in
set_option maxRecDepth 100000 in
theorem rowEnd_trap (t : Tt) (w : World) (ho : ¬ t.kind = 1 ∧ ¬ t.kind = 2 ∧ ¬ t.kind = 3) (_hR : TmRq t) (hP : PowW w) :
    Calls Tryz.prog 63 #[termV t] w fun e w' => e = .returned (.string (rowT (termT t))) ∧ Below w.heap.size w w' := by
  have E : termT t = ([.tx ⟨#[116, 114, 97, 112]⟩] : List Wq).flatMap Wq.bs := by
    unfold termT
    rw [if_neg ho.1, if_neg ho.2.1, if_neg ho.2.2]
    rfl
  have HB0 : Hid (Below w.heap.size w (w.alloc (.cells (termC t) 50))) := (Below.refl _ w).alloc (Nat.le_refl _) _
  have hx : ∀ y ∈ ([.tx ⟨#[116, 114, 97, 112]⟩] : List Wq), y.ok (w.alloc (.cells (termC t) 50)) := by
    intro y hy
    simp only [List.mem_cons, List.not_mem_nil, or_false] at hy
    rcases hy with rfl
    · (show _ ≤ 50; decide)
  have R : Hid (Calls Tryz.prog 61 #[.slice (some ⟨((w.alloc (.cells (termC t) 50))).heap.size, 0, none⟩) 1 1] ((w.alloc (.cells (termC t) 50)).alloc (.cells #[.iface 9 (.string ⟨#[116, 114, 97, 112]⟩)] 20)) fun e w' => e = .returned (.string (rowT (([.tx ⟨#[116, 114, 97, 112]⟩] : List Wq).flatMap Wq.bs))) ∧ Below ((w.alloc (.cells (termC t) 50))).heap.size (w.alloc (.cells (termC t) 50)) w') :=
    rowQ_lit [.tx ⟨#[116, 114, 97, 112]⟩] (w.alloc (.cells (termC t) 50)) _ 1 rfl (Below.refl _ _) (by simp [Wq.bs]) (by simp) (by simp [Wq.bs]) hx (hP.below HB0.out)
  rw [← E] at R
  have SX := termC.eq_1 t
  rw [SX] at R HB0
  simp only [szQ] at R
  unfold termV
  generalize rowT (termT t) = res at *
  clear E hx hP SX
  obtain ⟨h1, h2, h3⟩ := ho
  go_enter Tryz.func63, Tryz.ntmps63
  go_wp2_with fail
  refine R.out.mono ?_
  rintro e w21 ⟨rfl, hb21⟩
  go_wp2
  go_ret
  exact ⟨rfl, HB0.out.trans (hb21.mono (by first | omega | (simp; omega) | simp))⟩
set_option maxHeartbeats 4000000 in
set_option maxRecDepth 100000 in
theorem rowEnd_ret (t : Tt) (w : World) (ho : t.kind = 3) (hR : TmRq t) (hP : PowW w) :
    Calls Tryz.prog 63 #[termV t] w fun e w' => e = .returned (.string (rowT (termT t))) ∧ Below w.heap.size w w' := by
  have E : termT t = [⟨#[114, 101, 116, 117, 114, 110]⟩] ++ (needsL t).map vaT := by
    unfold termT
    rw [if_neg (by omega), if_neg (by omega), if_pos ho]
  have HB0 : Hid (Below w.heap.size w (w.alloc (.cells (termC t) 50))) := (Below.refl _ w).alloc (Nat.le_refl _) _
  have N := Lib.hid (needs_any t (w.alloc (.cells (termC t) 50)))
  obtain ⟨hn1, hn2⟩ := needs_few t
  have R : Hid (∀ (a : Option Addr) (c : Nat) (W : World), IntsW W a (needsL t) → Below w.heap.size w W → Calls Tryz.prog 61 #[.slice (some ⟨W.heap.size, 0, none⟩) 2 2] (W.alloc (.cells #[.iface 9 (.string ⟨#[114, 101, 116, 117, 114, 110]⟩), .iface 100 (.slice a (needsL t).length c)] 20)) fun e w' => e = .returned (.string (rowT (termT t))) ∧ Below W.heap.size W w') := fun a c W hI hb => by
    rw [E]
    have := rowQ_lit [.tx ⟨#[114, 101, 116, 117, 114, 110]⟩, .vs (needsL t) a c] W (W.alloc (.cells #[.iface 9 (.string ⟨#[114, 101, 116, 117, 114, 110]⟩), .iface 100 (.slice a (needsL t).length c)] 20)) 2 rfl (Below.refl _ _) (by simp [Wq.bs]) (by simp) (by simp [Wq.bs]; omega) (by
      intro y hy
      simp only [List.mem_cons, List.not_mem_nil, or_false] at hy
      rcases hy with rfl | rfl
      · show _ ≤ 50
        decide
      · exact ⟨fun v hv => by rw [hn2 v hv]; exact hR.a, hI⟩) (hP.below hb)
    simpa [Wq.bs] using this
  have SX := termC.eq_1 t
  rw [SX] at N HB0
  unfold termV at N ⊢
  generalize rowT (termT t) = res at *
  generalize needsL t = nl at *
  rw [ho] at N HB0 ⊢
  clear E hP SX hR hn1 hn2 ho
  go_enter Tryz.func63, Tryz.ntmps63
  go_wp2_with fail
  refine N.out.mono ?_
  rintro e w1 ⟨v, rfl, hown, hb1⟩
  obtain ⟨a, c, rfl, _, hI⟩ := OwnI.shape hown
  have HB1 : Hid (Below w.heap.size w w1) := HB0.out.trans (hb1.mono HB0.out.size)
  have R1 := Lib.hid (R.out a c w1 hI HB1.out)
  clear hown hb1 hI R N HB0
  go_wp2_with fail
  refine R1.out.mono ?_
  rintro e w2 ⟨rfl, hb2⟩
  go_wp2
  go_ret
  exact ⟨rfl, HB1.out.trans (hb2.mono HB1.out.size)⟩
theorem rowEnd_any (t : Tt) (w : World) (hR : TmRq t) (hP : PowW w) : Calls Tryz.prog 63 #[termV t] w fun e w' => e = .returned (.string (rowT (termT t))) ∧ Below w.heap.size w w' := by
  by_cases h1 : t.kind = 1
  · exact rowEnd_jump t w h1 hR hP
  by_cases h2 : t.kind = 2
  · exact rowEnd_branch t w h2 hR hP
  by_cases h3 : t.kind = 3
  · exact rowEnd_ret t w h3 hR hP
  · exact rowEnd_trap t w ⟨h1, h2, h3⟩ hR hP
end Go.Proofs.YthiipgahbmoiiaaGreatDoor
namespace Go.Proofs.YthiipgahbmoiiaaGreatDoor
open Go.RowKit

theorem bsize : (Tryz.prog.info? 94).map (·.size) = some 2 := by kernel_rfl
theorem byte_info : (Tryz.prog.info? 5).map (fun i => (i.zero, i.size, i.bytes)) = some (some (.int .u8 0), 1, 1) := by kernel_rfl
theorem blies : liesAt Tryz.prog Tryz.prog.depth 94 (2 / Tryz.prog.cellsOf 94) 0 94 1 = true := by kernel_rfl

set_option maxHeartbeats 1000000 in
set_option maxRecDepth 100000 in
theorem check_used (b : Nat) (w : World) (h0 : w.cell? ⟨b, 0, none⟩ = some (.pointer (some ⟨b, 0, none⟩))) :
    Calls Tryz.prog 105 #[.pointer (some ⟨b, 0, none⟩)] w fun e w' => e = .returned (.tuple #[]) ∧ w' = w := by
  obtain ⟨j, hj, _⟩ := Option.map_eq_some_iff.1 bsize
  go_enter Tryz.func105, Tryz.ntmps105
  go_wp2
  rw [Lib.run_neq_ptr_same w _ Tryz.underlying92 hj]
  go_wp2
  go_end0
  exact ⟨rfl, rfl⟩
set_option maxHeartbeats 1000000 in
set_option maxRecDepth 100000 in
theorem check_fresh (b : Nat) (w : World) (h0 : w.cell? ⟨b, 0, none⟩ = some (.pointer none)) (hsh : w.shape? b = some (94, 2)) (hfz : w.frozen? ⟨b, 0, none⟩ = false) :
    Calls Tryz.prog 105 #[.pointer (some ⟨b, 0, none⟩)] w fun e w' => e = .returned (.tuple #[]) ∧ w' = w.setCell ⟨b, 0, none⟩ (.pointer (some ⟨b, 0, none⟩)) := by
  obtain ⟨j, hj, hjs⟩ := Option.map_eq_some_iff.1 bsize
  go_enter Tryz.func105, Tryz.ntmps105
  go_wp2
  rw [Lib.run_to_unsafe w ⟨b, 0, none⟩ Tryz.underlying92 Tryz.underlying186 hj (by rw [hjs]; decide) hsh (Nat.zero_lt_succ 1)]
  simp only [Result.andThen]
  rw [Oper.upon_value]
  go_wp2
  rw [run_callFunc_extern Tryz.func146 (by kernel_rfl) (by kernel_rfl) (by kernel_rfl) (e := Extern.AbiNoEscape.same) (by kernel_rfl)]
  rw [Lib.run_noEscape]
  simp only [Result.andThen]
  rw [Oper.upon_value]
  go_wp2
  rw [Lib.run_from_unsafe w ⟨b, 0, none⟩ Tryz.underlying186 Tryz.underlying92 hj hsh blies]
  simp only [Result.andThen]
  rw [Oper.upon_value]
  go_wp2
  go_end0
  exact ⟨rfl, rfl⟩
theorem check_any (B b : Nat) (bs : List Value) (w : World) (h : Lib.IsBuilder 94 5 B b bs w) :
    Calls Tryz.prog 105 #[.pointer (some ⟨b, 0, none⟩)] w fun e w' => e = .returned (.tuple #[]) ∧ (Lib.BuilderAt 94 5 B b (.pointer (some ⟨b, 0, none⟩)) bs w' ∧ Below B w w' ∧ Lib.OthersKept 5 (some b) w w') := by
  rcases h with h | h
  · refine (check_fresh b w h.cell0 h.shape h.frozen0).mono ?_
    rintro e w' ⟨rfl, rfl⟩
    exact ⟨rfl, h.used _, (Below.refl B w).setCell (p := ⟨b, 0, none⟩) h.1 _, (Lib.OthersKept.refl _ _ w).setCell ⟨b, 0, none⟩ rfl _⟩
  · refine (check_used b w h.cell0).mono ?_
    rintro e w' ⟨rfl, rfl⟩
    exact ⟨rfl, h, Below.refl B _, Lib.OthersKept.refl _ _ _⟩


set_option maxHeartbeats 2000000 in
set_option maxRecDepth 100000 in
theorem string_any (B b : Nat) (bs : List Value) (s : ByteArray) (w : World) (h : Lib.IsBuilder 94 5 B b bs w) (hlen : bs.length + s.size ≤ 140737488355328) (hBw : B ≤ w.heap.size) :
    Calls Tryz.prog 60 #[.pointer (some ⟨b, 0, none⟩), .string s] w fun e w' => e = .returned (.tuple #[.int .i64 s.size, .nilIface]) ∧ (Lib.BuilderAt 94 5 B b (.pointer (some ⟨b, 0, none⟩)) (bs ++ Lib.strCells s) w' ∧ Below B w w' ∧ Lib.OthersKept 5 (some b) w w') := by
  obtain ⟨i0, hi, hz0, hz1, hz2⟩ := info_parts byte_info
  go_enter Tryz.func60, Tryz.ntmps60
  go_wp2_with (go_at_call 105; refine (check_any B b bs _ h).mono ?_)
  rintro e w1 ⟨rfl, h1, hb1, hk1⟩
  obtain ⟨hB, v, hbk, hown, hne⟩ := h1
  have c0 : w1.cell? ⟨b, 0, none⟩ = some (.pointer (some ⟨b, 0, none⟩)) := by rw [Lib.cell_of_heap hbk]; rfl
  have c1 : w1.cell? ⟨b, 1, none⟩ = some v := by rw [Lib.cell_of_heap hbk]; rfl
  go_wp2_with (at_builtin; refine Lib.wpList_append_own_string _ rfl _ _ 74 9 rfl B 5 i0 Tryz.underlying74 Tryz.underlying9 hi hz0 hz1 hz2 _ _ _ rfl hown s rfl ?c3 ?c4 ?c5 ?_)
  case c3 => unfold maxLen; omega
  case c4 => omega
  case c5 => have := hb1.size; omega
  intro v' w2 hown' hgrow _
  have hlt : b < w1.heap.size := by
    rcases Nat.lt_or_ge b w1.heap.size with h' | h'
    · exact h'
    · simp [Array.getElem?_eq_none h'] at hbk
  have hb2 : w2.heap[b]? = some (.cells #[.pointer (some ⟨b, 0, none⟩), v] 94 (0, 0)) := by
    rw [hgrow.block b hlt (fun e => hne e.symm)]
    exact hbk
  have d0 : w2.cell? ⟨b, 0, none⟩ = some (.pointer (some ⟨b, 0, none⟩)) := by rw [Lib.cell_of_heap hb2]; rfl
  have d1 : w2.cell? ⟨b, 1, none⟩ = some v := by rw [Lib.cell_of_heap hb2]; rfl
  have f1 : w2.frozen? ⟨b, 1, none⟩ = false := Lib.frozen_of_heap hb2 1
  obtain ⟨ao, n', cap, rfl⟩ : ∃ ao n' cap, v' = .slice ao n' cap := by
    rcases hown'.2 with ⟨hv, _⟩ | ⟨g, cap, cur, hv, _⟩
    · exact ⟨_, _, _, hv⟩
    · exact ⟨_, _, _, hv⟩
  go_wp2
  go_ret2
  refine ⟨rfl, ?_, ?_, (hk1.grown hgrow (Lib.ownsRow_kind hown)).setCell ⟨b, 1, none⟩ rfl _⟩
  · exact Lib.BuilderAt.put (T := 94) (e := 5) hB hb2 (bs' := bs ++ Lib.strCells s) (by simpa [Lib.strCells_length] using hown') (by decide)
  · exact (hb1.grown hgrow (by have := hb1.size; omega) (fun k hk => (hown.lt k hk).1)).setCell (p := ⟨b, 1, none⟩) hB _
end Go.Proofs.YthiipgahbmoiiaaGreatDoor
namespace Go.Proofs.YthiipgahbmoiiaaGreatDoor
open Go.RowKit

/-- The builder in box b holds these bytes. -/
def BuL (n₀ b : Nat) (l : List UInt8) (W : World) : Prop := Lib.BuilderAt 94 5 n₀ b (.pointer (some ⟨b, 0, none⟩)) (Lib.byteCells l) W
theorem BuL.heap {n₀ b : Nat} {l : List UInt8} {W : World} (h : BuL n₀ b l W) : ∃ cs, W.heap[b]? = some (Obj.cells cs 94 (0, 0)) := by
  obtain ⟨_, v, hb, _⟩ := h
  exact ⟨_, hb⟩
theorem BuL.below {n₀ b : Nat} {l : List UInt8} {W W' : World} (h : BuL n₀ b l W) (hb : Below W.heap.size W W') : BuL n₀ b l W' := by
  have key : ∀ (k : Nat) (cs : Array Value) (t : TypeId) (fz : Nat × Nat), W.heap[k]? = some (Obj.cells cs t fz) → W'.heap[k]? = some (Obj.cells cs t fz) := fun k cs t fz hk =>
    (hb.block k (Array.getElem?_eq_some_iff.1 hk).1).trans hk
  obtain ⟨hB, v, hb, ho, hne⟩ := h
  refine ⟨hB, v, key _ _ _ _ hb, ?_, hne⟩
  obtain ⟨h1, h2⟩ := ho
  refine ⟨h1, ?_⟩
  rcases h2 with h2 | ⟨g, cap, cur, e, hBg, hh, r⟩
  · exact .inl h2
  · exact .inr ⟨g, cap, cur, e, hBg, key _ _ _ _ hh, r⟩
end Go.Proofs.YthiipgahbmoiiaaGreatDoor
