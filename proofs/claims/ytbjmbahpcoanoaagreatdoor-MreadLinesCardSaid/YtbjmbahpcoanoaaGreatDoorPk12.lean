/-
  Package mread's lines of instructions and of ends (written by gen/mdr.py). Conditions: the library's tables and the Ops' names hold what the text lays.
-/
import Derived.Test.YtbjmbahpcoanoaaGreatDoorPk11
import Derived.Test.YtbjmbahpcoanoaaGreatDoorPk6
import Derived.Deep.RegionHeld3
import Derived.Deep.CutRange
namespace Go.Proofs.YtbjmbahpcoanoaaGreatDoor
open Go.RowKit

/-- The Ops' names. -/
def opNameL : List ByteArray := [⟨#[]⟩, ⟨#[99, 111, 110, 115, 116]⟩, ⟨#[97, 100, 100]⟩, ⟨#[115, 117, 98]⟩, ⟨#[109, 117, 108]⟩, ⟨#[100, 105, 118]⟩, ⟨#[97, 110, 100]⟩, ⟨#[111, 114]⟩, ⟨#[120, 111, 114]⟩, ⟨#[108, 101, 115, 115]⟩, ⟨#[115, 97, 109, 101]⟩, ⟨#[108, 111, 97, 100]⟩]
def opNm (o : Int) : ByteArray := opNameL.getD o.toNat ⟨#[]⟩
theorem opNm_len (o : Int) : (opNm o).size ≤ 5 := by
 unfold opNm
 by_cases h : o.toNat < 12
 · have : ∀ n, n < 12 → (opNameL.getD n ⟨#[]⟩).size ≤ 5 := by decide
   exact this _ h
 · rw [List.getD_eq_getElem?_getD, List.getElem?_eq_none (by show opNameL.length ≤ _; have : opNameL.length = 12 := rfl; omega)]
   decide
def NamesW (w : World) : Prop := 1 < w.heap.size ∧ ∀ i : Nat, i < 12 → w.cell? ⟨1, i, none⟩ = some (.string (opNameL.getD i ⟨#[]⟩))
theorem NamesW.below {w w' : World} (h : NamesW w) (hb : Below w.heap.size w w') : NamesW w' := ⟨Nat.lt_of_lt_of_le h.1 hb.size, fun i hi => (hb.cell h.1).trans (h.2 i hi)⟩
def larr : ByteArray := ⟨#[226, 134, 144]⟩
def rarr : ByteArray := ⟨#[226, 134, 146]⟩
/-- The words of an instruction's line, of an end's. -/
def insWo (x : Ii) : List Wo :=
 if x.op = 1 then [.rg x.dst, .tx larr, .tx (opNm x.op), .nm x.imm]
 else if x.op = 11 then [.rg x.dst, .tx larr, .tx (opNm x.op), .rg x.a, .nm x.imm]
 else if x.op = 12 then [.tx ⟨#[115, 116, 111, 114, 101]⟩, .rg x.a, .nm x.imm, .rg x.b]
 else if x.op = 13 then [.tx ⟨#[99, 97, 108, 108]⟩, .nm x.callee, .nm x.many]
 else if x.op = 15 then [.rg x.dst, .tx larr, .rg x.a]
 else if x.op = 16 then [.sl x.imm, .tx larr, .rg x.a]
 else if x.op = 17 then [.rg x.dst, .tx larr, .sl x.imm]
 else [.rg x.dst, .tx larr, .tx (opNm x.op), .rg x.a, .rg x.b]
def tmWo (t : Tt) : List Wo :=
 if t.kind = 1 then [.tx rarr, .nm t.t0]
 else if t.kind = 2 then [.rg t.a, .tx rarr, .nm t.t0, .nm t.t1]
 else if t.kind = 3 then (if t.a = -1 then [.tx ⟨#[114, 101, 116, 117, 114, 110]⟩] else [.tx ⟨#[114, 101, 116, 117, 114, 110]⟩, .rg t.a])
 else [.tx ⟨#[116, 114, 97, 112]⟩]
def R64 (n : Int) : Prop := -9223372036854775808 ≤ n ∧ n ≤ 9223372036854775807
structure InsR (x : Ii) : Prop where
 dst : R64 x.dst
 a : R64 x.a
 b : R64 x.b
 imm : R64 x.imm
 callee : R64 x.callee
 many : R64 x.many
structure TmR (t : Tt) : Prop where
 a : R64 t.a
 t0 : R64 t.t0
 t1 : R64 t.t1
theorem row_lit (l : List Wo) (W V : World) (hV : Below (W.alloc (.cells (l.map Wo.v).toArray 20)).heap.size (W.alloc (.cells (l.map Wo.v).toArray 20)) V) (hl : 0 < l.length) (hl2 : l.length ≤ 10) (hx : ∀ x ∈ l, x.ok) (hP : PowW W) :
    Calls Tryz.prog 53 #[.slice (some ⟨W.heap.size, 0, none⟩) l.length l.length] V fun e w' => e = .returned (.string (rowB l)) ∧ Below W.heap.size W w' := by
 have hb : Below W.heap.size W V := ((Below.refl _ W).alloc (Nat.le_refl _) _).trans (hV.mono (by simp))
 refine (row_any l _ l.length V hl hl2 hx (fun k x hk => ?_) (hP.below hb)).mono fun e w' ⟨h1, h2⟩ => ⟨h1, hb.trans (h2.mono hb.size)⟩
 refine ⟨W.heap.size, 0, rfl, Nat.lt_of_lt_of_le (by simp) hV.size, ?_⟩
 have h1 := (Blk.new W 20 (l.map Wo.v).toArray)
 rw [hV.cell h1.lt, h1.cell]
 rw [Nat.zero_add, List.getElem?_toArray, List.getElem?_map, hk]
 rfl
theorem szA (w : World) (o : Obj) : (w.alloc o).heap.size = w.heap.size + 1 := by simp
theorem belN_alloc {A w : World} {o : Obj} (h : Below A.heap.size A w) : Below A.heap.size A (w.alloc o) := h.alloc h.size o
theorem belN_drew {A w : World} (h : Below A.heap.size A w) : Below A.heap.size A w.drew := h.drew
theorem ins_words (x : Ii) (h : InsR x) : ∀ y ∈ insWo x, y.ok := by
 have h1 := opNm_len x.op
 intro y hy
 unfold insWo at hy
 repeat' split at hy
 all_goals (
  simp only [List.mem_cons, List.not_mem_nil, or_false] at hy
  rcases hy with rfl | rfl | rfl | rfl | rfl <;> first | exact h.dst | exact h.a | exact h.b | exact h.imm | exact h.callee | exact h.many | (show (opNm x.op).size ≤ 50; omega) | (show _ ≤ 50; decide))
theorem tm_words (t : Tt) (h : TmR t) : ∀ y ∈ tmWo t, y.ok := by
 intro y hy
 unfold tmWo at hy
 repeat' split at hy
 all_goals (
  simp only [List.mem_cons, List.not_mem_nil, or_false] at hy
  rcases hy with rfl | rfl | rfl | rfl <;> first | exact h.a | exact h.t0 | exact h.t1 | (show _ ≤ 50; decide))
set_option maxHeartbeats 4000000 in
set_option maxRecDepth 100000 in
theorem rowIns_const (x : Ii) (xa : Option Addr) (xc : Nat) (w : World) (ho : x.op = 1) (hR : InsR x) (hP : PowW w) (hN : NamesW w) :
    Calls Tryz.prog 98 #[insV x xa xc] w fun e w' => e = .returned (.string (rowB (insWo x))) ∧ Below w.heap.size w w' := by
 have E : insWo x = [.rg x.dst, .tx ⟨#[226, 134, 144]⟩, .tx (opNm x.op), .nm x.imm] := by
  unfold insWo
  rw [if_pos ho]
  try rfl
 have hx := ins_words x hR
 rw [E] at hx
 have HB0 : Hid (Below w.heap.size w (w.alloc (.cells (insC x xa xc) 46))) := (Below.refl _ w).alloc (Nat.le_refl _) _
 have R : Hid (Calls Tryz.prog 53 #[.slice (some ⟨((w.alloc (.cells (insC x xa xc) 46))).heap.size, 0, none⟩) 4 4] (((w.alloc (.cells (insC x xa xc) 46)).alloc (.cells #[.iface 184 (.int .i64 x.dst), .iface 9 (.string ⟨#[226, 134, 144]⟩), .iface 9 (.string (opNm x.op)), .iface 3 (.int .i64 x.imm)] 20)).drew) fun e w' => e = .returned (.string (rowB [.rg x.dst, .tx ⟨#[226, 134, 144]⟩, .tx (opNm x.op), .nm x.imm])) ∧ Below ((w.alloc (.cells (insC x xa xc) 46))).heap.size (w.alloc (.cells (insC x xa xc) 46)) w') :=
  row_lit [.rg x.dst, .tx ⟨#[226, 134, 144]⟩, .tx (opNm x.op), .nm x.imm] (w.alloc (.cells (insC x xa xc) 46)) _ ((Below.refl _ _).drew) (by simp) (by simp) hx (hP.below HB0.out)
 have HS : Hid (∀ W, Below ((w.alloc (.cells (insC x xa xc) 46))).heap.size (w.alloc (.cells (insC x xa xc) 46)) W → Below ((w.alloc (.cells (insC x xa xc) 46))).heap.size (w.alloc (.cells (insC x xa xc) 46)) W ∧ (W.cell? ⟨w.heap.size, 0, none⟩ = some (.int .i64 x.op) ∧ W.cell? ⟨w.heap.size, 1, none⟩ = some (.int .i64 x.dst) ∧ W.cell? ⟨w.heap.size, 2, none⟩ = some (.int .i64 x.a) ∧ W.cell? ⟨w.heap.size, 3, none⟩ = some (.int .i64 x.b) ∧ W.cell? ⟨w.heap.size, 4, none⟩ = some (.int .i64 x.imm)) ∧ W.cell? ⟨1, x.op.toNat, none⟩ = some (.string (opNm x.op))) := fun W hb => by
  obtain ⟨a0, a1, a2, a3, a4, _⟩ := box8 ((Blk.new w 46 (insC x xa xc)).below hb (Blk.new w _ _).lt)
  have hn := (hN.below (HB0.out.trans (hb.mono HB0.out.size))).2 x.op.toNat (by omega)
  exact ⟨hb, ⟨a0, a1, a2, a3, a4⟩, hn⟩
 have SX := insC.eq_1 x xa xc
 rw [SX] at R HB0
 rw [SX] at HS
 unfold insV
 rw [E]
 clear E hx hP SX hR
 generalize opNm x.op = on at *
 rw [ho] at R HB0 HS ⊢
 clear ho
 go_enter Tryz.func98, Tryz.ntmps98
 go_upto_region 3 with fail
 obtain ⟨A, hA⟩ : ∃ A, A = (w.alloc (.cells #[.int .i64 1, .int .i64 x.dst, .int .i64 x.a, .int .i64 x.b, .int .i64 x.imm, .int .i64 x.callee, .slice xa x.args.length xc, .int .i64 x.many] 46)) := ⟨_, rfl⟩
 rw [← hA] at R HB0 HS ⊢
 clear hA
 have hb0 : Below A.heap.size A A.drew := (Below.refl _ _).drew
 go_region_held3 (fun W => Below A.heap.size A W ∧ (W.cell? ⟨w.heap.size, 0, none⟩ = some (.int .i64 1) ∧ W.cell? ⟨w.heap.size, 1, none⟩ = some (.int .i64 x.dst) ∧ W.cell? ⟨w.heap.size, 2, none⟩ = some (.int .i64 x.a) ∧ W.cell? ⟨w.heap.size, 3, none⟩ = some (.int .i64 x.b) ∧ W.cell? ⟨w.heap.size, 4, none⟩ = some (.int .i64 x.imm)) ∧ W.cell? ⟨1, 1, none⟩ = some (.string on))
  (first | (refine HS.out _ ?_; (repeat (first | with_reducible apply belN_alloc | with_reducible apply belN_drew)); (first | exact Below.refl _ _ | assumption)))
  (first | (go_at_call 53; (with_reducible refine R.out.mono ?_); rintro e w21 ⟨rfl, hb21⟩))
 all_goals (
  go_wp2
  go_ret
  exact ⟨rfl, HB0.out.trans (hb21.mono HB0.out.size)⟩)
set_option maxHeartbeats 4000000 in
set_option maxRecDepth 100000 in
theorem rowIns_load (x : Ii) (xa : Option Addr) (xc : Nat) (w : World) (ho : x.op = 11) (hR : InsR x) (hP : PowW w) (hN : NamesW w) :
    Calls Tryz.prog 98 #[insV x xa xc] w fun e w' => e = .returned (.string (rowB (insWo x))) ∧ Below w.heap.size w w' := by
 have E : insWo x = [.rg x.dst, .tx ⟨#[226, 134, 144]⟩, .tx (opNm x.op), .rg x.a, .nm x.imm] := by
  unfold insWo
  rw [if_neg (by omega), if_pos ho]
  try rfl
 have hx := ins_words x hR
 rw [E] at hx
 have HB0 : Hid (Below w.heap.size w (w.alloc (.cells (insC x xa xc) 46))) := (Below.refl _ w).alloc (Nat.le_refl _) _
 have R : Hid (Calls Tryz.prog 53 #[.slice (some ⟨((w.alloc (.cells (insC x xa xc) 46))).heap.size, 0, none⟩) 5 5] (((w.alloc (.cells (insC x xa xc) 46)).alloc (.cells #[.iface 184 (.int .i64 x.dst), .iface 9 (.string ⟨#[226, 134, 144]⟩), .iface 9 (.string (opNm x.op)), .iface 184 (.int .i64 x.a), .iface 3 (.int .i64 x.imm)] 20)).drew) fun e w' => e = .returned (.string (rowB [.rg x.dst, .tx ⟨#[226, 134, 144]⟩, .tx (opNm x.op), .rg x.a, .nm x.imm])) ∧ Below ((w.alloc (.cells (insC x xa xc) 46))).heap.size (w.alloc (.cells (insC x xa xc) 46)) w') :=
  row_lit [.rg x.dst, .tx ⟨#[226, 134, 144]⟩, .tx (opNm x.op), .rg x.a, .nm x.imm] (w.alloc (.cells (insC x xa xc) 46)) _ ((Below.refl _ _).drew) (by simp) (by simp) hx (hP.below HB0.out)
 have HS : Hid (∀ W, Below ((w.alloc (.cells (insC x xa xc) 46))).heap.size (w.alloc (.cells (insC x xa xc) 46)) W → Below ((w.alloc (.cells (insC x xa xc) 46))).heap.size (w.alloc (.cells (insC x xa xc) 46)) W ∧ (W.cell? ⟨w.heap.size, 0, none⟩ = some (.int .i64 x.op) ∧ W.cell? ⟨w.heap.size, 1, none⟩ = some (.int .i64 x.dst) ∧ W.cell? ⟨w.heap.size, 2, none⟩ = some (.int .i64 x.a) ∧ W.cell? ⟨w.heap.size, 3, none⟩ = some (.int .i64 x.b) ∧ W.cell? ⟨w.heap.size, 4, none⟩ = some (.int .i64 x.imm)) ∧ W.cell? ⟨1, x.op.toNat, none⟩ = some (.string (opNm x.op))) := fun W hb => by
  obtain ⟨a0, a1, a2, a3, a4, _⟩ := box8 ((Blk.new w 46 (insC x xa xc)).below hb (Blk.new w _ _).lt)
  have hn := (hN.below (HB0.out.trans (hb.mono HB0.out.size))).2 x.op.toNat (by omega)
  exact ⟨hb, ⟨a0, a1, a2, a3, a4⟩, hn⟩
 have SX := insC.eq_1 x xa xc
 rw [SX] at R HB0
 rw [SX] at HS
 unfold insV
 rw [E]
 clear E hx hP SX hR
 generalize opNm x.op = on at *
 rw [ho] at R HB0 HS ⊢
 clear ho
 go_enter Tryz.func98, Tryz.ntmps98
 go_upto_region 5 with fail
 obtain ⟨A, hA⟩ : ∃ A, A = (w.alloc (.cells #[.int .i64 11, .int .i64 x.dst, .int .i64 x.a, .int .i64 x.b, .int .i64 x.imm, .int .i64 x.callee, .slice xa x.args.length xc, .int .i64 x.many] 46)) := ⟨_, rfl⟩
 rw [← hA] at R HB0 HS ⊢
 clear hA
 have hb0 : Below A.heap.size A A.drew := (Below.refl _ _).drew
 go_region_held3 (fun W => Below A.heap.size A W ∧ (W.cell? ⟨w.heap.size, 0, none⟩ = some (.int .i64 11) ∧ W.cell? ⟨w.heap.size, 1, none⟩ = some (.int .i64 x.dst) ∧ W.cell? ⟨w.heap.size, 2, none⟩ = some (.int .i64 x.a) ∧ W.cell? ⟨w.heap.size, 3, none⟩ = some (.int .i64 x.b) ∧ W.cell? ⟨w.heap.size, 4, none⟩ = some (.int .i64 x.imm)) ∧ W.cell? ⟨1, 11, none⟩ = some (.string on))
  (first | (refine HS.out _ ?_; (repeat (first | with_reducible apply belN_alloc | with_reducible apply belN_drew)); (first | exact Below.refl _ _ | assumption)))
  (first | (go_at_call 53; (with_reducible refine R.out.mono ?_); rintro e w21 ⟨rfl, hb21⟩))
 all_goals (
  go_wp2
  go_ret
  exact ⟨rfl, HB0.out.trans (hb21.mono HB0.out.size)⟩)
set_option maxHeartbeats 4000000 in
set_option maxRecDepth 100000 in
theorem rowIns_store (x : Ii) (xa : Option Addr) (xc : Nat) (w : World) (ho : x.op = 12) (hR : InsR x) (hP : PowW w) (_hN : NamesW w) :
    Calls Tryz.prog 98 #[insV x xa xc] w fun e w' => e = .returned (.string (rowB (insWo x))) ∧ Below w.heap.size w w' := by
 have E : insWo x = [.tx ⟨#[115, 116, 111, 114, 101]⟩, .rg x.a, .nm x.imm, .rg x.b] := by
  unfold insWo
  rw [if_neg (by omega), if_neg (by omega), if_pos ho]
  try rfl
 have hx := ins_words x hR
 rw [E] at hx
 have HB0 : Hid (Below w.heap.size w (w.alloc (.cells (insC x xa xc) 46))) := (Below.refl _ w).alloc (Nat.le_refl _) _
 have R : Hid (Calls Tryz.prog 53 #[.slice (some ⟨((w.alloc (.cells (insC x xa xc) 46))).heap.size, 0, none⟩) 4 4] ((w.alloc (.cells (insC x xa xc) 46)).alloc (.cells #[.iface 9 (.string ⟨#[115, 116, 111, 114, 101]⟩), .iface 184 (.int .i64 x.a), .iface 3 (.int .i64 x.imm), .iface 184 (.int .i64 x.b)] 20)) fun e w' => e = .returned (.string (rowB [.tx ⟨#[115, 116, 111, 114, 101]⟩, .rg x.a, .nm x.imm, .rg x.b])) ∧ Below ((w.alloc (.cells (insC x xa xc) 46))).heap.size (w.alloc (.cells (insC x xa xc) 46)) w') :=
  row_lit [.tx ⟨#[115, 116, 111, 114, 101]⟩, .rg x.a, .nm x.imm, .rg x.b] (w.alloc (.cells (insC x xa xc) 46)) _ (Below.refl _ _) (by simp) (by simp) hx (hP.below HB0.out)
 have SX := insC.eq_1 x xa xc
 rw [SX] at R HB0
 simp only [szA] at R
 unfold insV
 rw [E]
 clear E hx hP SX hR
 rw [ho] at R HB0 ⊢
 clear ho
 go_enter Tryz.func98, Tryz.ntmps98
 go_wp2_with fail
 refine R.out.mono ?_
 rintro e w21 ⟨rfl, hb21⟩
 go_wp2
 go_ret
 exact ⟨rfl, HB0.out.trans (hb21.mono (by simp))⟩
set_option maxHeartbeats 4000000 in
set_option maxRecDepth 100000 in
theorem rowIns_call (x : Ii) (xa : Option Addr) (xc : Nat) (w : World) (ho : x.op = 13) (hR : InsR x) (hP : PowW w) (_hN : NamesW w) :
    Calls Tryz.prog 98 #[insV x xa xc] w fun e w' => e = .returned (.string (rowB (insWo x))) ∧ Below w.heap.size w w' := by
 have E : insWo x = [.tx ⟨#[99, 97, 108, 108]⟩, .nm x.callee, .nm x.many] := by
  unfold insWo
  rw [if_neg (by omega), if_neg (by omega), if_neg (by omega), if_pos ho]
  try rfl
 have hx := ins_words x hR
 rw [E] at hx
 have HB0 : Hid (Below w.heap.size w (w.alloc (.cells (insC x xa xc) 46))) := (Below.refl _ w).alloc (Nat.le_refl _) _
 have R : Hid (Calls Tryz.prog 53 #[.slice (some ⟨((w.alloc (.cells (insC x xa xc) 46))).heap.size, 0, none⟩) 3 3] ((w.alloc (.cells (insC x xa xc) 46)).alloc (.cells #[.iface 9 (.string ⟨#[99, 97, 108, 108]⟩), .iface 3 (.int .i64 x.callee), .iface 3 (.int .i64 x.many)] 20)) fun e w' => e = .returned (.string (rowB [.tx ⟨#[99, 97, 108, 108]⟩, .nm x.callee, .nm x.many])) ∧ Below ((w.alloc (.cells (insC x xa xc) 46))).heap.size (w.alloc (.cells (insC x xa xc) 46)) w') :=
  row_lit [.tx ⟨#[99, 97, 108, 108]⟩, .nm x.callee, .nm x.many] (w.alloc (.cells (insC x xa xc) 46)) _ (Below.refl _ _) (by simp) (by simp) hx (hP.below HB0.out)
 have SX := insC.eq_1 x xa xc
 rw [SX] at R HB0
 simp only [szA] at R
 unfold insV
 rw [E]
 clear E hx hP SX hR
 rw [ho] at R HB0 ⊢
 clear ho
 go_enter Tryz.func98, Tryz.ntmps98
 go_wp2_with fail
 refine R.out.mono ?_
 rintro e w21 ⟨rfl, hb21⟩
 go_wp2
 go_ret
 exact ⟨rfl, HB0.out.trans (hb21.mono (by simp))⟩
set_option maxHeartbeats 4000000 in
set_option maxRecDepth 100000 in
theorem rowIns_move (x : Ii) (xa : Option Addr) (xc : Nat) (w : World) (ho : x.op = 15) (hR : InsR x) (hP : PowW w) (_hN : NamesW w) :
    Calls Tryz.prog 98 #[insV x xa xc] w fun e w' => e = .returned (.string (rowB (insWo x))) ∧ Below w.heap.size w w' := by
 have E : insWo x = [.rg x.dst, .tx ⟨#[226, 134, 144]⟩, .rg x.a] := by
  unfold insWo
  rw [if_neg (by omega), if_neg (by omega), if_neg (by omega), if_neg (by omega), if_pos ho]
  try rfl
 have hx := ins_words x hR
 rw [E] at hx
 have HB0 : Hid (Below w.heap.size w (w.alloc (.cells (insC x xa xc) 46))) := (Below.refl _ w).alloc (Nat.le_refl _) _
 have R : Hid (Calls Tryz.prog 53 #[.slice (some ⟨((w.alloc (.cells (insC x xa xc) 46))).heap.size, 0, none⟩) 3 3] ((w.alloc (.cells (insC x xa xc) 46)).alloc (.cells #[.iface 184 (.int .i64 x.dst), .iface 9 (.string ⟨#[226, 134, 144]⟩), .iface 184 (.int .i64 x.a)] 20)) fun e w' => e = .returned (.string (rowB [.rg x.dst, .tx ⟨#[226, 134, 144]⟩, .rg x.a])) ∧ Below ((w.alloc (.cells (insC x xa xc) 46))).heap.size (w.alloc (.cells (insC x xa xc) 46)) w') :=
  row_lit [.rg x.dst, .tx ⟨#[226, 134, 144]⟩, .rg x.a] (w.alloc (.cells (insC x xa xc) 46)) _ (Below.refl _ _) (by simp) (by simp) hx (hP.below HB0.out)
 have SX := insC.eq_1 x xa xc
 rw [SX] at R HB0
 simp only [szA] at R
 unfold insV
 rw [E]
 clear E hx hP SX hR
 rw [ho] at R HB0 ⊢
 clear ho
 go_enter Tryz.func98, Tryz.ntmps98
 go_wp2_with fail
 refine R.out.mono ?_
 rintro e w21 ⟨rfl, hb21⟩
 go_wp2
 go_ret
 exact ⟨rfl, HB0.out.trans (hb21.mono (by simp))⟩
set_option maxHeartbeats 4000000 in
set_option maxRecDepth 100000 in
theorem rowIns_put (x : Ii) (xa : Option Addr) (xc : Nat) (w : World) (ho : x.op = 16) (hR : InsR x) (hP : PowW w) (_hN : NamesW w) :
    Calls Tryz.prog 98 #[insV x xa xc] w fun e w' => e = .returned (.string (rowB (insWo x))) ∧ Below w.heap.size w w' := by
 have E : insWo x = [.sl x.imm, .tx ⟨#[226, 134, 144]⟩, .rg x.a] := by
  unfold insWo
  rw [if_neg (by omega), if_neg (by omega), if_neg (by omega), if_neg (by omega), if_neg (by omega), if_pos ho]
  try rfl
 have hx := ins_words x hR
 rw [E] at hx
 have HB0 : Hid (Below w.heap.size w (w.alloc (.cells (insC x xa xc) 46))) := (Below.refl _ w).alloc (Nat.le_refl _) _
 have R : Hid (Calls Tryz.prog 53 #[.slice (some ⟨((w.alloc (.cells (insC x xa xc) 46))).heap.size, 0, none⟩) 3 3] ((w.alloc (.cells (insC x xa xc) 46)).alloc (.cells #[.iface 187 (.int .i64 x.imm), .iface 9 (.string ⟨#[226, 134, 144]⟩), .iface 184 (.int .i64 x.a)] 20)) fun e w' => e = .returned (.string (rowB [.sl x.imm, .tx ⟨#[226, 134, 144]⟩, .rg x.a])) ∧ Below ((w.alloc (.cells (insC x xa xc) 46))).heap.size (w.alloc (.cells (insC x xa xc) 46)) w') :=
  row_lit [.sl x.imm, .tx ⟨#[226, 134, 144]⟩, .rg x.a] (w.alloc (.cells (insC x xa xc) 46)) _ (Below.refl _ _) (by simp) (by simp) hx (hP.below HB0.out)
 have SX := insC.eq_1 x xa xc
 rw [SX] at R HB0
 simp only [szA] at R
 unfold insV
 rw [E]
 clear E hx hP SX hR
 rw [ho] at R HB0 ⊢
 clear ho
 go_enter Tryz.func98, Tryz.ntmps98
 go_wp2_with fail
 refine R.out.mono ?_
 rintro e w21 ⟨rfl, hb21⟩
 go_wp2
 go_ret
 exact ⟨rfl, HB0.out.trans (hb21.mono (by simp))⟩
set_option maxHeartbeats 4000000 in
set_option maxRecDepth 100000 in
theorem rowIns_get (x : Ii) (xa : Option Addr) (xc : Nat) (w : World) (ho : x.op = 17) (hR : InsR x) (hP : PowW w) (_hN : NamesW w) :
    Calls Tryz.prog 98 #[insV x xa xc] w fun e w' => e = .returned (.string (rowB (insWo x))) ∧ Below w.heap.size w w' := by
 have E : insWo x = [.rg x.dst, .tx ⟨#[226, 134, 144]⟩, .sl x.imm] := by
  unfold insWo
  rw [if_neg (by omega), if_neg (by omega), if_neg (by omega), if_neg (by omega), if_neg (by omega), if_neg (by omega), if_pos ho]
  try rfl
 have hx := ins_words x hR
 rw [E] at hx
 have HB0 : Hid (Below w.heap.size w (w.alloc (.cells (insC x xa xc) 46))) := (Below.refl _ w).alloc (Nat.le_refl _) _
 have R : Hid (Calls Tryz.prog 53 #[.slice (some ⟨((w.alloc (.cells (insC x xa xc) 46))).heap.size, 0, none⟩) 3 3] ((w.alloc (.cells (insC x xa xc) 46)).alloc (.cells #[.iface 184 (.int .i64 x.dst), .iface 9 (.string ⟨#[226, 134, 144]⟩), .iface 187 (.int .i64 x.imm)] 20)) fun e w' => e = .returned (.string (rowB [.rg x.dst, .tx ⟨#[226, 134, 144]⟩, .sl x.imm])) ∧ Below ((w.alloc (.cells (insC x xa xc) 46))).heap.size (w.alloc (.cells (insC x xa xc) 46)) w') :=
  row_lit [.rg x.dst, .tx ⟨#[226, 134, 144]⟩, .sl x.imm] (w.alloc (.cells (insC x xa xc) 46)) _ (Below.refl _ _) (by simp) (by simp) hx (hP.below HB0.out)
 have SX := insC.eq_1 x xa xc
 rw [SX] at R HB0
 simp only [szA] at R
 unfold insV
 rw [E]
 clear E hx hP SX hR
 rw [ho] at R HB0 ⊢
 clear ho
 go_enter Tryz.func98, Tryz.ntmps98
 go_wp2_with fail
 refine R.out.mono ?_
 rintro e w21 ⟨rfl, hb21⟩
 go_wp2
 go_ret
 exact ⟨rfl, HB0.out.trans (hb21.mono (by simp))⟩
set_option maxHeartbeats 4000000 in
set_option maxRecDepth 100000 in
theorem rowIns_bin (x : Ii) (xa : Option Addr) (xc : Nat) (w : World) (ho : 2 ≤ x.op ∧ x.op ≤ 10) (hR : InsR x) (hP : PowW w) (hN : NamesW w) :
    Calls Tryz.prog 98 #[insV x xa xc] w fun e w' => e = .returned (.string (rowB (insWo x))) ∧ Below w.heap.size w w' := by
 have E : insWo x = [.rg x.dst, .tx ⟨#[226, 134, 144]⟩, .tx (opNm x.op), .rg x.a, .rg x.b] := by
  unfold insWo
  rw [if_neg (by omega), if_neg (by omega), if_neg (by omega), if_neg (by omega), if_neg (by omega), if_neg (by omega), if_neg (by omega)]
  try rfl
 have hx := ins_words x hR
 rw [E] at hx
 have HB0 : Hid (Below w.heap.size w (w.alloc (.cells (insC x xa xc) 46))) := (Below.refl _ w).alloc (Nat.le_refl _) _
 have R : Hid (Calls Tryz.prog 53 #[.slice (some ⟨((w.alloc (.cells (insC x xa xc) 46))).heap.size, 0, none⟩) 5 5] (((w.alloc (.cells (insC x xa xc) 46)).alloc (.cells #[.iface 184 (.int .i64 x.dst), .iface 9 (.string ⟨#[226, 134, 144]⟩), .iface 9 (.string (opNm x.op)), .iface 184 (.int .i64 x.a), .iface 184 (.int .i64 x.b)] 20)).drew) fun e w' => e = .returned (.string (rowB [.rg x.dst, .tx ⟨#[226, 134, 144]⟩, .tx (opNm x.op), .rg x.a, .rg x.b])) ∧ Below ((w.alloc (.cells (insC x xa xc) 46))).heap.size (w.alloc (.cells (insC x xa xc) 46)) w') :=
  row_lit [.rg x.dst, .tx ⟨#[226, 134, 144]⟩, .tx (opNm x.op), .rg x.a, .rg x.b] (w.alloc (.cells (insC x xa xc) 46)) _ ((Below.refl _ _).drew) (by simp) (by simp) hx (hP.below HB0.out)
 have HS : Hid (∀ W, Below ((w.alloc (.cells (insC x xa xc) 46))).heap.size (w.alloc (.cells (insC x xa xc) 46)) W → Below ((w.alloc (.cells (insC x xa xc) 46))).heap.size (w.alloc (.cells (insC x xa xc) 46)) W ∧ (W.cell? ⟨w.heap.size, 0, none⟩ = some (.int .i64 x.op) ∧ W.cell? ⟨w.heap.size, 1, none⟩ = some (.int .i64 x.dst) ∧ W.cell? ⟨w.heap.size, 2, none⟩ = some (.int .i64 x.a) ∧ W.cell? ⟨w.heap.size, 3, none⟩ = some (.int .i64 x.b) ∧ W.cell? ⟨w.heap.size, 4, none⟩ = some (.int .i64 x.imm)) ∧ W.cell? ⟨1, x.op.toNat, none⟩ = some (.string (opNm x.op))) := fun W hb => by
  obtain ⟨a0, a1, a2, a3, a4, _⟩ := box8 ((Blk.new w 46 (insC x xa xc)).below hb (Blk.new w _ _).lt)
  have hn := (hN.below (HB0.out.trans (hb.mono HB0.out.size))).2 x.op.toNat (by omega)
  exact ⟨hb, ⟨a0, a1, a2, a3, a4⟩, hn⟩
 have SX := insC.eq_1 x xa xc
 rw [SX] at R HB0
 rw [SX] at HS
 unfold insV
 rw [E]
 clear E hx hP SX hR
 generalize opNm x.op = on at *
 have hox : (0 : Int) ≤ x.op := by omega
 have hoy : x.op < 12 := by omega
 have hn1 : ¬ x.op = 1 := by omega
 have hn11 : ¬ x.op = 11 := by omega
 have hn12 : ¬ x.op = 12 := by omega
 have hn13 : ¬ x.op = 13 := by omega
 have hn15 : ¬ x.op = 15 := by omega
 have hn16 : ¬ x.op = 16 := by omega
 have hn17 : ¬ x.op = 17 := by omega
 go_enter Tryz.func98, Tryz.ntmps98
 go_upto_region 16 with fail
 obtain ⟨A, hA⟩ : ∃ A, A = (w.alloc (.cells #[.int .i64 x.op, .int .i64 x.dst, .int .i64 x.a, .int .i64 x.b, .int .i64 x.imm, .int .i64 x.callee, .slice xa x.args.length xc, .int .i64 x.many] 46)) := ⟨_, rfl⟩
 rw [← hA] at R HB0 HS ⊢
 clear hA
 have hb0 : Below A.heap.size A A.drew := (Below.refl _ _).drew
 go_region_held3 (fun W => Below A.heap.size A W ∧ (W.cell? ⟨w.heap.size, 0, none⟩ = some (.int .i64 x.op) ∧ W.cell? ⟨w.heap.size, 1, none⟩ = some (.int .i64 x.dst) ∧ W.cell? ⟨w.heap.size, 2, none⟩ = some (.int .i64 x.a) ∧ W.cell? ⟨w.heap.size, 3, none⟩ = some (.int .i64 x.b) ∧ W.cell? ⟨w.heap.size, 4, none⟩ = some (.int .i64 x.imm)) ∧ W.cell? ⟨1, x.op.toNat, none⟩ = some (.string on))
  (first | (refine HS.out _ ?_; (repeat (first | with_reducible apply belN_alloc | with_reducible apply belN_drew)); (first | exact Below.refl _ _ | assumption)))
  (first | (go_at_call 53; (with_reducible refine R.out.mono ?_); rintro e w21 ⟨rfl, hb21⟩))
 all_goals (
  go_wp2
  go_ret
  exact ⟨rfl, HB0.out.trans (hb21.mono HB0.out.size)⟩)
set_option maxHeartbeats 4000000 in
set_option maxRecDepth 100000 in
theorem rowEnd_jump (t : Tt) (w : World) (ho : t.kind = 1) (hR : TmR t) (hP : PowW w) :
    Calls Tryz.prog 99 #[termV t] w fun e w' => e = .returned (.string (rowB (tmWo t))) ∧ Below w.heap.size w w' := by
 have E : tmWo t = [.tx ⟨#[226, 134, 146]⟩, .nm t.t0] := by
  unfold tmWo
  rw [if_pos ho]
  try rfl
 have hx := tm_words t hR
 rw [E] at hx
 have HB0 : Hid (Below w.heap.size w (w.alloc (.cells (tmC t) 51))) := (Below.refl _ w).alloc (Nat.le_refl _) _
 have R : Hid (Calls Tryz.prog 53 #[.slice (some ⟨((w.alloc (.cells (tmC t) 51))).heap.size, 0, none⟩) 2 2] ((w.alloc (.cells (tmC t) 51)).alloc (.cells #[.iface 9 (.string ⟨#[226, 134, 146]⟩), .iface 3 (.int .i64 t.t0)] 20)) fun e w' => e = .returned (.string (rowB [.tx ⟨#[226, 134, 146]⟩, .nm t.t0])) ∧ Below ((w.alloc (.cells (tmC t) 51))).heap.size (w.alloc (.cells (tmC t) 51)) w') :=
  row_lit [.tx ⟨#[226, 134, 146]⟩, .nm t.t0] (w.alloc (.cells (tmC t) 51)) _ (Below.refl _ _) (by simp) (by simp) hx (hP.below HB0.out)
 have SX := tmC.eq_1 t
 rw [SX] at R HB0
 simp only [szA] at R
 unfold termV
 rw [E]
 clear E hx hP SX hR
 rw [ho] at R HB0 ⊢
 clear ho
 go_enter Tryz.func99, Tryz.ntmps99
 go_wp2_with fail
 refine R.out.mono ?_
 rintro e w21 ⟨rfl, hb21⟩
 go_wp2
 go_ret
 exact ⟨rfl, HB0.out.trans (hb21.mono (by simp))⟩
set_option maxHeartbeats 4000000 in
set_option maxRecDepth 100000 in
theorem rowEnd_branch (t : Tt) (w : World) (ho : t.kind = 2) (hR : TmR t) (hP : PowW w) :
    Calls Tryz.prog 99 #[termV t] w fun e w' => e = .returned (.string (rowB (tmWo t))) ∧ Below w.heap.size w w' := by
 have E : tmWo t = [.rg t.a, .tx ⟨#[226, 134, 146]⟩, .nm t.t0, .nm t.t1] := by
  unfold tmWo
  rw [if_neg (by omega), if_pos ho]
  try rfl
 have hx := tm_words t hR
 rw [E] at hx
 have HB0 : Hid (Below w.heap.size w (w.alloc (.cells (tmC t) 51))) := (Below.refl _ w).alloc (Nat.le_refl _) _
 have R : Hid (Calls Tryz.prog 53 #[.slice (some ⟨((w.alloc (.cells (tmC t) 51))).heap.size, 0, none⟩) 4 4] ((w.alloc (.cells (tmC t) 51)).alloc (.cells #[.iface 184 (.int .i64 t.a), .iface 9 (.string ⟨#[226, 134, 146]⟩), .iface 3 (.int .i64 t.t0), .iface 3 (.int .i64 t.t1)] 20)) fun e w' => e = .returned (.string (rowB [.rg t.a, .tx ⟨#[226, 134, 146]⟩, .nm t.t0, .nm t.t1])) ∧ Below ((w.alloc (.cells (tmC t) 51))).heap.size (w.alloc (.cells (tmC t) 51)) w') :=
  row_lit [.rg t.a, .tx ⟨#[226, 134, 146]⟩, .nm t.t0, .nm t.t1] (w.alloc (.cells (tmC t) 51)) _ (Below.refl _ _) (by simp) (by simp) hx (hP.below HB0.out)
 have SX := tmC.eq_1 t
 rw [SX] at R HB0
 simp only [szA] at R
 unfold termV
 rw [E]
 clear E hx hP SX hR
 rw [ho] at R HB0 ⊢
 clear ho
 go_enter Tryz.func99, Tryz.ntmps99
 go_wp2_with fail
 refine R.out.mono ?_
 rintro e w21 ⟨rfl, hb21⟩
 go_wp2
 go_ret
 exact ⟨rfl, HB0.out.trans (hb21.mono (by simp))⟩
set_option maxHeartbeats 4000000 in
set_option maxRecDepth 100000 in
theorem rowEnd_none (t : Tt) (w : World) (ho : t.kind = 3 ∧ t.a = -1) (hR : TmR t) (hP : PowW w) :
    Calls Tryz.prog 99 #[termV t] w fun e w' => e = .returned (.string (rowB (tmWo t))) ∧ Below w.heap.size w w' := by
 have E : tmWo t = [.tx ⟨#[114, 101, 116, 117, 114, 110]⟩] := by
  unfold tmWo
  rw [if_neg (by omega), if_neg (by omega), if_pos ho.1, if_pos ho.2]
  try rfl
 have hx := tm_words t hR
 rw [E] at hx
 have HB0 : Hid (Below w.heap.size w (w.alloc (.cells (tmC t) 51))) := (Below.refl _ w).alloc (Nat.le_refl _) _
 have R : Hid (Calls Tryz.prog 53 #[.slice (some ⟨((w.alloc (.cells (tmC t) 51))).heap.size, 0, none⟩) 1 1] ((w.alloc (.cells (tmC t) 51)).alloc (.cells #[.iface 9 (.string ⟨#[114, 101, 116, 117, 114, 110]⟩)] 20)) fun e w' => e = .returned (.string (rowB [.tx ⟨#[114, 101, 116, 117, 114, 110]⟩])) ∧ Below ((w.alloc (.cells (tmC t) 51))).heap.size (w.alloc (.cells (tmC t) 51)) w') :=
  row_lit [.tx ⟨#[114, 101, 116, 117, 114, 110]⟩] (w.alloc (.cells (tmC t) 51)) _ (Below.refl _ _) (by simp) (by simp) hx (hP.below HB0.out)
 have SX := tmC.eq_1 t
 rw [SX] at R HB0
 simp only [szA] at R
 unfold termV
 rw [E]
 clear E hx hP SX hR
 rw [ho.1, ho.2] at R HB0 ⊢
 clear ho
 go_enter Tryz.func99, Tryz.ntmps99
 go_wp2_with fail
 refine R.out.mono ?_
 rintro e w21 ⟨rfl, hb21⟩
 go_wp2
 go_ret
 exact ⟨rfl, HB0.out.trans (hb21.mono (by simp))⟩
set_option maxHeartbeats 4000000 in
set_option maxRecDepth 100000 in
theorem rowEnd_some (t : Tt) (w : World) (ho : t.kind = 3 ∧ ¬ t.a = -1) (hR : TmR t) (hP : PowW w) :
    Calls Tryz.prog 99 #[termV t] w fun e w' => e = .returned (.string (rowB (tmWo t))) ∧ Below w.heap.size w w' := by
 have E : tmWo t = [.tx ⟨#[114, 101, 116, 117, 114, 110]⟩, .rg t.a] := by
  unfold tmWo
  rw [if_neg (by omega), if_neg (by omega), if_pos ho.1, if_neg ho.2]
  try rfl
 have hx := tm_words t hR
 rw [E] at hx
 have HB0 : Hid (Below w.heap.size w (w.alloc (.cells (tmC t) 51))) := (Below.refl _ w).alloc (Nat.le_refl _) _
 have R : Hid (Calls Tryz.prog 53 #[.slice (some ⟨((w.alloc (.cells (tmC t) 51))).heap.size, 0, none⟩) 2 2] ((w.alloc (.cells (tmC t) 51)).alloc (.cells #[.iface 9 (.string ⟨#[114, 101, 116, 117, 114, 110]⟩), .iface 184 (.int .i64 t.a)] 20)) fun e w' => e = .returned (.string (rowB [.tx ⟨#[114, 101, 116, 117, 114, 110]⟩, .rg t.a])) ∧ Below ((w.alloc (.cells (tmC t) 51))).heap.size (w.alloc (.cells (tmC t) 51)) w') :=
  row_lit [.tx ⟨#[114, 101, 116, 117, 114, 110]⟩, .rg t.a] (w.alloc (.cells (tmC t) 51)) _ (Below.refl _ _) (by simp) (by simp) hx (hP.below HB0.out)
 have SX := tmC.eq_1 t
 rw [SX] at R HB0
 simp only [szA] at R
 unfold termV
 rw [E]
 clear E hx hP SX hR
 have h2 := ho.2
 rw [ho.1] at R HB0 ⊢
 clear ho
 go_enter Tryz.func99, Tryz.ntmps99
 go_wp2_with fail
 refine R.out.mono ?_
 rintro e w21 ⟨rfl, hb21⟩
 go_wp2
 go_ret
 exact ⟨rfl, HB0.out.trans (hb21.mono (by simp))⟩
set_option maxHeartbeats 4000000 in
set_option maxRecDepth 100000 in
theorem rowEnd_trap (t : Tt) (w : World) (ho : ¬ t.kind = 1 ∧ ¬ t.kind = 2 ∧ ¬ t.kind = 3) (hR : TmR t) (hP : PowW w) :
    Calls Tryz.prog 99 #[termV t] w fun e w' => e = .returned (.string (rowB (tmWo t))) ∧ Below w.heap.size w w' := by
 have E : tmWo t = [.tx ⟨#[116, 114, 97, 112]⟩] := by
  unfold tmWo
  rw [if_neg ho.1, if_neg ho.2.1, if_neg ho.2.2]
  try rfl
 have hx := tm_words t hR
 rw [E] at hx
 have HB0 : Hid (Below w.heap.size w (w.alloc (.cells (tmC t) 51))) := (Below.refl _ w).alloc (Nat.le_refl _) _
 have R : Hid (Calls Tryz.prog 53 #[.slice (some ⟨((w.alloc (.cells (tmC t) 51))).heap.size, 0, none⟩) 1 1] ((w.alloc (.cells (tmC t) 51)).alloc (.cells #[.iface 9 (.string ⟨#[116, 114, 97, 112]⟩)] 20)) fun e w' => e = .returned (.string (rowB [.tx ⟨#[116, 114, 97, 112]⟩])) ∧ Below ((w.alloc (.cells (tmC t) 51))).heap.size (w.alloc (.cells (tmC t) 51)) w') :=
  row_lit [.tx ⟨#[116, 114, 97, 112]⟩] (w.alloc (.cells (tmC t) 51)) _ (Below.refl _ _) (by simp) (by simp) hx (hP.below HB0.out)
 have SX := tmC.eq_1 t
 rw [SX] at R HB0
 simp only [szA] at R
 unfold termV
 rw [E]
 clear E hx hP SX hR
 obtain ⟨h1, h2, h3⟩ := ho
 go_enter Tryz.func99, Tryz.ntmps99
 go_wp2_with fail
 refine R.out.mono ?_
 rintro e w21 ⟨rfl, hb21⟩
 go_wp2
 go_ret
 exact ⟨rfl, HB0.out.trans (hb21.mono (by simp))⟩
theorem rowIns_any (x : Ii) (xa : Option Addr) (xc : Nat) (w : World) (ho : 1 ≤ x.op ∧ x.op ≤ 17 ∧ x.op ≠ 14) (hR : InsR x) (hP : PowW w) (hN : NamesW w) :
    Calls Tryz.prog 98 #[insV x xa xc] w fun e w' => e = .returned (.string (rowB (insWo x))) ∧ Below w.heap.size w w' := by
 have h : x.op = 1 ∨ (2 ≤ x.op ∧ x.op ≤ 10) ∨ x.op = 11 ∨ x.op = 12 ∨ x.op = 13 ∨ x.op = 15 ∨ x.op = 16 ∨ x.op = 17 := by omega
 rcases h with h | h | h | h | h | h | h | h
 · exact rowIns_const x xa xc w h hR hP hN
 · exact rowIns_bin x xa xc w h hR hP hN
 · exact rowIns_load x xa xc w h hR hP hN
 · exact rowIns_store x xa xc w h hR hP hN
 · exact rowIns_call x xa xc w h hR hP hN
 · exact rowIns_move x xa xc w h hR hP hN
 · exact rowIns_put x xa xc w h hR hP hN
 · exact rowIns_get x xa xc w h hR hP hN
theorem rowEnd_any (t : Tt) (w : World) (hR : TmR t) (hP : PowW w) : Calls Tryz.prog 99 #[termV t] w fun e w' => e = .returned (.string (rowB (tmWo t))) ∧ Below w.heap.size w w' := by
 by_cases h1 : t.kind = 1
 · exact rowEnd_jump t w h1 hR hP
 by_cases h2 : t.kind = 2
 · exact rowEnd_branch t w h2 hR hP
 by_cases h3 : t.kind = 3
 · by_cases h4 : t.a = -1
   · exact rowEnd_none t w ⟨h3, h4⟩ hR hP
   · exact rowEnd_some t w ⟨h3, h4⟩ hR hP
 · exact rowEnd_trap t w ⟨h1, h2, h3⟩ hR hP
end Go.Proofs.YtbjmbahpcoanoaaGreatDoor
