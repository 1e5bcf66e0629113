/-
  Package read's lines of instructions (written by gen/rdl.py). Conditions: the library's tables and the Ops' names hold what the text lays.
-/
import Derived.Test.YthiipgahbmoiiaaGreatDoorPk24
import Derived.Deep.RegionHeld3
namespace Go.Proofs.YthiipgahbmoiiaaGreatDoor
open Go.RowKit

/-- A line of these words. -/
def rowT (l : List ByteArray) : ByteArray := joinB l ++ ⟨#[10]⟩
theorem rowQ_eq (l : List Wq) : rowQ l = rowT (l.flatMap Wq.bs) := rfl
def larrQ : ByteArray := ⟨#[226, 134, 144]⟩
def rarrQ : ByteArray := ⟨#[226, 134, 146]⟩
/-- The words of an instruction's line. -/
def insT (x : Ii) : List ByteArray :=
  if x.op = 1 then [vaT x.dst, larrQ, opNmR x.op, itS x.imm]
  else if x.op = 11 then [vaT x.dst, larrQ, opNmR x.op, vaT x.a, itS x.imm]
  else if x.op = 12 then [⟨#[115, 116, 111, 114, 101]⟩, vaT x.a, itS x.imm, vaT x.b]
  else if x.op = 13 then (if x.dst = 0 then [⟨#[99, 97, 108, 108]⟩, itS x.callee] ++ x.args.map vaT else [vaT x.dst, larrQ, ⟨#[99, 97, 108, 108]⟩, itS x.callee] ++ x.args.map vaT)
  else if x.op = 14 then [vaT x.dst, larrQ, vaT x.a]
  else [vaT x.dst, larrQ, opNmR x.op, vaT x.a, vaT x.b]
theorem opNmR_len (o : Int) : (opNmR o).size ≤ 5 := by
  unfold opNmR
  by_cases h : o.toNat < 12
  · have : ∀ n, n < 12 → (opNameR.getD n ⟨#[]⟩).size ≤ 5 := by decide
    exact this _ h
  · rw [List.getD_eq_getElem?_getD, List.getElem?_eq_none (by show opNameR.length ≤ _; have : opNameR.length = 12 := rfl; omega)]
    decide
structure InsRq (x : Ii) : Prop where
  dst : R64q x.dst
  a : R64q x.a
  b : R64q x.b
  imm : R64q x.imm
  callee : R64q x.callee
  args : ∀ v ∈ x.args, R64q v
  few : x.args.length ≤ 50
theorem ints1 {w W : World} {n : Int} {k : Nat} (h : Below (w.alloc (.cells #[.int .i64 n] 3)).heap.size (w.alloc (.cells #[.int .i64 n] 3)) W) (hk : k = w.heap.size) : IntsW W (some ⟨k, 0, none⟩) [n] := by
  subst hk
  refine IntsW.row (l := [n]) ((Blk.new w 3 #[.int .i64 n]).below h (Blk.new w _ _).lt) (fun k x hx => ?_)
  cases k with
  | zero => simpa using hx
  | succ k => simp at hx
theorem ints2 {w W : World} {n m : Int} {k : Nat} (h : Below (w.alloc (.cells #[.int .i64 n, .int .i64 m] 3)).heap.size (w.alloc (.cells #[.int .i64 n, .int .i64 m] 3)) W) (hk : k = w.heap.size) : IntsW W (some ⟨k, 0, none⟩) [n, m] := by
  subst hk
  refine IntsW.row (l := [n, m]) ((Blk.new w 3 #[.int .i64 n, .int .i64 m]).below h (Blk.new w _ _).lt) (fun k x hx => ?_)
  match k, hx with
  | 0, hx => simpa using hx
  | 1, hx => simpa using hx
  | k + 2, hx => simp at hx
theorem r64_1 {n : Int} (h : R64q n) : ∀ v ∈ [n], R64q v := fun v hv => by rw [List.mem_singleton] at hv; subst hv; exact h
theorem r64_2 {n m : Int} (h : R64q n) (h2 : R64q m) : ∀ v ∈ [n, m], R64q v := fun v hv => by
  simp only [List.mem_cons, List.not_mem_nil, or_false] at hv
  rcases hv with rfl | rfl
  · exact h
  · exact h2
theorem rowQ_lit (l : List Wq) (W V : World) (n : Nat) (hn0 : n = l.length) (hV : Below (W.alloc (.cells (l.map Wq.v).toArray 20)).heap.size (W.alloc (.cells (l.map Wq.v).toArray 20)) V) (hne : l.flatMap Wq.bs ≠ []) (hl2 : l.length ≤ 10) (hn : (l.flatMap Wq.bs).length ≤ 100) (hx : ∀ x ∈ l, x.ok W) (hP : PowW W) :
    Calls Tryz.prog 61 #[.slice (some ⟨W.heap.size, 0, none⟩) n n] V fun e w' => e = .returned (.string (rowT (l.flatMap Wq.bs))) ∧ Below W.heap.size W w' := by
  subst hn0
  have hb : Below W.heap.size W V := ((Below.refl _ W).alloc (Nat.le_refl _) _).trans (hV.mono (by simp))
  refine (rowQ_any l _ l.length V hne hl2 hn (fun x h => (hx x h).below hb) (fun k x hk => ?_) (hP.below hb)).mono fun e w' ⟨h1, h2⟩ => ⟨h1, hb.trans (h2.mono hb.size)⟩
  refine ⟨W.heap.size, 0, rfl, Nat.lt_of_lt_of_le (by simp) hV.size, ?_⟩
  have h1 := (Blk.new W 20 (l.map Wq.v).toArray)
  rw [hV.cell h1.lt, h1.cell]
  rw [Nat.zero_add, List.getElem?_toArray, List.getElem?_map, hk]
  rfl
theorem szQ (w : World) (o : Obj) : (w.alloc o).heap.size = w.heap.size + 1 := by simp
theorem belQ_alloc {A w : World} {o : Obj} (h : Below A.heap.size A w) : Below A.heap.size A (w.alloc o) := h.alloc h.size o
theorem belQ_one {A w : World} {o : Obj} (h : Below (A.heap.size + 1) (A.alloc o) w) : Below A.heap.size A w := ((Below.refl _ A).alloc (Nat.le_refl _) o).trans (h.mono (by omega))
theorem belQ_drew {A w : World} (h : Below A.heap.size A w) : Below A.heap.size A w.drew := h.drew
theorem boxQ {w : World} {g : Nat} {x : Ii} {a : Option Addr} {c : Nat} (h : Blk w g 45 (insC x a c)) : w.cell? ⟨g, 0, none⟩ = some (.int .i64 x.op) ∧ w.cell? ⟨g, 1, none⟩ = some (.int .i64 x.dst) ∧ w.cell? ⟨g, 2, none⟩ = some (.int .i64 x.a) ∧ w.cell? ⟨g, 3, none⟩ = some (.int .i64 x.b) ∧ w.cell? ⟨g, 4, none⟩ = some (.int .i64 x.imm) ∧ w.cell? ⟨g, 5, none⟩ = some (.int .i64 x.callee) ∧ w.cell? ⟨g, 6, none⟩ = some (.slice a x.args.length c) := ⟨h.cell 0, h.cell 1, h.cell 2, h.cell 3, h.cell 4, h.cell 5, h.cell 6⟩
set_option maxHeartbeats 8000000 in
set_option maxRecDepth 100000 in
theorem rowOf_const (x : Ii) (xa : Option Addr) (xc : Nat) (w : World) (ho : x.op = 1) (hR : InsRq x) (_hA : IntsW w xa x.args) (hP : PowW w) (hN : NamesR w) :
    Calls Tryz.prog 62 #[insV x xa xc] w fun e w' => e = .returned (.string (rowT (insT x))) ∧ Below w.heap.size w w' := by
  have E : insT x = ([.vs [x.dst] (some ⟨((w.alloc (.cells (insC x xa xc) 45))).heap.size, 0, none⟩) 1, .tx ⟨#[226, 134, 144]⟩, .tx (opNmR x.op), .nm x.imm] : List Wq).flatMap Wq.bs := by
    unfold insT
    rw [if_pos ho]
    simp [Wq.bs, larrQ]
  have HB0 : Hid (Below w.heap.size w ((w.alloc (.cells (insC x xa xc) 45)).alloc (.cells #[.int .i64 x.dst] 3))) := ((Below.refl _ w).alloc (Nat.le_refl _) _).alloc (by simp) _
  have hx : ∀ y ∈ ([.vs [x.dst] (some ⟨((w.alloc (.cells (insC x xa xc) 45))).heap.size, 0, none⟩) 1, .tx ⟨#[226, 134, 144]⟩, .tx (opNmR x.op), .nm x.imm] : List Wq), y.ok ((w.alloc (.cells (insC x xa xc) 45)).alloc (.cells #[.int .i64 x.dst] 3)) := by
    intro y hy
    simp only [List.mem_cons, List.not_mem_nil, or_false] at hy
    rcases hy with rfl | rfl | rfl | rfl
    · exact ⟨r64_1 hR.dst, ints1 (Below.refl _ _) rfl⟩
    · (show _ ≤ 50; decide)
    · (show _ ≤ 50; have := opNmR_len x.op; omega)
    · exact hR.imm
  have hfew : (([.vs [x.dst] (some ⟨((w.alloc (.cells (insC x xa xc) 45))).heap.size, 0, none⟩) 1, .tx ⟨#[226, 134, 144]⟩, .tx (opNmR x.op), .nm x.imm] : List Wq).flatMap Wq.bs).length ≤ 100 := by
    have := hR.few
    simp [Wq.bs] <;> omega
  have R : Hid (Calls Tryz.prog 61 #[.slice (some ⟨(((w.alloc (.cells (insC x xa xc) 45)).alloc (.cells #[.int .i64 x.dst] 3))).heap.size, 0, none⟩) 4 4] ((((w.alloc (.cells (insC x xa xc) 45)).alloc (.cells #[.int .i64 x.dst] 3)).alloc (.cells #[.iface 100 (.slice (some ⟨((w.alloc (.cells (insC x xa xc) 45))).heap.size, 0, none⟩) 1 1), .iface 9 (.string ⟨#[226, 134, 144]⟩), .iface 9 (.string (opNmR x.op)), .iface 3 (.int .i64 x.imm)] 20)).drew) fun e w' => e = .returned (.string (rowT (([.vs [x.dst] (some ⟨((w.alloc (.cells (insC x xa xc) 45))).heap.size, 0, none⟩) 1, .tx ⟨#[226, 134, 144]⟩, .tx (opNmR x.op), .nm x.imm] : List Wq).flatMap Wq.bs))) ∧ Below (((w.alloc (.cells (insC x xa xc) 45)).alloc (.cells #[.int .i64 x.dst] 3))).heap.size ((w.alloc (.cells (insC x xa xc) 45)).alloc (.cells #[.int .i64 x.dst] 3)) w') :=
    rowQ_lit [.vs [x.dst] (some ⟨((w.alloc (.cells (insC x xa xc) 45))).heap.size, 0, none⟩) 1, .tx ⟨#[226, 134, 144]⟩, .tx (opNmR x.op), .nm x.imm] ((w.alloc (.cells (insC x xa xc) 45)).alloc (.cells #[.int .i64 x.dst] 3)) _ 4 rfl ((Below.refl _ _).drew) (by simp [Wq.bs]) (by simp) hfew hx (hP.below HB0.out)
  rw [← E] at R
  have HS : Hid (∀ W, Below (((w.alloc (.cells (insC x xa xc) 45)).alloc (.cells #[.int .i64 x.dst] 3))).heap.size ((w.alloc (.cells (insC x xa xc) 45)).alloc (.cells #[.int .i64 x.dst] 3)) W → Below (((w.alloc (.cells (insC x xa xc) 45)).alloc (.cells #[.int .i64 x.dst] 3))).heap.size ((w.alloc (.cells (insC x xa xc) 45)).alloc (.cells #[.int .i64 x.dst] 3)) W ∧ (W.cell? ⟨w.heap.size, 0, none⟩ = some (.int .i64 x.op) ∧ W.cell? ⟨w.heap.size, 2, none⟩ = some (.int .i64 x.a) ∧ W.cell? ⟨w.heap.size, 3, none⟩ = some (.int .i64 x.b) ∧ W.cell? ⟨w.heap.size, 4, none⟩ = some (.int .i64 x.imm)) ∧ W.cell? ⟨0, x.op.toNat, none⟩ = some (.string (opNmR x.op))) := fun W hb => by
    have hb1 : Below w.heap.size w ((w.alloc (.cells (insC x xa xc) 45)).alloc (.cells #[.int .i64 x.dst] 3)) := ((Below.refl _ w).alloc (Nat.le_refl _) _).alloc (by simp) _
    have hk := ((Blk.new w 45 (insC x xa xc)).alloc (Obj.cells #[.int .i64 x.dst] 3))
    obtain ⟨a0, a1, a2, a3, a4, _⟩ := boxQ (hk.below hb hk.lt)
    have hn := (hN.below (hb1.trans (hb.mono hb1.size))).2 x.op.toNat (by omega)
    exact ⟨hb, ⟨a0, a2, a3, a4⟩, hn⟩
  have SX := insC.eq_1 x xa xc
  rw [SX] at R HB0
  rw [SX] at HS
  unfold insV
  generalize rowT (insT x) = res at *
  clear E hx hP SX hR hfew
  generalize opNmR x.op = on at *
  rw [ho] at R HB0 HS ⊢
  clear ho
  go_enter Tryz.func62, Tryz.ntmps62
  go_upto_region 4 with fail
  simp only [szQ] at R HS ⊢
  have hsz : (((w.alloc (.cells #[.int .i64 1, .int .i64 x.dst, .int .i64 x.a, .int .i64 x.b, .int .i64 x.imm, .int .i64 x.callee, .slice xa x.args.length xc, .int .i64 x.many] 45)).alloc (.cells #[.int .i64 x.dst] 3)) : World).heap.size = w.heap.size + 1 + 1 := by simp
  obtain ⟨A, hA⟩ : ∃ A, A = ((w.alloc (.cells #[.int .i64 1, .int .i64 x.dst, .int .i64 x.a, .int .i64 x.b, .int .i64 x.imm, .int .i64 x.callee, .slice xa x.args.length xc, .int .i64 x.many] 45)).alloc (.cells #[.int .i64 x.dst] 3)) := ⟨_, rfl⟩
  rw [← hA] at R HB0 HS hsz ⊢
  rw [← hsz] at R HS
  clear hA hsz
  have hb0 : Below A.heap.size A A.drew := (Below.refl _ _).drew
  go_region_held3 (fun W => Below A.heap.size A W ∧ (W.cell? ⟨w.heap.size, 0, none⟩ = some (.int .i64 1) ∧ W.cell? ⟨w.heap.size, 2, none⟩ = some (.int .i64 x.a) ∧ W.cell? ⟨w.heap.size, 3, none⟩ = some (.int .i64 x.b) ∧ W.cell? ⟨w.heap.size, 4, none⟩ = some (.int .i64 x.imm)) ∧ W.cell? ⟨0, 1, none⟩ = some (.string on))
    (first | (refine HS.out _ ?_; (repeat (first | with_reducible apply belQ_alloc | with_reducible apply belQ_drew)); (first | exact Below.refl _ _ | assumption)))
    (first | (go_at_call 61; (with_reducible refine R.out.mono ?_); rintro e w21 ⟨rfl, hb21⟩))
  all_goals (
    go_wp2
    go_ret
    exact ⟨rfl, HB0.out.trans (hb21.mono (by have h := HB0.out.size; (try simp only [szQ] at h); omega))⟩)
set_option maxHeartbeats 8000000 in
set_option maxRecDepth 100000 in
theorem rowOf_load (x : Ii) (xa : Option Addr) (xc : Nat) (w : World) (ho : x.op = 11) (hR : InsRq x) (_hA : IntsW w xa x.args) (hP : PowW w) (hN : NamesR w) :
    Calls Tryz.prog 62 #[insV x xa xc] w fun e w' => e = .returned (.string (rowT (insT x))) ∧ Below w.heap.size w w' := by
  have E : insT x = ([.vs [x.dst] (some ⟨((w.alloc (.cells (insC x xa xc) 45))).heap.size, 0, none⟩) 1, .tx ⟨#[226, 134, 144]⟩, .tx (opNmR x.op), .vs [x.a] (some ⟨(((w.alloc (.cells (insC x xa xc) 45)).alloc (.cells #[.int .i64 x.dst] 3))).heap.size, 0, none⟩) 1, .nm x.imm] : List Wq).flatMap Wq.bs := by
    unfold insT
    rw [if_neg (by omega), if_pos ho]
    simp [Wq.bs, larrQ]
  have HB0 : Hid (Below w.heap.size w (((w.alloc (.cells (insC x xa xc) 45)).alloc (.cells #[.int .i64 x.dst] 3)).alloc (.cells #[.int .i64 x.a] 3))) := (((Below.refl _ w).alloc (Nat.le_refl _) _).alloc (by simp) _).alloc (by simp only [szQ]; omega) _
  have hx : ∀ y ∈ ([.vs [x.dst] (some ⟨((w.alloc (.cells (insC x xa xc) 45))).heap.size, 0, none⟩) 1, .tx ⟨#[226, 134, 144]⟩, .tx (opNmR x.op), .vs [x.a] (some ⟨(((w.alloc (.cells (insC x xa xc) 45)).alloc (.cells #[.int .i64 x.dst] 3))).heap.size, 0, none⟩) 1, .nm x.imm] : List Wq), y.ok (((w.alloc (.cells (insC x xa xc) 45)).alloc (.cells #[.int .i64 x.dst] 3)).alloc (.cells #[.int .i64 x.a] 3)) := by
    intro y hy
    simp only [List.mem_cons, List.not_mem_nil, or_false] at hy
    rcases hy with rfl | rfl | rfl | rfl | rfl
    · exact ⟨r64_1 hR.dst, ints1 (belQ_alloc (Below.refl _ _)) rfl⟩
    · (show _ ≤ 50; decide)
    · (show _ ≤ 50; have := opNmR_len x.op; omega)
    · exact ⟨r64_1 hR.a, ints1 (Below.refl _ _) rfl⟩
    · exact hR.imm
  have hfew : (([.vs [x.dst] (some ⟨((w.alloc (.cells (insC x xa xc) 45))).heap.size, 0, none⟩) 1, .tx ⟨#[226, 134, 144]⟩, .tx (opNmR x.op), .vs [x.a] (some ⟨(((w.alloc (.cells (insC x xa xc) 45)).alloc (.cells #[.int .i64 x.dst] 3))).heap.size, 0, none⟩) 1, .nm x.imm] : List Wq).flatMap Wq.bs).length ≤ 100 := by
    have := hR.few
    simp [Wq.bs] <;> omega
  have R : Hid (Calls Tryz.prog 61 #[.slice (some ⟨((((w.alloc (.cells (insC x xa xc) 45)).alloc (.cells #[.int .i64 x.dst] 3)).alloc (.cells #[.int .i64 x.a] 3))).heap.size, 0, none⟩) 5 5] (((((w.alloc (.cells (insC x xa xc) 45)).alloc (.cells #[.int .i64 x.dst] 3)).alloc (.cells #[.int .i64 x.a] 3)).alloc (.cells #[.iface 100 (.slice (some ⟨((w.alloc (.cells (insC x xa xc) 45))).heap.size, 0, none⟩) 1 1), .iface 9 (.string ⟨#[226, 134, 144]⟩), .iface 9 (.string (opNmR x.op)), .iface 100 (.slice (some ⟨(((w.alloc (.cells (insC x xa xc) 45)).alloc (.cells #[.int .i64 x.dst] 3))).heap.size, 0, none⟩) 1 1), .iface 3 (.int .i64 x.imm)] 20)).drew) fun e w' => e = .returned (.string (rowT (([.vs [x.dst] (some ⟨((w.alloc (.cells (insC x xa xc) 45))).heap.size, 0, none⟩) 1, .tx ⟨#[226, 134, 144]⟩, .tx (opNmR x.op), .vs [x.a] (some ⟨(((w.alloc (.cells (insC x xa xc) 45)).alloc (.cells #[.int .i64 x.dst] 3))).heap.size, 0, none⟩) 1, .nm x.imm] : List Wq).flatMap Wq.bs))) ∧ Below ((((w.alloc (.cells (insC x xa xc) 45)).alloc (.cells #[.int .i64 x.dst] 3)).alloc (.cells #[.int .i64 x.a] 3))).heap.size (((w.alloc (.cells (insC x xa xc) 45)).alloc (.cells #[.int .i64 x.dst] 3)).alloc (.cells #[.int .i64 x.a] 3)) w') :=
    rowQ_lit [.vs [x.dst] (some ⟨((w.alloc (.cells (insC x xa xc) 45))).heap.size, 0, none⟩) 1, .tx ⟨#[226, 134, 144]⟩, .tx (opNmR x.op), .vs [x.a] (some ⟨(((w.alloc (.cells (insC x xa xc) 45)).alloc (.cells #[.int .i64 x.dst] 3))).heap.size, 0, none⟩) 1, .nm x.imm] (((w.alloc (.cells (insC x xa xc) 45)).alloc (.cells #[.int .i64 x.dst] 3)).alloc (.cells #[.int .i64 x.a] 3)) _ 5 rfl ((Below.refl _ _).drew) (by simp [Wq.bs]) (by simp) hfew hx (hP.below HB0.out)
  rw [← E] at R
  have HS : Hid (∀ W, Below (((w.alloc (.cells (insC x xa xc) 45)).alloc (.cells #[.int .i64 x.dst] 3))).heap.size ((w.alloc (.cells (insC x xa xc) 45)).alloc (.cells #[.int .i64 x.dst] 3)) W → Below (((w.alloc (.cells (insC x xa xc) 45)).alloc (.cells #[.int .i64 x.dst] 3))).heap.size ((w.alloc (.cells (insC x xa xc) 45)).alloc (.cells #[.int .i64 x.dst] 3)) W ∧ (W.cell? ⟨w.heap.size, 0, none⟩ = some (.int .i64 x.op) ∧ W.cell? ⟨w.heap.size, 2, none⟩ = some (.int .i64 x.a) ∧ W.cell? ⟨w.heap.size, 3, none⟩ = some (.int .i64 x.b) ∧ W.cell? ⟨w.heap.size, 4, none⟩ = some (.int .i64 x.imm)) ∧ W.cell? ⟨0, x.op.toNat, none⟩ = some (.string (opNmR x.op))) := fun W hb => by
    have hb1 : Below w.heap.size w ((w.alloc (.cells (insC x xa xc) 45)).alloc (.cells #[.int .i64 x.dst] 3)) := ((Below.refl _ w).alloc (Nat.le_refl _) _).alloc (by simp) _
    have hk := ((Blk.new w 45 (insC x xa xc)).alloc (Obj.cells #[.int .i64 x.dst] 3))
    obtain ⟨a0, a1, a2, a3, a4, _⟩ := boxQ (hk.below hb hk.lt)
    have hn := (hN.below (hb1.trans (hb.mono hb1.size))).2 x.op.toNat (by omega)
    exact ⟨hb, ⟨a0, a2, a3, a4⟩, hn⟩
  have SX := insC.eq_1 x xa xc
  rw [SX] at R HB0
  rw [SX] at HS
  unfold insV
  generalize rowT (insT x) = res at *
  clear E hx hP SX hR hfew
  generalize opNmR x.op = on at *
  rw [ho] at R HB0 HS ⊢
  clear ho
  go_enter Tryz.func62, Tryz.ntmps62
  go_upto_region 6 with fail
  simp only [szQ] at R HS ⊢
  have hsz : (((w.alloc (.cells #[.int .i64 11, .int .i64 x.dst, .int .i64 x.a, .int .i64 x.b, .int .i64 x.imm, .int .i64 x.callee, .slice xa x.args.length xc, .int .i64 x.many] 45)).alloc (.cells #[.int .i64 x.dst] 3)) : World).heap.size = w.heap.size + 1 + 1 := by simp
  obtain ⟨A, hA⟩ : ∃ A, A = ((w.alloc (.cells #[.int .i64 11, .int .i64 x.dst, .int .i64 x.a, .int .i64 x.b, .int .i64 x.imm, .int .i64 x.callee, .slice xa x.args.length xc, .int .i64 x.many] 45)).alloc (.cells #[.int .i64 x.dst] 3)) := ⟨_, rfl⟩
  rw [← hA] at R HB0 HS hsz ⊢
  rw [← hsz] at R HS
  clear hA hsz
  have hb0 : Below A.heap.size A A.drew := (Below.refl _ _).drew
  go_region_held3 (fun W => Below A.heap.size A W ∧ (W.cell? ⟨w.heap.size, 0, none⟩ = some (.int .i64 11) ∧ W.cell? ⟨w.heap.size, 2, none⟩ = some (.int .i64 x.a) ∧ W.cell? ⟨w.heap.size, 3, none⟩ = some (.int .i64 x.b) ∧ W.cell? ⟨w.heap.size, 4, none⟩ = some (.int .i64 x.imm)) ∧ W.cell? ⟨0, 11, none⟩ = some (.string on))
    (first | (refine HS.out _ ?_; (repeat (first | with_reducible apply belQ_alloc | with_reducible apply belQ_drew)); (first | exact Below.refl _ _ | assumption)))
    (first | (go_at_call 61; (with_reducible refine R.out.mono ?_); rintro e w21 ⟨rfl, hb21⟩; have hb22 := belQ_one hb21))
  all_goals (
    go_wp2
    go_ret
    exact ⟨rfl, HB0.out.trans (hb21.mono (by have h := HB0.out.size; (try simp only [szQ] at h); omega))⟩)
set_option maxHeartbeats 8000000 in
set_option maxRecDepth 100000 in
theorem rowOf_store (x : Ii) (xa : Option Addr) (xc : Nat) (w : World) (ho : x.op = 12) (hR : InsRq x) (_hA : IntsW w xa x.args) (hP : PowW w) (_hN : NamesR w) :
    Calls Tryz.prog 62 #[insV x xa xc] w fun e w' => e = .returned (.string (rowT (insT x))) ∧ Below w.heap.size w w' := by
  have E : insT x = ([.tx ⟨#[115, 116, 111, 114, 101]⟩, .vs [x.a] (some ⟨(((w.alloc (.cells (insC x xa xc) 45)).alloc (.cells #[.int .i64 x.dst] 3))).heap.size, 0, none⟩) 1, .nm x.imm, .vs [x.b] (some ⟨((((w.alloc (.cells (insC x xa xc) 45)).alloc (.cells #[.int .i64 x.dst] 3)).alloc (.cells #[.int .i64 x.a] 3))).heap.size, 0, none⟩) 1] : List Wq).flatMap Wq.bs := by
    unfold insT
    rw [if_neg (by omega), if_neg (by omega), if_pos ho]
    simp [Wq.bs, larrQ]
  have HB0 : Hid (Below w.heap.size w ((((w.alloc (.cells (insC x xa xc) 45)).alloc (.cells #[.int .i64 x.dst] 3)).alloc (.cells #[.int .i64 x.a] 3)).alloc (.cells #[.int .i64 x.b] 3))) := ((((Below.refl _ w).alloc (Nat.le_refl _) _).alloc (by simp) _).alloc (by simp only [szQ]; omega) _).alloc (by simp only [szQ]; omega) _
  have hx : ∀ y ∈ ([.tx ⟨#[115, 116, 111, 114, 101]⟩, .vs [x.a] (some ⟨(((w.alloc (.cells (insC x xa xc) 45)).alloc (.cells #[.int .i64 x.dst] 3))).heap.size, 0, none⟩) 1, .nm x.imm, .vs [x.b] (some ⟨((((w.alloc (.cells (insC x xa xc) 45)).alloc (.cells #[.int .i64 x.dst] 3)).alloc (.cells #[.int .i64 x.a] 3))).heap.size, 0, none⟩) 1] : List Wq), y.ok ((((w.alloc (.cells (insC x xa xc) 45)).alloc (.cells #[.int .i64 x.dst] 3)).alloc (.cells #[.int .i64 x.a] 3)).alloc (.cells #[.int .i64 x.b] 3)) := by
    intro y hy
    simp only [List.mem_cons, List.not_mem_nil, or_false] at hy
    rcases hy with rfl | rfl | rfl | rfl
    · (show _ ≤ 50; decide)
    · exact ⟨r64_1 hR.a, ints1 (belQ_alloc (Below.refl _ _)) rfl⟩
    · exact hR.imm
    · exact ⟨r64_1 hR.b, ints1 (Below.refl _ _) rfl⟩
  have hfew : (([.tx ⟨#[115, 116, 111, 114, 101]⟩, .vs [x.a] (some ⟨(((w.alloc (.cells (insC x xa xc) 45)).alloc (.cells #[.int .i64 x.dst] 3))).heap.size, 0, none⟩) 1, .nm x.imm, .vs [x.b] (some ⟨((((w.alloc (.cells (insC x xa xc) 45)).alloc (.cells #[.int .i64 x.dst] 3)).alloc (.cells #[.int .i64 x.a] 3))).heap.size, 0, none⟩) 1] : List Wq).flatMap Wq.bs).length ≤ 100 := by
    have := hR.few
    simp [Wq.bs] <;> omega
  have R : Hid (Calls Tryz.prog 61 #[.slice (some ⟨(((((w.alloc (.cells (insC x xa xc) 45)).alloc (.cells #[.int .i64 x.dst] 3)).alloc (.cells #[.int .i64 x.a] 3)).alloc (.cells #[.int .i64 x.b] 3))).heap.size, 0, none⟩) 4 4] (((((w.alloc (.cells (insC x xa xc) 45)).alloc (.cells #[.int .i64 x.dst] 3)).alloc (.cells #[.int .i64 x.a] 3)).alloc (.cells #[.int .i64 x.b] 3)).alloc (.cells #[.iface 9 (.string ⟨#[115, 116, 111, 114, 101]⟩), .iface 100 (.slice (some ⟨(((w.alloc (.cells (insC x xa xc) 45)).alloc (.cells #[.int .i64 x.dst] 3))).heap.size, 0, none⟩) 1 1), .iface 3 (.int .i64 x.imm), .iface 100 (.slice (some ⟨((((w.alloc (.cells (insC x xa xc) 45)).alloc (.cells #[.int .i64 x.dst] 3)).alloc (.cells #[.int .i64 x.a] 3))).heap.size, 0, none⟩) 1 1)] 20)) fun e w' => e = .returned (.string (rowT (([.tx ⟨#[115, 116, 111, 114, 101]⟩, .vs [x.a] (some ⟨(((w.alloc (.cells (insC x xa xc) 45)).alloc (.cells #[.int .i64 x.dst] 3))).heap.size, 0, none⟩) 1, .nm x.imm, .vs [x.b] (some ⟨((((w.alloc (.cells (insC x xa xc) 45)).alloc (.cells #[.int .i64 x.dst] 3)).alloc (.cells #[.int .i64 x.a] 3))).heap.size, 0, none⟩) 1] : List Wq).flatMap Wq.bs))) ∧ Below (((((w.alloc (.cells (insC x xa xc) 45)).alloc (.cells #[.int .i64 x.dst] 3)).alloc (.cells #[.int .i64 x.a] 3)).alloc (.cells #[.int .i64 x.b] 3))).heap.size ((((w.alloc (.cells (insC x xa xc) 45)).alloc (.cells #[.int .i64 x.dst] 3)).alloc (.cells #[.int .i64 x.a] 3)).alloc (.cells #[.int .i64 x.b] 3)) w') :=
    rowQ_lit [.tx ⟨#[115, 116, 111, 114, 101]⟩, .vs [x.a] (some ⟨(((w.alloc (.cells (insC x xa xc) 45)).alloc (.cells #[.int .i64 x.dst] 3))).heap.size, 0, none⟩) 1, .nm x.imm, .vs [x.b] (some ⟨((((w.alloc (.cells (insC x xa xc) 45)).alloc (.cells #[.int .i64 x.dst] 3)).alloc (.cells #[.int .i64 x.a] 3))).heap.size, 0, none⟩) 1] ((((w.alloc (.cells (insC x xa xc) 45)).alloc (.cells #[.int .i64 x.dst] 3)).alloc (.cells #[.int .i64 x.a] 3)).alloc (.cells #[.int .i64 x.b] 3)) _ 4 rfl (Below.refl _ _) (by simp [Wq.bs]) (by simp) hfew hx (hP.below HB0.out)
  rw [← E] at R
  have SX := insC.eq_1 x xa xc
  rw [SX] at R HB0
  simp only [szQ] at R
  unfold insV
  generalize rowT (insT x) = res at *
  clear E hx hP SX hR hfew
  rw [ho] at R HB0 ⊢
  clear ho
  go_enter Tryz.func62, Tryz.ntmps62
  go_wp2_with fail
  refine R.out.mono ?_
  rintro e w21 ⟨rfl, hb21⟩
  go_wp2
  go_ret
  exact ⟨rfl, HB0.out.trans (hb21.mono (by first | omega | (simp; omega) | simp))⟩
set_option maxHeartbeats 8000000 in
set_option maxRecDepth 100000 in
theorem rowOf_call (x : Ii) (xa : Option Addr) (xc : Nat) (w : World) (ho : x.op = 13 ∧ x.dst = 0) (hR : InsRq x) (hA : IntsW w xa x.args) (hP : PowW w) (_hN : NamesR w) :
    Calls Tryz.prog 62 #[insV x xa xc] w fun e w' => e = .returned (.string (rowT (insT x))) ∧ Below w.heap.size w w' := by
  have E : insT x = ([.tx ⟨#[99, 97, 108, 108]⟩, .nm x.callee, .vs x.args xa xc] : List Wq).flatMap Wq.bs := by
    unfold insT
    rw [if_neg (by omega), if_neg (by omega), if_neg (by omega), if_pos ho.1, if_pos ho.2]
    simp [Wq.bs, larrQ]
  have HB0 : Hid (Below w.heap.size w ((w.alloc (.cells (insC x xa xc) 45)).alloc (.cells #[.int .i64 x.dst] 3))) := ((Below.refl _ w).alloc (Nat.le_refl _) _).alloc (by simp) _
  have hx : ∀ y ∈ ([.tx ⟨#[99, 97, 108, 108]⟩, .nm x.callee, .vs x.args xa xc] : List Wq), y.ok ((w.alloc (.cells (insC x xa xc) 45)).alloc (.cells #[.int .i64 x.dst] 3)) := by
    intro y hy
    simp only [List.mem_cons, List.not_mem_nil, or_false] at hy
    rcases hy with rfl | rfl | rfl
    · (show _ ≤ 50; decide)
    · exact hR.callee
    · exact ⟨hR.args, hA.below HB0.out⟩
  have hfew : (([.tx ⟨#[99, 97, 108, 108]⟩, .nm x.callee, .vs x.args xa xc] : List Wq).flatMap Wq.bs).length ≤ 100 := by
    have := hR.few
    simp [Wq.bs] <;> omega
  have R : Hid (Calls Tryz.prog 61 #[.slice (some ⟨(((w.alloc (.cells (insC x xa xc) 45)).alloc (.cells #[.int .i64 x.dst] 3))).heap.size, 0, none⟩) 3 3] (((w.alloc (.cells (insC x xa xc) 45)).alloc (.cells #[.int .i64 x.dst] 3)).alloc (.cells #[.iface 9 (.string ⟨#[99, 97, 108, 108]⟩), .iface 3 (.int .i64 x.callee), .iface 100 (.slice xa x.args.length xc)] 20)) fun e w' => e = .returned (.string (rowT (([.tx ⟨#[99, 97, 108, 108]⟩, .nm x.callee, .vs x.args xa xc] : List Wq).flatMap Wq.bs))) ∧ Below (((w.alloc (.cells (insC x xa xc) 45)).alloc (.cells #[.int .i64 x.dst] 3))).heap.size ((w.alloc (.cells (insC x xa xc) 45)).alloc (.cells #[.int .i64 x.dst] 3)) w') :=
    rowQ_lit [.tx ⟨#[99, 97, 108, 108]⟩, .nm x.callee, .vs x.args xa xc] ((w.alloc (.cells (insC x xa xc) 45)).alloc (.cells #[.int .i64 x.dst] 3)) _ 3 rfl (Below.refl _ _) (by simp [Wq.bs]) (by simp) hfew hx (hP.below HB0.out)
  rw [← E] at R
  have SX := insC.eq_1 x xa xc
  rw [SX] at R HB0
  simp only [szQ] at R
  unfold insV
  generalize rowT (insT x) = res at *
  clear E hx hP SX hR hfew
  obtain ⟨ho, hd⟩ := ho
  rw [ho, hd] at R HB0 ⊢
  clear ho hd
  go_enter Tryz.func62, Tryz.ntmps62
  go_wp2_with fail
  refine R.out.mono ?_
  rintro e w21 ⟨rfl, hb21⟩
  go_wp2
  go_ret
  exact ⟨rfl, HB0.out.trans (hb21.mono (by first | omega | (simp; omega) | simp))⟩
set_option maxHeartbeats 8000000 in
set_option maxRecDepth 100000 in
theorem rowOf_callD (x : Ii) (xa : Option Addr) (xc : Nat) (w : World) (ho : x.op = 13 ∧ ¬ x.dst = 0) (hR : InsRq x) (hA : IntsW w xa x.args) (hP : PowW w) (_hN : NamesR w) :
    Calls Tryz.prog 62 #[insV x xa xc] w fun e w' => e = .returned (.string (rowT (insT x))) ∧ Below w.heap.size w w' := by
  have E : insT x = ([.vs [x.dst] (some ⟨((w.alloc (.cells (insC x xa xc) 45))).heap.size, 0, none⟩) 1, .tx ⟨#[226, 134, 144]⟩, .tx ⟨#[99, 97, 108, 108]⟩, .nm x.callee, .vs x.args xa xc] : List Wq).flatMap Wq.bs := by
    unfold insT
    rw [if_neg (by omega), if_neg (by omega), if_neg (by omega), if_pos ho.1, if_neg ho.2]
    simp [Wq.bs, larrQ]
  have HB0 : Hid (Below w.heap.size w ((w.alloc (.cells (insC x xa xc) 45)).alloc (.cells #[.int .i64 x.dst] 3))) := ((Below.refl _ w).alloc (Nat.le_refl _) _).alloc (by simp) _
  have hx : ∀ y ∈ ([.vs [x.dst] (some ⟨((w.alloc (.cells (insC x xa xc) 45))).heap.size, 0, none⟩) 1, .tx ⟨#[226, 134, 144]⟩, .tx ⟨#[99, 97, 108, 108]⟩, .nm x.callee, .vs x.args xa xc] : List Wq), y.ok ((w.alloc (.cells (insC x xa xc) 45)).alloc (.cells #[.int .i64 x.dst] 3)) := by
    intro y hy
    simp only [List.mem_cons, List.not_mem_nil, or_false] at hy
    rcases hy with rfl | rfl | rfl | rfl | rfl
    · exact ⟨r64_1 hR.dst, ints1 (Below.refl _ _) rfl⟩
    · (show _ ≤ 50; decide)
    · (show _ ≤ 50; decide)
    · exact hR.callee
    · exact ⟨hR.args, hA.below HB0.out⟩
  have hfew : (([.vs [x.dst] (some ⟨((w.alloc (.cells (insC x xa xc) 45))).heap.size, 0, none⟩) 1, .tx ⟨#[226, 134, 144]⟩, .tx ⟨#[99, 97, 108, 108]⟩, .nm x.callee, .vs x.args xa xc] : List Wq).flatMap Wq.bs).length ≤ 100 := by
    have := hR.few
    simp [Wq.bs] <;> omega
  have R : Hid (Calls Tryz.prog 61 #[.slice (some ⟨(((w.alloc (.cells (insC x xa xc) 45)).alloc (.cells #[.int .i64 x.dst] 3))).heap.size, 0, none⟩) 5 5] (((w.alloc (.cells (insC x xa xc) 45)).alloc (.cells #[.int .i64 x.dst] 3)).alloc (.cells #[.iface 100 (.slice (some ⟨((w.alloc (.cells (insC x xa xc) 45))).heap.size, 0, none⟩) 1 1), .iface 9 (.string ⟨#[226, 134, 144]⟩), .iface 9 (.string ⟨#[99, 97, 108, 108]⟩), .iface 3 (.int .i64 x.callee), .iface 100 (.slice xa x.args.length xc)] 20)) fun e w' => e = .returned (.string (rowT (([.vs [x.dst] (some ⟨((w.alloc (.cells (insC x xa xc) 45))).heap.size, 0, none⟩) 1, .tx ⟨#[226, 134, 144]⟩, .tx ⟨#[99, 97, 108, 108]⟩, .nm x.callee, .vs x.args xa xc] : List Wq).flatMap Wq.bs))) ∧ Below (((w.alloc (.cells (insC x xa xc) 45)).alloc (.cells #[.int .i64 x.dst] 3))).heap.size ((w.alloc (.cells (insC x xa xc) 45)).alloc (.cells #[.int .i64 x.dst] 3)) w') :=
    rowQ_lit [.vs [x.dst] (some ⟨((w.alloc (.cells (insC x xa xc) 45))).heap.size, 0, none⟩) 1, .tx ⟨#[226, 134, 144]⟩, .tx ⟨#[99, 97, 108, 108]⟩, .nm x.callee, .vs x.args xa xc] ((w.alloc (.cells (insC x xa xc) 45)).alloc (.cells #[.int .i64 x.dst] 3)) _ 5 rfl (Below.refl _ _) (by simp [Wq.bs]) (by simp) hfew hx (hP.below HB0.out)
  rw [← E] at R
  have SX := insC.eq_1 x xa xc
  rw [SX] at R HB0
  simp only [szQ] at R
  unfold insV
  generalize rowT (insT x) = res at *
  clear E hx hP SX hR hfew
  obtain ⟨ho, hd⟩ := ho
  rw [ho] at R HB0 ⊢
  clear ho
  go_enter Tryz.func62, Tryz.ntmps62
  go_wp2_with fail
  refine R.out.mono ?_
  rintro e w21 ⟨rfl, hb21⟩
  go_wp2
  go_ret
  exact ⟨rfl, HB0.out.trans (hb21.mono (by first | omega | (simp; omega) | simp))⟩
set_option maxHeartbeats 8000000 in
set_option maxRecDepth 100000 in
theorem rowOf_copy (x : Ii) (xa : Option Addr) (xc : Nat) (w : World) (ho : x.op = 14) (hR : InsRq x) (_hA : IntsW w xa x.args) (hP : PowW w) (_hN : NamesR w) :
    Calls Tryz.prog 62 #[insV x xa xc] w fun e w' => e = .returned (.string (rowT (insT x))) ∧ Below w.heap.size w w' := by
  have E : insT x = ([.vs [x.dst] (some ⟨((w.alloc (.cells (insC x xa xc) 45))).heap.size, 0, none⟩) 1, .tx ⟨#[226, 134, 144]⟩, .vs [x.a] (some ⟨(((w.alloc (.cells (insC x xa xc) 45)).alloc (.cells #[.int .i64 x.dst] 3))).heap.size, 0, none⟩) 1] : List Wq).flatMap Wq.bs := by
    unfold insT
    rw [if_neg (by omega), if_neg (by omega), if_neg (by omega), if_neg (by omega), if_pos ho]
    simp [Wq.bs, larrQ]
  have HB0 : Hid (Below w.heap.size w (((w.alloc (.cells (insC x xa xc) 45)).alloc (.cells #[.int .i64 x.dst] 3)).alloc (.cells #[.int .i64 x.a] 3))) := (((Below.refl _ w).alloc (Nat.le_refl _) _).alloc (by simp) _).alloc (by simp only [szQ]; omega) _
  have hx : ∀ y ∈ ([.vs [x.dst] (some ⟨((w.alloc (.cells (insC x xa xc) 45))).heap.size, 0, none⟩) 1, .tx ⟨#[226, 134, 144]⟩, .vs [x.a] (some ⟨(((w.alloc (.cells (insC x xa xc) 45)).alloc (.cells #[.int .i64 x.dst] 3))).heap.size, 0, none⟩) 1] : List Wq), y.ok (((w.alloc (.cells (insC x xa xc) 45)).alloc (.cells #[.int .i64 x.dst] 3)).alloc (.cells #[.int .i64 x.a] 3)) := by
    intro y hy
    simp only [List.mem_cons, List.not_mem_nil, or_false] at hy
    rcases hy with rfl | rfl | rfl
    · exact ⟨r64_1 hR.dst, ints1 (belQ_alloc (Below.refl _ _)) rfl⟩
    · (show _ ≤ 50; decide)
    · exact ⟨r64_1 hR.a, ints1 (Below.refl _ _) rfl⟩
  have hfew : (([.vs [x.dst] (some ⟨((w.alloc (.cells (insC x xa xc) 45))).heap.size, 0, none⟩) 1, .tx ⟨#[226, 134, 144]⟩, .vs [x.a] (some ⟨(((w.alloc (.cells (insC x xa xc) 45)).alloc (.cells #[.int .i64 x.dst] 3))).heap.size, 0, none⟩) 1] : List Wq).flatMap Wq.bs).length ≤ 100 := by
    have := hR.few
    simp [Wq.bs] <;> omega
  have R : Hid (Calls Tryz.prog 61 #[.slice (some ⟨((((w.alloc (.cells (insC x xa xc) 45)).alloc (.cells #[.int .i64 x.dst] 3)).alloc (.cells #[.int .i64 x.a] 3))).heap.size, 0, none⟩) 3 3] ((((w.alloc (.cells (insC x xa xc) 45)).alloc (.cells #[.int .i64 x.dst] 3)).alloc (.cells #[.int .i64 x.a] 3)).alloc (.cells #[.iface 100 (.slice (some ⟨((w.alloc (.cells (insC x xa xc) 45))).heap.size, 0, none⟩) 1 1), .iface 9 (.string ⟨#[226, 134, 144]⟩), .iface 100 (.slice (some ⟨(((w.alloc (.cells (insC x xa xc) 45)).alloc (.cells #[.int .i64 x.dst] 3))).heap.size, 0, none⟩) 1 1)] 20)) fun e w' => e = .returned (.string (rowT (([.vs [x.dst] (some ⟨((w.alloc (.cells (insC x xa xc) 45))).heap.size, 0, none⟩) 1, .tx ⟨#[226, 134, 144]⟩, .vs [x.a] (some ⟨(((w.alloc (.cells (insC x xa xc) 45)).alloc (.cells #[.int .i64 x.dst] 3))).heap.size, 0, none⟩) 1] : List Wq).flatMap Wq.bs))) ∧ Below ((((w.alloc (.cells (insC x xa xc) 45)).alloc (.cells #[.int .i64 x.dst] 3)).alloc (.cells #[.int .i64 x.a] 3))).heap.size (((w.alloc (.cells (insC x xa xc) 45)).alloc (.cells #[.int .i64 x.dst] 3)).alloc (.cells #[.int .i64 x.a] 3)) w') :=
    rowQ_lit [.vs [x.dst] (some ⟨((w.alloc (.cells (insC x xa xc) 45))).heap.size, 0, none⟩) 1, .tx ⟨#[226, 134, 144]⟩, .vs [x.a] (some ⟨(((w.alloc (.cells (insC x xa xc) 45)).alloc (.cells #[.int .i64 x.dst] 3))).heap.size, 0, none⟩) 1] (((w.alloc (.cells (insC x xa xc) 45)).alloc (.cells #[.int .i64 x.dst] 3)).alloc (.cells #[.int .i64 x.a] 3)) _ 3 rfl (Below.refl _ _) (by simp [Wq.bs]) (by simp) hfew hx (hP.below HB0.out)
  rw [← E] at R
  have SX := insC.eq_1 x xa xc
  rw [SX] at R HB0
  simp only [szQ] at R
  unfold insV
  generalize rowT (insT x) = res at *
  clear E hx hP SX hR hfew
  rw [ho] at R HB0 ⊢
  clear ho
  go_enter Tryz.func62, Tryz.ntmps62
  go_wp2_with fail
  refine R.out.mono ?_
  rintro e w21 ⟨rfl, hb21⟩
  go_wp2
  go_ret
  exact ⟨rfl, HB0.out.trans (hb21.mono (by first | omega | (simp; omega) | simp))⟩
set_option maxHeartbeats 8000000 in
set_option maxRecDepth 100000 in
theorem rowOf_bin (x : Ii) (xa : Option Addr) (xc : Nat) (w : World) (ho : 2 ≤ x.op ∧ x.op ≤ 10) (hR : InsRq x) (_hA : IntsW w xa x.args) (hP : PowW w) (hN : NamesR w) :
    Calls Tryz.prog 62 #[insV x xa xc] w fun e w' => e = .returned (.string (rowT (insT x))) ∧ Below w.heap.size w w' := by
  have E : insT x = ([.vs [x.dst] (some ⟨((w.alloc (.cells (insC x xa xc) 45))).heap.size, 0, none⟩) 1, .tx ⟨#[226, 134, 144]⟩, .tx (opNmR x.op), .vs [x.a, x.b] (some ⟨(((w.alloc (.cells (insC x xa xc) 45)).alloc (.cells #[.int .i64 x.dst] 3))).heap.size, 0, none⟩) 2] : List Wq).flatMap Wq.bs := by
    unfold insT
    rw [if_neg (by omega), if_neg (by omega), if_neg (by omega), if_neg (by omega), if_neg (by omega)]
    simp [Wq.bs, larrQ]
  have HB0 : Hid (Below w.heap.size w (((w.alloc (.cells (insC x xa xc) 45)).alloc (.cells #[.int .i64 x.dst] 3)).alloc (.cells #[.int .i64 x.a, .int .i64 x.b] 3))) := (((Below.refl _ w).alloc (Nat.le_refl _) _).alloc (by simp) _).alloc (by simp only [szQ]; omega) _
  have hx : ∀ y ∈ ([.vs [x.dst] (some ⟨((w.alloc (.cells (insC x xa xc) 45))).heap.size, 0, none⟩) 1, .tx ⟨#[226, 134, 144]⟩, .tx (opNmR x.op), .vs [x.a, x.b] (some ⟨(((w.alloc (.cells (insC x xa xc) 45)).alloc (.cells #[.int .i64 x.dst] 3))).heap.size, 0, none⟩) 2] : List Wq), y.ok (((w.alloc (.cells (insC x xa xc) 45)).alloc (.cells #[.int .i64 x.dst] 3)).alloc (.cells #[.int .i64 x.a, .int .i64 x.b] 3)) := by
    intro y hy
    simp only [List.mem_cons, List.not_mem_nil, or_false] at hy
    rcases hy with rfl | rfl | rfl | rfl
    · exact ⟨r64_1 hR.dst, ints1 (belQ_alloc (Below.refl _ _)) rfl⟩
    · (show _ ≤ 50; decide)
    · (show _ ≤ 50; have := opNmR_len x.op; omega)
    · exact ⟨r64_2 hR.a hR.b, ints2 (Below.refl _ _) rfl⟩
  have hfew : (([.vs [x.dst] (some ⟨((w.alloc (.cells (insC x xa xc) 45))).heap.size, 0, none⟩) 1, .tx ⟨#[226, 134, 144]⟩, .tx (opNmR x.op), .vs [x.a, x.b] (some ⟨(((w.alloc (.cells (insC x xa xc) 45)).alloc (.cells #[.int .i64 x.dst] 3))).heap.size, 0, none⟩) 2] : List Wq).flatMap Wq.bs).length ≤ 100 := by
    have := hR.few
    simp [Wq.bs] <;> omega
  have R : Hid (Calls Tryz.prog 61 #[.slice (some ⟨((((w.alloc (.cells (insC x xa xc) 45)).alloc (.cells #[.int .i64 x.dst] 3)).alloc (.cells #[.int .i64 x.a, .int .i64 x.b] 3))).heap.size, 0, none⟩) 4 4] (((((w.alloc (.cells (insC x xa xc) 45)).alloc (.cells #[.int .i64 x.dst] 3)).alloc (.cells #[.int .i64 x.a, .int .i64 x.b] 3)).alloc (.cells #[.iface 100 (.slice (some ⟨((w.alloc (.cells (insC x xa xc) 45))).heap.size, 0, none⟩) 1 1), .iface 9 (.string ⟨#[226, 134, 144]⟩), .iface 9 (.string (opNmR x.op)), .iface 100 (.slice (some ⟨(((w.alloc (.cells (insC x xa xc) 45)).alloc (.cells #[.int .i64 x.dst] 3))).heap.size, 0, none⟩) 2 2)] 20)).drew) fun e w' => e = .returned (.string (rowT (([.vs [x.dst] (some ⟨((w.alloc (.cells (insC x xa xc) 45))).heap.size, 0, none⟩) 1, .tx ⟨#[226, 134, 144]⟩, .tx (opNmR x.op), .vs [x.a, x.b] (some ⟨(((w.alloc (.cells (insC x xa xc) 45)).alloc (.cells #[.int .i64 x.dst] 3))).heap.size, 0, none⟩) 2] : List Wq).flatMap Wq.bs))) ∧ Below ((((w.alloc (.cells (insC x xa xc) 45)).alloc (.cells #[.int .i64 x.dst] 3)).alloc (.cells #[.int .i64 x.a, .int .i64 x.b] 3))).heap.size (((w.alloc (.cells (insC x xa xc) 45)).alloc (.cells #[.int .i64 x.dst] 3)).alloc (.cells #[.int .i64 x.a, .int .i64 x.b] 3)) w') :=
    rowQ_lit [.vs [x.dst] (some ⟨((w.alloc (.cells (insC x xa xc) 45))).heap.size, 0, none⟩) 1, .tx ⟨#[226, 134, 144]⟩, .tx (opNmR x.op), .vs [x.a, x.b] (some ⟨(((w.alloc (.cells (insC x xa xc) 45)).alloc (.cells #[.int .i64 x.dst] 3))).heap.size, 0, none⟩) 2] (((w.alloc (.cells (insC x xa xc) 45)).alloc (.cells #[.int .i64 x.dst] 3)).alloc (.cells #[.int .i64 x.a, .int .i64 x.b] 3)) _ 4 rfl ((Below.refl _ _).drew) (by simp [Wq.bs]) (by simp) hfew hx (hP.below HB0.out)
  rw [← E] at R
  have HS : Hid (∀ W, Below (((w.alloc (.cells (insC x xa xc) 45)).alloc (.cells #[.int .i64 x.dst] 3))).heap.size ((w.alloc (.cells (insC x xa xc) 45)).alloc (.cells #[.int .i64 x.dst] 3)) W → Below (((w.alloc (.cells (insC x xa xc) 45)).alloc (.cells #[.int .i64 x.dst] 3))).heap.size ((w.alloc (.cells (insC x xa xc) 45)).alloc (.cells #[.int .i64 x.dst] 3)) W ∧ (W.cell? ⟨w.heap.size, 0, none⟩ = some (.int .i64 x.op) ∧ W.cell? ⟨w.heap.size, 2, none⟩ = some (.int .i64 x.a) ∧ W.cell? ⟨w.heap.size, 3, none⟩ = some (.int .i64 x.b) ∧ W.cell? ⟨w.heap.size, 4, none⟩ = some (.int .i64 x.imm)) ∧ W.cell? ⟨0, x.op.toNat, none⟩ = some (.string (opNmR x.op))) := fun W hb => by
    have hb1 : Below w.heap.size w ((w.alloc (.cells (insC x xa xc) 45)).alloc (.cells #[.int .i64 x.dst] 3)) := ((Below.refl _ w).alloc (Nat.le_refl _) _).alloc (by simp) _
    have hk := ((Blk.new w 45 (insC x xa xc)).alloc (Obj.cells #[.int .i64 x.dst] 3))
    obtain ⟨a0, a1, a2, a3, a4, _⟩ := boxQ (hk.below hb hk.lt)
    have hn := (hN.below (hb1.trans (hb.mono hb1.size))).2 x.op.toNat (by omega)
    exact ⟨hb, ⟨a0, a2, a3, a4⟩, hn⟩
  have SX := insC.eq_1 x xa xc
  rw [SX] at R HB0
  rw [SX] at HS
  unfold insV
  generalize rowT (insT x) = res at *
  clear E hx hP SX hR hfew
  generalize opNmR x.op = on at *
  have hox : (0 : Int) ≤ x.op := by omega
  have hoy : x.op < 12 := by omega
  have hn1 : ¬ x.op = 1 := by omega
  have hn11 : ¬ x.op = 11 := by omega
  have hn12 : ¬ x.op = 12 := by omega
  have hn13 : ¬ x.op = 13 := by omega
  have hn14 : ¬ x.op = 14 := by omega
  go_enter Tryz.func62, Tryz.ntmps62
  go_upto_region 15 with fail
  simp only [szQ] at R HS ⊢
  have hsz : (((w.alloc (.cells #[.int .i64 x.op, .int .i64 x.dst, .int .i64 x.a, .int .i64 x.b, .int .i64 x.imm, .int .i64 x.callee, .slice xa x.args.length xc, .int .i64 x.many] 45)).alloc (.cells #[.int .i64 x.dst] 3)) : World).heap.size = w.heap.size + 1 + 1 := by simp
  obtain ⟨A, hA⟩ : ∃ A, A = ((w.alloc (.cells #[.int .i64 x.op, .int .i64 x.dst, .int .i64 x.a, .int .i64 x.b, .int .i64 x.imm, .int .i64 x.callee, .slice xa x.args.length xc, .int .i64 x.many] 45)).alloc (.cells #[.int .i64 x.dst] 3)) := ⟨_, rfl⟩
  rw [← hA] at R HB0 HS hsz ⊢
  rw [← hsz] at R HS
  clear hA hsz
  have hb0 : Below A.heap.size A A.drew := (Below.refl _ _).drew
  go_region_held3 (fun W => Below A.heap.size A W ∧ (W.cell? ⟨w.heap.size, 0, none⟩ = some (.int .i64 x.op) ∧ W.cell? ⟨w.heap.size, 2, none⟩ = some (.int .i64 x.a) ∧ W.cell? ⟨w.heap.size, 3, none⟩ = some (.int .i64 x.b) ∧ W.cell? ⟨w.heap.size, 4, none⟩ = some (.int .i64 x.imm)) ∧ W.cell? ⟨0, x.op.toNat, none⟩ = some (.string on))
    (first | (refine HS.out _ ?_; (repeat (first | with_reducible apply belQ_alloc | with_reducible apply belQ_drew)); (first | exact Below.refl _ _ | assumption)))
    (first | (go_at_call 61; (with_reducible refine R.out.mono ?_); rintro e w21 ⟨rfl, hb21⟩; have hb22 := belQ_one hb21))
  all_goals (
    go_wp2
    go_ret
    exact ⟨rfl, HB0.out.trans (hb21.mono (by have h := HB0.out.size; (try simp only [szQ] at h); omega))⟩)
theorem rowOf_any (x : Ii) (xa : Option Addr) (xc : Nat) (w : World) (ho : 1 ≤ x.op ∧ x.op ≤ 14) (hR : InsRq x) (hA : IntsW w xa x.args) (hP : PowW w) (hN : NamesR w) :
    Calls Tryz.prog 62 #[insV x xa xc] w fun e w' => e = .returned (.string (rowT (insT x))) ∧ Below w.heap.size w w' := by
  have h : x.op = 1 ∨ (2 ≤ x.op ∧ x.op ≤ 10) ∨ x.op = 11 ∨ x.op = 12 ∨ x.op = 13 ∨ x.op = 14 := by omega
  rcases h with h | h | h | h | h | h
  · exact rowOf_const x xa xc w h hR hA hP hN
  · exact rowOf_bin x xa xc w h hR hA hP hN
  · exact rowOf_load x xa xc w h hR hA hP hN
  · exact rowOf_store x xa xc w h hR hA hP hN
  · by_cases hd : x.dst = 0
    · exact rowOf_call x xa xc w ⟨h, hd⟩ hR hA hP hN
    · exact rowOf_callD x xa xc w ⟨h, hd⟩ hR hA hP hN
  · exact rowOf_copy x xa xc w h hR hA hP hN
end Go.Proofs.YthiipgahbmoiiaaGreatDoor
