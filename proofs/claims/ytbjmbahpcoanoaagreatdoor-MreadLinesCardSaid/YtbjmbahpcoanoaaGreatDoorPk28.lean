/-
  Package mread's part: an instruction, or an end, by the first word of its line (written by gen/mpp.py). Conditions: the library's tables, its errors, and the Ops' names are there.
-/
import Derived.Test.YtbjmbahpcoanoaaGreatDoorPk27
import Derived.Deep.RegionHeld3
import Derived.Deep.CutRange
namespace Go.Proofs.YtbjmbahpcoanoaaGreatDoor
open Go.RowKit

theorem key_off {c : Cu} {s : ByteArray} (h : c.keyB s = false) : c.key s = c := by unfold Cu.key; rw [h]; rfl
theorem is_off {c : Cu} {s : ByteArray} (h : c.isB s = false) : c.is s = c := by unfold Cu.is; rw [h]; rfl
theorem key_went {w0 w : World} {q g : Nat} {c : Cu} {s : ByteArray} {b : Bool} (h : Rp w0 w q g c) (hb : c.keyB s = b) : Calls Tryz.prog 113 #[.pointer (some ⟨g, 0, none⟩), .string s] w fun e w' => e = .returned (.bool b) ∧ Went w0 w q g (c.key s) w' := by
 subst hb
 exact went_call h (h.fit.key s) (key_any g c s w h.C)
theorem key_miss {w0 w : World} {q g : Nat} {c : Cu} {s : ByteArray} (h : Rp w0 w q g c) (hb : c.keyB s = false) : Calls Tryz.prog 113 #[.pointer (some ⟨g, 0, none⟩), .string s] w fun e w' => e = .returned (.bool false) ∧ Went w0 w q g c w' := by
 have := key_went h hb
 rw [key_off hb] at this
 exact this
theorem is_went {w0 w : World} {q g : Nat} {c : Cu} {s : ByteArray} {b : Bool} (h : Rp w0 w q g c) (hb : c.isB s = b) : Calls Tryz.prog 160 #[.pointer (some ⟨g, 0, none⟩), .string s] w fun e w' => e = .returned (.bool b) ∧ Went w0 w q g (c.is s) w' := by
 subst hb
 exact went_call h (h.fit.is s) (isI_any g c s w h.C)
theorem is_miss {w0 w : World} {q g : Nat} {c : Cu} {s : ByteArray} (h : Rp w0 w q g c) (hb : c.isB s = false) : Calls Tryz.prog 160 #[.pointer (some ⟨g, 0, none⟩), .string s] w fun e w' => e = .returned (.bool false) ∧ Went w0 w q g c w' := by
 have := is_went h hb
 rw [is_off hb] at this
 exact this
theorem slot_miss {w0 w : World} {q g : Nat} {c : Cu} (hT : TabR w0) (h : Rp w0 w q g c) (hb : c.slotB = false) : Calls Tryz.prog 162 #[.pointer (some ⟨q, 0, none⟩)] w fun e w' => e = .returned (.tuple #[.int .i64 c.slotN, .bool false]) ∧ Went w0 w q g c w' := by
 have := slotP_any w0 w q g c hT h
 rw [hb] at this
 have e : c.slotC = c := by unfold Cu.slotC; rw [if_neg (by rw [hb]; decide)]
 rw [e] at this
 exact this
theorem slot_hit {w0 w : World} {q g : Nat} {c : Cu} (hT : TabR w0) (h : Rp w0 w q g c) (hb : c.slotB = true) : Calls Tryz.prog 162 #[.pointer (some ⟨q, 0, none⟩)] w fun e w' => e = .returned (.tuple #[.int .i64 c.slotN, .bool true]) ∧ Went w0 w q g c.slotC w' := by
 have := slotP_any w0 w q g c hT h
 rw [hb] at this
 exact this
theorem mark_went {w0 w : World} {q g : Nat} {c : Cu} (h : Rp w0 w q g c) : Calls Tryz.prog 163 #[.pointer (some ⟨g, 0, none⟩), .slice (some ⟨w.heap.size, 0, none⟩) 1 1] (w.alloc (.cells #[.string ⟨#[226, 134, 144]⟩] 9)) fun e w' => e = .returned (.tuple #[]) ∧ Went w0 w q g (c.mark [⟨#[226, 134, 144]⟩]) w' := by
 have hb : Below w.heap.size w (w.alloc (.cells #[.string ⟨#[226, 134, 144]⟩] 9)) := (Below.refl _ _).alloc (Nat.le_refl _) _
 have h1 := h.below hb
 exact (markC_any g c [⟨#[226, 134, 144]⟩] w.heap.size 1 _ h1.C ⟨_, Blk.new w _ _, fun k s hs => by
  rcases k with _ | k
  · simpa using hs
  · simp at hs⟩ (by simp)).mono fun e w' ⟨g1, g2, g3⟩ => ⟨g1, h1.call g2 g3 (h.fit.mark _), (Keep.of_below hb g).then_keep g3⟩
set_option maxRecDepth 100000 in
set_option maxHeartbeats 8000000 in
theorem part_store (w0 w : World) (q g : Nat) (c : Cu) (hT : TabR w0) (h : Rp w0 w q g c) (kk : c.keyB ⟨#[115, 116, 111, 114, 101]⟩ = true) :
    Calls Tryz.prog 117 #[.pointer (some ⟨q, 0, none⟩)] w fun e w' => e = .returned (.iface 46 (.agg #[.int .i64 12, .int .i64 0, .int .i64 (Cu.regN (Cu.key c ⟨#[115, 116, 111, 114, 101]⟩)), .int .i64 (Cu.regN (Cu.num (Cu.regC (Cu.key c ⟨#[115, 116, 111, 114, 101]⟩)) (-1099511627776) 1099511627776)), .int .i64 (Cu.numN (Cu.regC (Cu.key c ⟨#[115, 116, 111, 114, 101]⟩)) (-1099511627776) 1099511627776), .int .i64 0, .slice none 0 0, .int .i64 0])) ∧ Went w0 w q g (Cu.regC (Cu.num (Cu.regC (Cu.key c ⟨#[115, 116, 111, 114, 101]⟩)) (-1099511627776) 1099511627776)) w' := by
 have HR : Hid ((.returned (.iface 46 (.agg #[.int .i64 12, .int .i64 0, .int .i64 (Cu.regN (Cu.key c ⟨#[115, 116, 111, 114, 101]⟩)), .int .i64 (Cu.regN (Cu.num (Cu.regC (Cu.key c ⟨#[115, 116, 111, 114, 101]⟩)) (-1099511627776) 1099511627776)), .int .i64 (Cu.numN (Cu.regC (Cu.key c ⟨#[115, 116, 111, 114, 101]⟩)) (-1099511627776) 1099511627776), .int .i64 0, .slice none 0 0, .int .i64 0])) : Ending) = .returned (.iface 46 (.agg #[.int .i64 12, .int .i64 0, .int .i64 (Cu.regN (Cu.key c ⟨#[115, 116, 111, 114, 101]⟩)), .int .i64 (Cu.regN (Cu.num (Cu.regC (Cu.key c ⟨#[115, 116, 111, 114, 101]⟩)) (-1099511627776) 1099511627776)), .int .i64 (Cu.numN (Cu.regC (Cu.key c ⟨#[115, 116, 111, 114, 101]⟩)) (-1099511627776) 1099511627776), .int .i64 0, .slice none 0 0, .int .i64 0]))) := rfl
 have S1 : Hid (∀ W, Rp w0 W q g c → _) := fun W hr => key_went hr kk
 have S2 : Hid (∀ W, Rp w0 W q g (Cu.key c ⟨#[115, 116, 111, 114, 101]⟩) → _) := fun W hr => regP_any w0 W q g (Cu.key c ⟨#[115, 116, 111, 114, 101]⟩) hT hr
 have S3 : Hid (∀ W, Rp w0 W q g (Cu.regC (Cu.key c ⟨#[115, 116, 111, 114, 101]⟩)) → _) := fun W hr => immP_any w0 W q g (Cu.regC (Cu.key c ⟨#[115, 116, 111, 114, 101]⟩)) hr
 have S4 : Hid (∀ W, Rp w0 W q g (Cu.num (Cu.regC (Cu.key c ⟨#[115, 116, 111, 114, 101]⟩)) (-1099511627776) 1099511627776) → _) := fun W hr => regP_any w0 W q g (Cu.num (Cu.regC (Cu.key c ⟨#[115, 116, 111, 114, 101]⟩)) (-1099511627776) 1099511627776) hT hr
 have W0 : Hid (Went w0 w q g c w) := Went.refl h
 have m0 := h.cell
 clear h HR kk
 generalize (Cu.regN (Cu.num (Cu.regC (Cu.key c ⟨#[115, 116, 111, 114, 101]⟩)) (-1099511627776) 1099511627776)) = n4 at *
 generalize (Cu.regC (Cu.num (Cu.regC (Cu.key c ⟨#[115, 116, 111, 114, 101]⟩)) (-1099511627776) 1099511627776)) = d4 at *
 generalize (Cu.numN (Cu.regC (Cu.key c ⟨#[115, 116, 111, 114, 101]⟩)) (-1099511627776) 1099511627776) = n3 at *
 generalize (Cu.num (Cu.regC (Cu.key c ⟨#[115, 116, 111, 114, 101]⟩)) (-1099511627776) 1099511627776) = d3 at *
 generalize (Cu.regN (Cu.key c ⟨#[115, 116, 111, 114, 101]⟩)) = n2 at *
 generalize (Cu.regC (Cu.key c ⟨#[115, 116, 111, 114, 101]⟩)) = d2 at *
 generalize (Cu.key c ⟨#[115, 116, 111, 114, 101]⟩) = d1 at *
 go_enter Tryz.func117, Tryz.ntmps117
 go_wp2_with fail
 refine (S1.out _ W0.out.1).mono ?_
 rintro e w1 ⟨rfl, h1⟩
 have W1 := Lib.hid (W0.out.then h1)
 have m1 := h1.1.cell
 clear h1 m0 S1 W0
 go_wp2_with fail
 refine (S2.out _ W1.out.1).mono ?_
 rintro e w2 ⟨rfl, h2⟩
 have W2 := Lib.hid (W1.out.then h2)
 have m2 := h2.1.cell
 clear h2 m1 S2 W1
 go_wp2_with fail
 refine (S3.out _ W2.out.1).mono ?_
 rintro e w3 ⟨rfl, h3⟩
 have W3 := Lib.hid (W2.out.then h3)
 have m3 := h3.1.cell
 clear h3 m2 S3 W2
 go_wp2_with fail
 refine (S4.out _ W3.out.1).mono ?_
 rintro e w4 ⟨rfl, h4⟩
 have W4 := Lib.hid (W3.out.then h4)
 have m4 := h4.1.cell
 clear h4 m3 S4 W3
 go_wp2
 go_ret
 exact ⟨rfl, W4.out⟩
set_option maxRecDepth 100000 in
set_option maxHeartbeats 8000000 in
theorem part_return (w0 w : World) (q g : Nat) (c : Cu) (hT : TabR w0) (h : Rp w0 w q g c) (k0 : c.keyB ⟨#[115, 116, 111, 114, 101]⟩ = false) (k1 : c.keyB ⟨#[99, 97, 108, 108]⟩ = false) (kk : c.keyB ⟨#[114, 101, 116, 117, 114, 110]⟩ = true) :
    Calls Tryz.prog 117 #[.pointer (some ⟨q, 0, none⟩)] w fun e w' => e = .returned (.iface 51 (.agg #[.int .i64 3, .int .i64 (Cu.toldN (Cu.key c ⟨#[114, 101, 116, 117, 114, 110]⟩)), .int .i64 0, .int .i64 0])) ∧ Went w0 w q g (Cu.toldC (Cu.key c ⟨#[114, 101, 116, 117, 114, 110]⟩)) w' := by
 have HR : Hid ((.returned (.iface 51 (.agg #[.int .i64 3, .int .i64 (Cu.toldN (Cu.key c ⟨#[114, 101, 116, 117, 114, 110]⟩)), .int .i64 0, .int .i64 0])) : Ending) = .returned (.iface 51 (.agg #[.int .i64 3, .int .i64 (Cu.toldN (Cu.key c ⟨#[114, 101, 116, 117, 114, 110]⟩)), .int .i64 0, .int .i64 0]))) := rfl
 have M0 : Hid (∀ W, Rp w0 W q g c → _) := fun W hr => key_miss hr k0
 have M1 : Hid (∀ W, Rp w0 W q g c → _) := fun W hr => key_miss hr k1
 have S1 : Hid (∀ W, Rp w0 W q g c → _) := fun W hr => key_went hr kk
 have S2 : Hid (∀ W, Rp w0 W q g (Cu.key c ⟨#[114, 101, 116, 117, 114, 110]⟩) → _) := fun W hr => toldP_any w0 W q g (Cu.key c ⟨#[114, 101, 116, 117, 114, 110]⟩) hT hr
 have W0 : Hid (Went w0 w q g c w) := Went.refl h
 have m0 := h.cell
 clear h HR k0 k1 kk
 generalize (Cu.toldN (Cu.key c ⟨#[114, 101, 116, 117, 114, 110]⟩)) = n2 at *
 generalize (Cu.toldC (Cu.key c ⟨#[114, 101, 116, 117, 114, 110]⟩)) = d2 at *
 generalize (Cu.key c ⟨#[114, 101, 116, 117, 114, 110]⟩) = d1 at *
 go_enter Tryz.func117, Tryz.ntmps117
 go_wp2_with fail
 refine (M0.out _ W0.out.1).mono ?_
 rintro e w1 ⟨rfl, h1⟩
 have W1 := Lib.hid (W0.out.then h1)
 have m1 := h1.1.cell
 clear h1 m0 M0 W0
 go_wp2_with fail
 refine (M1.out _ W1.out.1).mono ?_
 rintro e w2 ⟨rfl, h2⟩
 have W2 := Lib.hid (W1.out.then h2)
 have m2 := h2.1.cell
 clear h2 m1 M1 W1
 go_wp2_with fail
 refine (S1.out _ W2.out.1).mono ?_
 rintro e w3 ⟨rfl, h3⟩
 have W3 := Lib.hid (W2.out.then h3)
 have m3 := h3.1.cell
 clear h3 m2 S1 W2
 go_wp2_with fail
 refine (S2.out _ W3.out.1).mono ?_
 rintro e w4 ⟨rfl, h4⟩
 have W4 := Lib.hid (W3.out.then h4)
 have m4 := h4.1.cell
 clear h4 m3 S2 W3
 go_wp2
 go_ret
 exact ⟨rfl, W4.out⟩
set_option maxRecDepth 100000 in
set_option maxHeartbeats 8000000 in
theorem part_trap (w0 w : World) (q g : Nat) (c : Cu) (_hT : TabR w0) (h : Rp w0 w q g c) (k0 : c.keyB ⟨#[115, 116, 111, 114, 101]⟩ = false) (k1 : c.keyB ⟨#[99, 97, 108, 108]⟩ = false) (k2 : c.keyB ⟨#[114, 101, 116, 117, 114, 110]⟩ = false) (kk : c.keyB ⟨#[116, 114, 97, 112]⟩ = true) :
    Calls Tryz.prog 117 #[.pointer (some ⟨q, 0, none⟩)] w fun e w' => e = .returned (.iface 51 (.agg #[.int .i64 4, .int .i64 0, .int .i64 0, .int .i64 0])) ∧ Went w0 w q g (Cu.key c ⟨#[116, 114, 97, 112]⟩) w' := by
 have HR : Hid ((.returned (.iface 51 (.agg #[.int .i64 4, .int .i64 0, .int .i64 0, .int .i64 0])) : Ending) = .returned (.iface 51 (.agg #[.int .i64 4, .int .i64 0, .int .i64 0, .int .i64 0]))) := rfl
 have M0 : Hid (∀ W, Rp w0 W q g c → _) := fun W hr => key_miss hr k0
 have M1 : Hid (∀ W, Rp w0 W q g c → _) := fun W hr => key_miss hr k1
 have M2 : Hid (∀ W, Rp w0 W q g c → _) := fun W hr => key_miss hr k2
 have S1 : Hid (∀ W, Rp w0 W q g c → _) := fun W hr => key_went hr kk
 have W0 : Hid (Went w0 w q g c w) := Went.refl h
 have m0 := h.cell
 clear h HR k0 k1 k2 kk
 generalize (Cu.key c ⟨#[116, 114, 97, 112]⟩) = d1 at *
 go_enter Tryz.func117, Tryz.ntmps117
 go_wp2_with fail
 refine (M0.out _ W0.out.1).mono ?_
 rintro e w1 ⟨rfl, h1⟩
 have W1 := Lib.hid (W0.out.then h1)
 have m1 := h1.1.cell
 clear h1 m0 M0 W0
 go_wp2_with fail
 refine (M1.out _ W1.out.1).mono ?_
 rintro e w2 ⟨rfl, h2⟩
 have W2 := Lib.hid (W1.out.then h2)
 have m2 := h2.1.cell
 clear h2 m1 M1 W1
 go_wp2_with fail
 refine (M2.out _ W2.out.1).mono ?_
 rintro e w3 ⟨rfl, h3⟩
 have W3 := Lib.hid (W2.out.then h3)
 have m3 := h3.1.cell
 clear h3 m2 M2 W2
 go_wp2_with fail
 refine (S1.out _ W3.out.1).mono ?_
 rintro e w4 ⟨rfl, h4⟩
 have W4 := Lib.hid (W3.out.then h4)
 have m4 := h4.1.cell
 clear h4 m3 S1 W3
 go_wp2
 go_ret
 exact ⟨rfl, W4.out⟩
set_option maxRecDepth 100000 in
set_option maxHeartbeats 8000000 in
theorem part_jump (w0 w : World) (q g : Nat) (c : Cu) (_hT : TabR w0) (h : Rp w0 w q g c) (k0 : c.keyB ⟨#[115, 116, 111, 114, 101]⟩ = false) (k1 : c.keyB ⟨#[99, 97, 108, 108]⟩ = false) (k2 : c.keyB ⟨#[114, 101, 116, 117, 114, 110]⟩ = false) (k3 : c.keyB ⟨#[116, 114, 97, 112]⟩ = false) (kk : c.isB ⟨#[226, 134, 146]⟩ = true) :
    Calls Tryz.prog 117 #[.pointer (some ⟨q, 0, none⟩)] w fun e w' => e = .returned (.iface 51 (.agg #[.int .i64 1, .int .i64 0, .int .i64 (Cu.numN (Cu.is c ⟨#[226, 134, 146]⟩) 0 199), .int .i64 0])) ∧ Went w0 w q g (Cu.num (Cu.is c ⟨#[226, 134, 146]⟩) 0 199) w' := by
 have HR : Hid ((.returned (.iface 51 (.agg #[.int .i64 1, .int .i64 0, .int .i64 (Cu.numN (Cu.is c ⟨#[226, 134, 146]⟩) 0 199), .int .i64 0])) : Ending) = .returned (.iface 51 (.agg #[.int .i64 1, .int .i64 0, .int .i64 (Cu.numN (Cu.is c ⟨#[226, 134, 146]⟩) 0 199), .int .i64 0]))) := rfl
 have M0 : Hid (∀ W, Rp w0 W q g c → _) := fun W hr => key_miss hr k0
 have M1 : Hid (∀ W, Rp w0 W q g c → _) := fun W hr => key_miss hr k1
 have M2 : Hid (∀ W, Rp w0 W q g c → _) := fun W hr => key_miss hr k2
 have M3 : Hid (∀ W, Rp w0 W q g c → _) := fun W hr => key_miss hr k3
 have S1 : Hid (∀ W, Rp w0 W q g c → _) := fun W hr => is_went hr kk
 have S2 : Hid (∀ W, Rp w0 W q g (Cu.is c ⟨#[226, 134, 146]⟩) → _) := fun W hr => toP_any w0 W q g (Cu.is c ⟨#[226, 134, 146]⟩) hr
 have W0 : Hid (Went w0 w q g c w) := Went.refl h
 have m0 := h.cell
 clear h HR k0 k1 k2 k3 kk
 generalize (Cu.numN (Cu.is c ⟨#[226, 134, 146]⟩) 0 199) = n2 at *
 generalize (Cu.num (Cu.is c ⟨#[226, 134, 146]⟩) 0 199) = d2 at *
 generalize (Cu.is c ⟨#[226, 134, 146]⟩) = d1 at *
 go_enter Tryz.func117, Tryz.ntmps117
 go_wp2_with fail
 refine (M0.out _ W0.out.1).mono ?_
 rintro e w1 ⟨rfl, h1⟩
 have W1 := Lib.hid (W0.out.then h1)
 have m1 := h1.1.cell
 clear h1 m0 M0 W0
 go_wp2_with fail
 refine (M1.out _ W1.out.1).mono ?_
 rintro e w2 ⟨rfl, h2⟩
 have W2 := Lib.hid (W1.out.then h2)
 have m2 := h2.1.cell
 clear h2 m1 M1 W1
 go_wp2_with fail
 refine (M2.out _ W2.out.1).mono ?_
 rintro e w3 ⟨rfl, h3⟩
 have W3 := Lib.hid (W2.out.then h3)
 have m3 := h3.1.cell
 clear h3 m2 M2 W2
 go_wp2_with fail
 refine (M3.out _ W3.out.1).mono ?_
 rintro e w4 ⟨rfl, h4⟩
 have W4 := Lib.hid (W3.out.then h4)
 have m4 := h4.1.cell
 clear h4 m3 M3 W3
 go_wp2_with fail
 refine (S1.out _ W4.out.1).mono ?_
 rintro e w5 ⟨rfl, h5⟩
 have W5 := Lib.hid (W4.out.then h5)
 have m5 := h5.1.cell
 clear h5 m4 S1 W4
 go_wp2_with fail
 refine (S2.out _ W5.out.1).mono ?_
 rintro e w6 ⟨rfl, h6⟩
 have W6 := Lib.hid (W5.out.then h6)
 have m6 := h6.1.cell
 clear h6 m5 S2 W5
 go_wp2
 go_ret
 exact ⟨rfl, W6.out⟩
set_option maxRecDepth 100000 in
set_option maxHeartbeats 8000000 in
theorem part_put (w0 w : World) (q g : Nat) (c : Cu) (hT : TabR w0) (h : Rp w0 w q g c) (k0 : c.keyB ⟨#[115, 116, 111, 114, 101]⟩ = false) (k1 : c.keyB ⟨#[99, 97, 108, 108]⟩ = false) (k2 : c.keyB ⟨#[114, 101, 116, 117, 114, 110]⟩ = false) (k3 : c.keyB ⟨#[116, 114, 97, 112]⟩ = false) (k4 : c.isB ⟨#[226, 134, 146]⟩ = false) (kk : c.slotB = true) :
    Calls Tryz.prog 117 #[.pointer (some ⟨q, 0, none⟩)] w fun e w' => e = .returned (.iface 46 (.agg #[.int .i64 16, .int .i64 0, .int .i64 (Cu.regN (Cu.mark (Cu.slotC c) [⟨#[226, 134, 144]⟩])), .int .i64 0, .int .i64 (Cu.slotN c), .int .i64 0, .slice none 0 0, .int .i64 0])) ∧ Went w0 w q g (Cu.regC (Cu.mark (Cu.slotC c) [⟨#[226, 134, 144]⟩])) w' := by
 have HR : Hid ((.returned (.iface 46 (.agg #[.int .i64 16, .int .i64 0, .int .i64 (Cu.regN (Cu.mark (Cu.slotC c) [⟨#[226, 134, 144]⟩])), .int .i64 0, .int .i64 (Cu.slotN c), .int .i64 0, .slice none 0 0, .int .i64 0])) : Ending) = .returned (.iface 46 (.agg #[.int .i64 16, .int .i64 0, .int .i64 (Cu.regN (Cu.mark (Cu.slotC c) [⟨#[226, 134, 144]⟩])), .int .i64 0, .int .i64 (Cu.slotN c), .int .i64 0, .slice none 0 0, .int .i64 0]))) := rfl
 have M0 : Hid (∀ W, Rp w0 W q g c → _) := fun W hr => key_miss hr k0
 have M1 : Hid (∀ W, Rp w0 W q g c → _) := fun W hr => key_miss hr k1
 have M2 : Hid (∀ W, Rp w0 W q g c → _) := fun W hr => key_miss hr k2
 have M3 : Hid (∀ W, Rp w0 W q g c → _) := fun W hr => key_miss hr k3
 have M4 : Hid (∀ W, Rp w0 W q g c → _) := fun W hr => is_miss hr k4
 have S1 : Hid (∀ W, Rp w0 W q g c → _) := fun W hr => slot_hit hT hr kk
 have S2 : Hid (∀ W, Rp w0 W q g (Cu.slotC c) → _) := fun W hr => mark_went hr
 have S3 : Hid (∀ W, Rp w0 W q g (Cu.mark (Cu.slotC c) [⟨#[226, 134, 144]⟩]) → _) := fun W hr => regP_any w0 W q g (Cu.mark (Cu.slotC c) [⟨#[226, 134, 144]⟩]) hT hr
 have W0 : Hid (Went w0 w q g c w) := Went.refl h
 have m0 := h.cell
 clear h HR k0 k1 k2 k3 k4 kk
 generalize (Cu.regN (Cu.mark (Cu.slotC c) [⟨#[226, 134, 144]⟩])) = n3 at *
 generalize (Cu.regC (Cu.mark (Cu.slotC c) [⟨#[226, 134, 144]⟩])) = d3 at *
 generalize (Cu.mark (Cu.slotC c) [⟨#[226, 134, 144]⟩]) = d2 at *
 generalize (Cu.slotN c) = n1 at *
 generalize (Cu.slotC c) = d1 at *
 go_enter Tryz.func117, Tryz.ntmps117
 go_wp2_with fail
 refine (M0.out _ W0.out.1).mono ?_
 rintro e w1 ⟨rfl, h1⟩
 have W1 := Lib.hid (W0.out.then h1)
 have m1 := h1.1.cell
 clear h1 m0 M0 W0
 go_wp2_with fail
 refine (M1.out _ W1.out.1).mono ?_
 rintro e w2 ⟨rfl, h2⟩
 have W2 := Lib.hid (W1.out.then h2)
 have m2 := h2.1.cell
 clear h2 m1 M1 W1
 go_wp2_with fail
 refine (M2.out _ W2.out.1).mono ?_
 rintro e w3 ⟨rfl, h3⟩
 have W3 := Lib.hid (W2.out.then h3)
 have m3 := h3.1.cell
 clear h3 m2 M2 W2
 go_wp2_with fail
 refine (M3.out _ W3.out.1).mono ?_
 rintro e w4 ⟨rfl, h4⟩
 have W4 := Lib.hid (W3.out.then h4)
 have m4 := h4.1.cell
 clear h4 m3 M3 W3
 go_wp2_with fail
 refine (M4.out _ W4.out.1).mono ?_
 rintro e w5 ⟨rfl, h5⟩
 have W5 := Lib.hid (W4.out.then h5)
 have m5 := h5.1.cell
 clear h5 m4 M4 W4
 go_wp2_with fail
 refine (S1.out _ W5.out.1).mono ?_
 rintro e w6 ⟨rfl, h6⟩
 have W6 := Lib.hid (W5.out.then h6)
 have m6 := h6.1.cell
 clear h6 m5 S1 W5
 go_wp2_with fail
 refine (S2.out _ W6.out.1).mono ?_
 rintro e w7 ⟨rfl, h7⟩
 have W7 := Lib.hid (W6.out.then h7)
 have m7 := h7.1.cell
 clear h7 m6 S2 W6
 go_wp2_with fail
 refine (S3.out _ W7.out.1).mono ?_
 rintro e w8 ⟨rfl, h8⟩
 have W8 := Lib.hid (W7.out.then h8)
 have m8 := h8.1.cell
 clear h8 m7 S3 W7
 go_wp2
 go_ret
 exact ⟨rfl, W8.out⟩
set_option maxRecDepth 100000 in
set_option maxHeartbeats 8000000 in
theorem part_branch (w0 w : World) (q g : Nat) (c : Cu) (hT : TabR w0) (h : Rp w0 w q g c) (k0 : c.keyB ⟨#[115, 116, 111, 114, 101]⟩ = false) (k1 : c.keyB ⟨#[99, 97, 108, 108]⟩ = false) (k2 : c.keyB ⟨#[114, 101, 116, 117, 114, 110]⟩ = false) (k3 : c.keyB ⟨#[116, 114, 97, 112]⟩ = false) (k4 : c.isB ⟨#[226, 134, 146]⟩ = false) (k5 : c.slotB = false) (kk : (Cu.regC c).isB ⟨#[226, 134, 146]⟩ = true) :
    Calls Tryz.prog 117 #[.pointer (some ⟨q, 0, none⟩)] w fun e w' => e = .returned (.iface 51 (.agg #[.int .i64 2, .int .i64 (Cu.regN c), .int .i64 (Cu.numN (Cu.is (Cu.regC c) ⟨#[226, 134, 146]⟩) 0 199), .int .i64 (Cu.numN (Cu.num (Cu.is (Cu.regC c) ⟨#[226, 134, 146]⟩) 0 199) 0 199)])) ∧ Went w0 w q g (Cu.num (Cu.num (Cu.is (Cu.regC c) ⟨#[226, 134, 146]⟩) 0 199) 0 199) w' := by
 have HR : Hid ((.returned (.iface 51 (.agg #[.int .i64 2, .int .i64 (Cu.regN c), .int .i64 (Cu.numN (Cu.is (Cu.regC c) ⟨#[226, 134, 146]⟩) 0 199), .int .i64 (Cu.numN (Cu.num (Cu.is (Cu.regC c) ⟨#[226, 134, 146]⟩) 0 199) 0 199)])) : Ending) = .returned (.iface 51 (.agg #[.int .i64 2, .int .i64 (Cu.regN c), .int .i64 (Cu.numN (Cu.is (Cu.regC c) ⟨#[226, 134, 146]⟩) 0 199), .int .i64 (Cu.numN (Cu.num (Cu.is (Cu.regC c) ⟨#[226, 134, 146]⟩) 0 199) 0 199)]))) := rfl
 have M0 : Hid (∀ W, Rp w0 W q g c → _) := fun W hr => key_miss hr k0
 have M1 : Hid (∀ W, Rp w0 W q g c → _) := fun W hr => key_miss hr k1
 have M2 : Hid (∀ W, Rp w0 W q g c → _) := fun W hr => key_miss hr k2
 have M3 : Hid (∀ W, Rp w0 W q g c → _) := fun W hr => key_miss hr k3
 have M4 : Hid (∀ W, Rp w0 W q g c → _) := fun W hr => is_miss hr k4
 have M5 : Hid (∀ W, Rp w0 W q g c → _) := fun W hr => slot_miss hT hr k5
 have S1 : Hid (∀ W, Rp w0 W q g c → _) := fun W hr => regP_any w0 W q g c hT hr
 have S2 : Hid (∀ W, Rp w0 W q g (Cu.regC c) → _) := fun W hr => is_went hr kk
 have S3 : Hid (∀ W, Rp w0 W q g (Cu.is (Cu.regC c) ⟨#[226, 134, 146]⟩) → _) := fun W hr => toP_any w0 W q g (Cu.is (Cu.regC c) ⟨#[226, 134, 146]⟩) hr
 have S4 : Hid (∀ W, Rp w0 W q g (Cu.num (Cu.is (Cu.regC c) ⟨#[226, 134, 146]⟩) 0 199) → _) := fun W hr => toP_any w0 W q g (Cu.num (Cu.is (Cu.regC c) ⟨#[226, 134, 146]⟩) 0 199) hr
 have W0 : Hid (Went w0 w q g c w) := Went.refl h
 have m0 := h.cell
 clear h HR k0 k1 k2 k3 k4 k5 kk
 generalize (Cu.numN (Cu.num (Cu.is (Cu.regC c) ⟨#[226, 134, 146]⟩) 0 199) 0 199) = n4 at *
 generalize (Cu.num (Cu.num (Cu.is (Cu.regC c) ⟨#[226, 134, 146]⟩) 0 199) 0 199) = d4 at *
 generalize (Cu.numN (Cu.is (Cu.regC c) ⟨#[226, 134, 146]⟩) 0 199) = n3 at *
 generalize (Cu.num (Cu.is (Cu.regC c) ⟨#[226, 134, 146]⟩) 0 199) = d3 at *
 generalize (Cu.is (Cu.regC c) ⟨#[226, 134, 146]⟩) = d2 at *
 generalize (Cu.regN c) = n1 at *
 generalize (Cu.regC c) = d1 at *
 go_enter Tryz.func117, Tryz.ntmps117
 go_wp2_with fail
 refine (M0.out _ W0.out.1).mono ?_
 rintro e w1 ⟨rfl, h1⟩
 have W1 := Lib.hid (W0.out.then h1)
 have m1 := h1.1.cell
 clear h1 m0 M0 W0
 go_wp2_with fail
 refine (M1.out _ W1.out.1).mono ?_
 rintro e w2 ⟨rfl, h2⟩
 have W2 := Lib.hid (W1.out.then h2)
 have m2 := h2.1.cell
 clear h2 m1 M1 W1
 go_wp2_with fail
 refine (M2.out _ W2.out.1).mono ?_
 rintro e w3 ⟨rfl, h3⟩
 have W3 := Lib.hid (W2.out.then h3)
 have m3 := h3.1.cell
 clear h3 m2 M2 W2
 go_wp2_with fail
 refine (M3.out _ W3.out.1).mono ?_
 rintro e w4 ⟨rfl, h4⟩
 have W4 := Lib.hid (W3.out.then h4)
 have m4 := h4.1.cell
 clear h4 m3 M3 W3
 go_wp2_with fail
 refine (M4.out _ W4.out.1).mono ?_
 rintro e w5 ⟨rfl, h5⟩
 have W5 := Lib.hid (W4.out.then h5)
 have m5 := h5.1.cell
 clear h5 m4 M4 W4
 go_wp2_with fail
 refine (M5.out _ W5.out.1).mono ?_
 rintro e w6 ⟨rfl, h6⟩
 have W6 := Lib.hid (W5.out.then h6)
 have m6 := h6.1.cell
 clear h6 m5 M5 W5
 go_wp2_with fail
 refine (S1.out _ W6.out.1).mono ?_
 rintro e w7 ⟨rfl, h7⟩
 have W7 := Lib.hid (W6.out.then h7)
 have m7 := h7.1.cell
 clear h7 m6 S1 W6
 go_wp2_with fail
 refine (S2.out _ W7.out.1).mono ?_
 rintro e w8 ⟨rfl, h8⟩
 have W8 := Lib.hid (W7.out.then h8)
 have m8 := h8.1.cell
 clear h8 m7 S2 W7
 go_wp2_with fail
 refine (S3.out _ W8.out.1).mono ?_
 rintro e w9 ⟨rfl, h9⟩
 have W9 := Lib.hid (W8.out.then h9)
 have m9 := h9.1.cell
 clear h9 m8 S3 W8
 go_wp2_with fail
 refine (S4.out _ W9.out.1).mono ?_
 rintro e w10 ⟨rfl, h10⟩
 have W10 := Lib.hid (W9.out.then h10)
 have m10 := h10.1.cell
 clear h10 m9 S4 W9
 go_wp2
 go_ret
 exact ⟨rfl, W10.out⟩
set_option maxRecDepth 100000 in
set_option maxHeartbeats 8000000 in
theorem part_value (w0 w : World) (q g : Nat) (c : Cu) (hT : TabR w0) (h : Rp w0 w q g c) (k0 : c.keyB ⟨#[115, 116, 111, 114, 101]⟩ = false) (k1 : c.keyB ⟨#[99, 97, 108, 108]⟩ = false) (k2 : c.keyB ⟨#[114, 101, 116, 117, 114, 110]⟩ = false) (k3 : c.keyB ⟨#[116, 114, 97, 112]⟩ = false) (k4 : c.isB ⟨#[226, 134, 146]⟩ = false) (k5 : c.slotB = false) (kk : (Cu.regC c).isB ⟨#[226, 134, 146]⟩ = false) :
    Calls Tryz.prog 117 #[.pointer (some ⟨q, 0, none⟩)] w fun e w' => e = .returned (.iface 46 (insV (Cu.valI (Cu.mark (Cu.regC c) [⟨#[226, 134, 144]⟩]) (Cu.regN c)) none 0)) ∧ Went w0 w q g (Cu.valC (Cu.mark (Cu.regC c) [⟨#[226, 134, 144]⟩])) w' := by
 have HR : Hid ((.returned (.iface 46 (insV (Cu.valI (Cu.mark (Cu.regC c) [⟨#[226, 134, 144]⟩]) (Cu.regN c)) none 0)) : Ending) = .returned (.iface 46 (insV (Cu.valI (Cu.mark (Cu.regC c) [⟨#[226, 134, 144]⟩]) (Cu.regN c)) none 0))) := rfl
 have M0 : Hid (∀ W, Rp w0 W q g c → _) := fun W hr => key_miss hr k0
 have M1 : Hid (∀ W, Rp w0 W q g c → _) := fun W hr => key_miss hr k1
 have M2 : Hid (∀ W, Rp w0 W q g c → _) := fun W hr => key_miss hr k2
 have M3 : Hid (∀ W, Rp w0 W q g c → _) := fun W hr => key_miss hr k3
 have M4 : Hid (∀ W, Rp w0 W q g c → _) := fun W hr => is_miss hr k4
 have M5 : Hid (∀ W, Rp w0 W q g c → _) := fun W hr => slot_miss hT hr k5
 have S1 : Hid (∀ W, Rp w0 W q g c → _) := fun W hr => regP_any w0 W q g c hT hr
 have S2 : Hid (∀ W, Rp w0 W q g (Cu.regC c) → _) := fun W hr => is_miss hr kk
 have S3 : Hid (∀ W, Rp w0 W q g (Cu.regC c) → _) := fun W hr => mark_went hr
 have S4 : Hid (∀ W, Rp w0 W q g (Cu.mark (Cu.regC c) [⟨#[226, 134, 144]⟩]) → _) := fun W hr => valueP_any w0 W q g (Cu.mark (Cu.regC c) [⟨#[226, 134, 144]⟩]) (Cu.regN c) hT hr
 have W0 : Hid (Went w0 w q g c w) := Went.refl h
 have m0 := h.cell
 clear h HR k0 k1 k2 k3 k4 k5 kk
 have SV := insV.eq_1 (Cu.valI (Cu.mark (Cu.regC c) [⟨#[226, 134, 144]⟩]) (Cu.regN c)) none 0
 generalize (Cu.valI (Cu.mark (Cu.regC c) [⟨#[226, 134, 144]⟩]) (Cu.regN c)) = x at *
 generalize (Cu.valC (Cu.mark (Cu.regC c) [⟨#[226, 134, 144]⟩])) = d4 at *
 generalize (Cu.mark (Cu.regC c) [⟨#[226, 134, 144]⟩]) = d3 at *
 generalize (Cu.regN c) = n1 at *
 generalize (Cu.regC c) = d1 at *
 go_enter Tryz.func117, Tryz.ntmps117
 go_wp2_with fail
 refine (M0.out _ W0.out.1).mono ?_
 rintro e w1 ⟨rfl, h1⟩
 have W1 := Lib.hid (W0.out.then h1)
 have m1 := h1.1.cell
 clear h1 m0 M0 W0
 go_wp2_with fail
 refine (M1.out _ W1.out.1).mono ?_
 rintro e w2 ⟨rfl, h2⟩
 have W2 := Lib.hid (W1.out.then h2)
 have m2 := h2.1.cell
 clear h2 m1 M1 W1
 go_wp2_with fail
 refine (M2.out _ W2.out.1).mono ?_
 rintro e w3 ⟨rfl, h3⟩
 have W3 := Lib.hid (W2.out.then h3)
 have m3 := h3.1.cell
 clear h3 m2 M2 W2
 go_wp2_with fail
 refine (M3.out _ W3.out.1).mono ?_
 rintro e w4 ⟨rfl, h4⟩
 have W4 := Lib.hid (W3.out.then h4)
 have m4 := h4.1.cell
 clear h4 m3 M3 W3
 go_wp2_with fail
 refine (M4.out _ W4.out.1).mono ?_
 rintro e w5 ⟨rfl, h5⟩
 have W5 := Lib.hid (W4.out.then h5)
 have m5 := h5.1.cell
 clear h5 m4 M4 W4
 go_wp2_with fail
 refine (M5.out _ W5.out.1).mono ?_
 rintro e w6 ⟨rfl, h6⟩
 have W6 := Lib.hid (W5.out.then h6)
 have m6 := h6.1.cell
 clear h6 m5 M5 W5
 go_wp2_with fail
 refine (S1.out _ W6.out.1).mono ?_
 rintro e w7 ⟨rfl, h7⟩
 have W7 := Lib.hid (W6.out.then h7)
 have m7 := h7.1.cell
 clear h7 m6 S1 W6
 go_wp2_with fail
 refine (S2.out _ W7.out.1).mono ?_
 rintro e w8 ⟨rfl, h8⟩
 have W8 := Lib.hid (W7.out.then h8)
 have m8 := h8.1.cell
 clear h8 m7 S2 W7
 go_wp2_with fail
 refine (S3.out _ W8.out.1).mono ?_
 rintro e w9 ⟨rfl, h9⟩
 have W9 := Lib.hid (W8.out.then h9)
 have m9 := h9.1.cell
 clear h9 m8 S3 W8
 go_wp2_with fail
 refine (S4.out _ W9.out.1).mono ?_
 rintro e w10 ⟨rfl, h10⟩
 have W10 := Lib.hid (W9.out.then h10)
 have m10 := h10.1.cell
 clear h10 m9 S4 W9
 go_wp2
 go_ret
 exact ⟨rfl, W10.out⟩
theorem Went.drew {w0 w w' : World} {q g : Nat} {c : Cu} (h : Went w0 w q g c w') : Went w0 w q g c w'.drew :=
 ⟨h.1.below ((Below.refl _ _).drew), h.2.then_keep (Keep.of_below ((Below.refl _ _).drew) g)⟩
set_option maxRecDepth 100000 in
set_option maxHeartbeats 8000000 in
theorem part_call (w0 w : World) (q g : Nat) (c : Cu) (_hT : TabR w0) (h : Rp w0 w q g c) (k0 : c.keyB ⟨#[115, 116, 111, 114, 101]⟩ = false) (kk : c.keyB ⟨#[99, 97, 108, 108]⟩ = true) :
    Calls Tryz.prog 117 #[.pointer (some ⟨q, 0, none⟩)] w fun e w' => e = .returned (.iface 46 (.agg #[.int .i64 13, .int .i64 0, .int .i64 0, .int .i64 0, .int .i64 0, .int .i64 (Cu.numN (Cu.key c ⟨#[99, 97, 108, 108]⟩) 0 99), .slice none 0 0, .int .i64 (Cu.numN (Cu.num (Cu.key c ⟨#[99, 97, 108, 108]⟩) 0 99) 0 8)])) ∧ Went w0 w q g (Cu.num (Cu.num (Cu.key c ⟨#[99, 97, 108, 108]⟩) 0 99) 0 8) w' := by
 have M0 : Hid (∀ W, Rp w0 W q g c → _) := fun W hr => key_miss hr k0
 have S1 : Hid (∀ W, Rp w0 W q g c → _) := fun W hr => key_went hr kk
 have S2 : Hid (∀ W, Rp w0 W q g (Cu.key c ⟨#[99, 97, 108, 108]⟩) → _) := fun W hr => num_went 0 99 hr
 have S3 : Hid (∀ W, Rp w0 W q g (Cu.num (Cu.key c ⟨#[99, 97, 108, 108]⟩) 0 99) → _) := fun W hr => num_went 0 8 hr
 have W0 : Hid (Went w0 w q g c w) := Went.refl h
 have m0 := h.cell
 clear h k0 kk
 generalize Cu.numN (Cu.num (Cu.key c ⟨#[99, 97, 108, 108]⟩) 0 99) 0 8 = n3 at *
 generalize Cu.num (Cu.num (Cu.key c ⟨#[99, 97, 108, 108]⟩) 0 99) 0 8 = d3 at *
 generalize Cu.numN (Cu.key c ⟨#[99, 97, 108, 108]⟩) 0 99 = n2 at *
 generalize Cu.num (Cu.key c ⟨#[99, 97, 108, 108]⟩) 0 99 = d2 at *
 generalize Cu.key c ⟨#[99, 97, 108, 108]⟩ = d1 at *
 go_enter Tryz.func117, Tryz.ntmps117
 go_wp2_with fail
 refine (M0.out _ W0.out.1).mono ?_
 rintro e w1 ⟨rfl, h1⟩
 have W1 := Lib.hid (W0.out.then h1)
 have m1 := h1.1.cell
 clear h1 m0 M0 W0
 go_wp2_with fail
 refine (S1.out _ W1.out.1).mono ?_
 rintro e w2 ⟨rfl, h2⟩
 have W2 := Lib.hid (W1.out.then h2)
 have m2 := h2.1.cell
 have W2d := Lib.hid W2.out.drew
 clear h2 m1 S1 W1 W2
 go_upto_region 4 with fail
 go_region_held3 (fun W => W.cell? ⟨q, 0, none⟩ = some (.pointer (some ⟨g, 0, none⟩)))
  (first
    | exact W4.out.1.cell
    | exact W3.out.1.cell
    | exact W2d.out.1.cell)
  (first
    | (go_at_call 69; refine (S3.out _ W3.out.1).mono ?_; rintro e w4 ⟨rfl, h4⟩; have W4 := Lib.hid (W3.out.then h4); clear h4)
    | (go_at_call 69; refine (S2.out _ W2d.out.1).mono ?_; rintro e w3 ⟨rfl, h3⟩; have W3 := Lib.hid (W2d.out.then h3); clear h3))
 all_goals (
  go_wp2
  go_ret
  exact ⟨rfl, W4.out⟩)
end Go.Proofs.YtbjmbahpcoanoaaGreatDoor
