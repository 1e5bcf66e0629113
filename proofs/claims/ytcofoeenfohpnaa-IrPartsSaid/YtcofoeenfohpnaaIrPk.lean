/-
  Rows of numbers, put into a bag one by one, lie apart. No condition beyond those that each theorem states.
-/
import Derived.Test.YtcofoeenfohpnaaIrPj
import Derived.Deep.AppendLies
namespace Go.Proofs.Ytcofoeenfohpnaa
open Go.RowKit

/-- A bag that has rows of numbers alone. -/
def bagC (v : Value) : Array Value := #[.slice none 0 0, .slice none 0 0, v, .slice none 0 0, .slice none 0 0, .slice none 0 0, .slice none 0 0, .slice none 0 0, .slice none 0 0, .slice none 0 0, .slice none 0 0, .slice none 0 0, .slice none 0 0, .slice none 0 0, .slice none 0 0, .slice none 0 0, .slice none 0 0]
/-- What a put leaves of all else. -/
structure PutI (w w' : World) (B g : Nat) (v : Value) : Prop where
  own : ∀ b u l, OwnI w b u l → OwnI w' b u l
  blk : ∀ g' t cs, Blk w g' t cs → g' ≠ g → some g' ≠ v.ownBlock → Blk w' g' t cs
  below : ∀ b, b ≤ g → b ≤ B → Below b w w'
set_option maxHeartbeats 1000000 in
set_option maxRecDepth 100000 in
theorem putInts_any (g : Nat) (v : Value) (n : Nat) (vals : List Value) (sa : Option Addr) (m c : Nat) (w : World) (B : Nat) (hn : n ≤ 1000) (hB : B ≤ w.heap.size) (hb : Blk w g 89 (bagC v)) (ho : w.ownsRow B 23 1 v n vals) :
    Calls Try.prog 49 #[.pointer (some ⟨g, 0, none⟩), .slice sa m c] w fun e w' => e = .returned (.tuple #[]) ∧ ∃ G cap, Blk w' g 89 (bagC (.slice (some ⟨G, 0, none⟩) (n + 1) cap)) ∧
      w'.ownsRow B 23 1 (.slice (some ⟨G, 0, none⟩) (n + 1) cap) (n + 1) (vals ++ [.slice sa m c]) ∧ PutI w w' B g v ∧ (v.ownBlock = some G ∨ w.heap.size ≤ G) := by
  obtain ⟨i1, hi1, hy0, hy1, hy2⟩ := info_parts row_info
  have c2 : w.cell? ⟨g, 2, none⟩ = some v := by rw [hb.cell]; rfl
  have HB := Lib.hid hB
  have HBK := Lib.hid hb
  have HO := Lib.hid ho
  clear hB hb ho
  go_enter Try.func49, Try.ntmps49
  go_wp2_with (at_builtin; go_must (refine wpList_append_lies _ rfl _ _ _ rfl B 23 i1 _ 1 24 Try.underlying39 hi1 hy0 hy1 hy2 rfl (by omega) v n vals rfl (World.ownsRow.alloc HO.out _) ⟨w.heap.size, 0, none⟩ 1 1 [.slice sa m c] rfl rfl (World.news_of_block (heap_alloc_new w _)) (by simp [Value.oneCell']) (by omega) (by simp only [maxLen]; omega) (by omega) (by have := HB.out; simp; omega) (w.heap.size + 1) (by simp) ?_; intro G cap w1 hown1 hgrow1 hat1 hlt1; have HB1 : Hid (Blk w1 g 89 (bagC v)) := (by exact (HBK.out.alloc _).grown hgrow1 (own_far HO.out HBK.out (by decide))); have k2 : w1.cell? ⟨g, 2, none⟩ = some v := (by rw [HB1.out.cell]; rfl); have f2 : w1.frozen? ⟨g, 2, none⟩ = false := (by exact HB1.out.free 2); have HO1 := Lib.hid hown1; have HG1 := Lib.hid hgrow1; have HA1 := Lib.hid hat1; clear hown1 hgrow1 hat1))
  go_end0
  have hne := own_far HO1.out HB1.out (by decide)
  refine ⟨rfl, G, cap, ?_, own_put HO1.out hne _, ⟨fun b u l hu => ?_, fun g' t cs hg' hne1 hne2 => ?_, fun b hb1 hb2 => ?_⟩, ?_⟩
  · exact HB1.out.put 2 _
  · have h1 : OwnI (w.alloc (.cells #[.slice sa m c] 23)) b u l := World.ownsRow.alloc hu _
    have h2 : OwnI w1 b u l := own_grown h1 HG1.out (fun k hk e => by
      rcases HO.out.2 with ⟨h3, _⟩ | ⟨g2, cap2, cur2, h3, _, h4, _⟩
      · rw [h3] at e; cases e
      · rw [h3] at e
        injection e with e
        exact own_far hu (show Blk w g2 _ _ from h4) (by decide) (by rw [hk, e]))
    exact own_put h2 (own_far h2 HB1.out (by decide)) _
  · exact ((hg'.alloc _).grown HG1.out hne2).far (p := ⟨g, 2, none⟩) hne1 _
  · exact (((Below.refl b w).alloc (by have := HB.out; omega) _).grown HG1.out (by have := HB.out; simp; omega) (fun k hk => by have := (World.ownsRow.lt HO.out k hk).1; omega)).setCell (p := ⟨g, 2, none⟩) hb1 _
  · rcases HA1.out with h | h
    · exact .inl h
    · exact .inr (by omega)
end Go.Proofs.Ytcofoeenfohpnaa
