/-
  The statement's copy of words into the document's words is those words. No condition beyond those that each theorem states.
-/
import Derived.Test.YtfnmkgfaoacnpaaDoorShow
import Derived.Test.YtfnmkgfaoacnpaaDoorOuts
import Derived.Deep.RegionHeld3
import Derived.Deep.AppendLies
namespace Go.Proofs.YtfnmkgfaoacnpaaDoor
open Go.RowKit

theorem CellsAt.below {w w' : World} {g o : Nat} {ws : List Wd} (h : CellsAt w g o ws) (hb : Below w.heap.size w w') : CellsAt w' g o ws := fun k x hx => by
  obtain ⟨h0, h1, h2, h3, h4⟩ := h k x hx
  exact ⟨cell_below hb h0, cell_below hb h1, cell_below hb h2, cell_below hb h3, cell_below hb h4⟩
set_option maxHeartbeats 400000 in
set_option maxRecDepth 1000000 in
theorem theirs_any (ws : List Wd) (g o c : Nat) (w : World) (hC : CellsAt w g o ws) (hl : ws.length ≤ 10000) (hg : g < w.heap.size) :
    Calls Tryd.prog 9 #[.slice (some ⟨g, o, none⟩) ws.length c] w fun e w' => ∃ v, e = .returned v ∧ Outs w' w.heap.size v ws ∧ Below w.heap.size w w' := by
  obtain ⟨i0, hi0, hz0, hz1, hz2⟩ := info_parts rword_info
  go_enter Tryd.func9, Tryd.ntmps9
  go_wp2
  go_loopw [3, 4] (fun v i wr => ∃ (pre post : List Wd) (a : Option Addr) (cp : Nat), Hid (ws = pre ++ post) ∧ v = .slice a pre.length cp ∧ i = .int .i64 pre.length ∧ Outs wr w.heap.size v pre ∧ Below w.heap.size w wr) (fun _ i _ => ws.length - (intOf i).toNat)
  case atStart => exact ⟨[], ws, none, 0, rfl, rfl, rfl, World.ownsRow_nil _ _ _ _, Below.refl _ _⟩
  case round =>
    obtain ⟨pre, post, a, cp, HS, rfl, rfl, ho, hb⟩ := hrel
    have HO := Lib.hid ho
    have HB := Lib.hid hb
    clear ho hb
    cases post with
    | cons x post =>
      have hlen : pre.length + 1 + post.length = ws.length := by rw [HS.out]; simp; omega
      have hlt' : (pre.length : Int) < ws.length := by omega
      have hlt : pre.length < ws.length := by omega
      have hx : ws[pre.length]? = some x := by rw [HS.out]; simp
      obtain ⟨h0, h1, h2, h3, h4⟩ := hC _ x hx
      have n0 := cell_below HB.out h0
      have n1 := cell_below HB.out h1
      have n2 := cell_below HB.out h2
      have n3 := cell_below HB.out h3
      have n4 := cell_below HB.out h4
      clear h0 h1 h2 h3 h4 hx hC
      have hp : pre.length ≤ 10000 := by omega
      have hpc : (0 : Int) ≤ pre.length := by omega
      have ho' : wr.ownsRow w.heap.size 56 5 (.slice a pre.length cp) pre.length (pre.flatMap flatW) := HO.out
      go_wp2_with fail
      have ag : (Value.slice a pre.length cp).ownBlock ≠ some g := fun h => by have := (ho'.lt _ h).1; omega
      have lg : g < wr.heap.size := by have := HB.out.size; omega
      go_region_held3 (fun w' => w'.cell? ⟨g, o + pre.length * 5, none⟩ = some (.int .i64 x.k) ∧ w'.cell? ⟨g, o + pre.length * 5 + 1, none⟩ = some (.string x.t) ∧ w'.cell? ⟨g, o + pre.length * 5 + 2, none⟩ = some (.int .i64 x.n) ∧ w'.cell? ⟨g, o + pre.length * 5 + 3, none⟩ = some (.int .i64 x.l) ∧ w'.cell? ⟨g, o + pre.length * 5 + 4, none⟩ = some (.int .i64 x.c))
        (first
          | (go_keep; done)
          | (go_split_ands
             refine ⟨?_, ?_, ?_, ?_, ?_⟩
             · (rw [hgrow.cell_far _ (by simp; omega) (Ne.symm ag)]; assumption)
             · (rw [hgrow.cell_far _ (by simp; omega) (Ne.symm ag)]; assumption)
             · (rw [hgrow.cell_far _ (by simp; omega) (Ne.symm ag)]; assumption)
             · (rw [hgrow.cell_far _ (by simp; omega) (Ne.symm ag)]; assumption)
             · (rw [hgrow.cell_far _ (by simp; omega) (Ne.symm ag)]; assumption)))
        ((refine step_append_lies _ (by rfl) _ _ _ (by rfl) w.heap.size 56 i0 _ 5 48 Tryd.underlying31 hi0 hz0 hz1 hz2 rfl (by omega) _ pre.length (pre.flatMap flatW) (by rfl) ((ho'.alloc _).drew)
            ⟨wr.heap.size, 0, none⟩ 1 1 (flatW x) (by rfl) (by rfl) (World.news_of_block (cs := #[.int .i64 x.k, .string x.t, .int .i64 x.n, .int .i64 x.l, .int .i64 x.c]) (t := 56) (fr := (0, 0)) (heap_alloc_new wr _)) (by simp [Value.oneCell', flatW])
            (by omega) (by simp only [maxLen]; omega) (by omega) (by have := HB.out.size; simp; omega) (wr.heap.size + 1) (by simp) ?_; intro gg cap w2 hown2 hgrow hat hlt2))
      have HO2 := Lib.hid (Outs.more hown2)
      have HB2 : Hid (Below w.heap.size w w2) := (((HB.out.alloc (by have := HB.out.size; omega) _).drew)).grown hgrow (by have := HB.out.size; simp; omega) (fun k hk => (ho'.lt k hk).1)
      clear hown2 hgrow hat hlt2 n0 n1 n2 n3 n4 ho' HO HB
      go_wp2
      go_roundw
      case rel => exact ⟨pre ++ [x], post, some ⟨gg, 0, none⟩, cap, by show _ = _; rw [HS.out]; simp, by simp, by simp, HO2.out, HB2.out⟩
      case measure => simp [intOf]; omega
    | nil =>
      have hlen : pre.length = ws.length := by rw [HS.out]; simp
      have hlt' : ¬ (pre.length : Int) < ws.length := by omega
      have hlt'' : (ws.length : Int) ≤ pre.length := by omega
      have e : ws = pre := by rw [HS.out]; simp
      have HO2 : Hid (Outs wr w.heap.size (.slice a pre.length cp) ws) := by rw [e]; exact HO.out
      clear e
      go_wp2
      go_ret
      exact ⟨.slice a pre.length cp, by rw [hlen]; rfl, HO2.out, HB.out⟩
end Go.Proofs.YtfnmkgfaoacnpaaDoor
