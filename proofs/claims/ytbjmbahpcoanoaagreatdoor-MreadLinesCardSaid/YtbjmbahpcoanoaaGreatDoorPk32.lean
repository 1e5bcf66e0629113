/-
  Package mread's target: the walk. Conditions: the library's tables, its errors, and the Ops' names are there.
-/
import Derived.Test.YtbjmbahpcoanoaaGreatDoorPk31
import Derived.Deep.RegionHeld3
namespace Go.Proofs.YtbjmbahpcoanoaaGreatDoor
open Go.RowKit

theorem Tk.growA {w0 w W w4 : World} {q g : Nat} {c : Cu} {es : List WB} {cs : Array Value} {o : Obj} {x : WB} {a : Option Addr} {gg cap cap2 : Nat} (h : Tk w0 w W q g c es (.slice a es.length cap) cs) (hx : OwnB W w.heap.size x) (hg : (W.alloc o).grownBy w4 (Value.slice a es.length cap).ownBlock) (ho : w4.ownsRow w.heap.size 53 5 (.slice (some ⟨gg, 0, none⟩) (es.length + 1) cap2) (es.length + 1) (es.flatMap wbC ++ wbC x)) :
    Tk w0 w w4 q g c (es ++ [x]) (.slice (some ⟨gg, 0, none⟩) (es.length + 1) cap2) cs := (h.alloc o).grown (own_keep hx ⟨by simp, fun k _ hk => Below.heap_alloc W o k hk⟩) hg ho
set_option maxRecDepth 100000 in
set_option maxHeartbeats 8000000 in
theorem target_any (w0 w : World) (q g : Nat) (c : Cu) (hT : TabR w0) (h : Rp w0 w q g c) :
    Calls Tryz.prog 30 #[.pointer (some ⟨q, 0, none⟩)] w fun e w' => (∃ (es : List WB) (a : Option Addr) (k : Nat), es.map Prod.fst = c.tgG.blocks ∧ e = .returned (.agg #[.int .i64 c.tgG.frame, .slice a es.length k]) ∧ Tk w0 w w' q g c.tgC es (.slice a es.length k) #[.int .i64 c.tgG.frame, .slice a es.length k]) := by
 obtain ⟨i0, hi0, hz0, hz1, hz2⟩ := info_parts block_info
 have B0 := Lib.hid (Tk.new h #[.int .i64 0, .slice none 0 0])
 have S1 : Hid (∀ W, Rp w0 W q g c → _) := fun W hr => keyP_any w0 W q g c kTarget hr
 have S2 : Hid (∀ W, Rp w0 W q g (c.keyedP kTarget) → _) := fun W hr => num_went 0 400 hr
 have S3 : Hid (∀ W, Rp w0 W q g ((c.keyedP kTarget).num 0 400) → _) := fun W hr => end_went hr
 have m0 := B0.out.rp.cell
 have hE : Hid (c.tgC = (tgGo 200 0 c.tgHead []).1 ∧ c.tgG.frame = (c.keyedP kTarget).numN 0 400 ∧ c.tgG.blocks = (tgGo 200 0 c.tgHead []).2) := ⟨rfl, rfl, rfl⟩
 have HD : Hid (((c.keyedP kTarget).num 0 400).end_ = c.tgHead) := rfl
 have HT := Lib.hid hT
 clear h hT
 rw [HD.out] at S3
 rw [hE.out.1, hE.out.2.1, hE.out.2.2]
 clear HD hE
 generalize c.tgHead = k3 at *
 generalize (c.keyedP kTarget).numN 0 400 = fr at *
 generalize hk1 : c.keyedP kTarget = k1 at *
 generalize hk2 : k1.num 0 400 = k2 at *
 clear hk1 hk2
 unfold kTarget at S1
 go_enter Tryz.func30, Tryz.ntmps30
 go_wp2_with fail
 refine (S1.out _ B0.out.rp).mono ?_
 rintro e w1 ⟨rfl, h1⟩
 have B1 := Lib.hid (B0.out.call h1)
 have m1 := B1.out.rp.cell
 clear h1 B0 S1 m0
 go_wp2_with fail
 refine (S2.out _ B1.out.rp).mono ?_
 rintro e w2 ⟨rfl, h2⟩
 have B2 := Lib.hid (B1.out.call h2)
 have B2p : Hid (Tk w0 w (w2.setCell ⟨w.heap.size, 0, none⟩ (.int .i64 fr)) q g k2 [] (.slice none 0 0) #[.int .i64 fr, .slice none 0 0]) := B2.out.put 0 (.int .i64 fr)
 have m2 := B2.out.rp.cell
 have c0 : w2.cell? ⟨w.heap.size, 0, none⟩ = some (.int .i64 0) := B2.out.b.cell 0
 have f0 := B2.out.b.free 0
 have hne : q ≠ w.heap.size := blk_ne B2.out.rp.R B2.out.b (by decide)
 clear h2 B1 S2 m1
 go_wp2_with fail
 refine (S3.out _ B2p.out.rp).mono ?_
 rintro e w3 ⟨rfl, h3⟩
 have B3 := Lib.hid (B2p.out.call h3)
 clear h3 B2 B2p S3 m2 c0 f0
 go_wp2
 go_loopg [3] 200 (fun gk v wr => ∃ (d : Cu) (es : List WB) (a : Option Addr) (cap n : Nat), v = .int .i64 n ∧ Hid (n = es.length) ∧ n + gk = 200 ∧ tgGo 200 0 k3 [] = tgGo gk n d (es.map Prod.fst) ∧ Tk w0 w wr q g d es (.slice a es.length cap) #[.int .i64 fr, .slice a es.length cap])
 case atStart => exact ⟨k3, [], none, 0, 0, rfl, rfl, rfl, rfl, B3.out⟩
 case round =>
  obtain ⟨d, es, a, cap, n, rfl, HL, hg, hN, hB⟩ := hrel
  have HB := Lib.hid hB
  have HN := Lib.hid hN
  have m0 := hB.rp.cell
  have M := Lib.hid (more_went hB.rp)
  clear hB hN B3
  by_cases h0 : n = 0
  · subst h0
    obtain ⟨gk, rfl⟩ : ∃ k, gk = k + 1 := ⟨gk - 1, by omega⟩
    have HE := Lib.hid (tg_step (f := gk) (n := 0) (c := d) (.inl rfl) (es.map Prod.fst))
    have BL : Hid (∀ W, Rp w0 W q g d → _) := fun W hr => block_any w0 W q g d 0 HT.out hr
    rw [show ((0 : Nat) : Int) = 0 from rfl] at HE
    have HZ := Lib.hid hg
    clear hg M
    generalize ((d.headC 0).blk []).1 = d2 at *
    generalize ((d.headC 0).blk []).2 = b at *
    unfold blkC at BL
    have BD := Lib.hid HB.out.drew
    have c1 : wr.drew.cell? ⟨w.heap.size, 1, none⟩ = some (.slice a es.length cap) := BD.out.b.cell 1
    go_upto_region 9 with fail
    refine wp_region_any (by kernel_rfl) ?_
    change wpAny _ _ _ _ _ _ _ wr.drew
    refine wpAny_take (i := 0) (v := ?vq4) (by simp only [List.getElem?_toArray, List.getElem?_cons_zero]; rfl) (by kernel_rfl) (by kernel_rfl) (by kernel_rfl) (by exact fun _ _ _ h => h) (Or.inl ⟨by rfl, ?yq4⟩) ?_
    case yq4 => (intro W9; go_simp; try (with_reducible rfl))
    try simp only [Act.put, List.setIfInBounds_toArray, List.set_cons_zero, List.set_cons_succ]
    refine wpAny_take (i := 2) (v := ?vq5) (by simp only [List.getElem?_toArray, List.getElem?_cons_succ, List.getElem?_cons_zero]; rfl) (by kernel_rfl) (by kernel_rfl) (by kernel_rfl) (by exact fun _ _ _ h => h) (Or.inl ⟨by rfl, ?yq5⟩) ?_
    case yq5 => (intro W9; go_simp; try (with_reducible rfl))
    try simp only [Act.put, List.setIfInBounds_toArray, List.set_cons_zero, List.set_cons_succ]
    refine wpAny_take (i := 3) (v := ?vq6) (by simp only [List.getElem?_toArray, List.getElem?_cons_succ, List.getElem?_cons_zero]; rfl) (by kernel_rfl) (by kernel_rfl) (by kernel_rfl) (by exact fun _ _ _ h => h) (Or.inl ⟨by rfl, ?yq6⟩) ?_
    case yq6 => (intro W9; go_simp; try (with_reducible rfl))
    try simp only [Act.put, List.setIfInBounds_toArray, List.set_cons_zero, List.set_cons_succ]
    refine wpAny_ready (rs := [1, 4]) (by kernel_rfl) (by simp) ?_
    refine AllReady.cons (by simp only [List.getElem?_toArray, List.getElem?_cons_succ, List.getElem?_cons_zero]; rfl) (fun K hK => ?_) (AllReady.cons (by simp only [List.getElem?_toArray, List.getElem?_cons_succ, List.getElem?_cons_zero]; rfl) (fun K hK => ?_) AllReady.nil)
    · go_simp
      refine hK _ _ ?_
      clear hK K
      try simp only [Act.put, List.setIfInBounds_toArray, List.set_cons_zero, List.set_cons_succ]
      refine wpAny_ready (rs := [4]) (by kernel_rfl) (by simp) ?_
      refine AllReady.cons (by simp only [List.getElem?_toArray, List.getElem?_cons_succ, List.getElem?_cons_zero]; rfl) (fun K hK => ?_) AllReady.nil
      go_simp
      go_at_call 73
      refine (BL.out _ BD.out.rp).mono ?_
      rintro e w5 ⟨xa, xk, rfl, hb⟩
      have T5 := Lib.hid (BD.out.block hb)
      have c5 : w5.cell? ⟨w.heap.size, 1, none⟩ = some (.slice a es.length cap) := T5.out.1.b.cell 1
      have hbl5 := T5.out.1.b.lt
      clear hb
      dsimp only
      refine hK _ _ ?_
      clear hK K
      try simp only [Act.put, List.setIfInBounds_toArray, List.set_cons_zero, List.set_cons_succ]
      refine wpAny_ready (rs := [5]) (by kernel_rfl) (by simp) ?_
      refine AllReady.cons (by simp only [List.getElem?_toArray, List.getElem?_cons_succ, List.getElem?_cons_zero]; rfl) (fun K hK => ?_) AllReady.nil
      go_simp
      refine hK _ _ ?_
      clear hK K
      try simp only [Act.put, List.setIfInBounds_toArray, List.set_cons_zero, List.set_cons_succ]
      have hsz5 := T5.out.1.k.size
      have hes : es.length ≤ 200 := by have := HL.out; have := HZ.out; omega
      refine wpAny_ready (rs := [6]) (by kernel_rfl) (by simp) ?_
      refine AllReady.cons (by simp only [List.getElem?_toArray, List.getElem?_cons_succ, List.getElem?_cons_zero]; rfl) (fun K hK => ?_) AllReady.nil
      refine step_append_lies _ rfl _ _ _ rfl w.heap.size 53 i0 _ 5 56 Tryz.underlying22 hi0 hz0 hz1 hz2 rfl (by omega) (.slice a es.length cap) es.length (es.flatMap wbC) rfl (World.ownsRow.alloc T5.out.1.row _) ⟨w5.heap.size, 0, none⟩ 1 1 (wbC (b, xa, xk)) rfl rfl (World.news_of_block (heap_alloc_new w5 _)) (wb_one (b, xa, xk)) (by omega) (by simp only [maxLen]; omega) (by omega) (by simp; omega) (w5.heap.size + 1) (by simp) ?_
      intro gg cap4 w7 hown4 hgrow hat hlt4
      have hB4 := Tk.growA T5.out.1 T5.out.2 hgrow hown4
      have q1 : w7.cell? ⟨w.heap.size, 1, none⟩ = some (.slice a es.length cap) := hB4.b.cell 1
      have f1 : w7.frozen? ⟨w.heap.size, 1, none⟩ = false := hB4.b.free 1
      have hbl7 := hB4.b.lt
      have B7 := Lib.hid (hB4.put 1 (.slice (some ⟨gg, 0, none⟩) (es.length + 1) cap4))
      clear hown4 hgrow hat hlt4 hB4 c5 hsz5 hbl5 T5
      refine hK _ _ ?_
      clear hK K
      try simp only [Act.put, List.setIfInBounds_toArray, List.set_cons_zero, List.set_cons_succ]
      refine wpAny_take (i := 7) (v := ?vq1) (by simp only [List.getElem?_toArray, List.getElem?_cons_succ, List.getElem?_cons_zero]; rfl) (by kernel_rfl) (by kernel_rfl) (by kernel_rfl) (by exact fun _ _ _ h => h) (Or.inl ⟨by rfl, ?yq1⟩) ?_
      case yq1 => (intro W9; go_simp; try (with_reducible rfl))
      try simp only [Act.put, List.setIfInBounds_toArray, List.set_cons_zero, List.set_cons_succ]
      refine wpAny_ready (rs := [8]) (by kernel_rfl) (by simp) ?_
      refine AllReady.cons (by simp only [List.getElem?_toArray, List.getElem?_cons_succ, List.getElem?_cons_zero]; rfl) (fun K hK => ?_) AllReady.nil
      go_simp
      refine hK _ _ ?_
      clear hK K
      try simp only [Act.put, List.setIfInBounds_toArray, List.set_cons_zero, List.set_cons_succ]
      refine wpAny_done (by kernel_rfl) ?_ _
      clear q1 f1
      have hn9 : 0 ≤ 199 := by have := HZ.out; omega
      go_wp2
      go_roundg gk
      case measure => omega
      case rel => exact ⟨d2, es ++ [(b, xa, xk)], some ⟨gg, 0, none⟩, cap4, 0 + 1, by go_num, by have h := HL.out; show _ + 1 = _; rw [List.length_append, List.length_singleton, ← h], by have := HZ.out; omega, HN.out.trans (by rw [HE.out]; simp), by simpa using B7.out⟩
    · go_simp
      go_at_call 73
      refine (BL.out _ BD.out.rp).mono ?_
      rintro e w5 ⟨xa, xk, rfl, hb⟩
      have T5 := Lib.hid (BD.out.block hb)
      have c5 : w5.cell? ⟨w.heap.size, 1, none⟩ = some (.slice a es.length cap) := T5.out.1.b.cell 1
      have hbl5 := T5.out.1.b.lt
      clear hb
      dsimp only
      refine hK _ _ ?_
      clear hK K
      try simp only [Act.put, List.setIfInBounds_toArray, List.set_cons_zero, List.set_cons_succ]
      refine wpAny_ready (rs := [1, 5]) (by kernel_rfl) (by simp) ?_
      refine AllReady.cons (by simp only [List.getElem?_toArray, List.getElem?_cons_succ, List.getElem?_cons_zero]; rfl) (fun K hK => ?_) (AllReady.cons (by simp only [List.getElem?_toArray, List.getElem?_cons_succ, List.getElem?_cons_zero]; rfl) (fun K hK => ?_) AllReady.nil)
      · go_simp
        refine hK _ _ ?_
        clear hK K
        try simp only [Act.put, List.setIfInBounds_toArray, List.set_cons_zero, List.set_cons_succ]
        refine wpAny_ready (rs := [5]) (by kernel_rfl) (by simp) ?_
        refine AllReady.cons (by simp only [List.getElem?_toArray, List.getElem?_cons_succ, List.getElem?_cons_zero]; rfl) (fun K hK => ?_) AllReady.nil
        go_simp
        refine hK _ _ ?_
        clear hK K
        try simp only [Act.put, List.setIfInBounds_toArray, List.set_cons_zero, List.set_cons_succ]
        have hsz5 := T5.out.1.k.size
        have hes : es.length ≤ 200 := by have := HL.out; have := HZ.out; omega
        refine wpAny_ready (rs := [6]) (by kernel_rfl) (by simp) ?_
        refine AllReady.cons (by simp only [List.getElem?_toArray, List.getElem?_cons_succ, List.getElem?_cons_zero]; rfl) (fun K hK => ?_) AllReady.nil
        refine step_append_lies _ rfl _ _ _ rfl w.heap.size 53 i0 _ 5 56 Tryz.underlying22 hi0 hz0 hz1 hz2 rfl (by omega) (.slice a es.length cap) es.length (es.flatMap wbC) rfl (World.ownsRow.alloc T5.out.1.row _) ⟨w5.heap.size, 0, none⟩ 1 1 (wbC (b, xa, xk)) rfl rfl (World.news_of_block (heap_alloc_new w5 _)) (wb_one (b, xa, xk)) (by omega) (by simp only [maxLen]; omega) (by omega) (by simp; omega) (w5.heap.size + 1) (by simp) ?_
        intro gg cap4 w7 hown4 hgrow hat hlt4
        have hB4 := Tk.growA T5.out.1 T5.out.2 hgrow hown4
        have q1 : w7.cell? ⟨w.heap.size, 1, none⟩ = some (.slice a es.length cap) := hB4.b.cell 1
        have f1 : w7.frozen? ⟨w.heap.size, 1, none⟩ = false := hB4.b.free 1
        have hbl7 := hB4.b.lt
        have B7 := Lib.hid (hB4.put 1 (.slice (some ⟨gg, 0, none⟩) (es.length + 1) cap4))
        clear hown4 hgrow hat hlt4 hB4 c5 hsz5 hbl5 T5
        refine hK _ _ ?_
        clear hK K
        try simp only [Act.put, List.setIfInBounds_toArray, List.set_cons_zero, List.set_cons_succ]
        refine wpAny_take (i := 7) (v := ?vq2) (by simp only [List.getElem?_toArray, List.getElem?_cons_succ, List.getElem?_cons_zero]; rfl) (by kernel_rfl) (by kernel_rfl) (by kernel_rfl) (by exact fun _ _ _ h => h) (Or.inl ⟨by rfl, ?yq2⟩) ?_
        case yq2 => (intro W9; go_simp; try (with_reducible rfl))
        try simp only [Act.put, List.setIfInBounds_toArray, List.set_cons_zero, List.set_cons_succ]
        refine wpAny_ready (rs := [8]) (by kernel_rfl) (by simp) ?_
        refine AllReady.cons (by simp only [List.getElem?_toArray, List.getElem?_cons_succ, List.getElem?_cons_zero]; rfl) (fun K hK => ?_) AllReady.nil
        go_simp
        refine hK _ _ ?_
        clear hK K
        try simp only [Act.put, List.setIfInBounds_toArray, List.set_cons_zero, List.set_cons_succ]
        refine wpAny_done (by kernel_rfl) ?_ _
        clear q1 f1
        have hn9 : 0 ≤ 199 := by have := HZ.out; omega
        go_wp2
        go_roundg gk
        case measure => omega
        case rel => exact ⟨d2, es ++ [(b, xa, xk)], some ⟨gg, 0, none⟩, cap4, 0 + 1, by go_num, by have h := HL.out; show _ + 1 = _; rw [List.length_append, List.length_singleton, ← h], by have := HZ.out; omega, HN.out.trans (by rw [HE.out]; simp), by simpa using B7.out⟩
      · go_simp
        refine hK _ _ ?_
        clear hK K
        try simp only [Act.put, List.setIfInBounds_toArray, List.set_cons_zero, List.set_cons_succ]
        refine wpAny_ready (rs := [1]) (by kernel_rfl) (by simp) ?_
        refine AllReady.cons (by simp only [List.getElem?_toArray, List.getElem?_cons_succ, List.getElem?_cons_zero]; rfl) (fun K hK => ?_) AllReady.nil
        go_simp
        refine hK _ _ ?_
        clear hK K
        try simp only [Act.put, List.setIfInBounds_toArray, List.set_cons_zero, List.set_cons_succ]
        have hsz5 := T5.out.1.k.size
        have hes : es.length ≤ 200 := by have := HL.out; have := HZ.out; omega
        refine wpAny_ready (rs := [6]) (by kernel_rfl) (by simp) ?_
        refine AllReady.cons (by simp only [List.getElem?_toArray, List.getElem?_cons_succ, List.getElem?_cons_zero]; rfl) (fun K hK => ?_) AllReady.nil
        refine step_append_lies _ rfl _ _ _ rfl w.heap.size 53 i0 _ 5 56 Tryz.underlying22 hi0 hz0 hz1 hz2 rfl (by omega) (.slice a es.length cap) es.length (es.flatMap wbC) rfl (World.ownsRow.alloc T5.out.1.row _) ⟨w5.heap.size, 0, none⟩ 1 1 (wbC (b, xa, xk)) rfl rfl (World.news_of_block (heap_alloc_new w5 _)) (wb_one (b, xa, xk)) (by omega) (by simp only [maxLen]; omega) (by omega) (by simp; omega) (w5.heap.size + 1) (by simp) ?_
        intro gg cap4 w7 hown4 hgrow hat hlt4
        have hB4 := Tk.growA T5.out.1 T5.out.2 hgrow hown4
        have q1 : w7.cell? ⟨w.heap.size, 1, none⟩ = some (.slice a es.length cap) := hB4.b.cell 1
        have f1 : w7.frozen? ⟨w.heap.size, 1, none⟩ = false := hB4.b.free 1
        have hbl7 := hB4.b.lt
        have B7 := Lib.hid (hB4.put 1 (.slice (some ⟨gg, 0, none⟩) (es.length + 1) cap4))
        clear hown4 hgrow hat hlt4 hB4 c5 hsz5 hbl5 T5
        refine hK _ _ ?_
        clear hK K
        try simp only [Act.put, List.setIfInBounds_toArray, List.set_cons_zero, List.set_cons_succ]
        refine wpAny_take (i := 7) (v := ?vq3) (by simp only [List.getElem?_toArray, List.getElem?_cons_succ, List.getElem?_cons_zero]; rfl) (by kernel_rfl) (by kernel_rfl) (by kernel_rfl) (by exact fun _ _ _ h => h) (Or.inl ⟨by rfl, ?yq3⟩) ?_
        case yq3 => (intro W9; go_simp; try (with_reducible rfl))
        try simp only [Act.put, List.setIfInBounds_toArray, List.set_cons_zero, List.set_cons_succ]
        refine wpAny_ready (rs := [8]) (by kernel_rfl) (by simp) ?_
        refine AllReady.cons (by simp only [List.getElem?_toArray, List.getElem?_cons_succ, List.getElem?_cons_zero]; rfl) (fun K hK => ?_) AllReady.nil
        go_simp
        refine hK _ _ ?_
        clear hK K
        try simp only [Act.put, List.setIfInBounds_toArray, List.set_cons_zero, List.set_cons_succ]
        refine wpAny_done (by kernel_rfl) ?_ _
        clear q1 f1
        have hn9 : 0 ≤ 199 := by have := HZ.out; omega
        go_wp2
        go_roundg gk
        case measure => omega
        case rel => exact ⟨d2, es ++ [(b, xa, xk)], some ⟨gg, 0, none⟩, cap4, 0 + 1, by go_num, by have h := HL.out; show _ + 1 = _; rw [List.length_append, List.length_singleton, ← h], by have := HZ.out; omega, HN.out.trans (by rw [HE.out]; simp), by simpa using B7.out⟩
  · have hnp : ¬ (n : Int) = 0 := by omega
    cases hm : d.more
    · have hno : ¬ (n = 0 ∨ d.more = true) := by rw [hm]; rintro (e | e); exact h0 e; cases e
      have HE := Lib.hid (tg_stop (f := gk) hno (es.map Prod.fst))
      rw [hm] at M
      clear hno h0 hm hg
      go_wp2_with fail
      refine M.out.mono ?_
      rintro e w4 ⟨rfl, h4⟩
      have B4 := Lib.hid (HB.out.call h4)
      clear h4 M HB m0
      have g0 : w4.cell? ⟨w.heap.size, 0, none⟩ = some (.int .i64 fr) := B4.out.b.cell 0
      have g1 : w4.cell? ⟨w.heap.size, 1, none⟩ = some (.slice a es.length cap) := B4.out.b.cell 1
      have z0 := B4.out.b.free 0
      have z1 := B4.out.b.free 1
      have hbl4 := B4.out.b.lt
      go_wp2
      (try simp only [Exit.inBlock, Exit.then])
      have HQ := ((B4.out.put 0 (.int .i64 fr)).put 1 (.slice a es.length cap))
      refine bodyPost_ret (results_cell_row rfl _ _ w.heap.size 24 _ (0, 0) _ (by simp) HQ.b Tryz.underlying24 rfl target_size) rfl ?_
      have hE : tgGo 200 0 k3 [] = (d, es.map Prod.fst) := HN.out.trans HE.out
      rw [hE]
      exact ⟨es, a, cap, rfl, rfl, HQ⟩
    · have hgo : n = 0 ∨ d.more = true := .inr hm
      rw [hm] at M
      by_cases h2 : n = 200
      · obtain rfl : gk = 0 := by omega
        have HE := Lib.hid (tg_full hgo (es.map Prod.fst))
        have h21 : (n : Int) = 200 := by omega
        have F : Hid (∀ W, Rp w0 W q g d → _) := fun W hr => fail_went 3 hr
        clear hgo h0 hm hg h2
        generalize d.fail 3 = d2 at *
        go_wp2_with fail
        refine M.out.mono ?_
        rintro e w4 ⟨rfl, h4⟩
        have B4 := Lib.hid (HB.out.call h4)
        have m4 := B4.out.rp.cell
        clear h4 M HB m0
        go_wp2_with fail
        refine (F.out _ B4.out.rp).mono ?_
        rintro e w5 ⟨rfl, h5⟩
        have B5 := Lib.hid (B4.out.call h5)
        clear h5 F B4 m4
        have g0 : w5.cell? ⟨w.heap.size, 0, none⟩ = some (.int .i64 fr) := B5.out.b.cell 0
        have g1 : w5.cell? ⟨w.heap.size, 1, none⟩ = some (.slice a es.length cap) := B5.out.b.cell 1
        have z0 := B5.out.b.free 0
        have z1 := B5.out.b.free 1
        have hbl5 := B5.out.b.lt
        go_wp2
        (try simp only [Exit.inBlock, Exit.then])
        have HQ := ((B5.out.put 0 (.int .i64 fr)).put 1 (.slice a es.length cap))
        refine bodyPost_ret (results_cell_row rfl _ _ w.heap.size 24 _ (0, 0) _ (by simp) HQ.b Tryz.underlying24 rfl target_size) rfl ?_
        have hE : tgGo 200 0 k3 [] = (d2, es.map Prod.fst) := HN.out.trans HE.out
        rw [hE]
        exact ⟨es, a, cap, rfl, rfl, HQ⟩
      · obtain ⟨gk, rfl⟩ : ∃ k, gk = k + 1 := ⟨gk - 1, by omega⟩
        have HE := Lib.hid (tg_step (f := gk) (n := n) (c := d) hgo (es.map Prod.fst))
        have BL : Hid (∀ W, Rp w0 W q g d → _) := fun W hr => block_any w0 W q g d (n : Int) HT.out hr
        have HZ := Lib.hid hg
        have h21 : ¬ (n : Int) = 200 := by omega
        clear hg hgo h0 hm h2
        generalize ((d.headC (n : Int)).blk []).1 = d2 at *
        generalize ((d.headC (n : Int)).blk []).2 = b at *
        unfold blkC at BL
        go_wp2_with fail
        refine M.out.mono ?_
        rintro e w4 ⟨rfl, h4⟩
        have B4 := Lib.hid (HB.out.call h4)
        clear h4 M HB m0
        have BD := Lib.hid B4.out.drew
        have c1 : w4.drew.cell? ⟨w.heap.size, 1, none⟩ = some (.slice a es.length cap) := BD.out.b.cell 1
        go_upto_region 9 with fail
        refine wp_region_any (by kernel_rfl) ?_
        change wpAny _ _ _ _ _ _ _ w4.drew
        refine wpAny_take (i := 0) (v := ?vq10) (by simp only [List.getElem?_toArray, List.getElem?_cons_zero]; rfl) (by kernel_rfl) (by kernel_rfl) (by kernel_rfl) (by exact fun _ _ _ h => h) (Or.inl ⟨by rfl, ?yq10⟩) ?_
        case yq10 => (intro W9; go_simp; try (with_reducible rfl))
        try simp only [Act.put, List.setIfInBounds_toArray, List.set_cons_zero, List.set_cons_succ]
        refine wpAny_take (i := 2) (v := ?vq11) (by simp only [List.getElem?_toArray, List.getElem?_cons_succ, List.getElem?_cons_zero]; rfl) (by kernel_rfl) (by kernel_rfl) (by kernel_rfl) (by exact fun _ _ _ h => h) (Or.inl ⟨by rfl, ?yq11⟩) ?_
        case yq11 => (intro W9; go_simp; try (with_reducible rfl))
        try simp only [Act.put, List.setIfInBounds_toArray, List.set_cons_zero, List.set_cons_succ]
        refine wpAny_take (i := 3) (v := ?vq12) (by simp only [List.getElem?_toArray, List.getElem?_cons_succ, List.getElem?_cons_zero]; rfl) (by kernel_rfl) (by kernel_rfl) (by kernel_rfl) (by exact fun _ _ _ h => h) (Or.inl ⟨by rfl, ?yq12⟩) ?_
        case yq12 => (intro W9; go_simp; try (with_reducible rfl))
        try simp only [Act.put, List.setIfInBounds_toArray, List.set_cons_zero, List.set_cons_succ]
        refine wpAny_ready (rs := [1, 4]) (by kernel_rfl) (by simp) ?_
        refine AllReady.cons (by simp only [List.getElem?_toArray, List.getElem?_cons_succ, List.getElem?_cons_zero]; rfl) (fun K hK => ?_) (AllReady.cons (by simp only [List.getElem?_toArray, List.getElem?_cons_succ, List.getElem?_cons_zero]; rfl) (fun K hK => ?_) AllReady.nil)
        · go_simp
          refine hK _ _ ?_
          clear hK K
          try simp only [Act.put, List.setIfInBounds_toArray, List.set_cons_zero, List.set_cons_succ]
          refine wpAny_ready (rs := [4]) (by kernel_rfl) (by simp) ?_
          refine AllReady.cons (by simp only [List.getElem?_toArray, List.getElem?_cons_succ, List.getElem?_cons_zero]; rfl) (fun K hK => ?_) AllReady.nil
          go_simp
          go_at_call 73
          refine (BL.out _ BD.out.rp).mono ?_
          rintro e w5 ⟨xa, xk, rfl, hb⟩
          have T5 := Lib.hid (BD.out.block hb)
          have c5 : w5.cell? ⟨w.heap.size, 1, none⟩ = some (.slice a es.length cap) := T5.out.1.b.cell 1
          have hbl5 := T5.out.1.b.lt
          clear hb
          dsimp only
          refine hK _ _ ?_
          clear hK K
          try simp only [Act.put, List.setIfInBounds_toArray, List.set_cons_zero, List.set_cons_succ]
          refine wpAny_ready (rs := [5]) (by kernel_rfl) (by simp) ?_
          refine AllReady.cons (by simp only [List.getElem?_toArray, List.getElem?_cons_succ, List.getElem?_cons_zero]; rfl) (fun K hK => ?_) AllReady.nil
          go_simp
          refine hK _ _ ?_
          clear hK K
          try simp only [Act.put, List.setIfInBounds_toArray, List.set_cons_zero, List.set_cons_succ]
          have hsz5 := T5.out.1.k.size
          have hes : es.length ≤ 200 := by have := HL.out; have := HZ.out; omega
          refine wpAny_ready (rs := [6]) (by kernel_rfl) (by simp) ?_
          refine AllReady.cons (by simp only [List.getElem?_toArray, List.getElem?_cons_succ, List.getElem?_cons_zero]; rfl) (fun K hK => ?_) AllReady.nil
          refine step_append_lies _ rfl _ _ _ rfl w.heap.size 53 i0 _ 5 56 Tryz.underlying22 hi0 hz0 hz1 hz2 rfl (by omega) (.slice a es.length cap) es.length (es.flatMap wbC) rfl (World.ownsRow.alloc T5.out.1.row _) ⟨w5.heap.size, 0, none⟩ 1 1 (wbC (b, xa, xk)) rfl rfl (World.news_of_block (heap_alloc_new w5 _)) (wb_one (b, xa, xk)) (by omega) (by simp only [maxLen]; omega) (by omega) (by simp; omega) (w5.heap.size + 1) (by simp) ?_
          intro gg cap4 w7 hown4 hgrow hat hlt4
          have hB4 := Tk.growA T5.out.1 T5.out.2 hgrow hown4
          have q1 : w7.cell? ⟨w.heap.size, 1, none⟩ = some (.slice a es.length cap) := hB4.b.cell 1
          have f1 : w7.frozen? ⟨w.heap.size, 1, none⟩ = false := hB4.b.free 1
          have hbl7 := hB4.b.lt
          have B7 := Lib.hid (hB4.put 1 (.slice (some ⟨gg, 0, none⟩) (es.length + 1) cap4))
          clear hown4 hgrow hat hlt4 hB4 c5 hsz5 hbl5 T5
          refine hK _ _ ?_
          clear hK K
          try simp only [Act.put, List.setIfInBounds_toArray, List.set_cons_zero, List.set_cons_succ]
          refine wpAny_take (i := 7) (v := ?vq7) (by simp only [List.getElem?_toArray, List.getElem?_cons_succ, List.getElem?_cons_zero]; rfl) (by kernel_rfl) (by kernel_rfl) (by kernel_rfl) (by exact fun _ _ _ h => h) (Or.inl ⟨by rfl, ?yq7⟩) ?_
          case yq7 => (intro W9; go_simp; try (with_reducible rfl))
          try simp only [Act.put, List.setIfInBounds_toArray, List.set_cons_zero, List.set_cons_succ]
          refine wpAny_ready (rs := [8]) (by kernel_rfl) (by simp) ?_
          refine AllReady.cons (by simp only [List.getElem?_toArray, List.getElem?_cons_succ, List.getElem?_cons_zero]; rfl) (fun K hK => ?_) AllReady.nil
          go_simp
          refine hK _ _ ?_
          clear hK K
          try simp only [Act.put, List.setIfInBounds_toArray, List.set_cons_zero, List.set_cons_succ]
          refine wpAny_done (by kernel_rfl) ?_ _
          clear q1 f1
          have hn9 : n ≤ 199 := by have := HZ.out; omega
          go_wp2
          go_roundg gk
          case measure => omega
          case rel => exact ⟨d2, es ++ [(b, xa, xk)], some ⟨gg, 0, none⟩, cap4, n + 1, by go_num, by have h := HL.out; show _ + 1 = _; rw [List.length_append, List.length_singleton, ← h], by have := HZ.out; omega, HN.out.trans (by rw [HE.out]; simp), by simpa using B7.out⟩
        · go_simp
          go_at_call 73
          refine (BL.out _ BD.out.rp).mono ?_
          rintro e w5 ⟨xa, xk, rfl, hb⟩
          have T5 := Lib.hid (BD.out.block hb)
          have c5 : w5.cell? ⟨w.heap.size, 1, none⟩ = some (.slice a es.length cap) := T5.out.1.b.cell 1
          have hbl5 := T5.out.1.b.lt
          clear hb
          dsimp only
          refine hK _ _ ?_
          clear hK K
          try simp only [Act.put, List.setIfInBounds_toArray, List.set_cons_zero, List.set_cons_succ]
          refine wpAny_ready (rs := [1, 5]) (by kernel_rfl) (by simp) ?_
          refine AllReady.cons (by simp only [List.getElem?_toArray, List.getElem?_cons_succ, List.getElem?_cons_zero]; rfl) (fun K hK => ?_) (AllReady.cons (by simp only [List.getElem?_toArray, List.getElem?_cons_succ, List.getElem?_cons_zero]; rfl) (fun K hK => ?_) AllReady.nil)
          · go_simp
            refine hK _ _ ?_
            clear hK K
            try simp only [Act.put, List.setIfInBounds_toArray, List.set_cons_zero, List.set_cons_succ]
            refine wpAny_ready (rs := [5]) (by kernel_rfl) (by simp) ?_
            refine AllReady.cons (by simp only [List.getElem?_toArray, List.getElem?_cons_succ, List.getElem?_cons_zero]; rfl) (fun K hK => ?_) AllReady.nil
            go_simp
            refine hK _ _ ?_
            clear hK K
            try simp only [Act.put, List.setIfInBounds_toArray, List.set_cons_zero, List.set_cons_succ]
            have hsz5 := T5.out.1.k.size
            have hes : es.length ≤ 200 := by have := HL.out; have := HZ.out; omega
            refine wpAny_ready (rs := [6]) (by kernel_rfl) (by simp) ?_
            refine AllReady.cons (by simp only [List.getElem?_toArray, List.getElem?_cons_succ, List.getElem?_cons_zero]; rfl) (fun K hK => ?_) AllReady.nil
            refine step_append_lies _ rfl _ _ _ rfl w.heap.size 53 i0 _ 5 56 Tryz.underlying22 hi0 hz0 hz1 hz2 rfl (by omega) (.slice a es.length cap) es.length (es.flatMap wbC) rfl (World.ownsRow.alloc T5.out.1.row _) ⟨w5.heap.size, 0, none⟩ 1 1 (wbC (b, xa, xk)) rfl rfl (World.news_of_block (heap_alloc_new w5 _)) (wb_one (b, xa, xk)) (by omega) (by simp only [maxLen]; omega) (by omega) (by simp; omega) (w5.heap.size + 1) (by simp) ?_
            intro gg cap4 w7 hown4 hgrow hat hlt4
            have hB4 := Tk.growA T5.out.1 T5.out.2 hgrow hown4
            have q1 : w7.cell? ⟨w.heap.size, 1, none⟩ = some (.slice a es.length cap) := hB4.b.cell 1
            have f1 : w7.frozen? ⟨w.heap.size, 1, none⟩ = false := hB4.b.free 1
            have hbl7 := hB4.b.lt
            have B7 := Lib.hid (hB4.put 1 (.slice (some ⟨gg, 0, none⟩) (es.length + 1) cap4))
            clear hown4 hgrow hat hlt4 hB4 c5 hsz5 hbl5 T5
            refine hK _ _ ?_
            clear hK K
            try simp only [Act.put, List.setIfInBounds_toArray, List.set_cons_zero, List.set_cons_succ]
            refine wpAny_take (i := 7) (v := ?vq8) (by simp only [List.getElem?_toArray, List.getElem?_cons_succ, List.getElem?_cons_zero]; rfl) (by kernel_rfl) (by kernel_rfl) (by kernel_rfl) (by exact fun _ _ _ h => h) (Or.inl ⟨by rfl, ?yq8⟩) ?_
            case yq8 => (intro W9; go_simp; try (with_reducible rfl))
            try simp only [Act.put, List.setIfInBounds_toArray, List.set_cons_zero, List.set_cons_succ]
            refine wpAny_ready (rs := [8]) (by kernel_rfl) (by simp) ?_
            refine AllReady.cons (by simp only [List.getElem?_toArray, List.getElem?_cons_succ, List.getElem?_cons_zero]; rfl) (fun K hK => ?_) AllReady.nil
            go_simp
            refine hK _ _ ?_
            clear hK K
            try simp only [Act.put, List.setIfInBounds_toArray, List.set_cons_zero, List.set_cons_succ]
            refine wpAny_done (by kernel_rfl) ?_ _
            clear q1 f1
            have hn9 : n ≤ 199 := by have := HZ.out; omega
            go_wp2
            go_roundg gk
            case measure => omega
            case rel => exact ⟨d2, es ++ [(b, xa, xk)], some ⟨gg, 0, none⟩, cap4, n + 1, by go_num, by have h := HL.out; show _ + 1 = _; rw [List.length_append, List.length_singleton, ← h], by have := HZ.out; omega, HN.out.trans (by rw [HE.out]; simp), by simpa using B7.out⟩
          · go_simp
            refine hK _ _ ?_
            clear hK K
            try simp only [Act.put, List.setIfInBounds_toArray, List.set_cons_zero, List.set_cons_succ]
            refine wpAny_ready (rs := [1]) (by kernel_rfl) (by simp) ?_
            refine AllReady.cons (by simp only [List.getElem?_toArray, List.getElem?_cons_succ, List.getElem?_cons_zero]; rfl) (fun K hK => ?_) AllReady.nil
            go_simp
            refine hK _ _ ?_
            clear hK K
            try simp only [Act.put, List.setIfInBounds_toArray, List.set_cons_zero, List.set_cons_succ]
            have hsz5 := T5.out.1.k.size
            have hes : es.length ≤ 200 := by have := HL.out; have := HZ.out; omega
            refine wpAny_ready (rs := [6]) (by kernel_rfl) (by simp) ?_
            refine AllReady.cons (by simp only [List.getElem?_toArray, List.getElem?_cons_succ, List.getElem?_cons_zero]; rfl) (fun K hK => ?_) AllReady.nil
            refine step_append_lies _ rfl _ _ _ rfl w.heap.size 53 i0 _ 5 56 Tryz.underlying22 hi0 hz0 hz1 hz2 rfl (by omega) (.slice a es.length cap) es.length (es.flatMap wbC) rfl (World.ownsRow.alloc T5.out.1.row _) ⟨w5.heap.size, 0, none⟩ 1 1 (wbC (b, xa, xk)) rfl rfl (World.news_of_block (heap_alloc_new w5 _)) (wb_one (b, xa, xk)) (by omega) (by simp only [maxLen]; omega) (by omega) (by simp; omega) (w5.heap.size + 1) (by simp) ?_
            intro gg cap4 w7 hown4 hgrow hat hlt4
            have hB4 := Tk.growA T5.out.1 T5.out.2 hgrow hown4
            have q1 : w7.cell? ⟨w.heap.size, 1, none⟩ = some (.slice a es.length cap) := hB4.b.cell 1
            have f1 : w7.frozen? ⟨w.heap.size, 1, none⟩ = false := hB4.b.free 1
            have hbl7 := hB4.b.lt
            have B7 := Lib.hid (hB4.put 1 (.slice (some ⟨gg, 0, none⟩) (es.length + 1) cap4))
            clear hown4 hgrow hat hlt4 hB4 c5 hsz5 hbl5 T5
            refine hK _ _ ?_
            clear hK K
            try simp only [Act.put, List.setIfInBounds_toArray, List.set_cons_zero, List.set_cons_succ]
            refine wpAny_take (i := 7) (v := ?vq9) (by simp only [List.getElem?_toArray, List.getElem?_cons_succ, List.getElem?_cons_zero]; rfl) (by kernel_rfl) (by kernel_rfl) (by kernel_rfl) (by exact fun _ _ _ h => h) (Or.inl ⟨by rfl, ?yq9⟩) ?_
            case yq9 => (intro W9; go_simp; try (with_reducible rfl))
            try simp only [Act.put, List.setIfInBounds_toArray, List.set_cons_zero, List.set_cons_succ]
            refine wpAny_ready (rs := [8]) (by kernel_rfl) (by simp) ?_
            refine AllReady.cons (by simp only [List.getElem?_toArray, List.getElem?_cons_succ, List.getElem?_cons_zero]; rfl) (fun K hK => ?_) AllReady.nil
            go_simp
            refine hK _ _ ?_
            clear hK K
            try simp only [Act.put, List.setIfInBounds_toArray, List.set_cons_zero, List.set_cons_succ]
            refine wpAny_done (by kernel_rfl) ?_ _
            clear q1 f1
            have hn9 : n ≤ 199 := by have := HZ.out; omega
            go_wp2
            go_roundg gk
            case measure => omega
            case rel => exact ⟨d2, es ++ [(b, xa, xk)], some ⟨gg, 0, none⟩, cap4, n + 1, by go_num, by have h := HL.out; show _ + 1 = _; rw [List.length_append, List.length_singleton, ← h], by have := HZ.out; omega, HN.out.trans (by rw [HE.out]; simp), by simpa using B7.out⟩
end Go.Proofs.YtbjmbahpcoanoaaGreatDoor
