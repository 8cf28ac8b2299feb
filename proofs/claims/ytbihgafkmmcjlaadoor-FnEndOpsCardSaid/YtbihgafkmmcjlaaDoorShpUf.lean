import Derived.Test.YtbihgafkmmcjlaaDoorShpT
import Derived.Test.YtbihgafkmmcjlaaDoorPjAj
import Derived.Test.YtbihgafkmmcjlaaDoorPjAd
import Derived.Test.YtbihgafkmmcjlaaDoorPjAe
import Derived.Deep.QuietTactic
import Derived.Deep.RegionLaw
import Derived.Deep.RegionHeld
import Derived.Deep.Cut
import Derived.BigQuiet
namespace Go.Proofs.YtbihgafkmmcjlaaDoor
open Go.RowKit
set_option linter.unusedVariables false
set_option linter.unusedSimpArgs false
set_option maxRecDepth 100000 in
set_option maxHeartbeats 4000000 in
theorem stepShapes_new (p : ShPtr) (s : Shp) (cd k ar : Int) (hd : s.done = false) (hk : newK cd = k) (hk0 : 0 ≤ k ∧ k ≤ 5) (h19 : 0 ≤ cd ∧ cd ≤ 19) (hF : stepFree s ⟨cd, ar⟩ = some (s.push k)) (base : Nat) (w : World) (h : ShOwn w base p s) (hbase : base ≤ w.heap.size) (hs : s.Small) :
    Calls Tryd.prog 33 #[shVal p s, .agg #[.int .i64 cd, .int .i64 ar]] w (TriesSh w p base (stepShp s ⟨cd, ar⟩)) := by
  obtain ⟨K, c1, F, c2, S, c3, M, c4⟩ := p
  have hS := ShSt.enter3 h hbase (.cells #[.int .i64 cd, .int .i64 ar] 42)
  have lo : Lies (((w.alloc (.cells (shCells ⟨K, c1, F, c2, S, c3, M, c4⟩ s) 38)).alloc (.cells #[.int .i64 cd, .int .i64 ar] 42)).alloc (.cells zero5 38)) (w.heap.size + 1) #[.int .i64 cd, .int .i64 ar] 42 := by
    have := (Lies.new (w.alloc (.cells (shCells ⟨K, c1, F, c2, S, c3, M, c4⟩ s) 38)) #[.int .i64 cd, .int .i64 ar] 42).alloc (.cells zero5 38)
    simpa using this
  have hst := hs.t
  have hkl := hs.k
  have Hs := hide hs
  have Hd := hide hd
  have hoffo := h.off (q := w.heap.size + 1) (.inr (by omega))
  clear h hs hd
  unfold shVal
  unfold shCells zero5 at *
  dsimp only at hS lo ⊢
  go_enter Tryd.func33, Tryd.ntmps33
  go_upto_region 1 with fail
  generalize ((w.alloc (.cells #[.slice K s.kinds.length c1, .slice F s.full.length c2, .slice S s.stack.length c3, .slice M s.memo.length c4, .bool s.done] 38)).alloc (.cells #[.int .i64 cd, .int .i64 ar] 42)).alloc (.cells #[.slice none 0 0, .slice none 0 0, .slice none 0 0, .slice none 0 0, .bool false] 38) = W at hS lo ⊢
  obtain ⟨e0, e1, e2, e3, e4⟩ := hS.bx.cells
  dsimp only at e0 e1 e2 e3 e4
  have d0 := lo.cell 0
  have d1 := lo.cell 1
  simp only [jD, jE, jF] at d0 d1
  have hd := Hd.out
  rw [hd] at e4
  have HF := hide hF
  have Hk := hide hk
  obtain ⟨hk1, hk2⟩ := hk0
  clear hF hk
  have HC := hide (fun (X : World) (hX : ShSt w X ⟨K, c1, F, c2, S, c3, M, c4⟩ base base w.heap.size (w.heap.size + 2) ⟨K, c1, F, c2, S, c3, M, c4⟩ s) => pushShape_any ⟨K, c1, F, c2, S, c3, M, c4⟩ s k base X hX.bx.own hX.hB (by constructor <;> omega) hkl hst Hs.out.ok.fl)
  unfold shVal shCells at HC
  dsimp only at HC
  rw [hd] at HC
  go_wp2_with fail
  refine (newKind_any cd W h19).mono ?_
  rintro e w2 ⟨rfl, hw2⟩
  subst hw2
  rw [Hk.out]
  go_upto_region 6 with fail
  have hX0 : Lies w2.drew (w.heap.size + 1) #[.int .i64 cd, .int .i64 ar] 42 := lo
  have hSd := hS.below ((Below.refl w2.heap.size w2).drew)
  refine wp_region_held_drew (S := fun w' => Lies w' (w.heap.size + 1) #[.int .i64 cd, .int .i64 ar] 42) (by kernel_rfl) hX0 (fun hHeld => ?_)
  clear hX0 hS lo e0 e1 e2 e3 e4 d0 d1
  generalize w2.drew = Xd at *
  obtain ⟨e0, e1, e2, e3, e4⟩ := hSd.bx.cells
  dsimp only at e0 e1 e2 e3 e4
  rw [hd] at e4
  refine takeO 1 25 rfl hHeld (v := ?_) (hv := ?_) (h := ?_)
  rotate_left
  · (intro w hSw; have q5 := hSw.zero; go_simp; try with_reducible rfl)
  try simp only [Act.put, jA, jB, jC]
  refine takeO 2 26 rfl hHeld (v := ?_) (hv := ?_) (h := ?_)
  rotate_left
  · (intro w hSw; have q5 := hSw.zero; go_simp; try with_reducible rfl)
  try simp only [Act.put, jA, jB, jC]
  refine wpAnyH_ready (rs := [0, 3]) (by kernel_rfl) (by simp) ?_
  refine AllReadyH.cons (o := ⟨some 24, _, _, _, _, _⟩) rfl (fun KK hK => ?_) ?_
  · skip
    go_simp
    refine hK.out _ _ hHeld (fun hH => ?_)
    clear hK KK hH
    try simp only [Act.put, jA, jB, jC]
    refine wpAnyH_ready (rs := [3]) (by kernel_rfl) (by simp) ?_
    refine AllReadyH.cons (o := ⟨some 27, _, _, _, _, _⟩) rfl (fun KK hK => ?_) AllReadyH.nil
    go_simp
    go_at_call 50
    refine (newKind_any cd _ h19).mono ?_
    rintro e w3 ⟨rfl, hw3⟩
    rw [hw3, Hk.out]
    clear hw3
    refine hK.out _ _ hHeld (fun hH => ?_)
    clear hK KK hH
    try simp only [Act.put, jA, jB, jC]
    refine wpAnyH_ready (rs := [4]) (by kernel_rfl) (by simp) ?_
    refine AllReadyH.cons (o := ⟨some 28, _, _, _, _, _⟩) rfl (fun KK hK => ?_) AllReadyH.nil
    go_simp
    go_at_call 51
    refine (HC.out Xd hSd).mono ?_
    rintro e w5 ⟨⟨K5, a1, F5, a2, S5, a3, M5, a4⟩, rfl, ho5, hb5, hf5, hof5⟩
    have hlo5 : Lies w5 (w.heap.size + 1) #[.int .i64 cd, .int .i64 ar] 42 := (hf5 _ hHeld.lt hoffo).trans hHeld
    generalize htd : s.push k = t at *
    obtain ⟨hbx5, _⟩ := hSd.refillW (p5 := ⟨K5, a1, F5, a2, S5, a3, M5, a4⟩) (t := t) hb5 hf5
    obtain ⟨⟨r0, r1, r2, r3, r4, f0, f1, f2, f3, f4, _, _, _, _, _⟩, _⟩ := Lies.set5 (show Lies w5 w.heap.size #[.slice K s.kinds.length c1, .slice F s.full.length c2, .slice S s.stack.length c3, .slice M s.memo.length c4, .bool s.done] 38 from hbx5) (.slice K5 t.kinds.length a1) (.slice F5 t.full.length a2) (.slice S5 t.stack.length a3) (.slice M5 t.memo.length a4) (.bool t.done)
    have hS6 := hSd.refill hb5 hf5 ho5 hof5
    have htk : t.kinds.length ≤ 1001 := by rw [← htd]; simp [Shp.push]; omega
    have htt : t.stack.length ≤ 1001 := by rw [← htd]; simp [Shp.push]; omega
    have hneo : w.heap.size + 1 ≠ w.heap.size := by omega
    unfold shVal shCells
    dsimp only
    refine hK.out _ _ hlo5 (fun hH => ?_)
    clear hK KK hH hHeld hSd hbx5 ho5 hof5 hb5 hf5 e0 e1 e2 e3 e4 HC htd
    try simp only [Act.put, jA, jB, jC]
    refine wpAnyH_ready (rs := [5]) (by kernel_rfl) (by simp) ?_
    refine AllReadyH.cons (o := ⟨none, _, _, _, _, _⟩) rfl (fun KK hK => ?_) AllReadyH.nil
    go_simp
    refine hK.out _ _ ((set5_block hneo).trans hlo5) (fun hH => ?_)
    clear hK KK hH hlo5
    try simp only [Act.put, jA, jB, jC]
    refine wpAnyH_done (by kernel_rfl) ?_ _
    clear r0 r1 r2 r3 r4 f0 f1 f2 f3 f4
    go_upto_region 15 with fail
    generalize hX : set5 w5 w.heap.size (.slice K5 t.kinds.length a1) (.slice F5 t.full.length a2) (.slice S5 t.stack.length a3) (.slice M5 t.memo.length a4) (.bool t.done) = X at hS6
    unfold set5 at hX
    rw [hX]
    clear hX
    have HS6 := hide hS6
    clear hS6
    have HW := hide (HS6.out.toW)
    by_cases hk3 : t.kinds.length ≤ 300
    · have tk : decide ((t.kinds.length : Int) ≤ 300) = true := by simp <;> omega
      have hk3i : (t.kinds.length : Int) ≤ 300 := by omega
      by_cases ht3 : t.stack.length ≤ 300
      · have tt : decide ((t.stack.length : Int) ≤ 300) = true := by simp <;> omega
        have ht3i : (t.stack.length : Int) ≤ 300 := by omega
        have HN := hide (stepShp_of HF.out ⟨hk3, ht3⟩)
        have hX0 : Lies X.drew w.heap.size #[.slice K5 t.kinds.length a1, .slice F5 t.full.length a2, .slice S5 t.stack.length a3, .slice M5 t.memo.length a4, .bool t.done] 38 := HW.out.box
        have hne : w.heap.size ≠ w.heap.size + 1 + 1 := by omega
        refine wp_region_held_drew (S := fun w' => Lies w' w.heap.size #[.slice K5 t.kinds.length a1, .slice F5 t.full.length a2, .slice S5 t.stack.length a3, .slice M5 t.memo.length a4, .bool t.done] 38) (by kernel_rfl) hX0 (fun hHeld => ?_)
        have HWd : Hid (ShW w X.drew ⟨K, c1, F, c2, S, c3, M, c4⟩ base w.heap.size (w.heap.size + 1 + 1) ⟨K5, a1, F5, a2, S5, a3, M5, a4⟩ t) := hide ⟨HW.out.box, HW.out.res, HW.out.bel.drew, HW.out.fr, HW.out.ne, HW.out.hq2, HW.out.sq2⟩
        clear hX0
        have HOd := hide (HS6.out.below ((Below.refl X.heap.size X).drew))
        generalize X.drew = Xd at *
        refine takeO 0 87 rfl hHeld (v := ?_) (hv := ?_) (h := ?_)
        rotate_left
        · (intro w h; obtain ⟨a, b, c, d, e⟩ := h.five; go_simp; try with_reducible rfl)
        try simp only [Act.put, jA, jB, jC]
        refine takeO 1 88 rfl hHeld (v := ?_) (hv := ?_) (h := ?_)
        rotate_left
        · (intro w h; obtain ⟨a, b, c, d, e⟩ := h.five; go_simp; try with_reducible rfl)
        try simp only [Act.put, jA, jB, jC]
        refine takeO 2 89 rfl hHeld (v := ?_) (hv := ?_) (h := ?_)
        rotate_left
        · (intro w h; obtain ⟨a, b, c, d, e⟩ := h.five; go_simp; try with_reducible rfl)
        try simp only [Act.put, jA, jB, jC]
        refine takeO 3 90 rfl hHeld (v := ?_) (hv := ?_) (h := ?_)
        rotate_left
        · (intro w h; obtain ⟨a, b, c, d, e⟩ := h.five; go_simp; try with_reducible rfl)
        try simp only [Act.put, jA, jB, jC]
        refine takeO 4 91 rfl hHeld (v := ?_) (hv := ?_) (h := ?_)
        rotate_left
        · (intro w h; obtain ⟨a, b, c, d, e⟩ := h.five; go_simp; try with_reducible rfl)
        try simp only [Act.put, jA, jB, jC]
        refine takeO 5 92 rfl hHeld (v := ?_) (hv := ?_) (h := ?_)
        rotate_left
        · (intro w h; obtain ⟨a, b, c, d, e⟩ := h.five; go_simp; try with_reducible rfl)
        try simp only [Act.put, jA, jB, jC]
        refine takeO 6 93 rfl hHeld (v := ?_) (hv := ?_) (h := ?_)
        rotate_left
        · (intro w h; obtain ⟨a, b, c, d, e⟩ := h.five; go_simp; try with_reducible rfl)
        try simp only [Act.put, jA, jB, jC]
        refine takeO 7 94 rfl hHeld (v := ?_) (hv := ?_) (h := ?_)
        rotate_left
        · (intro w h; obtain ⟨a, b, c, d, e⟩ := h.five; go_simp; try with_reducible rfl)
        try simp only [Act.put, jA, jB, jC]
        refine takeO 8 95 rfl hHeld (v := ?_) (hv := ?_) (h := ?_)
        rotate_left
        · (intro w h; obtain ⟨a, b, c, d, e⟩ := h.five; go_simp; try with_reducible rfl)
        try simp only [Act.put, jA, jB, jC]
        refine takeO 9 96 rfl hHeld (v := ?_) (hv := ?_) (h := ?_)
        rotate_left
        · (intro w h; obtain ⟨a, b, c, d, e⟩ := h.five; go_simp; try with_reducible rfl)
        try simp only [Act.put, jA, jB, jC]
        refine takeO 10 97 rfl hHeld (v := ?_) (hv := ?_) (h := ?_)
        rotate_left
        · (intro w h; obtain ⟨a, b, c, d, e⟩ := h.five; go_simp; try with_reducible rfl)
        try simp only [Act.put, jA, jB, jC]
        refine takeO 11 98 rfl hHeld (v := ?_) (hv := ?_) (h := ?_)
        rotate_left
        · (intro w h; obtain ⟨a, b, c, d, e⟩ := h.five; go_simp; try with_reducible rfl)
        try simp only [Act.put, jA, jB, jC]
        refine takeO 12 99 rfl hHeld (v := ?_) (hv := ?_) (h := ?_)
        rotate_left
        · (intro w h; obtain ⟨a, b, c, d, e⟩ := h.five; go_simp; try with_reducible rfl)
        try simp only [Act.put, jA, jB, jC]
        refine takeO 13 100 rfl hHeld (v := ?_) (hv := ?_) (h := ?_)
        rotate_left
        · (intro w h; obtain ⟨a, b, c, d, e⟩ := h.five; go_simp; try with_reducible rfl)
        try simp only [Act.put, jA, jB, jC]
        have hRs : Lies Xd (w.heap.size + 1 + 1) #[.slice none 0 0, .slice none 0 0, .slice none 0 0, .slice none 0 0, .bool false] 38   := HWd.out.res
        obtain ⟨⟨r0, r1, r2, r3, r4, f0, f1, f2, f3, f4, s0, s1, s2, s3, s4⟩, _⟩ := Lies.set5 hRs (.slice K5 t.kinds.length a1) (.slice F5 t.full.length a2) (.slice S5 t.stack.length a3) (.slice M5 t.memo.length a4) (.bool t.done)
        refine wpAnyH_ready (rs := [14]) (by kernel_rfl) (by simp) ?_
        refine AllReadyH.cons (o := ⟨none, _, _, _, _, _⟩) rfl (fun K hK => ?_) AllReadyH.nil
        go_simp
        refine hK.out _ _ ((set5_block hne).trans hHeld) (fun hH2 => ?_)
        clear hK K
        try simp only [Act.put, jA, jB, jC]
        refine wpAnyH_ready (rs := [15]) (by kernel_rfl) (by simp) ?_
        refine AllReadyH.cons (o := ⟨some 5, _, _, _, _, _⟩) rfl (fun K hK => ?_) AllReadyH.nil
        go_simp
        refine hK.out _ _ hH2 (fun hH3 => ?_)
        clear hK K hH3 hH2 hHeld
        try simp only [Act.put, jA, jB, jC]
        refine wpAnyH_done (by kernel_rfl) ?_ _
        clear r0 r1 r2 r3 r4 f0 f1 f2 f3 f4 hRs
        have hB0 : Below base w (set5 Xd (w.heap.size + 1 + 1) (.slice K5 t.kinds.length a1) (.slice F5 t.full.length a2) (.slice S5 t.stack.length a3) (.slice M5 t.memo.length a4) (.bool t.done)) := set5_below HWd.out.bel HWd.out.hq2
        have hF0 : FrSh w (set5 Xd (w.heap.size + 1 + 1) (.slice K5 t.kinds.length a1) (.slice F5 t.full.length a2) (.slice S5 t.stack.length a3) (.slice M5 t.memo.length a4) (.bool t.done)) ⟨K, c1, F, c2, S, c3, M, c4⟩ := fun k hk ho => (set5_block (by omega)).trans (HWd.out.fr k hk ho)
        have HR0 := hide (And.intro hB0 hF0)
        clear hB0 hF0
        have hO : ShOwn (set5 Xd (w.heap.size + 1 + 1) (.slice K5 t.kinds.length a1) (.slice F5 t.full.length a2) (.slice S5 t.stack.length a3) (.slice M5 t.memo.length a4) (.bool t.done)) base ⟨K5, a1, F5, a2, S5, a3, M5, a4⟩ t := HOd.out.bx.own.set5 HOd.out.off2
        have HO := hide (And.intro hO HOd.out.offs)
        clear hO
        go_wp2
        refine bodyPost_ret (v := .tuple #[shVal ⟨K5, a1, F5, a2, S5, a3, M5, a4⟩ t, .bool true]) (by simp [shVal, shCells, results, Tryd.results33, go_sem, s0, s1, s2, s3, s4]) rfl ?_
        exact ⟨_, _, _, rfl, HR0.out.1, HR0.out.2, fun t ht => by (rw [HN.out] at ht; cases ht; exact ⟨rfl, rfl, HO.out.1, HO.out.2⟩), fun hh => by (rw [HN.out] at hh; cases hh)⟩
      · have tt : decide ((t.stack.length : Int) ≤ 300) = false := by simp <;> omega
        have HN := hide (stepShp_wide HF.out (fun h => ht3 h.2))
        have hX0 : Lies X.drew w.heap.size #[.slice K5 t.kinds.length a1, .slice F5 t.full.length a2, .slice S5 t.stack.length a3, .slice M5 t.memo.length a4, .bool t.done] 38 := HW.out.box
        have hne : w.heap.size ≠ w.heap.size + 1 + 1 := by omega
        refine wp_region_held_drew (S := fun w' => Lies w' w.heap.size #[.slice K5 t.kinds.length a1, .slice F5 t.full.length a2, .slice S5 t.stack.length a3, .slice M5 t.memo.length a4, .bool t.done] 38) (by kernel_rfl) hX0 (fun hHeld => ?_)
        have HWd : Hid (ShW w X.drew ⟨K, c1, F, c2, S, c3, M, c4⟩ base w.heap.size (w.heap.size + 1 + 1) ⟨K5, a1, F5, a2, S5, a3, M5, a4⟩ t) := hide ⟨HW.out.box, HW.out.res, HW.out.bel.drew, HW.out.fr, HW.out.ne, HW.out.hq2, HW.out.sq2⟩
        clear hX0
        generalize X.drew = Xd at *
        refine takeO 0 87 rfl hHeld (v := ?_) (hv := ?_) (h := ?_)
        rotate_left
        · (intro w h; obtain ⟨a, b, c, d, e⟩ := h.five; go_simp; try with_reducible rfl)
        try simp only [Act.put, jA, jB, jC]
        refine takeO 1 88 rfl hHeld (v := ?_) (hv := ?_) (h := ?_)
        rotate_left
        · (intro w h; obtain ⟨a, b, c, d, e⟩ := h.five; go_simp; try with_reducible rfl)
        try simp only [Act.put, jA, jB, jC]
        refine takeO 2 89 rfl hHeld (v := ?_) (hv := ?_) (h := ?_)
        rotate_left
        · (intro w h; obtain ⟨a, b, c, d, e⟩ := h.five; go_simp; try with_reducible rfl)
        try simp only [Act.put, jA, jB, jC]
        refine takeO 3 90 rfl hHeld (v := ?_) (hv := ?_) (h := ?_)
        rotate_left
        · (intro w h; obtain ⟨a, b, c, d, e⟩ := h.five; go_simp; try with_reducible rfl)
        try simp only [Act.put, jA, jB, jC]
        refine takeO 4 91 rfl hHeld (v := ?_) (hv := ?_) (h := ?_)
        rotate_left
        · (intro w h; obtain ⟨a, b, c, d, e⟩ := h.five; go_simp; try with_reducible rfl)
        try simp only [Act.put, jA, jB, jC]
        refine takeO 5 92 rfl hHeld (v := ?_) (hv := ?_) (h := ?_)
        rotate_left
        · (intro w h; obtain ⟨a, b, c, d, e⟩ := h.five; go_simp; try with_reducible rfl)
        try simp only [Act.put, jA, jB, jC]
        refine takeO 6 93 rfl hHeld (v := ?_) (hv := ?_) (h := ?_)
        rotate_left
        · (intro w h; obtain ⟨a, b, c, d, e⟩ := h.five; go_simp; try with_reducible rfl)
        try simp only [Act.put, jA, jB, jC]
        refine takeO 7 94 rfl hHeld (v := ?_) (hv := ?_) (h := ?_)
        rotate_left
        · (intro w h; obtain ⟨a, b, c, d, e⟩ := h.five; go_simp; try with_reducible rfl)
        try simp only [Act.put, jA, jB, jC]
        refine takeO 8 95 rfl hHeld (v := ?_) (hv := ?_) (h := ?_)
        rotate_left
        · (intro w h; obtain ⟨a, b, c, d, e⟩ := h.five; go_simp; try with_reducible rfl)
        try simp only [Act.put, jA, jB, jC]
        refine takeO 9 96 rfl hHeld (v := ?_) (hv := ?_) (h := ?_)
        rotate_left
        · (intro w h; obtain ⟨a, b, c, d, e⟩ := h.five; go_simp; try with_reducible rfl)
        try simp only [Act.put, jA, jB, jC]
        refine takeO 10 97 rfl hHeld (v := ?_) (hv := ?_) (h := ?_)
        rotate_left
        · (intro w h; obtain ⟨a, b, c, d, e⟩ := h.five; go_simp; try with_reducible rfl)
        try simp only [Act.put, jA, jB, jC]
        refine takeO 11 98 rfl hHeld (v := ?_) (hv := ?_) (h := ?_)
        rotate_left
        · (intro w h; obtain ⟨a, b, c, d, e⟩ := h.five; go_simp; try with_reducible rfl)
        try simp only [Act.put, jA, jB, jC]
        refine takeO 12 99 rfl hHeld (v := ?_) (hv := ?_) (h := ?_)
        rotate_left
        · (intro w h; obtain ⟨a, b, c, d, e⟩ := h.five; go_simp; try with_reducible rfl)
        try simp only [Act.put, jA, jB, jC]
        refine takeO 13 100 rfl hHeld (v := ?_) (hv := ?_) (h := ?_)
        rotate_left
        · (intro w h; obtain ⟨a, b, c, d, e⟩ := h.five; go_simp; try with_reducible rfl)
        try simp only [Act.put, jA, jB, jC]
        have hRs : Lies Xd (w.heap.size + 1 + 1) #[.slice none 0 0, .slice none 0 0, .slice none 0 0, .slice none 0 0, .bool false] 38   := HWd.out.res
        obtain ⟨⟨r0, r1, r2, r3, r4, f0, f1, f2, f3, f4, s0, s1, s2, s3, s4⟩, _⟩ := Lies.set5 hRs (.slice K5 t.kinds.length a1) (.slice F5 t.full.length a2) (.slice S5 t.stack.length a3) (.slice M5 t.memo.length a4) (.bool t.done)
        refine wpAnyH_ready (rs := [14]) (by kernel_rfl) (by simp) ?_
        refine AllReadyH.cons (o := ⟨none, _, _, _, _, _⟩) rfl (fun K hK => ?_) AllReadyH.nil
        go_simp
        refine hK.out _ _ ((set5_block hne).trans hHeld) (fun hH2 => ?_)
        clear hK K
        try simp only [Act.put, jA, jB, jC]
        refine wpAnyH_ready (rs := [15]) (by kernel_rfl) (by simp) ?_
        refine AllReadyH.cons (o := ⟨some 5, _, _, _, _, _⟩) rfl (fun K hK => ?_) AllReadyH.nil
        go_simp
        refine hK.out _ _ hH2 (fun hH3 => ?_)
        clear hK K hH3 hH2 hHeld
        try simp only [Act.put, jA, jB, jC]
        refine wpAnyH_done (by kernel_rfl) ?_ _
        clear r0 r1 r2 r3 r4 f0 f1 f2 f3 f4 hRs
        have hB0 : Below base w (set5 Xd (w.heap.size + 1 + 1) (.slice K5 t.kinds.length a1) (.slice F5 t.full.length a2) (.slice S5 t.stack.length a3) (.slice M5 t.memo.length a4) (.bool t.done)) := set5_below HWd.out.bel HWd.out.hq2
        have hF0 : FrSh w (set5 Xd (w.heap.size + 1 + 1) (.slice K5 t.kinds.length a1) (.slice F5 t.full.length a2) (.slice S5 t.stack.length a3) (.slice M5 t.memo.length a4) (.bool t.done)) ⟨K, c1, F, c2, S, c3, M, c4⟩ := fun k hk ho => (set5_block (by omega)).trans (HWd.out.fr k hk ho)
        have HR0 := hide (And.intro hB0 hF0)
        clear hB0 hF0
        go_wp2
        refine bodyPost_ret (v := .tuple #[shVal ⟨K5, a1, F5, a2, S5, a3, M5, a4⟩ t, .bool false]) (by simp [shVal, shCells, results, Tryd.results33, go_sem, s0, s1, s2, s3, s4]) rfl ?_
        exact ⟨_, _, _, rfl, HR0.out.1, HR0.out.2, fun t ht => by (rw [HN.out] at ht; cases ht), fun _ => rfl⟩
    · have tk : decide ((t.kinds.length : Int) ≤ 300) = false := by simp <;> omega
      have HN := hide (stepShp_wide HF.out (fun h => hk3 h.1))
      have hX0 : Lies X.drew w.heap.size #[.slice K5 t.kinds.length a1, .slice F5 t.full.length a2, .slice S5 t.stack.length a3, .slice M5 t.memo.length a4, .bool t.done] 38 := HW.out.box
      have hne : w.heap.size ≠ w.heap.size + 1 + 1 := by omega
      refine wp_region_held_drew (S := fun w' => Lies w' w.heap.size #[.slice K5 t.kinds.length a1, .slice F5 t.full.length a2, .slice S5 t.stack.length a3, .slice M5 t.memo.length a4, .bool t.done] 38) (by kernel_rfl) hX0 (fun hHeld => ?_)
      have HWd : Hid (ShW w X.drew ⟨K, c1, F, c2, S, c3, M, c4⟩ base w.heap.size (w.heap.size + 1 + 1) ⟨K5, a1, F5, a2, S5, a3, M5, a4⟩ t) := hide ⟨HW.out.box, HW.out.res, HW.out.bel.drew, HW.out.fr, HW.out.ne, HW.out.hq2, HW.out.sq2⟩
      clear hX0
      generalize X.drew = Xd at *
      refine takeO 0 87 rfl hHeld (v := ?_) (hv := ?_) (h := ?_)
      rotate_left
      · (intro w h; obtain ⟨a, b, c, d, e⟩ := h.five; go_simp; try with_reducible rfl)
      try simp only [Act.put, jA, jB, jC]
      refine takeO 1 88 rfl hHeld (v := ?_) (hv := ?_) (h := ?_)
      rotate_left
      · (intro w h; obtain ⟨a, b, c, d, e⟩ := h.five; go_simp; try with_reducible rfl)
      try simp only [Act.put, jA, jB, jC]
      refine takeO 2 89 rfl hHeld (v := ?_) (hv := ?_) (h := ?_)
      rotate_left
      · (intro w h; obtain ⟨a, b, c, d, e⟩ := h.five; go_simp; try with_reducible rfl)
      try simp only [Act.put, jA, jB, jC]
      refine takeO 3 90 rfl hHeld (v := ?_) (hv := ?_) (h := ?_)
      rotate_left
      · (intro w h; obtain ⟨a, b, c, d, e⟩ := h.five; go_simp; try with_reducible rfl)
      try simp only [Act.put, jA, jB, jC]
      refine takeO 4 91 rfl hHeld (v := ?_) (hv := ?_) (h := ?_)
      rotate_left
      · (intro w h; obtain ⟨a, b, c, d, e⟩ := h.five; go_simp; try with_reducible rfl)
      try simp only [Act.put, jA, jB, jC]
      refine takeO 5 92 rfl hHeld (v := ?_) (hv := ?_) (h := ?_)
      rotate_left
      · (intro w h; obtain ⟨a, b, c, d, e⟩ := h.five; go_simp; try with_reducible rfl)
      try simp only [Act.put, jA, jB, jC]
      refine takeO 6 93 rfl hHeld (v := ?_) (hv := ?_) (h := ?_)
      rotate_left
      · (intro w h; obtain ⟨a, b, c, d, e⟩ := h.five; go_simp; try with_reducible rfl)
      try simp only [Act.put, jA, jB, jC]
      refine takeO 7 94 rfl hHeld (v := ?_) (hv := ?_) (h := ?_)
      rotate_left
      · (intro w h; obtain ⟨a, b, c, d, e⟩ := h.five; go_simp; try with_reducible rfl)
      try simp only [Act.put, jA, jB, jC]
      refine takeO 8 95 rfl hHeld (v := ?_) (hv := ?_) (h := ?_)
      rotate_left
      · (intro w h; obtain ⟨a, b, c, d, e⟩ := h.five; go_simp; try with_reducible rfl)
      try simp only [Act.put, jA, jB, jC]
      refine takeN 9 96 rfl hHeld (h := ?_)
      try simp only [Act.put, jA, jB, jC]
      refine takeN 10 97 rfl hHeld (h := ?_)
      try simp only [Act.put, jA, jB, jC]
      refine takeN 11 98 rfl hHeld (h := ?_)
      try simp only [Act.put, jA, jB, jC]
      refine takeN 12 99 rfl hHeld (h := ?_)
      try simp only [Act.put, jA, jB, jC]
      refine takeO 13 100 rfl hHeld (v := ?_) (hv := ?_) (h := ?_)
      rotate_left
      · (intro w h; obtain ⟨a, b, c, d, e⟩ := h.five; go_simp; try with_reducible rfl)
      try simp only [Act.put, jA, jB, jC]
      have hRs : Lies Xd (w.heap.size + 1 + 1) #[.slice none 0 0, .slice none 0 0, .slice none 0 0, .slice none 0 0, .bool false] 38   := HWd.out.res
      obtain ⟨⟨r0, r1, r2, r3, r4, f0, f1, f2, f3, f4, s0, s1, s2, s3, s4⟩, _⟩ := Lies.set5 hRs (.slice K5 t.kinds.length a1) (.slice F5 t.full.length a2) (.slice S5 t.stack.length a3) (.slice M5 t.memo.length a4) (.bool t.done)
      refine wpAnyH_ready (rs := [14]) (by kernel_rfl) (by simp) ?_
      refine AllReadyH.cons (o := ⟨none, _, _, _, _, _⟩) rfl (fun K hK => ?_) AllReadyH.nil
      go_simp
      refine hK.out _ _ ((set5_block hne).trans hHeld) (fun hH2 => ?_)
      clear hK K
      try simp only [Act.put, jA, jB, jC]
      refine wpAnyH_ready (rs := [15]) (by kernel_rfl) (by simp) ?_
      refine AllReadyH.cons (o := ⟨some 5, _, _, _, _, _⟩) rfl (fun K hK => ?_) AllReadyH.nil
      go_simp
      refine hK.out _ _ hH2 (fun hH3 => ?_)
      clear hK K hH3 hH2 hHeld
      try simp only [Act.put, jA, jB, jC]
      refine wpAnyH_done (by kernel_rfl) ?_ _
      clear r0 r1 r2 r3 r4 f0 f1 f2 f3 f4 hRs
      have hB0 : Below base w (set5 Xd (w.heap.size + 1 + 1) (.slice K5 t.kinds.length a1) (.slice F5 t.full.length a2) (.slice S5 t.stack.length a3) (.slice M5 t.memo.length a4) (.bool t.done)) := set5_below HWd.out.bel HWd.out.hq2
      have hF0 : FrSh w (set5 Xd (w.heap.size + 1 + 1) (.slice K5 t.kinds.length a1) (.slice F5 t.full.length a2) (.slice S5 t.stack.length a3) (.slice M5 t.memo.length a4) (.bool t.done)) ⟨K, c1, F, c2, S, c3, M, c4⟩ := fun k hk ho => (set5_block (by omega)).trans (HWd.out.fr k hk ho)
      have HR0 := hide (And.intro hB0 hF0)
      clear hB0 hF0
      go_wp2
      refine bodyPost_ret (v := .tuple #[shVal ⟨K5, a1, F5, a2, S5, a3, M5, a4⟩ t, .bool false]) (by simp [shVal, shCells, results, Tryd.results33, go_sem, s0, s1, s2, s3, s4]) rfl ?_
      exact ⟨_, _, _, rfl, HR0.out.1, HR0.out.2, fun t ht => by (rw [HN.out] at ht; cases ht), fun _ => rfl⟩
  refine AllReadyH.cons (o := ⟨some 27, _, _, _, _, _⟩) rfl (fun KK hK => ?_) AllReadyH.nil
  go_simp
  go_at_call 50
  refine (newKind_any cd _ h19).mono ?_
  rintro e w3 ⟨rfl, hw3⟩
  rw [hw3, Hk.out]
  clear hw3
  refine hK.out _ _ hHeld (fun hH => ?_)
  clear hK KK hH
  try simp only [Act.put, jA, jB, jC]
  refine wpAnyH_ready (rs := [0]) (by kernel_rfl) (by simp) ?_
  refine AllReadyH.cons (o := ⟨some 24, _, _, _, _, _⟩) rfl (fun KK hK => ?_) AllReadyH.nil
  go_simp
  refine hK.out _ _ hHeld (fun hH => ?_)
  clear hK KK hH
  try simp only [Act.put, jA, jB, jC]
  refine wpAnyH_ready (rs := [4]) (by kernel_rfl) (by simp) ?_
  refine AllReadyH.cons (o := ⟨some 28, _, _, _, _, _⟩) rfl (fun KK hK => ?_) AllReadyH.nil
  go_simp
  go_at_call 51
  refine (HC.out Xd hSd).mono ?_
  rintro e w5 ⟨⟨K5, a1, F5, a2, S5, a3, M5, a4⟩, rfl, ho5, hb5, hf5, hof5⟩
  have hlo5 : Lies w5 (w.heap.size + 1) #[.int .i64 cd, .int .i64 ar] 42 := (hf5 _ hHeld.lt hoffo).trans hHeld
  generalize htd : s.push k = t at *
  obtain ⟨hbx5, _⟩ := hSd.refillW (p5 := ⟨K5, a1, F5, a2, S5, a3, M5, a4⟩) (t := t) hb5 hf5
  obtain ⟨⟨r0, r1, r2, r3, r4, f0, f1, f2, f3, f4, _, _, _, _, _⟩, _⟩ := Lies.set5 (show Lies w5 w.heap.size #[.slice K s.kinds.length c1, .slice F s.full.length c2, .slice S s.stack.length c3, .slice M s.memo.length c4, .bool s.done] 38 from hbx5) (.slice K5 t.kinds.length a1) (.slice F5 t.full.length a2) (.slice S5 t.stack.length a3) (.slice M5 t.memo.length a4) (.bool t.done)
  have hS6 := hSd.refill hb5 hf5 ho5 hof5
  have htk : t.kinds.length ≤ 1001 := by rw [← htd]; simp [Shp.push]; omega
  have htt : t.stack.length ≤ 1001 := by rw [← htd]; simp [Shp.push]; omega
  have hneo : w.heap.size + 1 ≠ w.heap.size := by omega
  unfold shVal shCells
  dsimp only
  refine hK.out _ _ hlo5 (fun hH => ?_)
  clear hK KK hH hHeld hSd hbx5 ho5 hof5 hb5 hf5 e0 e1 e2 e3 e4 HC htd
  try simp only [Act.put, jA, jB, jC]
  refine wpAnyH_ready (rs := [5]) (by kernel_rfl) (by simp) ?_
  refine AllReadyH.cons (o := ⟨none, _, _, _, _, _⟩) rfl (fun KK hK => ?_) AllReadyH.nil
  go_simp
  refine hK.out _ _ ((set5_block hneo).trans hlo5) (fun hH => ?_)
  clear hK KK hH hlo5
  try simp only [Act.put, jA, jB, jC]
  refine wpAnyH_done (by kernel_rfl) ?_ _
  clear r0 r1 r2 r3 r4 f0 f1 f2 f3 f4
  go_upto_region 15 with fail
  generalize hX : set5 w5 w.heap.size (.slice K5 t.kinds.length a1) (.slice F5 t.full.length a2) (.slice S5 t.stack.length a3) (.slice M5 t.memo.length a4) (.bool t.done) = X at hS6
  unfold set5 at hX
  rw [hX]
  clear hX
  have HS6 := hide hS6
  clear hS6
  have HW := hide (HS6.out.toW)
  by_cases hk3 : t.kinds.length ≤ 300
  · have tk : decide ((t.kinds.length : Int) ≤ 300) = true := by simp <;> omega
    have hk3i : (t.kinds.length : Int) ≤ 300 := by omega
    by_cases ht3 : t.stack.length ≤ 300
    · have tt : decide ((t.stack.length : Int) ≤ 300) = true := by simp <;> omega
      have ht3i : (t.stack.length : Int) ≤ 300 := by omega
      have HN := hide (stepShp_of HF.out ⟨hk3, ht3⟩)
      have hX0 : Lies X.drew w.heap.size #[.slice K5 t.kinds.length a1, .slice F5 t.full.length a2, .slice S5 t.stack.length a3, .slice M5 t.memo.length a4, .bool t.done] 38 := HW.out.box
      have hne : w.heap.size ≠ w.heap.size + 1 + 1 := by omega
      refine wp_region_held_drew (S := fun w' => Lies w' w.heap.size #[.slice K5 t.kinds.length a1, .slice F5 t.full.length a2, .slice S5 t.stack.length a3, .slice M5 t.memo.length a4, .bool t.done] 38) (by kernel_rfl) hX0 (fun hHeld => ?_)
      have HWd : Hid (ShW w X.drew ⟨K, c1, F, c2, S, c3, M, c4⟩ base w.heap.size (w.heap.size + 1 + 1) ⟨K5, a1, F5, a2, S5, a3, M5, a4⟩ t) := hide ⟨HW.out.box, HW.out.res, HW.out.bel.drew, HW.out.fr, HW.out.ne, HW.out.hq2, HW.out.sq2⟩
      clear hX0
      have HOd := hide (HS6.out.below ((Below.refl X.heap.size X).drew))
      generalize X.drew = Xd at *
      refine takeO 0 87 rfl hHeld (v := ?_) (hv := ?_) (h := ?_)
      rotate_left
      · (intro w h; obtain ⟨a, b, c, d, e⟩ := h.five; go_simp; try with_reducible rfl)
      try simp only [Act.put, jA, jB, jC]
      refine takeO 1 88 rfl hHeld (v := ?_) (hv := ?_) (h := ?_)
      rotate_left
      · (intro w h; obtain ⟨a, b, c, d, e⟩ := h.five; go_simp; try with_reducible rfl)
      try simp only [Act.put, jA, jB, jC]
      refine takeO 2 89 rfl hHeld (v := ?_) (hv := ?_) (h := ?_)
      rotate_left
      · (intro w h; obtain ⟨a, b, c, d, e⟩ := h.five; go_simp; try with_reducible rfl)
      try simp only [Act.put, jA, jB, jC]
      refine takeO 3 90 rfl hHeld (v := ?_) (hv := ?_) (h := ?_)
      rotate_left
      · (intro w h; obtain ⟨a, b, c, d, e⟩ := h.five; go_simp; try with_reducible rfl)
      try simp only [Act.put, jA, jB, jC]
      refine takeO 4 91 rfl hHeld (v := ?_) (hv := ?_) (h := ?_)
      rotate_left
      · (intro w h; obtain ⟨a, b, c, d, e⟩ := h.five; go_simp; try with_reducible rfl)
      try simp only [Act.put, jA, jB, jC]
      refine takeO 5 92 rfl hHeld (v := ?_) (hv := ?_) (h := ?_)
      rotate_left
      · (intro w h; obtain ⟨a, b, c, d, e⟩ := h.five; go_simp; try with_reducible rfl)
      try simp only [Act.put, jA, jB, jC]
      refine takeO 6 93 rfl hHeld (v := ?_) (hv := ?_) (h := ?_)
      rotate_left
      · (intro w h; obtain ⟨a, b, c, d, e⟩ := h.five; go_simp; try with_reducible rfl)
      try simp only [Act.put, jA, jB, jC]
      refine takeO 7 94 rfl hHeld (v := ?_) (hv := ?_) (h := ?_)
      rotate_left
      · (intro w h; obtain ⟨a, b, c, d, e⟩ := h.five; go_simp; try with_reducible rfl)
      try simp only [Act.put, jA, jB, jC]
      refine takeO 8 95 rfl hHeld (v := ?_) (hv := ?_) (h := ?_)
      rotate_left
      · (intro w h; obtain ⟨a, b, c, d, e⟩ := h.five; go_simp; try with_reducible rfl)
      try simp only [Act.put, jA, jB, jC]
      refine takeO 9 96 rfl hHeld (v := ?_) (hv := ?_) (h := ?_)
      rotate_left
      · (intro w h; obtain ⟨a, b, c, d, e⟩ := h.five; go_simp; try with_reducible rfl)
      try simp only [Act.put, jA, jB, jC]
      refine takeO 10 97 rfl hHeld (v := ?_) (hv := ?_) (h := ?_)
      rotate_left
      · (intro w h; obtain ⟨a, b, c, d, e⟩ := h.five; go_simp; try with_reducible rfl)
      try simp only [Act.put, jA, jB, jC]
      refine takeO 11 98 rfl hHeld (v := ?_) (hv := ?_) (h := ?_)
      rotate_left
      · (intro w h; obtain ⟨a, b, c, d, e⟩ := h.five; go_simp; try with_reducible rfl)
      try simp only [Act.put, jA, jB, jC]
      refine takeO 12 99 rfl hHeld (v := ?_) (hv := ?_) (h := ?_)
      rotate_left
      · (intro w h; obtain ⟨a, b, c, d, e⟩ := h.five; go_simp; try with_reducible rfl)
      try simp only [Act.put, jA, jB, jC]
      refine takeO 13 100 rfl hHeld (v := ?_) (hv := ?_) (h := ?_)
      rotate_left
      · (intro w h; obtain ⟨a, b, c, d, e⟩ := h.five; go_simp; try with_reducible rfl)
      try simp only [Act.put, jA, jB, jC]
      have hRs : Lies Xd (w.heap.size + 1 + 1) #[.slice none 0 0, .slice none 0 0, .slice none 0 0, .slice none 0 0, .bool false] 38   := HWd.out.res
      obtain ⟨⟨r0, r1, r2, r3, r4, f0, f1, f2, f3, f4, s0, s1, s2, s3, s4⟩, _⟩ := Lies.set5 hRs (.slice K5 t.kinds.length a1) (.slice F5 t.full.length a2) (.slice S5 t.stack.length a3) (.slice M5 t.memo.length a4) (.bool t.done)
      refine wpAnyH_ready (rs := [14]) (by kernel_rfl) (by simp) ?_
      refine AllReadyH.cons (o := ⟨none, _, _, _, _, _⟩) rfl (fun K hK => ?_) AllReadyH.nil
      go_simp
      refine hK.out _ _ ((set5_block hne).trans hHeld) (fun hH2 => ?_)
      clear hK K
      try simp only [Act.put, jA, jB, jC]
      refine wpAnyH_ready (rs := [15]) (by kernel_rfl) (by simp) ?_
      refine AllReadyH.cons (o := ⟨some 5, _, _, _, _, _⟩) rfl (fun K hK => ?_) AllReadyH.nil
      go_simp
      refine hK.out _ _ hH2 (fun hH3 => ?_)
      clear hK K hH3 hH2 hHeld
      try simp only [Act.put, jA, jB, jC]
      refine wpAnyH_done (by kernel_rfl) ?_ _
      clear r0 r1 r2 r3 r4 f0 f1 f2 f3 f4 hRs
      have hB0 : Below base w (set5 Xd (w.heap.size + 1 + 1) (.slice K5 t.kinds.length a1) (.slice F5 t.full.length a2) (.slice S5 t.stack.length a3) (.slice M5 t.memo.length a4) (.bool t.done)) := set5_below HWd.out.bel HWd.out.hq2
      have hF0 : FrSh w (set5 Xd (w.heap.size + 1 + 1) (.slice K5 t.kinds.length a1) (.slice F5 t.full.length a2) (.slice S5 t.stack.length a3) (.slice M5 t.memo.length a4) (.bool t.done)) ⟨K, c1, F, c2, S, c3, M, c4⟩ := fun k hk ho => (set5_block (by omega)).trans (HWd.out.fr k hk ho)
      have HR0 := hide (And.intro hB0 hF0)
      clear hB0 hF0
      have hO : ShOwn (set5 Xd (w.heap.size + 1 + 1) (.slice K5 t.kinds.length a1) (.slice F5 t.full.length a2) (.slice S5 t.stack.length a3) (.slice M5 t.memo.length a4) (.bool t.done)) base ⟨K5, a1, F5, a2, S5, a3, M5, a4⟩ t := HOd.out.bx.own.set5 HOd.out.off2
      have HO := hide (And.intro hO HOd.out.offs)
      clear hO
      go_wp2
      refine bodyPost_ret (v := .tuple #[shVal ⟨K5, a1, F5, a2, S5, a3, M5, a4⟩ t, .bool true]) (by simp [shVal, shCells, results, Tryd.results33, go_sem, s0, s1, s2, s3, s4]) rfl ?_
      exact ⟨_, _, _, rfl, HR0.out.1, HR0.out.2, fun t ht => by (rw [HN.out] at ht; cases ht; exact ⟨rfl, rfl, HO.out.1, HO.out.2⟩), fun hh => by (rw [HN.out] at hh; cases hh)⟩
    · have tt : decide ((t.stack.length : Int) ≤ 300) = false := by simp <;> omega
      have HN := hide (stepShp_wide HF.out (fun h => ht3 h.2))
      have hX0 : Lies X.drew w.heap.size #[.slice K5 t.kinds.length a1, .slice F5 t.full.length a2, .slice S5 t.stack.length a3, .slice M5 t.memo.length a4, .bool t.done] 38 := HW.out.box
      have hne : w.heap.size ≠ w.heap.size + 1 + 1 := by omega
      refine wp_region_held_drew (S := fun w' => Lies w' w.heap.size #[.slice K5 t.kinds.length a1, .slice F5 t.full.length a2, .slice S5 t.stack.length a3, .slice M5 t.memo.length a4, .bool t.done] 38) (by kernel_rfl) hX0 (fun hHeld => ?_)
      have HWd : Hid (ShW w X.drew ⟨K, c1, F, c2, S, c3, M, c4⟩ base w.heap.size (w.heap.size + 1 + 1) ⟨K5, a1, F5, a2, S5, a3, M5, a4⟩ t) := hide ⟨HW.out.box, HW.out.res, HW.out.bel.drew, HW.out.fr, HW.out.ne, HW.out.hq2, HW.out.sq2⟩
      clear hX0
      generalize X.drew = Xd at *
      refine takeO 0 87 rfl hHeld (v := ?_) (hv := ?_) (h := ?_)
      rotate_left
      · (intro w h; obtain ⟨a, b, c, d, e⟩ := h.five; go_simp; try with_reducible rfl)
      try simp only [Act.put, jA, jB, jC]
      refine takeO 1 88 rfl hHeld (v := ?_) (hv := ?_) (h := ?_)
      rotate_left
      · (intro w h; obtain ⟨a, b, c, d, e⟩ := h.five; go_simp; try with_reducible rfl)
      try simp only [Act.put, jA, jB, jC]
      refine takeO 2 89 rfl hHeld (v := ?_) (hv := ?_) (h := ?_)
      rotate_left
      · (intro w h; obtain ⟨a, b, c, d, e⟩ := h.five; go_simp; try with_reducible rfl)
      try simp only [Act.put, jA, jB, jC]
      refine takeO 3 90 rfl hHeld (v := ?_) (hv := ?_) (h := ?_)
      rotate_left
      · (intro w h; obtain ⟨a, b, c, d, e⟩ := h.five; go_simp; try with_reducible rfl)
      try simp only [Act.put, jA, jB, jC]
      refine takeO 4 91 rfl hHeld (v := ?_) (hv := ?_) (h := ?_)
      rotate_left
      · (intro w h; obtain ⟨a, b, c, d, e⟩ := h.five; go_simp; try with_reducible rfl)
      try simp only [Act.put, jA, jB, jC]
      refine takeO 5 92 rfl hHeld (v := ?_) (hv := ?_) (h := ?_)
      rotate_left
      · (intro w h; obtain ⟨a, b, c, d, e⟩ := h.five; go_simp; try with_reducible rfl)
      try simp only [Act.put, jA, jB, jC]
      refine takeO 6 93 rfl hHeld (v := ?_) (hv := ?_) (h := ?_)
      rotate_left
      · (intro w h; obtain ⟨a, b, c, d, e⟩ := h.five; go_simp; try with_reducible rfl)
      try simp only [Act.put, jA, jB, jC]
      refine takeO 7 94 rfl hHeld (v := ?_) (hv := ?_) (h := ?_)
      rotate_left
      · (intro w h; obtain ⟨a, b, c, d, e⟩ := h.five; go_simp; try with_reducible rfl)
      try simp only [Act.put, jA, jB, jC]
      refine takeO 8 95 rfl hHeld (v := ?_) (hv := ?_) (h := ?_)
      rotate_left
      · (intro w h; obtain ⟨a, b, c, d, e⟩ := h.five; go_simp; try with_reducible rfl)
      try simp only [Act.put, jA, jB, jC]
      refine takeO 9 96 rfl hHeld (v := ?_) (hv := ?_) (h := ?_)
      rotate_left
      · (intro w h; obtain ⟨a, b, c, d, e⟩ := h.five; go_simp; try with_reducible rfl)
      try simp only [Act.put, jA, jB, jC]
      refine takeO 10 97 rfl hHeld (v := ?_) (hv := ?_) (h := ?_)
      rotate_left
      · (intro w h; obtain ⟨a, b, c, d, e⟩ := h.five; go_simp; try with_reducible rfl)
      try simp only [Act.put, jA, jB, jC]
      refine takeO 11 98 rfl hHeld (v := ?_) (hv := ?_) (h := ?_)
      rotate_left
      · (intro w h; obtain ⟨a, b, c, d, e⟩ := h.five; go_simp; try with_reducible rfl)
      try simp only [Act.put, jA, jB, jC]
      refine takeO 12 99 rfl hHeld (v := ?_) (hv := ?_) (h := ?_)
      rotate_left
      · (intro w h; obtain ⟨a, b, c, d, e⟩ := h.five; go_simp; try with_reducible rfl)
      try simp only [Act.put, jA, jB, jC]
      refine takeO 13 100 rfl hHeld (v := ?_) (hv := ?_) (h := ?_)
      rotate_left
      · (intro w h; obtain ⟨a, b, c, d, e⟩ := h.five; go_simp; try with_reducible rfl)
      try simp only [Act.put, jA, jB, jC]
      have hRs : Lies Xd (w.heap.size + 1 + 1) #[.slice none 0 0, .slice none 0 0, .slice none 0 0, .slice none 0 0, .bool false] 38   := HWd.out.res
      obtain ⟨⟨r0, r1, r2, r3, r4, f0, f1, f2, f3, f4, s0, s1, s2, s3, s4⟩, _⟩ := Lies.set5 hRs (.slice K5 t.kinds.length a1) (.slice F5 t.full.length a2) (.slice S5 t.stack.length a3) (.slice M5 t.memo.length a4) (.bool t.done)
      refine wpAnyH_ready (rs := [14]) (by kernel_rfl) (by simp) ?_
      refine AllReadyH.cons (o := ⟨none, _, _, _, _, _⟩) rfl (fun K hK => ?_) AllReadyH.nil
      go_simp
      refine hK.out _ _ ((set5_block hne).trans hHeld) (fun hH2 => ?_)
      clear hK K
      try simp only [Act.put, jA, jB, jC]
      refine wpAnyH_ready (rs := [15]) (by kernel_rfl) (by simp) ?_
      refine AllReadyH.cons (o := ⟨some 5, _, _, _, _, _⟩) rfl (fun K hK => ?_) AllReadyH.nil
      go_simp
      refine hK.out _ _ hH2 (fun hH3 => ?_)
      clear hK K hH3 hH2 hHeld
      try simp only [Act.put, jA, jB, jC]
      refine wpAnyH_done (by kernel_rfl) ?_ _
      clear r0 r1 r2 r3 r4 f0 f1 f2 f3 f4 hRs
      have hB0 : Below base w (set5 Xd (w.heap.size + 1 + 1) (.slice K5 t.kinds.length a1) (.slice F5 t.full.length a2) (.slice S5 t.stack.length a3) (.slice M5 t.memo.length a4) (.bool t.done)) := set5_below HWd.out.bel HWd.out.hq2
      have hF0 : FrSh w (set5 Xd (w.heap.size + 1 + 1) (.slice K5 t.kinds.length a1) (.slice F5 t.full.length a2) (.slice S5 t.stack.length a3) (.slice M5 t.memo.length a4) (.bool t.done)) ⟨K, c1, F, c2, S, c3, M, c4⟩ := fun k hk ho => (set5_block (by omega)).trans (HWd.out.fr k hk ho)
      have HR0 := hide (And.intro hB0 hF0)
      clear hB0 hF0
      go_wp2
      refine bodyPost_ret (v := .tuple #[shVal ⟨K5, a1, F5, a2, S5, a3, M5, a4⟩ t, .bool false]) (by simp [shVal, shCells, results, Tryd.results33, go_sem, s0, s1, s2, s3, s4]) rfl ?_
      exact ⟨_, _, _, rfl, HR0.out.1, HR0.out.2, fun t ht => by (rw [HN.out] at ht; cases ht), fun _ => rfl⟩
  · have tk : decide ((t.kinds.length : Int) ≤ 300) = false := by simp <;> omega
    have HN := hide (stepShp_wide HF.out (fun h => hk3 h.1))
    have hX0 : Lies X.drew w.heap.size #[.slice K5 t.kinds.length a1, .slice F5 t.full.length a2, .slice S5 t.stack.length a3, .slice M5 t.memo.length a4, .bool t.done] 38 := HW.out.box
    have hne : w.heap.size ≠ w.heap.size + 1 + 1 := by omega
    refine wp_region_held_drew (S := fun w' => Lies w' w.heap.size #[.slice K5 t.kinds.length a1, .slice F5 t.full.length a2, .slice S5 t.stack.length a3, .slice M5 t.memo.length a4, .bool t.done] 38) (by kernel_rfl) hX0 (fun hHeld => ?_)
    have HWd : Hid (ShW w X.drew ⟨K, c1, F, c2, S, c3, M, c4⟩ base w.heap.size (w.heap.size + 1 + 1) ⟨K5, a1, F5, a2, S5, a3, M5, a4⟩ t) := hide ⟨HW.out.box, HW.out.res, HW.out.bel.drew, HW.out.fr, HW.out.ne, HW.out.hq2, HW.out.sq2⟩
    clear hX0
    generalize X.drew = Xd at *
    refine takeO 0 87 rfl hHeld (v := ?_) (hv := ?_) (h := ?_)
    rotate_left
    · (intro w h; obtain ⟨a, b, c, d, e⟩ := h.five; go_simp; try with_reducible rfl)
    try simp only [Act.put, jA, jB, jC]
    refine takeO 1 88 rfl hHeld (v := ?_) (hv := ?_) (h := ?_)
    rotate_left
    · (intro w h; obtain ⟨a, b, c, d, e⟩ := h.five; go_simp; try with_reducible rfl)
    try simp only [Act.put, jA, jB, jC]
    refine takeO 2 89 rfl hHeld (v := ?_) (hv := ?_) (h := ?_)
    rotate_left
    · (intro w h; obtain ⟨a, b, c, d, e⟩ := h.five; go_simp; try with_reducible rfl)
    try simp only [Act.put, jA, jB, jC]
    refine takeO 3 90 rfl hHeld (v := ?_) (hv := ?_) (h := ?_)
    rotate_left
    · (intro w h; obtain ⟨a, b, c, d, e⟩ := h.five; go_simp; try with_reducible rfl)
    try simp only [Act.put, jA, jB, jC]
    refine takeO 4 91 rfl hHeld (v := ?_) (hv := ?_) (h := ?_)
    rotate_left
    · (intro w h; obtain ⟨a, b, c, d, e⟩ := h.five; go_simp; try with_reducible rfl)
    try simp only [Act.put, jA, jB, jC]
    refine takeO 5 92 rfl hHeld (v := ?_) (hv := ?_) (h := ?_)
    rotate_left
    · (intro w h; obtain ⟨a, b, c, d, e⟩ := h.five; go_simp; try with_reducible rfl)
    try simp only [Act.put, jA, jB, jC]
    refine takeO 6 93 rfl hHeld (v := ?_) (hv := ?_) (h := ?_)
    rotate_left
    · (intro w h; obtain ⟨a, b, c, d, e⟩ := h.five; go_simp; try with_reducible rfl)
    try simp only [Act.put, jA, jB, jC]
    refine takeO 7 94 rfl hHeld (v := ?_) (hv := ?_) (h := ?_)
    rotate_left
    · (intro w h; obtain ⟨a, b, c, d, e⟩ := h.five; go_simp; try with_reducible rfl)
    try simp only [Act.put, jA, jB, jC]
    refine takeO 8 95 rfl hHeld (v := ?_) (hv := ?_) (h := ?_)
    rotate_left
    · (intro w h; obtain ⟨a, b, c, d, e⟩ := h.five; go_simp; try with_reducible rfl)
    try simp only [Act.put, jA, jB, jC]
    refine takeN 9 96 rfl hHeld (h := ?_)
    try simp only [Act.put, jA, jB, jC]
    refine takeN 10 97 rfl hHeld (h := ?_)
    try simp only [Act.put, jA, jB, jC]
    refine takeN 11 98 rfl hHeld (h := ?_)
    try simp only [Act.put, jA, jB, jC]
    refine takeN 12 99 rfl hHeld (h := ?_)
    try simp only [Act.put, jA, jB, jC]
    refine takeO 13 100 rfl hHeld (v := ?_) (hv := ?_) (h := ?_)
    rotate_left
    · (intro w h; obtain ⟨a, b, c, d, e⟩ := h.five; go_simp; try with_reducible rfl)
    try simp only [Act.put, jA, jB, jC]
    have hRs : Lies Xd (w.heap.size + 1 + 1) #[.slice none 0 0, .slice none 0 0, .slice none 0 0, .slice none 0 0, .bool false] 38   := HWd.out.res
    obtain ⟨⟨r0, r1, r2, r3, r4, f0, f1, f2, f3, f4, s0, s1, s2, s3, s4⟩, _⟩ := Lies.set5 hRs (.slice K5 t.kinds.length a1) (.slice F5 t.full.length a2) (.slice S5 t.stack.length a3) (.slice M5 t.memo.length a4) (.bool t.done)
    refine wpAnyH_ready (rs := [14]) (by kernel_rfl) (by simp) ?_
    refine AllReadyH.cons (o := ⟨none, _, _, _, _, _⟩) rfl (fun K hK => ?_) AllReadyH.nil
    go_simp
    refine hK.out _ _ ((set5_block hne).trans hHeld) (fun hH2 => ?_)
    clear hK K
    try simp only [Act.put, jA, jB, jC]
    refine wpAnyH_ready (rs := [15]) (by kernel_rfl) (by simp) ?_
    refine AllReadyH.cons (o := ⟨some 5, _, _, _, _, _⟩) rfl (fun K hK => ?_) AllReadyH.nil
    go_simp
    refine hK.out _ _ hH2 (fun hH3 => ?_)
    clear hK K hH3 hH2 hHeld
    try simp only [Act.put, jA, jB, jC]
    refine wpAnyH_done (by kernel_rfl) ?_ _
    clear r0 r1 r2 r3 r4 f0 f1 f2 f3 f4 hRs
    have hB0 : Below base w (set5 Xd (w.heap.size + 1 + 1) (.slice K5 t.kinds.length a1) (.slice F5 t.full.length a2) (.slice S5 t.stack.length a3) (.slice M5 t.memo.length a4) (.bool t.done)) := set5_below HWd.out.bel HWd.out.hq2
    have hF0 : FrSh w (set5 Xd (w.heap.size + 1 + 1) (.slice K5 t.kinds.length a1) (.slice F5 t.full.length a2) (.slice S5 t.stack.length a3) (.slice M5 t.memo.length a4) (.bool t.done)) ⟨K, c1, F, c2, S, c3, M, c4⟩ := fun k hk ho => (set5_block (by omega)).trans (HWd.out.fr k hk ho)
    have HR0 := hide (And.intro hB0 hF0)
    clear hB0 hF0
    go_wp2
    refine bodyPost_ret (v := .tuple #[shVal ⟨K5, a1, F5, a2, S5, a3, M5, a4⟩ t, .bool false]) (by simp [shVal, shCells, results, Tryd.results33, go_sem, s0, s1, s2, s3, s4]) rfl ?_
    exact ⟨_, _, _, rfl, HR0.out.1, HR0.out.2, fun t ht => by (rw [HN.out] at ht; cases ht), fun _ => rfl⟩
end Go.Proofs.YtbihgafkmmcjlaaDoor
