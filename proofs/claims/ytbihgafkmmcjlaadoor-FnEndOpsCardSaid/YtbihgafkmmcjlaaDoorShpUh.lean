import Derived.Test.YtbihgafkmmcjlaaDoorShpT
import Derived.Test.YtbihgafkmmcjlaaDoorPjAj
import Derived.Test.YtbihgafkmmcjlaaDoorPjAd
import Derived.Test.YtbihgafkmmcjlaaDoorPjAe
import Derived.Test.YtbihgafkmmcjlaaDoorPjAf
import Derived.Deep.QuietTactic
import Derived.Deep.RegionLaw
import Derived.Deep.RegionHeld
import Derived.Deep.Cut
import Derived.BigQuiet
namespace Go.Proofs.YtbihgafkmmcjlaaDoor
open Go.RowKit
set_option linter.unusedVariables false
set_option linter.unusedSimpArgs false
set_option maxRecDepth 100000 in
set_option maxHeartbeats 4000000 in
theorem stepShapes_16 (p : ShPtr) (s : Shp) (ar : Int) (hd : s.done = false) (har : 0 ≤ ar ∧ ar < 20) (base : Nat) (w : World) (h : ShOwn w base p s) (hbase : base ≤ w.heap.size) (hs : s.Small) :
    Calls Tryd.prog 33 #[shVal p s, .agg #[.int .i64 16, .int .i64 ar]] w (TriesSh w p base (stepShp s ⟨16, ar⟩)) := by
  obtain ⟨K, c1, F, c2, S, c3, M, c4⟩ := p
  have hS := ShSt.enter3 h hbase (.cells #[.int .i64 16, .int .i64 ar] 42)
  have lo : Lies (((w.alloc (.cells (shCells ⟨K, c1, F, c2, S, c3, M, c4⟩ s) 38)).alloc (.cells #[.int .i64 16, .int .i64 ar] 42)).alloc (.cells zero5 38)) (w.heap.size + 1) #[.int .i64 16, .int .i64 ar] 42 := by
    have := (Lies.new (w.alloc (.cells (shCells ⟨K, c1, F, c2, S, c3, M, c4⟩ s) 38)) #[.int .i64 16, .int .i64 ar] 42).alloc (.cells zero5 38)
    simpa using this
  have hst := hs.t
  have hkl := hs.k
  have Hs := hide hs
  have Hd := hide hd
  have hoffo := h.off (q := w.heap.size + 1) (.inr (by omega))
  clear h hs hd
  unfold shVal
  unfold shCells zero5 at *
  dsimp only at hS lo ⊢
  go_enter Tryd.func33, Tryd.ntmps33
  go_upto_region 1 with fail
  generalize ((w.alloc (.cells #[.slice K s.kinds.length c1, .slice F s.full.length c2, .slice S s.stack.length c3, .slice M s.memo.length c4, .bool s.done] 38)).alloc (.cells #[.int .i64 16, .int .i64 ar] 42)).alloc (.cells #[.slice none 0 0, .slice none 0 0, .slice none 0 0, .slice none 0 0, .bool false] 38) = W at hS lo ⊢
  obtain ⟨e0, e1, e2, e3, e4⟩ := hS.bx.cells
  dsimp only at e0 e1 e2 e3 e4
  have d0 := lo.cell 0
  have d1 := lo.cell 1
  simp only [jD, jE, jF] at d0 d1
  have hd := Hd.out
  rw [hd] at e4
  obtain ⟨j, rfl⟩ := Int.eq_ofNat_of_zero_le har.1
  have hml := Hs.out.ok.ml
  obtain ⟨x, hx⟩ : ∃ x, s.memo[j]? = some x := ⟨_, List.getElem?_eq_getElem (by omega)⟩
  have hgd : s.memo.getD j 0 = x := by rw [List.getD_eq_getElem?_getD, hx]; rfl
  have hgd2 : (s.memo[j]?).getD 0 = x := by rw [hx]; rfl
  have hx64 := Hs.out.m64 x (List.mem_of_getElem? hx)
  obtain ⟨gm, rfl, hgm0, hgm1, hcm, _⟩ := hS.bx.own.m.atJ hx
  have hj0 : (0 : Int) ≤ (j : Int) := by omega
  have hj1 : (j : Int) < (s.memo.length : Int) := by omega
  clear hx hml
  go_wp2_with fail
  refine (newKind_any 16 W (by omega)).mono ?_
  rintro e w2 ⟨rfl, hw2⟩
  subst hw2
  rw [show newK 16 = -1 by decide]
  by_cases hx0 : x < 0
  · have tx : decide (x < 0) = true := by simpa using hx0
    have HN := hide (show stepShp s ⟨16, (j : Int)⟩ = none from stepShp_none (by simp [stepFree, hd, newK, hgd2, hx0]))
    obtain ⟨_, hs5, _, hbel, hfr⟩ := hS.ret
    obtain ⟨r0, r1, r2, r3, r4, f0, f1, f2, f3, f4, s0, s1, s2, s3, s4⟩ := hs5
    have HR := hide (And.intro hbel hfr)
    clear hbel hfr hS lo
    dsimp only at r0 r1 r2 r3 r4 s0 s1 s2 s3 s4
    rw [hd] at s0 s1 s2 s3 s4 HR
    go_wp2
    refine bodyPost_ret (v := .tuple #[shVal ⟨K, c1, F, c2, S, c3, some ⟨gm, 0, none⟩, c4⟩ s, .bool false]) (by simp [shVal, shCells, hd, results, Tryd.results33, go_sem, s0, s1, s2, s3, s4]) rfl ?_
    exact ⟨_, _, _, rfl, HR.out.1, HR.out.2, fun t ht => by (rw [HN.out] at ht; cases ht), fun _ => rfl⟩
  · have tx : decide (x < 0) = false := by simpa using hx0
    have HF := hide (show stepFree s ⟨16, (j : Int)⟩ = some { s with stack := s.stack ++ [x] } by simp [stepFree, hd, newK, hgd2, hx0])
    go_upto_region 12 with fail
    have hSd := hS.below ((Below.refl w2.heap.size w2).drew)
    have hX0 : w2.drew.cell? ⟨w.heap.size, 3, none⟩ = some (.slice (some ⟨gm, 0, none⟩) s.memo.length c4) ∧ Lies w2.drew (w.heap.size + 1) #[.int .i64 16, .int .i64 (j : Int)] 42 ∧ w2.drew.cell? ⟨gm, j, none⟩ = some (.int .i64 x) := ⟨e3, lo, hcm⟩
    refine wp_region_held_drew (S := fun w' => w'.cell? ⟨w.heap.size, 3, none⟩ = some (.slice (some ⟨gm, 0, none⟩) s.memo.length c4) ∧ Lies w' (w.heap.size + 1) #[.int .i64 16, .int .i64 (j : Int)] 42 ∧ w'.cell? ⟨gm, j, none⟩ = some (.int .i64 x)) (by kernel_rfl) hX0 (fun hHeld => ?_)
    have hgmd : gm < w2.drew.heap.size := hgm1
    clear hX0 hS lo e0 e1 e2 e3 e4 d0 d1 hcm hgm1
    generalize w2.drew = Xd at *
    obtain ⟨e0, e1, e2, e3, e4⟩ := hSd.bx.cells
    dsimp only at e0 e1 e2 e3 e4
    rw [hd] at e4
    refine wpAnyH_take (i := 0) (oi := ⟨some 50, _, _, _, _, _⟩) (v := ?_) rfl (by kernel_rfl) (by kernel_rfl) (by kernel_rfl) (fun _ _ _ h => h) (Or.inl ⟨by rfl, ?_⟩) (by assumption) ?_
    rotate_left
    · (intro w hSw; obtain ⟨q3, hq, q6⟩ := hSw; have q5 := hq.cell 1; simp only [jD, jE, jF] at q5; go_simp; try with_reducible rfl)
    try simp only [Act.put, jA, jB, jC]
    refine wpAnyH_take (i := 2) (oi := ⟨some 52, _, _, _, _, _⟩) (v := ?_) rfl (by kernel_rfl) (by kernel_rfl) (by kernel_rfl) (fun _ _ _ h => h) (Or.inl ⟨by rfl, ?_⟩) (by assumption) ?_
    rotate_left
    · (intro w hSw; obtain ⟨q3, hq, q6⟩ := hSw; have q5 := hq.cell 1; simp only [jD, jE, jF] at q5; go_simp; try with_reducible rfl)
    try simp only [Act.put, jA, jB, jC]
    refine wpAnyH_take (i := 3) (oi := ⟨some 53, _, _, _, _, _⟩) (v := ?_) rfl (by kernel_rfl) (by kernel_rfl) (by kernel_rfl) (fun _ _ _ h => h) (Or.inl ⟨by rfl, ?_⟩) (by assumption) ?_
    rotate_left
    · (intro w hSw; obtain ⟨q3, hq, q6⟩ := hSw; have q5 := hq.cell 1; simp only [jD, jE, jF] at q5; go_simp; try with_reducible rfl)
    try simp only [Act.put, jA, jB, jC]
    refine wpAnyH_take (i := 4) (oi := ⟨some 54, _, _, _, _, _⟩) (v := ?_) rfl (by kernel_rfl) (by kernel_rfl) (by kernel_rfl) (fun _ _ _ h => h) (Or.inl ⟨by rfl, ?_⟩) (by assumption) ?_
    rotate_left
    · (intro w hSw; obtain ⟨q3, hq, q6⟩ := hSw; have q5 := hq.cell 1; simp only [jD, jE, jF] at q5; go_simp; try with_reducible rfl)
    try simp only [Act.put, jA, jB, jC]
    refine wpAnyH_take (i := 5) (oi := ⟨some 55, _, _, _, _, _⟩) (v := ?_) rfl (by kernel_rfl) (by kernel_rfl) (by kernel_rfl) (fun _ _ _ h => h) (Or.inl ⟨by rfl, ?_⟩) (by assumption) ?_
    rotate_left
    · (intro w hSw; obtain ⟨q3, hq, q6⟩ := hSw; have q5 := hq.cell 1; simp only [jD, jE, jF] at q5; go_simp; try with_reducible rfl)
    try simp only [Act.put, jA, jB, jC]
    refine wpAnyH_take (i := 6) (oi := ⟨some 56, _, _, _, _, _⟩) (v := ?_) rfl (by kernel_rfl) (by kernel_rfl) (by kernel_rfl) (fun _ _ _ h => h) (Or.inl ⟨by rfl, ?_⟩) (by assumption) ?_
    rotate_left
    · (intro w hSw; obtain ⟨q3, hq, q6⟩ := hSw; have q5 := hq.cell 1; simp only [jD, jE, jF] at q5; go_simp; try with_reducible rfl)
    try simp only [Act.put, jA, jB, jC]
    refine wpAnyH_take (i := 7) (oi := ⟨some 57, _, _, _, _, _⟩) (v := ?_) rfl (by kernel_rfl) (by kernel_rfl) (by kernel_rfl) (fun _ _ _ h => h) (Or.inl ⟨by rfl, ?_⟩) (by assumption) ?_
    rotate_left
    · (intro w hSw; obtain ⟨q3, hq, q6⟩ := hSw; have q5 := hq.cell 1; simp only [jD, jE, jF] at q5; go_simp; try with_reducible rfl)
    try simp only [Act.put, jA, jB, jC]
    have hA1 : Hid (Below Xd.heap.size Xd (Xd.alloc (.cells #[.int .i64 x] 3))) := hide ((Below.refl _ _).alloc (Nat.le_refl _) _)
    have e2a : (Xd.alloc (.cells #[.int .i64 x] 3)).cell? ⟨w.heap.size, 2, none⟩ = some (.slice S s.stack.length c3) := (World.cell?_alloc_some _ _ _ (Option.isSome_iff_exists.2 ⟨_, e2⟩)).trans e2
    have hHa : (Xd.alloc (.cells #[.int .i64 x] 3)).cell? ⟨w.heap.size, 3, none⟩ = some (.slice (some ⟨gm, 0, none⟩) s.memo.length c4) ∧ Lies (Xd.alloc (.cells #[.int .i64 x] 3)) (w.heap.size + 1) #[.int .i64 16, .int .i64 (j : Int)] 42 ∧ (Xd.alloc (.cells #[.int .i64 x] 3)).cell? ⟨gm, j, none⟩ = some (.int .i64 x) :=
      ⟨(World.cell?_alloc_some _ _ _ (Option.isSome_iff_exists.2 ⟨_, hHeld.1⟩)).trans hHeld.1, hHeld.2.1.alloc _, (World.cell?_alloc_some _ _ _ (Option.isSome_iff_exists.2 ⟨_, hHeld.2.2⟩)).trans hHeld.2.2⟩
    refine wpAnyH_ready (rs := [1, 8]) (by kernel_rfl) (by simp) ?_
    refine AllReadyH.cons (o := ⟨some 51, _, _, _, _, _⟩) rfl (fun KK hK => ?_) ?_
    · skip
      go_simp
      refine hK.out _ _ hHeld (fun hH => ?_)
      clear hK KK hH
      try simp only [Act.put, jA, jB, jC]
      refine wpAnyH_ready (rs := [8]) (by kernel_rfl) (by simp) ?_
      refine AllReadyH.cons (o := ⟨some 58, _, _, _, _, _⟩) rfl (fun KK hK => ?_) AllReadyH.nil
      go_simp
      refine hK.out _ _ hHa (fun hH => ?_)
      clear hK KK hH
      try simp only [Act.put, jA, jB, jC]
      refine wpAnyH_ready (rs := [9]) (by kernel_rfl) (by simp) ?_
      refine AllReadyH.cons (o := ⟨some 59, _, _, _, _, _⟩) rfl (fun KK hK => ?_) AllReadyH.nil
      refine step_append_ints (by rfl) (.tmp 51) (.tmp 58) (by rfl) base S c3 s.stack (by simp [Act.eval, Act.put]) (hSd.bx.own.t.alloc _) ⟨Xd.heap.size, 0, none⟩ 1 [x] (by simp) (by simp [Act.eval, Act.put]) (by simpa using IntsAt.one Xd x hx64) (by simp <;> omega) (by have := hSd.hB; simp; omega) ?_
      intro zs A7 c7 w7 hz ho7 hg7 ha7
      obtain ⟨q0, q1, q2, q3, q4, k0, k1, k2, _⟩ := hSd.cells hg7 hSd.bx.off.t
      have hlow := hSd.bx.box.lt
      have hrow := hSd.bx.off.t
      have hrowo : blockOf S ≠ some (w.heap.size + 1) := hoffo.t
      have hrowm : blockOf S ≠ some gm := fun e => hSd.bx.own.tm gm e rfl
      have hH7 : w7.cell? ⟨w.heap.size, 3, none⟩ = some (.slice (some ⟨gm, 0, none⟩) s.memo.length c4) ∧ Lies w7 (w.heap.size + 1) #[.int .i64 16, .int .i64 (j : Int)] 42 ∧ w7.cell? ⟨gm, j, none⟩ = some (.int .i64 x) :=
        ⟨q3, (hg7.block _ hHa.2.1.lt (fun e => hrowo e.symm)).trans hHa.2.1, (hg7.cell_far _ (by simp; omega) (fun e => hrowm e.symm)).trans hHa.2.2⟩
      have S7 := hide (hSd.pushT ho7 hg7 ha7)
      dsimp only at q0 q1 q2 q3 q4
      have hgmq : w.heap.size ≠ gm := fun e => hSd.bx.off.m (by rw [e]; rfl)
      clear ho7 hg7 ha7 hSd hHa e2a e0 e1 e2 e3 e4 hHeld
      refine hK.out _ _ hH7 (fun hH => ?_)
      clear hK KK hH
      try simp only [Act.put, jA, jB, jC]
      refine wpAnyH_take (i := 10) (oi := ⟨some 60, _, _, _, _, _⟩) (v := ?_) rfl (by kernel_rfl) (by kernel_rfl) (by kernel_rfl) (fun _ _ _ h => h) (Or.inl ⟨by rfl, ?_⟩) (by assumption) ?_
      rotate_left
      · (intro w hSw; go_simp; try with_reducible rfl)
      try simp only [Act.put, jA, jB, jC]
      refine wpAnyH_ready (rs := [11]) (by kernel_rfl) (by simp) ?_
      refine AllReadyH.cons (o := ⟨none, _, _, _, _, _⟩) rfl (fun KK hK => ?_) AllReadyH.nil
      go_simp
      refine hK.out _ _ ⟨(World.cell?_setCell_other _ _ _ _ (by intro e; injection e with _ e; omega)).trans hH7.1, hH7.2.1.far (by show w.heap.size + 1 ≠ w.heap.size; omega) _, (World.cell?_setCell_far _ _ _ _ (by show w.heap.size ≠ gm; exact hgmq)).trans hH7.2.2⟩ (fun hH => ?_)
      clear hK KK hH hH7
      try simp only [Act.put, jA, jB, jC]
      refine wpAnyH_done (by kernel_rfl) ?_ _
      have hp : ({ s with stack := zs } : Shp) = { s with stack := s.stack ++ [x] } := by rw [hz.out]
      have hS7 := S7.out
      rw [hp] at hS7
      dsimp only at hS7
      go_upto_region 15 with fail
      generalize w7.setCell ⟨w.heap.size, 2, none⟩ (.slice A7 zs.length c7) = X at hS7 ⊢
      have htl : (s.stack ++ [x]).length ≤ 1001 := by simp; omega
      generalize htd : ({ s with stack := s.stack ++ [x] } : Shp) = t at hS7 HF
      have htk : t.kinds.length ≤ 1000 := by rw [← htd]; exact hkl
      have htt : t.stack.length ≤ 1001 := by rw [← htd]; exact htl
      have HS6 := hide hS7
      clear hS7 S7 hp htd q0 q1 q2 q3 q4 k0 k1 k2 hz
      have HW := hide (HS6.out.toW)
      by_cases hk3 : t.kinds.length ≤ 300
      · have tk : decide ((t.kinds.length : Int) ≤ 300) = true := by simp <;> omega
        have hk3i : (t.kinds.length : Int) ≤ 300 := by omega
        by_cases ht3 : t.stack.length ≤ 300
        · have tt : decide ((t.stack.length : Int) ≤ 300) = true := by simp <;> omega
          have ht3i : (t.stack.length : Int) ≤ 300 := by omega
          have HN := hide (stepShp_of HF.out ⟨hk3, ht3⟩)
          have hX0 : Lies X.drew w.heap.size #[.slice K t.kinds.length c1, .slice F t.full.length c2, .slice A7 t.stack.length c7, .slice (some ⟨gm, 0, none⟩) t.memo.length c4, .bool t.done] 38 := HW.out.box
          have hne : w.heap.size ≠ w.heap.size + 1 + 1 := by omega
          refine wp_region_held_drew (S := fun w' => Lies w' w.heap.size #[.slice K t.kinds.length c1, .slice F t.full.length c2, .slice A7 t.stack.length c7, .slice (some ⟨gm, 0, none⟩) t.memo.length c4, .bool t.done] 38) (by kernel_rfl) hX0 (fun hHeld => ?_)
          have HWd : Hid (ShW w X.drew ⟨K, c1, F, c2, S, c3, some ⟨gm, 0, none⟩, c4⟩ base w.heap.size (w.heap.size + 1 + 1) ⟨K, c1, F, c2, A7, c7, (some ⟨gm, 0, none⟩), c4⟩ t) := hide ⟨HW.out.box, HW.out.res, HW.out.bel.drew, HW.out.fr, HW.out.ne, HW.out.hq2, HW.out.sq2⟩
          clear hX0
          have HOd := hide (HS6.out.below ((Below.refl X.heap.size X).drew))
          generalize X.drew = Xd at *
          refine takeO 0 87 rfl hHeld (v := ?_) (hv := ?_) (h := ?_)
          rotate_left
          · (intro w h; obtain ⟨a, b, c, d, e⟩ := h.five; go_simp; try with_reducible rfl)
          try simp only [Act.put, jA, jB, jC]
          refine takeO 1 88 rfl hHeld (v := ?_) (hv := ?_) (h := ?_)
          rotate_left
          · (intro w h; obtain ⟨a, b, c, d, e⟩ := h.five; go_simp; try with_reducible rfl)
          try simp only [Act.put, jA, jB, jC]
          refine takeO 2 89 rfl hHeld (v := ?_) (hv := ?_) (h := ?_)
          rotate_left
          · (intro w h; obtain ⟨a, b, c, d, e⟩ := h.five; go_simp; try with_reducible rfl)
          try simp only [Act.put, jA, jB, jC]
          refine takeO 3 90 rfl hHeld (v := ?_) (hv := ?_) (h := ?_)
          rotate_left
          · (intro w h; obtain ⟨a, b, c, d, e⟩ := h.five; go_simp; try with_reducible rfl)
          try simp only [Act.put, jA, jB, jC]
          refine takeO 4 91 rfl hHeld (v := ?_) (hv := ?_) (h := ?_)
          rotate_left
          · (intro w h; obtain ⟨a, b, c, d, e⟩ := h.five; go_simp; try with_reducible rfl)
          try simp only [Act.put, jA, jB, jC]
          refine takeO 5 92 rfl hHeld (v := ?_) (hv := ?_) (h := ?_)
          rotate_left
          · (intro w h; obtain ⟨a, b, c, d, e⟩ := h.five; go_simp; try with_reducible rfl)
          try simp only [Act.put, jA, jB, jC]
          refine takeO 6 93 rfl hHeld (v := ?_) (hv := ?_) (h := ?_)
          rotate_left
          · (intro w h; obtain ⟨a, b, c, d, e⟩ := h.five; go_simp; try with_reducible rfl)
          try simp only [Act.put, jA, jB, jC]
          refine takeO 7 94 rfl hHeld (v := ?_) (hv := ?_) (h := ?_)
          rotate_left
          · (intro w h; obtain ⟨a, b, c, d, e⟩ := h.five; go_simp; try with_reducible rfl)
          try simp only [Act.put, jA, jB, jC]
          refine takeO 8 95 rfl hHeld (v := ?_) (hv := ?_) (h := ?_)
          rotate_left
          · (intro w h; obtain ⟨a, b, c, d, e⟩ := h.five; go_simp; try with_reducible rfl)
          try simp only [Act.put, jA, jB, jC]
          refine takeO 9 96 rfl hHeld (v := ?_) (hv := ?_) (h := ?_)
          rotate_left
          · (intro w h; obtain ⟨a, b, c, d, e⟩ := h.five; go_simp; try with_reducible rfl)
          try simp only [Act.put, jA, jB, jC]
          refine takeO 10 97 rfl hHeld (v := ?_) (hv := ?_) (h := ?_)
          rotate_left
          · (intro w h; obtain ⟨a, b, c, d, e⟩ := h.five; go_simp; try with_reducible rfl)
          try simp only [Act.put, jA, jB, jC]
          refine takeO 11 98 rfl hHeld (v := ?_) (hv := ?_) (h := ?_)
          rotate_left
          · (intro w h; obtain ⟨a, b, c, d, e⟩ := h.five; go_simp; try with_reducible rfl)
          try simp only [Act.put, jA, jB, jC]
          refine takeO 12 99 rfl hHeld (v := ?_) (hv := ?_) (h := ?_)
          rotate_left
          · (intro w h; obtain ⟨a, b, c, d, e⟩ := h.five; go_simp; try with_reducible rfl)
          try simp only [Act.put, jA, jB, jC]
          refine takeO 13 100 rfl hHeld (v := ?_) (hv := ?_) (h := ?_)
          rotate_left
          · (intro w h; obtain ⟨a, b, c, d, e⟩ := h.five; go_simp; try with_reducible rfl)
          try simp only [Act.put, jA, jB, jC]
          have hRs : Lies Xd (w.heap.size + 1 + 1) #[.slice none 0 0, .slice none 0 0, .slice none 0 0, .slice none 0 0, .bool false] 38   := HWd.out.res
          obtain ⟨⟨r0, r1, r2, r3, r4, f0, f1, f2, f3, f4, s0, s1, s2, s3, s4⟩, _⟩ := Lies.set5 hRs (.slice K t.kinds.length c1) (.slice F t.full.length c2) (.slice A7 t.stack.length c7) (.slice (some ⟨gm, 0, none⟩) t.memo.length c4) (.bool t.done)
          refine wpAnyH_ready (rs := [14]) (by kernel_rfl) (by simp) ?_
          refine AllReadyH.cons (o := ⟨none, _, _, _, _, _⟩) rfl (fun K hK => ?_) AllReadyH.nil
          go_simp
          refine hK.out _ _ ((set5_block hne).trans hHeld) (fun hH2 => ?_)
          clear hK K
          try simp only [Act.put, jA, jB, jC]
          refine wpAnyH_ready (rs := [15]) (by kernel_rfl) (by simp) ?_
          refine AllReadyH.cons (o := ⟨some 5, _, _, _, _, _⟩) rfl (fun K hK => ?_) AllReadyH.nil
          go_simp
          refine hK.out _ _ hH2 (fun hH3 => ?_)
          clear hK K hH3 hH2 hHeld
          try simp only [Act.put, jA, jB, jC]
          refine wpAnyH_done (by kernel_rfl) ?_ _
          clear r0 r1 r2 r3 r4 f0 f1 f2 f3 f4 hRs
          have hB0 : Below base w (set5 Xd (w.heap.size + 1 + 1) (.slice K t.kinds.length c1) (.slice F t.full.length c2) (.slice A7 t.stack.length c7) (.slice (some ⟨gm, 0, none⟩) t.memo.length c4) (.bool t.done)) := set5_below HWd.out.bel HWd.out.hq2
          have hF0 : FrSh w (set5 Xd (w.heap.size + 1 + 1) (.slice K t.kinds.length c1) (.slice F t.full.length c2) (.slice A7 t.stack.length c7) (.slice (some ⟨gm, 0, none⟩) t.memo.length c4) (.bool t.done)) ⟨K, c1, F, c2, S, c3, some ⟨gm, 0, none⟩, c4⟩ := fun k hk ho => (set5_block (by omega)).trans (HWd.out.fr k hk ho)
          have HR0 := hide (And.intro hB0 hF0)
          clear hB0 hF0
          have hO : ShOwn (set5 Xd (w.heap.size + 1 + 1) (.slice K t.kinds.length c1) (.slice F t.full.length c2) (.slice A7 t.stack.length c7) (.slice (some ⟨gm, 0, none⟩) t.memo.length c4) (.bool t.done)) base ⟨K, c1, F, c2, A7, c7, (some ⟨gm, 0, none⟩), c4⟩ t := HOd.out.bx.own.set5 HOd.out.off2
          have HO := hide (And.intro hO HOd.out.offs)
          clear hO
          go_wp2
          refine bodyPost_ret (v := .tuple #[shVal ⟨K, c1, F, c2, A7, c7, (some ⟨gm, 0, none⟩), c4⟩ t, .bool true]) (by simp [shVal, shCells, results, Tryd.results33, go_sem, s0, s1, s2, s3, s4]) rfl ?_
          exact ⟨_, _, _, rfl, HR0.out.1, HR0.out.2, fun t ht => by (rw [HN.out] at ht; cases ht; exact ⟨rfl, rfl, HO.out.1, HO.out.2⟩), fun hh => by (rw [HN.out] at hh; cases hh)⟩
        · have tt : decide ((t.stack.length : Int) ≤ 300) = false := by simp <;> omega
          have HN := hide (stepShp_wide HF.out (fun h => ht3 h.2))
          have hX0 : Lies X.drew w.heap.size #[.slice K t.kinds.length c1, .slice F t.full.length c2, .slice A7 t.stack.length c7, .slice (some ⟨gm, 0, none⟩) t.memo.length c4, .bool t.done] 38 := HW.out.box
          have hne : w.heap.size ≠ w.heap.size + 1 + 1 := by omega
          refine wp_region_held_drew (S := fun w' => Lies w' w.heap.size #[.slice K t.kinds.length c1, .slice F t.full.length c2, .slice A7 t.stack.length c7, .slice (some ⟨gm, 0, none⟩) t.memo.length c4, .bool t.done] 38) (by kernel_rfl) hX0 (fun hHeld => ?_)
          have HWd : Hid (ShW w X.drew ⟨K, c1, F, c2, S, c3, some ⟨gm, 0, none⟩, c4⟩ base w.heap.size (w.heap.size + 1 + 1) ⟨K, c1, F, c2, A7, c7, (some ⟨gm, 0, none⟩), c4⟩ t) := hide ⟨HW.out.box, HW.out.res, HW.out.bel.drew, HW.out.fr, HW.out.ne, HW.out.hq2, HW.out.sq2⟩
          clear hX0
          generalize X.drew = Xd at *
          refine takeO 0 87 rfl hHeld (v := ?_) (hv := ?_) (h := ?_)
          rotate_left
          · (intro w h; obtain ⟨a, b, c, d, e⟩ := h.five; go_simp; try with_reducible rfl)
          try simp only [Act.put, jA, jB, jC]
          refine takeO 1 88 rfl hHeld (v := ?_) (hv := ?_) (h := ?_)
          rotate_left
          · (intro w h; obtain ⟨a, b, c, d, e⟩ := h.five; go_simp; try with_reducible rfl)
          try simp only [Act.put, jA, jB, jC]
          refine takeO 2 89 rfl hHeld (v := ?_) (hv := ?_) (h := ?_)
          rotate_left
          · (intro w h; obtain ⟨a, b, c, d, e⟩ := h.five; go_simp; try with_reducible rfl)
          try simp only [Act.put, jA, jB, jC]
          refine takeO 3 90 rfl hHeld (v := ?_) (hv := ?_) (h := ?_)
          rotate_left
          · (intro w h; obtain ⟨a, b, c, d, e⟩ := h.five; go_simp; try with_reducible rfl)
          try simp only [Act.put, jA, jB, jC]
          refine takeO 4 91 rfl hHeld (v := ?_) (hv := ?_) (h := ?_)
          rotate_left
          · (intro w h; obtain ⟨a, b, c, d, e⟩ := h.five; go_simp; try with_reducible rfl)
          try simp only [Act.put, jA, jB, jC]
          refine takeO 5 92 rfl hHeld (v := ?_) (hv := ?_) (h := ?_)
          rotate_left
          · (intro w h; obtain ⟨a, b, c, d, e⟩ := h.five; go_simp; try with_reducible rfl)
          try simp only [Act.put, jA, jB, jC]
          refine takeO 6 93 rfl hHeld (v := ?_) (hv := ?_) (h := ?_)
          rotate_left
          · (intro w h; obtain ⟨a, b, c, d, e⟩ := h.five; go_simp; try with_reducible rfl)
          try simp only [Act.put, jA, jB, jC]
          refine takeO 7 94 rfl hHeld (v := ?_) (hv := ?_) (h := ?_)
          rotate_left
          · (intro w h; obtain ⟨a, b, c, d, e⟩ := h.five; go_simp; try with_reducible rfl)
          try simp only [Act.put, jA, jB, jC]
          refine takeO 8 95 rfl hHeld (v := ?_) (hv := ?_) (h := ?_)
          rotate_left
          · (intro w h; obtain ⟨a, b, c, d, e⟩ := h.five; go_simp; try with_reducible rfl)
          try simp only [Act.put, jA, jB, jC]
          refine takeO 9 96 rfl hHeld (v := ?_) (hv := ?_) (h := ?_)
          rotate_left
          · (intro w h; obtain ⟨a, b, c, d, e⟩ := h.five; go_simp; try with_reducible rfl)
          try simp only [Act.put, jA, jB, jC]
          refine takeO 10 97 rfl hHeld (v := ?_) (hv := ?_) (h := ?_)
          rotate_left
          · (intro w h; obtain ⟨a, b, c, d, e⟩ := h.five; go_simp; try with_reducible rfl)
          try simp only [Act.put, jA, jB, jC]
          refine takeO 11 98 rfl hHeld (v := ?_) (hv := ?_) (h := ?_)
          rotate_left
          · (intro w h; obtain ⟨a, b, c, d, e⟩ := h.five; go_simp; try with_reducible rfl)
          try simp only [Act.put, jA, jB, jC]
          refine takeO 12 99 rfl hHeld (v := ?_) (hv := ?_) (h := ?_)
          rotate_left
          · (intro w h; obtain ⟨a, b, c, d, e⟩ := h.five; go_simp; try with_reducible rfl)
          try simp only [Act.put, jA, jB, jC]
          refine takeO 13 100 rfl hHeld (v := ?_) (hv := ?_) (h := ?_)
          rotate_left
          · (intro w h; obtain ⟨a, b, c, d, e⟩ := h.five; go_simp; try with_reducible rfl)
          try simp only [Act.put, jA, jB, jC]
          have hRs : Lies Xd (w.heap.size + 1 + 1) #[.slice none 0 0, .slice none 0 0, .slice none 0 0, .slice none 0 0, .bool false] 38   := HWd.out.res
          obtain ⟨⟨r0, r1, r2, r3, r4, f0, f1, f2, f3, f4, s0, s1, s2, s3, s4⟩, _⟩ := Lies.set5 hRs (.slice K t.kinds.length c1) (.slice F t.full.length c2) (.slice A7 t.stack.length c7) (.slice (some ⟨gm, 0, none⟩) t.memo.length c4) (.bool t.done)
          refine wpAnyH_ready (rs := [14]) (by kernel_rfl) (by simp) ?_
          refine AllReadyH.cons (o := ⟨none, _, _, _, _, _⟩) rfl (fun K hK => ?_) AllReadyH.nil
          go_simp
          refine hK.out _ _ ((set5_block hne).trans hHeld) (fun hH2 => ?_)
          clear hK K
          try simp only [Act.put, jA, jB, jC]
          refine wpAnyH_ready (rs := [15]) (by kernel_rfl) (by simp) ?_
          refine AllReadyH.cons (o := ⟨some 5, _, _, _, _, _⟩) rfl (fun K hK => ?_) AllReadyH.nil
          go_simp
          refine hK.out _ _ hH2 (fun hH3 => ?_)
          clear hK K hH3 hH2 hHeld
          try simp only [Act.put, jA, jB, jC]
          refine wpAnyH_done (by kernel_rfl) ?_ _
          clear r0 r1 r2 r3 r4 f0 f1 f2 f3 f4 hRs
          have hB0 : Below base w (set5 Xd (w.heap.size + 1 + 1) (.slice K t.kinds.length c1) (.slice F t.full.length c2) (.slice A7 t.stack.length c7) (.slice (some ⟨gm, 0, none⟩) t.memo.length c4) (.bool t.done)) := set5_below HWd.out.bel HWd.out.hq2
          have hF0 : FrSh w (set5 Xd (w.heap.size + 1 + 1) (.slice K t.kinds.length c1) (.slice F t.full.length c2) (.slice A7 t.stack.length c7) (.slice (some ⟨gm, 0, none⟩) t.memo.length c4) (.bool t.done)) ⟨K, c1, F, c2, S, c3, some ⟨gm, 0, none⟩, c4⟩ := fun k hk ho => (set5_block (by omega)).trans (HWd.out.fr k hk ho)
          have HR0 := hide (And.intro hB0 hF0)
          clear hB0 hF0
          go_wp2
          refine bodyPost_ret (v := .tuple #[shVal ⟨K, c1, F, c2, A7, c7, (some ⟨gm, 0, none⟩), c4⟩ t, .bool false]) (by simp [shVal, shCells, results, Tryd.results33, go_sem, s0, s1, s2, s3, s4]) rfl ?_
          exact ⟨_, _, _, rfl, HR0.out.1, HR0.out.2, fun t ht => by (rw [HN.out] at ht; cases ht), fun _ => rfl⟩
      · have tk : decide ((t.kinds.length : Int) ≤ 300) = false := by simp <;> omega
        have HN := hide (stepShp_wide HF.out (fun h => hk3 h.1))
        have hX0 : Lies X.drew w.heap.size #[.slice K t.kinds.length c1, .slice F t.full.length c2, .slice A7 t.stack.length c7, .slice (some ⟨gm, 0, none⟩) t.memo.length c4, .bool t.done] 38 := HW.out.box
        have hne : w.heap.size ≠ w.heap.size + 1 + 1 := by omega
        refine wp_region_held_drew (S := fun w' => Lies w' w.heap.size #[.slice K t.kinds.length c1, .slice F t.full.length c2, .slice A7 t.stack.length c7, .slice (some ⟨gm, 0, none⟩) t.memo.length c4, .bool t.done] 38) (by kernel_rfl) hX0 (fun hHeld => ?_)
        have HWd : Hid (ShW w X.drew ⟨K, c1, F, c2, S, c3, some ⟨gm, 0, none⟩, c4⟩ base w.heap.size (w.heap.size + 1 + 1) ⟨K, c1, F, c2, A7, c7, (some ⟨gm, 0, none⟩), c4⟩ t) := hide ⟨HW.out.box, HW.out.res, HW.out.bel.drew, HW.out.fr, HW.out.ne, HW.out.hq2, HW.out.sq2⟩
        clear hX0
        generalize X.drew = Xd at *
        refine takeO 0 87 rfl hHeld (v := ?_) (hv := ?_) (h := ?_)
        rotate_left
        · (intro w h; obtain ⟨a, b, c, d, e⟩ := h.five; go_simp; try with_reducible rfl)
        try simp only [Act.put, jA, jB, jC]
        refine takeO 1 88 rfl hHeld (v := ?_) (hv := ?_) (h := ?_)
        rotate_left
        · (intro w h; obtain ⟨a, b, c, d, e⟩ := h.five; go_simp; try with_reducible rfl)
        try simp only [Act.put, jA, jB, jC]
        refine takeO 2 89 rfl hHeld (v := ?_) (hv := ?_) (h := ?_)
        rotate_left
        · (intro w h; obtain ⟨a, b, c, d, e⟩ := h.five; go_simp; try with_reducible rfl)
        try simp only [Act.put, jA, jB, jC]
        refine takeO 3 90 rfl hHeld (v := ?_) (hv := ?_) (h := ?_)
        rotate_left
        · (intro w h; obtain ⟨a, b, c, d, e⟩ := h.five; go_simp; try with_reducible rfl)
        try simp only [Act.put, jA, jB, jC]
        refine takeO 4 91 rfl hHeld (v := ?_) (hv := ?_) (h := ?_)
        rotate_left
        · (intro w h; obtain ⟨a, b, c, d, e⟩ := h.five; go_simp; try with_reducible rfl)
        try simp only [Act.put, jA, jB, jC]
        refine takeO 5 92 rfl hHeld (v := ?_) (hv := ?_) (h := ?_)
        rotate_left
        · (intro w h; obtain ⟨a, b, c, d, e⟩ := h.five; go_simp; try with_reducible rfl)
        try simp only [Act.put, jA, jB, jC]
        refine takeO 6 93 rfl hHeld (v := ?_) (hv := ?_) (h := ?_)
        rotate_left
        · (intro w h; obtain ⟨a, b, c, d, e⟩ := h.five; go_simp; try with_reducible rfl)
        try simp only [Act.put, jA, jB, jC]
        refine takeO 7 94 rfl hHeld (v := ?_) (hv := ?_) (h := ?_)
        rotate_left
        · (intro w h; obtain ⟨a, b, c, d, e⟩ := h.five; go_simp; try with_reducible rfl)
        try simp only [Act.put, jA, jB, jC]
        refine takeO 8 95 rfl hHeld (v := ?_) (hv := ?_) (h := ?_)
        rotate_left
        · (intro w h; obtain ⟨a, b, c, d, e⟩ := h.five; go_simp; try with_reducible rfl)
        try simp only [Act.put, jA, jB, jC]
        refine takeN 9 96 rfl hHeld (h := ?_)
        try simp only [Act.put, jA, jB, jC]
        refine takeN 10 97 rfl hHeld (h := ?_)
        try simp only [Act.put, jA, jB, jC]
        refine takeN 11 98 rfl hHeld (h := ?_)
        try simp only [Act.put, jA, jB, jC]
        refine takeN 12 99 rfl hHeld (h := ?_)
        try simp only [Act.put, jA, jB, jC]
        refine takeO 13 100 rfl hHeld (v := ?_) (hv := ?_) (h := ?_)
        rotate_left
        · (intro w h; obtain ⟨a, b, c, d, e⟩ := h.five; go_simp; try with_reducible rfl)
        try simp only [Act.put, jA, jB, jC]
        have hRs : Lies Xd (w.heap.size + 1 + 1) #[.slice none 0 0, .slice none 0 0, .slice none 0 0, .slice none 0 0, .bool false] 38   := HWd.out.res
        obtain ⟨⟨r0, r1, r2, r3, r4, f0, f1, f2, f3, f4, s0, s1, s2, s3, s4⟩, _⟩ := Lies.set5 hRs (.slice K t.kinds.length c1) (.slice F t.full.length c2) (.slice A7 t.stack.length c7) (.slice (some ⟨gm, 0, none⟩) t.memo.length c4) (.bool t.done)
        refine wpAnyH_ready (rs := [14]) (by kernel_rfl) (by simp) ?_
        refine AllReadyH.cons (o := ⟨none, _, _, _, _, _⟩) rfl (fun K hK => ?_) AllReadyH.nil
        go_simp
        refine hK.out _ _ ((set5_block hne).trans hHeld) (fun hH2 => ?_)
        clear hK K
        try simp only [Act.put, jA, jB, jC]
        refine wpAnyH_ready (rs := [15]) (by kernel_rfl) (by simp) ?_
        refine AllReadyH.cons (o := ⟨some 5, _, _, _, _, _⟩) rfl (fun K hK => ?_) AllReadyH.nil
        go_simp
        refine hK.out _ _ hH2 (fun hH3 => ?_)
        clear hK K hH3 hH2 hHeld
        try simp only [Act.put, jA, jB, jC]
        refine wpAnyH_done (by kernel_rfl) ?_ _
        clear r0 r1 r2 r3 r4 f0 f1 f2 f3 f4 hRs
        have hB0 : Below base w (set5 Xd (w.heap.size + 1 + 1) (.slice K t.kinds.length c1) (.slice F t.full.length c2) (.slice A7 t.stack.length c7) (.slice (some ⟨gm, 0, none⟩) t.memo.length c4) (.bool t.done)) := set5_below HWd.out.bel HWd.out.hq2
        have hF0 : FrSh w (set5 Xd (w.heap.size + 1 + 1) (.slice K t.kinds.length c1) (.slice F t.full.length c2) (.slice A7 t.stack.length c7) (.slice (some ⟨gm, 0, none⟩) t.memo.length c4) (.bool t.done)) ⟨K, c1, F, c2, S, c3, some ⟨gm, 0, none⟩, c4⟩ := fun k hk ho => (set5_block (by omega)).trans (HWd.out.fr k hk ho)
        have HR0 := hide (And.intro hB0 hF0)
        clear hB0 hF0
        go_wp2
        refine bodyPost_ret (v := .tuple #[shVal ⟨K, c1, F, c2, A7, c7, (some ⟨gm, 0, none⟩), c4⟩ t, .bool false]) (by simp [shVal, shCells, results, Tryd.results33, go_sem, s0, s1, s2, s3, s4]) rfl ?_
        exact ⟨_, _, _, rfl, HR0.out.1, HR0.out.2, fun t ht => by (rw [HN.out] at ht; cases ht), fun _ => rfl⟩
    refine AllReadyH.cons (o := ⟨some 58, _, _, _, _, _⟩) rfl (fun KK hK => ?_) AllReadyH.nil
    go_simp
    refine hK.out _ _ hHa (fun hH => ?_)
    clear hK KK hH
    try simp only [Act.put, jA, jB, jC]
    refine wpAnyH_ready (rs := [1]) (by kernel_rfl) (by simp) ?_
    refine AllReadyH.cons (o := ⟨some 51, _, _, _, _, _⟩) rfl (fun KK hK => ?_) AllReadyH.nil
    go_simp
    refine hK.out _ _ hHa (fun hH => ?_)
    clear hK KK hH
    try simp only [Act.put, jA, jB, jC]
    refine wpAnyH_ready (rs := [9]) (by kernel_rfl) (by simp) ?_
    refine AllReadyH.cons (o := ⟨some 59, _, _, _, _, _⟩) rfl (fun KK hK => ?_) AllReadyH.nil
    refine step_append_ints (by rfl) (.tmp 51) (.tmp 58) (by rfl) base S c3 s.stack (by simp [Act.eval, Act.put]) (hSd.bx.own.t.alloc _) ⟨Xd.heap.size, 0, none⟩ 1 [x] (by simp) (by simp [Act.eval, Act.put]) (by simpa using IntsAt.one Xd x hx64) (by simp <;> omega) (by have := hSd.hB; simp; omega) ?_
    intro zs A7 c7 w7 hz ho7 hg7 ha7
    obtain ⟨q0, q1, q2, q3, q4, k0, k1, k2, _⟩ := hSd.cells hg7 hSd.bx.off.t
    have hlow := hSd.bx.box.lt
    have hrow := hSd.bx.off.t
    have hrowo : blockOf S ≠ some (w.heap.size + 1) := hoffo.t
    have hrowm : blockOf S ≠ some gm := fun e => hSd.bx.own.tm gm e rfl
    have hH7 : w7.cell? ⟨w.heap.size, 3, none⟩ = some (.slice (some ⟨gm, 0, none⟩) s.memo.length c4) ∧ Lies w7 (w.heap.size + 1) #[.int .i64 16, .int .i64 (j : Int)] 42 ∧ w7.cell? ⟨gm, j, none⟩ = some (.int .i64 x) :=
      ⟨q3, (hg7.block _ hHa.2.1.lt (fun e => hrowo e.symm)).trans hHa.2.1, (hg7.cell_far _ (by simp; omega) (fun e => hrowm e.symm)).trans hHa.2.2⟩
    have S7 := hide (hSd.pushT ho7 hg7 ha7)
    dsimp only at q0 q1 q2 q3 q4
    have hgmq : w.heap.size ≠ gm := fun e => hSd.bx.off.m (by rw [e]; rfl)
    clear ho7 hg7 ha7 hSd hHa e2a e0 e1 e2 e3 e4 hHeld
    refine hK.out _ _ hH7 (fun hH => ?_)
    clear hK KK hH
    try simp only [Act.put, jA, jB, jC]
    refine wpAnyH_take (i := 10) (oi := ⟨some 60, _, _, _, _, _⟩) (v := ?_) rfl (by kernel_rfl) (by kernel_rfl) (by kernel_rfl) (fun _ _ _ h => h) (Or.inl ⟨by rfl, ?_⟩) (by assumption) ?_
    rotate_left
    · (intro w hSw; go_simp; try with_reducible rfl)
    try simp only [Act.put, jA, jB, jC]
    refine wpAnyH_ready (rs := [11]) (by kernel_rfl) (by simp) ?_
    refine AllReadyH.cons (o := ⟨none, _, _, _, _, _⟩) rfl (fun KK hK => ?_) AllReadyH.nil
    go_simp
    refine hK.out _ _ ⟨(World.cell?_setCell_other _ _ _ _ (by intro e; injection e with _ e; omega)).trans hH7.1, hH7.2.1.far (by show w.heap.size + 1 ≠ w.heap.size; omega) _, (World.cell?_setCell_far _ _ _ _ (by show w.heap.size ≠ gm; exact hgmq)).trans hH7.2.2⟩ (fun hH => ?_)
    clear hK KK hH hH7
    try simp only [Act.put, jA, jB, jC]
    refine wpAnyH_done (by kernel_rfl) ?_ _
    have hp : ({ s with stack := zs } : Shp) = { s with stack := s.stack ++ [x] } := by rw [hz.out]
    have hS7 := S7.out
    rw [hp] at hS7
    dsimp only at hS7
    go_upto_region 15 with fail
    generalize w7.setCell ⟨w.heap.size, 2, none⟩ (.slice A7 zs.length c7) = X at hS7 ⊢
    have htl : (s.stack ++ [x]).length ≤ 1001 := by simp; omega
    generalize htd : ({ s with stack := s.stack ++ [x] } : Shp) = t at hS7 HF
    have htk : t.kinds.length ≤ 1000 := by rw [← htd]; exact hkl
    have htt : t.stack.length ≤ 1001 := by rw [← htd]; exact htl
    have HS6 := hide hS7
    clear hS7 S7 hp htd q0 q1 q2 q3 q4 k0 k1 k2 hz
    have HW := hide (HS6.out.toW)
    by_cases hk3 : t.kinds.length ≤ 300
    · have tk : decide ((t.kinds.length : Int) ≤ 300) = true := by simp <;> omega
      have hk3i : (t.kinds.length : Int) ≤ 300 := by omega
      by_cases ht3 : t.stack.length ≤ 300
      · have tt : decide ((t.stack.length : Int) ≤ 300) = true := by simp <;> omega
        have ht3i : (t.stack.length : Int) ≤ 300 := by omega
        have HN := hide (stepShp_of HF.out ⟨hk3, ht3⟩)
        have hX0 : Lies X.drew w.heap.size #[.slice K t.kinds.length c1, .slice F t.full.length c2, .slice A7 t.stack.length c7, .slice (some ⟨gm, 0, none⟩) t.memo.length c4, .bool t.done] 38 := HW.out.box
        have hne : w.heap.size ≠ w.heap.size + 1 + 1 := by omega
        refine wp_region_held_drew (S := fun w' => Lies w' w.heap.size #[.slice K t.kinds.length c1, .slice F t.full.length c2, .slice A7 t.stack.length c7, .slice (some ⟨gm, 0, none⟩) t.memo.length c4, .bool t.done] 38) (by kernel_rfl) hX0 (fun hHeld => ?_)
        have HWd : Hid (ShW w X.drew ⟨K, c1, F, c2, S, c3, some ⟨gm, 0, none⟩, c4⟩ base w.heap.size (w.heap.size + 1 + 1) ⟨K, c1, F, c2, A7, c7, (some ⟨gm, 0, none⟩), c4⟩ t) := hide ⟨HW.out.box, HW.out.res, HW.out.bel.drew, HW.out.fr, HW.out.ne, HW.out.hq2, HW.out.sq2⟩
        clear hX0
        have HOd := hide (HS6.out.below ((Below.refl X.heap.size X).drew))
        generalize X.drew = Xd at *
        refine takeO 0 87 rfl hHeld (v := ?_) (hv := ?_) (h := ?_)
        rotate_left
        · (intro w h; obtain ⟨a, b, c, d, e⟩ := h.five; go_simp; try with_reducible rfl)
        try simp only [Act.put, jA, jB, jC]
        refine takeO 1 88 rfl hHeld (v := ?_) (hv := ?_) (h := ?_)
        rotate_left
        · (intro w h; obtain ⟨a, b, c, d, e⟩ := h.five; go_simp; try with_reducible rfl)
        try simp only [Act.put, jA, jB, jC]
        refine takeO 2 89 rfl hHeld (v := ?_) (hv := ?_) (h := ?_)
        rotate_left
        · (intro w h; obtain ⟨a, b, c, d, e⟩ := h.five; go_simp; try with_reducible rfl)
        try simp only [Act.put, jA, jB, jC]
        refine takeO 3 90 rfl hHeld (v := ?_) (hv := ?_) (h := ?_)
        rotate_left
        · (intro w h; obtain ⟨a, b, c, d, e⟩ := h.five; go_simp; try with_reducible rfl)
        try simp only [Act.put, jA, jB, jC]
        refine takeO 4 91 rfl hHeld (v := ?_) (hv := ?_) (h := ?_)
        rotate_left
        · (intro w h; obtain ⟨a, b, c, d, e⟩ := h.five; go_simp; try with_reducible rfl)
        try simp only [Act.put, jA, jB, jC]
        refine takeO 5 92 rfl hHeld (v := ?_) (hv := ?_) (h := ?_)
        rotate_left
        · (intro w h; obtain ⟨a, b, c, d, e⟩ := h.five; go_simp; try with_reducible rfl)
        try simp only [Act.put, jA, jB, jC]
        refine takeO 6 93 rfl hHeld (v := ?_) (hv := ?_) (h := ?_)
        rotate_left
        · (intro w h; obtain ⟨a, b, c, d, e⟩ := h.five; go_simp; try with_reducible rfl)
        try simp only [Act.put, jA, jB, jC]
        refine takeO 7 94 rfl hHeld (v := ?_) (hv := ?_) (h := ?_)
        rotate_left
        · (intro w h; obtain ⟨a, b, c, d, e⟩ := h.five; go_simp; try with_reducible rfl)
        try simp only [Act.put, jA, jB, jC]
        refine takeO 8 95 rfl hHeld (v := ?_) (hv := ?_) (h := ?_)
        rotate_left
        · (intro w h; obtain ⟨a, b, c, d, e⟩ := h.five; go_simp; try with_reducible rfl)
        try simp only [Act.put, jA, jB, jC]
        refine takeO 9 96 rfl hHeld (v := ?_) (hv := ?_) (h := ?_)
        rotate_left
        · (intro w h; obtain ⟨a, b, c, d, e⟩ := h.five; go_simp; try with_reducible rfl)
        try simp only [Act.put, jA, jB, jC]
        refine takeO 10 97 rfl hHeld (v := ?_) (hv := ?_) (h := ?_)
        rotate_left
        · (intro w h; obtain ⟨a, b, c, d, e⟩ := h.five; go_simp; try with_reducible rfl)
        try simp only [Act.put, jA, jB, jC]
        refine takeO 11 98 rfl hHeld (v := ?_) (hv := ?_) (h := ?_)
        rotate_left
        · (intro w h; obtain ⟨a, b, c, d, e⟩ := h.five; go_simp; try with_reducible rfl)
        try simp only [Act.put, jA, jB, jC]
        refine takeO 12 99 rfl hHeld (v := ?_) (hv := ?_) (h := ?_)
        rotate_left
        · (intro w h; obtain ⟨a, b, c, d, e⟩ := h.five; go_simp; try with_reducible rfl)
        try simp only [Act.put, jA, jB, jC]
        refine takeO 13 100 rfl hHeld (v := ?_) (hv := ?_) (h := ?_)
        rotate_left
        · (intro w h; obtain ⟨a, b, c, d, e⟩ := h.five; go_simp; try with_reducible rfl)
        try simp only [Act.put, jA, jB, jC]
        have hRs : Lies Xd (w.heap.size + 1 + 1) #[.slice none 0 0, .slice none 0 0, .slice none 0 0, .slice none 0 0, .bool false] 38   := HWd.out.res
        obtain ⟨⟨r0, r1, r2, r3, r4, f0, f1, f2, f3, f4, s0, s1, s2, s3, s4⟩, _⟩ := Lies.set5 hRs (.slice K t.kinds.length c1) (.slice F t.full.length c2) (.slice A7 t.stack.length c7) (.slice (some ⟨gm, 0, none⟩) t.memo.length c4) (.bool t.done)
        refine wpAnyH_ready (rs := [14]) (by kernel_rfl) (by simp) ?_
        refine AllReadyH.cons (o := ⟨none, _, _, _, _, _⟩) rfl (fun K hK => ?_) AllReadyH.nil
        go_simp
        refine hK.out _ _ ((set5_block hne).trans hHeld) (fun hH2 => ?_)
        clear hK K
        try simp only [Act.put, jA, jB, jC]
        refine wpAnyH_ready (rs := [15]) (by kernel_rfl) (by simp) ?_
        refine AllReadyH.cons (o := ⟨some 5, _, _, _, _, _⟩) rfl (fun K hK => ?_) AllReadyH.nil
        go_simp
        refine hK.out _ _ hH2 (fun hH3 => ?_)
        clear hK K hH3 hH2 hHeld
        try simp only [Act.put, jA, jB, jC]
        refine wpAnyH_done (by kernel_rfl) ?_ _
        clear r0 r1 r2 r3 r4 f0 f1 f2 f3 f4 hRs
        have hB0 : Below base w (set5 Xd (w.heap.size + 1 + 1) (.slice K t.kinds.length c1) (.slice F t.full.length c2) (.slice A7 t.stack.length c7) (.slice (some ⟨gm, 0, none⟩) t.memo.length c4) (.bool t.done)) := set5_below HWd.out.bel HWd.out.hq2
        have hF0 : FrSh w (set5 Xd (w.heap.size + 1 + 1) (.slice K t.kinds.length c1) (.slice F t.full.length c2) (.slice A7 t.stack.length c7) (.slice (some ⟨gm, 0, none⟩) t.memo.length c4) (.bool t.done)) ⟨K, c1, F, c2, S, c3, some ⟨gm, 0, none⟩, c4⟩ := fun k hk ho => (set5_block (by omega)).trans (HWd.out.fr k hk ho)
        have HR0 := hide (And.intro hB0 hF0)
        clear hB0 hF0
        have hO : ShOwn (set5 Xd (w.heap.size + 1 + 1) (.slice K t.kinds.length c1) (.slice F t.full.length c2) (.slice A7 t.stack.length c7) (.slice (some ⟨gm, 0, none⟩) t.memo.length c4) (.bool t.done)) base ⟨K, c1, F, c2, A7, c7, (some ⟨gm, 0, none⟩), c4⟩ t := HOd.out.bx.own.set5 HOd.out.off2
        have HO := hide (And.intro hO HOd.out.offs)
        clear hO
        go_wp2
        refine bodyPost_ret (v := .tuple #[shVal ⟨K, c1, F, c2, A7, c7, (some ⟨gm, 0, none⟩), c4⟩ t, .bool true]) (by simp [shVal, shCells, results, Tryd.results33, go_sem, s0, s1, s2, s3, s4]) rfl ?_
        exact ⟨_, _, _, rfl, HR0.out.1, HR0.out.2, fun t ht => by (rw [HN.out] at ht; cases ht; exact ⟨rfl, rfl, HO.out.1, HO.out.2⟩), fun hh => by (rw [HN.out] at hh; cases hh)⟩
      · have tt : decide ((t.stack.length : Int) ≤ 300) = false := by simp <;> omega
        have HN := hide (stepShp_wide HF.out (fun h => ht3 h.2))
        have hX0 : Lies X.drew w.heap.size #[.slice K t.kinds.length c1, .slice F t.full.length c2, .slice A7 t.stack.length c7, .slice (some ⟨gm, 0, none⟩) t.memo.length c4, .bool t.done] 38 := HW.out.box
        have hne : w.heap.size ≠ w.heap.size + 1 + 1 := by omega
        refine wp_region_held_drew (S := fun w' => Lies w' w.heap.size #[.slice K t.kinds.length c1, .slice F t.full.length c2, .slice A7 t.stack.length c7, .slice (some ⟨gm, 0, none⟩) t.memo.length c4, .bool t.done] 38) (by kernel_rfl) hX0 (fun hHeld => ?_)
        have HWd : Hid (ShW w X.drew ⟨K, c1, F, c2, S, c3, some ⟨gm, 0, none⟩, c4⟩ base w.heap.size (w.heap.size + 1 + 1) ⟨K, c1, F, c2, A7, c7, (some ⟨gm, 0, none⟩), c4⟩ t) := hide ⟨HW.out.box, HW.out.res, HW.out.bel.drew, HW.out.fr, HW.out.ne, HW.out.hq2, HW.out.sq2⟩
        clear hX0
        generalize X.drew = Xd at *
        refine takeO 0 87 rfl hHeld (v := ?_) (hv := ?_) (h := ?_)
        rotate_left
        · (intro w h; obtain ⟨a, b, c, d, e⟩ := h.five; go_simp; try with_reducible rfl)
        try simp only [Act.put, jA, jB, jC]
        refine takeO 1 88 rfl hHeld (v := ?_) (hv := ?_) (h := ?_)
        rotate_left
        · (intro w h; obtain ⟨a, b, c, d, e⟩ := h.five; go_simp; try with_reducible rfl)
        try simp only [Act.put, jA, jB, jC]
        refine takeO 2 89 rfl hHeld (v := ?_) (hv := ?_) (h := ?_)
        rotate_left
        · (intro w h; obtain ⟨a, b, c, d, e⟩ := h.five; go_simp; try with_reducible rfl)
        try simp only [Act.put, jA, jB, jC]
        refine takeO 3 90 rfl hHeld (v := ?_) (hv := ?_) (h := ?_)
        rotate_left
        · (intro w h; obtain ⟨a, b, c, d, e⟩ := h.five; go_simp; try with_reducible rfl)
        try simp only [Act.put, jA, jB, jC]
        refine takeO 4 91 rfl hHeld (v := ?_) (hv := ?_) (h := ?_)
        rotate_left
        · (intro w h; obtain ⟨a, b, c, d, e⟩ := h.five; go_simp; try with_reducible rfl)
        try simp only [Act.put, jA, jB, jC]
        refine takeO 5 92 rfl hHeld (v := ?_) (hv := ?_) (h := ?_)
        rotate_left
        · (intro w h; obtain ⟨a, b, c, d, e⟩ := h.five; go_simp; try with_reducible rfl)
        try simp only [Act.put, jA, jB, jC]
        refine takeO 6 93 rfl hHeld (v := ?_) (hv := ?_) (h := ?_)
        rotate_left
        · (intro w h; obtain ⟨a, b, c, d, e⟩ := h.five; go_simp; try with_reducible rfl)
        try simp only [Act.put, jA, jB, jC]
        refine takeO 7 94 rfl hHeld (v := ?_) (hv := ?_) (h := ?_)
        rotate_left
        · (intro w h; obtain ⟨a, b, c, d, e⟩ := h.five; go_simp; try with_reducible rfl)
        try simp only [Act.put, jA, jB, jC]
        refine takeO 8 95 rfl hHeld (v := ?_) (hv := ?_) (h := ?_)
        rotate_left
        · (intro w h; obtain ⟨a, b, c, d, e⟩ := h.five; go_simp; try with_reducible rfl)
        try simp only [Act.put, jA, jB, jC]
        refine takeO 9 96 rfl hHeld (v := ?_) (hv := ?_) (h := ?_)
        rotate_left
        · (intro w h; obtain ⟨a, b, c, d, e⟩ := h.five; go_simp; try with_reducible rfl)
        try simp only [Act.put, jA, jB, jC]
        refine takeO 10 97 rfl hHeld (v := ?_) (hv := ?_) (h := ?_)
        rotate_left
        · (intro w h; obtain ⟨a, b, c, d, e⟩ := h.five; go_simp; try with_reducible rfl)
        try simp only [Act.put, jA, jB, jC]
        refine takeO 11 98 rfl hHeld (v := ?_) (hv := ?_) (h := ?_)
        rotate_left
        · (intro w h; obtain ⟨a, b, c, d, e⟩ := h.five; go_simp; try with_reducible rfl)
        try simp only [Act.put, jA, jB, jC]
        refine takeO 12 99 rfl hHeld (v := ?_) (hv := ?_) (h := ?_)
        rotate_left
        · (intro w h; obtain ⟨a, b, c, d, e⟩ := h.five; go_simp; try with_reducible rfl)
        try simp only [Act.put, jA, jB, jC]
        refine takeO 13 100 rfl hHeld (v := ?_) (hv := ?_) (h := ?_)
        rotate_left
        · (intro w h; obtain ⟨a, b, c, d, e⟩ := h.five; go_simp; try with_reducible rfl)
        try simp only [Act.put, jA, jB, jC]
        have hRs : Lies Xd (w.heap.size + 1 + 1) #[.slice none 0 0, .slice none 0 0, .slice none 0 0, .slice none 0 0, .bool false] 38   := HWd.out.res
        obtain ⟨⟨r0, r1, r2, r3, r4, f0, f1, f2, f3, f4, s0, s1, s2, s3, s4⟩, _⟩ := Lies.set5 hRs (.slice K t.kinds.length c1) (.slice F t.full.length c2) (.slice A7 t.stack.length c7) (.slice (some ⟨gm, 0, none⟩) t.memo.length c4) (.bool t.done)
        refine wpAnyH_ready (rs := [14]) (by kernel_rfl) (by simp) ?_
        refine AllReadyH.cons (o := ⟨none, _, _, _, _, _⟩) rfl (fun K hK => ?_) AllReadyH.nil
        go_simp
        refine hK.out _ _ ((set5_block hne).trans hHeld) (fun hH2 => ?_)
        clear hK K
        try simp only [Act.put, jA, jB, jC]
        refine wpAnyH_ready (rs := [15]) (by kernel_rfl) (by simp) ?_
        refine AllReadyH.cons (o := ⟨some 5, _, _, _, _, _⟩) rfl (fun K hK => ?_) AllReadyH.nil
        go_simp
        refine hK.out _ _ hH2 (fun hH3 => ?_)
        clear hK K hH3 hH2 hHeld
        try simp only [Act.put, jA, jB, jC]
        refine wpAnyH_done (by kernel_rfl) ?_ _
        clear r0 r1 r2 r3 r4 f0 f1 f2 f3 f4 hRs
        have hB0 : Below base w (set5 Xd (w.heap.size + 1 + 1) (.slice K t.kinds.length c1) (.slice F t.full.length c2) (.slice A7 t.stack.length c7) (.slice (some ⟨gm, 0, none⟩) t.memo.length c4) (.bool t.done)) := set5_below HWd.out.bel HWd.out.hq2
        have hF0 : FrSh w (set5 Xd (w.heap.size + 1 + 1) (.slice K t.kinds.length c1) (.slice F t.full.length c2) (.slice A7 t.stack.length c7) (.slice (some ⟨gm, 0, none⟩) t.memo.length c4) (.bool t.done)) ⟨K, c1, F, c2, S, c3, some ⟨gm, 0, none⟩, c4⟩ := fun k hk ho => (set5_block (by omega)).trans (HWd.out.fr k hk ho)
        have HR0 := hide (And.intro hB0 hF0)
        clear hB0 hF0
        go_wp2
        refine bodyPost_ret (v := .tuple #[shVal ⟨K, c1, F, c2, A7, c7, (some ⟨gm, 0, none⟩), c4⟩ t, .bool false]) (by simp [shVal, shCells, results, Tryd.results33, go_sem, s0, s1, s2, s3, s4]) rfl ?_
        exact ⟨_, _, _, rfl, HR0.out.1, HR0.out.2, fun t ht => by (rw [HN.out] at ht; cases ht), fun _ => rfl⟩
    · have tk : decide ((t.kinds.length : Int) ≤ 300) = false := by simp <;> omega
      have HN := hide (stepShp_wide HF.out (fun h => hk3 h.1))
      have hX0 : Lies X.drew w.heap.size #[.slice K t.kinds.length c1, .slice F t.full.length c2, .slice A7 t.stack.length c7, .slice (some ⟨gm, 0, none⟩) t.memo.length c4, .bool t.done] 38 := HW.out.box
      have hne : w.heap.size ≠ w.heap.size + 1 + 1 := by omega
      refine wp_region_held_drew (S := fun w' => Lies w' w.heap.size #[.slice K t.kinds.length c1, .slice F t.full.length c2, .slice A7 t.stack.length c7, .slice (some ⟨gm, 0, none⟩) t.memo.length c4, .bool t.done] 38) (by kernel_rfl) hX0 (fun hHeld => ?_)
      have HWd : Hid (ShW w X.drew ⟨K, c1, F, c2, S, c3, some ⟨gm, 0, none⟩, c4⟩ base w.heap.size (w.heap.size + 1 + 1) ⟨K, c1, F, c2, A7, c7, (some ⟨gm, 0, none⟩), c4⟩ t) := hide ⟨HW.out.box, HW.out.res, HW.out.bel.drew, HW.out.fr, HW.out.ne, HW.out.hq2, HW.out.sq2⟩
      clear hX0
      generalize X.drew = Xd at *
      refine takeO 0 87 rfl hHeld (v := ?_) (hv := ?_) (h := ?_)
      rotate_left
      · (intro w h; obtain ⟨a, b, c, d, e⟩ := h.five; go_simp; try with_reducible rfl)
      try simp only [Act.put, jA, jB, jC]
      refine takeO 1 88 rfl hHeld (v := ?_) (hv := ?_) (h := ?_)
      rotate_left
      · (intro w h; obtain ⟨a, b, c, d, e⟩ := h.five; go_simp; try with_reducible rfl)
      try simp only [Act.put, jA, jB, jC]
      refine takeO 2 89 rfl hHeld (v := ?_) (hv := ?_) (h := ?_)
      rotate_left
      · (intro w h; obtain ⟨a, b, c, d, e⟩ := h.five; go_simp; try with_reducible rfl)
      try simp only [Act.put, jA, jB, jC]
      refine takeO 3 90 rfl hHeld (v := ?_) (hv := ?_) (h := ?_)
      rotate_left
      · (intro w h; obtain ⟨a, b, c, d, e⟩ := h.five; go_simp; try with_reducible rfl)
      try simp only [Act.put, jA, jB, jC]
      refine takeO 4 91 rfl hHeld (v := ?_) (hv := ?_) (h := ?_)
      rotate_left
      · (intro w h; obtain ⟨a, b, c, d, e⟩ := h.five; go_simp; try with_reducible rfl)
      try simp only [Act.put, jA, jB, jC]
      refine takeO 5 92 rfl hHeld (v := ?_) (hv := ?_) (h := ?_)
      rotate_left
      · (intro w h; obtain ⟨a, b, c, d, e⟩ := h.five; go_simp; try with_reducible rfl)
      try simp only [Act.put, jA, jB, jC]
      refine takeO 6 93 rfl hHeld (v := ?_) (hv := ?_) (h := ?_)
      rotate_left
      · (intro w h; obtain ⟨a, b, c, d, e⟩ := h.five; go_simp; try with_reducible rfl)
      try simp only [Act.put, jA, jB, jC]
      refine takeO 7 94 rfl hHeld (v := ?_) (hv := ?_) (h := ?_)
      rotate_left
      · (intro w h; obtain ⟨a, b, c, d, e⟩ := h.five; go_simp; try with_reducible rfl)
      try simp only [Act.put, jA, jB, jC]
      refine takeO 8 95 rfl hHeld (v := ?_) (hv := ?_) (h := ?_)
      rotate_left
      · (intro w h; obtain ⟨a, b, c, d, e⟩ := h.five; go_simp; try with_reducible rfl)
      try simp only [Act.put, jA, jB, jC]
      refine takeN 9 96 rfl hHeld (h := ?_)
      try simp only [Act.put, jA, jB, jC]
      refine takeN 10 97 rfl hHeld (h := ?_)
      try simp only [Act.put, jA, jB, jC]
      refine takeN 11 98 rfl hHeld (h := ?_)
      try simp only [Act.put, jA, jB, jC]
      refine takeN 12 99 rfl hHeld (h := ?_)
      try simp only [Act.put, jA, jB, jC]
      refine takeO 13 100 rfl hHeld (v := ?_) (hv := ?_) (h := ?_)
      rotate_left
      · (intro w h; obtain ⟨a, b, c, d, e⟩ := h.five; go_simp; try with_reducible rfl)
      try simp only [Act.put, jA, jB, jC]
      have hRs : Lies Xd (w.heap.size + 1 + 1) #[.slice none 0 0, .slice none 0 0, .slice none 0 0, .slice none 0 0, .bool false] 38   := HWd.out.res
      obtain ⟨⟨r0, r1, r2, r3, r4, f0, f1, f2, f3, f4, s0, s1, s2, s3, s4⟩, _⟩ := Lies.set5 hRs (.slice K t.kinds.length c1) (.slice F t.full.length c2) (.slice A7 t.stack.length c7) (.slice (some ⟨gm, 0, none⟩) t.memo.length c4) (.bool t.done)
      refine wpAnyH_ready (rs := [14]) (by kernel_rfl) (by simp) ?_
      refine AllReadyH.cons (o := ⟨none, _, _, _, _, _⟩) rfl (fun K hK => ?_) AllReadyH.nil
      go_simp
      refine hK.out _ _ ((set5_block hne).trans hHeld) (fun hH2 => ?_)
      clear hK K
      try simp only [Act.put, jA, jB, jC]
      refine wpAnyH_ready (rs := [15]) (by kernel_rfl) (by simp) ?_
      refine AllReadyH.cons (o := ⟨some 5, _, _, _, _, _⟩) rfl (fun K hK => ?_) AllReadyH.nil
      go_simp
      refine hK.out _ _ hH2 (fun hH3 => ?_)
      clear hK K hH3 hH2 hHeld
      try simp only [Act.put, jA, jB, jC]
      refine wpAnyH_done (by kernel_rfl) ?_ _
      clear r0 r1 r2 r3 r4 f0 f1 f2 f3 f4 hRs
      have hB0 : Below base w (set5 Xd (w.heap.size + 1 + 1) (.slice K t.kinds.length c1) (.slice F t.full.length c2) (.slice A7 t.stack.length c7) (.slice (some ⟨gm, 0, none⟩) t.memo.length c4) (.bool t.done)) := set5_below HWd.out.bel HWd.out.hq2
      have hF0 : FrSh w (set5 Xd (w.heap.size + 1 + 1) (.slice K t.kinds.length c1) (.slice F t.full.length c2) (.slice A7 t.stack.length c7) (.slice (some ⟨gm, 0, none⟩) t.memo.length c4) (.bool t.done)) ⟨K, c1, F, c2, S, c3, some ⟨gm, 0, none⟩, c4⟩ := fun k hk ho => (set5_block (by omega)).trans (HWd.out.fr k hk ho)
      have HR0 := hide (And.intro hB0 hF0)
      clear hB0 hF0
      go_wp2
      refine bodyPost_ret (v := .tuple #[shVal ⟨K, c1, F, c2, A7, c7, (some ⟨gm, 0, none⟩), c4⟩ t, .bool false]) (by simp [shVal, shCells, results, Tryd.results33, go_sem, s0, s1, s2, s3, s4]) rfl ?_
      exact ⟨_, _, _, rfl, HR0.out.1, HR0.out.2, fun t ht => by (rw [HN.out] at ht; cases ht), fun _ => rfl⟩
end Go.Proofs.YtbihgafkmmcjlaaDoor
