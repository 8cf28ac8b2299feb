import Derived.Test.YtbihgafkmmcjlaaDoorPjAe
import Derived.Test.YtbihgafkmmcjlaaDoorShpU
import Derived.Test.YtbihgafkmmcjlaaDoorShpC
import Derived.Test.YtbihgafkmmcjlaaDoorPjAd
import Derived.Deep.LoopGhost
import Derived.Deep.Cut
import Derived.Deep.RegionHeld3
namespace Go.Proofs.YtbihgafkmmcjlaaDoor
open Go.RowKit
set_option linter.unusedVariables false
set_option maxRecDepth 100000 in
set_option maxHeartbeats 4000000 in
theorem runShapes_any (A : Option Addr) (os : List Od) (c : Nat) (w : World) (h : OpsAt w w.heap.size A os) (hok : ∀ o ∈ os, OdOk o) :
    Calls Tryd.prog 17 #[.slice A os.length c] w (GivesRun w (runShp Shp.new os)) := by
  have hl := h.len
  have Hok := hide hok
  obtain ⟨s0, hs0⟩ : ∃ s, s = Shp.new := ⟨_, rfl⟩
  obtain ⟨R, hR⟩ : ∃ R, R = runShp Shp.new os := ⟨_, rfl⟩
  have HNew := hide (show s0.Ok ∧ s0.Fits from by rw [hs0]; exact ⟨Shp.new_ok, by simp [Shp.Fits, Shp.new]⟩)
  rw [← hR]
  rw [← hs0] at hR
  have HR := hide hR
  have Hs0 := hide hs0
  have HB0 := hide ((Below.refl w.heap.size w).alloc (Nat.le_refl _) (.cells zero5 38))
  have L0 := hide (Lies.new w zero5 38)
  clear hR hok hs0
  go_enter Tryd.func17, Tryd.ntmps17
  go_upto_region 1 with fail
  have hq2 : w.heap.size < (w.alloc (.cells zero5 38)).heap.size := by simp
  unfold zero5 at HB0 L0 hq2
  generalize w.alloc (.cells #[.slice none 0 0, .slice none 0 0, .slice none 0 0, .slice none 0 0, .bool false] 38) = W0 at HB0 L0 hq2 ⊢
  go_wp2_with fail
  have HC := newShapes_any W0
  rw [← Hs0.out] at HC
  refine HC.mono ?_
  clear HC
  rintro e w1 ⟨p1, rfl, ho1, hb1⟩
  have HS0 := hide (show RunS w (w1.alloc (.cells (shCells p1 s0) 38)) w1.heap.size w.heap.size p1 s0 from by
    have hz := hb1.size
    exact ⟨(HB0.out.trans (hb1.mono (by omega))).alloc (by omega) _, Lies.new w1 _ _, (Lies.below (show Lies W0 w.heap.size zero5 38 from L0.out) hb1 hq2).alloc _, (ho1.mono (by omega)).alloc _, ho1.off (.inr (Nat.le_refl _)), ho1.off (.inl hq2), by omega, Nat.le_refl _, by omega⟩)
  have hw1 : w.heap.size < w1.heap.size := by have := hb1.size; omega
  clear ho1 hb1
  simp only [shVal, shCells] at HS0 ⊢
  go_upto_region 2 with fail
  generalize w1.alloc (.cells #[.slice p1.K s0.kinds.length p1.c1, .slice p1.F s0.full.length p1.c2, .slice p1.S s0.stack.length p1.c3, .slice p1.M s0.memo.length p1.c4, .bool s0.done] 38) = w2 at HS0 ⊢
  generalize w1.heap.size = q at HS0 hw1 ⊢
  generalize hQ2 : w.heap.size = q2 at hw1 ⊢
  rw [hQ2] at HS0
  have HQ2 := hide hQ2
  clear hQ2 HB0 L0 hq2
  go_wp2_with fail
  go_loopg [5, 6, 7] os.length (fun gk iv _ _ wr => ∃ (k : Nat) (p : ShPtr) (s : Shp), k ≤ os.length ∧ gk = os.length - k ∧ iv = .int .i64 (k : Int) ∧ RunS w wr q q2 p s ∧ s.Ok ∧ s.Fits ∧ R = ((runShp s (os.drop k)).1, k + (runShp s (os.drop k)).2))
  case atStart => exact ⟨0, p1, s0, Nat.zero_le _, rfl, rfl, HS0.out, HNew.out.1, HNew.out.2, by rw [HR.out]; simp⟩
  case round =>
    clear HS0
    obtain ⟨k, p, s, hk, rfl, rfl, hS, hsO, hsF, hRk⟩ := hrel
    have HRk := hide hRk
    have HsO := hide hsO
    have Hsm := hide (hsF.small hsO)
    have hf1 := hsF.1
    have hf2 := hsF.2
    have hf3 : s.full.length ≤ 1000 := by have := hsO.fl; omega
    have hf4 : s.memo.length ≤ 1000 := by have := hsO.ml; omega
    clear hRk
    by_cases hlt : k < os.length
    · obtain ⟨b, off, o, rfl, hbl, hx, hmem, hc0, hc1⟩ := (h.below hS.bel).at_ hlt
      have Hx := hide hx
      have HO := hide (Hok.out o hmem)
      clear hx hmem hsO hsF
      have hx0 := hS.box.cell 0
      have hx1 := hS.box.cell 1
      have hx2 := hS.box.cell 2
      have hx3 := hS.box.cell 3
      have hx4 := hS.box.cell 4
      have hk1 : (0 : Int) ≤ (k : Int) := by omega
      have hk2 : (k : Int) < (os.length : Int) := by omega
      have hbq : b ≠ q := by have := hS.h1; omega
      go_wp2_with fail
      refine wp_region_held_drew (S := HeldR q b (off + k * 2) #[.slice p.K s.kinds.length p.c1, .slice p.F s.full.length p.c2, .slice p.S s.stack.length p.c3, .slice p.M s.memo.length p.c4, .bool s.done] (.int .i64 o.code) (.int .i64 o.arg)) (by kernel_rfl) ⟨hS.box, hc0, hc1⟩ (fun hHeld => ?_)
      have HS := hide (hS.below ((Below.refl wr.heap.size wr).drew))
      have HBw := hide (hS.bel.drew)
      clear hS hc0 hc1
      generalize wr.drew = X at HS HBw hHeld ⊢
      refine wpAnyH_take (i := 0) (oi := ⟨some 16, _, _, _, _, _⟩) (v := ?_) rfl (by kernel_rfl) (by kernel_rfl) (by kernel_rfl) (fun _ _ _ h => h) (Or.inl ⟨by rfl, ?_⟩) (by assumption) ?_
      rotate_left
      · (intro w hSw; obtain ⟨hS1, hS2, hS3⟩ := hSw; have y0 := hS1.cell 0; have y1 := hS1.cell 1; have y2 := hS1.cell 2; have y3 := hS1.cell 3; have y4 := hS1.cell 4; simp only [jD, jE, jF] at y0 y1 y2 y3 y4; go_simp; try with_reducible rfl)
      try simp only [Act.put, jA, jB, jC]
      refine wpAnyH_take (i := 2) (oi := ⟨some 18, _, _, _, _, _⟩) (v := ?_) rfl (by kernel_rfl) (by kernel_rfl) (by kernel_rfl) (fun _ _ _ h => h) (Or.inl ⟨by rfl, ?_⟩) (by assumption) ?_
      rotate_left
      · (intro w hSw; obtain ⟨hS1, hS2, hS3⟩ := hSw; have y0 := hS1.cell 0; have y1 := hS1.cell 1; have y2 := hS1.cell 2; have y3 := hS1.cell 3; have y4 := hS1.cell 4; simp only [jD, jE, jF] at y0 y1 y2 y3 y4; go_simp; try with_reducible rfl)
      try simp only [Act.put, jA, jB, jC]
      refine wpAnyH_take (i := 3) (oi := ⟨some 19, _, _, _, _, _⟩) (v := ?_) rfl (by kernel_rfl) (by kernel_rfl) (by kernel_rfl) (fun _ _ _ h => h) (Or.inl ⟨by rfl, ?_⟩) (by assumption) ?_
      rotate_left
      · (intro w hSw; obtain ⟨hS1, hS2, hS3⟩ := hSw; have y0 := hS1.cell 0; have y1 := hS1.cell 1; have y2 := hS1.cell 2; have y3 := hS1.cell 3; have y4 := hS1.cell 4; simp only [jD, jE, jF] at y0 y1 y2 y3 y4; go_simp; try with_reducible rfl)
      try simp only [Act.put, jA, jB, jC]
      refine wpAnyH_take (i := 4) (oi := ⟨some 20, _, _, _, _, _⟩) (v := ?_) rfl (by kernel_rfl) (by kernel_rfl) (by kernel_rfl) (fun _ _ _ h => h) (Or.inl ⟨by rfl, ?_⟩) (by assumption) ?_
      rotate_left
      · (intro w hSw; obtain ⟨hS1, hS2, hS3⟩ := hSw; have y0 := hS1.cell 0; have y1 := hS1.cell 1; have y2 := hS1.cell 2; have y3 := hS1.cell 3; have y4 := hS1.cell 4; simp only [jD, jE, jF] at y0 y1 y2 y3 y4; go_simp; try with_reducible rfl)
      try simp only [Act.put, jA, jB, jC]
      refine wpAnyH_take (i := 5) (oi := ⟨some 21, _, _, _, _, _⟩) (v := ?_) rfl (by kernel_rfl) (by kernel_rfl) (by kernel_rfl) (fun _ _ _ h => h) (Or.inl ⟨by rfl, ?_⟩) (by assumption) ?_
      rotate_left
      · (intro w hSw; obtain ⟨hS1, hS2, hS3⟩ := hSw; have y0 := hS1.cell 0; have y1 := hS1.cell 1; have y2 := hS1.cell 2; have y3 := hS1.cell 3; have y4 := hS1.cell 4; simp only [jD, jE, jF] at y0 y1 y2 y3 y4; go_simp; try with_reducible rfl)
      try simp only [Act.put, jA, jB, jC]
      refine wpAnyH_ready (rs := [1, 10]) (by kernel_rfl) (by simp) ?_
      refine AllReadyH.cons (o := ⟨some 17, _, _, _, _, _⟩) rfl (fun K hK => ?_) ?_
      · skip
        go_simp
        go_at_call 34
        refine (copyShapes_any p s X (HS.out.own.at_ Hsm.out) (by omega) (by omega) (by omega) (by omega)).mono ?_
        rintro e v1 ⟨pc, rfl, hoc, hbn⟩
        have hqX : q < X.heap.size := HS.out.box.lt
        have hqX2 : q2 < X.heap.size := HS.out.res.lt
        have hbX : b < X.heap.size := Nat.lt_of_lt_of_le hbl HBw.out.size
        have HBX := hide hbn
        have HC := hide hoc
        clear hoc hbn
        simp only [shVal, shCells]
        refine hK.out _ _ ?_ (fun hH => ?_)
        · exact hHeld.below HBX.out hqX hbX
        clear hK K hHeld
        have hHeld := hH
        clear hH
        try simp only [Act.put, jA, jB, jC]
        refine wpAnyH_ready (rs := [6, 10]) (by kernel_rfl) (by simp) ?_
        refine AllReadyH.cons (o := ⟨some 22, _, _, _, _, _⟩) rfl (fun K hK => ?_) ?_
        · skip
          go_simp
          go_at_call 33
          refine (stepShapes_any pc s o X.heap.size v1 HC.out HBX.out.size Hsm.out HO.out).mono ?_
          rintro e v2 ⟨p5, s5, ok, rfl, hb2, hfr2, hg2, hn2⟩
          have HB2 := hide hb2
          have HG2 := hide hg2
          have HN2 := hide hn2
          have HFr := hide hfr2
          have HBY := hide (HBX.out.trans hb2)
          clear hb2 hg2 hn2 hfr2
          simp only [shVal, shCells]
          refine hK.out _ _ ?_ (fun hH => ?_)
          · exact hHeld.below HB2.out hqX hbX
          clear hK K hHeld
          have hHeld := hH
          clear hH
          try simp only [Act.put, jA, jB, jC]
          refine wpAnyH_take (i := 7) (oi := ⟨some 15, _, _, _, _, _⟩) (v := ?_) rfl (by kernel_rfl) (by kernel_rfl) (by kernel_rfl) (fun _ _ _ h => h) (Or.inl ⟨by rfl, ?_⟩) (by assumption) ?_
          rotate_left
          · (intro w hSw; obtain ⟨hS1, hS2, hS3⟩ := hSw; have y0 := hS1.cell 0; have y1 := hS1.cell 1; have y2 := hS1.cell 2; have y3 := hS1.cell 3; have y4 := hS1.cell 4; simp only [jD, jE, jF] at y0 y1 y2 y3 y4; go_simp; try with_reducible rfl)
          try simp only [Act.put, jA, jB, jC]
          refine wpAnyH_take (i := 8) (oi := ⟨some 23, _, _, _, _, _⟩) (v := ?_) rfl (by kernel_rfl) (by kernel_rfl) (by kernel_rfl) (fun _ _ _ h => h) (Or.inl ⟨by rfl, ?_⟩) (by assumption) ?_
          rotate_left
          · (intro w hSw; obtain ⟨hS1, hS2, hS3⟩ := hSw; have y0 := hS1.cell 0; have y1 := hS1.cell 1; have y2 := hS1.cell 2; have y3 := hS1.cell 3; have y4 := hS1.cell 4; simp only [jD, jE, jF] at y0 y1 y2 y3 y4; go_simp; try with_reducible rfl)
          try simp only [Act.put, jA, jB, jC]
          refine wpAnyH_take (i := 9) (oi := ⟨some 24, _, _, _, _, _⟩) (v := ?_) rfl (by kernel_rfl) (by kernel_rfl) (by kernel_rfl) (fun _ _ _ h => h) (Or.inl ⟨by rfl, ?_⟩) (by assumption) ?_
          rotate_left
          · (intro w hSw; obtain ⟨hS1, hS2, hS3⟩ := hSw; have y0 := hS1.cell 0; have y1 := hS1.cell 1; have y2 := hS1.cell 2; have y3 := hS1.cell 3; have y4 := hS1.cell 4; simp only [jD, jE, jF] at y0 y1 y2 y3 y4; go_simp; try with_reducible rfl)
          try simp only [Act.put, jA, jB, jC]
          refine wpAnyH_ready (rs := [10]) (by kernel_rfl) (by simp) ?_
          refine AllReadyH.cons (o := ⟨some 6, _, _, _, _, _⟩) rfl (fun K hK => ?_) AllReadyH.nil
          go_simp
          have HS2 := hide ((HS.out.below HBY.out).below ((Below.refl v2.heap.size v2).alloc (Nat.le_refl _) (.cells #[.slice none 0 0, .slice none 0 0, .slice none 0 0, .slice none 0 0, .bool false] 38)))
          have Lz := hide (Lies.new v2 #[.slice none 0 0, .slice none 0 0, .slice none 0 0, .slice none 0 0, .bool false] 38)
          have hsz : X.heap.size ≤ v2.heap.size := HBY.out.size
          obtain ⟨nb, hnb⟩ : ∃ n, n = v2.heap.size := ⟨_, rfl⟩
          rw [← hnb] at Lz hsz
          have hqn : q ≠ nb := by omega
          have hbn : b ≠ nb := by omega
          have HN := hide (RunN.mk' (p5 := p5) (s5 := s5) (ok := ok) (r := stepShp s o) (lo := X.heap.size) HS2.out Lz.out (HS.out.own.off (.inr hsz)) (by have := HS.out.h2; have := HBw.out.size; omega) hqn (by omega) hqX hqX2 (fun t ht => by
            obtain ⟨g1, g2, g3, g4⟩ := HG2.out t ht
            exact ⟨g1, g2, g3.alloc _, g3.off (.inr (by omega))⟩) HN2.out)
          refine hK.out _ _ ?_ (fun hH => ?_)
          · exact hHeld.below ((Below.refl v2.heap.size v2).alloc (Nat.le_refl _) _) (by omega) (by omega)
          clear hK K hHeld
          have hHeld := hH
          clear hH
          try simp only [Act.put, jA, jB, jC]
          generalize v2.alloc (.cells #[.slice none 0 0, .slice none 0 0, .slice none 0 0, .slice none 0 0, .bool false] 38) = Y at HS2 Lz HN hHeld ⊢
          rw [← hnb]
          clear hnb
          refine wpAnyH_ready (rs := [11]) (by kernel_rfl) (by simp) ?_
          refine AllReadyH.cons (o := ⟨none, _, _, _, _, _⟩) rfl (fun K hK => ?_) AllReadyH.nil
          obtain ⟨⟨c0, c1, c2, c3, c4, f0, f1, f2, f3, f4, t0, t1, t2, t3, t4⟩, _⟩ := Lies.set5 Lz.out (.slice p5.K s5.kinds.length p5.c1) (.slice p5.F s5.full.length p5.c2) (.slice p5.S s5.stack.length p5.c3) (.slice p5.M s5.memo.length p5.c4) (.bool s5.done)
          go_simp
          refine hK.out _ _ ?_ (fun hH => ?_)
          · exact (hHeld.set5 hqn hbn : _)
          clear hK K hHeld
          have hHeld := hH
          clear hH
          try simp only [Act.put, jA, jB, jC]
          refine wpAnyH_ready (rs := [12]) (by kernel_rfl) (by simp) ?_
          refine AllReadyH.cons (o := ⟨some 7, _, _, _, _, _⟩) rfl (fun K hK => ?_) AllReadyH.nil
          go_simp
          refine hK.out _ _ ?_ (fun hH => ?_)
          · exact hHeld
          clear hK K hHeld
          have hHeld := hH
          clear hH
          try simp only [Act.put, jA, jB, jC]
          refine wpAnyH_done (by kernel_rfl) ?_ _
          have HN5 : Hid (RunN w (((((Y.setCell ⟨nb, 0, none⟩ (.slice p5.K s5.kinds.length p5.c1)).setCell ⟨nb, 1, none⟩ (.slice p5.F s5.full.length p5.c2)).setCell ⟨nb, 2, none⟩ (.slice p5.S s5.stack.length p5.c3)).setCell ⟨nb, 3, none⟩ (.slice p5.M s5.memo.length p5.c4)).setCell ⟨nb, 4, none⟩ (.bool s5.done)) q q2 p s nb p5 s5 ok (stepShp s o)) := HN
          clear hHeld HN c0 c1 c2 c3 c4 f0 f1 f2 f3 f4 t0 t1 t2 t3 t4
          generalize (((((Y.setCell ⟨nb, 0, none⟩ (.slice p5.K s5.kinds.length p5.c1)).setCell ⟨nb, 1, none⟩ (.slice p5.F s5.full.length p5.c2)).setCell ⟨nb, 2, none⟩ (.slice p5.S s5.stack.length p5.c3)).setCell ⟨nb, 3, none⟩ (.slice p5.M s5.memo.length p5.c4)).setCell ⟨nb, 4, none⟩ (.bool s5.done)) = Yf at HN5 ⊢
          clear Lz HS2
          cases hr : stepShp s o with
          | none =>
            have HB := hide (HN5.out.bad hr)
            obtain rfl := HB.out
            have HRe := hide (show R = (s, k) from by rw [HRk.out, drop_at Hx.out, runShp_stop hr]; simp)
            have HU := hide HN5.out.run
            clear hr
            have b0 := HU.out.box.cell 0
            have b1 := HU.out.box.cell 1
            have b2 := HU.out.box.cell 2
            have b3 := HU.out.box.cell 3
            have b4 := HU.out.box.cell 4
            simp only [shCells, jD, jE, jF] at b0 b1 b2 b3 b4
            obtain ⟨⟨c0, c1, c2, c3, c4, f0, f1, f2, f3, f4, t0, t1, t2, t3, t4⟩, _⟩ := Lies.set5 (show Lies Yf q2 #[.slice none 0 0, .slice none 0 0, .slice none 0 0, .slice none 0 0, .bool false] 38 from HU.out.res) (.slice p.K s.kinds.length p.c1) (.slice p.F s.full.length p.c2) (.slice p.S s.stack.length p.c3) (.slice p.M s.memo.length p.c4) (.bool s.done)
            have HF : Hid (GivesRun w (s, k) (.returned (.tuple #[shVal p s, .int .i64 (k : Int)])) (((((Yf.setCell ⟨q2, 0, none⟩ (.slice p.K s.kinds.length p.c1)).setCell ⟨q2, 1, none⟩ (.slice p.F s.full.length p.c2)).setCell ⟨q2, 2, none⟩ (.slice p.S s.stack.length p.c3)).setCell ⟨q2, 3, none⟩ (.slice p.M s.memo.length p.c4)).setCell ⟨q2, 4, none⟩ (.bool s.done))) := hide ⟨p, rfl, HU.out.own.set5 HU.out.off2, set5_below HU.out.bel HU.out.h2⟩
            go_wp2
            refine bodyPost_ret (v := .tuple #[shVal p s, .int .i64 (k : Int)]) (by simp [shVal, shCells, results, Tryd.results17, go_sem, t0, t1, t2, t3, t4]) rfl ?_
            rw [HRe.out]
            exact HF.out
          | some t =>
            obtain ⟨hok1, hst, lo, hot, hql, hql2⟩ := HN5.out.good t hr
            subst hok1 hst
            have HT := hide hr
            have HU := hide HN5.out.run
            have HOt := hide hot
            have HBx := hide HN5.out.box
            clear hr hot
            have b0 := HBx.out.cell 0
            have b1 := HBx.out.cell 1
            have b2 := HBx.out.cell 2
            have b3 := HBx.out.cell 3
            have b4 := HBx.out.cell 4
            simp only [shCells, jD, jE, jF] at b0 b1 b2 b3 b4
            obtain ⟨⟨c0, c1, c2, c3, c4, f0, f1, f2, f3, f4, t0, t1, t2, t3, t4⟩, _⟩ := Lies.set5 (show Lies Yf q #[.slice p.K s.kinds.length p.c1, .slice p.F s.full.length p.c2, .slice p.S s.stack.length p.c3, .slice p.M s.memo.length p.c4, .bool s.done] 38 from HU.out.box) (.slice p5.K s5.kinds.length p5.c1) (.slice p5.F s5.full.length p5.c2) (.slice p5.S s5.stack.length p5.c3) (.slice p5.M s5.memo.length p5.c4) (.bool s5.done)
            have HF : Hid (RunS w (((((Yf.setCell ⟨q, 0, none⟩ (.slice p5.K s5.kinds.length p5.c1)).setCell ⟨q, 1, none⟩ (.slice p5.F s5.full.length p5.c2)).setCell ⟨q, 2, none⟩ (.slice p5.S s5.stack.length p5.c3)).setCell ⟨q, 3, none⟩ (.slice p5.M s5.memo.length p5.c4)).setCell ⟨q, 4, none⟩ (.bool s5.done)) q q2 p5 s5) := hide (HU.out.next HOt.out hql hql2)
            clear t0 t1 t2 t3 t4
            go_wp2
            go_roundg (os.length - (k + 1))
            case measure => omega
            case rel =>
              have hk5 := stepShp_ok HsO.out HT.out (HO.out.get)
              exact ⟨k + 1, p5, s5, by omega, rfl, by go_num, HF.out, hk5.1, hk5.2, by rw [HRk.out, drop_at Hx.out, runShp_go HT.out]; simp; omega⟩
        refine AllReadyH.cons (o := ⟨some 6, _, _, _, _, _⟩) rfl (fun K hK => ?_) AllReadyH.nil
        go_simp
        obtain ⟨nb, hnb⟩ : ∃ n, n = v1.heap.size := ⟨_, rfl⟩
        have Lz0 := Lies.new v1 #[.slice none 0 0, .slice none 0 0, .slice none 0 0, .slice none 0 0, .bool false] 38
        rw [← hnb] at Lz0
        have hsz : X.heap.size ≤ nb := by have := HBX.out.size; omega
        have hpc : pc.Off nb := HC.out.off (.inr (by omega))
        replace HC := hide (HC.out.alloc (.cells #[.slice none 0 0, .slice none 0 0, .slice none 0 0, .slice none 0 0, .bool false] 38))
        replace HBX := hide (HBX.out.alloc HBX.out.size (.cells #[.slice none 0 0, .slice none 0 0, .slice none 0 0, .slice none 0 0, .bool false] 38))
        refine hK.out _ _ ?_ (fun hH => ?_)
        · exact hHeld.below ((Below.refl v1.heap.size v1).alloc (Nat.le_refl _) _) (by omega) (by omega)
        clear hK K hHeld
        have hHeld := hH
        clear hH
        try simp only [Act.put, jA, jB, jC]
        have hnz := Lz0.lt
        generalize v1.alloc (.cells #[.slice none 0 0, .slice none 0 0, .slice none 0 0, .slice none 0 0, .bool false] 38) = Z at HC HBX Lz0 hnz hHeld ⊢
        rw [← hnb]
        clear hnb
        refine wpAnyH_ready (rs := [6]) (by kernel_rfl) (by simp) ?_
        refine AllReadyH.cons (o := ⟨some 22, _, _, _, _, _⟩) rfl (fun K hK => ?_) AllReadyH.nil
        go_simp
        go_at_call 33
        refine (stepShapes_any pc s o X.heap.size Z HC.out HBX.out.size Hsm.out HO.out).mono ?_
        rintro e v2 ⟨p5, s5, ok, rfl, hb2, hfr2, hg2, hn2⟩
        have HB2 := hide hb2
        have HG2 := hide hg2
        have HN2 := hide hn2
        have HFr := hide hfr2
        have HBY := hide (HBX.out.trans hb2)
        clear hb2 hg2 hn2 hfr2
        simp only [shVal, shCells]
        refine hK.out _ _ ?_ (fun hH => ?_)
        · exact hHeld.below HB2.out hqX hbX
        clear hK K hHeld
        have hHeld := hH
        clear hH
        try simp only [Act.put, jA, jB, jC]
        refine wpAnyH_take (i := 7) (oi := ⟨some 15, _, _, _, _, _⟩) (v := ?_) rfl (by kernel_rfl) (by kernel_rfl) (by kernel_rfl) (fun _ _ _ h => h) (Or.inl ⟨by rfl, ?_⟩) (by assumption) ?_
        rotate_left
        · (intro w hSw; obtain ⟨hS1, hS2, hS3⟩ := hSw; have y0 := hS1.cell 0; have y1 := hS1.cell 1; have y2 := hS1.cell 2; have y3 := hS1.cell 3; have y4 := hS1.cell 4; simp only [jD, jE, jF] at y0 y1 y2 y3 y4; go_simp; try with_reducible rfl)
        try simp only [Act.put, jA, jB, jC]
        refine wpAnyH_take (i := 8) (oi := ⟨some 23, _, _, _, _, _⟩) (v := ?_) rfl (by kernel_rfl) (by kernel_rfl) (by kernel_rfl) (fun _ _ _ h => h) (Or.inl ⟨by rfl, ?_⟩) (by assumption) ?_
        rotate_left
        · (intro w hSw; obtain ⟨hS1, hS2, hS3⟩ := hSw; have y0 := hS1.cell 0; have y1 := hS1.cell 1; have y2 := hS1.cell 2; have y3 := hS1.cell 3; have y4 := hS1.cell 4; simp only [jD, jE, jF] at y0 y1 y2 y3 y4; go_simp; try with_reducible rfl)
        try simp only [Act.put, jA, jB, jC]
        refine wpAnyH_take (i := 9) (oi := ⟨some 24, _, _, _, _, _⟩) (v := ?_) rfl (by kernel_rfl) (by kernel_rfl) (by kernel_rfl) (fun _ _ _ h => h) (Or.inl ⟨by rfl, ?_⟩) (by assumption) ?_
        rotate_left
        · (intro w hSw; obtain ⟨hS1, hS2, hS3⟩ := hSw; have y0 := hS1.cell 0; have y1 := hS1.cell 1; have y2 := hS1.cell 2; have y3 := hS1.cell 3; have y4 := hS1.cell 4; simp only [jD, jE, jF] at y0 y1 y2 y3 y4; go_simp; try with_reducible rfl)
        try simp only [Act.put, jA, jB, jC]
        have HS2 := hide (HS.out.below HBY.out)
        have Lz := hide ((HFr.out nb hnz hpc).trans Lz0)
        replace Lz := hide (show Lies v2 nb #[.slice none 0 0, .slice none 0 0, .slice none 0 0, .slice none 0 0, .bool false] 38 from Lz.out)
        have hszv : X.heap.size ≤ v2.heap.size := HBY.out.size
        have hqn : q ≠ nb := by omega
        have hbn : b ≠ nb := by omega
        have HN := hide (RunN.mk' (p5 := p5) (s5 := s5) (ok := ok) (r := stepShp s o) (lo := X.heap.size) HS2.out Lz.out (HS.out.own.off (.inr hsz)) (by have := HS.out.h2; have := HBw.out.size; omega) hqn (by omega) hqX hqX2 (fun t ht => by
          obtain ⟨g1, g2, g3, g4⟩ := HG2.out t ht
          exact ⟨g1, g2, g3, g4 nb hnz hpc⟩) HN2.out)
        clear Lz0 hnz hpc
        generalize v2 = Y at HS2 Lz HN hHeld ⊢
        refine wpAnyH_ready (rs := [11]) (by kernel_rfl) (by simp) ?_
        refine AllReadyH.cons (o := ⟨none, _, _, _, _, _⟩) rfl (fun K hK => ?_) AllReadyH.nil
        obtain ⟨⟨c0, c1, c2, c3, c4, f0, f1, f2, f3, f4, t0, t1, t2, t3, t4⟩, _⟩ := Lies.set5 Lz.out (.slice p5.K s5.kinds.length p5.c1) (.slice p5.F s5.full.length p5.c2) (.slice p5.S s5.stack.length p5.c3) (.slice p5.M s5.memo.length p5.c4) (.bool s5.done)
        go_simp
        refine hK.out _ _ ?_ (fun hH => ?_)
        · exact (hHeld.set5 hqn hbn : _)
        clear hK K hHeld
        have hHeld := hH
        clear hH
        try simp only [Act.put, jA, jB, jC]
        refine wpAnyH_ready (rs := [12]) (by kernel_rfl) (by simp) ?_
        refine AllReadyH.cons (o := ⟨some 7, _, _, _, _, _⟩) rfl (fun K hK => ?_) AllReadyH.nil
        go_simp
        refine hK.out _ _ ?_ (fun hH => ?_)
        · exact hHeld
        clear hK K hHeld
        have hHeld := hH
        clear hH
        try simp only [Act.put, jA, jB, jC]
        refine wpAnyH_done (by kernel_rfl) ?_ _
        have HN5 : Hid (RunN w (((((Y.setCell ⟨nb, 0, none⟩ (.slice p5.K s5.kinds.length p5.c1)).setCell ⟨nb, 1, none⟩ (.slice p5.F s5.full.length p5.c2)).setCell ⟨nb, 2, none⟩ (.slice p5.S s5.stack.length p5.c3)).setCell ⟨nb, 3, none⟩ (.slice p5.M s5.memo.length p5.c4)).setCell ⟨nb, 4, none⟩ (.bool s5.done)) q q2 p s nb p5 s5 ok (stepShp s o)) := HN
        clear hHeld HN c0 c1 c2 c3 c4 f0 f1 f2 f3 f4 t0 t1 t2 t3 t4
        generalize (((((Y.setCell ⟨nb, 0, none⟩ (.slice p5.K s5.kinds.length p5.c1)).setCell ⟨nb, 1, none⟩ (.slice p5.F s5.full.length p5.c2)).setCell ⟨nb, 2, none⟩ (.slice p5.S s5.stack.length p5.c3)).setCell ⟨nb, 3, none⟩ (.slice p5.M s5.memo.length p5.c4)).setCell ⟨nb, 4, none⟩ (.bool s5.done)) = Yf at HN5 ⊢
        clear Lz HS2
        cases hr : stepShp s o with
        | none =>
          have HB := hide (HN5.out.bad hr)
          obtain rfl := HB.out
          have HRe := hide (show R = (s, k) from by rw [HRk.out, drop_at Hx.out, runShp_stop hr]; simp)
          have HU := hide HN5.out.run
          clear hr
          have b0 := HU.out.box.cell 0
          have b1 := HU.out.box.cell 1
          have b2 := HU.out.box.cell 2
          have b3 := HU.out.box.cell 3
          have b4 := HU.out.box.cell 4
          simp only [shCells, jD, jE, jF] at b0 b1 b2 b3 b4
          obtain ⟨⟨c0, c1, c2, c3, c4, f0, f1, f2, f3, f4, t0, t1, t2, t3, t4⟩, _⟩ := Lies.set5 (show Lies Yf q2 #[.slice none 0 0, .slice none 0 0, .slice none 0 0, .slice none 0 0, .bool false] 38 from HU.out.res) (.slice p.K s.kinds.length p.c1) (.slice p.F s.full.length p.c2) (.slice p.S s.stack.length p.c3) (.slice p.M s.memo.length p.c4) (.bool s.done)
          have HF : Hid (GivesRun w (s, k) (.returned (.tuple #[shVal p s, .int .i64 (k : Int)])) (((((Yf.setCell ⟨q2, 0, none⟩ (.slice p.K s.kinds.length p.c1)).setCell ⟨q2, 1, none⟩ (.slice p.F s.full.length p.c2)).setCell ⟨q2, 2, none⟩ (.slice p.S s.stack.length p.c3)).setCell ⟨q2, 3, none⟩ (.slice p.M s.memo.length p.c4)).setCell ⟨q2, 4, none⟩ (.bool s.done))) := hide ⟨p, rfl, HU.out.own.set5 HU.out.off2, set5_below HU.out.bel HU.out.h2⟩
          go_wp2
          refine bodyPost_ret (v := .tuple #[shVal p s, .int .i64 (k : Int)]) (by simp [shVal, shCells, results, Tryd.results17, go_sem, t0, t1, t2, t3, t4]) rfl ?_
          rw [HRe.out]
          exact HF.out
        | some t =>
          obtain ⟨hok1, hst, lo, hot, hql, hql2⟩ := HN5.out.good t hr
          subst hok1 hst
          have HT := hide hr
          have HU := hide HN5.out.run
          have HOt := hide hot
          have HBx := hide HN5.out.box
          clear hr hot
          have b0 := HBx.out.cell 0
          have b1 := HBx.out.cell 1
          have b2 := HBx.out.cell 2
          have b3 := HBx.out.cell 3
          have b4 := HBx.out.cell 4
          simp only [shCells, jD, jE, jF] at b0 b1 b2 b3 b4
          obtain ⟨⟨c0, c1, c2, c3, c4, f0, f1, f2, f3, f4, t0, t1, t2, t3, t4⟩, _⟩ := Lies.set5 (show Lies Yf q #[.slice p.K s.kinds.length p.c1, .slice p.F s.full.length p.c2, .slice p.S s.stack.length p.c3, .slice p.M s.memo.length p.c4, .bool s.done] 38 from HU.out.box) (.slice p5.K s5.kinds.length p5.c1) (.slice p5.F s5.full.length p5.c2) (.slice p5.S s5.stack.length p5.c3) (.slice p5.M s5.memo.length p5.c4) (.bool s5.done)
          have HF : Hid (RunS w (((((Yf.setCell ⟨q, 0, none⟩ (.slice p5.K s5.kinds.length p5.c1)).setCell ⟨q, 1, none⟩ (.slice p5.F s5.full.length p5.c2)).setCell ⟨q, 2, none⟩ (.slice p5.S s5.stack.length p5.c3)).setCell ⟨q, 3, none⟩ (.slice p5.M s5.memo.length p5.c4)).setCell ⟨q, 4, none⟩ (.bool s5.done)) q q2 p5 s5) := hide (HU.out.next HOt.out hql hql2)
          clear t0 t1 t2 t3 t4
          go_wp2
          go_roundg (os.length - (k + 1))
          case measure => omega
          case rel =>
            have hk5 := stepShp_ok HsO.out HT.out (HO.out.get)
            exact ⟨k + 1, p5, s5, by omega, rfl, by go_num, HF.out, hk5.1, hk5.2, by rw [HRk.out, drop_at Hx.out, runShp_go HT.out]; simp; omega⟩
      refine AllReadyH.cons (o := ⟨some 6, _, _, _, _, _⟩) rfl (fun K hK => ?_) AllReadyH.nil
      go_simp
      obtain ⟨nb, hnb⟩ : ∃ n, n = X.heap.size := ⟨_, rfl⟩
      have Lz0 := Lies.new X #[.slice none 0 0, .slice none 0 0, .slice none 0 0, .slice none 0 0, .bool false] 38
      rw [← hnb] at Lz0
      have hqX0 : q < nb := by have := HS.out.box.lt; omega
      have hqX20 : q2 < nb := by have := HS.out.res.lt; omega
      have hbX0 : b < nb := by have := HBw.out.size; omega
      have hpo : p.Off nb := HS.out.own.off (.inr (by omega))
      have hwn : w.heap.size ≤ nb := by have := HBw.out.size; omega
      have hXa := (Below.refl X.heap.size X).alloc (Nat.le_refl _) (.cells #[.slice none 0 0, .slice none 0 0, .slice none 0 0, .slice none 0 0, .bool false] 38)
      replace HS := hide (HS.out.below hXa)
      replace HBw := hide (HBw.out.trans (hXa.mono HBw.out.size))
      refine hK.out _ _ ?_ (fun hH => ?_)
      · exact hHeld.below hXa (by omega) (by omega)
      clear hK K hHeld
      have hHeld := hH
      clear hH
      try simp only [Act.put, jA, jB, jC]
      have hnz := Lz0.lt
      clear hXa
      generalize X.alloc (.cells #[.slice none 0 0, .slice none 0 0, .slice none 0 0, .slice none 0 0, .bool false] 38) = Xa at HS HBw Lz0 hnz hHeld ⊢
      rw [← hnb]
      clear hnb
      refine wpAnyH_ready (rs := [1]) (by kernel_rfl) (by simp) ?_
      refine AllReadyH.cons (o := ⟨some 17, _, _, _, _, _⟩) rfl (fun K hK => ?_) AllReadyH.nil
      go_simp
      go_at_call 34
      refine (copyShapes_any p s Xa (HS.out.own.at_ Hsm.out) (by omega) (by omega) (by omega) (by omega)).mono ?_
      rintro e v1 ⟨pc, rfl, hoc, hbn⟩
      have hqX : q < Xa.heap.size := HS.out.box.lt
      have hqX2 : q2 < Xa.heap.size := HS.out.res.lt
      have hbX : b < Xa.heap.size := Nat.lt_of_lt_of_le hbl HBw.out.size
      have HBX := hide hbn
      have HC := hide hoc
      clear hoc hbn
      simp only [shVal, shCells]
      refine hK.out _ _ ?_ (fun hH => ?_)
      · exact hHeld.below HBX.out hqX hbX
      clear hK K hHeld
      have hHeld := hH
      clear hH
      try simp only [Act.put, jA, jB, jC]
      refine wpAnyH_ready (rs := [6]) (by kernel_rfl) (by simp) ?_
      refine AllReadyH.cons (o := ⟨some 22, _, _, _, _, _⟩) rfl (fun K hK => ?_) AllReadyH.nil
      go_simp
      go_at_call 33
      refine (stepShapes_any pc s o Xa.heap.size v1 HC.out HBX.out.size Hsm.out HO.out).mono ?_
      rintro e v2 ⟨p5, s5, ok, rfl, hb2, hfr2, hg2, hn2⟩
      have HB2 := hide hb2
      have HG2 := hide hg2
      have HN2 := hide hn2
      have HFr := hide hfr2
      have HBY := hide (HBX.out.trans hb2)
      clear hb2 hg2 hn2 hfr2
      simp only [shVal, shCells]
      refine hK.out _ _ ?_ (fun hH => ?_)
      · exact hHeld.below HB2.out hqX hbX
      clear hK K hHeld
      have hHeld := hH
      clear hH
      try simp only [Act.put, jA, jB, jC]
      refine wpAnyH_take (i := 7) (oi := ⟨some 15, _, _, _, _, _⟩) (v := ?_) rfl (by kernel_rfl) (by kernel_rfl) (by kernel_rfl) (fun _ _ _ h => h) (Or.inl ⟨by rfl, ?_⟩) (by assumption) ?_
      rotate_left
      · (intro w hSw; obtain ⟨hS1, hS2, hS3⟩ := hSw; have y0 := hS1.cell 0; have y1 := hS1.cell 1; have y2 := hS1.cell 2; have y3 := hS1.cell 3; have y4 := hS1.cell 4; simp only [jD, jE, jF] at y0 y1 y2 y3 y4; go_simp; try with_reducible rfl)
      try simp only [Act.put, jA, jB, jC]
      refine wpAnyH_take (i := 8) (oi := ⟨some 23, _, _, _, _, _⟩) (v := ?_) rfl (by kernel_rfl) (by kernel_rfl) (by kernel_rfl) (fun _ _ _ h => h) (Or.inl ⟨by rfl, ?_⟩) (by assumption) ?_
      rotate_left
      · (intro w hSw; obtain ⟨hS1, hS2, hS3⟩ := hSw; have y0 := hS1.cell 0; have y1 := hS1.cell 1; have y2 := hS1.cell 2; have y3 := hS1.cell 3; have y4 := hS1.cell 4; simp only [jD, jE, jF] at y0 y1 y2 y3 y4; go_simp; try with_reducible rfl)
      try simp only [Act.put, jA, jB, jC]
      refine wpAnyH_take (i := 9) (oi := ⟨some 24, _, _, _, _, _⟩) (v := ?_) rfl (by kernel_rfl) (by kernel_rfl) (by kernel_rfl) (fun _ _ _ h => h) (Or.inl ⟨by rfl, ?_⟩) (by assumption) ?_
      rotate_left
      · (intro w hSw; obtain ⟨hS1, hS2, hS3⟩ := hSw; have y0 := hS1.cell 0; have y1 := hS1.cell 1; have y2 := hS1.cell 2; have y3 := hS1.cell 3; have y4 := hS1.cell 4; simp only [jD, jE, jF] at y0 y1 y2 y3 y4; go_simp; try with_reducible rfl)
      try simp only [Act.put, jA, jB, jC]
      have HS2 := hide (HS.out.below HBY.out)
      have Lz := hide (Lz0.below HBY.out hnz)
      have hqn : q ≠ nb := by omega
      have hbn : b ≠ nb := by omega
      have HN := hide (RunN.mk' (p5 := p5) (s5 := s5) (ok := ok) (r := stepShp s o) (lo := Xa.heap.size) HS2.out Lz.out hpo hwn hqn (by omega) hqX hqX2 (fun t ht => by
        obtain ⟨g1, g2, g3, g4⟩ := HG2.out t ht
        exact ⟨g1, g2, g3, g3.off (.inl hnz)⟩) HN2.out)
      clear Lz0 hnz
      generalize v2 = Y at HS2 Lz HN hHeld ⊢
      refine wpAnyH_ready (rs := [11]) (by kernel_rfl) (by simp) ?_
      refine AllReadyH.cons (o := ⟨none, _, _, _, _, _⟩) rfl (fun K hK => ?_) AllReadyH.nil
      obtain ⟨⟨c0, c1, c2, c3, c4, f0, f1, f2, f3, f4, t0, t1, t2, t3, t4⟩, _⟩ := Lies.set5 Lz.out (.slice p5.K s5.kinds.length p5.c1) (.slice p5.F s5.full.length p5.c2) (.slice p5.S s5.stack.length p5.c3) (.slice p5.M s5.memo.length p5.c4) (.bool s5.done)
      go_simp
      refine hK.out _ _ ?_ (fun hH => ?_)
      · exact (hHeld.set5 hqn hbn : _)
      clear hK K hHeld
      have hHeld := hH
      clear hH
      try simp only [Act.put, jA, jB, jC]
      refine wpAnyH_ready (rs := [12]) (by kernel_rfl) (by simp) ?_
      refine AllReadyH.cons (o := ⟨some 7, _, _, _, _, _⟩) rfl (fun K hK => ?_) AllReadyH.nil
      go_simp
      refine hK.out _ _ ?_ (fun hH => ?_)
      · exact hHeld
      clear hK K hHeld
      have hHeld := hH
      clear hH
      try simp only [Act.put, jA, jB, jC]
      refine wpAnyH_done (by kernel_rfl) ?_ _
      have HN5 : Hid (RunN w (((((Y.setCell ⟨nb, 0, none⟩ (.slice p5.K s5.kinds.length p5.c1)).setCell ⟨nb, 1, none⟩ (.slice p5.F s5.full.length p5.c2)).setCell ⟨nb, 2, none⟩ (.slice p5.S s5.stack.length p5.c3)).setCell ⟨nb, 3, none⟩ (.slice p5.M s5.memo.length p5.c4)).setCell ⟨nb, 4, none⟩ (.bool s5.done)) q q2 p s nb p5 s5 ok (stepShp s o)) := HN
      clear hHeld HN c0 c1 c2 c3 c4 f0 f1 f2 f3 f4 t0 t1 t2 t3 t4
      generalize (((((Y.setCell ⟨nb, 0, none⟩ (.slice p5.K s5.kinds.length p5.c1)).setCell ⟨nb, 1, none⟩ (.slice p5.F s5.full.length p5.c2)).setCell ⟨nb, 2, none⟩ (.slice p5.S s5.stack.length p5.c3)).setCell ⟨nb, 3, none⟩ (.slice p5.M s5.memo.length p5.c4)).setCell ⟨nb, 4, none⟩ (.bool s5.done)) = Yf at HN5 ⊢
      clear Lz HS2
      cases hr : stepShp s o with
      | none =>
        have HB := hide (HN5.out.bad hr)
        obtain rfl := HB.out
        have HRe := hide (show R = (s, k) from by rw [HRk.out, drop_at Hx.out, runShp_stop hr]; simp)
        have HU := hide HN5.out.run
        clear hr
        have b0 := HU.out.box.cell 0
        have b1 := HU.out.box.cell 1
        have b2 := HU.out.box.cell 2
        have b3 := HU.out.box.cell 3
        have b4 := HU.out.box.cell 4
        simp only [shCells, jD, jE, jF] at b0 b1 b2 b3 b4
        obtain ⟨⟨c0, c1, c2, c3, c4, f0, f1, f2, f3, f4, t0, t1, t2, t3, t4⟩, _⟩ := Lies.set5 (show Lies Yf q2 #[.slice none 0 0, .slice none 0 0, .slice none 0 0, .slice none 0 0, .bool false] 38 from HU.out.res) (.slice p.K s.kinds.length p.c1) (.slice p.F s.full.length p.c2) (.slice p.S s.stack.length p.c3) (.slice p.M s.memo.length p.c4) (.bool s.done)
        have HF : Hid (GivesRun w (s, k) (.returned (.tuple #[shVal p s, .int .i64 (k : Int)])) (((((Yf.setCell ⟨q2, 0, none⟩ (.slice p.K s.kinds.length p.c1)).setCell ⟨q2, 1, none⟩ (.slice p.F s.full.length p.c2)).setCell ⟨q2, 2, none⟩ (.slice p.S s.stack.length p.c3)).setCell ⟨q2, 3, none⟩ (.slice p.M s.memo.length p.c4)).setCell ⟨q2, 4, none⟩ (.bool s.done))) := hide ⟨p, rfl, HU.out.own.set5 HU.out.off2, set5_below HU.out.bel HU.out.h2⟩
        go_wp2
        refine bodyPost_ret (v := .tuple #[shVal p s, .int .i64 (k : Int)]) (by simp [shVal, shCells, results, Tryd.results17, go_sem, t0, t1, t2, t3, t4]) rfl ?_
        rw [HRe.out]
        exact HF.out
      | some t =>
        obtain ⟨hok1, hst, lo, hot, hql, hql2⟩ := HN5.out.good t hr
        subst hok1 hst
        have HT := hide hr
        have HU := hide HN5.out.run
        have HOt := hide hot
        have HBx := hide HN5.out.box
        clear hr hot
        have b0 := HBx.out.cell 0
        have b1 := HBx.out.cell 1
        have b2 := HBx.out.cell 2
        have b3 := HBx.out.cell 3
        have b4 := HBx.out.cell 4
        simp only [shCells, jD, jE, jF] at b0 b1 b2 b3 b4
        obtain ⟨⟨c0, c1, c2, c3, c4, f0, f1, f2, f3, f4, t0, t1, t2, t3, t4⟩, _⟩ := Lies.set5 (show Lies Yf q #[.slice p.K s.kinds.length p.c1, .slice p.F s.full.length p.c2, .slice p.S s.stack.length p.c3, .slice p.M s.memo.length p.c4, .bool s.done] 38 from HU.out.box) (.slice p5.K s5.kinds.length p5.c1) (.slice p5.F s5.full.length p5.c2) (.slice p5.S s5.stack.length p5.c3) (.slice p5.M s5.memo.length p5.c4) (.bool s5.done)
        have HF : Hid (RunS w (((((Yf.setCell ⟨q, 0, none⟩ (.slice p5.K s5.kinds.length p5.c1)).setCell ⟨q, 1, none⟩ (.slice p5.F s5.full.length p5.c2)).setCell ⟨q, 2, none⟩ (.slice p5.S s5.stack.length p5.c3)).setCell ⟨q, 3, none⟩ (.slice p5.M s5.memo.length p5.c4)).setCell ⟨q, 4, none⟩ (.bool s5.done)) q q2 p5 s5) := hide (HU.out.next HOt.out hql hql2)
        clear t0 t1 t2 t3 t4
        go_wp2
        go_roundg (os.length - (k + 1))
        case measure => omega
        case rel =>
          have hk5 := stepShp_ok HsO.out HT.out (HO.out.get)
          exact ⟨k + 1, p5, s5, by omega, rfl, by go_num, HF.out, hk5.1, hk5.2, by rw [HRk.out, drop_at Hx.out, runShp_go HT.out]; simp; omega⟩
    · obtain rfl : k = os.length := by omega
      clear hlt
      have HRe := hide (show R = (s, os.length) from by rw [HRk.out, List.drop_eq_nil_of_le (Nat.le_refl _), runShp_end]; simp)
      have HU := hide hS
      clear hS
      have b0 := HU.out.box.cell 0
      have b1 := HU.out.box.cell 1
      have b2 := HU.out.box.cell 2
      have b3 := HU.out.box.cell 3
      have b4 := HU.out.box.cell 4
      simp only [shCells, jD, jE, jF] at b0 b1 b2 b3 b4
      obtain ⟨⟨c0, c1, c2, c3, c4, f0, f1, f2, f3, f4, t0, t1, t2, t3, t4⟩, _⟩ := Lies.set5 (show Lies wr q2 #[.slice none 0 0, .slice none 0 0, .slice none 0 0, .slice none 0 0, .bool false] 38 from HU.out.res) (.slice p.K s.kinds.length p.c1) (.slice p.F s.full.length p.c2) (.slice p.S s.stack.length p.c3) (.slice p.M s.memo.length p.c4) (.bool s.done)
      have HF : Hid (GivesRun w (s, os.length) (.returned (.tuple #[shVal p s, .int .i64 (os.length : Int)])) (((((wr.setCell ⟨q2, 0, none⟩ (.slice p.K s.kinds.length p.c1)).setCell ⟨q2, 1, none⟩ (.slice p.F s.full.length p.c2)).setCell ⟨q2, 2, none⟩ (.slice p.S s.stack.length p.c3)).setCell ⟨q2, 3, none⟩ (.slice p.M s.memo.length p.c4)).setCell ⟨q2, 4, none⟩ (.bool s.done))) := hide ⟨p, rfl, HU.out.own.set5 HU.out.off2, set5_below HU.out.bel HU.out.h2⟩
      go_wp2
      refine bodyPost_ret (v := .tuple #[shVal p s, .int .i64 (os.length : Int)]) (by simp [shVal, shCells, results, Tryd.results17, go_sem, t0, t1, t2, t3, t4]) rfl ?_
      rw [HRe.out]
      exact HF.out
end Go.Proofs.YtbihgafkmmcjlaaDoor
