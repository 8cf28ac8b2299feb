import Derived.Test.YtbihgafkmmcjlaaDoorPjAo
import Derived.Test.YtbihgafkmmcjlaaDoorShpU
import Derived.Test.YtbihgafkmmcjlaaDoorShpC
import Derived.Test.YtbihgafkmmcjlaaDoorPjAd
import Derived.Test.YtbihgafkmmcjlaaDoorEndS
import Derived.Deep.LoopGhost
import Derived.Deep.Cut
import Derived.Deep.RegionHeld3
namespace Go.Proofs.YtbihgafkmmcjlaaDoor
open Go.RowKit
set_option linter.unusedVariables false
def Likely (rb : Nat) (A : Option Addr) (n c p : Nat) (w : World) (e : Ending) (w' : World) : Prop :=
  ∃ (os : List Od) (A' : Option Addr) (c' p' : Nat), e = .returned (.slice A' os.length c') ∧ OwnO w' w.heap.size A' c' os ∧ (∀ o ∈ os, OdOk o) ∧ os.length ≤ 1000 ∧ p' ≤ p + 400 ∧ Rd w' rb A n c p' ∧ Grew rb w w'
theorem OwnO.capLen {w : World} {base : Nat} {A : Option Addr} {c : Nat} {xs : List Od} (h : OwnO w base A c xs) : xs.length ≤ c := by
  rcases h.own with ⟨hl, hh⟩
  rcases hh with ⟨h1, h2⟩ | ⟨g, cap, cur, hv, hg, hh, hle, hm, hs, hx⟩
  · rw [h2]; exact Nat.zero_le _
  · injection hv with _ _ h3
    subst h3
    exact hle
theorem OwnO.nil {w : World} {base : Nat} {A : Option Addr} {c : Nat} {xs : List Od} (h : OwnO w base A c xs) : A = none → c = 0 := by
  intro e
  rcases h.form with ⟨_, h2, _⟩ | ⟨g, h2, _⟩
  · exact h2
  · rw [e] at h2; cases h2
theorem endOf_some {os l : List Od} (h : endOf os = some l) : (∀ o ∈ l, OdOk o) ∧ l.length ≤ 700 := by
  by_cases hok : OpsOk os
  · have hn := runNew_le hok.2
    unfold endOf at h
    rw [if_pos hok] at h
    split at h
    · injection h with h
      subst h
      exact ⟨fun o ho => (by cases ho), by simp⟩
    · split at h
      · injection h with h
        subst h
        have h1 := tailOps_len (runShp Shp.new os).1.stack
        have h2 := hn.2.1.2
        exact ⟨tailOps_mem _, by omega⟩
      · cases h
  · rw [endOf_bad hok] at h
    cases h
set_option maxRecDepth 100000 in
set_option maxHeartbeats 16000000 in
theorem likelyOps_any (rb : Nat) (A : Option Addr) (n c p0 : Nat) (w : World) (h : Rd w rb A n c p0) (hp : p0 < 800000) :
    Calls Tryd.prog 20 #[.pointer (some ⟨rb, 0, none⟩)] w (Likely rb A n c p0 w) := by
  have hlt := h.box.lt
  have hbA := (Below.refl w.heap.size w).alloc (Nat.le_refl _) (.cells #[] 42)
  have HRa := hide (h.below hbA)
  have HOa := hide (OwnO.bare w)
  have HBa := hide hbA
  clear h hbA
  go_enter Tryd.func20, Tryd.ntmps20
  go_upto_region 2 with fail
  generalize w.alloc (.cells #[] 42) = wa at HRa HOa HBa ⊢
  obtain ⟨s0, hs0⟩ : ∃ s, s = Shp.new := ⟨_, rfl⟩
  have HNew := hide (show s0.Ok ∧ s0.Fits from by rw [hs0]; exact ⟨Shp.new_ok, by simp [Shp.Fits, Shp.new]⟩)
  go_wp2_with fail
  have HC := newShapes_any wa
  rw [← hs0] at HC
  clear hs0
  refine HC.mono ?_
  clear HC
  rintro e w1 ⟨p1, rfl, ho1, hb1⟩
  have hzw := HBa.out.size
  have hz1 := hb1.size
  have hb2 := (Below.refl w1.heap.size w1).alloc (Nat.le_refl _) (.cells (shCells p1 s0) 38)
  have HK0 := hide (show LkS w (w1.alloc (.cells (shCells p1 s0) 38)) rb w.heap.size w1.heap.size A n c p0 p1 s0 (some ⟨w.heap.size, 0, none⟩) 0 [] from
    ⟨(Grew.of_below HBa.out).trans ((Grew.of_below hb1).trans (Grew.of_below hb2)), ⟨p0, Nat.le_refl _, (HRa.out.below hb1).below hb2⟩, ⟨Lies.new w1 _ _, (ho1.mono hzw).alloc _, ho1.off (.inr (Nat.le_refl _))⟩, (HOa.out.below hb1).alloc _,
      fun g hg => by
        have hg1 := (HOa.out.blocks g hg).2
        exact ⟨ho1.off (.inl hg1), by omega⟩, Nat.le_refl _, by omega, hlt, HNew.out.1, HNew.out.2, fun o ho => (by cases ho)⟩)
  clear ho1 hb1 hb2 HRa HOa HBa
  simp only [shVal, shCells] at HK0 ⊢
  go_upto_region 3 with fail
  generalize w1.alloc (.cells #[.slice p1.K s0.kinds.length p1.c1, .slice p1.F s0.full.length p1.c2, .slice p1.S s0.stack.length p1.c3, .slice p1.M s0.memo.length p1.c4, .bool s0.done] 38) = w2 at HK0 ⊢
  generalize w1.heap.size = q at HK0 ⊢
  have hb3 := (Below.refl w2.heap.size w2).alloc (Nat.le_refl _) (.cells #[.int .i64 12, .int .i64 8, .int .i64 20, .int .i64 5, .int .i64 30, .int .i64 0] 3)
  have HK3 := hide (HK0.out.below hb3)
  have nl := Lies.new w2 #[.int .i64 12, .int .i64 8, .int .i64 20, .int .i64 5, .int .i64 30, .int .i64 0] 3
  have hrb2 : rb < w2.heap.size := by have := HK0.out.grew.size; omega
  clear hb3 HK0
  go_wp2_with fail
  generalize w2.alloc (.cells #[.int .i64 12, .int .i64 8, .int .i64 20, .int .i64 5, .int .i64 30, .int .i64 0] 3) = w3 at HK3 nl ⊢
  obtain ⟨p3, hp3, hr3⟩ := HK3.out.rd
  refine (one_any rb A n c p3 w2.heap.size 6 6 [12, 8, 20, 5, 30, 0] w3 hr3 (by omega) rfl (by omega) (by omega) (by omega) (fun j z hj => by
    rw [nl.cell]
    have hj5 : j < 6 := (List.getElem?_eq_some_iff.1 hj).1
    rcases (by omega : j = 0 ∨ j = 1 ∨ j = 2 ∨ j = 3 ∨ j = 4 ∨ j = 5) with rfl | rfl | rfl | rfl | rfl | rfl <;> simp at hj ⊢ <;> exact hj)).mono ?_
  rintro e w4 ⟨⟨z, hz, rfl⟩, hr4, ht4⟩
  have hz30 : 0 ≤ z ∧ z ≤ 30 := by simp at hz; omega
  obtain ⟨m0, rfl⟩ := Int.eq_ofNat_of_zero_le hz30.1
  have hm0 : m0 ≤ 30 := by omega
  have HK4 := hide (HK3.out.turned (P' := p0 + 1 + (30 - m0) * 6) (Grew.of_turn ht4) hr4 (by omega))
  clear hz hz30 hr3 hr4 ht4 nl HK3 hp3
  go_wp2_with fail
  go_loopg [3, 5, 6, 7, 8] m0 (fun gk ov nv _ _ _ wr => ∃ (m : Nat) (p : ShPtr) (s : Shp) (Ao : Option Addr) (co : Nat) (acc : List Od), m ≤ 30 ∧ gk = m ∧ nv = .int .i64 (m : Int) ∧ ov = .slice Ao acc.length co ∧ LkS w wr rb w.heap.size q A n c (p0 + 1 + (30 - m) * 6) p s Ao co acc ∧ acc.length ≤ 30 - m)
  case atStart => exact ⟨m0, p1, s0, _, 0, [], hm0, rfl, rfl, rfl, HK4.out, Nat.zero_le _⟩
  case round =>
    clear HK4
    obtain ⟨m, p, s, Ao, co, acc, hm, hgm, rfl, rfl, hK, hal⟩ := hrel
    have hgm2 := hgm.symm
    subst hgm2
    have HKr0 := hide hK
    have Hsm := hide (hK.fit.small hK.ok)
    have HsO := hide hK.ok
    have hf1 := hK.fit.1
    have hf2 := hK.fit.2
    have hf3 : s.full.length ≤ 1000 := by have := hK.ok.fl; omega
    have hf4 : s.memo.length ≤ 1000 := by have := hK.ok.ml; omega
    have hbsz := hK.grew.size
    obtain ⟨p5', hp5', hr5⟩ := hK.rd
    have HR5 := hide hr5
    clear hK hr5
    by_cases hm1 : 0 < m
    · go_wp2_with fail
      refine (someOp_any rb A n c p5' wr HR5.out (by omega)).mono ?_
      rintro e w5 ⟨o, p6, hod, rfl, hp6, hr6, hg6⟩
      have HO := hide hod
      have hb6 := (Below.refl w5.heap.size w5).alloc (Nat.le_refl _) (.cells #[.int .i64 o.code, .int .i64 o.arg] 42)
      have HKr := hide ((HKr0.out.turned (P' := p5' + 4) hg6 hr6 hp6).below hb6)
      have lo := Lies.new w5 #[.int .i64 o.code, .int .i64 o.arg] 42
      have hrbo := hr6.box.lt
      have hqbo : q < w5.heap.size := (HKr0.out.turned (P' := p5' + 4) hg6 hr6 hp6).sb.box.lt
      clear hod hr6 hg6 hb6
      go_upto_region 7 with fail
      have hbo := lo.lt
      generalize w5.alloc (.cells #[.int .i64 o.code, .int .i64 o.arg] 42) = wo at HKr lo hbo ⊢
      generalize w5.heap.size = bo at lo hbo hrbo hqbo ⊢
      have hc0 := lo.cell 0
      have hc1 := lo.cell 1
      simp at hc0 hc1
      by_cases h19 : o.code = 19
      · have t19 : (o.code == 19) = true := by simpa using h19
        clear h19
        have hrd := HKr.out.rd
        obtain ⟨p7, hp7, hr7⟩ := hrd
        have Hr7 := hide hr7
        clear hr7
        go_wp2_with fail
        refine (pick_any rb A n c p7 3 wo Hr7.out (by omega) (by omega)).mono ?_
        rintro e w8 ⟨⟨x, rfl, hx, _⟩, hr8, ht8⟩
        have HK8 := hide (HKr.out.turned (P' := p0 + 1 + (30 - (m - 1)) * 6) (Grew.of_turn ht8) hr8 (by omega))
        by_cases hx0 : 0 < x
        · have hx1 : (0 : Int) < (x : Int) := by omega
          clear hr8 ht8 hx Hr7
          go_wp2
          go_roundg (m - 1)
          case measure => omega
          case rel => exact ⟨m - 1, p, s, Ao, co, acc, by omega, rfl, by rw [show ((m - 1 : Nat) : Int) = (m : Int) - 1 by omega], rfl, HK8.out, by omega⟩
        · have hx1 : ¬ (0 : Int) < (x : Int) := by omega
          have hbrb : bo ≠ rb := by omega
          have hc0' : w8.cell? ⟨bo, 0, none⟩ = some (.int .i64 o.code) := (World.cell?_of_block (w := wo) (ht8.block bo hbrb)).trans hc0
          have hc1' : w8.cell? ⟨bo, 1, none⟩ = some (.int .i64 o.arg) := (World.cell?_of_block (w := wo) (ht8.block bo hbrb)).trans hc1
          have hbo' : bo < w8.heap.size := by rw [ht8.size]; exact hbo
          have HKr' := hide (HKr.out.turned (P' := p5' + 5) (Grew.of_turn ht8) hr8 (by omega))
          clear hr8 ht8 hx Hr7 hc0 hc1 hbo HKr HK8 lo hx0
          have hc0 := hc0'
          have hc1 := hc1'
          have hbo := hbo'
          have HKr := HKr'
          clear hc0' hc1' hbo' HKr'
          go_wp2_with fail
          generalize w8 = wo at HKr hc0 hc1 hbo ⊢
          refine wp_region_held_drew (S := HeldO q bo #[.slice p.K s.kinds.length p.c1, .slice p.F s.full.length p.c2, .slice p.S s.stack.length p.c3, .slice p.M s.memo.length p.c4, .bool s.done] (.int .i64 o.code) (.int .i64 o.arg)) (by kernel_rfl) ⟨HKr.out.sb.box, hc0, hc1⟩ (fun hHeld => ?_)
          have HK := hide (HKr.out.below ((Below.refl wo.heap.size wo).drew))
          have hbX0 : bo < wo.drew.heap.size := hbo
          clear hc0 hc1 HKr hbo
          generalize wo.drew = X at HK hHeld hbX0 ⊢
          have HSb := hide HK.out.sb
          have hqX0 : q < X.heap.size := HK.out.sb.box.lt
          refine wpAnyH_take (i := 0) (oi := ⟨some 31, _, _, _, _, _⟩) (v := ?_) rfl (by kernel_rfl) (by kernel_rfl) (by kernel_rfl) (fun _ _ _ h => h) (Or.inl ⟨by rfl, ?_⟩) (by assumption) ?_
          rotate_left
          · (intro w hSw; obtain ⟨hS1, hS2, hS3⟩ := hSw; have y0 := hS1.cell 0; have y1 := hS1.cell 1; have y2 := hS1.cell 2; have y3 := hS1.cell 3; have y4 := hS1.cell 4; simp only [jD, jE, jF] at y0 y1 y2 y3 y4; go_simp; try with_reducible rfl)
          try simp only [Act.put, jA, jB, jC]
          refine wpAnyH_take (i := 2) (oi := ⟨some 33, _, _, _, _, _⟩) (v := ?_) rfl (by kernel_rfl) (by kernel_rfl) (by kernel_rfl) (fun _ _ _ h => h) (Or.inl ⟨by rfl, ?_⟩) (by assumption) ?_
          rotate_left
          · (intro w hSw; obtain ⟨hS1, hS2, hS3⟩ := hSw; have y0 := hS1.cell 0; have y1 := hS1.cell 1; have y2 := hS1.cell 2; have y3 := hS1.cell 3; have y4 := hS1.cell 4; simp only [jD, jE, jF] at y0 y1 y2 y3 y4; go_simp; try with_reducible rfl)
          try simp only [Act.put, jA, jB, jC]
          refine wpAnyH_ready (rs := [1, 7]) (by kernel_rfl) (by simp) ?_
          refine AllReadyH.cons (o := ⟨some 32, _, _, _, _, _⟩) rfl (fun K hK => ?_) ?_
          · skip
            go_simp
            go_at_call 34
            refine (copyShapes_any p s X (HSb.out.own.at_ Hsm.out) (by omega) (by omega) (by omega) (by omega)).mono ?_
            rintro e v1 ⟨pc, rfl, hoc, hbn⟩
            have hqX : q < X.heap.size := HSb.out.box.lt
            have hbX : bo < X.heap.size := by omega
            have HBX := hide hbn
            have HC := hide hoc
            clear hoc hbn
            simp only [shVal, shCells]
            refine hK.out _ _ ?_ (fun hH => ?_)
            · exact hHeld.below HBX.out hqX hbX
            clear hK K hHeld
            have hHeld := hH
            clear hH
            try simp only [Act.put, jA, jB, jC]
            refine wpAnyH_ready (rs := [3, 7]) (by kernel_rfl) (by simp) ?_
            refine AllReadyH.cons (o := ⟨some 34, _, _, _, _, _⟩) rfl (fun K hK => ?_) ?_
            · skip
              go_simp
              go_at_call 33
              refine (stepShapes_any pc s o X.heap.size v1 HC.out HBX.out.size Hsm.out HO.out).mono ?_
              rintro e v2 ⟨p5, s5, ok, rfl, hb2, hfr2, hg2, hn2⟩
              have HB2 := hide hb2
              have HG2 := hide hg2
              have HN2 := hide hn2
              have HFr := hide hfr2
              have HBY := hide (HBX.out.trans hb2)
              clear hb2 hg2 hn2 hfr2
              simp only [shVal, shCells]
              refine hK.out _ _ ?_ (fun hH => ?_)
              · exact hHeld.below HB2.out hqX hbX
              clear hK K hHeld
              have hHeld := hH
              clear hH
              try simp only [Act.put, jA, jB, jC]
              refine wpAnyH_take (i := 4) (oi := ⟨some 30, _, _, _, _, _⟩) (v := ?_) rfl (by kernel_rfl) (by kernel_rfl) (by kernel_rfl) (fun _ _ _ h => h) (Or.inl ⟨by rfl, ?_⟩) (by assumption) ?_
              rotate_left
              · (intro w hSw; obtain ⟨hS1, hS2, hS3⟩ := hSw; have y0 := hS1.cell 0; have y1 := hS1.cell 1; have y2 := hS1.cell 2; have y3 := hS1.cell 3; have y4 := hS1.cell 4; simp only [jD, jE, jF] at y0 y1 y2 y3 y4; go_simp; try with_reducible rfl)
              try simp only [Act.put, jA, jB, jC]
              refine wpAnyH_take (i := 5) (oi := ⟨some 35, _, _, _, _, _⟩) (v := ?_) rfl (by kernel_rfl) (by kernel_rfl) (by kernel_rfl) (fun _ _ _ h => h) (Or.inl ⟨by rfl, ?_⟩) (by assumption) ?_
              rotate_left
              · (intro w hSw; obtain ⟨hS1, hS2, hS3⟩ := hSw; have y0 := hS1.cell 0; have y1 := hS1.cell 1; have y2 := hS1.cell 2; have y3 := hS1.cell 3; have y4 := hS1.cell 4; simp only [jD, jE, jF] at y0 y1 y2 y3 y4; go_simp; try with_reducible rfl)
              try simp only [Act.put, jA, jB, jC]
              refine wpAnyH_take (i := 6) (oi := ⟨some 36, _, _, _, _, _⟩) (v := ?_) rfl (by kernel_rfl) (by kernel_rfl) (by kernel_rfl) (fun _ _ _ h => h) (Or.inl ⟨by rfl, ?_⟩) (by assumption) ?_
              rotate_left
              · (intro w hSw; obtain ⟨hS1, hS2, hS3⟩ := hSw; have y0 := hS1.cell 0; have y1 := hS1.cell 1; have y2 := hS1.cell 2; have y3 := hS1.cell 3; have y4 := hS1.cell 4; simp only [jD, jE, jF] at y0 y1 y2 y3 y4; go_simp; try with_reducible rfl)
              try simp only [Act.put, jA, jB, jC]
              refine wpAnyH_ready (rs := [7]) (by kernel_rfl) (by simp) ?_
              refine AllReadyH.cons (o := ⟨some 7, _, _, _, _, _⟩) rfl (fun K hK => ?_) AllReadyH.nil
              go_simp
              have Lz := hide (Lies.new v2 #[.slice none 0 0, .slice none 0 0, .slice none 0 0, .slice none 0 0, .bool false] 38)
              have hsz : X.heap.size ≤ v2.heap.size := HBY.out.size
              have HSy := hide ((HSb.out.below HBY.out).alloc (.cells #[.slice none 0 0, .slice none 0 0, .slice none 0 0, .slice none 0 0, .bool false] 38))
              have HBz := hide (HBY.out.alloc hsz (.cells #[.slice none 0 0, .slice none 0 0, .slice none 0 0, .slice none 0 0, .bool false] 38))
              obtain ⟨nb, hnb⟩ : ∃ n, n = v2.heap.size := ⟨_, rfl⟩
              rw [← hnb] at Lz hsz
              have hqn : q ≠ nb := by omega
              have hbn : bo ≠ nb := by omega
              have HN := hide (BoxN.mk' (X := X) (p5 := p5) (s5 := s5) (ok := ok) (r := stepShp s o) (lo := X.heap.size) HSy.out Lz.out HBz.out (by omega) (HSb.out.own.off (.inr hsz)) hqn (by omega) (fun t ht => by
                obtain ⟨g1, g2, g3, g4⟩ := HG2.out t ht
                exact ⟨g1, g2, g3.alloc _, g3.off (.inr (by omega))⟩) HN2.out)
              refine hK.out _ _ ?_ (fun hH => ?_)
              · exact hHeld.below ((Below.refl v2.heap.size v2).alloc (Nat.le_refl _) _) (by omega) (by omega)
              clear hK K hHeld
              have hHeld := hH
              clear hH
              try simp only [Act.put, jA, jB, jC]
              generalize v2.alloc (.cells #[.slice none 0 0, .slice none 0 0, .slice none 0 0, .slice none 0 0, .bool false] 38) = Y at HSy HBz Lz HN hHeld ⊢
              rw [← hnb]
              clear hnb
              refine wpAnyH_ready (rs := [8]) (by kernel_rfl) (by simp) ?_
              refine AllReadyH.cons (o := ⟨none, _, _, _, _, _⟩) rfl (fun K hK => ?_) AllReadyH.nil
              obtain ⟨⟨c0, c1, c2, c3, c4, f0, f1, f2, f3, f4, t0, t1, t2, t3, t4⟩, _⟩ := Lies.set5 Lz.out (.slice p5.K s5.kinds.length p5.c1) (.slice p5.F s5.full.length p5.c2) (.slice p5.S s5.stack.length p5.c3) (.slice p5.M s5.memo.length p5.c4) (.bool s5.done)
              go_simp
              refine hK.out _ _ ?_ (fun hH => ?_)
              · exact (hHeld.set5 hqn hbn : _)
              clear hK K hHeld
              have hHeld := hH
              clear hH
              try simp only [Act.put, jA, jB, jC]
              refine wpAnyH_ready (rs := [9]) (by kernel_rfl) (by simp) ?_
              refine AllReadyH.cons (o := ⟨some 8, _, _, _, _, _⟩) rfl (fun K hK => ?_) AllReadyH.nil
              go_simp
              refine hK.out _ _ ?_ (fun hH => ?_)
              · exact hHeld
              clear hK K hHeld
              have hHeld := hH
              clear hH
              try simp only [Act.put, jA, jB, jC]
              refine wpAnyH_done (by kernel_rfl) ?_ _
              have HN5 : Hid (BoxN X (((((Y.setCell ⟨nb, 0, none⟩ (.slice p5.K s5.kinds.length p5.c1)).setCell ⟨nb, 1, none⟩ (.slice p5.F s5.full.length p5.c2)).setCell ⟨nb, 2, none⟩ (.slice p5.S s5.stack.length p5.c3)).setCell ⟨nb, 3, none⟩ (.slice p5.M s5.memo.length p5.c4)).setCell ⟨nb, 4, none⟩ (.bool s5.done)) w.heap.size q p s nb p5 s5 ok (stepShp s o)) := HN
              have hHo : HeldO q bo #[.slice p.K s.kinds.length p.c1, .slice p.F s.full.length p.c2, .slice p.S s.stack.length p.c3, .slice p.M s.memo.length p.c4, .bool s.done] (.int .i64 o.code) (.int .i64 o.arg) (((((Y.setCell ⟨nb, 0, none⟩ (.slice p5.K s5.kinds.length p5.c1)).setCell ⟨nb, 1, none⟩ (.slice p5.F s5.full.length p5.c2)).setCell ⟨nb, 2, none⟩ (.slice p5.S s5.stack.length p5.c3)).setCell ⟨nb, 3, none⟩ (.slice p5.M s5.memo.length p5.c4)).setCell ⟨nb, 4, none⟩ (.bool s5.done)) := hHeld
              clear hHeld HN c0 c1 c2 c3 c4 f0 f1 f2 f3 f4 t0 t1 t2 t3 t4
              generalize (((((Y.setCell ⟨nb, 0, none⟩ (.slice p5.K s5.kinds.length p5.c1)).setCell ⟨nb, 1, none⟩ (.slice p5.F s5.full.length p5.c2)).setCell ⟨nb, 2, none⟩ (.slice p5.S s5.stack.length p5.c3)).setCell ⟨nb, 3, none⟩ (.slice p5.M s5.memo.length p5.c4)).setCell ⟨nb, 4, none⟩ (.bool s5.done)) = Yf at HN5 hHo ⊢
              clear Lz HSb
              cases hr : stepShp s o with
              | none =>
                obtain rfl := HN5.out.bad hr
                have HK7 := hide (HK.out.below HN5.out.bel)
                obtain ⟨p7, hp7, hr7⟩ := HK7.out.rd
                have HO7 := hide hHo
                clear hr HN5 hHo
                go_wp2_with fail
                refine (pick_any rb A n c p7 16 Yf hr7 (by omega) (by omega)).mono ?_
                rintro e w8 ⟨⟨x, rfl, hx, _⟩, hr8, ht8⟩
                have HK8 := hide (HK7.out.turned (P' := p0 + 1 + (30 - (m - 1)) * 6) (Grew.of_turn ht8) hr8 (by omega))
                have hbrb : bo ≠ rb := by omega
                have HO8 := hide (show w8.cell? ⟨bo, 0, none⟩ = some (.int .i64 o.code) ∧ w8.cell? ⟨bo, 1, none⟩ = some (.int .i64 o.arg) from ⟨(World.cell?_of_block (w := Yf) (ht8.block bo hbrb)).trans HO7.out.2.1, (World.cell?_of_block (w := Yf) (ht8.block bo hbrb)).trans HO7.out.2.2⟩)
                clear hr7 hr8 ht8 hx HK7 HO7
                by_cases hx0 : x = 0
                · subst hx0
                  obtain ⟨e0, e1⟩ := HO8.out
                  have HNw := hide (Lies.new w8 #[.int .i64 o.code, .int .i64 o.arg] 42)
                  have hbw := HK8.out.grew.size
                  have hac : acc.length ≤ 30 := by omega
                  go_wp2_with (at_builtin; refine append_op rfl (.tmp 45) (.tmp 47) rfl w.heap.size Ao co acc rfl (HK8.out.own.alloc _) w8.heap.size o 42 rfl HNw.out (by omega) (by simp; omega) ?_; intro zs A9 c9 w9 hz9 hown9 hg9 hat9; have HKn := hide (HK8.out.app _ hg9 hat9 hown9 hz9.out HO.out); have hzl : zs.length = acc.length + 1 := (by rw [hz9.out]; simp); have hzl2 : zs.length ≤ 30 - (m - 1) := (by omega); clear hown9 hg9 hat9 hzl)
                  go_roundg (m - 1)
                  case measure => omega
                  case rel => exact ⟨m - 1, p, s, A9, c9, zs, by omega, rfl, by rw [show ((m - 1 : Nat) : Int) = (m : Int) - 1 by omega], rfl, HKn.out, hzl2⟩
                · have hx1 : ((x : Int) == 0) = false := by simp; omega
                  clear hx0
                  go_wp2
                  go_roundg (m - 1)
                  case measure => omega
                  case rel => exact ⟨m - 1, p, s, Ao, co, acc, by omega, rfl, by rw [show ((m - 1 : Nat) : Int) = (m : Int) - 1 by omega], rfl, HK8.out, by omega⟩
              | some t =>
                obtain ⟨hok1, hst, lo, hot, hlo⟩ := HN5.out.good t hr
                subst hok1 hst
                have HT := hide (stepShp_ok HsO.out hr (HO.out.get))
                have HOt := hide hot
                have hqY := HK.out.hq
                have HN6 := hide HN5.out
                have b0 := HN6.out.box.cell 0
                have b1 := HN6.out.box.cell 1
                have b2 := HN6.out.box.cell 2
                have b3 := HN6.out.box.cell 3
                have b4 := HN6.out.box.cell 4
                simp only [shCells, jD, jE, jF] at b0 b1 b2 b3 b4
                obtain ⟨⟨c0, c1, c2, c3, c4, f0, f1, f2, f3, f4, t0, t1, t2, t3, t4⟩, _⟩ := Lies.set5 (show Lies Yf q #[.slice p.K s.kinds.length p.c1, .slice p.F s.full.length p.c2, .slice p.S s.stack.length p.c3, .slice p.M s.memo.length p.c4, .bool s.done] 38 from HN6.out.run.box) (.slice p5.K s5.kinds.length p5.c1) (.slice p5.F s5.full.length p5.c2) (.slice p5.S s5.stack.length p5.c3) (.slice p5.M s5.memo.length p5.c4) (.bool s5.done)
                have HKy := hide (HK.out.next HN6.out.bel HOt.out hlo HT.out.1 HT.out.2)
                have hbq : bo ≠ q := by omega
                have HO8 := hide (show (((((Yf.setCell ⟨q, 0, none⟩ (.slice p5.K s5.kinds.length p5.c1)).setCell ⟨q, 1, none⟩ (.slice p5.F s5.full.length p5.c2)).setCell ⟨q, 2, none⟩ (.slice p5.S s5.stack.length p5.c3)).setCell ⟨q, 3, none⟩ (.slice p5.M s5.memo.length p5.c4)).setCell ⟨q, 4, none⟩ (.bool s5.done)).cell? ⟨bo, 0, none⟩ = some (.int .i64 o.code) ∧ (((((Yf.setCell ⟨q, 0, none⟩ (.slice p5.K s5.kinds.length p5.c1)).setCell ⟨q, 1, none⟩ (.slice p5.F s5.full.length p5.c2)).setCell ⟨q, 2, none⟩ (.slice p5.S s5.stack.length p5.c3)).setCell ⟨q, 3, none⟩ (.slice p5.M s5.memo.length p5.c4)).setCell ⟨q, 4, none⟩ (.bool s5.done)).cell? ⟨bo, 1, none⟩ = some (.int .i64 o.arg) from ⟨(World.cell?_of_block (w := Yf) (set5_block (v0 := .slice p5.K s5.kinds.length p5.c1) (v1 := .slice p5.F s5.full.length p5.c2) (v2 := .slice p5.S s5.stack.length p5.c3) (v3 := .slice p5.M s5.memo.length p5.c4) (v4 := .bool s5.done) hbq)).trans hHo.2.1, (World.cell?_of_block (w := Yf) (set5_block (v0 := .slice p5.K s5.kinds.length p5.c1) (v1 := .slice p5.F s5.full.length p5.c2) (v2 := .slice p5.S s5.stack.length p5.c3) (v3 := .slice p5.M s5.memo.length p5.c4) (v4 := .bool s5.done) hbq)).trans hHo.2.2⟩)
                replace HKy := hide (show LkS w (((((Yf.setCell ⟨q, 0, none⟩ (.slice p5.K s5.kinds.length p5.c1)).setCell ⟨q, 1, none⟩ (.slice p5.F s5.full.length p5.c2)).setCell ⟨q, 2, none⟩ (.slice p5.S s5.stack.length p5.c3)).setCell ⟨q, 3, none⟩ (.slice p5.M s5.memo.length p5.c4)).setCell ⟨q, 4, none⟩ (.bool s5.done)) rb w.heap.size q A n c (p5' + 5) p5 s5 Ao co acc from HKy.out)
                clear t0 t1 t2 t3 t4 hr hot HN5 hHo
                go_upto_region 11 with fail
                clear b0 b1 b2 b3 b4 c0 c1 c2 c3 c4 f0 f1 f2 f3 f4
                generalize (((((Yf.setCell ⟨q, 0, none⟩ (.slice p5.K s5.kinds.length p5.c1)).setCell ⟨q, 1, none⟩ (.slice p5.F s5.full.length p5.c2)).setCell ⟨q, 2, none⟩ (.slice p5.S s5.stack.length p5.c3)).setCell ⟨q, 3, none⟩ (.slice p5.M s5.memo.length p5.c4)).setCell ⟨q, 4, none⟩ (.bool s5.done)) = w8 at HKy HO8 ⊢
                have HK8 := hide (show LkS w w8 rb w.heap.size q A n c (p0 + 1 + (30 - (m - 1)) * 6) p5 s5 Ao co acc from by
                  obtain ⟨pz, hpz, hrz⟩ := HKy.out.rd
                  exact ⟨HKy.out.grew, ⟨pz, by omega, hrz⟩, HKy.out.sb, HKy.out.own, HKy.out.apart, HKy.out.hb, HKy.out.hq, HKy.out.hrb, HKy.out.ok, HKy.out.fit, HKy.out.mem⟩)
                clear HKy
                obtain ⟨e0, e1⟩ := HO8.out
                have HNw := hide (Lies.new w8 #[.int .i64 o.code, .int .i64 o.arg] 42)
                have hbw := HK8.out.grew.size
                have hac : acc.length ≤ 30 := by omega
                go_wp2_with (at_builtin; refine append_op rfl (.tmp 45) (.tmp 47) rfl w.heap.size Ao co acc rfl (HK8.out.own.alloc _) w8.heap.size o 42 rfl HNw.out (by omega) (by simp; omega) ?_; intro zs A9 c9 w9 hz9 hown9 hg9 hat9; have HKn := hide (HK8.out.app _ hg9 hat9 hown9 hz9.out HO.out); have hzl : zs.length = acc.length + 1 := (by rw [hz9.out]; simp); have hzl2 : zs.length ≤ 30 - (m - 1) := (by omega); clear hown9 hg9 hat9 hzl)
                go_roundg (m - 1)
                case measure => omega
                case rel => exact ⟨m - 1, p5, s5, A9, c9, zs, by omega, rfl, by rw [show ((m - 1 : Nat) : Int) = (m : Int) - 1 by omega], rfl, HKn.out, hzl2⟩
            refine AllReadyH.cons (o := ⟨some 7, _, _, _, _, _⟩) rfl (fun K hK => ?_) AllReadyH.nil
            go_simp
            obtain ⟨nb, hnb⟩ : ∃ n, n = v1.heap.size := ⟨_, rfl⟩
            have Lz0 := Lies.new v1 #[.slice none 0 0, .slice none 0 0, .slice none 0 0, .slice none 0 0, .bool false] 38
            rw [← hnb] at Lz0
            have hsz : X.heap.size ≤ nb := by have := HBX.out.size; omega
            have hpc : pc.Off nb := HC.out.off (.inr (by omega))
            replace HC := hide (HC.out.alloc (.cells #[.slice none 0 0, .slice none 0 0, .slice none 0 0, .slice none 0 0, .bool false] 38))
            replace HBX := hide (HBX.out.alloc HBX.out.size (.cells #[.slice none 0 0, .slice none 0 0, .slice none 0 0, .slice none 0 0, .bool false] 38))
            refine hK.out _ _ ?_ (fun hH => ?_)
            · exact hHeld.below ((Below.refl v1.heap.size v1).alloc (Nat.le_refl _) _) (by omega) (by omega)
            clear hK K hHeld
            have hHeld := hH
            clear hH
            try simp only [Act.put, jA, jB, jC]
            have hnz := Lz0.lt
            generalize v1.alloc (.cells #[.slice none 0 0, .slice none 0 0, .slice none 0 0, .slice none 0 0, .bool false] 38) = Z at HC HBX Lz0 hnz hHeld ⊢
            rw [← hnb]
            clear hnb
            refine wpAnyH_ready (rs := [3]) (by kernel_rfl) (by simp) ?_
            refine AllReadyH.cons (o := ⟨some 34, _, _, _, _, _⟩) rfl (fun K hK => ?_) AllReadyH.nil
            go_simp
            go_at_call 33
            refine (stepShapes_any pc s o X.heap.size Z HC.out HBX.out.size Hsm.out HO.out).mono ?_
            rintro e v2 ⟨p5, s5, ok, rfl, hb2, hfr2, hg2, hn2⟩
            have HB2 := hide hb2
            have HG2 := hide hg2
            have HN2 := hide hn2
            have HFr := hide hfr2
            have HBY := hide (HBX.out.trans hb2)
            clear hb2 hg2 hn2 hfr2
            simp only [shVal, shCells]
            refine hK.out _ _ ?_ (fun hH => ?_)
            · exact hHeld.below HB2.out hqX hbX
            clear hK K hHeld
            have hHeld := hH
            clear hH
            try simp only [Act.put, jA, jB, jC]
            refine wpAnyH_take (i := 4) (oi := ⟨some 30, _, _, _, _, _⟩) (v := ?_) rfl (by kernel_rfl) (by kernel_rfl) (by kernel_rfl) (fun _ _ _ h => h) (Or.inl ⟨by rfl, ?_⟩) (by assumption) ?_
            rotate_left
            · (intro w hSw; obtain ⟨hS1, hS2, hS3⟩ := hSw; have y0 := hS1.cell 0; have y1 := hS1.cell 1; have y2 := hS1.cell 2; have y3 := hS1.cell 3; have y4 := hS1.cell 4; simp only [jD, jE, jF] at y0 y1 y2 y3 y4; go_simp; try with_reducible rfl)
            try simp only [Act.put, jA, jB, jC]
            refine wpAnyH_take (i := 5) (oi := ⟨some 35, _, _, _, _, _⟩) (v := ?_) rfl (by kernel_rfl) (by kernel_rfl) (by kernel_rfl) (fun _ _ _ h => h) (Or.inl ⟨by rfl, ?_⟩) (by assumption) ?_
            rotate_left
            · (intro w hSw; obtain ⟨hS1, hS2, hS3⟩ := hSw; have y0 := hS1.cell 0; have y1 := hS1.cell 1; have y2 := hS1.cell 2; have y3 := hS1.cell 3; have y4 := hS1.cell 4; simp only [jD, jE, jF] at y0 y1 y2 y3 y4; go_simp; try with_reducible rfl)
            try simp only [Act.put, jA, jB, jC]
            refine wpAnyH_take (i := 6) (oi := ⟨some 36, _, _, _, _, _⟩) (v := ?_) rfl (by kernel_rfl) (by kernel_rfl) (by kernel_rfl) (fun _ _ _ h => h) (Or.inl ⟨by rfl, ?_⟩) (by assumption) ?_
            rotate_left
            · (intro w hSw; obtain ⟨hS1, hS2, hS3⟩ := hSw; have y0 := hS1.cell 0; have y1 := hS1.cell 1; have y2 := hS1.cell 2; have y3 := hS1.cell 3; have y4 := hS1.cell 4; simp only [jD, jE, jF] at y0 y1 y2 y3 y4; go_simp; try with_reducible rfl)
            try simp only [Act.put, jA, jB, jC]
            have Lz := hide ((HFr.out nb hnz hpc).trans Lz0)
            replace Lz := hide (show Lies v2 nb #[.slice none 0 0, .slice none 0 0, .slice none 0 0, .slice none 0 0, .bool false] 38 from Lz.out)
            have hqn : q ≠ nb := by omega
            have hbn : bo ≠ nb := by omega
            have HN := hide (BoxN.mk' (X := X) (p5 := p5) (s5 := s5) (ok := ok) (r := stepShp s o) (lo := X.heap.size) (HSb.out.below HBY.out) Lz.out HBY.out (by omega) (HSb.out.own.off (.inr hsz)) hqn (by omega) (fun t ht => by
              obtain ⟨g1, g2, g3, g4⟩ := HG2.out t ht
              exact ⟨g1, g2, g3, g4 nb hnz hpc⟩) HN2.out)
            clear Lz0 hnz hpc
            generalize v2 = Y at Lz HN hHeld ⊢
            refine wpAnyH_ready (rs := [8]) (by kernel_rfl) (by simp) ?_
            refine AllReadyH.cons (o := ⟨none, _, _, _, _, _⟩) rfl (fun K hK => ?_) AllReadyH.nil
            obtain ⟨⟨c0, c1, c2, c3, c4, f0, f1, f2, f3, f4, t0, t1, t2, t3, t4⟩, _⟩ := Lies.set5 Lz.out (.slice p5.K s5.kinds.length p5.c1) (.slice p5.F s5.full.length p5.c2) (.slice p5.S s5.stack.length p5.c3) (.slice p5.M s5.memo.length p5.c4) (.bool s5.done)
            go_simp
            refine hK.out _ _ ?_ (fun hH => ?_)
            · exact (hHeld.set5 hqn hbn : _)
            clear hK K hHeld
            have hHeld := hH
            clear hH
            try simp only [Act.put, jA, jB, jC]
            refine wpAnyH_ready (rs := [9]) (by kernel_rfl) (by simp) ?_
            refine AllReadyH.cons (o := ⟨some 8, _, _, _, _, _⟩) rfl (fun K hK => ?_) AllReadyH.nil
            go_simp
            refine hK.out _ _ ?_ (fun hH => ?_)
            · exact hHeld
            clear hK K hHeld
            have hHeld := hH
            clear hH
            try simp only [Act.put, jA, jB, jC]
            refine wpAnyH_done (by kernel_rfl) ?_ _
            have HN5 : Hid (BoxN X (((((Y.setCell ⟨nb, 0, none⟩ (.slice p5.K s5.kinds.length p5.c1)).setCell ⟨nb, 1, none⟩ (.slice p5.F s5.full.length p5.c2)).setCell ⟨nb, 2, none⟩ (.slice p5.S s5.stack.length p5.c3)).setCell ⟨nb, 3, none⟩ (.slice p5.M s5.memo.length p5.c4)).setCell ⟨nb, 4, none⟩ (.bool s5.done)) w.heap.size q p s nb p5 s5 ok (stepShp s o)) := HN
            have hHo : HeldO q bo #[.slice p.K s.kinds.length p.c1, .slice p.F s.full.length p.c2, .slice p.S s.stack.length p.c3, .slice p.M s.memo.length p.c4, .bool s.done] (.int .i64 o.code) (.int .i64 o.arg) (((((Y.setCell ⟨nb, 0, none⟩ (.slice p5.K s5.kinds.length p5.c1)).setCell ⟨nb, 1, none⟩ (.slice p5.F s5.full.length p5.c2)).setCell ⟨nb, 2, none⟩ (.slice p5.S s5.stack.length p5.c3)).setCell ⟨nb, 3, none⟩ (.slice p5.M s5.memo.length p5.c4)).setCell ⟨nb, 4, none⟩ (.bool s5.done)) := hHeld
            clear hHeld HN c0 c1 c2 c3 c4 f0 f1 f2 f3 f4 t0 t1 t2 t3 t4
            generalize (((((Y.setCell ⟨nb, 0, none⟩ (.slice p5.K s5.kinds.length p5.c1)).setCell ⟨nb, 1, none⟩ (.slice p5.F s5.full.length p5.c2)).setCell ⟨nb, 2, none⟩ (.slice p5.S s5.stack.length p5.c3)).setCell ⟨nb, 3, none⟩ (.slice p5.M s5.memo.length p5.c4)).setCell ⟨nb, 4, none⟩ (.bool s5.done)) = Yf at HN5 hHo ⊢
            clear Lz HSb
            cases hr : stepShp s o with
            | none =>
              obtain rfl := HN5.out.bad hr
              have HK7 := hide (HK.out.below HN5.out.bel)
              obtain ⟨p7, hp7, hr7⟩ := HK7.out.rd
              have HO7 := hide hHo
              clear hr HN5 hHo
              go_wp2_with fail
              refine (pick_any rb A n c p7 16 Yf hr7 (by omega) (by omega)).mono ?_
              rintro e w8 ⟨⟨x, rfl, hx, _⟩, hr8, ht8⟩
              have HK8 := hide (HK7.out.turned (P' := p0 + 1 + (30 - (m - 1)) * 6) (Grew.of_turn ht8) hr8 (by omega))
              have hbrb : bo ≠ rb := by omega
              have HO8 := hide (show w8.cell? ⟨bo, 0, none⟩ = some (.int .i64 o.code) ∧ w8.cell? ⟨bo, 1, none⟩ = some (.int .i64 o.arg) from ⟨(World.cell?_of_block (w := Yf) (ht8.block bo hbrb)).trans HO7.out.2.1, (World.cell?_of_block (w := Yf) (ht8.block bo hbrb)).trans HO7.out.2.2⟩)
              clear hr7 hr8 ht8 hx HK7 HO7
              by_cases hx0 : x = 0
              · subst hx0
                obtain ⟨e0, e1⟩ := HO8.out
                have HNw := hide (Lies.new w8 #[.int .i64 o.code, .int .i64 o.arg] 42)
                have hbw := HK8.out.grew.size
                have hac : acc.length ≤ 30 := by omega
                go_wp2_with (at_builtin; refine append_op rfl (.tmp 45) (.tmp 47) rfl w.heap.size Ao co acc rfl (HK8.out.own.alloc _) w8.heap.size o 42 rfl HNw.out (by omega) (by simp; omega) ?_; intro zs A9 c9 w9 hz9 hown9 hg9 hat9; have HKn := hide (HK8.out.app _ hg9 hat9 hown9 hz9.out HO.out); have hzl : zs.length = acc.length + 1 := (by rw [hz9.out]; simp); have hzl2 : zs.length ≤ 30 - (m - 1) := (by omega); clear hown9 hg9 hat9 hzl)
                go_roundg (m - 1)
                case measure => omega
                case rel => exact ⟨m - 1, p, s, A9, c9, zs, by omega, rfl, by rw [show ((m - 1 : Nat) : Int) = (m : Int) - 1 by omega], rfl, HKn.out, hzl2⟩
              · have hx1 : ((x : Int) == 0) = false := by simp; omega
                clear hx0
                go_wp2
                go_roundg (m - 1)
                case measure => omega
                case rel => exact ⟨m - 1, p, s, Ao, co, acc, by omega, rfl, by rw [show ((m - 1 : Nat) : Int) = (m : Int) - 1 by omega], rfl, HK8.out, by omega⟩
            | some t =>
              obtain ⟨hok1, hst, lo, hot, hlo⟩ := HN5.out.good t hr
              subst hok1 hst
              have HT := hide (stepShp_ok HsO.out hr (HO.out.get))
              have HOt := hide hot
              have hqY := HK.out.hq
              have HN6 := hide HN5.out
              have b0 := HN6.out.box.cell 0
              have b1 := HN6.out.box.cell 1
              have b2 := HN6.out.box.cell 2
              have b3 := HN6.out.box.cell 3
              have b4 := HN6.out.box.cell 4
              simp only [shCells, jD, jE, jF] at b0 b1 b2 b3 b4
              obtain ⟨⟨c0, c1, c2, c3, c4, f0, f1, f2, f3, f4, t0, t1, t2, t3, t4⟩, _⟩ := Lies.set5 (show Lies Yf q #[.slice p.K s.kinds.length p.c1, .slice p.F s.full.length p.c2, .slice p.S s.stack.length p.c3, .slice p.M s.memo.length p.c4, .bool s.done] 38 from HN6.out.run.box) (.slice p5.K s5.kinds.length p5.c1) (.slice p5.F s5.full.length p5.c2) (.slice p5.S s5.stack.length p5.c3) (.slice p5.M s5.memo.length p5.c4) (.bool s5.done)
              have HKy := hide (HK.out.next HN6.out.bel HOt.out hlo HT.out.1 HT.out.2)
              have hbq : bo ≠ q := by omega
              have HO8 := hide (show (((((Yf.setCell ⟨q, 0, none⟩ (.slice p5.K s5.kinds.length p5.c1)).setCell ⟨q, 1, none⟩ (.slice p5.F s5.full.length p5.c2)).setCell ⟨q, 2, none⟩ (.slice p5.S s5.stack.length p5.c3)).setCell ⟨q, 3, none⟩ (.slice p5.M s5.memo.length p5.c4)).setCell ⟨q, 4, none⟩ (.bool s5.done)).cell? ⟨bo, 0, none⟩ = some (.int .i64 o.code) ∧ (((((Yf.setCell ⟨q, 0, none⟩ (.slice p5.K s5.kinds.length p5.c1)).setCell ⟨q, 1, none⟩ (.slice p5.F s5.full.length p5.c2)).setCell ⟨q, 2, none⟩ (.slice p5.S s5.stack.length p5.c3)).setCell ⟨q, 3, none⟩ (.slice p5.M s5.memo.length p5.c4)).setCell ⟨q, 4, none⟩ (.bool s5.done)).cell? ⟨bo, 1, none⟩ = some (.int .i64 o.arg) from ⟨(World.cell?_of_block (w := Yf) (set5_block (v0 := .slice p5.K s5.kinds.length p5.c1) (v1 := .slice p5.F s5.full.length p5.c2) (v2 := .slice p5.S s5.stack.length p5.c3) (v3 := .slice p5.M s5.memo.length p5.c4) (v4 := .bool s5.done) hbq)).trans hHo.2.1, (World.cell?_of_block (w := Yf) (set5_block (v0 := .slice p5.K s5.kinds.length p5.c1) (v1 := .slice p5.F s5.full.length p5.c2) (v2 := .slice p5.S s5.stack.length p5.c3) (v3 := .slice p5.M s5.memo.length p5.c4) (v4 := .bool s5.done) hbq)).trans hHo.2.2⟩)
              replace HKy := hide (show LkS w (((((Yf.setCell ⟨q, 0, none⟩ (.slice p5.K s5.kinds.length p5.c1)).setCell ⟨q, 1, none⟩ (.slice p5.F s5.full.length p5.c2)).setCell ⟨q, 2, none⟩ (.slice p5.S s5.stack.length p5.c3)).setCell ⟨q, 3, none⟩ (.slice p5.M s5.memo.length p5.c4)).setCell ⟨q, 4, none⟩ (.bool s5.done)) rb w.heap.size q A n c (p5' + 5) p5 s5 Ao co acc from HKy.out)
              clear t0 t1 t2 t3 t4 hr hot HN5 hHo
              go_upto_region 11 with fail
              clear b0 b1 b2 b3 b4 c0 c1 c2 c3 c4 f0 f1 f2 f3 f4
              generalize (((((Yf.setCell ⟨q, 0, none⟩ (.slice p5.K s5.kinds.length p5.c1)).setCell ⟨q, 1, none⟩ (.slice p5.F s5.full.length p5.c2)).setCell ⟨q, 2, none⟩ (.slice p5.S s5.stack.length p5.c3)).setCell ⟨q, 3, none⟩ (.slice p5.M s5.memo.length p5.c4)).setCell ⟨q, 4, none⟩ (.bool s5.done)) = w8 at HKy HO8 ⊢
              have HK8 := hide (show LkS w w8 rb w.heap.size q A n c (p0 + 1 + (30 - (m - 1)) * 6) p5 s5 Ao co acc from by
                obtain ⟨pz, hpz, hrz⟩ := HKy.out.rd
                exact ⟨HKy.out.grew, ⟨pz, by omega, hrz⟩, HKy.out.sb, HKy.out.own, HKy.out.apart, HKy.out.hb, HKy.out.hq, HKy.out.hrb, HKy.out.ok, HKy.out.fit, HKy.out.mem⟩)
              clear HKy
              obtain ⟨e0, e1⟩ := HO8.out
              have HNw := hide (Lies.new w8 #[.int .i64 o.code, .int .i64 o.arg] 42)
              have hbw := HK8.out.grew.size
              have hac : acc.length ≤ 30 := by omega
              go_wp2_with (at_builtin; refine append_op rfl (.tmp 45) (.tmp 47) rfl w.heap.size Ao co acc rfl (HK8.out.own.alloc _) w8.heap.size o 42 rfl HNw.out (by omega) (by simp; omega) ?_; intro zs A9 c9 w9 hz9 hown9 hg9 hat9; have HKn := hide (HK8.out.app _ hg9 hat9 hown9 hz9.out HO.out); have hzl : zs.length = acc.length + 1 := (by rw [hz9.out]; simp); have hzl2 : zs.length ≤ 30 - (m - 1) := (by omega); clear hown9 hg9 hat9 hzl)
              go_roundg (m - 1)
              case measure => omega
              case rel => exact ⟨m - 1, p5, s5, A9, c9, zs, by omega, rfl, by rw [show ((m - 1 : Nat) : Int) = (m : Int) - 1 by omega], rfl, HKn.out, hzl2⟩
          refine AllReadyH.cons (o := ⟨some 7, _, _, _, _, _⟩) rfl (fun K hK => ?_) AllReadyH.nil
          go_simp
          obtain ⟨nb, hnb⟩ : ∃ n, n = X.heap.size := ⟨_, rfl⟩
          have Lz0 := Lies.new X #[.slice none 0 0, .slice none 0 0, .slice none 0 0, .slice none 0 0, .bool false] 38
          rw [← hnb] at Lz0
          have hpo : p.Off nb := HSb.out.own.off (.inr (by omega))
          have hXa := (Below.refl X.heap.size X).alloc (Nat.le_refl _) (.cells #[.slice none 0 0, .slice none 0 0, .slice none 0 0, .slice none 0 0, .bool false] 38)
          replace HSb := hide (HSb.out.below hXa)
          have HXa := hide hXa
          refine hK.out _ _ ?_ (fun hH => ?_)
          · exact hHeld.below hXa (by omega) (by omega)
          clear hK K hHeld
          have hHeld := hH
          clear hH
          try simp only [Act.put, jA, jB, jC]
          have hnz := Lz0.lt
          have hXs : X.heap.size ≤ (X.alloc (.cells #[.slice none 0 0, .slice none 0 0, .slice none 0 0, .slice none 0 0, .bool false] 38)).heap.size := hXa.size
          clear hXa
          generalize X.alloc (.cells #[.slice none 0 0, .slice none 0 0, .slice none 0 0, .slice none 0 0, .bool false] 38) = Xa at HSb HXa Lz0 hnz hXs hHeld ⊢
          rw [← hnb]
          have hXn : X.heap.size ≤ nb := by omega
          have hXn2 : nb ≤ X.heap.size := by omega
          clear hnb
          refine wpAnyH_ready (rs := [1]) (by kernel_rfl) (by simp) ?_
          refine AllReadyH.cons (o := ⟨some 32, _, _, _, _, _⟩) rfl (fun K hK => ?_) AllReadyH.nil
          go_simp
          go_at_call 34
          refine (copyShapes_any p s Xa (HSb.out.own.at_ Hsm.out) (by omega) (by omega) (by omega) (by omega)).mono ?_
          rintro e v1 ⟨pc, rfl, hoc, hbn⟩
          have hqX : q < Xa.heap.size := HSb.out.box.lt
          have hbX : bo < Xa.heap.size := by omega
          have HBX := hide hbn
          have HC := hide hoc
          clear hoc hbn
          simp only [shVal, shCells]
          refine hK.out _ _ ?_ (fun hH => ?_)
          · exact hHeld.below HBX.out hqX hbX
          clear hK K hHeld
          have hHeld := hH
          clear hH
          try simp only [Act.put, jA, jB, jC]
          refine wpAnyH_ready (rs := [3]) (by kernel_rfl) (by simp) ?_
          refine AllReadyH.cons (o := ⟨some 34, _, _, _, _, _⟩) rfl (fun K hK => ?_) AllReadyH.nil
          go_simp
          go_at_call 33
          refine (stepShapes_any pc s o Xa.heap.size v1 HC.out HBX.out.size Hsm.out HO.out).mono ?_
          rintro e v2 ⟨p5, s5, ok, rfl, hb2, hfr2, hg2, hn2⟩
          have HB2 := hide hb2
          have HG2 := hide hg2
          have HN2 := hide hn2
          have HFr := hide hfr2
          have HBY := hide (HBX.out.trans hb2)
          clear hb2 hg2 hn2 hfr2
          simp only [shVal, shCells]
          refine hK.out _ _ ?_ (fun hH => ?_)
          · exact hHeld.below HB2.out hqX hbX
          clear hK K hHeld
          have hHeld := hH
          clear hH
          try simp only [Act.put, jA, jB, jC]
          refine wpAnyH_take (i := 4) (oi := ⟨some 30, _, _, _, _, _⟩) (v := ?_) rfl (by kernel_rfl) (by kernel_rfl) (by kernel_rfl) (fun _ _ _ h => h) (Or.inl ⟨by rfl, ?_⟩) (by assumption) ?_
          rotate_left
          · (intro w hSw; obtain ⟨hS1, hS2, hS3⟩ := hSw; have y0 := hS1.cell 0; have y1 := hS1.cell 1; have y2 := hS1.cell 2; have y3 := hS1.cell 3; have y4 := hS1.cell 4; simp only [jD, jE, jF] at y0 y1 y2 y3 y4; go_simp; try with_reducible rfl)
          try simp only [Act.put, jA, jB, jC]
          refine wpAnyH_take (i := 5) (oi := ⟨some 35, _, _, _, _, _⟩) (v := ?_) rfl (by kernel_rfl) (by kernel_rfl) (by kernel_rfl) (fun _ _ _ h => h) (Or.inl ⟨by rfl, ?_⟩) (by assumption) ?_
          rotate_left
          · (intro w hSw; obtain ⟨hS1, hS2, hS3⟩ := hSw; have y0 := hS1.cell 0; have y1 := hS1.cell 1; have y2 := hS1.cell 2; have y3 := hS1.cell 3; have y4 := hS1.cell 4; simp only [jD, jE, jF] at y0 y1 y2 y3 y4; go_simp; try with_reducible rfl)
          try simp only [Act.put, jA, jB, jC]
          refine wpAnyH_take (i := 6) (oi := ⟨some 36, _, _, _, _, _⟩) (v := ?_) rfl (by kernel_rfl) (by kernel_rfl) (by kernel_rfl) (fun _ _ _ h => h) (Or.inl ⟨by rfl, ?_⟩) (by assumption) ?_
          rotate_left
          · (intro w hSw; obtain ⟨hS1, hS2, hS3⟩ := hSw; have y0 := hS1.cell 0; have y1 := hS1.cell 1; have y2 := hS1.cell 2; have y3 := hS1.cell 3; have y4 := hS1.cell 4; simp only [jD, jE, jF] at y0 y1 y2 y3 y4; go_simp; try with_reducible rfl)
          try simp only [Act.put, jA, jB, jC]
          have Lz := hide (Lz0.below HBY.out hnz)
          have hqn : q ≠ nb := by omega
          have hbn : bo ≠ nb := by omega
          have HN := hide (BoxN.mk' (X := X) (p5 := p5) (s5 := s5) (ok := ok) (r := stepShp s o) (lo := Xa.heap.size) (HSb.out.below HBY.out) Lz.out (HXa.out.trans (HBY.out.mono hXs)) (by omega) hpo hqn (by omega) (fun t ht => by
            obtain ⟨g1, g2, g3, g4⟩ := HG2.out t ht
            exact ⟨g1, g2, g3, g3.off (.inl hnz)⟩) HN2.out)
          clear Lz0 hnz
          generalize v2 = Y at Lz HN hHeld ⊢
          refine wpAnyH_ready (rs := [8]) (by kernel_rfl) (by simp) ?_
          refine AllReadyH.cons (o := ⟨none, _, _, _, _, _⟩) rfl (fun K hK => ?_) AllReadyH.nil
          obtain ⟨⟨c0, c1, c2, c3, c4, f0, f1, f2, f3, f4, t0, t1, t2, t3, t4⟩, _⟩ := Lies.set5 Lz.out (.slice p5.K s5.kinds.length p5.c1) (.slice p5.F s5.full.length p5.c2) (.slice p5.S s5.stack.length p5.c3) (.slice p5.M s5.memo.length p5.c4) (.bool s5.done)
          go_simp
          refine hK.out _ _ ?_ (fun hH => ?_)
          · exact (hHeld.set5 hqn hbn : _)
          clear hK K hHeld
          have hHeld := hH
          clear hH
          try simp only [Act.put, jA, jB, jC]
          refine wpAnyH_ready (rs := [9]) (by kernel_rfl) (by simp) ?_
          refine AllReadyH.cons (o := ⟨some 8, _, _, _, _, _⟩) rfl (fun K hK => ?_) AllReadyH.nil
          go_simp
          refine hK.out _ _ ?_ (fun hH => ?_)
          · exact hHeld
          clear hK K hHeld
          have hHeld := hH
          clear hH
          try simp only [Act.put, jA, jB, jC]
          refine wpAnyH_done (by kernel_rfl) ?_ _
          have HN5 : Hid (BoxN X (((((Y.setCell ⟨nb, 0, none⟩ (.slice p5.K s5.kinds.length p5.c1)).setCell ⟨nb, 1, none⟩ (.slice p5.F s5.full.length p5.c2)).setCell ⟨nb, 2, none⟩ (.slice p5.S s5.stack.length p5.c3)).setCell ⟨nb, 3, none⟩ (.slice p5.M s5.memo.length p5.c4)).setCell ⟨nb, 4, none⟩ (.bool s5.done)) w.heap.size q p s nb p5 s5 ok (stepShp s o)) := HN
          have hHo : HeldO q bo #[.slice p.K s.kinds.length p.c1, .slice p.F s.full.length p.c2, .slice p.S s.stack.length p.c3, .slice p.M s.memo.length p.c4, .bool s.done] (.int .i64 o.code) (.int .i64 o.arg) (((((Y.setCell ⟨nb, 0, none⟩ (.slice p5.K s5.kinds.length p5.c1)).setCell ⟨nb, 1, none⟩ (.slice p5.F s5.full.length p5.c2)).setCell ⟨nb, 2, none⟩ (.slice p5.S s5.stack.length p5.c3)).setCell ⟨nb, 3, none⟩ (.slice p5.M s5.memo.length p5.c4)).setCell ⟨nb, 4, none⟩ (.bool s5.done)) := hHeld
          clear hHeld HN c0 c1 c2 c3 c4 f0 f1 f2 f3 f4 t0 t1 t2 t3 t4
          generalize (((((Y.setCell ⟨nb, 0, none⟩ (.slice p5.K s5.kinds.length p5.c1)).setCell ⟨nb, 1, none⟩ (.slice p5.F s5.full.length p5.c2)).setCell ⟨nb, 2, none⟩ (.slice p5.S s5.stack.length p5.c3)).setCell ⟨nb, 3, none⟩ (.slice p5.M s5.memo.length p5.c4)).setCell ⟨nb, 4, none⟩ (.bool s5.done)) = Yf at HN5 hHo ⊢
          clear Lz HSb
          cases hr : stepShp s o with
          | none =>
            obtain rfl := HN5.out.bad hr
            have HK7 := hide (HK.out.below HN5.out.bel)
            obtain ⟨p7, hp7, hr7⟩ := HK7.out.rd
            have HO7 := hide hHo
            clear hr HN5 hHo
            go_wp2_with fail
            refine (pick_any rb A n c p7 16 Yf hr7 (by omega) (by omega)).mono ?_
            rintro e w8 ⟨⟨x, rfl, hx, _⟩, hr8, ht8⟩
            have HK8 := hide (HK7.out.turned (P' := p0 + 1 + (30 - (m - 1)) * 6) (Grew.of_turn ht8) hr8 (by omega))
            have hbrb : bo ≠ rb := by omega
            have HO8 := hide (show w8.cell? ⟨bo, 0, none⟩ = some (.int .i64 o.code) ∧ w8.cell? ⟨bo, 1, none⟩ = some (.int .i64 o.arg) from ⟨(World.cell?_of_block (w := Yf) (ht8.block bo hbrb)).trans HO7.out.2.1, (World.cell?_of_block (w := Yf) (ht8.block bo hbrb)).trans HO7.out.2.2⟩)
            clear hr7 hr8 ht8 hx HK7 HO7
            by_cases hx0 : x = 0
            · subst hx0
              obtain ⟨e0, e1⟩ := HO8.out
              have HNw := hide (Lies.new w8 #[.int .i64 o.code, .int .i64 o.arg] 42)
              have hbw := HK8.out.grew.size
              have hac : acc.length ≤ 30 := by omega
              go_wp2_with (at_builtin; refine append_op rfl (.tmp 45) (.tmp 47) rfl w.heap.size Ao co acc rfl (HK8.out.own.alloc _) w8.heap.size o 42 rfl HNw.out (by omega) (by simp; omega) ?_; intro zs A9 c9 w9 hz9 hown9 hg9 hat9; have HKn := hide (HK8.out.app _ hg9 hat9 hown9 hz9.out HO.out); have hzl : zs.length = acc.length + 1 := (by rw [hz9.out]; simp); have hzl2 : zs.length ≤ 30 - (m - 1) := (by omega); clear hown9 hg9 hat9 hzl)
              go_roundg (m - 1)
              case measure => omega
              case rel => exact ⟨m - 1, p, s, A9, c9, zs, by omega, rfl, by rw [show ((m - 1 : Nat) : Int) = (m : Int) - 1 by omega], rfl, HKn.out, hzl2⟩
            · have hx1 : ((x : Int) == 0) = false := by simp; omega
              clear hx0
              go_wp2
              go_roundg (m - 1)
              case measure => omega
              case rel => exact ⟨m - 1, p, s, Ao, co, acc, by omega, rfl, by rw [show ((m - 1 : Nat) : Int) = (m : Int) - 1 by omega], rfl, HK8.out, by omega⟩
          | some t =>
            obtain ⟨hok1, hst, lo, hot, hlo⟩ := HN5.out.good t hr
            subst hok1 hst
            have HT := hide (stepShp_ok HsO.out hr (HO.out.get))
            have HOt := hide hot
            have hqY := HK.out.hq
            have HN6 := hide HN5.out
            have b0 := HN6.out.box.cell 0
            have b1 := HN6.out.box.cell 1
            have b2 := HN6.out.box.cell 2
            have b3 := HN6.out.box.cell 3
            have b4 := HN6.out.box.cell 4
            simp only [shCells, jD, jE, jF] at b0 b1 b2 b3 b4
            obtain ⟨⟨c0, c1, c2, c3, c4, f0, f1, f2, f3, f4, t0, t1, t2, t3, t4⟩, _⟩ := Lies.set5 (show Lies Yf q #[.slice p.K s.kinds.length p.c1, .slice p.F s.full.length p.c2, .slice p.S s.stack.length p.c3, .slice p.M s.memo.length p.c4, .bool s.done] 38 from HN6.out.run.box) (.slice p5.K s5.kinds.length p5.c1) (.slice p5.F s5.full.length p5.c2) (.slice p5.S s5.stack.length p5.c3) (.slice p5.M s5.memo.length p5.c4) (.bool s5.done)
            have HKy := hide (HK.out.next HN6.out.bel HOt.out hlo HT.out.1 HT.out.2)
            have hbq : bo ≠ q := by omega
            have HO8 := hide (show (((((Yf.setCell ⟨q, 0, none⟩ (.slice p5.K s5.kinds.length p5.c1)).setCell ⟨q, 1, none⟩ (.slice p5.F s5.full.length p5.c2)).setCell ⟨q, 2, none⟩ (.slice p5.S s5.stack.length p5.c3)).setCell ⟨q, 3, none⟩ (.slice p5.M s5.memo.length p5.c4)).setCell ⟨q, 4, none⟩ (.bool s5.done)).cell? ⟨bo, 0, none⟩ = some (.int .i64 o.code) ∧ (((((Yf.setCell ⟨q, 0, none⟩ (.slice p5.K s5.kinds.length p5.c1)).setCell ⟨q, 1, none⟩ (.slice p5.F s5.full.length p5.c2)).setCell ⟨q, 2, none⟩ (.slice p5.S s5.stack.length p5.c3)).setCell ⟨q, 3, none⟩ (.slice p5.M s5.memo.length p5.c4)).setCell ⟨q, 4, none⟩ (.bool s5.done)).cell? ⟨bo, 1, none⟩ = some (.int .i64 o.arg) from ⟨(World.cell?_of_block (w := Yf) (set5_block (v0 := .slice p5.K s5.kinds.length p5.c1) (v1 := .slice p5.F s5.full.length p5.c2) (v2 := .slice p5.S s5.stack.length p5.c3) (v3 := .slice p5.M s5.memo.length p5.c4) (v4 := .bool s5.done) hbq)).trans hHo.2.1, (World.cell?_of_block (w := Yf) (set5_block (v0 := .slice p5.K s5.kinds.length p5.c1) (v1 := .slice p5.F s5.full.length p5.c2) (v2 := .slice p5.S s5.stack.length p5.c3) (v3 := .slice p5.M s5.memo.length p5.c4) (v4 := .bool s5.done) hbq)).trans hHo.2.2⟩)
            replace HKy := hide (show LkS w (((((Yf.setCell ⟨q, 0, none⟩ (.slice p5.K s5.kinds.length p5.c1)).setCell ⟨q, 1, none⟩ (.slice p5.F s5.full.length p5.c2)).setCell ⟨q, 2, none⟩ (.slice p5.S s5.stack.length p5.c3)).setCell ⟨q, 3, none⟩ (.slice p5.M s5.memo.length p5.c4)).setCell ⟨q, 4, none⟩ (.bool s5.done)) rb w.heap.size q A n c (p5' + 5) p5 s5 Ao co acc from HKy.out)
            clear t0 t1 t2 t3 t4 hr hot HN5 hHo
            go_upto_region 11 with fail
            clear b0 b1 b2 b3 b4 c0 c1 c2 c3 c4 f0 f1 f2 f3 f4
            generalize (((((Yf.setCell ⟨q, 0, none⟩ (.slice p5.K s5.kinds.length p5.c1)).setCell ⟨q, 1, none⟩ (.slice p5.F s5.full.length p5.c2)).setCell ⟨q, 2, none⟩ (.slice p5.S s5.stack.length p5.c3)).setCell ⟨q, 3, none⟩ (.slice p5.M s5.memo.length p5.c4)).setCell ⟨q, 4, none⟩ (.bool s5.done)) = w8 at HKy HO8 ⊢
            have HK8 := hide (show LkS w w8 rb w.heap.size q A n c (p0 + 1 + (30 - (m - 1)) * 6) p5 s5 Ao co acc from by
              obtain ⟨pz, hpz, hrz⟩ := HKy.out.rd
              exact ⟨HKy.out.grew, ⟨pz, by omega, hrz⟩, HKy.out.sb, HKy.out.own, HKy.out.apart, HKy.out.hb, HKy.out.hq, HKy.out.hrb, HKy.out.ok, HKy.out.fit, HKy.out.mem⟩)
            clear HKy
            obtain ⟨e0, e1⟩ := HO8.out
            have HNw := hide (Lies.new w8 #[.int .i64 o.code, .int .i64 o.arg] 42)
            have hbw := HK8.out.grew.size
            have hac : acc.length ≤ 30 := by omega
            go_wp2_with (at_builtin; refine append_op rfl (.tmp 45) (.tmp 47) rfl w.heap.size Ao co acc rfl (HK8.out.own.alloc _) w8.heap.size o 42 rfl HNw.out (by omega) (by simp; omega) ?_; intro zs A9 c9 w9 hz9 hown9 hg9 hat9; have HKn := hide (HK8.out.app _ hg9 hat9 hown9 hz9.out HO.out); have hzl : zs.length = acc.length + 1 := (by rw [hz9.out]; simp); have hzl2 : zs.length ≤ 30 - (m - 1) := (by omega); clear hown9 hg9 hat9 hzl)
            go_roundg (m - 1)
            case measure => omega
            case rel => exact ⟨m - 1, p5, s5, A9, c9, zs, by omega, rfl, by rw [show ((m - 1 : Nat) : Int) = (m : Int) - 1 by omega], rfl, HKn.out, hzl2⟩
      · have t19 : (o.code == 19) = false := by simpa using h19
        clear h19
        go_wp2_with fail
        replace HKr := hide (show LkS w wo rb w.heap.size q A n c (p5' + 5) p s Ao co acc from by
          obtain ⟨pz, hpz, hrz⟩ := HKr.out.rd
          exact ⟨HKr.out.grew, ⟨pz, by omega, hrz⟩, HKr.out.sb, HKr.out.own, HKr.out.apart, HKr.out.hb, HKr.out.hq, HKr.out.hrb, HKr.out.ok, HKr.out.fit, HKr.out.mem⟩)
        clear lo
        refine wp_region_held_drew (S := HeldO q bo #[.slice p.K s.kinds.length p.c1, .slice p.F s.full.length p.c2, .slice p.S s.stack.length p.c3, .slice p.M s.memo.length p.c4, .bool s.done] (.int .i64 o.code) (.int .i64 o.arg)) (by kernel_rfl) ⟨HKr.out.sb.box, hc0, hc1⟩ (fun hHeld => ?_)
        have HK := hide (HKr.out.below ((Below.refl wo.heap.size wo).drew))
        have hbX0 : bo < wo.drew.heap.size := hbo
        clear hc0 hc1 HKr hbo
        generalize wo.drew = X at HK hHeld hbX0 ⊢
        have HSb := hide HK.out.sb
        have hqX0 : q < X.heap.size := HK.out.sb.box.lt
        refine wpAnyH_take (i := 0) (oi := ⟨some 31, _, _, _, _, _⟩) (v := ?_) rfl (by kernel_rfl) (by kernel_rfl) (by kernel_rfl) (fun _ _ _ h => h) (Or.inl ⟨by rfl, ?_⟩) (by assumption) ?_
        rotate_left
        · (intro w hSw; obtain ⟨hS1, hS2, hS3⟩ := hSw; have y0 := hS1.cell 0; have y1 := hS1.cell 1; have y2 := hS1.cell 2; have y3 := hS1.cell 3; have y4 := hS1.cell 4; simp only [jD, jE, jF] at y0 y1 y2 y3 y4; go_simp; try with_reducible rfl)
        try simp only [Act.put, jA, jB, jC]
        refine wpAnyH_take (i := 2) (oi := ⟨some 33, _, _, _, _, _⟩) (v := ?_) rfl (by kernel_rfl) (by kernel_rfl) (by kernel_rfl) (fun _ _ _ h => h) (Or.inl ⟨by rfl, ?_⟩) (by assumption) ?_
        rotate_left
        · (intro w hSw; obtain ⟨hS1, hS2, hS3⟩ := hSw; have y0 := hS1.cell 0; have y1 := hS1.cell 1; have y2 := hS1.cell 2; have y3 := hS1.cell 3; have y4 := hS1.cell 4; simp only [jD, jE, jF] at y0 y1 y2 y3 y4; go_simp; try with_reducible rfl)
        try simp only [Act.put, jA, jB, jC]
        refine wpAnyH_ready (rs := [1, 7]) (by kernel_rfl) (by simp) ?_
        refine AllReadyH.cons (o := ⟨some 32, _, _, _, _, _⟩) rfl (fun K hK => ?_) ?_
        · skip
          go_simp
          go_at_call 34
          refine (copyShapes_any p s X (HSb.out.own.at_ Hsm.out) (by omega) (by omega) (by omega) (by omega)).mono ?_
          rintro e v1 ⟨pc, rfl, hoc, hbn⟩
          have hqX : q < X.heap.size := HSb.out.box.lt
          have hbX : bo < X.heap.size := by omega
          have HBX := hide hbn
          have HC := hide hoc
          clear hoc hbn
          simp only [shVal, shCells]
          refine hK.out _ _ ?_ (fun hH => ?_)
          · exact hHeld.below HBX.out hqX hbX
          clear hK K hHeld
          have hHeld := hH
          clear hH
          try simp only [Act.put, jA, jB, jC]
          refine wpAnyH_ready (rs := [3, 7]) (by kernel_rfl) (by simp) ?_
          refine AllReadyH.cons (o := ⟨some 34, _, _, _, _, _⟩) rfl (fun K hK => ?_) ?_
          · skip
            go_simp
            go_at_call 33
            refine (stepShapes_any pc s o X.heap.size v1 HC.out HBX.out.size Hsm.out HO.out).mono ?_
            rintro e v2 ⟨p5, s5, ok, rfl, hb2, hfr2, hg2, hn2⟩
            have HB2 := hide hb2
            have HG2 := hide hg2
            have HN2 := hide hn2
            have HFr := hide hfr2
            have HBY := hide (HBX.out.trans hb2)
            clear hb2 hg2 hn2 hfr2
            simp only [shVal, shCells]
            refine hK.out _ _ ?_ (fun hH => ?_)
            · exact hHeld.below HB2.out hqX hbX
            clear hK K hHeld
            have hHeld := hH
            clear hH
            try simp only [Act.put, jA, jB, jC]
            refine wpAnyH_take (i := 4) (oi := ⟨some 30, _, _, _, _, _⟩) (v := ?_) rfl (by kernel_rfl) (by kernel_rfl) (by kernel_rfl) (fun _ _ _ h => h) (Or.inl ⟨by rfl, ?_⟩) (by assumption) ?_
            rotate_left
            · (intro w hSw; obtain ⟨hS1, hS2, hS3⟩ := hSw; have y0 := hS1.cell 0; have y1 := hS1.cell 1; have y2 := hS1.cell 2; have y3 := hS1.cell 3; have y4 := hS1.cell 4; simp only [jD, jE, jF] at y0 y1 y2 y3 y4; go_simp; try with_reducible rfl)
            try simp only [Act.put, jA, jB, jC]
            refine wpAnyH_take (i := 5) (oi := ⟨some 35, _, _, _, _, _⟩) (v := ?_) rfl (by kernel_rfl) (by kernel_rfl) (by kernel_rfl) (fun _ _ _ h => h) (Or.inl ⟨by rfl, ?_⟩) (by assumption) ?_
            rotate_left
            · (intro w hSw; obtain ⟨hS1, hS2, hS3⟩ := hSw; have y0 := hS1.cell 0; have y1 := hS1.cell 1; have y2 := hS1.cell 2; have y3 := hS1.cell 3; have y4 := hS1.cell 4; simp only [jD, jE, jF] at y0 y1 y2 y3 y4; go_simp; try with_reducible rfl)
            try simp only [Act.put, jA, jB, jC]
            refine wpAnyH_take (i := 6) (oi := ⟨some 36, _, _, _, _, _⟩) (v := ?_) rfl (by kernel_rfl) (by kernel_rfl) (by kernel_rfl) (fun _ _ _ h => h) (Or.inl ⟨by rfl, ?_⟩) (by assumption) ?_
            rotate_left
            · (intro w hSw; obtain ⟨hS1, hS2, hS3⟩ := hSw; have y0 := hS1.cell 0; have y1 := hS1.cell 1; have y2 := hS1.cell 2; have y3 := hS1.cell 3; have y4 := hS1.cell 4; simp only [jD, jE, jF] at y0 y1 y2 y3 y4; go_simp; try with_reducible rfl)
            try simp only [Act.put, jA, jB, jC]
            refine wpAnyH_ready (rs := [7]) (by kernel_rfl) (by simp) ?_
            refine AllReadyH.cons (o := ⟨some 7, _, _, _, _, _⟩) rfl (fun K hK => ?_) AllReadyH.nil
            go_simp
            have Lz := hide (Lies.new v2 #[.slice none 0 0, .slice none 0 0, .slice none 0 0, .slice none 0 0, .bool false] 38)
            have hsz : X.heap.size ≤ v2.heap.size := HBY.out.size
            have HSy := hide ((HSb.out.below HBY.out).alloc (.cells #[.slice none 0 0, .slice none 0 0, .slice none 0 0, .slice none 0 0, .bool false] 38))
            have HBz := hide (HBY.out.alloc hsz (.cells #[.slice none 0 0, .slice none 0 0, .slice none 0 0, .slice none 0 0, .bool false] 38))
            obtain ⟨nb, hnb⟩ : ∃ n, n = v2.heap.size := ⟨_, rfl⟩
            rw [← hnb] at Lz hsz
            have hqn : q ≠ nb := by omega
            have hbn : bo ≠ nb := by omega
            have HN := hide (BoxN.mk' (X := X) (p5 := p5) (s5 := s5) (ok := ok) (r := stepShp s o) (lo := X.heap.size) HSy.out Lz.out HBz.out (by omega) (HSb.out.own.off (.inr hsz)) hqn (by omega) (fun t ht => by
              obtain ⟨g1, g2, g3, g4⟩ := HG2.out t ht
              exact ⟨g1, g2, g3.alloc _, g3.off (.inr (by omega))⟩) HN2.out)
            refine hK.out _ _ ?_ (fun hH => ?_)
            · exact hHeld.below ((Below.refl v2.heap.size v2).alloc (Nat.le_refl _) _) (by omega) (by omega)
            clear hK K hHeld
            have hHeld := hH
            clear hH
            try simp only [Act.put, jA, jB, jC]
            generalize v2.alloc (.cells #[.slice none 0 0, .slice none 0 0, .slice none 0 0, .slice none 0 0, .bool false] 38) = Y at HSy HBz Lz HN hHeld ⊢
            rw [← hnb]
            clear hnb
            refine wpAnyH_ready (rs := [8]) (by kernel_rfl) (by simp) ?_
            refine AllReadyH.cons (o := ⟨none, _, _, _, _, _⟩) rfl (fun K hK => ?_) AllReadyH.nil
            obtain ⟨⟨c0, c1, c2, c3, c4, f0, f1, f2, f3, f4, t0, t1, t2, t3, t4⟩, _⟩ := Lies.set5 Lz.out (.slice p5.K s5.kinds.length p5.c1) (.slice p5.F s5.full.length p5.c2) (.slice p5.S s5.stack.length p5.c3) (.slice p5.M s5.memo.length p5.c4) (.bool s5.done)
            go_simp
            refine hK.out _ _ ?_ (fun hH => ?_)
            · exact (hHeld.set5 hqn hbn : _)
            clear hK K hHeld
            have hHeld := hH
            clear hH
            try simp only [Act.put, jA, jB, jC]
            refine wpAnyH_ready (rs := [9]) (by kernel_rfl) (by simp) ?_
            refine AllReadyH.cons (o := ⟨some 8, _, _, _, _, _⟩) rfl (fun K hK => ?_) AllReadyH.nil
            go_simp
            refine hK.out _ _ ?_ (fun hH => ?_)
            · exact hHeld
            clear hK K hHeld
            have hHeld := hH
            clear hH
            try simp only [Act.put, jA, jB, jC]
            refine wpAnyH_done (by kernel_rfl) ?_ _
            have HN5 : Hid (BoxN X (((((Y.setCell ⟨nb, 0, none⟩ (.slice p5.K s5.kinds.length p5.c1)).setCell ⟨nb, 1, none⟩ (.slice p5.F s5.full.length p5.c2)).setCell ⟨nb, 2, none⟩ (.slice p5.S s5.stack.length p5.c3)).setCell ⟨nb, 3, none⟩ (.slice p5.M s5.memo.length p5.c4)).setCell ⟨nb, 4, none⟩ (.bool s5.done)) w.heap.size q p s nb p5 s5 ok (stepShp s o)) := HN
            have hHo : HeldO q bo #[.slice p.K s.kinds.length p.c1, .slice p.F s.full.length p.c2, .slice p.S s.stack.length p.c3, .slice p.M s.memo.length p.c4, .bool s.done] (.int .i64 o.code) (.int .i64 o.arg) (((((Y.setCell ⟨nb, 0, none⟩ (.slice p5.K s5.kinds.length p5.c1)).setCell ⟨nb, 1, none⟩ (.slice p5.F s5.full.length p5.c2)).setCell ⟨nb, 2, none⟩ (.slice p5.S s5.stack.length p5.c3)).setCell ⟨nb, 3, none⟩ (.slice p5.M s5.memo.length p5.c4)).setCell ⟨nb, 4, none⟩ (.bool s5.done)) := hHeld
            clear hHeld HN c0 c1 c2 c3 c4 f0 f1 f2 f3 f4 t0 t1 t2 t3 t4
            generalize (((((Y.setCell ⟨nb, 0, none⟩ (.slice p5.K s5.kinds.length p5.c1)).setCell ⟨nb, 1, none⟩ (.slice p5.F s5.full.length p5.c2)).setCell ⟨nb, 2, none⟩ (.slice p5.S s5.stack.length p5.c3)).setCell ⟨nb, 3, none⟩ (.slice p5.M s5.memo.length p5.c4)).setCell ⟨nb, 4, none⟩ (.bool s5.done)) = Yf at HN5 hHo ⊢
            clear Lz HSb
            cases hr : stepShp s o with
            | none =>
              obtain rfl := HN5.out.bad hr
              have HK7 := hide (HK.out.below HN5.out.bel)
              obtain ⟨p7, hp7, hr7⟩ := HK7.out.rd
              have HO7 := hide hHo
              clear hr HN5 hHo
              go_wp2_with fail
              refine (pick_any rb A n c p7 16 Yf hr7 (by omega) (by omega)).mono ?_
              rintro e w8 ⟨⟨x, rfl, hx, _⟩, hr8, ht8⟩
              have HK8 := hide (HK7.out.turned (P' := p0 + 1 + (30 - (m - 1)) * 6) (Grew.of_turn ht8) hr8 (by omega))
              have hbrb : bo ≠ rb := by omega
              have HO8 := hide (show w8.cell? ⟨bo, 0, none⟩ = some (.int .i64 o.code) ∧ w8.cell? ⟨bo, 1, none⟩ = some (.int .i64 o.arg) from ⟨(World.cell?_of_block (w := Yf) (ht8.block bo hbrb)).trans HO7.out.2.1, (World.cell?_of_block (w := Yf) (ht8.block bo hbrb)).trans HO7.out.2.2⟩)
              clear hr7 hr8 ht8 hx HK7 HO7
              by_cases hx0 : x = 0
              · subst hx0
                obtain ⟨e0, e1⟩ := HO8.out
                have HNw := hide (Lies.new w8 #[.int .i64 o.code, .int .i64 o.arg] 42)
                have hbw := HK8.out.grew.size
                have hac : acc.length ≤ 30 := by omega
                go_wp2_with (at_builtin; refine append_op rfl (.tmp 45) (.tmp 47) rfl w.heap.size Ao co acc rfl (HK8.out.own.alloc _) w8.heap.size o 42 rfl HNw.out (by omega) (by simp; omega) ?_; intro zs A9 c9 w9 hz9 hown9 hg9 hat9; have HKn := hide (HK8.out.app _ hg9 hat9 hown9 hz9.out HO.out); have hzl : zs.length = acc.length + 1 := (by rw [hz9.out]; simp); have hzl2 : zs.length ≤ 30 - (m - 1) := (by omega); clear hown9 hg9 hat9 hzl)
                go_roundg (m - 1)
                case measure => omega
                case rel => exact ⟨m - 1, p, s, A9, c9, zs, by omega, rfl, by rw [show ((m - 1 : Nat) : Int) = (m : Int) - 1 by omega], rfl, HKn.out, hzl2⟩
              · have hx1 : ((x : Int) == 0) = false := by simp; omega
                clear hx0
                go_wp2
                go_roundg (m - 1)
                case measure => omega
                case rel => exact ⟨m - 1, p, s, Ao, co, acc, by omega, rfl, by rw [show ((m - 1 : Nat) : Int) = (m : Int) - 1 by omega], rfl, HK8.out, by omega⟩
            | some t =>
              obtain ⟨hok1, hst, lo, hot, hlo⟩ := HN5.out.good t hr
              subst hok1 hst
              have HT := hide (stepShp_ok HsO.out hr (HO.out.get))
              have HOt := hide hot
              have hqY := HK.out.hq
              have HN6 := hide HN5.out
              have b0 := HN6.out.box.cell 0
              have b1 := HN6.out.box.cell 1
              have b2 := HN6.out.box.cell 2
              have b3 := HN6.out.box.cell 3
              have b4 := HN6.out.box.cell 4
              simp only [shCells, jD, jE, jF] at b0 b1 b2 b3 b4
              obtain ⟨⟨c0, c1, c2, c3, c4, f0, f1, f2, f3, f4, t0, t1, t2, t3, t4⟩, _⟩ := Lies.set5 (show Lies Yf q #[.slice p.K s.kinds.length p.c1, .slice p.F s.full.length p.c2, .slice p.S s.stack.length p.c3, .slice p.M s.memo.length p.c4, .bool s.done] 38 from HN6.out.run.box) (.slice p5.K s5.kinds.length p5.c1) (.slice p5.F s5.full.length p5.c2) (.slice p5.S s5.stack.length p5.c3) (.slice p5.M s5.memo.length p5.c4) (.bool s5.done)
              have HKy := hide (HK.out.next HN6.out.bel HOt.out hlo HT.out.1 HT.out.2)
              have hbq : bo ≠ q := by omega
              have HO8 := hide (show (((((Yf.setCell ⟨q, 0, none⟩ (.slice p5.K s5.kinds.length p5.c1)).setCell ⟨q, 1, none⟩ (.slice p5.F s5.full.length p5.c2)).setCell ⟨q, 2, none⟩ (.slice p5.S s5.stack.length p5.c3)).setCell ⟨q, 3, none⟩ (.slice p5.M s5.memo.length p5.c4)).setCell ⟨q, 4, none⟩ (.bool s5.done)).cell? ⟨bo, 0, none⟩ = some (.int .i64 o.code) ∧ (((((Yf.setCell ⟨q, 0, none⟩ (.slice p5.K s5.kinds.length p5.c1)).setCell ⟨q, 1, none⟩ (.slice p5.F s5.full.length p5.c2)).setCell ⟨q, 2, none⟩ (.slice p5.S s5.stack.length p5.c3)).setCell ⟨q, 3, none⟩ (.slice p5.M s5.memo.length p5.c4)).setCell ⟨q, 4, none⟩ (.bool s5.done)).cell? ⟨bo, 1, none⟩ = some (.int .i64 o.arg) from ⟨(World.cell?_of_block (w := Yf) (set5_block (v0 := .slice p5.K s5.kinds.length p5.c1) (v1 := .slice p5.F s5.full.length p5.c2) (v2 := .slice p5.S s5.stack.length p5.c3) (v3 := .slice p5.M s5.memo.length p5.c4) (v4 := .bool s5.done) hbq)).trans hHo.2.1, (World.cell?_of_block (w := Yf) (set5_block (v0 := .slice p5.K s5.kinds.length p5.c1) (v1 := .slice p5.F s5.full.length p5.c2) (v2 := .slice p5.S s5.stack.length p5.c3) (v3 := .slice p5.M s5.memo.length p5.c4) (v4 := .bool s5.done) hbq)).trans hHo.2.2⟩)
              replace HKy := hide (show LkS w (((((Yf.setCell ⟨q, 0, none⟩ (.slice p5.K s5.kinds.length p5.c1)).setCell ⟨q, 1, none⟩ (.slice p5.F s5.full.length p5.c2)).setCell ⟨q, 2, none⟩ (.slice p5.S s5.stack.length p5.c3)).setCell ⟨q, 3, none⟩ (.slice p5.M s5.memo.length p5.c4)).setCell ⟨q, 4, none⟩ (.bool s5.done)) rb w.heap.size q A n c (p5' + 5) p5 s5 Ao co acc from HKy.out)
              clear t0 t1 t2 t3 t4 hr hot HN5 hHo
              go_upto_region 11 with fail
              clear b0 b1 b2 b3 b4 c0 c1 c2 c3 c4 f0 f1 f2 f3 f4
              generalize (((((Yf.setCell ⟨q, 0, none⟩ (.slice p5.K s5.kinds.length p5.c1)).setCell ⟨q, 1, none⟩ (.slice p5.F s5.full.length p5.c2)).setCell ⟨q, 2, none⟩ (.slice p5.S s5.stack.length p5.c3)).setCell ⟨q, 3, none⟩ (.slice p5.M s5.memo.length p5.c4)).setCell ⟨q, 4, none⟩ (.bool s5.done)) = w8 at HKy HO8 ⊢
              have HK8 := hide (show LkS w w8 rb w.heap.size q A n c (p0 + 1 + (30 - (m - 1)) * 6) p5 s5 Ao co acc from by
                obtain ⟨pz, hpz, hrz⟩ := HKy.out.rd
                exact ⟨HKy.out.grew, ⟨pz, by omega, hrz⟩, HKy.out.sb, HKy.out.own, HKy.out.apart, HKy.out.hb, HKy.out.hq, HKy.out.hrb, HKy.out.ok, HKy.out.fit, HKy.out.mem⟩)
              clear HKy
              obtain ⟨e0, e1⟩ := HO8.out
              have HNw := hide (Lies.new w8 #[.int .i64 o.code, .int .i64 o.arg] 42)
              have hbw := HK8.out.grew.size
              have hac : acc.length ≤ 30 := by omega
              go_wp2_with (at_builtin; refine append_op rfl (.tmp 45) (.tmp 47) rfl w.heap.size Ao co acc rfl (HK8.out.own.alloc _) w8.heap.size o 42 rfl HNw.out (by omega) (by simp; omega) ?_; intro zs A9 c9 w9 hz9 hown9 hg9 hat9; have HKn := hide (HK8.out.app _ hg9 hat9 hown9 hz9.out HO.out); have hzl : zs.length = acc.length + 1 := (by rw [hz9.out]; simp); have hzl2 : zs.length ≤ 30 - (m - 1) := (by omega); clear hown9 hg9 hat9 hzl)
              go_roundg (m - 1)
              case measure => omega
              case rel => exact ⟨m - 1, p5, s5, A9, c9, zs, by omega, rfl, by rw [show ((m - 1 : Nat) : Int) = (m : Int) - 1 by omega], rfl, HKn.out, hzl2⟩
          refine AllReadyH.cons (o := ⟨some 7, _, _, _, _, _⟩) rfl (fun K hK => ?_) AllReadyH.nil
          go_simp
          obtain ⟨nb, hnb⟩ : ∃ n, n = v1.heap.size := ⟨_, rfl⟩
          have Lz0 := Lies.new v1 #[.slice none 0 0, .slice none 0 0, .slice none 0 0, .slice none 0 0, .bool false] 38
          rw [← hnb] at Lz0
          have hsz : X.heap.size ≤ nb := by have := HBX.out.size; omega
          have hpc : pc.Off nb := HC.out.off (.inr (by omega))
          replace HC := hide (HC.out.alloc (.cells #[.slice none 0 0, .slice none 0 0, .slice none 0 0, .slice none 0 0, .bool false] 38))
          replace HBX := hide (HBX.out.alloc HBX.out.size (.cells #[.slice none 0 0, .slice none 0 0, .slice none 0 0, .slice none 0 0, .bool false] 38))
          refine hK.out _ _ ?_ (fun hH => ?_)
          · exact hHeld.below ((Below.refl v1.heap.size v1).alloc (Nat.le_refl _) _) (by omega) (by omega)
          clear hK K hHeld
          have hHeld := hH
          clear hH
          try simp only [Act.put, jA, jB, jC]
          have hnz := Lz0.lt
          generalize v1.alloc (.cells #[.slice none 0 0, .slice none 0 0, .slice none 0 0, .slice none 0 0, .bool false] 38) = Z at HC HBX Lz0 hnz hHeld ⊢
          rw [← hnb]
          clear hnb
          refine wpAnyH_ready (rs := [3]) (by kernel_rfl) (by simp) ?_
          refine AllReadyH.cons (o := ⟨some 34, _, _, _, _, _⟩) rfl (fun K hK => ?_) AllReadyH.nil
          go_simp
          go_at_call 33
          refine (stepShapes_any pc s o X.heap.size Z HC.out HBX.out.size Hsm.out HO.out).mono ?_
          rintro e v2 ⟨p5, s5, ok, rfl, hb2, hfr2, hg2, hn2⟩
          have HB2 := hide hb2
          have HG2 := hide hg2
          have HN2 := hide hn2
          have HFr := hide hfr2
          have HBY := hide (HBX.out.trans hb2)
          clear hb2 hg2 hn2 hfr2
          simp only [shVal, shCells]
          refine hK.out _ _ ?_ (fun hH => ?_)
          · exact hHeld.below HB2.out hqX hbX
          clear hK K hHeld
          have hHeld := hH
          clear hH
          try simp only [Act.put, jA, jB, jC]
          refine wpAnyH_take (i := 4) (oi := ⟨some 30, _, _, _, _, _⟩) (v := ?_) rfl (by kernel_rfl) (by kernel_rfl) (by kernel_rfl) (fun _ _ _ h => h) (Or.inl ⟨by rfl, ?_⟩) (by assumption) ?_
          rotate_left
          · (intro w hSw; obtain ⟨hS1, hS2, hS3⟩ := hSw; have y0 := hS1.cell 0; have y1 := hS1.cell 1; have y2 := hS1.cell 2; have y3 := hS1.cell 3; have y4 := hS1.cell 4; simp only [jD, jE, jF] at y0 y1 y2 y3 y4; go_simp; try with_reducible rfl)
          try simp only [Act.put, jA, jB, jC]
          refine wpAnyH_take (i := 5) (oi := ⟨some 35, _, _, _, _, _⟩) (v := ?_) rfl (by kernel_rfl) (by kernel_rfl) (by kernel_rfl) (fun _ _ _ h => h) (Or.inl ⟨by rfl, ?_⟩) (by assumption) ?_
          rotate_left
          · (intro w hSw; obtain ⟨hS1, hS2, hS3⟩ := hSw; have y0 := hS1.cell 0; have y1 := hS1.cell 1; have y2 := hS1.cell 2; have y3 := hS1.cell 3; have y4 := hS1.cell 4; simp only [jD, jE, jF] at y0 y1 y2 y3 y4; go_simp; try with_reducible rfl)
          try simp only [Act.put, jA, jB, jC]
          refine wpAnyH_take (i := 6) (oi := ⟨some 36, _, _, _, _, _⟩) (v := ?_) rfl (by kernel_rfl) (by kernel_rfl) (by kernel_rfl) (fun _ _ _ h => h) (Or.inl ⟨by rfl, ?_⟩) (by assumption) ?_
          rotate_left
          · (intro w hSw; obtain ⟨hS1, hS2, hS3⟩ := hSw; have y0 := hS1.cell 0; have y1 := hS1.cell 1; have y2 := hS1.cell 2; have y3 := hS1.cell 3; have y4 := hS1.cell 4; simp only [jD, jE, jF] at y0 y1 y2 y3 y4; go_simp; try with_reducible rfl)
          try simp only [Act.put, jA, jB, jC]
          have Lz := hide ((HFr.out nb hnz hpc).trans Lz0)
          replace Lz := hide (show Lies v2 nb #[.slice none 0 0, .slice none 0 0, .slice none 0 0, .slice none 0 0, .bool false] 38 from Lz.out)
          have hqn : q ≠ nb := by omega
          have hbn : bo ≠ nb := by omega
          have HN := hide (BoxN.mk' (X := X) (p5 := p5) (s5 := s5) (ok := ok) (r := stepShp s o) (lo := X.heap.size) (HSb.out.below HBY.out) Lz.out HBY.out (by omega) (HSb.out.own.off (.inr hsz)) hqn (by omega) (fun t ht => by
            obtain ⟨g1, g2, g3, g4⟩ := HG2.out t ht
            exact ⟨g1, g2, g3, g4 nb hnz hpc⟩) HN2.out)
          clear Lz0 hnz hpc
          generalize v2 = Y at Lz HN hHeld ⊢
          refine wpAnyH_ready (rs := [8]) (by kernel_rfl) (by simp) ?_
          refine AllReadyH.cons (o := ⟨none, _, _, _, _, _⟩) rfl (fun K hK => ?_) AllReadyH.nil
          obtain ⟨⟨c0, c1, c2, c3, c4, f0, f1, f2, f3, f4, t0, t1, t2, t3, t4⟩, _⟩ := Lies.set5 Lz.out (.slice p5.K s5.kinds.length p5.c1) (.slice p5.F s5.full.length p5.c2) (.slice p5.S s5.stack.length p5.c3) (.slice p5.M s5.memo.length p5.c4) (.bool s5.done)
          go_simp
          refine hK.out _ _ ?_ (fun hH => ?_)
          · exact (hHeld.set5 hqn hbn : _)
          clear hK K hHeld
          have hHeld := hH
          clear hH
          try simp only [Act.put, jA, jB, jC]
          refine wpAnyH_ready (rs := [9]) (by kernel_rfl) (by simp) ?_
          refine AllReadyH.cons (o := ⟨some 8, _, _, _, _, _⟩) rfl (fun K hK => ?_) AllReadyH.nil
          go_simp
          refine hK.out _ _ ?_ (fun hH => ?_)
          · exact hHeld
          clear hK K hHeld
          have hHeld := hH
          clear hH
          try simp only [Act.put, jA, jB, jC]
          refine wpAnyH_done (by kernel_rfl) ?_ _
          have HN5 : Hid (BoxN X (((((Y.setCell ⟨nb, 0, none⟩ (.slice p5.K s5.kinds.length p5.c1)).setCell ⟨nb, 1, none⟩ (.slice p5.F s5.full.length p5.c2)).setCell ⟨nb, 2, none⟩ (.slice p5.S s5.stack.length p5.c3)).setCell ⟨nb, 3, none⟩ (.slice p5.M s5.memo.length p5.c4)).setCell ⟨nb, 4, none⟩ (.bool s5.done)) w.heap.size q p s nb p5 s5 ok (stepShp s o)) := HN
          have hHo : HeldO q bo #[.slice p.K s.kinds.length p.c1, .slice p.F s.full.length p.c2, .slice p.S s.stack.length p.c3, .slice p.M s.memo.length p.c4, .bool s.done] (.int .i64 o.code) (.int .i64 o.arg) (((((Y.setCell ⟨nb, 0, none⟩ (.slice p5.K s5.kinds.length p5.c1)).setCell ⟨nb, 1, none⟩ (.slice p5.F s5.full.length p5.c2)).setCell ⟨nb, 2, none⟩ (.slice p5.S s5.stack.length p5.c3)).setCell ⟨nb, 3, none⟩ (.slice p5.M s5.memo.length p5.c4)).setCell ⟨nb, 4, none⟩ (.bool s5.done)) := hHeld
          clear hHeld HN c0 c1 c2 c3 c4 f0 f1 f2 f3 f4 t0 t1 t2 t3 t4
          generalize (((((Y.setCell ⟨nb, 0, none⟩ (.slice p5.K s5.kinds.length p5.c1)).setCell ⟨nb, 1, none⟩ (.slice p5.F s5.full.length p5.c2)).setCell ⟨nb, 2, none⟩ (.slice p5.S s5.stack.length p5.c3)).setCell ⟨nb, 3, none⟩ (.slice p5.M s5.memo.length p5.c4)).setCell ⟨nb, 4, none⟩ (.bool s5.done)) = Yf at HN5 hHo ⊢
          clear Lz HSb
          cases hr : stepShp s o with
          | none =>
            obtain rfl := HN5.out.bad hr
            have HK7 := hide (HK.out.below HN5.out.bel)
            obtain ⟨p7, hp7, hr7⟩ := HK7.out.rd
            have HO7 := hide hHo
            clear hr HN5 hHo
            go_wp2_with fail
            refine (pick_any rb A n c p7 16 Yf hr7 (by omega) (by omega)).mono ?_
            rintro e w8 ⟨⟨x, rfl, hx, _⟩, hr8, ht8⟩
            have HK8 := hide (HK7.out.turned (P' := p0 + 1 + (30 - (m - 1)) * 6) (Grew.of_turn ht8) hr8 (by omega))
            have hbrb : bo ≠ rb := by omega
            have HO8 := hide (show w8.cell? ⟨bo, 0, none⟩ = some (.int .i64 o.code) ∧ w8.cell? ⟨bo, 1, none⟩ = some (.int .i64 o.arg) from ⟨(World.cell?_of_block (w := Yf) (ht8.block bo hbrb)).trans HO7.out.2.1, (World.cell?_of_block (w := Yf) (ht8.block bo hbrb)).trans HO7.out.2.2⟩)
            clear hr7 hr8 ht8 hx HK7 HO7
            by_cases hx0 : x = 0
            · subst hx0
              obtain ⟨e0, e1⟩ := HO8.out
              have HNw := hide (Lies.new w8 #[.int .i64 o.code, .int .i64 o.arg] 42)
              have hbw := HK8.out.grew.size
              have hac : acc.length ≤ 30 := by omega
              go_wp2_with (at_builtin; refine append_op rfl (.tmp 45) (.tmp 47) rfl w.heap.size Ao co acc rfl (HK8.out.own.alloc _) w8.heap.size o 42 rfl HNw.out (by omega) (by simp; omega) ?_; intro zs A9 c9 w9 hz9 hown9 hg9 hat9; have HKn := hide (HK8.out.app _ hg9 hat9 hown9 hz9.out HO.out); have hzl : zs.length = acc.length + 1 := (by rw [hz9.out]; simp); have hzl2 : zs.length ≤ 30 - (m - 1) := (by omega); clear hown9 hg9 hat9 hzl)
              go_roundg (m - 1)
              case measure => omega
              case rel => exact ⟨m - 1, p, s, A9, c9, zs, by omega, rfl, by rw [show ((m - 1 : Nat) : Int) = (m : Int) - 1 by omega], rfl, HKn.out, hzl2⟩
            · have hx1 : ((x : Int) == 0) = false := by simp; omega
              clear hx0
              go_wp2
              go_roundg (m - 1)
              case measure => omega
              case rel => exact ⟨m - 1, p, s, Ao, co, acc, by omega, rfl, by rw [show ((m - 1 : Nat) : Int) = (m : Int) - 1 by omega], rfl, HK8.out, by omega⟩
          | some t =>
            obtain ⟨hok1, hst, lo, hot, hlo⟩ := HN5.out.good t hr
            subst hok1 hst
            have HT := hide (stepShp_ok HsO.out hr (HO.out.get))
            have HOt := hide hot
            have hqY := HK.out.hq
            have HN6 := hide HN5.out
            have b0 := HN6.out.box.cell 0
            have b1 := HN6.out.box.cell 1
            have b2 := HN6.out.box.cell 2
            have b3 := HN6.out.box.cell 3
            have b4 := HN6.out.box.cell 4
            simp only [shCells, jD, jE, jF] at b0 b1 b2 b3 b4
            obtain ⟨⟨c0, c1, c2, c3, c4, f0, f1, f2, f3, f4, t0, t1, t2, t3, t4⟩, _⟩ := Lies.set5 (show Lies Yf q #[.slice p.K s.kinds.length p.c1, .slice p.F s.full.length p.c2, .slice p.S s.stack.length p.c3, .slice p.M s.memo.length p.c4, .bool s.done] 38 from HN6.out.run.box) (.slice p5.K s5.kinds.length p5.c1) (.slice p5.F s5.full.length p5.c2) (.slice p5.S s5.stack.length p5.c3) (.slice p5.M s5.memo.length p5.c4) (.bool s5.done)
            have HKy := hide (HK.out.next HN6.out.bel HOt.out hlo HT.out.1 HT.out.2)
            have hbq : bo ≠ q := by omega
            have HO8 := hide (show (((((Yf.setCell ⟨q, 0, none⟩ (.slice p5.K s5.kinds.length p5.c1)).setCell ⟨q, 1, none⟩ (.slice p5.F s5.full.length p5.c2)).setCell ⟨q, 2, none⟩ (.slice p5.S s5.stack.length p5.c3)).setCell ⟨q, 3, none⟩ (.slice p5.M s5.memo.length p5.c4)).setCell ⟨q, 4, none⟩ (.bool s5.done)).cell? ⟨bo, 0, none⟩ = some (.int .i64 o.code) ∧ (((((Yf.setCell ⟨q, 0, none⟩ (.slice p5.K s5.kinds.length p5.c1)).setCell ⟨q, 1, none⟩ (.slice p5.F s5.full.length p5.c2)).setCell ⟨q, 2, none⟩ (.slice p5.S s5.stack.length p5.c3)).setCell ⟨q, 3, none⟩ (.slice p5.M s5.memo.length p5.c4)).setCell ⟨q, 4, none⟩ (.bool s5.done)).cell? ⟨bo, 1, none⟩ = some (.int .i64 o.arg) from ⟨(World.cell?_of_block (w := Yf) (set5_block (v0 := .slice p5.K s5.kinds.length p5.c1) (v1 := .slice p5.F s5.full.length p5.c2) (v2 := .slice p5.S s5.stack.length p5.c3) (v3 := .slice p5.M s5.memo.length p5.c4) (v4 := .bool s5.done) hbq)).trans hHo.2.1, (World.cell?_of_block (w := Yf) (set5_block (v0 := .slice p5.K s5.kinds.length p5.c1) (v1 := .slice p5.F s5.full.length p5.c2) (v2 := .slice p5.S s5.stack.length p5.c3) (v3 := .slice p5.M s5.memo.length p5.c4) (v4 := .bool s5.done) hbq)).trans hHo.2.2⟩)
            replace HKy := hide (show LkS w (((((Yf.setCell ⟨q, 0, none⟩ (.slice p5.K s5.kinds.length p5.c1)).setCell ⟨q, 1, none⟩ (.slice p5.F s5.full.length p5.c2)).setCell ⟨q, 2, none⟩ (.slice p5.S s5.stack.length p5.c3)).setCell ⟨q, 3, none⟩ (.slice p5.M s5.memo.length p5.c4)).setCell ⟨q, 4, none⟩ (.bool s5.done)) rb w.heap.size q A n c (p5' + 5) p5 s5 Ao co acc from HKy.out)
            clear t0 t1 t2 t3 t4 hr hot HN5 hHo
            go_upto_region 11 with fail
            clear b0 b1 b2 b3 b4 c0 c1 c2 c3 c4 f0 f1 f2 f3 f4
            generalize (((((Yf.setCell ⟨q, 0, none⟩ (.slice p5.K s5.kinds.length p5.c1)).setCell ⟨q, 1, none⟩ (.slice p5.F s5.full.length p5.c2)).setCell ⟨q, 2, none⟩ (.slice p5.S s5.stack.length p5.c3)).setCell ⟨q, 3, none⟩ (.slice p5.M s5.memo.length p5.c4)).setCell ⟨q, 4, none⟩ (.bool s5.done)) = w8 at HKy HO8 ⊢
            have HK8 := hide (show LkS w w8 rb w.heap.size q A n c (p0 + 1 + (30 - (m - 1)) * 6) p5 s5 Ao co acc from by
              obtain ⟨pz, hpz, hrz⟩ := HKy.out.rd
              exact ⟨HKy.out.grew, ⟨pz, by omega, hrz⟩, HKy.out.sb, HKy.out.own, HKy.out.apart, HKy.out.hb, HKy.out.hq, HKy.out.hrb, HKy.out.ok, HKy.out.fit, HKy.out.mem⟩)
            clear HKy
            obtain ⟨e0, e1⟩ := HO8.out
            have HNw := hide (Lies.new w8 #[.int .i64 o.code, .int .i64 o.arg] 42)
            have hbw := HK8.out.grew.size
            have hac : acc.length ≤ 30 := by omega
            go_wp2_with (at_builtin; refine append_op rfl (.tmp 45) (.tmp 47) rfl w.heap.size Ao co acc rfl (HK8.out.own.alloc _) w8.heap.size o 42 rfl HNw.out (by omega) (by simp; omega) ?_; intro zs A9 c9 w9 hz9 hown9 hg9 hat9; have HKn := hide (HK8.out.app _ hg9 hat9 hown9 hz9.out HO.out); have hzl : zs.length = acc.length + 1 := (by rw [hz9.out]; simp); have hzl2 : zs.length ≤ 30 - (m - 1) := (by omega); clear hown9 hg9 hat9 hzl)
            go_roundg (m - 1)
            case measure => omega
            case rel => exact ⟨m - 1, p5, s5, A9, c9, zs, by omega, rfl, by rw [show ((m - 1 : Nat) : Int) = (m : Int) - 1 by omega], rfl, HKn.out, hzl2⟩
        refine AllReadyH.cons (o := ⟨some 7, _, _, _, _, _⟩) rfl (fun K hK => ?_) AllReadyH.nil
        go_simp
        obtain ⟨nb, hnb⟩ : ∃ n, n = X.heap.size := ⟨_, rfl⟩
        have Lz0 := Lies.new X #[.slice none 0 0, .slice none 0 0, .slice none 0 0, .slice none 0 0, .bool false] 38
        rw [← hnb] at Lz0
        have hpo : p.Off nb := HSb.out.own.off (.inr (by omega))
        have hXa := (Below.refl X.heap.size X).alloc (Nat.le_refl _) (.cells #[.slice none 0 0, .slice none 0 0, .slice none 0 0, .slice none 0 0, .bool false] 38)
        replace HSb := hide (HSb.out.below hXa)
        have HXa := hide hXa
        refine hK.out _ _ ?_ (fun hH => ?_)
        · exact hHeld.below hXa (by omega) (by omega)
        clear hK K hHeld
        have hHeld := hH
        clear hH
        try simp only [Act.put, jA, jB, jC]
        have hnz := Lz0.lt
        have hXs : X.heap.size ≤ (X.alloc (.cells #[.slice none 0 0, .slice none 0 0, .slice none 0 0, .slice none 0 0, .bool false] 38)).heap.size := hXa.size
        clear hXa
        generalize X.alloc (.cells #[.slice none 0 0, .slice none 0 0, .slice none 0 0, .slice none 0 0, .bool false] 38) = Xa at HSb HXa Lz0 hnz hXs hHeld ⊢
        rw [← hnb]
        have hXn : X.heap.size ≤ nb := by omega
        have hXn2 : nb ≤ X.heap.size := by omega
        clear hnb
        refine wpAnyH_ready (rs := [1]) (by kernel_rfl) (by simp) ?_
        refine AllReadyH.cons (o := ⟨some 32, _, _, _, _, _⟩) rfl (fun K hK => ?_) AllReadyH.nil
        go_simp
        go_at_call 34
        refine (copyShapes_any p s Xa (HSb.out.own.at_ Hsm.out) (by omega) (by omega) (by omega) (by omega)).mono ?_
        rintro e v1 ⟨pc, rfl, hoc, hbn⟩
        have hqX : q < Xa.heap.size := HSb.out.box.lt
        have hbX : bo < Xa.heap.size := by omega
        have HBX := hide hbn
        have HC := hide hoc
        clear hoc hbn
        simp only [shVal, shCells]
        refine hK.out _ _ ?_ (fun hH => ?_)
        · exact hHeld.below HBX.out hqX hbX
        clear hK K hHeld
        have hHeld := hH
        clear hH
        try simp only [Act.put, jA, jB, jC]
        refine wpAnyH_ready (rs := [3]) (by kernel_rfl) (by simp) ?_
        refine AllReadyH.cons (o := ⟨some 34, _, _, _, _, _⟩) rfl (fun K hK => ?_) AllReadyH.nil
        go_simp
        go_at_call 33
        refine (stepShapes_any pc s o Xa.heap.size v1 HC.out HBX.out.size Hsm.out HO.out).mono ?_
        rintro e v2 ⟨p5, s5, ok, rfl, hb2, hfr2, hg2, hn2⟩
        have HB2 := hide hb2
        have HG2 := hide hg2
        have HN2 := hide hn2
        have HFr := hide hfr2
        have HBY := hide (HBX.out.trans hb2)
        clear hb2 hg2 hn2 hfr2
        simp only [shVal, shCells]
        refine hK.out _ _ ?_ (fun hH => ?_)
        · exact hHeld.below HB2.out hqX hbX
        clear hK K hHeld
        have hHeld := hH
        clear hH
        try simp only [Act.put, jA, jB, jC]
        refine wpAnyH_take (i := 4) (oi := ⟨some 30, _, _, _, _, _⟩) (v := ?_) rfl (by kernel_rfl) (by kernel_rfl) (by kernel_rfl) (fun _ _ _ h => h) (Or.inl ⟨by rfl, ?_⟩) (by assumption) ?_
        rotate_left
        · (intro w hSw; obtain ⟨hS1, hS2, hS3⟩ := hSw; have y0 := hS1.cell 0; have y1 := hS1.cell 1; have y2 := hS1.cell 2; have y3 := hS1.cell 3; have y4 := hS1.cell 4; simp only [jD, jE, jF] at y0 y1 y2 y3 y4; go_simp; try with_reducible rfl)
        try simp only [Act.put, jA, jB, jC]
        refine wpAnyH_take (i := 5) (oi := ⟨some 35, _, _, _, _, _⟩) (v := ?_) rfl (by kernel_rfl) (by kernel_rfl) (by kernel_rfl) (fun _ _ _ h => h) (Or.inl ⟨by rfl, ?_⟩) (by assumption) ?_
        rotate_left
        · (intro w hSw; obtain ⟨hS1, hS2, hS3⟩ := hSw; have y0 := hS1.cell 0; have y1 := hS1.cell 1; have y2 := hS1.cell 2; have y3 := hS1.cell 3; have y4 := hS1.cell 4; simp only [jD, jE, jF] at y0 y1 y2 y3 y4; go_simp; try with_reducible rfl)
        try simp only [Act.put, jA, jB, jC]
        refine wpAnyH_take (i := 6) (oi := ⟨some 36, _, _, _, _, _⟩) (v := ?_) rfl (by kernel_rfl) (by kernel_rfl) (by kernel_rfl) (fun _ _ _ h => h) (Or.inl ⟨by rfl, ?_⟩) (by assumption) ?_
        rotate_left
        · (intro w hSw; obtain ⟨hS1, hS2, hS3⟩ := hSw; have y0 := hS1.cell 0; have y1 := hS1.cell 1; have y2 := hS1.cell 2; have y3 := hS1.cell 3; have y4 := hS1.cell 4; simp only [jD, jE, jF] at y0 y1 y2 y3 y4; go_simp; try with_reducible rfl)
        try simp only [Act.put, jA, jB, jC]
        have Lz := hide (Lz0.below HBY.out hnz)
        have hqn : q ≠ nb := by omega
        have hbn : bo ≠ nb := by omega
        have HN := hide (BoxN.mk' (X := X) (p5 := p5) (s5 := s5) (ok := ok) (r := stepShp s o) (lo := Xa.heap.size) (HSb.out.below HBY.out) Lz.out (HXa.out.trans (HBY.out.mono hXs)) (by omega) hpo hqn (by omega) (fun t ht => by
          obtain ⟨g1, g2, g3, g4⟩ := HG2.out t ht
          exact ⟨g1, g2, g3, g3.off (.inl hnz)⟩) HN2.out)
        clear Lz0 hnz
        generalize v2 = Y at Lz HN hHeld ⊢
        refine wpAnyH_ready (rs := [8]) (by kernel_rfl) (by simp) ?_
        refine AllReadyH.cons (o := ⟨none, _, _, _, _, _⟩) rfl (fun K hK => ?_) AllReadyH.nil
        obtain ⟨⟨c0, c1, c2, c3, c4, f0, f1, f2, f3, f4, t0, t1, t2, t3, t4⟩, _⟩ := Lies.set5 Lz.out (.slice p5.K s5.kinds.length p5.c1) (.slice p5.F s5.full.length p5.c2) (.slice p5.S s5.stack.length p5.c3) (.slice p5.M s5.memo.length p5.c4) (.bool s5.done)
        go_simp
        refine hK.out _ _ ?_ (fun hH => ?_)
        · exact (hHeld.set5 hqn hbn : _)
        clear hK K hHeld
        have hHeld := hH
        clear hH
        try simp only [Act.put, jA, jB, jC]
        refine wpAnyH_ready (rs := [9]) (by kernel_rfl) (by simp) ?_
        refine AllReadyH.cons (o := ⟨some 8, _, _, _, _, _⟩) rfl (fun K hK => ?_) AllReadyH.nil
        go_simp
        refine hK.out _ _ ?_ (fun hH => ?_)
        · exact hHeld
        clear hK K hHeld
        have hHeld := hH
        clear hH
        try simp only [Act.put, jA, jB, jC]
        refine wpAnyH_done (by kernel_rfl) ?_ _
        have HN5 : Hid (BoxN X (((((Y.setCell ⟨nb, 0, none⟩ (.slice p5.K s5.kinds.length p5.c1)).setCell ⟨nb, 1, none⟩ (.slice p5.F s5.full.length p5.c2)).setCell ⟨nb, 2, none⟩ (.slice p5.S s5.stack.length p5.c3)).setCell ⟨nb, 3, none⟩ (.slice p5.M s5.memo.length p5.c4)).setCell ⟨nb, 4, none⟩ (.bool s5.done)) w.heap.size q p s nb p5 s5 ok (stepShp s o)) := HN
        have hHo : HeldO q bo #[.slice p.K s.kinds.length p.c1, .slice p.F s.full.length p.c2, .slice p.S s.stack.length p.c3, .slice p.M s.memo.length p.c4, .bool s.done] (.int .i64 o.code) (.int .i64 o.arg) (((((Y.setCell ⟨nb, 0, none⟩ (.slice p5.K s5.kinds.length p5.c1)).setCell ⟨nb, 1, none⟩ (.slice p5.F s5.full.length p5.c2)).setCell ⟨nb, 2, none⟩ (.slice p5.S s5.stack.length p5.c3)).setCell ⟨nb, 3, none⟩ (.slice p5.M s5.memo.length p5.c4)).setCell ⟨nb, 4, none⟩ (.bool s5.done)) := hHeld
        clear hHeld HN c0 c1 c2 c3 c4 f0 f1 f2 f3 f4 t0 t1 t2 t3 t4
        generalize (((((Y.setCell ⟨nb, 0, none⟩ (.slice p5.K s5.kinds.length p5.c1)).setCell ⟨nb, 1, none⟩ (.slice p5.F s5.full.length p5.c2)).setCell ⟨nb, 2, none⟩ (.slice p5.S s5.stack.length p5.c3)).setCell ⟨nb, 3, none⟩ (.slice p5.M s5.memo.length p5.c4)).setCell ⟨nb, 4, none⟩ (.bool s5.done)) = Yf at HN5 hHo ⊢
        clear Lz HSb
        cases hr : stepShp s o with
        | none =>
          obtain rfl := HN5.out.bad hr
          have HK7 := hide (HK.out.below HN5.out.bel)
          obtain ⟨p7, hp7, hr7⟩ := HK7.out.rd
          have HO7 := hide hHo
          clear hr HN5 hHo
          go_wp2_with fail
          refine (pick_any rb A n c p7 16 Yf hr7 (by omega) (by omega)).mono ?_
          rintro e w8 ⟨⟨x, rfl, hx, _⟩, hr8, ht8⟩
          have HK8 := hide (HK7.out.turned (P' := p0 + 1 + (30 - (m - 1)) * 6) (Grew.of_turn ht8) hr8 (by omega))
          have hbrb : bo ≠ rb := by omega
          have HO8 := hide (show w8.cell? ⟨bo, 0, none⟩ = some (.int .i64 o.code) ∧ w8.cell? ⟨bo, 1, none⟩ = some (.int .i64 o.arg) from ⟨(World.cell?_of_block (w := Yf) (ht8.block bo hbrb)).trans HO7.out.2.1, (World.cell?_of_block (w := Yf) (ht8.block bo hbrb)).trans HO7.out.2.2⟩)
          clear hr7 hr8 ht8 hx HK7 HO7
          by_cases hx0 : x = 0
          · subst hx0
            obtain ⟨e0, e1⟩ := HO8.out
            have HNw := hide (Lies.new w8 #[.int .i64 o.code, .int .i64 o.arg] 42)
            have hbw := HK8.out.grew.size
            have hac : acc.length ≤ 30 := by omega
            go_wp2_with (at_builtin; refine append_op rfl (.tmp 45) (.tmp 47) rfl w.heap.size Ao co acc rfl (HK8.out.own.alloc _) w8.heap.size o 42 rfl HNw.out (by omega) (by simp; omega) ?_; intro zs A9 c9 w9 hz9 hown9 hg9 hat9; have HKn := hide (HK8.out.app _ hg9 hat9 hown9 hz9.out HO.out); have hzl : zs.length = acc.length + 1 := (by rw [hz9.out]; simp); have hzl2 : zs.length ≤ 30 - (m - 1) := (by omega); clear hown9 hg9 hat9 hzl)
            go_roundg (m - 1)
            case measure => omega
            case rel => exact ⟨m - 1, p, s, A9, c9, zs, by omega, rfl, by rw [show ((m - 1 : Nat) : Int) = (m : Int) - 1 by omega], rfl, HKn.out, hzl2⟩
          · have hx1 : ((x : Int) == 0) = false := by simp; omega
            clear hx0
            go_wp2
            go_roundg (m - 1)
            case measure => omega
            case rel => exact ⟨m - 1, p, s, Ao, co, acc, by omega, rfl, by rw [show ((m - 1 : Nat) : Int) = (m : Int) - 1 by omega], rfl, HK8.out, by omega⟩
        | some t =>
          obtain ⟨hok1, hst, lo, hot, hlo⟩ := HN5.out.good t hr
          subst hok1 hst
          have HT := hide (stepShp_ok HsO.out hr (HO.out.get))
          have HOt := hide hot
          have hqY := HK.out.hq
          have HN6 := hide HN5.out
          have b0 := HN6.out.box.cell 0
          have b1 := HN6.out.box.cell 1
          have b2 := HN6.out.box.cell 2
          have b3 := HN6.out.box.cell 3
          have b4 := HN6.out.box.cell 4
          simp only [shCells, jD, jE, jF] at b0 b1 b2 b3 b4
          obtain ⟨⟨c0, c1, c2, c3, c4, f0, f1, f2, f3, f4, t0, t1, t2, t3, t4⟩, _⟩ := Lies.set5 (show Lies Yf q #[.slice p.K s.kinds.length p.c1, .slice p.F s.full.length p.c2, .slice p.S s.stack.length p.c3, .slice p.M s.memo.length p.c4, .bool s.done] 38 from HN6.out.run.box) (.slice p5.K s5.kinds.length p5.c1) (.slice p5.F s5.full.length p5.c2) (.slice p5.S s5.stack.length p5.c3) (.slice p5.M s5.memo.length p5.c4) (.bool s5.done)
          have HKy := hide (HK.out.next HN6.out.bel HOt.out hlo HT.out.1 HT.out.2)
          have hbq : bo ≠ q := by omega
          have HO8 := hide (show (((((Yf.setCell ⟨q, 0, none⟩ (.slice p5.K s5.kinds.length p5.c1)).setCell ⟨q, 1, none⟩ (.slice p5.F s5.full.length p5.c2)).setCell ⟨q, 2, none⟩ (.slice p5.S s5.stack.length p5.c3)).setCell ⟨q, 3, none⟩ (.slice p5.M s5.memo.length p5.c4)).setCell ⟨q, 4, none⟩ (.bool s5.done)).cell? ⟨bo, 0, none⟩ = some (.int .i64 o.code) ∧ (((((Yf.setCell ⟨q, 0, none⟩ (.slice p5.K s5.kinds.length p5.c1)).setCell ⟨q, 1, none⟩ (.slice p5.F s5.full.length p5.c2)).setCell ⟨q, 2, none⟩ (.slice p5.S s5.stack.length p5.c3)).setCell ⟨q, 3, none⟩ (.slice p5.M s5.memo.length p5.c4)).setCell ⟨q, 4, none⟩ (.bool s5.done)).cell? ⟨bo, 1, none⟩ = some (.int .i64 o.arg) from ⟨(World.cell?_of_block (w := Yf) (set5_block (v0 := .slice p5.K s5.kinds.length p5.c1) (v1 := .slice p5.F s5.full.length p5.c2) (v2 := .slice p5.S s5.stack.length p5.c3) (v3 := .slice p5.M s5.memo.length p5.c4) (v4 := .bool s5.done) hbq)).trans hHo.2.1, (World.cell?_of_block (w := Yf) (set5_block (v0 := .slice p5.K s5.kinds.length p5.c1) (v1 := .slice p5.F s5.full.length p5.c2) (v2 := .slice p5.S s5.stack.length p5.c3) (v3 := .slice p5.M s5.memo.length p5.c4) (v4 := .bool s5.done) hbq)).trans hHo.2.2⟩)
          replace HKy := hide (show LkS w (((((Yf.setCell ⟨q, 0, none⟩ (.slice p5.K s5.kinds.length p5.c1)).setCell ⟨q, 1, none⟩ (.slice p5.F s5.full.length p5.c2)).setCell ⟨q, 2, none⟩ (.slice p5.S s5.stack.length p5.c3)).setCell ⟨q, 3, none⟩ (.slice p5.M s5.memo.length p5.c4)).setCell ⟨q, 4, none⟩ (.bool s5.done)) rb w.heap.size q A n c (p5' + 5) p5 s5 Ao co acc from HKy.out)
          clear t0 t1 t2 t3 t4 hr hot HN5 hHo
          go_upto_region 11 with fail
          clear b0 b1 b2 b3 b4 c0 c1 c2 c3 c4 f0 f1 f2 f3 f4
          generalize (((((Yf.setCell ⟨q, 0, none⟩ (.slice p5.K s5.kinds.length p5.c1)).setCell ⟨q, 1, none⟩ (.slice p5.F s5.full.length p5.c2)).setCell ⟨q, 2, none⟩ (.slice p5.S s5.stack.length p5.c3)).setCell ⟨q, 3, none⟩ (.slice p5.M s5.memo.length p5.c4)).setCell ⟨q, 4, none⟩ (.bool s5.done)) = w8 at HKy HO8 ⊢
          have HK8 := hide (show LkS w w8 rb w.heap.size q A n c (p0 + 1 + (30 - (m - 1)) * 6) p5 s5 Ao co acc from by
            obtain ⟨pz, hpz, hrz⟩ := HKy.out.rd
            exact ⟨HKy.out.grew, ⟨pz, by omega, hrz⟩, HKy.out.sb, HKy.out.own, HKy.out.apart, HKy.out.hb, HKy.out.hq, HKy.out.hrb, HKy.out.ok, HKy.out.fit, HKy.out.mem⟩)
          clear HKy
          obtain ⟨e0, e1⟩ := HO8.out
          have HNw := hide (Lies.new w8 #[.int .i64 o.code, .int .i64 o.arg] 42)
          have hbw := HK8.out.grew.size
          have hac : acc.length ≤ 30 := by omega
          go_wp2_with (at_builtin; refine append_op rfl (.tmp 45) (.tmp 47) rfl w.heap.size Ao co acc rfl (HK8.out.own.alloc _) w8.heap.size o 42 rfl HNw.out (by omega) (by simp; omega) ?_; intro zs A9 c9 w9 hz9 hown9 hg9 hat9; have HKn := hide (HK8.out.app _ hg9 hat9 hown9 hz9.out HO.out); have hzl : zs.length = acc.length + 1 := (by rw [hz9.out]; simp); have hzl2 : zs.length ≤ 30 - (m - 1) := (by omega); clear hown9 hg9 hat9 hzl)
          go_roundg (m - 1)
          case measure => omega
          case rel => exact ⟨m - 1, p5, s5, A9, c9, zs, by omega, rfl, by rw [show ((m - 1 : Nat) : Int) = (m : Int) - 1 by omega], rfl, HKn.out, hzl2⟩
    · obtain rfl : m = 0 := by omega
      clear hm1
      go_wp2_with fail
      refine (pick_any rb A n c p5' 2 wr HR5.out (by omega) (by omega)).mono ?_
      rintro e w6 ⟨⟨x, rfl, hx, _⟩, hr6, ht6⟩
      have HK6 := hide (HKr0.out.turned (P' := p0 + 200) (Grew.of_turn ht6) hr6 (by omega))
      have hac : acc.length ≤ 30 := by omega
      clear hr6 ht6 hx HR5 HKr0
      have H64 := hide (fun o (ho : o ∈ acc) => od_64 (HK6.out.mem o ho))
      by_cases hx0 : x = 0
      · subst hx0
        have hOp := HK6.out.own.ops H64.out (by omega)
        go_wp2_with fail
        refine (specEndOps_any Ao acc co w6 hOp HK6.out.own.nil HK6.out.own.capLen).mono ?_
        rintro e w7 ⟨A2, c2, rfl, ho7, hb7⟩
        have HK7 := hide (HK6.out.below hb7)
        have hsz67 := hb7.size
        have hsz6 := HK6.out.grew.size
        clear hOp hb7
        cases hE : endOf acc with
        | none =>
          simp only [Option.isSome_none, Option.getD_none, List.length_nil]
          obtain ⟨p9, hp9, hr9⟩ := HK7.out.rd
          have HF : Hid (Likely rb A n c p0 w (.returned (.slice Ao acc.length co)) w7) := hide ⟨acc, Ao, co, p9, rfl, HK7.out.own, HK7.out.mem, by omega, by omega, hr9, HK7.out.grew⟩
          clear hE ho7 hr9
          go_wp2
          go_ret
          exact HF.out
        | some l =>
          rw [hE] at ho7
          have hEl := endOf_some hE
          have hl7 := hEl.2
          have HEl := hide hEl.1
          have HO7 := hide ho7
          simp only [Option.getD_some] at HO7
          simp only [Option.isSome_some, Option.getD_some]
          clear hE ho7 hEl
          have hOp := HK7.out.own.ops H64.out (by omega)
          go_wp2_with fail
          refine (specCutOps_any Ao acc co w7 hOp HK7.out.own.nil HK7.out.own.capLen).mono ?_
          rintro e w8 ⟨A3, c3, rfl, ho8, hb8⟩
          have HK8 := hide (HK7.out.below hb8)
          have HO8 := hide (ho8.mono (base' := w.heap.size) (by omega))
          have HL8 := hide ((HO7.out.below hb8).ops (fun o ho => od_64 (HEl.out o ho)) (by omega))
          have hLn := hide HO7.out.nil
          have hcf : (cutOf acc).length ≤ 300 := cutOf_few
          have HCm := hide (cutOf_mem (os := acc))
          have hb8s := hb8.size
          clear ho8 hb8 hOp
          generalize cutOf acc = cu at HO8 hcf HCm ⊢
          have hws : w.heap.size ≤ w8.heap.size := by omega
          have Hap := hide (fun g (e : blockOf A3 = some g) => (HO8.out.blocks g e))
          go_wp2_with (at_builtin; refine append_ops rfl (.tmp 59) (.tmp 60) rfl w.heap.size A3 c3 cu rfl HO8.out w8.heap.size A2 c2 l rfl hLn.out HL8.out (by omega) hws ?_; intro zs A9 c9 w9 hz9 hown9 hg9 hat9; have HZ := hide hown9; have HG9 := hide hg9; clear hown9 hg9 hat9)
          have hbl : Below w.heap.size w8 w9 := below_grown ((Below.refl w8.heap.size w8).mono hws) HG9.out hws (fun q hq => (HO8.out.blocks q hq).1)
          obtain ⟨p9, hp9, hr9⟩ := HK8.out.rd
          have HF : Hid (Likely rb A n c p0 w (.returned (.slice A9 zs.length c9)) w9) := hide ⟨zs, A9, c9, p9, rfl, HZ.out, fun o ho => by
              rw [hz9.out] at ho
              rcases List.mem_append.1 ho with ho | ho
              · exact HCm.out o ho
              · exact HEl.out o ho, by rw [hz9.out]; simp; omega, by omega, ⟨hr9.box.below hbl hlt, hr9.bytes.later (hbl.mono (by omega)), hr9.few⟩,
            ⟨hbl.os.trans HK8.out.grew.os, hbl.tape.trans HK8.out.grew.tape, hbl.output.trans HK8.out.grew.output, Nat.le_trans HK8.out.grew.size hbl.size, fun k hk hne => (hbl.block k hk).trans (HK8.out.grew.block k hk hne)⟩⟩
          clear hbl hr9
          go_wp2
          go_ret
          exact HF.out
      · have hx1 : ((x : Int) == 0) = false := by simp; omega
        obtain ⟨p9, hp9, hr9⟩ := HK6.out.rd
        have HF : Hid (Likely rb A n c p0 w (.returned (.slice Ao acc.length co)) w6) := hide ⟨acc, Ao, co, p9, rfl, HK6.out.own, HK6.out.mem, by omega, by omega, hr9, HK6.out.grew⟩
        clear hx0 hr9
        go_wp2
        go_ret
        exact HF.out
end Go.Proofs.YtbihgafkmmcjlaaDoor
