/-
  The model's LeastRules: what it returns.
-/
import Derived.Test.YtochdhibmmohfacPjAj
import Derived.Test.YtochdhibmmohfacRunS
import Derived.Test.YtochdhibmmohfacPjAh
import Derived.Test.YtochdhibmmohfacPjAl
import Derived.Test.YtochdhibmmohfacPjAk
import Derived.Deep.Cut
import Derived.Deep.RegionHeld3
import Derived.Deep.RegionHeld
namespace Go.Proofs.Ytochdhibmmohfac
open Go.RowKit
set_option linter.unusedVariables false

set_option maxRecDepth 100000 in
set_option maxHeartbeats 2000000 in
theorem specLeast_yes (A : Option Addr) (os : List Od) (c : Nat) (w : World) (h : OpsAt w w.heap.size A os) (hc : os.length ≤ c) (hok : LrOk os) :
    Calls Try.prog 15 #[.slice A os.length c] w (GivesLr w os) := by
  have hB := (Below.refl w.heap.size w).alloc (Nat.le_refl _) (.cells zero4 25)
  have l1 := Lies.new w zero4 25
  have h1 := h.later hB (Nat.le_refl _)
  have ht := hide (tf_true hok.1)
  have htr := hide (tf_true hok)
  have hl := h.len
  have Hall := hide hok.1.2
  have Hn := hide hok.2
  have HE : Hid (lrOf os = leastRu os) := lr_yes hok
  have hkl0 := run_kinds_few hok.1
  clear h hok
  unfold zero4 at hB l1 h1
  go_enter Try.func15, Try.ntmps15
  go_wp2_with fail
  generalize w.alloc (.cells #[.int .i64 0, .int .i64 0, .int .i64 0, .slice none 0 0] 25) = W at hB l1 h1 ⊢
  refine (specValidOps_any A os c W h1).mono ?_
  rintro e w1 ⟨rfl, hb1⟩
  rw [ht.out]
  have l2 := l1.below hb1 l1.lt
  have h2 := h1.later hb1 (Nat.le_refl _)
  have hB1 := hB.trans (hb1.mono hB.size)
  clear hb1 hB l1 h1
  go_wp2_with fail
  have HC := runShapes_any A os c w1 h2 Hall.out
  obtain ⟨R, hR⟩ : ∃ R, R = runShp Shp.new os := ⟨_, rfl⟩
  rw [← hR] at HC hkl0
  have Hn2 : Hid (R.2 = os.length) := hide (by rw [hR]; exact Hn.out)
  have HK : Hid (R.1 = (runShp Shp.new os).1) := hide (by rw [hR])
  clear hR
  obtain ⟨s, m⟩ := R
  have hm : m = os.length := Hn2.out
  subst hm
  refine HC.mono ?_
  clear HC
  rintro e w2 ⟨p, rfl, ho, hb2⟩
  have hkl : s.kinds.length ≤ 1000000 := hkl0
  simp only [shVal, shCells]
  have hbx := (Below.refl w2.heap.size w2).alloc (Nat.le_refl _) (.cells #[.slice p.K s.kinds.length p.c1, .slice p.F s.full.length p.c2, .slice p.S s.stack.length p.c3, .slice p.M s.memo.length p.c4, .bool s.done] 46)
  have hb3 := hb2.trans (hbx.mono hb2.size)
  have l3 := l2.below hb3 l2.lt
  have h3 := h2.later hb3 (Nat.le_refl _)
  have hB3 := hB1.trans (hb3.mono hB1.size)
  have lx := Lies.new w2 #[.slice p.K s.kinds.length p.c1, .slice p.F s.full.length p.c2, .slice p.S s.stack.length p.c3, .slice p.M s.memo.length p.c4, .bool s.done] 46
  have hq2 : w.heap.size < w2.heap.size := (l2.below hb2 l2.lt).lt
  clear ho hb2 hbx hb3 l2 h2 hB1
  go_wp2_with fail
  generalize w2.alloc (.cells #[.slice p.K s.kinds.length p.c1, .slice p.F s.full.length p.c2, .slice p.S s.stack.length p.c3, .slice p.M s.memo.length p.c4, .bool s.done] 46) = w3 at l3 h3 hB3 lx ⊢
  have hqx0 : w.heap.size < w2.heap.size := hq2
  generalize w2.heap.size = bx at lx hqx0 ⊢
  have hfew := depthsOf_few (os := os)
  have hd64 := hide (depthsOf_64 (os := os))
  refine (specDepthsOf_any A os c w3 h3 hc).mono ?_
  rintro e w4 ⟨Ad, cd, rfl, hod, hb4⟩
  generalize hL : depthsOf os = L at hfew hd64 hod ⊢
  have HL := hide hL
  clear hL
  have hid := hod.ints hd64.out (by omega)
  have l4 := l3.below hb4 l3.lt
  have h4 := h3.later hb4 (Nat.le_refl _)
  have hB4 := hB3.trans (hb4.mono hB3.size)
  have lx4 := lx.below hb4 lx.lt
  have Hl4 := hide l4
  have H4 := hide h4
  have HB4 := hide hB4
  have Hlx4 := hide lx4
  have Hid4 := hide hid
  have hbxlt : bx < w4.heap.size := lx4.lt
  have hqlt : w.heap.size < w4.heap.size := l4.lt
  clear hod hb4 l3 h3 hB3 lx l4 h4 hB4 lx4 hid
  go_wp2_with fail
  go_loopw [6, 8] (fun mv iv wr => ∃ k : Nat, k ≤ L.length ∧ iv = .int .i64 (k : Int) ∧ mv = .int .i64 (maxL (L.take k)) ∧ wr = w4) (fun _ iv _ => L.length - (intOf iv).toNat)
  case atStart => exact ⟨0, Nat.zero_le _, rfl, rfl, rfl⟩
  case round =>
    obtain ⟨k, hk, rfl, rfl, rfl⟩ := hrel
    by_cases hlt : k < L.length
    · obtain ⟨b, off, x, rfl, hbl, hx, hmem, hcx⟩ := Hid4.out.at_ hlt
      have HX := hide (maxL_take hx)
      have hk1 : (0 : Int) ≤ (k : Int) := by omega
      have hk2 : (k : Int) < (L.length : Int) := by omega
      clear hx hmem
      go_wp2
      go_roundw
      case rel => exact ⟨k + 1, by omega, by go_num, by rw [HX.out], by first | rfl | trivial⟩
      case measure => simp [intOf]; omega
    · obtain rfl : k = L.length := by omega
      rw [List.take_length]
      have hk2 : decide ((L.length : Int) < (L.length : Int)) = false := by simp
      have e0 := Hlx4.out.cell 0
      simp at e0
      have hcls := classesIn_few (os := os)
      have HCl := hide (specClassesIn_any A os c)
      obtain ⟨M, hM⟩ : ∃ M, M = maxL L := ⟨_, rfl⟩
      rw [← hM]
      have HMm := hide hM
      clear hM hlt
      generalize hCd : classesIn os = C at hcls HCl
      have HCd := hide hCd
      clear hCd
      have HR : Hid (leastRu os = ⟨os.length, s.kinds.length, M, C⟩) := by
        show leastRu os = _
        unfold leastRu
        rw [HL.out, HCd.out, HMm.out, ← HK.out]
      clear HMm HCd HK
      have hxq : w.heap.size ≠ bx := by omega
      go_wp2_with fail
      refine wp_region_held_drew (S := fun w' => w'.cell? ⟨bx, 0, none⟩ = some (.slice p.K s.kinds.length p.c1)) (by kernel_rfl) e0 (fun hHeld => ?_)
      refine wpAnyH_take (i := 0) (oi := { dst := some 37, op := _, type := _, pos := _, after := _, guard := _ }) (v := ?_) rfl (by kernel_rfl) (by kernel_rfl) (by kernel_rfl) (fun _ _ _ h => h) (Or.inl ⟨by rfl, ?_⟩) (by assumption) ?_
      rotate_left
      · (intro w hSw; (try dsimp only at hSw); go_simp; try with_reducible rfl)
      try simp only [Act.put, List.setIfInBounds_toArray, List.set_cons_zero, List.set_cons_succ]
      refine wpAnyH_take (i := 1) (oi := { dst := some 38, op := _, type := _, pos := _, after := _, guard := _ }) (v := ?_) rfl (by kernel_rfl) (by kernel_rfl) (by kernel_rfl) (fun _ _ _ h => h) (Or.inl ⟨by rfl, ?_⟩) (by assumption) ?_
      rotate_left
      · (intro w hSw; (try dsimp only at hSw); go_simp; try with_reducible rfl)
      try simp only [Act.put, List.setIfInBounds_toArray, List.set_cons_zero, List.set_cons_succ]
      refine wpAnyH_take (i := 2) (oi := { dst := some 39, op := _, type := _, pos := _, after := _, guard := _ }) (v := ?_) rfl (by kernel_rfl) (by kernel_rfl) (by kernel_rfl) (fun _ _ _ h => h) (Or.inl ⟨by rfl, ?_⟩) (by assumption) ?_
      rotate_left
      · (intro w hSw; (try dsimp only at hSw); go_simp; try with_reducible rfl)
      try simp only [Act.put, List.setIfInBounds_toArray, List.set_cons_zero, List.set_cons_succ]
      refine wpAnyH_take (i := 3) (oi := { dst := some 40, op := _, type := _, pos := _, after := _, guard := _ }) (v := ?_) rfl (by kernel_rfl) (by kernel_rfl) (by kernel_rfl) (fun _ _ _ h => h) (Or.inl ⟨by rfl, ?_⟩) (by assumption) ?_
      rotate_left
      · (intro w hSw; (try dsimp only at hSw); go_simp; try with_reducible rfl)
      try simp only [Act.put, List.setIfInBounds_toArray, List.set_cons_zero, List.set_cons_succ]
      refine wpAnyH_take (i := 4) (oi := { dst := some 41, op := _, type := _, pos := _, after := _, guard := _ }) (v := ?_) rfl (by kernel_rfl) (by kernel_rfl) (by kernel_rfl) (fun _ _ _ h => h) (Or.inl ⟨by rfl, ?_⟩) (by assumption) ?_
      rotate_left
      · (intro w hSw; (try dsimp only at hSw); go_simp; try with_reducible rfl)
      try simp only [Act.put, List.setIfInBounds_toArray, List.set_cons_zero, List.set_cons_succ]
      refine wpAnyH_take (i := 5) (oi := { dst := some 42, op := _, type := _, pos := _, after := _, guard := _ }) (v := ?_) rfl (by kernel_rfl) (by kernel_rfl) (by kernel_rfl) (fun _ _ _ h => h) (Or.inl ⟨by rfl, ?_⟩) (by assumption) ?_
      rotate_left
      · (intro w hSw; (try dsimp only at hSw); go_simp; try with_reducible rfl)
      try simp only [Act.put, List.setIfInBounds_toArray, List.set_cons_zero, List.set_cons_succ]
      refine wpAnyH_take (i := 6) (oi := { dst := some 43, op := _, type := _, pos := _, after := _, guard := _ }) (v := ?_) rfl (by kernel_rfl) (by kernel_rfl) (by kernel_rfl) (fun _ _ _ h => h) (Or.inl ⟨by rfl, ?_⟩) (by assumption) ?_
      rotate_left
      · (intro w hSw; (try dsimp only at hSw); go_simp; try with_reducible rfl)
      try simp only [Act.put, List.setIfInBounds_toArray, List.set_cons_zero, List.set_cons_succ]
      refine wpAnyH_ready (rs := [7]) (by kernel_rfl) (by simp) ?_
      refine AllReadyH.cons (o := { dst := some 44, op := _, type := _, pos := _, after := _, guard := _ }) rfl (fun K hK => ?_) AllReadyH.nil
      go_simp
      go_at_call 29
      refine (HCl.out _ (H4.out.later (Below.refl _ _).drew (Nat.le_refl _)) ).mono ?_
      rintro e w5 ⟨Ac, cc, rfl, hoc, hb5⟩
      have hbw : Below wr.heap.size wr w5 := (Below.refl _ _).drew.trans (hb5.mono (by simp))
      have q0 := (hbw.cell (p := ⟨bx, 0, none⟩) hbxlt).trans e0
      have hS := Lies.below Hl4.out hbw hqlt
      obtain ⟨⟨r0, r1, r2, r3, f0, f1, f2, f3, s0, s1, s2, s3⟩, hlf⟩ := hS.put4 (.int .i64 (os.length : Int)) (.int .i64 (s.kinds.length : Int)) (.int .i64 M) (.slice Ac C.length cc)
      clear hS hlf
      refine hK.out _ _ q0 (fun hH => ?_)
      clear hK K hHeld
      have hHeld := hH
      clear hH
      try simp only [Act.put, List.setIfInBounds_toArray, List.set_cons_zero, List.set_cons_succ]
      refine wpAnyH_take (i := 8) (oi := { dst := some 45, op := _, type := _, pos := _, after := _, guard := _ }) (v := ?_) rfl (by kernel_rfl) (by kernel_rfl) (by kernel_rfl) (fun _ _ _ h => h) (Or.inl ⟨by rfl, ?_⟩) (by assumption) ?_
      rotate_left
      · (intro w hSw; (try dsimp only at hSw); go_simp; try with_reducible rfl)
      try simp only [Act.put, List.setIfInBounds_toArray, List.set_cons_zero, List.set_cons_succ]
      refine wpAnyH_ready (rs := [9]) (by kernel_rfl) (by simp) ?_
      refine AllReadyH.cons (o := { dst := none, op := _, type := _, pos := _, after := _, guard := _ }) rfl (fun K hK => ?_) AllReadyH.nil
      go_simp
      refine hK.out _ _ ((World.cell?_setCell_far _ _ _ _ hxq).trans ((World.cell?_setCell_far _ _ _ _ hxq).trans ((World.cell?_setCell_far _ _ _ _ hxq).trans ((World.cell?_setCell_far _ _ _ _ hxq).trans hHeld)))) (fun hH => ?_)
      clear hK K hHeld
      have hHeld := hH
      clear hH
      try simp only [Act.put, List.setIfInBounds_toArray, List.set_cons_zero, List.set_cons_succ]
      refine wpAnyH_ready (rs := [10]) (by kernel_rfl) (by simp) ?_
      refine AllReadyH.cons (o := { dst := some 3, op := _, type := _, pos := _, after := _, guard := _ }) rfl (fun K hK => ?_) AllReadyH.nil
      go_simp
      refine hK.out _ _ hHeld (fun hH => ?_)
      clear hK K hHeld
      have hHeld := hH
      clear hH
      try simp only [Act.put, List.setIfInBounds_toArray, List.set_cons_zero, List.set_cons_succ]
      refine wpAnyH_done (by kernel_rfl) ?_ _
      have HO := hide (hoc.put4 (q := w.heap.size) (by simpa using hqlt) (.int .i64 (os.length : Int)) (.int .i64 (s.kinds.length : Int)) (.int .i64 M) (.slice Ac C.length cc))
      have HBf := hide (put4_below (q := w.heap.size) (v0 := .int .i64 (os.length : Int)) (v1 := .int .i64 (s.kinds.length : Int)) (v2 := .int .i64 M) (v3 := .slice Ac C.length cc) (HB4.out.trans (hbw.mono HB4.out.size)) (Nat.le_refl _))
      have hz4 := HB4.out.size
      clear hbw hb5 hoc q0 e0 r0 r1 r2 r3 f0 f1 f2 f3
      go_wp2
      refine bodyPost_ret (v := .tuple #[.agg #[.int .i64 (os.length : Int), .int .i64 (s.kinds.length : Int), .int .i64 M, .slice Ac C.length cc], .bool true]) (by simp [results, Try.results15, go_sem, s0, s1, s2, s3]) rfl ?_
      show GivesLr w os _ _
      unfold GivesLr
      rw [HE.out, HR.out, htr.out]
      exact ⟨Ac, cc, rfl, HO.out.mono (by simpa using hz4), HBf.out⟩

set_option maxRecDepth 100000 in
set_option maxHeartbeats 1000000 in
theorem specLeast_any (A : Option Addr) (os : List Od) (c : Nat) (w : World) (h : OpsAt w w.heap.size A os) (hc : os.length ≤ c) :
    Calls Try.prog 15 #[.slice A os.length c] w (GivesLr w os) := by
  by_cases hok : LrOk os
  · exact specLeast_yes A os c w h hc hok
  have hB := (Below.refl w.heap.size w).alloc (Nat.le_refl _) (.cells zero4 25)
  have l1 := Lies.new w zero4 25
  have h1 := h.later hB (Nat.le_refl _)
  have htr := hide (tf_false hok)
  have HE : Hid (lrOf os = ⟨0, 0, 0, []⟩) := lr_no hok
  have hl := h.len
  clear h
  unfold zero4 at hB l1 h1
  by_cases hv : OpsOk os
  · have ht := hide (tf_true hv)
    have Hall := hide hv.2
    have hn : (runShp Shp.new os).2 < os.length := by
      have h1 := run_le hv.2
      rcases Nat.lt_or_ge (runShp Shp.new os).2 os.length with h2 | h2
      · exact h2
      · exact absurd ⟨hv, by omega⟩ hok
    clear hv hok
    go_enter Try.func15, Try.ntmps15
    go_wp2_with fail
    generalize w.alloc (.cells #[.int .i64 0, .int .i64 0, .int .i64 0, .slice none 0 0] 25) = W at hB l1 h1 ⊢
    refine (specValidOps_any A os c W h1).mono ?_
    rintro e w1 ⟨rfl, hb1⟩
    rw [ht.out]
    have l2 := l1.below hb1 l1.lt
    have h2 := h1.later hb1 (Nat.le_refl _)
    have hB1 := hB.trans (hb1.mono hB.size)
    clear hb1 hB l1 h1
    go_wp2_with fail
    have HC := runShapes_any A os c w1 h2 Hall.out
    obtain ⟨R, hR⟩ : ∃ R, R = runShp Shp.new os := ⟨_, rfl⟩
    rw [← hR] at HC hn
    clear hR
    obtain ⟨s, m⟩ := R
    refine HC.mono ?_
    clear HC
    rintro e w2 ⟨p, rfl, ho, hb2⟩
    simp only [shVal, shCells]
    have hbx := (Below.refl w2.heap.size w2).alloc (Nat.le_refl _) (.cells #[.slice p.K s.kinds.length p.c1, .slice p.F s.full.length p.c2, .slice p.S s.stack.length p.c3, .slice p.M s.memo.length p.c4, .bool s.done] 46)
    have hb3 := hb2.trans (hbx.mono hb2.size)
    have l3 := l2.below hb3 l2.lt
    have hB3 := hB1.trans (hb3.mono hB1.size)
    have hn2 : (m : Int) < (os.length : Int) := by have : m < os.length := hn; omega
    clear ho hb2 hbx hb3 l2 h2 hB1 hn
    obtain ⟨⟨r0, r1, r2, r3, f0, f1, f2, f3, s0, s1, s2, s3⟩, _⟩ := l3.put4 (.int .i64 0) (.int .i64 0) (.int .i64 0) (.slice none 0 0)
    have HB := hide (put4_below (q := w.heap.size) (v0 := .int .i64 0) (v1 := .int .i64 0) (v2 := .int .i64 0) (v3 := .slice none 0 0) hB3 (Nat.le_refl _))
    clear l3 hB3
    go_wp2
    refine bodyPost_ret (v := .tuple #[.agg #[.int .i64 0, .int .i64 0, .int .i64 0, .slice none 0 0], .bool false]) (by simp [results, Try.results15, go_sem, s0, s1, s2, s3]) rfl ?_
    show GivesLr w os _ _
    unfold GivesLr
    rw [HE.out, htr.out]
    exact ⟨none, 0, rfl, OwnI.empty _ _, HB.out⟩
  · have ht := hide (tf_false hv)
    clear hv hok
    go_enter Try.func15, Try.ntmps15
    go_wp2_with fail
    generalize w.alloc (.cells #[.int .i64 0, .int .i64 0, .int .i64 0, .slice none 0 0] 25) = W at hB l1 h1 ⊢
    refine (specValidOps_any A os c W h1).mono ?_
    rintro e w1 ⟨rfl, hb1⟩
    rw [ht.out]
    have l2 := l1.below hb1 l1.lt
    have hB1 := hB.trans (hb1.mono hB.size)
    obtain ⟨⟨r0, r1, r2, r3, f0, f1, f2, f3, s0, s1, s2, s3⟩, _⟩ := l2.put4 (.int .i64 0) (.int .i64 0) (.int .i64 0) (.slice none 0 0)
    have HB := hide (put4_below (q := w.heap.size) (v0 := .int .i64 0) (v1 := .int .i64 0) (v2 := .int .i64 0) (v3 := .slice none 0 0) hB1 (Nat.le_refl _))
    clear hb1 hB l1 h1 l2 hB1
    go_wp2
    refine bodyPost_ret (v := .tuple #[.agg #[.int .i64 0, .int .i64 0, .int .i64 0, .slice none 0 0], .bool false]) (by simp [results, Try.results15, go_sem, s0, s1, s2, s3]) rfl ?_
    show GivesLr w os _ _
    unfold GivesLr
    rw [HE.out, htr.out]
    exact ⟨none, 0, rfl, OwnI.empty _ _, HB.out⟩

end Go.Proofs.Ytochdhibmmohfac
