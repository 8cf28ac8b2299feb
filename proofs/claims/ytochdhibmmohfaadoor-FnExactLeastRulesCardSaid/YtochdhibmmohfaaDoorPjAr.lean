/-
  Lemmas, several texts in one: DpS, LrS, ExLR.
-/
import Derived.Test.YtochdhibmmohfaaDoorRunS
import Derived.Test.YtochdhibmmohfaaDoorPjAj
import Derived.Test.YtochdhibmmohfaaDoorPjAm
import Derived.Test.YtochdhibmmohfaaDoorPjAo
import Derived.Deep.Cut
import Derived.Deep.RegionHeld3
import Derived.Deep.RegionHeld
import Derived.Test.YtochdhibmmohfaaDoorLrI
import Derived.Test.YtochdhibmmohfaaDoorPjAi
import Derived.Test.YtochdhibmmohfaaDoorArg
import Derived.Test.YtochdhibmmohfaaDoorPjAn
import Derived.Test.YtochdhibmmohfaaDoorPjAf
import Derived.Test.YtochdhibmmohfaaDoorPjAk
namespace Go.Proofs.YtochdhibmmohfaaDoor
open Go.RowKit
set_option linter.unusedVariables false

set_option maxRecDepth 100000 in
set_option maxHeartbeats 2000000 in
theorem specDepthsOf_any (A : Option Addr) (os : List Od) (c : Nat) (w : World) (h : OpsAt w w.heap.size A os) (hc : os.length ≤ c) :
    Calls Tryd.prog 15 #[.slice A os.length c] w (GivesInts w (depthsOf os)) := by
  by_cases hok : OpsOk os
  · have ht := hide (tf_true hok)
    have hl := hok.1
    have Hall := hide hok.2
    have hnl := run_le hok.2
    have HV := hide (show depthsOf os = toldOf List.length os (runShp Shp.new os).2 by unfold depthsOf; rw [if_pos hok])
    obtain ⟨R, hR⟩ : ∃ R, R = runShp Shp.new os := ⟨_, rfl⟩
    rw [← hR] at HV hnl
    have HR := hide hR
    clear hR hok
    obtain ⟨s, n⟩ := R
    rw [HV.out]
    simp only at hnl ⊢
    go_enter Tryd.func15, Tryd.ntmps15
    go_wp2_with fail
    refine (specValidOps_any A os c w h).mono ?_
    rintro e w1 ⟨rfl, hb1⟩
    rw [ht.out]
    have hA1 := hb1.alloc hb1.size (.cells #[] 3)
    have h1 := h.later hA1 (Nat.le_refl _)
    have HO1 := hide ((OwnI.bare w1).mono hb1.size)
    have HA1 := hide hA1
    go_wp2_with fail
    generalize w1.alloc (.cells #[] 3) = W1 at HA1 HO1 h1 ⊢
    have HC := runShapes_any A os c W1 h1 Hall.out
    rw [← HR.out] at HC
    refine HC.mono ?_
    clear HC
    rintro e w2 ⟨p, rfl, ho, hb2⟩
    have hg1 := w1.heap.size
    have HO2 := hide (HO1.out.below hb2)
    have HB2 := hide (HA1.out.trans (hb2.mono HA1.out.size))
    simp only [shVal, shCells]
    have HB3 := hide (HB2.out.alloc HB2.out.size (.cells #[.slice p.K s.kinds.length p.c1, .slice p.F s.full.length p.c2, .slice p.S s.stack.length p.c3, .slice p.M s.memo.length p.c4, .bool s.done] 39))
    have HO3 := hide (HO2.out.alloc (.cells #[.slice p.K s.kinds.length p.c1, .slice p.F s.full.length p.c2, .slice p.S s.stack.length p.c3, .slice p.M s.memo.length p.c4, .bool s.done] 39))
    clear ho hb1 hb2 h1 hA1 HO1 HO2 HA1 HB2
    go_upto_region 5 with fail
    generalize w2.alloc (.cells #[.slice p.K s.kinds.length p.c1, .slice p.F s.full.length p.c2, .slice p.S s.stack.length p.c3, .slice p.M s.memo.length p.c4, .bool s.done] 39) = W3 at HB3 HO3 ⊢
    generalize w1.heap.size = g1 at HO3 ⊢
    go_wp2_with fail
    go_loopg [3, 6] n (fun gk ov iv wr => ∃ (k : Nat) (Ao : Option Addr) (co : Nat) (xs : List Int), k ≤ n ∧ gk = n - k ∧ iv = .int .i64 ((k : Int) + 1) ∧ ov = .slice Ao xs.length co ∧ Hid (xs = toldOf List.length os k) ∧ OwnI wr w.heap.size Ao co xs ∧ Below w.heap.size w wr)
    case atStart => exact ⟨0, _, 0, [], Nat.zero_le _, rfl, rfl, rfl, hide rfl, HO3.out, HB3.out⟩
    case round =>
      clear HO3 HB3
      obtain ⟨k, Ao, co, xs, hk, rfl, rfl, rfl, hxs, hO, hB⟩ := hrel
      have HO := hide hO
      have HB := hide hB
      have hxl : xs.length ≤ 300 := by rw [hxs.out, toldOf_len]; omega
      clear hO hB
      by_cases hlt : k < n
      · have hT := hide (show (os.take (k + 1)).length = k + 1 by simp; omega)
        have hi1 : (k : Int) + 1 ≤ (n : Int) := by omega
        have hi2 : (k : Int) + 1 ≤ (c : Int) := by omega
        have hi0 : (0 : Int) ≤ (k : Int) + 1 := by omega
        have hcall := runShapes_any A (os.take (k + 1)) c wr ((h.upto (k + 1)).later HB.out (Nat.le_refl _)) (fun o ho => Hall.out o (List.mem_of_mem_take ho))
        rw [hT.out] at hcall
        have Hst := hide (show (runShp Shp.new (os.take (k + 1))).1.stack = stk os (k + 1) from rfl)
        generalize runShp Shp.new (os.take (k + 1)) = R2 at hcall Hst
        obtain ⟨s2, n2⟩ := R2
        have HCall := hide hcall
        have hs3 : s2.stack.length ≤ 300 := by
          have : s2.stack = stk os (k + 1) := Hst.out
          rw [this]
          exact stk_le Hall.out _
        clear hcall
        go_wp2_with fail
        refine HCall.out.mono ?_
        clear HCall
        rintro e w5 ⟨p2, rfl, _, hb5⟩
        have HO5 := hide (HO.out.below hb5)
        have HB5 := hide (HB.out.trans (hb5.mono HB.out.size))
        simp only [shVal, shCells]
        have HO6 := hide (HO5.out.alloc (.cells #[.slice p2.K s2.kinds.length p2.c1, .slice p2.F s2.full.length p2.c2, .slice p2.S s2.stack.length p2.c3, .slice p2.M s2.memo.length p2.c4, .bool s2.done] 39))
        have HB6 := hide (HB5.out.alloc HB5.out.size (.cells #[.slice p2.K s2.kinds.length p2.c1, .slice p2.F s2.full.length p2.c2, .slice p2.S s2.stack.length p2.c3, .slice p2.M s2.memo.length p2.c4, .bool s2.done] 39))
        have l6 := Lies.new w5 #[.slice p2.K s2.kinds.length p2.c1, .slice p2.F s2.full.length p2.c2, .slice p2.S s2.stack.length p2.c3, .slice p2.M s2.memo.length p2.c4, .bool s2.done] 39
        clear hb5 HO HB HO5 HB5
        go_upto_region 9 with fail
        generalize w5.alloc (.cells #[.slice p2.K s2.kinds.length p2.c1, .slice p2.F s2.full.length p2.c2, .slice p2.S s2.stack.length p2.c3, .slice p2.M s2.memo.length p2.c4, .bool s2.done] 39) = W6 at HO6 HB6 l6 ⊢
        have c2 := l6.cell 2
        simp only [List.getElem?_toArray, List.getElem?_cons_zero, List.getElem?_cons_succ] at c2
        have hwz := HB6.out.size
        go_wp2_with (at_builtin; refine append_ints rfl (.tmp 30) (.tmp 34) rfl w.heap.size Ao co xs rfl (HO6.out.alloc _) _ _ 1 [(s2.stack.length : Int)] rfl (fun e => by cases e) (IntsAt.oneN _ W6.heap.size (s2.stack.length : Int) (by constructor <;> omega) rfl) (by simp <;> omega) (by simp <;> omega) ?_; intro zs A7 c7 w7 hz7 ho7 hg7 ha7; have HX := hide (And.intro ho7 (below_grown (HB6.out.alloc hwz _) hg7 (by simp; omega) (fun q hq => (HO6.out.blocks q hq).1))); have hzz := hide (show zs = toldOf List.length os (k + 1) by rw [hz7.out, hxs.out, toldOf_succ, ← Hst.out]); clear ho7 hg7 ha7 hz7 l6)
        go_roundg (n - (k + 1))
        case measure => omega
        case rel => exact ⟨k + 1, A7, c7, zs, by omega, rfl, by go_num, rfl, hzz, HX.out.1, HX.out.2⟩
      · obtain rfl : k = n := by omega
        have hi1 : ¬ (k : Int) + 1 ≤ (k : Int) := by omega
        go_wp2
        go_ret
        rw [← hxs.out]
        exact ⟨Ao, co, rfl, HO.out, HB.out⟩
  · have ht := hide (tf_false hok)
    have HV := hide (show depthsOf os = [] by unfold depthsOf; rw [if_neg hok])
    rw [HV.out]
    clear hok HV
    go_enter Tryd.func15, Tryd.ntmps15
    go_wp2_with fail
    refine (specValidOps_any A os c w h).mono ?_
    rintro e w1 ⟨rfl, hb1⟩
    rw [ht.out]
    go_wp2
    go_ret
    exact ⟨none, 0, rfl, OwnI.empty _ _, hb1⟩

end Go.Proofs.YtochdhibmmohfaaDoor

namespace Go.Proofs.YtochdhibmmohfaaDoor
open Go.RowKit
set_option linter.unusedVariables false

set_option maxRecDepth 100000 in
set_option maxHeartbeats 2000000 in
theorem specLeast_yes (A : Option Addr) (os : List Od) (c : Nat) (w : World) (h : OpsAt w w.heap.size A os) (hc : os.length ≤ c) (hok : LrOk os) :
    Calls Tryd.prog 5 #[.slice A os.length c] w (GivesLr w os) := by
  have hB := (Below.refl w.heap.size w).alloc (Nat.le_refl _) (.cells zero4 26)
  have l1 := Lies.new w zero4 26
  have h1 := h.later hB (Nat.le_refl _)
  have ht := hide (tf_true hok.1)
  have htr := hide (tf_true hok)
  have hl := h.len
  have Hall := hide hok.1.2
  have Hn := hide hok.2
  have HE : Hid (lrOf os = leastRu os) := lr_yes hok
  have hkl0 := run_kinds_few hok.1
  clear h hok
  unfold zero4 at hB l1 h1
  go_enter Tryd.func5, Tryd.ntmps5
  go_wp2_with fail
  generalize w.alloc (.cells #[.int .i64 0, .int .i64 0, .int .i64 0, .slice none 0 0] 26) = W at hB l1 h1 ⊢
  refine (specValidOps_any A os c W h1).mono ?_
  rintro e w1 ⟨rfl, hb1⟩
  rw [ht.out]
  have l2 := l1.below hb1 l1.lt
  have h2 := h1.later hb1 (Nat.le_refl _)
  have hB1 := hB.trans (hb1.mono hB.size)
  clear hb1 hB l1 h1
  go_wp2_with fail
  have HC := runShapes_any A os c w1 h2 Hall.out
  obtain ⟨R, hR⟩ : ∃ R, R = runShp Shp.new os := ⟨_, rfl⟩
  rw [← hR] at HC hkl0
  have Hn2 : Hid (R.2 = os.length) := hide (by rw [hR]; exact Hn.out)
  have HK : Hid (R.1 = (runShp Shp.new os).1) := hide (by rw [hR])
  clear hR
  obtain ⟨s, m⟩ := R
  have hm : m = os.length := Hn2.out
  subst hm
  refine HC.mono ?_
  clear HC
  rintro e w2 ⟨p, rfl, ho, hb2⟩
  have hkl : s.kinds.length ≤ 1000000 := hkl0
  simp only [shVal, shCells]
  have hbx := (Below.refl w2.heap.size w2).alloc (Nat.le_refl _) (.cells #[.slice p.K s.kinds.length p.c1, .slice p.F s.full.length p.c2, .slice p.S s.stack.length p.c3, .slice p.M s.memo.length p.c4, .bool s.done] 39)
  have hb3 := hb2.trans (hbx.mono hb2.size)
  have l3 := l2.below hb3 l2.lt
  have h3 := h2.later hb3 (Nat.le_refl _)
  have hB3 := hB1.trans (hb3.mono hB1.size)
  have lx := Lies.new w2 #[.slice p.K s.kinds.length p.c1, .slice p.F s.full.length p.c2, .slice p.S s.stack.length p.c3, .slice p.M s.memo.length p.c4, .bool s.done] 39
  have hq2 : w.heap.size < w2.heap.size := (l2.below hb2 l2.lt).lt
  clear ho hb2 hbx hb3 l2 h2 hB1
  go_wp2_with fail
  generalize w2.alloc (.cells #[.slice p.K s.kinds.length p.c1, .slice p.F s.full.length p.c2, .slice p.S s.stack.length p.c3, .slice p.M s.memo.length p.c4, .bool s.done] 39) = w3 at l3 h3 hB3 lx ⊢
  have hqx0 : w.heap.size < w2.heap.size := hq2
  generalize w2.heap.size = bx at lx hqx0 ⊢
  have hfew := depthsOf_few (os := os)
  have hd64 := hide (depthsOf_64 (os := os))
  refine (specDepthsOf_any A os c w3 h3 hc).mono ?_
  rintro e w4 ⟨Ad, cd, rfl, hod, hb4⟩
  generalize hL : depthsOf os = L at hfew hd64 hod ⊢
  have HL := hide hL
  clear hL
  have hid := hod.ints hd64.out (by omega)
  have l4 := l3.below hb4 l3.lt
  have h4 := h3.later hb4 (Nat.le_refl _)
  have hB4 := hB3.trans (hb4.mono hB3.size)
  have lx4 := lx.below hb4 lx.lt
  have Hl4 := hide l4
  have H4 := hide h4
  have HB4 := hide hB4
  have Hlx4 := hide lx4
  have Hid4 := hide hid
  have hbxlt : bx < w4.heap.size := lx4.lt
  have hqlt : w.heap.size < w4.heap.size := l4.lt
  clear hod hb4 l3 h3 hB3 lx l4 h4 hB4 lx4 hid
  go_wp2_with fail
  go_loopw [6, 8] (fun mv iv wr => ∃ k : Nat, k ≤ L.length ∧ iv = .int .i64 (k : Int) ∧ mv = .int .i64 (maxL (L.take k)) ∧ wr = w4) (fun _ iv _ => L.length - (intOf iv).toNat)
  case atStart => exact ⟨0, Nat.zero_le _, rfl, rfl, rfl⟩
  case round =>
    obtain ⟨k, hk, rfl, rfl, rfl⟩ := hrel
    by_cases hlt : k < L.length
    · obtain ⟨b, off, x, rfl, hbl, hx, hmem, hcx⟩ := Hid4.out.at_ hlt
      have HX := hide (maxL_take hx)
      have hk1 : (0 : Int) ≤ (k : Int) := by omega
      have hk2 : (k : Int) < (L.length : Int) := by omega
      clear hx hmem
      go_wp2
      go_roundw
      case rel => exact ⟨k + 1, by omega, by go_num, by rw [HX.out], by first | rfl | trivial⟩
      case measure => simp [intOf]; omega
    · obtain rfl : k = L.length := by omega
      rw [List.take_length]
      have hk2 : decide ((L.length : Int) < (L.length : Int)) = false := by simp
      have e0 := Hlx4.out.cell 0
      simp at e0
      have hcls := classesIn_few (os := os)
      have HCl := hide (specClassesIn_any A os c)
      obtain ⟨M, hM⟩ : ∃ M, M = maxL L := ⟨_, rfl⟩
      rw [← hM]
      have HMm := hide hM
      clear hM hlt
      generalize hCd : classesIn os = C at hcls HCl
      have HCd := hide hCd
      clear hCd
      have HR : Hid (leastRu os = ⟨os.length, s.kinds.length, M, C⟩) := by
        show leastRu os = _
        unfold leastRu
        rw [HL.out, HCd.out, HMm.out, ← HK.out]
      clear HMm HCd HK
      have hxq : w.heap.size ≠ bx := by omega
      go_wp2_with fail
      refine wp_region_held_drew (S := fun w' => w'.cell? ⟨bx, 0, none⟩ = some (.slice p.K s.kinds.length p.c1)) (by kernel_rfl) e0 (fun hHeld => ?_)
      refine wpAnyH_take (i := 0) (oi := { dst := some 37, op := _, type := _, pos := _, after := _, guard := _ }) (v := ?_) rfl (by kernel_rfl) (by kernel_rfl) (by kernel_rfl) (fun _ _ _ h => h) (Or.inl ⟨by rfl, ?_⟩) (by assumption) ?_
      rotate_left
      · (intro w hSw; (try dsimp only at hSw); go_simp; try with_reducible rfl)
      try simp only [Act.put, List.setIfInBounds_toArray, List.set_cons_zero, List.set_cons_succ]
      refine wpAnyH_take (i := 1) (oi := { dst := some 38, op := _, type := _, pos := _, after := _, guard := _ }) (v := ?_) rfl (by kernel_rfl) (by kernel_rfl) (by kernel_rfl) (fun _ _ _ h => h) (Or.inl ⟨by rfl, ?_⟩) (by assumption) ?_
      rotate_left
      · (intro w hSw; (try dsimp only at hSw); go_simp; try with_reducible rfl)
      try simp only [Act.put, List.setIfInBounds_toArray, List.set_cons_zero, List.set_cons_succ]
      refine wpAnyH_take (i := 2) (oi := { dst := some 39, op := _, type := _, pos := _, after := _, guard := _ }) (v := ?_) rfl (by kernel_rfl) (by kernel_rfl) (by kernel_rfl) (fun _ _ _ h => h) (Or.inl ⟨by rfl, ?_⟩) (by assumption) ?_
      rotate_left
      · (intro w hSw; (try dsimp only at hSw); go_simp; try with_reducible rfl)
      try simp only [Act.put, List.setIfInBounds_toArray, List.set_cons_zero, List.set_cons_succ]
      refine wpAnyH_take (i := 3) (oi := { dst := some 40, op := _, type := _, pos := _, after := _, guard := _ }) (v := ?_) rfl (by kernel_rfl) (by kernel_rfl) (by kernel_rfl) (fun _ _ _ h => h) (Or.inl ⟨by rfl, ?_⟩) (by assumption) ?_
      rotate_left
      · (intro w hSw; (try dsimp only at hSw); go_simp; try with_reducible rfl)
      try simp only [Act.put, List.setIfInBounds_toArray, List.set_cons_zero, List.set_cons_succ]
      refine wpAnyH_take (i := 4) (oi := { dst := some 41, op := _, type := _, pos := _, after := _, guard := _ }) (v := ?_) rfl (by kernel_rfl) (by kernel_rfl) (by kernel_rfl) (fun _ _ _ h => h) (Or.inl ⟨by rfl, ?_⟩) (by assumption) ?_
      rotate_left
      · (intro w hSw; (try dsimp only at hSw); go_simp; try with_reducible rfl)
      try simp only [Act.put, List.setIfInBounds_toArray, List.set_cons_zero, List.set_cons_succ]
      refine wpAnyH_take (i := 5) (oi := { dst := some 42, op := _, type := _, pos := _, after := _, guard := _ }) (v := ?_) rfl (by kernel_rfl) (by kernel_rfl) (by kernel_rfl) (fun _ _ _ h => h) (Or.inl ⟨by rfl, ?_⟩) (by assumption) ?_
      rotate_left
      · (intro w hSw; (try dsimp only at hSw); go_simp; try with_reducible rfl)
      try simp only [Act.put, List.setIfInBounds_toArray, List.set_cons_zero, List.set_cons_succ]
      refine wpAnyH_take (i := 6) (oi := { dst := some 43, op := _, type := _, pos := _, after := _, guard := _ }) (v := ?_) rfl (by kernel_rfl) (by kernel_rfl) (by kernel_rfl) (fun _ _ _ h => h) (Or.inl ⟨by rfl, ?_⟩) (by assumption) ?_
      rotate_left
      · (intro w hSw; (try dsimp only at hSw); go_simp; try with_reducible rfl)
      try simp only [Act.put, List.setIfInBounds_toArray, List.set_cons_zero, List.set_cons_succ]
      refine wpAnyH_ready (rs := [7]) (by kernel_rfl) (by simp) ?_
      refine AllReadyH.cons (o := { dst := some 44, op := _, type := _, pos := _, after := _, guard := _ }) rfl (fun K hK => ?_) AllReadyH.nil
      go_simp
      go_at_call 16
      refine (HCl.out _ (H4.out.later (Below.refl _ _).drew (Nat.le_refl _)) ).mono ?_
      rintro e w5 ⟨Ac, cc, rfl, hoc, hb5⟩
      have hbw : Below wr.heap.size wr w5 := (Below.refl _ _).drew.trans (hb5.mono (by simp))
      have q0 := (hbw.cell (p := ⟨bx, 0, none⟩) hbxlt).trans e0
      have hS := Lies.below Hl4.out hbw hqlt
      obtain ⟨⟨r0, r1, r2, r3, f0, f1, f2, f3, s0, s1, s2, s3⟩, hlf⟩ := hS.put4 (.int .i64 (os.length : Int)) (.int .i64 (s.kinds.length : Int)) (.int .i64 M) (.slice Ac C.length cc)
      clear hS hlf
      refine hK.out _ _ q0 (fun hH => ?_)
      clear hK K hHeld
      have hHeld := hH
      clear hH
      try simp only [Act.put, List.setIfInBounds_toArray, List.set_cons_zero, List.set_cons_succ]
      refine wpAnyH_take (i := 8) (oi := { dst := some 45, op := _, type := _, pos := _, after := _, guard := _ }) (v := ?_) rfl (by kernel_rfl) (by kernel_rfl) (by kernel_rfl) (fun _ _ _ h => h) (Or.inl ⟨by rfl, ?_⟩) (by assumption) ?_
      rotate_left
      · (intro w hSw; (try dsimp only at hSw); go_simp; try with_reducible rfl)
      try simp only [Act.put, List.setIfInBounds_toArray, List.set_cons_zero, List.set_cons_succ]
      refine wpAnyH_ready (rs := [9]) (by kernel_rfl) (by simp) ?_
      refine AllReadyH.cons (o := { dst := none, op := _, type := _, pos := _, after := _, guard := _ }) rfl (fun K hK => ?_) AllReadyH.nil
      go_simp
      refine hK.out _ _ ((World.cell?_setCell_far _ _ _ _ hxq).trans ((World.cell?_setCell_far _ _ _ _ hxq).trans ((World.cell?_setCell_far _ _ _ _ hxq).trans ((World.cell?_setCell_far _ _ _ _ hxq).trans hHeld)))) (fun hH => ?_)
      clear hK K hHeld
      have hHeld := hH
      clear hH
      try simp only [Act.put, List.setIfInBounds_toArray, List.set_cons_zero, List.set_cons_succ]
      refine wpAnyH_ready (rs := [10]) (by kernel_rfl) (by simp) ?_
      refine AllReadyH.cons (o := { dst := some 3, op := _, type := _, pos := _, after := _, guard := _ }) rfl (fun K hK => ?_) AllReadyH.nil
      go_simp
      refine hK.out _ _ hHeld (fun hH => ?_)
      clear hK K hHeld
      have hHeld := hH
      clear hH
      try simp only [Act.put, List.setIfInBounds_toArray, List.set_cons_zero, List.set_cons_succ]
      refine wpAnyH_done (by kernel_rfl) ?_ _
      have HO := hide (hoc.put4 (q := w.heap.size) (by simpa using hqlt) (.int .i64 (os.length : Int)) (.int .i64 (s.kinds.length : Int)) (.int .i64 M) (.slice Ac C.length cc))
      have HBf := hide (put4_below (q := w.heap.size) (v0 := .int .i64 (os.length : Int)) (v1 := .int .i64 (s.kinds.length : Int)) (v2 := .int .i64 M) (v3 := .slice Ac C.length cc) (HB4.out.trans (hbw.mono HB4.out.size)) (Nat.le_refl _))
      have hz4 := HB4.out.size
      clear hbw hb5 hoc q0 e0 r0 r1 r2 r3 f0 f1 f2 f3
      go_wp2
      refine bodyPost_ret (v := .tuple #[.agg #[.int .i64 (os.length : Int), .int .i64 (s.kinds.length : Int), .int .i64 M, .slice Ac C.length cc], .bool true]) (by simp [results, Tryd.results5, go_sem, s0, s1, s2, s3]) rfl ?_
      show GivesLr w os _ _
      unfold GivesLr
      rw [HE.out, HR.out, htr.out]
      exact ⟨Ac, cc, rfl, HO.out.mono (by simpa using hz4), HBf.out⟩

set_option maxRecDepth 100000 in
set_option maxHeartbeats 1000000 in
theorem specLeast_any (A : Option Addr) (os : List Od) (c : Nat) (w : World) (h : OpsAt w w.heap.size A os) (hc : os.length ≤ c) :
    Calls Tryd.prog 5 #[.slice A os.length c] w (GivesLr w os) := by
  by_cases hok : LrOk os
  · exact specLeast_yes A os c w h hc hok
  have hB := (Below.refl w.heap.size w).alloc (Nat.le_refl _) (.cells zero4 26)
  have l1 := Lies.new w zero4 26
  have h1 := h.later hB (Nat.le_refl _)
  have htr := hide (tf_false hok)
  have HE : Hid (lrOf os = ⟨0, 0, 0, []⟩) := lr_no hok
  have hl := h.len
  clear h
  unfold zero4 at hB l1 h1
  by_cases hv : OpsOk os
  · have ht := hide (tf_true hv)
    have Hall := hide hv.2
    have hn : (runShp Shp.new os).2 < os.length := by
      have h1 := run_le hv.2
      rcases Nat.lt_or_ge (runShp Shp.new os).2 os.length with h2 | h2
      · exact h2
      · exact absurd ⟨hv, by omega⟩ hok
    clear hv hok
    go_enter Tryd.func5, Tryd.ntmps5
    go_wp2_with fail
    generalize w.alloc (.cells #[.int .i64 0, .int .i64 0, .int .i64 0, .slice none 0 0] 26) = W at hB l1 h1 ⊢
    refine (specValidOps_any A os c W h1).mono ?_
    rintro e w1 ⟨rfl, hb1⟩
    rw [ht.out]
    have l2 := l1.below hb1 l1.lt
    have h2 := h1.later hb1 (Nat.le_refl _)
    have hB1 := hB.trans (hb1.mono hB.size)
    clear hb1 hB l1 h1
    go_wp2_with fail
    have HC := runShapes_any A os c w1 h2 Hall.out
    obtain ⟨R, hR⟩ : ∃ R, R = runShp Shp.new os := ⟨_, rfl⟩
    rw [← hR] at HC hn
    clear hR
    obtain ⟨s, m⟩ := R
    refine HC.mono ?_
    clear HC
    rintro e w2 ⟨p, rfl, ho, hb2⟩
    simp only [shVal, shCells]
    have hbx := (Below.refl w2.heap.size w2).alloc (Nat.le_refl _) (.cells #[.slice p.K s.kinds.length p.c1, .slice p.F s.full.length p.c2, .slice p.S s.stack.length p.c3, .slice p.M s.memo.length p.c4, .bool s.done] 39)
    have hb3 := hb2.trans (hbx.mono hb2.size)
    have l3 := l2.below hb3 l2.lt
    have hB3 := hB1.trans (hb3.mono hB1.size)
    have hn2 : (m : Int) < (os.length : Int) := by have : m < os.length := hn; omega
    clear ho hb2 hbx hb3 l2 h2 hB1 hn
    obtain ⟨⟨r0, r1, r2, r3, f0, f1, f2, f3, s0, s1, s2, s3⟩, _⟩ := l3.put4 (.int .i64 0) (.int .i64 0) (.int .i64 0) (.slice none 0 0)
    have HB := hide (put4_below (q := w.heap.size) (v0 := .int .i64 0) (v1 := .int .i64 0) (v2 := .int .i64 0) (v3 := .slice none 0 0) hB3 (Nat.le_refl _))
    clear l3 hB3
    go_wp2
    refine bodyPost_ret (v := .tuple #[.agg #[.int .i64 0, .int .i64 0, .int .i64 0, .slice none 0 0], .bool false]) (by simp [results, Tryd.results5, go_sem, s0, s1, s2, s3]) rfl ?_
    show GivesLr w os _ _
    unfold GivesLr
    rw [HE.out, htr.out]
    exact ⟨none, 0, rfl, OwnI.empty _ _, HB.out⟩
  · have ht := hide (tf_false hv)
    clear hv hok
    go_enter Tryd.func5, Tryd.ntmps5
    go_wp2_with fail
    generalize w.alloc (.cells #[.int .i64 0, .int .i64 0, .int .i64 0, .slice none 0 0] 26) = W at hB l1 h1 ⊢
    refine (specValidOps_any A os c W h1).mono ?_
    rintro e w1 ⟨rfl, hb1⟩
    rw [ht.out]
    have l2 := l1.below hb1 l1.lt
    have hB1 := hB.trans (hb1.mono hB.size)
    obtain ⟨⟨r0, r1, r2, r3, f0, f1, f2, f3, s0, s1, s2, s3⟩, _⟩ := l2.put4 (.int .i64 0) (.int .i64 0) (.int .i64 0) (.slice none 0 0)
    have HB := hide (put4_below (q := w.heap.size) (v0 := .int .i64 0) (v1 := .int .i64 0) (v2 := .int .i64 0) (v3 := .slice none 0 0) hB1 (Nat.le_refl _))
    clear hb1 hB l1 h1 l2 hB1
    go_wp2
    refine bodyPost_ret (v := .tuple #[.agg #[.int .i64 0, .int .i64 0, .int .i64 0, .slice none 0 0], .bool false]) (by simp [results, Tryd.results5, go_sem, s0, s1, s2, s3]) rfl ?_
    show GivesLr w os _ _
    unfold GivesLr
    rw [HE.out, htr.out]
    exact ⟨none, 0, rfl, OwnI.empty _ _, HB.out⟩

end Go.Proofs.YtochdhibmmohfaaDoor

namespace Go.Proofs.YtochdhibmmohfaaDoor
open Go.RowKit Go.Maps
set_option linter.unusedVariables false

theorem lrOf_few (os : List Od) : (lrOf os).cls.length ≤ 300 := by
  by_cases h : LrOk os
  · rw [lr_yes h]; exact classesIn_few
  · rw [lr_no h]; simp
theorem lrOf_c64 (os : List Od) : ∀ x ∈ (lrOf os).cls, In64 x := by
  by_cases h : LrOk os
  · rw [lr_yes h]; exact classesIn_64
  · rw [lr_no h]; simp
theorem lrOf_64 (os : List Od) : In64 (lrOf os).steps ∧ In64 (lrOf os).nodes ∧ In64 (lrOf os).deep := by
  by_cases h : LrOk os
  · rw [lr_yes h]
    have h1 := run_kinds_few h.1
    have h2 := h.1.1
    refine ⟨?_, ?_, maxL_64 depthsOf_64⟩
    · show In64 (os.length : Int)
      constructor <;> omega
    · show In64 ((runShp Shp.new os).1.kinds.length : Int)
      constructor <;> omega
  · rw [lr_no h]
    refine ⟨?_, ?_, ?_⟩ <;> (constructor <;> simp)

set_option maxRecDepth 100000 in
set_option maxHeartbeats 4000000 in
theorem exLR_small (A0 : Option Addr) (os0 : List Od) (c0 : Nat) (w : World) (hr0 : OpsAt w w.heap.size A0 os0) (hF : FormsAt w w.heap.size) (hN : NeedsAt w w.heap.size) (hs : 0 ≤ szI os0.length 1048576) :
    Calls Tryd.prog 3 #[.slice A0 os0.length c0] w fun e w' => e = .returned (.bool true) ∧ Below w.heap.size w w' := by
  have hsm0 : os0.length ≤ 1048576 := by unfold szI at hs; split at hs <;> omega
  have Hwf0 := hide hr0.wf
  have hnl0 := hr0.len
  have Hr0 := hide hr0
  have HhF := hide hF
  have HhN := hide hN
  clear hr0 hF hN
  go_enter Tryd.func3, Tryd.ntmps3
  have kW := Keeps.at_ 0 w
  go_wp2_with fail
  refine (szOpS_any A0 os0.length c0 _ w (by omega) (by omega) hnl0).mono ?_
  rintro e w' ⟨rfl, rfl⟩
  generalize szI os0.length 1048576 = sz at hs ⊢
  have hd : decide (sz < 0) = false := by simp; omega
  go_wp2_with fail
  refine (toOpS_any A0 os0 c0 w (Hr0.out.later kW.bel (Nat.le_refl _)) hsm0).mono ?_
  rintro e w1 ⟨rfl, hm, hb⟩
  have xs_0 := OpsAt.of_row hm hm.lt Hwf0.out hnl0
  have Hxs_0 := hide hm
  have sw1 : w.heap.size ≤ w1.heap.size := hb.size
  replace kW := kW.step hb
  clear hm hb
  go_wp2_with fail
  refine (specLeast_any _ os0 _ w1 xs_0 (Nat.le_refl _)).mono ?_
  rintro e w2 ⟨AW0, cW0, rfl, hoW0, hb⟩
  have hRf0 : (lrOf os0).cls.length ≤ 300 := lrOf_few os0
  have h640 : ∀ x ∈ (lrOf os0).cls, In64 x := lrOf_c64 os0
  have hq0 : In64 (lrOf os0).steps ∧ In64 (lrOf os0).nodes ∧ In64 (lrOf os0).deep := lrOf_64 os0
  simp only [ruVal, ruCells]
  generalize hRd0 : lrOf os0 = R0 at hoW0 hRf0 h640 hq0 ⊢
  generalize hvd1 : tf (LrOk os0) = v1 at hoW0 hRf0 h640 hq0 ⊢
  have HRd0 := hide hRd0
  clear hRd0
  have Hvd1 := hide hvd1
  clear hvd1
  have H64_0 := hide h640
  have HQ0 := hide hq0
  clear h640 hq0
  have hvv1 : (v1 != v1) = false := by simp
  have sw2 : w1.heap.size ≤ w2.heap.size := hb.size
  replace kW := kW.step hb
  clear xs_0 Hxs_0
  clear hb
  have HoW0 := hide hoW0
  have kW0 := Keeps.at_ w1.heap.size w2
  clear hoW0
  have hbx : Below w2.heap.size w2 (w2.alloc (.cells #[.int .i64 R0.steps, .int .i64 R0.nodes, .int .i64 R0.deep, .slice AW0 R0.cls.length cW0] 26)) := (Below.refl _ _).alloc (Nat.le_refl _) _
  have lx := Lies.new w2 #[.int .i64 R0.steps, .int .i64 R0.nodes, .int .i64 R0.deep, .slice AW0 R0.cls.length cW0] 26
  replace kW := kW.step hbx
  replace kW0 := kW0.step hbx
  have sx : w2.heap.size < (w2.alloc (.cells #[.int .i64 R0.steps, .int .i64 R0.nodes, .int .i64 R0.deep, .slice AW0 R0.cls.length cW0] 26)).heap.size := by simp
  have yW0 := lx.cell 0
  have yW1 := lx.cell 1
  have yW2 := lx.cell 2
  have yW3 := lx.cell 3
  simp at yW0 yW1 yW2 yW3
  go_wp2_with fail
  generalize w2.alloc (.cells #[.int .i64 R0.steps, .int .i64 R0.nodes, .int .i64 R0.deep, .slice AW0 R0.cls.length cW0] 26) = w3 at lx sx hbx yW0 yW1 yW2 yW3 kW kW0  ⊢
  have HLxW := hide lx
  have sw3 : w2.heap.size < w3.heap.size := sx
  have kxW := Keeps.at_ w2.heap.size w3
  clear lx sx hbx
  clear yW0 yW1 yW2 yW3
  refine (toOpS_any A0 os0 c0 w3 (Hr0.out.later kW.bel (Nat.le_refl _)) hsm0).mono ?_
  rintro e w4 ⟨rfl, hm, hb⟩
  have sw4 : w3.heap.size ≤ w4.heap.size := hb.size
  replace kW := kW.step hb
  replace kW0 := kW0.step hb
  replace kxW := kxW.step hb
  clear hb
  have HX0 := hide hm
  have hx0 : w3.heap.size < w4.heap.size := hm.lt
  clear hm
  have kX0 := Keeps.at_ 0 w4
  have lq := HLxW.out.keep kxW (by omega) (by omega)
  have yW0 := lq.cell 0
  have yW1 := lq.cell 1
  have yW2 := lq.cell 2
  have yW3 := lq.cell 3
  simp at yW0 yW1 yW2 yW3
  clear lq
  go_wp2_with fail
  clear yW0 yW1 yW2 yW3
  have HI := implLeast_any (some ⟨w3.heap.size, 0, none⟩) os0 os0.length w4 (show OpsAt w4 w4.heap.size (some ⟨w3.heap.size, 0, none⟩) os0 from (OpsAt.of_row (rowIs_keep HX0.out kX0 (Nat.zero_le _) (by omega)) (by have := kX0.size; omega) Hwf0.out hnl0)) (HhF.out.later kW.bel (Nat.le_refl _)) (HhN.out.later kW.bel (Nat.le_refl _))
  unfold GivesLr at HI
  rw [HRd0.out, Hvd1.out] at HI
  refine HI.mono ?_
  clear HI
  rintro e w5 ⟨AG0, cG0, rfl, hoG0, hb⟩
  simp only [ruVal, ruCells]
  have sw5 : w4.heap.size ≤ w5.heap.size := hb.size
  replace kW := kW.step hb
  replace kW0 := kW0.step hb
  replace kxW := kxW.step hb
  replace kX0 := kX0.step hb
  clear hb
  have HoG0 := hide hoG0
  have kG0 := Keeps.at_ w4.heap.size w5
  clear hoG0
  have hbx : Below w5.heap.size w5 (w5.alloc (.cells #[.int .i64 R0.steps, .int .i64 R0.nodes, .int .i64 R0.deep, .slice AG0 R0.cls.length cG0] 26)) := (Below.refl _ _).alloc (Nat.le_refl _) _
  have lx := Lies.new w5 #[.int .i64 R0.steps, .int .i64 R0.nodes, .int .i64 R0.deep, .slice AG0 R0.cls.length cG0] 26
  have lq := HLxW.out.keep kxW (by omega) (by omega)
  have yW0 := lq.cell 0
  have yW1 := lq.cell 1
  have yW2 := lq.cell 2
  have yW3 := lq.cell 3
  simp at yW0 yW1 yW2 yW3
  clear lq
  replace kW := kW.step hbx
  replace kW0 := kW0.step hbx
  replace kxW := kxW.step hbx
  replace kX0 := kX0.step hbx
  replace kG0 := kG0.step hbx
  replace yW0 := (hbx.cell (p := ⟨w2.heap.size, 0, none⟩) (by show w2.heap.size < _; omega)).trans yW0
  replace yW1 := (hbx.cell (p := ⟨w2.heap.size, 1, none⟩) (by show w2.heap.size < _; omega)).trans yW1
  replace yW2 := (hbx.cell (p := ⟨w2.heap.size, 2, none⟩) (by show w2.heap.size < _; omega)).trans yW2
  replace yW3 := (hbx.cell (p := ⟨w2.heap.size, 3, none⟩) (by show w2.heap.size < _; omega)).trans yW3
  have sx : w5.heap.size < (w5.alloc (.cells #[.int .i64 R0.steps, .int .i64 R0.nodes, .int .i64 R0.deep, .slice AG0 R0.cls.length cG0] 26)).heap.size := by simp
  have yG0 := lx.cell 0
  have yG1 := lx.cell 1
  have yG2 := lx.cell 2
  have yG3 := lx.cell 3
  simp at yG0 yG1 yG2 yG3
  go_wp2_with fail
  generalize w5.alloc (.cells #[.int .i64 R0.steps, .int .i64 R0.nodes, .int .i64 R0.deep, .slice AG0 R0.cls.length cG0] 26) = w6 at lx sx hbx yG0 yG1 yG2 yG3 kW kW0 kxW kX0 kG0 yW0 yW1 yW2 yW3 ⊢
  have HLxG := hide lx
  have sw6 : w5.heap.size < w6.heap.size := sx
  have kxG := Keeps.at_ w5.heap.size w6
  clear lx sx hbx
  clear yW0 yW1 yW2 yW3 yG0 yG1 yG2 yG3
  have iG := (show RuAt w6 w6.heap.size AG0 R0 from ⟨((HoG0.out.keepK kG0 (Nat.le_refl _) rfl).ints H64_0.out (by omega)), HQ0.out.1, HQ0.out.2.1, HQ0.out.2.2⟩)
  have iW := (show RuAt w6 w6.heap.size AW0 R0 from ⟨((HoW0.out.keepK kW0 (Nat.le_refl _) rfl).ints H64_0.out (by omega)), HQ0.out.1, HQ0.out.2.1, HQ0.out.2.2⟩)
  refine (eqRules_same AG0 AW0 R0 cG0 cW0 w6 iG iW).mono ?_
  rintro e w7 ⟨rfl, hb⟩
  have sw7 : w6.heap.size ≤ w7.heap.size := hb.size
  replace kW := kW.step hb
  replace kW0 := kW0.step hb
  replace kxW := kxW.step hb
  replace kX0 := kX0.step hb
  replace kG0 := kG0.step hb
  replace kxG := kxG.step hb
  clear hb iG iW
  have lq := HLxW.out.keep kxW (by omega) (by omega)
  have yW0 := lq.cell 0
  have yW1 := lq.cell 1
  have yW2 := lq.cell 2
  have yW3 := lq.cell 3
  simp at yW0 yW1 yW2 yW3
  clear lq
  have lq := HLxG.out.keep kxG (by omega) (by omega)
  have yG0 := lq.cell 0
  have yG1 := lq.cell 1
  have yG2 := lq.cell 2
  have yG3 := lq.cell 3
  simp at yG0 yG1 yG2 yG3
  clear lq
  go_wp2_with fail
  clear yW0 yW1 yW2 yW3 yG0 yG1 yG2 yG3
  refine (toOpS_any A0 os0 c0 w7 (Hr0.out.later kW.bel (Nat.le_refl _)) hsm0).mono ?_
  rintro e w8 ⟨rfl, hm, hb⟩
  have hy := OpsAt.of_row hm hm.lt Hwf0.out hnl0
  have sw8 : w7.heap.size ≤ w8.heap.size := hb.size
  replace kW := kW.step hb
  replace kW0 := kW0.step hb
  replace kxW := kxW.step hb
  replace kX0 := kX0.step hb
  replace kG0 := kG0.step hb
  replace kxG := kxG.step hb
  clear hm hb
  have hx := (show OpsAt w8 w8.heap.size (some ⟨w3.heap.size, 0, none⟩) os0 from (OpsAt.of_row (rowIs_keep HX0.out kX0 (Nat.zero_le _) (by omega)) (by have := kX0.size; omega) Hwf0.out hnl0))
  go_wp2_with fail
  refine (eqOpS_any _ _ os0 os0 _ _ w8 hx hy).mono ?_
  rintro e w9 ⟨rfl, hb⟩
  have hself : decide (os0 = os0) = true := by simp
  rw [hself]
  have sw9 : w8.heap.size ≤ w9.heap.size := hb.size
  replace kW := kW.step hb
  replace kW0 := kW0.step hb
  replace kxW := kxW.step hb
  replace kX0 := kX0.step hb
  replace kG0 := kG0.step hb
  replace kxG := kxG.step hb
  clear hb hx hy hself
  replace kX0 := kX0.mono (lo' := w3.heap.size) (hi' := w4.heap.size) (by omega) (Nat.le_refl _)
  have lq := HLxW.out.keep kxW (by omega) (by omega)
  have yW0 := lq.cell 0
  have yW1 := lq.cell 1
  have yW2 := lq.cell 2
  have yW3 := lq.cell 3
  simp at yW0 yW1 yW2 yW3
  clear lq
  have lq := HLxG.out.keep kxG (by omega) (by omega)
  have yG0 := lq.cell 0
  have yG1 := lq.cell 1
  have yG2 := lq.cell 2
  have yG3 := lq.cell 3
  simp at yG0 yG1 yG2 yG3
  clear lq
  go_wp2_with fail
  clear yW0 yW1 yW2 yW3 yG0 yG1 yG2 yG3
  refine (markOpS_row (w3.heap.size) _ os0.length os0.length _ 1 w9 (rowIs_keep HX0.out kX0 (Nat.le_refl _) (by omega)) os0.length (Nat.le_refl _) (by omega) (by omega) (by omega)).mono ?_
  rintro e w10 ⟨rfl, _, hO⟩
  have sw10 : w9.heap.size ≤ w10.heap.size := by rw [hO.size]; exact Nat.le_refl _
  replace kW := kW.only hO (by omega)
  replace kW0 := kW0.only hO (by omega)
  replace kxW := kxW.only hO (by omega)
  replace kG0 := kG0.only hO (by omega)
  replace kxG := kxG.only hO (by omega)
  have hk0m : 0 ≤ 1 + 2 * (os0.length : Int) ∧ 1 + 2 * (os0.length : Int) ≤ 4000000000000 := by constructor <;> omega
  generalize 1 + 2 * (os0.length : Int) = k0m at hk0m ⊢
  clear hO
  clear kX0
  have hdk : decide (k0m < 0) = false := by simp; omega
  have lq := HLxW.out.keep kxW (by omega) (by omega)
  have yW0 := lq.cell 0
  have yW1 := lq.cell 1
  have yW2 := lq.cell 2
  have yW3 := lq.cell 3
  simp at yW0 yW1 yW2 yW3
  clear lq
  have lq := HLxG.out.keep kxG (by omega) (by omega)
  have yG0 := lq.cell 0
  have yG1 := lq.cell 1
  have yG2 := lq.cell 2
  have yG3 := lq.cell 3
  simp at yG0 yG1 yG2 yG3
  clear lq
  go_wp2_with fail
  clear yW0 yW1 yW2 yW3 yG0 yG1 yG2 yG3
  have iG := (show RuAt w10 w10.heap.size AG0 R0 from ⟨((HoG0.out.keepK kG0 (Nat.le_refl _) rfl).ints H64_0.out (by omega)), HQ0.out.1, HQ0.out.2.1, HQ0.out.2.2⟩)
  have iW := (show RuAt w10 w10.heap.size AW0 R0 from ⟨((HoW0.out.keepK kW0 (Nat.le_refl _) rfl).ints H64_0.out (by omega)), HQ0.out.1, HQ0.out.2.1, HQ0.out.2.2⟩)
  refine (eqRules_same AG0 AW0 R0 cG0 cW0 w10 iG iW).mono ?_
  rintro e w11 ⟨rfl, hb⟩
  have sw11 : w10.heap.size ≤ w11.heap.size := hb.size
  replace kW := kW.step hb
  replace kW0 := kW0.step hb
  replace kxW := kxW.step hb
  replace kG0 := kG0.step hb
  replace kxG := kxG.step hb
  clear hb iG iW
  have lq := HLxW.out.keep kxW (by omega) (by omega)
  have yW0 := lq.cell 0
  have yW1 := lq.cell 1
  have yW2 := lq.cell 2
  have yW3 := lq.cell 3
  simp at yW0 yW1 yW2 yW3
  clear lq
  have lq := HLxG.out.keep kxG (by omega) (by omega)
  have yG0 := lq.cell 0
  have yG1 := lq.cell 1
  have yG2 := lq.cell 2
  have yG3 := lq.cell 3
  simp at yG0 yG1 yG2 yG3
  clear lq
  go_wp2_with fail
  clear yW0 yW1 yW2 yW3 yG0 yG1 yG2 yG3
  refine (markRules_own _ w4.heap.size w5.heap.size AG0 cG0 R0 1 w11 (HoG0.out.keepK kG0 (Nat.le_refl _) rfl) (fun g hg => HoG0.out.blocks g hg) (by omega) (by omega) (by omega)).mono ?_
  rintro e w12 ⟨rfl, hoM0, hS⟩
  have sw12 : w11.heap.size ≤ w12.heap.size := hS.size
  replace kW := kW.save hS (by omega)
  replace kW0 := kW0.save hS (by omega)
  replace kxW := kxW.save hS (by omega)
  replace kxG := kxG.save hS (by omega)
  clear hS
  have Hm64_0 : Hid (∀ x ∈ marks 1 R0.cls.length, In64 x) := hide fun x hx => by
    obtain ⟨q, hq, rfl⟩ := List.mem_map.1 hx
    have := List.mem_range.1 hq
    constructor <;> omega
  have hml0 := marks_len 1 R0.cls.length
  clear kG0
  have HoM0 := hide hoM0
  clear hoM0
  have kM0 := Keeps.at_ 0 w12
  have hm0 : 0 ≤ 1 + (R0.cls.length : Int) ∧ 1 + (R0.cls.length : Int) ≤ 1048000 := by constructor <;> omega
  generalize hmd0 : 1 + (R0.cls.length : Int) = m0 at hm0 ⊢
  have HMD0 := hide hmd0
  clear hmd0
  have lq := HLxW.out.keep kxW (by omega) (by omega)
  have yW0 := lq.cell 0
  have yW1 := lq.cell 1
  have yW2 := lq.cell 2
  have yW3 := lq.cell 3
  simp at yW0 yW1 yW2 yW3
  clear lq
  have lq := HLxG.out.keep kxG (by omega) (by omega)
  have yG0 := lq.cell 0
  have yG1 := lq.cell 1
  have yG2 := lq.cell 2
  have yG3 := lq.cell 3
  simp at yG0 yG1 yG2 yG3
  clear lq
  go_wp2_with fail
  clear yW0 yW1 yW2 yW3 yG0 yG1 yG2 yG3
  have iG := (HoM0.out.keepK kM0 (Nat.zero_le _) rfl).ints Hm64_0.out (by omega)
  have HH := hide (heldRules_own AG0 cG0 R0 1 w12 iG (by omega) (by omega) (by omega))
  rw [HMD0.out] at HH
  refine HH.out.mono ?_
  clear HH iG
  rintro e w13 ⟨rfl, hb⟩
  have sw13 : w12.heap.size ≤ w13.heap.size := hb.size
  replace kW := kW.step hb
  replace kW0 := kW0.step hb
  replace kxW := kxW.step hb
  replace kxG := kxG.step hb
  replace kM0 := kM0.step hb
  clear hb
  have hdq0 : decide (m0 < 0) = false := by simp; omega
  have hne : (m0 != m0) = false := by simp
  go_wp2_with fail
  refine (toOpS_any A0 os0 c0 w13 (Hr0.out.later kW.bel (Nat.le_refl _)) hsm0).mono ?_
  rintro e w14 ⟨rfl, hm, hb⟩
  have y_0 := OpsAt.of_row hm hm.lt Hwf0.out hnl0
  have Hy_0 := hide hm
  have sw14 : w13.heap.size ≤ w14.heap.size := hb.size
  replace kW := kW.step hb
  replace kW0 := kW0.step hb
  replace kxW := kxW.step hb
  replace kxG := kxG.step hb
  replace kM0 := kM0.step hb
  clear hm hb
  have lq := HLxW.out.keep kxW (by omega) (by omega)
  have yW0 := lq.cell 0
  have yW1 := lq.cell 1
  have yW2 := lq.cell 2
  have yW3 := lq.cell 3
  simp at yW0 yW1 yW2 yW3
  clear lq
  have lq := HLxG.out.keep kxG (by omega) (by omega)
  have yG0 := lq.cell 0
  have yG1 := lq.cell 1
  have yG2 := lq.cell 2
  have yG3 := lq.cell 3
  simp at yG0 yG1 yG2 yG3
  clear lq
  go_wp2_with fail
  clear yW0 yW1 yW2 yW3 yG0 yG1 yG2 yG3
  have HI := implLeast_any (some ⟨w13.heap.size, 0, none⟩) os0 os0.length w14 y_0 (HhF.out.later kW.bel (Nat.le_refl _)) (HhN.out.later kW.bel (Nat.le_refl _))
  unfold GivesLr at HI
  rw [HRd0.out, Hvd1.out] at HI
  refine HI.mono ?_
  clear HI
  rintro e w15 ⟨AH0, cH0, rfl, hoH0, hb⟩
  simp only [ruVal, ruCells]
  have sw15 : w14.heap.size ≤ w15.heap.size := hb.size
  replace kW := kW.step hb
  replace kW0 := kW0.step hb
  replace kxW := kxW.step hb
  replace kxG := kxG.step hb
  replace kM0 := kM0.step hb
  clear y_0 Hy_0
  clear hb
  have HoH0 := hide hoH0
  have kH0 := Keeps.at_ w14.heap.size w15
  clear hoH0
  have hbx : Below w15.heap.size w15 (w15.alloc (.cells #[.int .i64 R0.steps, .int .i64 R0.nodes, .int .i64 R0.deep, .slice AH0 R0.cls.length cH0] 26)) := (Below.refl _ _).alloc (Nat.le_refl _) _
  have lx := Lies.new w15 #[.int .i64 R0.steps, .int .i64 R0.nodes, .int .i64 R0.deep, .slice AH0 R0.cls.length cH0] 26
  have lq := HLxW.out.keep kxW (by omega) (by omega)
  have yW0 := lq.cell 0
  have yW1 := lq.cell 1
  have yW2 := lq.cell 2
  have yW3 := lq.cell 3
  simp at yW0 yW1 yW2 yW3
  clear lq
  have lq := HLxG.out.keep kxG (by omega) (by omega)
  have yG0 := lq.cell 0
  have yG1 := lq.cell 1
  have yG2 := lq.cell 2
  have yG3 := lq.cell 3
  simp at yG0 yG1 yG2 yG3
  clear lq
  replace kW := kW.step hbx
  replace kW0 := kW0.step hbx
  replace kxW := kxW.step hbx
  replace kxG := kxG.step hbx
  replace kM0 := kM0.step hbx
  replace kH0 := kH0.step hbx
  replace yW0 := (hbx.cell (p := ⟨w2.heap.size, 0, none⟩) (by show w2.heap.size < _; omega)).trans yW0
  replace yW1 := (hbx.cell (p := ⟨w2.heap.size, 1, none⟩) (by show w2.heap.size < _; omega)).trans yW1
  replace yW2 := (hbx.cell (p := ⟨w2.heap.size, 2, none⟩) (by show w2.heap.size < _; omega)).trans yW2
  replace yW3 := (hbx.cell (p := ⟨w2.heap.size, 3, none⟩) (by show w2.heap.size < _; omega)).trans yW3
  replace yG0 := (hbx.cell (p := ⟨w5.heap.size, 0, none⟩) (by show w5.heap.size < _; omega)).trans yG0
  replace yG1 := (hbx.cell (p := ⟨w5.heap.size, 1, none⟩) (by show w5.heap.size < _; omega)).trans yG1
  replace yG2 := (hbx.cell (p := ⟨w5.heap.size, 2, none⟩) (by show w5.heap.size < _; omega)).trans yG2
  replace yG3 := (hbx.cell (p := ⟨w5.heap.size, 3, none⟩) (by show w5.heap.size < _; omega)).trans yG3
  have sx : w15.heap.size < (w15.alloc (.cells #[.int .i64 R0.steps, .int .i64 R0.nodes, .int .i64 R0.deep, .slice AH0 R0.cls.length cH0] 26)).heap.size := by simp
  have yH0 := lx.cell 0
  have yH1 := lx.cell 1
  have yH2 := lx.cell 2
  have yH3 := lx.cell 3
  simp at yH0 yH1 yH2 yH3
  go_wp2_with fail
  generalize w15.alloc (.cells #[.int .i64 R0.steps, .int .i64 R0.nodes, .int .i64 R0.deep, .slice AH0 R0.cls.length cH0] 26) = w16 at lx sx hbx yH0 yH1 yH2 yH3 kW kW0 kxW kxG kM0 kH0 yW0 yW1 yW2 yW3 yG0 yG1 yG2 yG3 ⊢
  have HLxH := hide lx
  have sw16 : w15.heap.size < w16.heap.size := sx
  have kxH := Keeps.at_ w15.heap.size w16
  clear lx sx hbx
  clear yW0 yW1 yW2 yW3 yG0 yG1 yG2 yG3 yH0 yH1 yH2 yH3
  have iG := (show RuAt w16 w16.heap.size AH0 R0 from ⟨((HoH0.out.keepK kH0 (Nat.le_refl _) rfl).ints H64_0.out (by omega)), HQ0.out.1, HQ0.out.2.1, HQ0.out.2.2⟩)
  have iW := (show RuAt w16 w16.heap.size AW0 R0 from ⟨((HoW0.out.keepK kW0 (Nat.le_refl _) rfl).ints H64_0.out (by omega)), HQ0.out.1, HQ0.out.2.1, HQ0.out.2.2⟩)
  refine (eqRules_same AH0 AW0 R0 cH0 cW0 w16 iG iW).mono ?_
  rintro e w17 ⟨rfl, hb⟩
  have sw17 : w16.heap.size ≤ w17.heap.size := hb.size
  replace kW := kW.step hb
  replace kW0 := kW0.step hb
  replace kxW := kxW.step hb
  replace kxG := kxG.step hb
  replace kM0 := kM0.step hb
  replace kH0 := kH0.step hb
  replace kxH := kxH.step hb
  clear hb iG iW
  have lq := HLxW.out.keep kxW (by omega) (by omega)
  have yW0 := lq.cell 0
  have yW1 := lq.cell 1
  have yW2 := lq.cell 2
  have yW3 := lq.cell 3
  simp at yW0 yW1 yW2 yW3
  clear lq
  have lq := HLxG.out.keep kxG (by omega) (by omega)
  have yG0 := lq.cell 0
  have yG1 := lq.cell 1
  have yG2 := lq.cell 2
  have yG3 := lq.cell 3
  simp at yG0 yG1 yG2 yG3
  clear lq
  have lq := HLxH.out.keep kxH (by omega) (by omega)
  have yH0 := lq.cell 0
  have yH1 := lq.cell 1
  have yH2 := lq.cell 2
  have yH3 := lq.cell 3
  simp at yH0 yH1 yH2 yH3
  clear lq
  go_wp2_with fail
  clear yW0 yW1 yW2 yW3 yG0 yG1 yG2 yG3 yH0 yH1 yH2 yH3
  have iG := (HoM0.out.keepK kM0 (Nat.zero_le _) rfl).ints Hm64_0.out (by omega)
  have HH := hide (heldRules_own AG0 cG0 R0 1 w17 iG (by omega) (by omega) (by omega))
  rw [HMD0.out] at HH
  refine HH.out.mono ?_
  clear HH iG
  rintro e w18 ⟨rfl, hb⟩
  have sw18 : w17.heap.size ≤ w18.heap.size := hb.size
  replace kW := kW.step hb
  replace kW0 := kW0.step hb
  replace kxW := kxW.step hb
  replace kxG := kxG.step hb
  replace kM0 := kM0.step hb
  replace kH0 := kH0.step hb
  replace kxH := kxH.step hb
  clear hb
  have lq := HLxW.out.keep kxW (by omega) (by omega)
  have yW0 := lq.cell 0
  have yW1 := lq.cell 1
  have yW2 := lq.cell 2
  have yW3 := lq.cell 3
  simp at yW0 yW1 yW2 yW3
  clear lq
  have lq := HLxG.out.keep kxG (by omega) (by omega)
  have yG0 := lq.cell 0
  have yG1 := lq.cell 1
  have yG2 := lq.cell 2
  have yG3 := lq.cell 3
  simp at yG0 yG1 yG2 yG3
  clear lq
  have lq := HLxH.out.keep kxH (by omega) (by omega)
  have yH0 := lq.cell 0
  have yH1 := lq.cell 1
  have yH2 := lq.cell 2
  have yH3 := lq.cell 3
  simp at yH0 yH1 yH2 yH3
  clear lq
  have HBf := hide (kW.bel)
  go_wp2
  go_ret
  exact ⟨rfl, HBf.out⟩

set_option maxHeartbeats 1000000 in
theorem exLR_big (A0 : Option Addr) (os0 : List Od) (c0 : Nat) (w : World) (hr0 : OpsAt w w.heap.size A0 os0) (hF : FormsAt w w.heap.size) (hN : NeedsAt w w.heap.size) (hs : szI os0.length 1048576 < 0) :
    Calls Tryd.prog 3 #[.slice A0 os0.length c0] w fun e w' => e = .returned (.bool true) ∧ Below w.heap.size w w' := by
  have hnl := hr0.len
  clear hr0 hF hN
  go_enter Tryd.func3, Tryd.ntmps3
  go_wp2_with fail
  refine (szOpS_any A0 os0.length c0 1048576 w (by omega) (by omega) hnl).mono ?_
  rintro e w' ⟨rfl, rfl⟩
  generalize szI os0.length 1048576 = sz at hs ⊢
  have hd : decide (sz < 0) = true := by simp; omega
  go_wp2
  go_ret
  exact ⟨rfl, Below.refl _ _⟩

theorem exLR_any (A0 : Option Addr) (os0 : List Od) (c0 : Nat) (w : World) (hr0 : OpsAt w w.heap.size A0 os0) (hF : FormsAt w w.heap.size) (hN : NeedsAt w w.heap.size) :
    Calls Tryd.prog 3 #[.slice A0 os0.length c0] w fun e w' => e = .returned (.bool true) ∧ Below w.heap.size w w' := by
  by_cases hs : 0 ≤ szI os0.length 1048576
  · exact exLR_small A0 os0 c0 w hr0 hF hN  hs
  · exact exLR_big A0 os0 c0 w hr0 hF hN  (by omega)

end Go.Proofs.YtochdhibmmohfaaDoor
