/-
  The generator's alikeGraphs, whole.
-/
import Derived.Test.YtkgnijbdbkopkabAlkG
import Derived.Deep.Cut
import Derived.Deep.RegionHeld3
namespace Go.Proofs.Ytkgnijbdbkopkab
open Go.RowKit
set_option linter.unusedVariables false

theorem AlkS.more {w X : World} {rb b2 b3 b4 nb cb : Nat} {A : Option Addr} {P P' : Nat} {A1 : Option Addr} {c1 : Nat} {ms : List Nd} {r1 : Int} {u0 u1 v0 v1 : Value} (h : AlkS w X rb b2 b3 b4 nb cb A P A1 c1 ms r1 u0 u1 v0 v1) (hp : P ≤ P') : AlkS w X rb b2 b3 b4 nb cb A P' A1 c1 ms r1 u0 u1 v0 v1 := by
  obtain ⟨p, h1, h2⟩ := h.rd
  exact ⟨⟨p, by omega, h2⟩, h.grew, h.l2, h.l3, h.l4, h.sees, h.h1, h.h2, h.h3, h.nr⟩

theorem AlkS.fin {w X : World} {rb b4 nb cb : Nat} {A : Option Addr} {P : Nat} {A1 : Option Addr} {c1 : Nat} {ms : List Nd} {r1 : Int} {A2 : Option Addr} {c2 : Nat} {ns : List Nd} {r2 : Int} (h : AlkS w X rb w.heap.size (w.heap.size + 1) b4 nb cb A P A1 c1 ms r1 (.slice A1 ms.length c1) (.int .i64 r1) (.slice A2 ns.length c2) (.int .i64 r2)) (hl : ms.length ≤ 1000) (hc : ms.length ≤ c1) (h64 : In64 r1) (hg : GotG X (w.heap.size + 1 + 1) A2 c2 ns r2) :
    AlikeG rb A nb cb P w (.returned (.tuple #[.agg #[.slice A1 ms.length c1, .int .i64 r1], .agg #[.slice A2 ns.length c2, .int .i64 r2]])) X :=
  ⟨A1, c1, ms, r1, A2, c2, ns, r2, rfl, h.rd, h.grew, ⟨h.sees.low (by omega), hl, hc, h64⟩, ⟨hg.sees.low (by omega), hg.le, hg.cap, hg.r64⟩⟩

set_option maxRecDepth 100000 in
set_option maxHeartbeats 4000000 in
theorem alikeGraphs_any (rb : Nat) (A : Option Addr) (nb cb p : Nat) (w : World) (h : Rd w rb A nb cb p) (hp : p < 100000) :
    Calls Try.prog 10 #[.pointer (some ⟨rb, 0, none⟩)] w (AlikeG rb A nb cb (p + 900) w) := by
  have hrlt := h.box.lt
  have hB : Below w.heap.size w ((w.alloc (.cells #[.slice none 0 0, .int .i64 0] 25)).alloc (.cells #[.slice none 0 0, .int .i64 0] 25)) := ((Below.refl _ w).alloc (Nat.le_refl _) _).alloc (by simp) _
  have hr0 := h.below hB
  have l2 := (Lies.new w #[.slice none 0 0, .int .i64 0] 25).alloc (.cells #[.slice none 0 0, .int .i64 0] 25)
  have l3 := Lies.new (w.alloc (.cells #[.slice none 0 0, .int .i64 0] 25)) #[.slice none 0 0, .int .i64 0] 25
  simp only [World.size_alloc] at l3
  clear h
  go_enter Try.func10, Try.ntmps10
  go_wp2_with fail
  have hWs : Hid (((w.alloc (.cells #[.slice none 0 0, .int .i64 0] 25)).alloc (.cells #[.slice none 0 0, .int .i64 0] 25)).heap.size = w.heap.size + 1 + 1) := by show _ = _; simp
  generalize (w.alloc (.cells #[.slice none 0 0, .int .i64 0] 25)).alloc (.cells #[.slice none 0 0, .int .i64 0] 25) = W at hB l2 l3 hr0 hWs ⊢
  refine (anyGraph_any rb A nb cb p W hr0 (by omega)).mono ?_
  rintro e w2 ⟨g, cap, p', ms, r, rfl, hp', hrd, hnds, hg, h1, h10, hr64, hG, hkf, hcap⟩
  have hS0 : AlkS w (w2.alloc (.cells #[.slice (some ⟨g, 0, none⟩) ms.length cap, .int .i64 r] 25)) rb w.heap.size (w.heap.size + 1) w2.heap.size nb cb A (p + 204) (some ⟨g, 0, none⟩) cap ms r (.slice none 0 0) (.int .i64 0) (.slice none 0 0) (.int .i64 0) := by
    have hs2 := hG.size
    have hws := hWs.out
    have hba : Below w2.heap.size w2 (w2.alloc (.cells #[.slice (some ⟨g, 0, none⟩) ms.length cap, .int .i64 r] 25)) := (Below.refl _ _).alloc (Nat.le_refl _) _
    have hGa : Grew rb W (w2.alloc (.cells #[.slice (some ⟨g, 0, none⟩) ms.length cap, .int .i64 r] 25)) := hG.trans (Grew.of_below hba)
    exact ⟨⟨p', hp', hrd.below hba⟩, (Grew.of_below hB).trans hGa, (hGa.block _ (by omega) (by omega)).trans l2, (hGa.block _ (by omega) (by omega)).trans l3, Lies.new _ _ _, ((sees_any hnds hg hkf).low (by omega)).step hba.size (fun k _ h2 => hba.block k h2), Nat.le_refl _, by omega, by omega, hrlt⟩
  have hb4 : w.heap.size + 1 < w2.heap.size := by have := hG.size; have := hWs.out; omega
  have HS0 := hide hS0
  obtain ⟨e0, e1, e2, e3, e4, e5, f0, f1, f2, f3⟩ := hS0.cells.out
  have hnd := hS0.sees.here
  clear hS0 hrd hnds hG hkf hB l2 l3 hr0 hWs hg
  go_upto_region 2 with fail
  generalize w2.alloc (.cells #[.slice (some ⟨g, 0, none⟩) ms.length cap, .int .i64 r] 25) = X at HS0 e0 e1 e2 e3 e4 e5 f0 f1 f2 f3 hnd ⊢
  generalize w2.heap.size = b4 at HS0 e4 e5 hb4 ⊢
  have hVC := specValidGraph_any (some ⟨g, 0, none⟩) ms cap r X hnd
  clear hnd
  go_wp2_with fail
  refine hVC.mono ?_
  clear hVC
  rintro e x1 ⟨rfl, hb1⟩
  have HS1 := hide (HS0.out.later hb1)
  clear HS0 e0 e1 e2 e3 e4 e5 f0 f1 f2 f3 hb1
  obtain ⟨e0, e1, e2, e3, e4, e5, f0, f1, f2, f3⟩ := HS1.out.cells.out
  have hb23 : w.heap.size ≠ b4 := by omega
  have hb34 : w.heap.size + 1 ≠ b4 := by omega
  have hb43 : b4 ≠ w.heap.size := by omega
  have hb44 : b4 ≠ w.heap.size + 1 := by omega
  by_cases hv : ValidG ms r
  · rw [tf_true hv]
    have HV := hide hv
    clear hv
    obtain ⟨p1, hp1, hr1⟩ := HS1.out.rd
    go_wp2_with fail
    refine (pick_any rb A nb cb p1 5 x1 hr1 (by omega) (by omega)).mono ?_
    rintro e x2 ⟨⟨k, rfl, hk, _⟩, hr2, ht2⟩
    have hk5 : k < 5 := by have := hk (by omega); omega
    have HS3 := hide (HS1.out.move (P' := p + 205) (Grew.of_turn ht2) hr2 (by omega))
    clear HS1 hr1 hr2 ht2 hk e0 e1 e2 e3 e4 e5 f0 f1 f2 f3
    have HS1 := HS3
    clear HS3
    obtain ⟨e0, e1, e2, e3, e4, e5, f0, f1, f2, f3⟩ := HS1.out.cells.out
    have HS1d := hide (HS1.out.later (Below.refl _ x2).drew)
    obtain rfl | rfl | rfl | rfl | rfl : k = 0 ∨ k = 1 ∨ k = 2 ∨ k = 3 ∨ k = 4 := by omega
    · go_wp2_with fail
      refine wp_region_held_drew (S := (fun w' => w'.cell? ⟨b4, 0, none⟩ = some (.slice (some ⟨g, 0, none⟩) ms.length cap) ∧ w'.cell? ⟨b4, 1, none⟩ = some (.int .i64 r))) (by kernel_rfl) ⟨HS1d.out.cells.out.2.2.2.2.1, HS1d.out.cells.out.2.2.2.2.2.1⟩ (fun hHeld => ?_)
      refine wpAnyH_take (i := 0) (oi := { dst := some 18, op := _, type := _, pos := _, after := _, guard := _ }) (v := ?_) rfl (by kernel_rfl) (by kernel_rfl) (by kernel_rfl) (fun _ _ _ h => h) (Or.inl ⟨by rfl, ?_⟩) (by assumption) ?_
      rotate_left
      · (intro w hSw; (try dsimp only at hSw); go_simp; try with_reducible rfl)
      try simp only [Act.put, List.setIfInBounds_toArray, List.set_cons_zero, List.set_cons_succ]
      refine wpAnyH_take (i := 1) (oi := { dst := some 19, op := _, type := _, pos := _, after := _, guard := _ }) (v := ?_) rfl (by kernel_rfl) (by kernel_rfl) (by kernel_rfl) (fun _ _ _ h => h) (Or.inl ⟨by rfl, ?_⟩) (by assumption) ?_
      rotate_left
      · (intro w hSw; (try dsimp only at hSw); go_simp; try with_reducible rfl)
      try simp only [Act.put, List.setIfInBounds_toArray, List.set_cons_zero, List.set_cons_succ]
      refine wpAnyH_ready (rs := [2]) (by kernel_rfl) (by simp) ?_
      refine AllReadyH.cons (o := { dst := some 20, op := _, type := _, pos := _, after := _, guard := _ }) rfl (fun K hK => ?_) AllReadyH.nil
      go_simp
      go_at_call 26
      refine (alkLeast HS1d.out HV.out).mono ?_
      rintro e y ⟨A2, c2, ns, r2, rfl, hS2, hG2⟩
      obtain ⟨y0, y1, y2, y3, y4, y5, z0, z1, z2, z3⟩ := hS2.cells.out
      have HS2 := hide (hS2.more (show _ ≤ p + 900 by omega))
      have HG2 := hide hG2
      clear hS2 hG2
      dsimp only
      refine hK.out _ _ ⟨HS2.out.cells.out.2.2.2.2.1, HS2.out.cells.out.2.2.2.2.2.1⟩ (fun hH => ?_)
      clear hK K hHeld
      have hHeld := hH
      clear hH
      try simp only [Act.put, List.setIfInBounds_toArray, List.set_cons_zero, List.set_cons_succ]
      refine wpAnyH_ready (rs := [3]) (by kernel_rfl) (by simp) ?_
      refine AllReadyH.cons (o := { dst := none, op := _, type := _, pos := _, after := _, guard := _ }) rfl (fun K hK => ?_) AllReadyH.nil
      go_simp
      refine hK.out _ _ ⟨(HS2.out.set2 (.slice (some ⟨g, 0, none⟩) ms.length cap) (.int .i64 r)).cells.out.2.2.2.2.1, (HS2.out.set2 (.slice (some ⟨g, 0, none⟩) ms.length cap) (.int .i64 r)).cells.out.2.2.2.2.2.1⟩ (fun hH => ?_)
      clear hK K hHeld
      have hHeld := hH
      clear hH
      try simp only [Act.put, List.setIfInBounds_toArray, List.set_cons_zero, List.set_cons_succ]
      obtain ⟨_, _, x2_, x3_, _, _, _, _, x4_, x5_⟩ := (HS2.out.set2 (.slice (some ⟨g, 0, none⟩) ms.length cap) (.int .i64 r)).cells.out
      refine wpAnyH_ready (rs := [4]) (by kernel_rfl) (by simp) ?_
      refine AllReadyH.cons (o := { dst := none, op := _, type := _, pos := _, after := _, guard := _ }) rfl (fun K hK => ?_) AllReadyH.nil
      go_simp
      refine hK.out _ _ ⟨((HS2.out.set2 (.slice (some ⟨g, 0, none⟩) ms.length cap) (.int .i64 r)).set3 (.slice A2 ns.length c2) (.int .i64 r2)).cells.out.2.2.2.2.1, ((HS2.out.set2 (.slice (some ⟨g, 0, none⟩) ms.length cap) (.int .i64 r)).set3 (.slice A2 ns.length c2) (.int .i64 r2)).cells.out.2.2.2.2.2.1⟩ (fun hH => ?_)
      clear hK K hHeld
      have hHeld := hH
      clear hH
      try simp only [Act.put, List.setIfInBounds_toArray, List.set_cons_zero, List.set_cons_succ]
      refine wpAnyH_done (by kernel_rfl) ?_ _
      obtain ⟨q0, q1, q2, q3, _⟩ := ((HS2.out.set2 (.slice (some ⟨g, 0, none⟩) ms.length cap) (.int .i64 r)).set3 (.slice A2 ns.length c2) (.int .i64 r2)).cells.out
      have HR := hide (((HS2.out.set2 (.slice (some ⟨g, 0, none⟩) ms.length cap) (.int .i64 r)).set3 (.slice A2 ns.length c2) (.int .i64 r2)).fin (by omega) hcap hr64 ((HG2.out.set (Nat.le_succ _) (.slice (some ⟨g, 0, none⟩) ms.length cap) (.int .i64 r)).set (Nat.le_refl _) (.slice A2 ns.length c2) (.int .i64 r2)))
      clear HS2 y0 y1 y2 y3 y4 y5 z0 z1 z2 z3 e0 e1 e2 e3 e4 e5 f0 f1 f2 f3 hHeld
      go_wp2
      refine bodyPost_ret (v := .tuple #[.agg #[.slice (some ⟨g, 0, none⟩) ms.length cap, .int .i64 r], .agg #[.slice A2 ns.length c2, .int .i64 r2]]) (by simp [results, Try.results10, go_sem, q0, q1, q2, q3]) rfl ?_
      exact HR.out
    · go_wp2_with fail
      refine wp_region_held_drew (S := (fun w' => w'.cell? ⟨b4, 0, none⟩ = some (.slice (some ⟨g, 0, none⟩) ms.length cap) ∧ w'.cell? ⟨b4, 1, none⟩ = some (.int .i64 r))) (by kernel_rfl) ⟨HS1d.out.cells.out.2.2.2.2.1, HS1d.out.cells.out.2.2.2.2.2.1⟩ (fun hHeld => ?_)
      refine wpAnyH_take (i := 0) (oi := { dst := some 23, op := _, type := _, pos := _, after := _, guard := _ }) (v := ?_) rfl (by kernel_rfl) (by kernel_rfl) (by kernel_rfl) (fun _ _ _ h => h) (Or.inl ⟨by rfl, ?_⟩) (by assumption) ?_
      rotate_left
      · (intro w hSw; (try dsimp only at hSw); go_simp; try with_reducible rfl)
      try simp only [Act.put, List.setIfInBounds_toArray, List.set_cons_zero, List.set_cons_succ]
      refine wpAnyH_take (i := 1) (oi := { dst := some 24, op := _, type := _, pos := _, after := _, guard := _ }) (v := ?_) rfl (by kernel_rfl) (by kernel_rfl) (by kernel_rfl) (fun _ _ _ h => h) (Or.inl ⟨by rfl, ?_⟩) (by assumption) ?_
      rotate_left
      · (intro w hSw; (try dsimp only at hSw); go_simp; try with_reducible rfl)
      try simp only [Act.put, List.setIfInBounds_toArray, List.set_cons_zero, List.set_cons_succ]
      refine wpAnyH_ready (rs := [2]) (by kernel_rfl) (by simp) ?_
      refine AllReadyH.cons (o := { dst := some 25, op := _, type := _, pos := _, after := _, guard := _ }) rfl (fun K hK => ?_) AllReadyH.nil
      go_simp
      go_at_call 27
      refine (alkMerge HS1d.out HV.out).mono ?_
      rintro e y ⟨A2, c2, ns, r2, rfl, hS2, hG2⟩
      obtain ⟨y0, y1, y2, y3, y4, y5, z0, z1, z2, z3⟩ := hS2.cells.out
      have HS2 := hide (hS2.more (show _ ≤ p + 900 by omega))
      have HG2 := hide hG2
      clear hS2 hG2
      dsimp only
      refine hK.out _ _ ⟨HS2.out.cells.out.2.2.2.2.1, HS2.out.cells.out.2.2.2.2.2.1⟩ (fun hH => ?_)
      clear hK K hHeld
      have hHeld := hH
      clear hH
      try simp only [Act.put, List.setIfInBounds_toArray, List.set_cons_zero, List.set_cons_succ]
      refine wpAnyH_ready (rs := [3]) (by kernel_rfl) (by simp) ?_
      refine AllReadyH.cons (o := { dst := none, op := _, type := _, pos := _, after := _, guard := _ }) rfl (fun K hK => ?_) AllReadyH.nil
      go_simp
      refine hK.out _ _ ⟨(HS2.out.set2 (.slice (some ⟨g, 0, none⟩) ms.length cap) (.int .i64 r)).cells.out.2.2.2.2.1, (HS2.out.set2 (.slice (some ⟨g, 0, none⟩) ms.length cap) (.int .i64 r)).cells.out.2.2.2.2.2.1⟩ (fun hH => ?_)
      clear hK K hHeld
      have hHeld := hH
      clear hH
      try simp only [Act.put, List.setIfInBounds_toArray, List.set_cons_zero, List.set_cons_succ]
      obtain ⟨_, _, x2_, x3_, _, _, _, _, x4_, x5_⟩ := (HS2.out.set2 (.slice (some ⟨g, 0, none⟩) ms.length cap) (.int .i64 r)).cells.out
      refine wpAnyH_ready (rs := [4]) (by kernel_rfl) (by simp) ?_
      refine AllReadyH.cons (o := { dst := none, op := _, type := _, pos := _, after := _, guard := _ }) rfl (fun K hK => ?_) AllReadyH.nil
      go_simp
      refine hK.out _ _ ⟨((HS2.out.set2 (.slice (some ⟨g, 0, none⟩) ms.length cap) (.int .i64 r)).set3 (.slice A2 ns.length c2) (.int .i64 r2)).cells.out.2.2.2.2.1, ((HS2.out.set2 (.slice (some ⟨g, 0, none⟩) ms.length cap) (.int .i64 r)).set3 (.slice A2 ns.length c2) (.int .i64 r2)).cells.out.2.2.2.2.2.1⟩ (fun hH => ?_)
      clear hK K hHeld
      have hHeld := hH
      clear hH
      try simp only [Act.put, List.setIfInBounds_toArray, List.set_cons_zero, List.set_cons_succ]
      refine wpAnyH_done (by kernel_rfl) ?_ _
      obtain ⟨q0, q1, q2, q3, _⟩ := ((HS2.out.set2 (.slice (some ⟨g, 0, none⟩) ms.length cap) (.int .i64 r)).set3 (.slice A2 ns.length c2) (.int .i64 r2)).cells.out
      have HR := hide (((HS2.out.set2 (.slice (some ⟨g, 0, none⟩) ms.length cap) (.int .i64 r)).set3 (.slice A2 ns.length c2) (.int .i64 r2)).fin (by omega) hcap hr64 ((HG2.out.set (Nat.le_succ _) (.slice (some ⟨g, 0, none⟩) ms.length cap) (.int .i64 r)).set (Nat.le_refl _) (.slice A2 ns.length c2) (.int .i64 r2)))
      clear HS2 y0 y1 y2 y3 y4 y5 z0 z1 z2 z3 e0 e1 e2 e3 e4 e5 f0 f1 f2 f3 hHeld
      go_wp2
      refine bodyPost_ret (v := .tuple #[.agg #[.slice (some ⟨g, 0, none⟩) ms.length cap, .int .i64 r], .agg #[.slice A2 ns.length c2, .int .i64 r2]]) (by simp [results, Try.results10, go_sem, q0, q1, q2, q3]) rfl ?_
      exact HR.out
    · clear HS1d
      go_wp2_with fail
      refine (alkShal HS1.out HV.out (by omega)).mono ?_
      rintro e y ⟨A2, c2, ns, r2, rfl, hS2, hG2, hpos⟩
      have hba : Below y.heap.size y (y.alloc (.cells #[.slice A2 ns.length c2, .int .i64 r2] 25)) := (Below.refl _ _).alloc (Nat.le_refl _) _
      have hpos2 : (0 : Int) < (ns.length : Int) := by omega
      have l5 := Lies.new y #[.slice A2 ns.length c2, .int .i64 r2] 25
      have k0 := l5.cell 0
      have k1 := l5.cell 1
      simp only [List.getElem?_toArray, List.getElem?_cons_zero, List.getElem?_cons_succ] at k0 k1
      have HSa := hide ((hS2.more (show _ ≤ p + 900 by omega)).later hba)
      have HGa := hide (hG2.later hba)
      have HKa := hide (And.intro k0 k1)
      have hyl : b4 < y.heap.size := hS2.l4.lt
      clear hS2 hG2 e0 e1 e2 e3 e4 e5 f0 f1 f2 f3 hba l5
      obtain ⟨e0, e1, e2, e3, e4, e5, f0, f1, f2, f3⟩ := HSa.out.cells.out
      go_upto_region 12 with fail
      generalize y.alloc (.cells #[.slice A2 ns.length c2, .int .i64 r2] 25) = Z at HSa HGa HKa k0 k1 e0 e1 e2 e3 e4 e5 f0 f1 f2 f3 ⊢
      have HSd := hide (HSa.out.later (Below.refl _ Z).drew)
      have HGd := hide (HGa.out.later (Below.refl _ Z).drew)
      have HKd := hide (show Z.drew.cell? ⟨y.heap.size, 0, none⟩ = some (.slice A2 ns.length c2) ∧ Z.drew.cell? ⟨y.heap.size, 1, none⟩ = some (.int .i64 r2) from HKa.out)
      refine wp_region_held_drew (S := (fun w' => w'.cell? ⟨b4, 0, none⟩ = some (.slice (some ⟨g, 0, none⟩) ms.length cap) ∧ w'.cell? ⟨b4, 1, none⟩ = some (.int .i64 r) ∧ w'.cell? ⟨y.heap.size, 0, none⟩ = some (.slice A2 ns.length c2) ∧ w'.cell? ⟨y.heap.size, 1, none⟩ = some (.int .i64 r2))) (by kernel_rfl) ⟨HSd.out.cells.out.2.2.2.2.1, HSd.out.cells.out.2.2.2.2.2.1, HKd.out.1, HKd.out.2⟩ (fun hHeld => ?_)
      refine wpAnyH_take (i := 0) (oi := { dst := some 34, op := _, type := _, pos := _, after := _, guard := _ }) (v := ?_) rfl (by kernel_rfl) (by kernel_rfl) (by kernel_rfl) (fun _ _ _ h => h) (Or.inl ⟨by rfl, ?_⟩) (by assumption) ?_
      rotate_left
      · (intro w hSw; (try dsimp only at hSw); go_simp; try with_reducible rfl)
      try simp only [Act.put, List.setIfInBounds_toArray, List.set_cons_zero, List.set_cons_succ]
      refine wpAnyH_take (i := 1) (oi := { dst := some 35, op := _, type := _, pos := _, after := _, guard := _ }) (v := ?_) rfl (by kernel_rfl) (by kernel_rfl) (by kernel_rfl) (fun _ _ _ h => h) (Or.inl ⟨by rfl, ?_⟩) (by assumption) ?_
      rotate_left
      · (intro w hSw; (try dsimp only at hSw); go_simp; try with_reducible rfl)
      try simp only [Act.put, List.setIfInBounds_toArray, List.set_cons_zero, List.set_cons_succ]
      refine wpAnyH_ready (rs := [2]) (by kernel_rfl) (by simp) ?_
      refine AllReadyH.cons (o := { dst := none, op := _, type := _, pos := _, after := _, guard := _ }) rfl (fun K hK => ?_) AllReadyH.nil
      go_simp
      refine hK.out _ _ ⟨(HSd.out.set2 (.slice (some ⟨g, 0, none⟩) ms.length cap) (.int .i64 r)).cells.out.2.2.2.2.1, (HSd.out.set2 (.slice (some ⟨g, 0, none⟩) ms.length cap) (.int .i64 r)).cells.out.2.2.2.2.2.1, ((World.cell?_setCell_far _ _ _ _ (by dsimp only; omega))).trans (((World.cell?_setCell_far _ _ _ _ (by dsimp only; omega))).trans (HKd.out.1)), ((World.cell?_setCell_far _ _ _ _ (by dsimp only; omega))).trans (((World.cell?_setCell_far _ _ _ _ (by dsimp only; omega))).trans (HKd.out.2))⟩ (fun hH => ?_)
      clear hK K hHeld
      have hHeld := hH
      clear hH
      try simp only [Act.put, List.setIfInBounds_toArray, List.set_cons_zero, List.set_cons_succ]
      obtain ⟨_, _, x2_, x3_, _, _, _, _, x4_, x5_⟩ := (HSd.out.set2 (.slice (some ⟨g, 0, none⟩) ms.length cap) (.int .i64 r)).cells.out
      refine wpAnyH_ready (rs := [3]) (by kernel_rfl) (by simp) ?_
      refine AllReadyH.cons (o := { dst := none, op := _, type := _, pos := _, after := _, guard := _ }) rfl (fun K hK => ?_) AllReadyH.nil
      go_simp
      refine hK.out _ _ ⟨((HSd.out.set2 (.slice (some ⟨g, 0, none⟩) ms.length cap) (.int .i64 r)).set3 (.slice A2 ns.length c2) (.int .i64 r2)).cells.out.2.2.2.2.1, ((HSd.out.set2 (.slice (some ⟨g, 0, none⟩) ms.length cap) (.int .i64 r)).set3 (.slice A2 ns.length c2) (.int .i64 r2)).cells.out.2.2.2.2.2.1, ((World.cell?_setCell_far _ _ _ _ (by dsimp only; omega))).trans (((World.cell?_setCell_far _ _ _ _ (by dsimp only; omega))).trans (((World.cell?_setCell_far _ _ _ _ (by dsimp only; omega))).trans (((World.cell?_setCell_far _ _ _ _ (by dsimp only; omega))).trans (HKd.out.1)))), ((World.cell?_setCell_far _ _ _ _ (by dsimp only; omega))).trans (((World.cell?_setCell_far _ _ _ _ (by dsimp only; omega))).trans (((World.cell?_setCell_far _ _ _ _ (by dsimp only; omega))).trans (((World.cell?_setCell_far _ _ _ _ (by dsimp only; omega))).trans (HKd.out.2))))⟩ (fun hH => ?_)
      clear hK K hHeld
      have hHeld := hH
      clear hH
      try simp only [Act.put, List.setIfInBounds_toArray, List.set_cons_zero, List.set_cons_succ]
      refine wpAnyH_done (by kernel_rfl) ?_ _
      obtain ⟨q0, q1, q2, q3, _⟩ := ((HSa.out.set2 (.slice (some ⟨g, 0, none⟩) ms.length cap) (.int .i64 r)).set3 (.slice A2 ns.length c2) (.int .i64 r2)).cells.out
      have HR := hide (((HSd.out.set2 (.slice (some ⟨g, 0, none⟩) ms.length cap) (.int .i64 r)).set3 (.slice A2 ns.length c2) (.int .i64 r2)).fin (by omega) hcap hr64 ((HGd.out.set (Nat.le_succ _) (.slice (some ⟨g, 0, none⟩) ms.length cap) (.int .i64 r)).set (Nat.le_refl _) (.slice A2 ns.length c2) (.int .i64 r2)))
      clear k0 k1 e0 e1 e2 e3 e4 e5 f0 f1 f2 f3 hHeld
      go_wp2
      refine bodyPost_ret (v := .tuple #[.agg #[.slice (some ⟨g, 0, none⟩) ms.length cap, .int .i64 r], .agg #[.slice A2 ns.length c2, .int .i64 r2]]) (by simp [results, Try.results10, go_sem, q0, q1, q2, q3]) rfl ?_
      exact HR.out
    · go_wp2_with fail
      refine wp_region_held_drew (S := (fun w' => w'.cell? ⟨b4, 0, none⟩ = some (.slice (some ⟨g, 0, none⟩) ms.length cap) ∧ w'.cell? ⟨b4, 1, none⟩ = some (.int .i64 r))) (by kernel_rfl) ⟨HS1d.out.cells.out.2.2.2.2.1, HS1d.out.cells.out.2.2.2.2.2.1⟩ (fun hHeld => ?_)
      refine wpAnyH_take (i := 0) (oi := { dst := some 38, op := _, type := _, pos := _, after := _, guard := _ }) (v := ?_) rfl (by kernel_rfl) (by kernel_rfl) (by kernel_rfl) (fun _ _ _ h => h) (Or.inl ⟨by rfl, ?_⟩) (by assumption) ?_
      rotate_left
      · (intro w hSw; (try dsimp only at hSw); go_simp; try with_reducible rfl)
      try simp only [Act.put, List.setIfInBounds_toArray, List.set_cons_zero, List.set_cons_succ]
      refine wpAnyH_take (i := 1) (oi := { dst := some 39, op := _, type := _, pos := _, after := _, guard := _ }) (v := ?_) rfl (by kernel_rfl) (by kernel_rfl) (by kernel_rfl) (fun _ _ _ h => h) (Or.inl ⟨by rfl, ?_⟩) (by assumption) ?_
      rotate_left
      · (intro w hSw; (try dsimp only at hSw); go_simp; try with_reducible rfl)
      try simp only [Act.put, List.setIfInBounds_toArray, List.set_cons_zero, List.set_cons_succ]
      refine wpAnyH_ready (rs := [2]) (by kernel_rfl) (by simp) ?_
      refine AllReadyH.cons (o := { dst := some 40, op := _, type := _, pos := _, after := _, guard := _ }) rfl (fun K hK => ?_) AllReadyH.nil
      go_simp
      go_at_call 23
      refine (alkAny HS1d.out (by omega)).mono ?_
      rintro e y ⟨A2, c2, ns, r2, rfl, hS2, hG2⟩
      obtain ⟨y0, y1, y2, y3, y4, y5, z0, z1, z2, z3⟩ := hS2.cells.out
      have HS2 := hide (hS2.more (show _ ≤ p + 900 by omega))
      have HG2 := hide hG2
      clear hS2 hG2
      dsimp only
      refine hK.out _ _ ⟨HS2.out.cells.out.2.2.2.2.1, HS2.out.cells.out.2.2.2.2.2.1⟩ (fun hH => ?_)
      clear hK K hHeld
      have hHeld := hH
      clear hH
      try simp only [Act.put, List.setIfInBounds_toArray, List.set_cons_zero, List.set_cons_succ]
      refine wpAnyH_ready (rs := [3]) (by kernel_rfl) (by simp) ?_
      refine AllReadyH.cons (o := { dst := none, op := _, type := _, pos := _, after := _, guard := _ }) rfl (fun K hK => ?_) AllReadyH.nil
      go_simp
      refine hK.out _ _ ⟨(HS2.out.set2 (.slice (some ⟨g, 0, none⟩) ms.length cap) (.int .i64 r)).cells.out.2.2.2.2.1, (HS2.out.set2 (.slice (some ⟨g, 0, none⟩) ms.length cap) (.int .i64 r)).cells.out.2.2.2.2.2.1⟩ (fun hH => ?_)
      clear hK K hHeld
      have hHeld := hH
      clear hH
      try simp only [Act.put, List.setIfInBounds_toArray, List.set_cons_zero, List.set_cons_succ]
      obtain ⟨_, _, x2_, x3_, _, _, _, _, x4_, x5_⟩ := (HS2.out.set2 (.slice (some ⟨g, 0, none⟩) ms.length cap) (.int .i64 r)).cells.out
      refine wpAnyH_ready (rs := [4]) (by kernel_rfl) (by simp) ?_
      refine AllReadyH.cons (o := { dst := none, op := _, type := _, pos := _, after := _, guard := _ }) rfl (fun K hK => ?_) AllReadyH.nil
      go_simp
      refine hK.out _ _ ⟨((HS2.out.set2 (.slice (some ⟨g, 0, none⟩) ms.length cap) (.int .i64 r)).set3 (.slice A2 ns.length c2) (.int .i64 r2)).cells.out.2.2.2.2.1, ((HS2.out.set2 (.slice (some ⟨g, 0, none⟩) ms.length cap) (.int .i64 r)).set3 (.slice A2 ns.length c2) (.int .i64 r2)).cells.out.2.2.2.2.2.1⟩ (fun hH => ?_)
      clear hK K hHeld
      have hHeld := hH
      clear hH
      try simp only [Act.put, List.setIfInBounds_toArray, List.set_cons_zero, List.set_cons_succ]
      refine wpAnyH_done (by kernel_rfl) ?_ _
      obtain ⟨q0, q1, q2, q3, _⟩ := ((HS2.out.set2 (.slice (some ⟨g, 0, none⟩) ms.length cap) (.int .i64 r)).set3 (.slice A2 ns.length c2) (.int .i64 r2)).cells.out
      have HR := hide (((HS2.out.set2 (.slice (some ⟨g, 0, none⟩) ms.length cap) (.int .i64 r)).set3 (.slice A2 ns.length c2) (.int .i64 r2)).fin (by omega) hcap hr64 ((HG2.out.set (Nat.le_succ _) (.slice (some ⟨g, 0, none⟩) ms.length cap) (.int .i64 r)).set (Nat.le_refl _) (.slice A2 ns.length c2) (.int .i64 r2)))
      clear HS2 y0 y1 y2 y3 y4 y5 z0 z1 z2 z3 e0 e1 e2 e3 e4 e5 f0 f1 f2 f3 hHeld
      go_wp2
      refine bodyPost_ret (v := .tuple #[.agg #[.slice (some ⟨g, 0, none⟩) ms.length cap, .int .i64 r], .agg #[.slice A2 ns.length c2, .int .i64 r2]]) (by simp [results, Try.results10, go_sem, q0, q1, q2, q3]) rfl ?_
      exact HR.out
    · go_wp2_with fail
      refine wp_region_held_drew (S := (fun w' => w'.cell? ⟨b4, 0, none⟩ = some (.slice (some ⟨g, 0, none⟩) ms.length cap) ∧ w'.cell? ⟨b4, 1, none⟩ = some (.int .i64 r))) (by kernel_rfl) ⟨HS1d.out.cells.out.2.2.2.2.1, HS1d.out.cells.out.2.2.2.2.2.1⟩ (fun hHeld => ?_)
      refine wpAnyH_take (i := 0) (oi := { dst := some 41, op := _, type := _, pos := _, after := _, guard := _ }) (v := ?_) rfl (by kernel_rfl) (by kernel_rfl) (by kernel_rfl) (fun _ _ _ h => h) (Or.inl ⟨by rfl, ?_⟩) (by assumption) ?_
      rotate_left
      · (intro w hSw; (try dsimp only at hSw); go_simp; try with_reducible rfl)
      try simp only [Act.put, List.setIfInBounds_toArray, List.set_cons_zero, List.set_cons_succ]
      refine wpAnyH_take (i := 1) (oi := { dst := some 42, op := _, type := _, pos := _, after := _, guard := _ }) (v := ?_) rfl (by kernel_rfl) (by kernel_rfl) (by kernel_rfl) (fun _ _ _ h => h) (Or.inl ⟨by rfl, ?_⟩) (by assumption) ?_
      rotate_left
      · (intro w hSw; (try dsimp only at hSw); go_simp; try with_reducible rfl)
      try simp only [Act.put, List.setIfInBounds_toArray, List.set_cons_zero, List.set_cons_succ]
      refine wpAnyH_take (i := 2) (oi := { dst := some 43, op := _, type := _, pos := _, after := _, guard := _ }) (v := ?_) rfl (by kernel_rfl) (by kernel_rfl) (by kernel_rfl) (fun _ _ _ h => h) (Or.inl ⟨by rfl, ?_⟩) (by assumption) ?_
      rotate_left
      · (intro w hSw; (try dsimp only at hSw); go_simp; try with_reducible rfl)
      try simp only [Act.put, List.setIfInBounds_toArray, List.set_cons_zero, List.set_cons_succ]
      refine wpAnyH_ready (rs := [3]) (by kernel_rfl) (by simp) ?_
      refine AllReadyH.cons (o := { dst := some 44, op := _, type := _, pos := _, after := _, guard := _ }) rfl (fun K hK => ?_) AllReadyH.nil
      go_simp
      go_at_call 30
      refine (alkPrun HS1d.out HV.out).mono ?_
      rintro e yp ⟨g2, cp, lo, rfl, hSp, hPp⟩
      have HSp := hide hSp
      have HPp := hide hPp
      clear hSp hPp
      dsimp only
      refine hK.out _ _ ⟨HSp.out.cells.out.2.2.2.2.1, HSp.out.cells.out.2.2.2.2.2.1⟩ (fun hH => ?_)
      clear hK K hHeld
      have hHeld := hH
      clear hH
      try simp only [Act.put, List.setIfInBounds_toArray, List.set_cons_zero, List.set_cons_succ]
      refine wpAnyH_ready (rs := [4]) (by kernel_rfl) (by simp) ?_
      refine AllReadyH.cons (o := { dst := some 45, op := _, type := _, pos := _, after := _, guard := _ }) rfl (fun K hK => ?_) AllReadyH.nil
      go_simp
      go_at_call 29
      refine (alkAdd HSp.out HV.out (by omega) HPp.out).mono ?_
      rintro e y ⟨A2, c2, ns, r2, rfl, hS2, hG2⟩
      obtain ⟨y0, y1, y2, y3, y4, y5, z0, z1, z2, z3⟩ := hS2.cells.out
      have HS2 := hide (hS2.more (show _ ≤ p + 900 by omega))
      have HG2 := hide hG2
      clear hS2 hG2
      dsimp only
      refine hK.out _ _ ⟨HS2.out.cells.out.2.2.2.2.1, HS2.out.cells.out.2.2.2.2.2.1⟩ (fun hH => ?_)
      clear hK K hHeld
      have hHeld := hH
      clear hH
      try simp only [Act.put, List.setIfInBounds_toArray, List.set_cons_zero, List.set_cons_succ]
      refine wpAnyH_ready (rs := [5]) (by kernel_rfl) (by simp) ?_
      refine AllReadyH.cons (o := { dst := none, op := _, type := _, pos := _, after := _, guard := _ }) rfl (fun K hK => ?_) AllReadyH.nil
      go_simp
      refine hK.out _ _ ⟨(HS2.out.set2 (.slice (some ⟨g, 0, none⟩) ms.length cap) (.int .i64 r)).cells.out.2.2.2.2.1, (HS2.out.set2 (.slice (some ⟨g, 0, none⟩) ms.length cap) (.int .i64 r)).cells.out.2.2.2.2.2.1⟩ (fun hH => ?_)
      clear hK K hHeld
      have hHeld := hH
      clear hH
      try simp only [Act.put, List.setIfInBounds_toArray, List.set_cons_zero, List.set_cons_succ]
      obtain ⟨_, _, x2_, x3_, _, _, _, _, x4_, x5_⟩ := (HS2.out.set2 (.slice (some ⟨g, 0, none⟩) ms.length cap) (.int .i64 r)).cells.out
      refine wpAnyH_ready (rs := [6]) (by kernel_rfl) (by simp) ?_
      refine AllReadyH.cons (o := { dst := none, op := _, type := _, pos := _, after := _, guard := _ }) rfl (fun K hK => ?_) AllReadyH.nil
      go_simp
      refine hK.out _ _ ⟨((HS2.out.set2 (.slice (some ⟨g, 0, none⟩) ms.length cap) (.int .i64 r)).set3 (.slice A2 ns.length c2) (.int .i64 r2)).cells.out.2.2.2.2.1, ((HS2.out.set2 (.slice (some ⟨g, 0, none⟩) ms.length cap) (.int .i64 r)).set3 (.slice A2 ns.length c2) (.int .i64 r2)).cells.out.2.2.2.2.2.1⟩ (fun hH => ?_)
      clear hK K hHeld
      have hHeld := hH
      clear hH
      try simp only [Act.put, List.setIfInBounds_toArray, List.set_cons_zero, List.set_cons_succ]
      refine wpAnyH_done (by kernel_rfl) ?_ _
      obtain ⟨q0, q1, q2, q3, _⟩ := ((HS2.out.set2 (.slice (some ⟨g, 0, none⟩) ms.length cap) (.int .i64 r)).set3 (.slice A2 ns.length c2) (.int .i64 r2)).cells.out
      have HR := hide (((HS2.out.set2 (.slice (some ⟨g, 0, none⟩) ms.length cap) (.int .i64 r)).set3 (.slice A2 ns.length c2) (.int .i64 r2)).fin (by omega) hcap hr64 ((HG2.out.set (Nat.le_succ _) (.slice (some ⟨g, 0, none⟩) ms.length cap) (.int .i64 r)).set (Nat.le_refl _) (.slice A2 ns.length c2) (.int .i64 r2)))
      clear HS2 y0 y1 y2 y3 y4 y5 z0 z1 z2 z3 e0 e1 e2 e3 e4 e5 f0 f1 f2 f3 hHeld
      go_wp2
      refine bodyPost_ret (v := .tuple #[.agg #[.slice (some ⟨g, 0, none⟩) ms.length cap, .int .i64 r], .agg #[.slice A2 ns.length c2, .int .i64 r2]]) (by simp [results, Try.results10, go_sem, q0, q1, q2, q3]) rfl ?_
      exact HR.out
  · rw [tf_false hv]
    clear hv
    have HS1d := hide (HS1.out.later (Below.refl _ x1).drew)
    go_wp2_with fail
    refine wp_region_held_drew (S := (fun w' => w'.cell? ⟨b4, 0, none⟩ = some (.slice (some ⟨g, 0, none⟩) ms.length cap) ∧ w'.cell? ⟨b4, 1, none⟩ = some (.int .i64 r))) (by kernel_rfl) ⟨HS1d.out.cells.out.2.2.2.2.1, HS1d.out.cells.out.2.2.2.2.2.1⟩ (fun hHeld => ?_)
    refine wpAnyH_take (i := 0) (oi := { dst := some 11, op := _, type := _, pos := _, after := _, guard := _ }) (v := ?_) rfl (by kernel_rfl) (by kernel_rfl) (by kernel_rfl) (fun _ _ _ h => h) (Or.inl ⟨by rfl, ?_⟩) (by assumption) ?_
    rotate_left
    · (intro w hSw; (try dsimp only at hSw); go_simp; try with_reducible rfl)
    try simp only [Act.put, List.setIfInBounds_toArray, List.set_cons_zero, List.set_cons_succ]
    refine wpAnyH_take (i := 1) (oi := { dst := some 12, op := _, type := _, pos := _, after := _, guard := _ }) (v := ?_) rfl (by kernel_rfl) (by kernel_rfl) (by kernel_rfl) (fun _ _ _ h => h) (Or.inl ⟨by rfl, ?_⟩) (by assumption) ?_
    rotate_left
    · (intro w hSw; (try dsimp only at hSw); go_simp; try with_reducible rfl)
    try simp only [Act.put, List.setIfInBounds_toArray, List.set_cons_zero, List.set_cons_succ]
    refine wpAnyH_ready (rs := [2]) (by kernel_rfl) (by simp) ?_
    refine AllReadyH.cons (o := { dst := some 13, op := _, type := _, pos := _, after := _, guard := _ }) rfl (fun K hK => ?_) AllReadyH.nil
    go_simp
    go_at_call 24
    refine (alkSome HS1d.out (by omega)).mono ?_
    rintro e y ⟨A2, c2, ns, r2, rfl, hS2, hG2⟩
    obtain ⟨y0, y1, y2, y3, y4, y5, z0, z1, z2, z3⟩ := hS2.cells.out
    have HS2 := hide (hS2.more (show _ ≤ p + 900 by omega))
    have HG2 := hide hG2
    clear hS2 hG2
    dsimp only
    refine hK.out _ _ ⟨HS2.out.cells.out.2.2.2.2.1, HS2.out.cells.out.2.2.2.2.2.1⟩ (fun hH => ?_)
    clear hK K hHeld
    have hHeld := hH
    clear hH
    try simp only [Act.put, List.setIfInBounds_toArray, List.set_cons_zero, List.set_cons_succ]
    refine wpAnyH_ready (rs := [3]) (by kernel_rfl) (by simp) ?_
    refine AllReadyH.cons (o := { dst := none, op := _, type := _, pos := _, after := _, guard := _ }) rfl (fun K hK => ?_) AllReadyH.nil
    go_simp
    refine hK.out _ _ ⟨(HS2.out.set2 (.slice (some ⟨g, 0, none⟩) ms.length cap) (.int .i64 r)).cells.out.2.2.2.2.1, (HS2.out.set2 (.slice (some ⟨g, 0, none⟩) ms.length cap) (.int .i64 r)).cells.out.2.2.2.2.2.1⟩ (fun hH => ?_)
    clear hK K hHeld
    have hHeld := hH
    clear hH
    try simp only [Act.put, List.setIfInBounds_toArray, List.set_cons_zero, List.set_cons_succ]
    obtain ⟨_, _, x2_, x3_, _, _, _, _, x4_, x5_⟩ := (HS2.out.set2 (.slice (some ⟨g, 0, none⟩) ms.length cap) (.int .i64 r)).cells.out
    refine wpAnyH_ready (rs := [4]) (by kernel_rfl) (by simp) ?_
    refine AllReadyH.cons (o := { dst := none, op := _, type := _, pos := _, after := _, guard := _ }) rfl (fun K hK => ?_) AllReadyH.nil
    go_simp
    refine hK.out _ _ ⟨((HS2.out.set2 (.slice (some ⟨g, 0, none⟩) ms.length cap) (.int .i64 r)).set3 (.slice A2 ns.length c2) (.int .i64 r2)).cells.out.2.2.2.2.1, ((HS2.out.set2 (.slice (some ⟨g, 0, none⟩) ms.length cap) (.int .i64 r)).set3 (.slice A2 ns.length c2) (.int .i64 r2)).cells.out.2.2.2.2.2.1⟩ (fun hH => ?_)
    clear hK K hHeld
    have hHeld := hH
    clear hH
    try simp only [Act.put, List.setIfInBounds_toArray, List.set_cons_zero, List.set_cons_succ]
    refine wpAnyH_done (by kernel_rfl) ?_ _
    obtain ⟨q0, q1, q2, q3, _⟩ := ((HS2.out.set2 (.slice (some ⟨g, 0, none⟩) ms.length cap) (.int .i64 r)).set3 (.slice A2 ns.length c2) (.int .i64 r2)).cells.out
    have HR := hide (((HS2.out.set2 (.slice (some ⟨g, 0, none⟩) ms.length cap) (.int .i64 r)).set3 (.slice A2 ns.length c2) (.int .i64 r2)).fin (by omega) hcap hr64 ((HG2.out.set (Nat.le_succ _) (.slice (some ⟨g, 0, none⟩) ms.length cap) (.int .i64 r)).set (Nat.le_refl _) (.slice A2 ns.length c2) (.int .i64 r2)))
    clear HS2 y0 y1 y2 y3 y4 y5 z0 z1 z2 z3 e0 e1 e2 e3 e4 e5 f0 f1 f2 f3 hHeld
    go_wp2
    refine bodyPost_ret (v := .tuple #[.agg #[.slice (some ⟨g, 0, none⟩) ms.length cap, .int .i64 r], .agg #[.slice A2 ns.length c2, .int .i64 r2]]) (by simp [results, Try.results10, go_sem, q0, q1, q2, q3]) rfl ?_
    exact HR.out

end Go.Proofs.Ytkgnijbdbkopkab
