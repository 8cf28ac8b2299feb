/-
  The walk of the law FnExactEqualDeep: for every two graphs it returns true and writes nothing that was there.
-/
import Derived.Test.YtbpjoiccjpiknaaPjAn
import Derived.Test.YtbpjoiccjpiknaaEqdS
import Derived.Test.YtbpjoiccjpiknaaTo
import Derived.Test.YtbpjoiccjpiknaaPjAm
import Derived.Deep.RegionHeld3
namespace Go.Proofs.Ytbpjoiccjpiknaa
open Go.RowKit Go.Maps
set_option linter.unusedVariables false

set_option maxRecDepth 100000 in
set_option maxHeartbeats 4000000 in
theorem exED_small (A A' : Option Addr) (ns ms : List Nd) (c c' : Nat) (r s : Int) (w : World) (hr : NdsAt w w.heap.size A ns) (hq : NdsAt w w.heap.size A' ms) (hs : 0 ≤ szNs ns 1048576) (ht : 0 ≤ szNs ms (szNs ns 1048576)) :
    Calls Try.prog 3 #[.agg #[.slice A ns.length c, .int .i64 r], .agg #[.slice A' ms.length c', .int .i64 s]] w fun e w' => e = .returned (.bool true) ∧ Below w.heap.size w w' := by
  have hsm := small_of_sz (by omega) (by omega) hs
  have hszr := szNs_range ns 1048576 (by omega) (by omega)
  have htm := small_of_sz hs hszr.2 ht
  have Hwn := hide hr.wf
  have Hwm := hide hq.wf
  have hnl := hr.len
  have hml := hq.len
  have hB0 : Below w.heap.size w ((w.alloc (.cells #[.slice A ns.length c, .int .i64 r] 24)).alloc (.cells #[.slice A' ms.length c', .int .i64 s] 24)) :=
    ((Below.refl _ _).alloc (Nat.le_refl _) _).alloc (by simp) _
  have l1 := (Lies.new w #[.slice A ns.length c, .int .i64 r] 24).alloc (.cells #[.slice A' ms.length c', .int .i64 s] 24)
  have k1 := Lies.new (w.alloc (.cells #[.slice A ns.length c, .int .i64 r] 24)) #[.slice A' ms.length c', .int .i64 s] 24
  simp only [World.size_alloc] at k1
  have hr1 := hr.below hB0
  have hq1 := hq.below hB0
  clear hr hq
  go_enter Try.func3, Try.ntmps3
  go_wp2_with fail
  generalize (w.alloc (.cells #[.slice A ns.length c, .int .i64 r] 24)).alloc (.cells #[.slice A' ms.length c', .int .i64 s] 24) = W at hB0 l1 k1 hr1 hq1 ⊢
  have hW := l1.lt
  have hW2 := k1.lt
  refine (szGraph_any A ns c r 1048576 W (by omega) (by omega) (hr1.more (by omega))).mono ?_
  rintro e w1 ⟨rfl, hb1⟩
  generalize szNs ns 1048576 = sz at hs ht hszr ⊢
  have hd : decide (sz < 0) = false := by simp; omega
  have l2 := l1.below hb1 hW
  have k2 := k1.below hb1 hW2
  have hr2 := hr1.below (hb1.mono (by omega))
  have hq2 := hq1.below (hb1.mono (by omega))
  have hB1 := hB0.trans (hb1.mono (by omega))
  have e0 := l2.cell 0
  have e1 := l2.cell 1
  have d0 := k2.cell 0
  have d1 := k2.cell 1
  simp at e0 e1 d0 d1
  have hz1 := l2.lt
  have hz2 := k2.lt
  clear hB0 l1 k1 hr1 hq1 hb1
  go_wp2_with fail
  refine (szGraph_any A' ms c' s sz w1 hs hszr.2 (hq2.more (by omega))).mono ?_
  rintro e w2 ⟨rfl, hb2⟩
  generalize szNs ms sz = sy at ht ⊢
  have hd2 : decide (sy < 0) = false := by simp; omega
  have l3 := l2.below hb2 l2.lt
  have k3 := k2.below hb2 k2.lt
  have hr3 := hr2.below (hb2.mono (by omega))
  have hq3 := hq2.below (hb2.mono (by omega))
  have hB2 := hB1.trans (hb2.mono (by omega))
  have e0 := l3.cell 0
  have e1 := l3.cell 1
  have d0 := k3.cell 0
  have d1 := k3.cell 1
  simp at e0 e1 d0 d1
  have hz1 := l3.lt
  have hz2 := k3.lt
  have tok1 : True := trivial
  have tok2 : True := trivial
  clear hB1 l2 k2 hr2 hq2 hb2
  go_wp2_with fail
  go_region_held3 (fun w' => w'.cell? ⟨w.heap.size, 0, none⟩ = some (.slice A ns.length c) ∧ w'.cell? ⟨w.heap.size, 1, none⟩ = some (.int .i64 r) ∧ w'.cell? ⟨w.heap.size + 1, 0, none⟩ = some (.slice A' ms.length c') ∧ w'.cell? ⟨w.heap.size + 1, 1, none⟩ = some (.int .i64 s))
    (first
      | (go_split_ands; refine ⟨?_, ?_, ?_, ?_⟩ <;> assumption))
    (first
      | (go_at_call 6; have _t := tok1; clear tok1; refine (toGraph_any A ns c r _ (hr3.later (Below.refl _ _).drew (by omega)) hsm).mono ?_; rintro e w3 ⟨rfl, hm3, hb3⟩; have hbw : Below w2.heap.size w2 w3 := (Below.refl _ _).drew.trans (hb3.mono (by simp)); have q0 := (hbw.cell (p := ⟨w.heap.size, 0, none⟩) hz1).trans e0; have q1 := (hbw.cell (p := ⟨w.heap.size, 1, none⟩) hz1).trans e1; have q2 := (hbw.cell (p := ⟨w.heap.size + 1, 0, none⟩) hz2).trans d0; have q3 := (hbw.cell (p := ⟨w.heap.size + 1, 1, none⟩) hz2).trans d1)
      | (go_at_call 6; have _t := tok2; clear tok2; refine (toGraph_any A' ms c' s _ (hq3.later (hbw.mono (by omega)) (by omega)) htm).mono ?_; rintro e w4 ⟨rfl, hm4, hb4⟩; have hbx : Below w2.heap.size w2 w4 := hbw.trans (hb4.mono hbw.size); have p0 := (hbx.cell (p := ⟨w.heap.size, 0, none⟩) hz1).trans e0; have p1 := (hbx.cell (p := ⟨w.heap.size, 1, none⟩) hz1).trans e1; have p2 := (hbx.cell (p := ⟨w.heap.size + 1, 0, none⟩) hz2).trans d0; have p3 := (hbx.cell (p := ⟨w.heap.size + 1, 1, none⟩) hz2).trans d1)
      | (go_at_call 5; refine (specEqualDeep_any _ _ ns ms _ _ r s w4 ((hm3.at_ Hwn.out hnl).later hb4 (Nat.le_refl _)) (hm4.at_ Hwm.out hml)).mono ?_; rintro e w5 ⟨rfl, hb5⟩; have hby : Below w2.heap.size w2 w5 := hbx.trans (hb5.mono hbx.size); have o0 := (hby.cell (p := ⟨w.heap.size, 0, none⟩) hz1).trans e0; have o1 := (hby.cell (p := ⟨w.heap.size, 1, none⟩) hz1).trans e1; have o2 := (hby.cell (p := ⟨w.heap.size + 1, 0, none⟩) hz2).trans d0; have o3 := (hby.cell (p := ⟨w.heap.size + 1, 1, none⟩) hz2).trans d1))
  have l5 := l3.below hby hz1
  have k5 := k3.below hby hz2
  have hr5 := hr3.below (hby.mono (by omega))
  have hq5 := hq3.below (hby.mono (by omega))
  have hB5 := hB2.trans (hby.mono (by omega))
  have hs5 := hby.size
  clear hB2 l3 k3 hr3 hq3 hbw hb3 hm3 hbx hb4 hm4 hby hb5 q0 q1 q2 q3 p0 p1 p2 p3 e0 e1 d0 d1
  go_wp2_with fail
  refine (toGraph_any A ns c r w5 (hr5.more (by omega)) hsm).mono ?_
  rintro e w6 ⟨rfl, hm6, hb6⟩
  have hx6 := hm6.at_ Hwn.out hnl
  have l6 := l5.below hb6 (by omega)
  have k6 := k5.below hb6 (by omega)
  have hr6 := hr5.below (hb6.mono (by omega))
  have hq6 := hq5.below (hb6.mono (by omega))
  have hB6 := hB5.trans (hb6.mono (by omega))
  have hs6 := hb6.size
  clear hB5 l5 k5 hr5 hq5 hb6 hm6 o0 o1 o2 o3
  have d0 := (k6.alloc (.cells #[.slice (some ⟨w5.heap.size + 3, 0, none⟩) ns.length ns.length, .int .i64 r] 29)).cell 0
  have d1 := (k6.alloc (.cells #[.slice (some ⟨w5.heap.size + 3, 0, none⟩) ns.length ns.length, .int .i64 r] 29)).cell 1
  simp at d0 d1
  have lx7 := Lies.new w6 #[.slice (some ⟨w5.heap.size + 3, 0, none⟩) ns.length ns.length, .int .i64 r] 29
  have hbx : Below w6.heap.size w6 (w6.alloc (.cells #[.slice (some ⟨w5.heap.size + 3, 0, none⟩) ns.length ns.length, .int .i64 r] 29)) := (Below.refl _ _).alloc (Nat.le_refl _) _
  have hx7 := hx6.below hbx
  have l7 := l6.below hbx (by omega)
  have k7 := k6.below hbx (by omega)
  have hr7 := hr6.below (hbx.mono (by omega))
  have hq7 := hq6.below (hbx.mono (by omega))
  have hB7 := hB6.trans (hbx.mono (by omega))
  clear hx6 l6 k6 hr6 hq6 hB6
  go_wp2_with fail
  generalize hbxd : w6.heap.size = bx at lx7 hx7 hbx hs6 ⊢
  generalize hg5 : w5.heap.size + 3 = g5 at *
  generalize w6.alloc (.cells #[.slice (some ⟨g5, 0, none⟩) ns.length ns.length, .int .i64 r] 29) = w7 at lx7 hx7 l7 k7 hr7 hq7 hB7 hbx d0 d1 ⊢
  have hlx7 := lx7.lt
  clear hbx hg5 hbxd
  have hg57 : g5 < w7.heap.size ∨ True := .inr trivial
  clear hg57
  refine (toGraph_any A' ms c' s w7 (hq7.more (by omega)) htm).mono ?_
  rintro e w8 ⟨rfl, hm8, hb8⟩
  have hy8 := hm8.at_ Hwm.out hml
  have l8 := l7.below hb8 (by omega)
  have k8 := k7.below hb8 (by omega)
  have lx8 := lx7.below hb8 hlx7
  have hx8 := hx7.below (hb8.mono (by omega))
  have hr8 := hr7.below (hb8.mono (by omega))
  have hq8 := hq7.below (hb8.mono (by omega))
  have hB8 := hB7.trans (hb8.mono (by omega))
  have hs8 := hb8.size
  clear l7 k7 lx7 hx7 hr7 hq7 hB7 hb8 hm8 d0 d1
  have ly9 := Lies.new w8 #[.slice (some ⟨w7.heap.size + 3, 0, none⟩) ms.length ms.length, .int .i64 s] 29
  have hby : Below w8.heap.size w8 (w8.alloc (.cells #[.slice (some ⟨w7.heap.size + 3, 0, none⟩) ms.length ms.length, .int .i64 s] 29)) := (Below.refl _ _).alloc (Nat.le_refl _) _
  have hy9 := hy8.below hby
  have l9 := l8.below hby (by omega)
  have k9 := k8.below hby (by omega)
  have lx9 := lx8.below hby (by omega)
  have hx9 := hx8.below (hby.mono (by omega))
  have hr9 := hr8.below (hby.mono (by omega))
  have hq9 := hq8.below (hby.mono (by omega))
  have hB9 := hB8.trans (hby.mono (by omega))
  have x0 := lx9.cell 0
  have x1 := lx9.cell 1
  have y0 := ly9.cell 0
  have y1 := ly9.cell 1
  simp only [List.getElem?_toArray, List.getElem?_cons_zero, List.getElem?_cons_succ] at x0 x1 y0 y1
  clear l8 k8 lx8 hx8 hy8 hr8 hq8 hB8
  go_wp2_with fail
  generalize hbyd : w8.heap.size = by8 at ly9 hy9 hby hs8 y0 y1 ⊢
  generalize hg7 : w7.heap.size + 3 = g7 at *
  generalize w8.alloc (.cells #[.slice (some ⟨g7, 0, none⟩) ms.length ms.length, .int .i64 s] 29) = w9 at ly9 hy9 l9 k9 lx9 hx9 hr9 hq9 hB9 hby x0 x1 y0 y1 ⊢
  have hly9 := ly9.lt
  clear hby hg7 hbyd
  refine (implEqualDeep_any (some ⟨g5, 0, none⟩) (some ⟨g7, 0, none⟩) ns ms ns.length ms.length r s w9 (hx9.more (by omega)) (hy9.more (by omega))).mono ?_
  rintro e w10 ⟨rfl, hb10⟩
  have l10 := l9.below hb10 (by omega)
  have k10 := k9.below hb10 (by omega)
  have lx10 := lx9.below hb10 (by omega)
  have ly10 := ly9.below hb10 (by omega)
  have hx10 := hx9.below (hb10.mono (by omega))
  have hy10 := hy9.below (hb10.mono (by omega))
  have hr10 := hr9.below (hb10.mono (by omega))
  have hq10 := hq9.below (hb10.mono (by omega))
  have hB10 := hB9.trans (hb10.mono (by omega))
  have hs10 := hb10.size
  clear l9 k9 lx9 ly9 hx9 hy9 hr9 hq9 hB9 hb10 x0 x1 y0 y1
  generalize tf (EqDeepG ns r ms s) = V
  have hvv : (V != V) = false := by simp
  have s0 := lx10.cell 0
  have s1 := lx10.cell 1
  have e0 := l10.cell 0
  have e1 := l10.cell 1
  simp at s0 s1 e0 e1
  have hl10 := l10.lt
  have hk10 := k10.lt
  have hx10lt := lx10.lt
  have hy10lt := ly10.lt
  have hnn : (decide (ns = ns) && decide (r = r)) = true := by simp
  have hmm : (decide (ms = ms) && decide (s = s)) = true := by simp
  go_wp2_with fail
  go_region_held3 (fun w' => w'.cell? ⟨bx, 0, none⟩ = some (.slice (some ⟨g5, 0, none⟩) ns.length ns.length) ∧ w'.cell? ⟨bx, 1, none⟩ = some (.int .i64 r) ∧ w'.cell? ⟨w.heap.size, 0, none⟩ = some (.slice A ns.length c) ∧ w'.cell? ⟨w.heap.size, 1, none⟩ = some (.int .i64 r))
    (first
      | (go_split_ands; refine ⟨?_, ?_, ?_, ?_⟩ <;> assumption))
    (first
      | (go_at_call 6; refine (toGraph_any A ns c r _ (hr10.later (Below.refl _ _).drew (by omega)) hsm).mono ?_; rintro e w11 ⟨rfl, hm11, hb11⟩; have hbw : Below w10.heap.size w10 w11 := (Below.refl _ _).drew.trans (hb11.mono (by simp)); have q0 := (hbw.cell (p := ⟨bx, 0, none⟩) hx10lt).trans s0; have q1 := (hbw.cell (p := ⟨bx, 1, none⟩) hx10lt).trans s1; have q2 := (hbw.cell (p := ⟨w.heap.size, 0, none⟩) hl10).trans e0; have q3 := (hbw.cell (p := ⟨w.heap.size, 1, none⟩) hl10).trans e1)
      | (go_at_call 8; refine (eqGraph_any _ _ ns ns r r _ _ _ (hx10.later (hbw.mono (by omega)) (by omega)) (hm11.at_ Hwn.out hnl)).mono ?_; rintro e w12 ⟨rfl, hb12⟩; have hbz : Below w10.heap.size w10 w12 := hbw.trans (hb12.mono hbw.size); have z0 := (hbz.cell (p := ⟨bx, 0, none⟩) hx10lt).trans s0; have z1 := (hbz.cell (p := ⟨bx, 1, none⟩) hx10lt).trans s1; have z2 := (hbz.cell (p := ⟨w.heap.size, 0, none⟩) hl10).trans e0; have z3 := (hbz.cell (p := ⟨w.heap.size, 1, none⟩) hl10).trans e1))
  have ly12 := ly10.below hbz hy10lt
  have k12 := k10.below hbz hk10
  have hy12 := hy10.below (hbz.mono (by omega))
  have hq12 := hq10.below (hbz.mono (by omega))
  have hB12 := hB10.trans (hbz.mono (by omega))
  have hs12 := hbz.size
  clear hbw hb11 hm11 hb12 hbz q0 q1 q2 q3 z0 z1 z2 z3 s0 s1 e0 e1 l10 lx10 ly10 k10 hx10 hy10 hr10 hq10 hB10 hnn
  have s0 := ly12.cell 0
  have s1 := ly12.cell 1
  have e0 := k12.cell 0
  have e1 := k12.cell 1
  simp at s0 s1 e0 e1
  have hk12 := k12.lt
  have hy12lt := ly12.lt
  go_wp2_with fail
  go_region_held3 (fun w' => w'.cell? ⟨by8, 0, none⟩ = some (.slice (some ⟨g7, 0, none⟩) ms.length ms.length) ∧ w'.cell? ⟨by8, 1, none⟩ = some (.int .i64 s) ∧ w'.cell? ⟨w.heap.size + 1, 0, none⟩ = some (.slice A' ms.length c') ∧ w'.cell? ⟨w.heap.size + 1, 1, none⟩ = some (.int .i64 s))
    (first
      | (go_split_ands; refine ⟨?_, ?_, ?_, ?_⟩ <;> assumption))
    (first
      | (go_at_call 6; refine (toGraph_any A' ms c' s _ (hq12.later (Below.refl _ _).drew (by omega)) htm).mono ?_; rintro e w13 ⟨rfl, hm13, hb13⟩; have hbw : Below w12.heap.size w12 w13 := (Below.refl _ _).drew.trans (hb13.mono (by simp)); have q0 := (hbw.cell (p := ⟨by8, 0, none⟩) hy12lt).trans s0; have q1 := (hbw.cell (p := ⟨by8, 1, none⟩) hy12lt).trans s1; have q2 := (hbw.cell (p := ⟨w.heap.size + 1, 0, none⟩) hk12).trans e0; have q3 := (hbw.cell (p := ⟨w.heap.size + 1, 1, none⟩) hk12).trans e1)
      | (go_at_call 8; refine (eqGraph_any _ _ ms ms s s _ _ _ (hy12.later (hbw.mono (by omega)) (by omega)) (hm13.at_ Hwm.out hml)).mono ?_; rintro e w14 ⟨rfl, hb14⟩; have hbz : Below w12.heap.size w12 w14 := hbw.trans (hb14.mono hbw.size); have z0 := (hbz.cell (p := ⟨by8, 0, none⟩) hy12lt).trans s0; have z1 := (hbz.cell (p := ⟨by8, 1, none⟩) hy12lt).trans s1; have z2 := (hbz.cell (p := ⟨w.heap.size + 1, 0, none⟩) hk12).trans e0; have z3 := (hbz.cell (p := ⟨w.heap.size + 1, 1, none⟩) hk12).trans e1))
  have hB14 := hB12.trans (hbz.mono (by omega))
  go_wp2
  go_ret
  exact ⟨rfl, hB14⟩

set_option maxHeartbeats 1000000 in
theorem exED_big1 (A A' : Option Addr) (ns ms : List Nd) (c c' : Nat) (r s : Int) (w : World) (hr : NdsAt w w.heap.size A ns) (hs : szNs ns 1048576 < 0) :
    Calls Try.prog 3 #[.agg #[.slice A ns.length c, .int .i64 r], .agg #[.slice A' ms.length c', .int .i64 s]] w fun e w' => e = .returned (.bool true) ∧ Below w.heap.size w w' := by
  have hB0 : Below w.heap.size w ((w.alloc (.cells #[.slice A ns.length c, .int .i64 r] 24)).alloc (.cells #[.slice A' ms.length c', .int .i64 s] 24)) :=
    ((Below.refl _ _).alloc (Nat.le_refl _) _).alloc (by simp) _
  have hr1 := hr.later hB0 (Nat.le_refl _)
  clear hr
  go_enter Try.func3, Try.ntmps3
  go_wp2_with fail
  refine (szGraph_any A ns c r 1048576 _ (by omega) (by omega) hr1).mono ?_
  rintro e w1 ⟨rfl, hb1⟩
  generalize szNs ns 1048576 = sz at hs ⊢
  have hd : decide (sz < 0) = true := by simp; omega
  go_wp2
  go_ret
  exact ⟨rfl, hB0.trans (hb1.mono hB0.size)⟩

set_option maxHeartbeats 1000000 in
theorem exED_big2 (A A' : Option Addr) (ns ms : List Nd) (c c' : Nat) (r s : Int) (w : World) (hr : NdsAt w w.heap.size A ns) (hq : NdsAt w w.heap.size A' ms) (hs : 0 ≤ szNs ns 1048576) (ht : szNs ms (szNs ns 1048576) < 0) :
    Calls Try.prog 3 #[.agg #[.slice A ns.length c, .int .i64 r], .agg #[.slice A' ms.length c', .int .i64 s]] w fun e w' => e = .returned (.bool true) ∧ Below w.heap.size w w' := by
  have hB0 : Below w.heap.size w ((w.alloc (.cells #[.slice A ns.length c, .int .i64 r] 24)).alloc (.cells #[.slice A' ms.length c', .int .i64 s] 24)) :=
    ((Below.refl _ _).alloc (Nat.le_refl _) _).alloc (by simp) _
  have k1 := Lies.new (w.alloc (.cells #[.slice A ns.length c, .int .i64 r] 24)) #[.slice A' ms.length c', .int .i64 s] 24
  simp only [World.size_alloc] at k1
  have hr1 := hr.later hB0 (Nat.le_refl _)
  have hq1 := hq.later hB0 (Nat.le_refl _)
  have hszr := szNs_range ns 1048576 (by omega) (by omega)
  clear hr hq
  go_enter Try.func3, Try.ntmps3
  go_wp2_with fail
  generalize (w.alloc (.cells #[.slice A ns.length c, .int .i64 r] 24)).alloc (.cells #[.slice A' ms.length c', .int .i64 s] 24) = W at hB0 k1 hr1 hq1 ⊢
  refine (szGraph_any A ns c r 1048576 W (by omega) (by omega) hr1).mono ?_
  rintro e w1 ⟨rfl, hb1⟩
  have k2 := k1.below hb1 k1.lt
  have d0 := k2.cell 0
  have d1 := k2.cell 1
  simp at d0 d1
  have hq2 := hq1.later hb1 (Nat.le_refl _)
  generalize szNs ns 1048576 = sz at hs ht hszr ⊢
  have hd : decide (sz < 0) = false := by simp; omega
  go_wp2_with fail
  refine (szGraph_any A' ms c' s sz w1 hs hszr.2 hq2).mono ?_
  rintro e w2 ⟨rfl, hb2⟩
  generalize szNs ms sz = sy at ht ⊢
  have hd2 : decide (sy < 0) = true := by simp; omega
  go_wp2
  go_ret
  exact ⟨rfl, (hB0.trans (hb1.mono hB0.size)).trans (hb2.mono (Nat.le_trans hB0.size hb1.size))⟩

theorem exED_any (A A' : Option Addr) (ns ms : List Nd) (c c' : Nat) (r s : Int) (w : World) (hr : NdsAt w w.heap.size A ns) (hq : NdsAt w w.heap.size A' ms) :
    Calls Try.prog 3 #[.agg #[.slice A ns.length c, .int .i64 r], .agg #[.slice A' ms.length c', .int .i64 s]] w fun e w' => e = .returned (.bool true) ∧ Below w.heap.size w w' := by
  by_cases hs : 0 ≤ szNs ns 1048576
  · by_cases ht : 0 ≤ szNs ms (szNs ns 1048576)
    · exact exED_small A A' ns ms c c' r s w hr hq hs ht
    · exact exED_big2 A A' ns ms c c' r s w hr hq hs (by omega)
  · exact exED_big1 A A' ns ms c c' r s w hr (by omega)

end Go.Proofs.Ytbpjoiccjpiknaa
