/-
  The walk of the law FnExactTreeSize: for every graph it returns true and writes nothing that was there.
-/
import Derived.Test.YtekmghlgcfknaahTreeI2
import Derived.Test.YtekmghlgcfknaahTreeS
import Derived.Test.YtekmghlgcfknaahTo
import Derived.Test.YtekmghlgcfknaahEq
import Derived.Deep.RegionHeld3
namespace Go.Proofs.Ytekmghlgcfknaah
open Go.RowKit Go.Maps
set_option linter.unusedVariables false

set_option maxRecDepth 100000 in
set_option maxHeartbeats 4000000 in
theorem exTS_small (A : Option Addr) (ns : List Nd) (c : Nat) (r : Int) (w : World) (hr : NdsAt w w.heap.size A ns) (hs : 0 ≤ szNs ns 1048576) :
    Calls Try.prog 3 #[.agg #[.slice A ns.length c, .int .i64 r]] w fun e w' => e = .returned (.bool true) ∧ Below w.heap.size w w' := by
  have hsm := small_of_sz (by omega) (by omega) hs
  have hwf := hr.wf
  have Hwf := hide hwf
  have hB0 : Below w.heap.size w (w.alloc (.cells #[.slice A ns.length c, .int .i64 r] 24)) := (Below.refl _ _).alloc (Nat.le_refl _) _
  have l1 := Lies.new w #[.slice A ns.length c, .int .i64 r] 24
  have hr1 := hr.below hB0
  have hnl := hr.len
  clear hr hwf
  go_enter Try.func3, Try.ntmps3
  go_wp2_with fail
  generalize w.alloc (.cells #[.slice A ns.length c, .int .i64 r] 24) = W at hB0 l1 hr1 ⊢
  have hW := l1.lt
  refine (szGraph_any A ns c r 1048576 W (by omega) (by omega) (hr1.more (by omega))).mono ?_
  rintro e w1 ⟨rfl, hb1⟩
  generalize szNs ns 1048576 = sz at hs ⊢
  have hd : decide (sz < 0) = false := by simp; omega
  have l2 := l1.below hb1 hW
  have hr2 := hr1.below (hb1.mono (by omega))
  have hB1 := hB0.trans (hb1.mono (by omega))
  have e0 := l2.cell 0
  have e1 := l2.cell 1
  simp at e0 e1
  clear hB0 l1 hr1 hb1
  go_wp2_with fail
  refine (toGraph_any A ns c r w1 (hr2.more (by have := l2.lt; omega)) hsm).mono ?_
  rintro e w2 ⟨rfl, hm2, hb2⟩
  have l3 := l2.below hb2 l2.lt
  have hr3 := hr2.below (hb2.mono (by have := l2.lt; omega))
  have hB2 := hB1.trans (hb2.mono (by have := l2.lt; omega))
  have hx2 := hm2.at_ Hwf.out hnl
  have e0 := l3.cell 0
  have e1 := l3.cell 1
  simp at e0 e1
  clear hB1 l2 hr2 hb2
  go_wp2_with fail
  refine (specTreeSize_any _ ns _ r w2 hx2).mono ?_
  rintro e w3 ⟨rfl, hb3⟩
  have l4 := l3.below hb3 l3.lt
  have hr4 := hr3.below (hb3.mono (by have := l3.lt; omega))
  have hB3 := hB2.trans (hb3.mono (by have := l3.lt; omega))
  have e0 := l4.cell 0
  have e1 := l4.cell 1
  simp at e0 e1
  clear hB2 l3 hr3 hb3 hm2 hx2
  go_wp2_with fail
  refine (toGraph_any A ns c r w3 (hr4.more (by have := l4.lt; omega)) hsm).mono ?_
  rintro e w4 ⟨rfl, hm4, hb4⟩
  have l5 := l4.below hb4 l4.lt
  have hr5 := hr4.below (hb4.mono (by have := l4.lt; omega))
  have hB4 := hB3.trans (hb4.mono (by have := l4.lt; omega))
  have hx4 := hm4.at_ Hwf.out hnl
  clear hB3 l4 hr4 hb4 e0 e1 hm4
  go_wp2_with fail
  have lx5 := Lies.new w4 #[.slice (some ⟨w3.heap.size + 3, 0, none⟩) ns.length ns.length, .int .i64 r] 29
  have hbx : Below w4.heap.size w4 (w4.alloc (.cells #[.slice (some ⟨w3.heap.size + 3, 0, none⟩) ns.length ns.length, .int .i64 r] 29)) := (Below.refl _ _).alloc (Nat.le_refl _) _
  have hx5 := hx4.below hbx
  have l6 := l5.below hbx l5.lt
  have hr6 := hr5.below (hbx.mono (by have := l5.lt; omega))
  have hB5 := hB4.trans (hbx.mono (by have := l5.lt; omega))
  have hwlt := l5.lt
  clear hx4 l5 hr5 hB4 hbx
  generalize hbxd : w4.heap.size = bx at lx5 hx5 hwlt ⊢
  generalize w4.alloc (.cells #[.slice (some ⟨w3.heap.size + 3, 0, none⟩) ns.length ns.length, .int .i64 r] 29) = w5 at lx5 hx5 l6 hr6 hB5 ⊢
  clear hbxd
  have hbxlt := lx5.lt
  refine (implTreeSize_any _ ns _ r w5 (hx5.more (by omega))).mono ?_
  rintro e w6 ⟨rfl, hb6⟩
  have lx7 := lx5.below hb6 lx5.lt
  have hx7 := hx5.below (hb6.mono (by omega))
  have l7 := l6.below hb6 l6.lt
  have hr7 := hr6.below (hb6.mono (by have := l6.lt; omega))
  have hB6 := hB5.trans (hb6.mono (by have := l6.lt; omega))
  clear lx5 hx5 l6 hr6 hB5 hb6 hbxlt
  generalize treeSizeOf ns r = V
  have hvv : (V != V) = false := by simp
  have s0 := lx7.cell 0
  have s1 := lx7.cell 1
  have e0 := l7.cell 0
  have e1 := l7.cell 1
  simp at s0 s1 e0 e1
  have hl7 := l7.lt
  have hx7lt := lx7.lt
  go_wp2_with fail
  go_region_held3 (fun w' => w'.cell? ⟨bx, 0, none⟩ = some (.slice (some ⟨w3.heap.size + 3, 0, none⟩) ns.length ns.length) ∧ w'.cell? ⟨bx, 1, none⟩ = some (.int .i64 r) ∧ w'.cell? ⟨w.heap.size, 0, none⟩ = some (.slice A ns.length c) ∧ w'.cell? ⟨w.heap.size, 1, none⟩ = some (.int .i64 r))
    (first
      | (go_split_ands; refine ⟨?_, ?_, ?_, ?_⟩ <;> assumption))
    (first
      | (go_at_call 6; refine (toGraph_any A ns c r _ (hr7.later (Below.refl _ _).drew (by omega)) hsm).mono ?_; rintro e w8 ⟨rfl, hm8, hb8⟩; have q0 := (hb8.cell (p := ⟨bx, 0, none⟩) hx7lt).trans s0; have q1 := (hb8.cell (p := ⟨bx, 1, none⟩) hx7lt).trans s1; have q2 := (hb8.cell (p := ⟨w.heap.size, 0, none⟩) hl7).trans e0; have q3 := (hb8.cell (p := ⟨w.heap.size, 1, none⟩) hl7).trans e1)
      | (go_at_call 8; refine (eqGraph_any _ _ ns ns r r _ _ _ (hx7.later ((Below.refl bx _).drew.trans (hb8.mono (by simp; omega))) (by omega)) (hm8.at_ Hwf.out hnl)).mono ?_; rintro e w9 ⟨rfl, hb9⟩; have z0 := (hb9.cell (p := ⟨bx, 0, none⟩) (Nat.lt_of_lt_of_le hx7lt hb8.size)).trans q0; have z1 := (hb9.cell (p := ⟨bx, 1, none⟩) (Nat.lt_of_lt_of_le hx7lt hb8.size)).trans q1; have z2 := (hb9.cell (p := ⟨w.heap.size, 0, none⟩) (Nat.lt_of_lt_of_le hl7 hb8.size)).trans q2; have z3 := (hb9.cell (p := ⟨w.heap.size, 1, none⟩) (Nat.lt_of_lt_of_le hl7 hb8.size)).trans q3))
  have hB9 : Below w.heap.size w w9 := hB6.trans (((Below.refl _ w6).drew.trans (hb8.mono (by simp; omega))).trans (hb9.mono (by have := hb8.size; simp at this; omega)))
  go_wp2
  go_ret
  exact ⟨rfl, hB9⟩

set_option maxHeartbeats 1000000 in
theorem exTS_big (A : Option Addr) (ns : List Nd) (c : Nat) (r : Int) (w : World) (hr : NdsAt w w.heap.size A ns) (hs : szNs ns 1048576 < 0) :
    Calls Try.prog 3 #[.agg #[.slice A ns.length c, .int .i64 r]] w fun e w' => e = .returned (.bool true) ∧ Below w.heap.size w w' := by
  have hB0 : Below w.heap.size w (w.alloc (.cells #[.slice A ns.length c, .int .i64 r] 24)) := (Below.refl _ _).alloc (Nat.le_refl _) _
  have hr1 := hr.later hB0 (Nat.le_refl _)
  clear hr
  go_enter Try.func3, Try.ntmps3
  go_wp2_with fail
  refine (szGraph_any A ns c r 1048576 _ (by omega) (by omega) hr1).mono ?_
  rintro e w1 ⟨rfl, hb1⟩
  generalize szNs ns 1048576 = sz at hs ⊢
  have hd : decide (sz < 0) = true := by simp; omega
  go_wp2
  go_ret
  exact ⟨rfl, hB0.trans (hb1.mono hB0.size)⟩

theorem exTS_any (A : Option Addr) (ns : List Nd) (c : Nat) (r : Int) (w : World) (hr : NdsAt w w.heap.size A ns) :
    Calls Try.prog 3 #[.agg #[.slice A ns.length c, .int .i64 r]] w fun e w' => e = .returned (.bool true) ∧ Below w.heap.size w w' := by
  by_cases hs : 0 ≤ szNs ns 1048576
  · exact exTS_small A ns c r w hr hs
  · exact exTS_big A ns c r w hr (by omega)

end Go.Proofs.Ytekmghlgcfknaah
