import Derived.Test.YtaolnnjcpnhghabRuI
import Derived.Test.YtaolnnjcpnhghabRuX
import Derived.Test.YtaolnnjcpnhghabRuH
import Derived.Deep.RegionHeld3
namespace Go.Proofs.Ytaolnnjcpnhghab
open Go.RowKit Go.Maps
set_option linter.unusedVariables false
theorem RuAt.of_row {w : World} {g : Nat} {t : TypeId} {r : Ru} {A : Option Addr} {w0 : World} {B0 : Nat} (h0 : RuAt w0 B0 A r) (h : w.rowIs g t r.cls.length (intCell r.cls)) : RuAt w w.heap.size (some ⟨g, 0, none⟩) r :=
  ⟨IntsAt.of_row h h.lt h0.c.wf h0.c.len, h0.s, h0.n, h0.d⟩
set_option maxRecDepth 100000 in
set_option maxHeartbeats 4000000 in
theorem exVR_small (A : Option Addr) (r : Ru) (c : Nat) (w : World) (hr : RuAt w w.heap.size A r) (hs : 0 ≤ szI r.cls.length 1048576) :
    Calls Try.prog 3 #[ruVal r A c] w fun e w' => e = .returned (.bool true) ∧ Below w.heap.size w w' := by
  have hsm : r.cls.length ≤ 1048576 := by unfold szI at hs; split at hs <;> omega
  have HR := hide hr
  have hB0 : Below w.heap.size w (w.alloc (.cells (ruCells r A c) 24)) := (Below.refl _ _).alloc (Nat.le_refl _) _
  have l1 := Lies.new w (ruCells r A c) 24
  have hr1 := hr.below hB0
  have hnl := hr.c.len
  clear hr
  unfold ruVal
  unfold ruCells at *
  go_enter Try.func3, Try.ntmps3
  go_wp2_with fail
  generalize w.alloc (.cells #[.int .i64 r.steps, .int .i64 r.nodes, .int .i64 r.deep, .slice A r.cls.length c] 24) = W at hB0 l1 hr1 ⊢
  have hW := l1.lt
  refine (szRules_any A r c 1048576 W (by omega) (by omega) hnl).mono ?_
  rintro e w1 ⟨rfl, hb1⟩
  generalize szI r.cls.length 1048576 = sz at hs ⊢
  have hd : decide (sz < 0) = false := by simp; omega
  have l2 := l1.below hb1 hW
  have hr2 := hr1.below (hb1.mono (by omega))
  have hB1 := hB0.trans (hb1.mono (by omega))
  have e0 := l2.cell 0
  have e1 := l2.cell 1
  have e2 := l2.cell 2
  have e3 := l2.cell 3
  simp only [List.getElem?_toArray, List.getElem?_cons_zero, List.getElem?_cons_succ] at e0 e1 e2 e3
  clear hB0 l1 hr1 hb1
  go_wp2_with fail
  refine (toRules_any A r c w1 (hr2.more (by have := l2.lt; omega)) hsm).mono ?_
  rintro e w2 ⟨g2, rfl, hg2, hm2, hb2⟩
  have l3 := l2.below hb2 l2.lt
  have hr3 := hr2.below (hb2.mono (by have := l2.lt; omega))
  have hB2 := hB1.trans (hb2.mono (by have := l2.lt; omega))
  have hx2 := RuAt.of_row HR.out hm2
  have e0 := l3.cell 0
  have e1 := l3.cell 1
  have e2 := l3.cell 2
  have e3 := l3.cell 3
  simp only [List.getElem?_toArray, List.getElem?_cons_zero, List.getElem?_cons_succ] at e0 e1 e2 e3
  clear hB1 l2 hr2 hb2 hm2
  unfold ruVal
  unfold ruCells
  go_wp2_with fail
  refine (specValidRulesX_any _ r _ w2 hx2 hsm (Nat.le_refl _)).mono ?_
  rintro e w3 ⟨rfl, hb3⟩
  have l4 := l3.below hb3 l3.lt
  have hr4 := hr3.below (hb3.mono (by have := l3.lt; omega))
  have hB3 := hB2.trans (hb3.mono (by have := l3.lt; omega))
  have e0 := l4.cell 0
  have e1 := l4.cell 1
  have e2 := l4.cell 2
  have e3 := l4.cell 3
  simp only [List.getElem?_toArray, List.getElem?_cons_zero, List.getElem?_cons_succ] at e0 e1 e2 e3
  clear hB2 l3 hr3 hb3 hx2
  go_wp2_with fail
  refine (toRules_any A r c w3 (hr4.more (by have := l4.lt; omega)) hsm).mono ?_
  rintro e w4 ⟨g4, rfl, hg4, hm4, hb4⟩
  have l5 := l4.below hb4 l4.lt
  have hr5 := hr4.below (hb4.mono (by have := l4.lt; omega))
  have hB4 := hB3.trans (hb4.mono (by have := l4.lt; omega))
  have hx4 := RuAt.of_row HR.out hm4
  clear hB3 l4 hr4 hb4 e0 e1 e2 e3 hm4
  unfold ruVal
  unfold ruCells
  go_wp2_with fail
  have lx5 := Lies.new w4 #[.int .i64 r.steps, .int .i64 r.nodes, .int .i64 r.deep, .slice (some ⟨g4, 0, none⟩) r.cls.length r.cls.length] 27
  have hbx : Below w4.heap.size w4 (w4.alloc (.cells #[.int .i64 r.steps, .int .i64 r.nodes, .int .i64 r.deep, .slice (some ⟨g4, 0, none⟩) r.cls.length r.cls.length] 27)) := (Below.refl _ _).alloc (Nat.le_refl _) _
  have hx5 := hx4.below hbx
  have l6 := l5.below hbx l5.lt
  have hr6 := hr5.below (hbx.mono (by have := l5.lt; omega))
  have hB5 := hB4.trans (hbx.mono (by have := l5.lt; omega))
  have hwlt := l5.lt
  clear hx4 l5 hr5 hB4 hbx
  generalize hbxd : w4.heap.size = bx at lx5 hx5 hwlt ⊢
  generalize w4.alloc (.cells #[.int .i64 r.steps, .int .i64 r.nodes, .int .i64 r.deep, .slice (some ⟨g4, 0, none⟩) r.cls.length r.cls.length] 27) = w5 at lx5 hx5 l6 hr6 hB5 ⊢
  clear hbxd
  have hbxlt := lx5.lt
  refine (implValidRules_any _ r _ w5 (hx5.more (by omega)) hsm).mono ?_
  rintro e w6 ⟨rfl, hb6⟩
  have lx7 := lx5.below hb6 lx5.lt
  have hx7 := hx5.below (hb6.mono (by omega))
  have l7 := l6.below hb6 l6.lt
  have hr7 := hr6.below (hb6.mono (by have := l6.lt; omega))
  have hB6 := hB5.trans (hb6.mono (by have := l6.lt; omega))
  clear lx5 hx5 l6 hr6 hB5 hb6 hbxlt
  generalize tf (RuOk r) = V
  have hvv : (V != V) = false := by simp
  have s0 := lx7.cell 0
  have s1 := lx7.cell 1
  have s2 := lx7.cell 2
  have s3 := lx7.cell 3
  have e0 := l7.cell 0
  have e1 := l7.cell 1
  have e2 := l7.cell 2
  have e3 := l7.cell 3
  simp only [List.getElem?_toArray, List.getElem?_cons_zero, List.getElem?_cons_succ] at s0 s1 s2 s3 e0 e1 e2 e3
  have hl7 := l7.lt
  have hx7lt := lx7.lt
  go_wp2_with fail
  go_region_held3 (fun w' => w'.cell? ⟨bx, 0, none⟩ = some (.int .i64 r.steps) ∧ w'.cell? ⟨bx, 1, none⟩ = some (.int .i64 r.nodes) ∧ w'.cell? ⟨bx, 2, none⟩ = some (.int .i64 r.deep) ∧ w'.cell? ⟨bx, 3, none⟩ = some (.slice (some ⟨g4, 0, none⟩) r.cls.length r.cls.length) ∧ w'.cell? ⟨w.heap.size, 0, none⟩ = some (.int .i64 r.steps) ∧ w'.cell? ⟨w.heap.size, 1, none⟩ = some (.int .i64 r.nodes) ∧ w'.cell? ⟨w.heap.size, 2, none⟩ = some (.int .i64 r.deep) ∧ w'.cell? ⟨w.heap.size, 3, none⟩ = some (.slice A r.cls.length c))
    (first
      | (go_split_ands; refine ⟨?_, ?_, ?_, ?_, ?_, ?_, ?_, ?_⟩ <;> assumption))
    (first
      | (go_at_call 6; refine (toRules_any A r c _ (hr7.later (Below.refl _ _).drew (by omega)) hsm).mono ?_; rintro e w8 ⟨g8, rfl, hg8, hm8, hb8⟩; have q0 := (hb8.cell (p := ⟨bx, 0, none⟩) hx7lt).trans s0; have q1 := (hb8.cell (p := ⟨bx, 1, none⟩) hx7lt).trans s1; have q2 := (hb8.cell (p := ⟨bx, 2, none⟩) hx7lt).trans s2; have q3 := (hb8.cell (p := ⟨bx, 3, none⟩) hx7lt).trans s3; have q4 := (hb8.cell (p := ⟨w.heap.size, 0, none⟩) hl7).trans e0; have q5 := (hb8.cell (p := ⟨w.heap.size, 1, none⟩) hl7).trans e1; have q6 := (hb8.cell (p := ⟨w.heap.size, 2, none⟩) hl7).trans e2; have q7 := (hb8.cell (p := ⟨w.heap.size, 3, none⟩) hl7).trans e3; unfold ruVal; unfold ruCells)
      | (go_at_call 8; refine (eqRules_same _ _ r _ _ _ (hx7.later ((Below.refl bx _).drew.trans (hb8.mono (by simp; omega))) (by omega)) (RuAt.of_row HR.out hm8)).mono ?_; rintro e w9 ⟨rfl, hb9⟩; have z0 := (hb9.cell (p := ⟨bx, 0, none⟩) (Nat.lt_of_lt_of_le hx7lt hb8.size)).trans q0; have z1 := (hb9.cell (p := ⟨bx, 1, none⟩) (Nat.lt_of_lt_of_le hx7lt hb8.size)).trans q1; have z2 := (hb9.cell (p := ⟨bx, 2, none⟩) (Nat.lt_of_lt_of_le hx7lt hb8.size)).trans q2; have z3 := (hb9.cell (p := ⟨bx, 3, none⟩) (Nat.lt_of_lt_of_le hx7lt hb8.size)).trans q3; have z4 := (hb9.cell (p := ⟨w.heap.size, 0, none⟩) (Nat.lt_of_lt_of_le hl7 hb8.size)).trans q4; have z5 := (hb9.cell (p := ⟨w.heap.size, 1, none⟩) (Nat.lt_of_lt_of_le hl7 hb8.size)).trans q5; have z6 := (hb9.cell (p := ⟨w.heap.size, 2, none⟩) (Nat.lt_of_lt_of_le hl7 hb8.size)).trans q6; have z7 := (hb9.cell (p := ⟨w.heap.size, 3, none⟩) (Nat.lt_of_lt_of_le hl7 hb8.size)).trans q7))
  have hB9 : Below w.heap.size w w9 := hB6.trans (((Below.refl _ w6).drew.trans (hb8.mono (by simp; omega))).trans (hb9.mono (by have := hb8.size; simp at this; omega)))
  go_wp2
  go_ret
  exact ⟨rfl, hB9⟩
set_option maxHeartbeats 1000000 in
theorem exVR_big (A : Option Addr) (r : Ru) (c : Nat) (w : World) (hr : RuAt w w.heap.size A r) (hs : szI r.cls.length 1048576 < 0) :
    Calls Try.prog 3 #[ruVal r A c] w fun e w' => e = .returned (.bool true) ∧ Below w.heap.size w w' := by
  have hB0 : Below w.heap.size w (w.alloc (.cells (ruCells r A c) 24)) := (Below.refl _ _).alloc (Nat.le_refl _) _
  have hnl := hr.c.len
  clear hr
  have HC := hide fun W => szRules_any A r c 1048576 W (by omega) (by omega) hnl
  unfold ruVal at *
  unfold ruCells at *
  go_enter Try.func3, Try.ntmps3
  go_wp2_with fail
  refine (HC.out _).mono ?_
  rintro e w1 ⟨rfl, hb1⟩
  clear HC
  generalize szI r.cls.length 1048576 = sz at hs ⊢
  have hd : decide (sz < 0) = true := by simp; omega
  go_wp2
  go_ret
  exact ⟨rfl, hB0.trans (hb1.mono hB0.size)⟩
theorem exVR_any (A : Option Addr) (r : Ru) (c : Nat) (w : World) (hr : RuAt w w.heap.size A r) :
    Calls Try.prog 3 #[ruVal r A c] w fun e w' => e = .returned (.bool true) ∧ Below w.heap.size w w' := by
  by_cases hs : 0 ≤ szI r.cls.length 1048576
  · exact exVR_small A r c w hr hs
  · exact exVR_big A r c w hr (by omega)
end Go.Proofs.Ytaolnnjcpnhghab
