/-
  The walk of the law FnExactCodeOf: for every graph it returns true and writes nothing that was there.
-/
import Derived.Test.YtfhmmdiicnfjbacHeldI
import Derived.Test.YtfhmmdiicnfjbacCodX
import Derived.Test.YtfhmmdiicnfjbacMarkG
import Derived.Test.YtfhmmdiicnfjbacTo
import Derived.Test.YtfhmmdiicnfjbacEq
import Derived.Deep.RegionHeld3
namespace Go.Proofs.Ytfhmmdiicnfjbac
open Go.RowKit Go.Maps
set_option linter.unusedVariables false


set_option maxRecDepth 100000 in
set_option maxHeartbeats 1000000 in
theorem exCO_small (A : Option Addr) (ns : List Nd) (c : Nat) (r : Int) (w : World) (hr : NdsAt w w.heap.size A ns) (hs : 0 ≤ szNs ns 1048576) :
    Calls Try.prog 3 #[.agg #[.slice A ns.length c, .int .i64 r]] w fun e w' => e = .returned (.bool true) ∧ Below w.heap.size w w' := by
  have hsm := small_of_sz (by omega) (by omega) hs
  have hwf := hr.wf
  have Hwf := hide hwf
  have hB0 : Below w.heap.size w (w.alloc (.cells #[.slice A ns.length c, .int .i64 r] 24)) := (Below.refl _ _).alloc (Nat.le_refl _) _
  have l1 := Lies.new w #[.slice A ns.length c, .int .i64 r] 24
  have hr1 := hr.below hB0
  have hnl := hr.len
  clear hr hwf
  go_enter Try.func3, Try.ntmps3
  go_wp2_with fail
  generalize w.alloc (.cells #[.slice A ns.length c, .int .i64 r] 24) = W at hB0 l1 hr1 ⊢
  have hW := l1.lt
  refine (szGraph_any A ns c r 1048576 W (by omega) (by omega) (hr1.more (by omega))).mono ?_
  rintro e w1 ⟨rfl, hb1⟩
  generalize szNs ns 1048576 = sz at hs ⊢
  have hd : decide (sz < 0) = false := by simp; omega
  have l2 := l1.below hb1 hW
  have hr2 := hr1.below (hb1.mono (by omega))
  have hB1 := hB0.trans (hb1.mono (by omega))
  have e0 := l2.cell 0
  have e1 := l2.cell 1
  simp at e0 e1
  clear hB0 l1 hr1 hb1
  go_wp2_with fail
  refine (toGraph_any A ns c r w1 (hr2.more (by have := l2.lt; omega)) hsm).mono ?_
  rintro e w2 ⟨rfl, hm2, hb2⟩
  have l3 := l2.below hb2 l2.lt
  have hr3 := hr2.below (hb2.mono (by have := l2.lt; omega))
  have hB2 := hB1.trans (hb2.mono (by have := l2.lt; omega))
  have hx2 := hm2.at_ Hwf.out hnl
  have e0 := l3.cell 0
  have e1 := l3.cell 1
  simp at e0 e1
  clear hB1 l2 hr2 hb2
  go_wp2_with fail
  refine (specCodeOf_any _ ns _ r w2 hx2).mono ?_
  rintro e w3 ⟨Aw, cw, rfl, hoW, hb3⟩
  have hRf : (codeOf ns r).length ≤ 300 := codeOf_few Hwf.out
  have h64 : ∀ x ∈ codeOf ns r, In64 x := codeOf_64 Hwf.out
  generalize hRd : codeOf ns r = R at hoW hRf h64 ⊢
  have HRd := hide hRd
  have H64 := hide h64
  clear hRd h64
  have l4 := l3.below hb3 l3.lt
  have hr4 := hr3.below (hb3.mono (by have := l3.lt; omega))
  have hB3 := hB2.trans (hb3.mono (by have := l3.lt; omega))
  have e0 := l4.cell 0
  have e1 := l4.cell 1
  simp at e0 e1
  clear hB2 l3 hr3 hb3 hm2 hx2
  go_wp2_with fail
  refine (toGraph_any A ns c r w3 (hr4.more (by have := l4.lt; omega)) hsm).mono ?_
  rintro e w4 ⟨rfl, hm4, hb4⟩
  have l5 := l4.below hb4 l4.lt
  have hr5 := hr4.below (hb4.mono (by have := l4.lt; omega))
  have hB4 := hB3.trans (hb4.mono (by have := l4.lt; omega))
  have hx4 := hm4.at_ Hwf.out hnl
  have hM4 := hm4.markable
  have hg4 : w3.heap.size + 3 < w4.heap.size := by obtain ⟨f, hf⟩ := hm4.row; exact hf.lt
  have HbW : Hid (∀ g, blockOf Aw = some g → g < w3.heap.size) := fun g hg => (hoW.blocks g hg).2
  have hoW4 := hoW.below hb4
  have hW3 : w.heap.size < w3.heap.size := l4.lt
  clear hB3 l4 hr4 e0 e1 hm4 hoW
  go_wp2_with fail
  have lx5 := Lies.new w4 #[.slice (some ⟨w3.heap.size + 3, 0, none⟩) ns.length ns.length, .int .i64 r] 30
  have hbx : Below w4.heap.size w4 (w4.alloc (.cells #[.slice (some ⟨w3.heap.size + 3, 0, none⟩) ns.length ns.length, .int .i64 r] 30)) := (Below.refl _ _).alloc (Nat.le_refl _) _
  have hx5 := hx4.below hbx
  have l6 := l5.below hbx l5.lt
  have hr6 := hr5.below (hbx.mono (by have := l5.lt; omega))
  have hB5 := hB4.trans (hbx.mono (by have := l5.lt; omega))
  have hwlt := l5.lt
  have hoW5 := hoW4.below hbx
  clear hx4 l5 hr5 hB4 hb4 hoW4
  generalize hbxd : w4.heap.size = bx at lx5 hx5 hwlt hbx hM4 hg4 ⊢
  have HM4 := hide hM4
  clear hM4
  generalize w4.alloc (.cells #[.slice (some ⟨w3.heap.size + 3, 0, none⟩) ns.length ns.length, .int .i64 r] 30) = w5 at lx5 hx5 l6 hr6 hB5 hbx hoW5 ⊢
  have hbxlt := lx5.lt
  have hbx5 : bx < w5.heap.size := lx5.lt
  have HI := implCodeOf_any (some ⟨w3.heap.size + 3, 0, none⟩) ns ns.length r w5 (hx5.more (by omega))
  rw [HRd.out] at HI
  refine HI.mono ?_
  clear HI
  rintro e w6 ⟨Ag, cg, rfl, hoG, hb6⟩
  have HbG : Hid (∀ g, blockOf Ag = some g → w5.heap.size ≤ g ∧ g < w6.heap.size) := fun g hg => hoG.blocks g hg
  have lx7 := lx5.below hb6 lx5.lt
  have hx7 := hx5.below (hb6.mono (by omega))
  have l7 := l6.below hb6 l6.lt
  have hr7 := hr6.below (hb6.mono (by have := l6.lt; omega))
  have hB6 := hB5.trans (hb6.mono (by have := l6.lt; omega))
  have hb46 := hbx.trans (hb6.mono (by omega))
  have hoW6 := hoW5.below hb6
  clear lx5 hx5 l6 hr6 hB5 hb6 hbxlt hbx hoW5
  have iG := hoG.ints H64.out (by omega)
  have iW := hoW6.ints H64.out (by omega)
  go_wp2_with fail
  refine (eqIntS_any Ag Aw R R cg cw w6 iG iW).mono ?_
  rintro e w7 ⟨rfl, hb7⟩
  have hself : decide (R = R) = true := by simp
  rw [hself]
  have s6 := lx7.lt
  have lx8 := lx7.below hb7 lx7.lt
  have hx8 := hx7.below (hb7.mono (by omega))
  have l8 := l7.below hb7 l7.lt
  have hr8 := hr7.below (hb7.mono (by have := l7.lt; omega))
  have hB7 := hB6.trans (hb7.mono (by have := l7.lt; omega))
  have hb47 := hb46.trans (hb7.mono (by omega))
  have hoW7 := hoW6.below hb7
  have hoG7 := hoG.below hb7
  have hsz67 : w6.heap.size ≤ w7.heap.size := hb7.size
  clear lx7 hx7 l7 hr7 hB6 hb7 hb46 hoW6 hoG iG iW
  have s0 := lx8.cell 0
  have s1 := lx8.cell 1
  have e0 := l8.cell 0
  have e1 := l8.cell 1
  simp at s0 s1 e0 e1
  have hl8 := l8.lt
  have hx8lt := lx8.lt
  have hnn : (decide (ns = ns) && decide (r = r)) = true := by simp
  go_wp2_with fail
  go_region_held3 (fun w' => w'.cell? ⟨bx, 0, none⟩ = some (.slice (some ⟨w3.heap.size + 3, 0, none⟩) ns.length ns.length) ∧ w'.cell? ⟨bx, 1, none⟩ = some (.int .i64 r) ∧ w'.cell? ⟨w.heap.size, 0, none⟩ = some (.slice A ns.length c) ∧ w'.cell? ⟨w.heap.size, 1, none⟩ = some (.int .i64 r))
    (first
      | (go_split_ands; refine ⟨?_, ?_, ?_, ?_⟩ <;> assumption))
    (first
      | (go_at_call 6; refine (toGraph_any A ns c r _ (hr8.later (Below.refl _ _).drew (by omega)) hsm).mono ?_; rintro e w8 ⟨rfl, hm8, hb8⟩; have q0 := (hb8.cell (p := ⟨bx, 0, none⟩) hx8lt).trans s0; have q1 := (hb8.cell (p := ⟨bx, 1, none⟩) hx8lt).trans s1; have q2 := (hb8.cell (p := ⟨w.heap.size, 0, none⟩) hl8).trans e0; have q3 := (hb8.cell (p := ⟨w.heap.size, 1, none⟩) hl8).trans e1)
      | (go_at_call 9; refine (eqGraph_any _ _ ns ns r r _ _ _ (hx8.later ((Below.refl bx _).drew.trans (hb8.mono (by simp; omega))) (by omega)) (hm8.at_ Hwf.out hnl)).mono ?_; rintro e w9 ⟨rfl, hb9⟩; have z0 := (hb9.cell (p := ⟨bx, 0, none⟩) (Nat.lt_of_lt_of_le hx8lt hb8.size)).trans q0; have z1 := (hb9.cell (p := ⟨bx, 1, none⟩) (Nat.lt_of_lt_of_le hx8lt hb8.size)).trans q1; have z2 := (hb9.cell (p := ⟨w.heap.size, 0, none⟩) (Nat.lt_of_lt_of_le hl8 hb8.size)).trans q2; have z3 := (hb9.cell (p := ⟨w.heap.size, 1, none⟩) (Nat.lt_of_lt_of_le hl8 hb8.size)).trans q3))
  have hb79 : Below w7.heap.size w7 w9 := ((Below.refl _ w7).drew.trans (hb8.mono (by simp))).trans (hb9.mono (by have := hb8.size; simp at this; omega))
  clear hb8 hb9 hm8 q0 q1 q2 q3 s0 s1 e0 e1
  clear hself hnn
  have lx9 := lx8.below hb79 hx8lt
  have l9 := l8.below hb79 hl8
  have hr9 := hr8.below (hb79.mono (by omega))
  have hB9 := hB7.trans (hb79.mono (by omega))
  have hoW9 := hoW7.below hb79
  have hoG9 := hoG7.below hb79
  have hb49 := hb47.trans (hb79.mono (by omega))
  have hM9 : Markable w9 (w3.heap.size + 3) (w3.heap.size + 3) bx 48 3 ns := HM4.out.kept (hb49.block _ hg4) (fun k _ hk => hb49.block k hk)
  have hsz79 : w7.heap.size ≤ w9.heap.size := hb79.size
  clear lx8 hx8 l8 hr8 hB7 hoW7 hoG7 hb47 hb49 hb79
  go_wp2_with fail
  refine (markGraph_any (w3.heap.size + 3) (w3.heap.size + 3) bx ns ns.length r 1 w9 hM9 hsm (by omega) (by omega) (Nat.le_refl _) hg4 (by omega)).mono ?_
  rintro e w10 ⟨⟨k1, hk1, rfl⟩, hS⟩
  have hdk : decide (k1 < 0) = false := by simp; omega
  have hbl := hS.below (by omega)
  have l10 := l9.below hbl (by omega)
  have hr10 := hr9.below (hbl.mono (by omega))
  have hB10 := hB9.trans (hbl.mono (by omega))
  have hoW10 := hoW9.save hS (fun g hg => .inl (by have := HbW.out g hg; omega))
  have hoG10 := hoG9.save hS (fun g hg => .inr (by have := HbG.out g hg; omega))
  have hsz910 : w9.heap.size ≤ w10.heap.size := hS.size
  clear hM9 hS hbl l9 hr9 hB9 hoW9 hoG9 z0 z1 z2 z3
  have iG := hoG10.ints H64.out (by omega)
  have iW := hoW10.ints H64.out (by omega)
  go_wp2_with fail
  refine (eqIntS_any Ag Aw R R cg cw w10 iG iW).mono ?_
  rintro e w11 ⟨rfl, hb11⟩
  have hself : decide (R = R) = true := by simp
  rw [hself]
  have l11 := l10.below hb11 l10.lt
  have hr11 := hr10.below (hb11.mono (by have := l10.lt; omega))
  have hB11 := hB10.trans (hb11.mono (by have := l10.lt; omega))
  have hoW11 := hoW10.below hb11
  have hoG11 := hoG10.below hb11
  have hsz1011 : w10.heap.size ≤ w11.heap.size := hb11.size
  clear l10 hr10 hB10 hoW10 hoG10 hb11 iG iW hself
  go_wp2_with fail
  refine (markIntS_own _ Ag cg R 1 w11 hoG11 (by omega) (by omega) (by omega)).mono ?_
  rintro e w12 ⟨rfl, hoG12, hO⟩
  have ho := hO w5.heap.size w6.heap.size HbG.out
  have hbl := ho.below
  have l12 := l11.below hbl (by omega)
  have hr12 := hr11.below (hbl.mono (by omega))
  have hB12 := hB11.trans (hbl.mono (by omega))
  have hoW12 := hoW11.only ho (fun g hg => .inl (by have := HbW.out g hg; omega))
  have hsz1112 : w11.heap.size ≤ w12.heap.size := by rw [ho.size]; exact Nat.le_refl _
  clear hO ho hbl l11 hr11 hB11 hoW11 hoG11
  have hml := marks_len 1 R.length
  have hm64 : ∀ x ∈ marks 1 R.length, In64 x := fun x hx => by
    obtain ⟨j, hj, rfl⟩ := List.mem_map.1 hx
    have := List.mem_range.1 hj
    constructor <;> omega
  have Hm64 := hide hm64
  clear hm64
  have iG := hoG12.ints Hm64.out (by omega)
  go_wp2_with fail
  refine (heldIntS_any Ag R.length cg 1 w12 iG (by omega) (by omega) (by omega)).mono ?_
  rintro e w' ⟨rfl, rfl⟩
  have hmp : 0 ≤ 1 + (R.length : Int) := by omega
  generalize hmd : 1 + (R.length : Int) = m at hmp ⊢
  have HMD := hide hmd
  clear hmd
  have hdq : decide (m < 0) = false := by simp; omega
  have hne : (m != m) = false := by simp
  clear iG
  have e0 := l12.cell 0
  have e1 := l12.cell 1
  simp at e0 e1
  have hl12 := l12.lt
  go_wp2_with fail
  refine (toGraph_any A ns c r w12 (hr12.more (by omega)) hsm).mono ?_
  rintro e w13 ⟨rfl, hm13, hb13⟩
  have hx13 := hm13.at_ Hwf.out hnl
  have hB13 := hB12.trans (hb13.mono (by omega))
  have hoW13 := hoW12.below hb13
  have hoG13 := hoG12.below hb13
  clear hm13 hb13 l12 hr12 hB12 hoW12 hoG12 e0 e1
  go_wp2_with fail
  have HI := implCodeOf_any (some ⟨w12.heap.size + 3, 0, none⟩) ns ns.length r w13 hx13
  rw [HRd.out] at HI
  refine HI.mono ?_
  clear HI
  rintro e w14 ⟨Ah, ch, rfl, hoH, hb14⟩
  have hB14 := hB13.trans (hb14.mono hB13.size)
  have hoW14 := hoW13.below hb14
  have hoG14 := hoG13.below hb14
  clear hb14 hB13 hoW13 hoG13 hx13
  have iH := hoH.ints H64.out (by omega)
  have iW := hoW14.ints H64.out (by omega)
  go_wp2_with fail
  refine (eqIntS_any Ah Aw R R ch cw w14 iH iW).mono ?_
  rintro e w15 ⟨rfl, hb15⟩
  have hself : decide (R = R) = true := by simp
  rw [hself]
  have hB15 := hB14.trans (hb15.mono hB14.size)
  have hoG15 := hoG14.below hb15
  clear hb15 hB14 hoG14 hoW14 hoH iH iW hself
  have iG := hoG15.ints Hm64.out (by omega)
  go_wp2_with fail
  refine (heldIntS_any Ag R.length cg 1 w15 iG (by omega) (by omega) (by omega)).mono ?_
  rintro e w' ⟨rfl, rfl⟩
  rw [HMD.out]
  clear iG hoG15
  go_wp2
  go_ret
  exact ⟨rfl, hB15⟩

set_option maxHeartbeats 1000000 in
theorem exCO_big (A : Option Addr) (ns : List Nd) (c : Nat) (r : Int) (w : World) (hr : NdsAt w w.heap.size A ns) (hs : szNs ns 1048576 < 0) :
    Calls Try.prog 3 #[.agg #[.slice A ns.length c, .int .i64 r]] w fun e w' => e = .returned (.bool true) ∧ Below w.heap.size w w' := by
  have hB0 : Below w.heap.size w (w.alloc (.cells #[.slice A ns.length c, .int .i64 r] 24)) := (Below.refl _ _).alloc (Nat.le_refl _) _
  have hr1 := hr.later hB0 (Nat.le_refl _)
  clear hr
  go_enter Try.func3, Try.ntmps3
  go_wp2_with fail
  refine (szGraph_any A ns c r 1048576 _ (by omega) (by omega) hr1).mono ?_
  rintro e w1 ⟨rfl, hb1⟩
  generalize szNs ns 1048576 = sz at hs ⊢
  have hd : decide (sz < 0) = true := by simp; omega
  go_wp2
  go_ret
  exact ⟨rfl, hB0.trans (hb1.mono hB0.size)⟩

theorem exCO_any (A : Option Addr) (ns : List Nd) (c : Nat) (r : Int) (w : World) (hr : NdsAt w w.heap.size A ns) :
    Calls Try.prog 3 #[.agg #[.slice A ns.length c, .int .i64 r]] w fun e w' => e = .returned (.bool true) ∧ Below w.heap.size w w' := by
  by_cases hs : 0 ≤ szNs ns 1048576
  · exact exCO_small A ns c r w hr hs
  · exact exCO_big A ns c r w hr (by omega)

end Go.Proofs.Ytfhmmdiicnfjbac
