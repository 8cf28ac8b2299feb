/-
  The walk of the law FnExactClassesOf: at every argument it returns true and writes nothing that was there.
-/
import Derived.Test.YtjpikloecadhkaaClaX
import Derived.Test.YtjpikloecadhkaaPjAe
import Derived.Test.YtjpikloecadhkaaKeep
import Derived.Test.YtjpikloecadhkaaPjAd
import Derived.Test.YtjpikloecadhkaaSz
import Derived.Test.YtjpikloecadhkaaTo
import Derived.Test.YtjpikloecadhkaaEq
import Derived.Test.YtjpikloecadhkaaPjAf
import Derived.Test.YtjpikloecadhkaaStX
import Derived.Test.YtjpikloecadhkaaEqS
import Derived.Test.YtjpikloecadhkaaMarkI
import Derived.Deep.RegionHeld3
namespace Go.Proofs.Ytjpikloecadhkaa
open Go.RowKit Go.Maps
set_option linter.unusedVariables false

set_option maxRecDepth 100000 in
set_option maxHeartbeats 4000000 in
theorem exCA_small (A0 : Option Addr) (ns0 : List Nd) (c0 : Nat) (r0 : Int) (w : World) (hr0 : NdsAt w w.heap.size A0 ns0) (hs : 0 ≤ szNs ns0 1048576) :
    Calls Try.prog 3 #[.agg #[.slice A0 ns0.length c0, .int .i64 r0]] w fun e w' => e = .returned (.bool true) ∧ Below w.heap.size w w' := by
  have hsm0 := small_of_sz (by omega) (by omega) hs
  have Hwf0 := hide hr0.wf
  have hnl0 := hr0.len
  have hB0 : Below w.heap.size w (w.alloc (.cells #[.slice A0 ns0.length c0, .int .i64 r0] 24)) := ((Below.refl _ _).alloc (Nat.le_refl _) _)
  have l0 := (Lies.new w #[.slice A0 ns0.length c0, .int .i64 r0] 24)
  have hr0W := hr0.later hB0 (Nat.le_refl _)
  clear hr0
  go_enter Try.func3, Try.ntmps3
  go_wp2_with fail
  generalize w.alloc (.cells #[.slice A0 ns0.length c0, .int .i64 r0] 24) = W at hB0 l0 hr0W ⊢
  have HL0 := hide l0
  have hlt0 := l0.lt
  have HB0 := hide hB0
  have hs0 : w.heap.size ≤ W.heap.size := hB0.size
  have Hr0 := hide hr0W
  clear hB0 l0 hr0W
  have kW := Keeps.at_ 0 W
  refine (szGraph_any A0 ns0 c0 r0 _ W (by omega) (by omega) (Hr0.out.later kW.bel (Nat.le_refl _))).mono ?_
  rintro e w1 ⟨rfl, hb⟩
  have sw1 : W.heap.size ≤ w1.heap.size := hb.size
  replace kW := kW.step hb
  clear hb
  generalize szNs ns0 1048576 = sz at hs ⊢
  have hd : decide (sz < 0) = false := by simp; omega
  have lq := HL0.out.keep kW (Nat.zero_le _) (by omega)
  have e0_0 := lq.cell 0
  have e0_1 := lq.cell 1
  simp at e0_0 e0_1
  clear lq
  go_wp2_with fail
  clear e0_0 e0_1
  refine (toGraph_any A0 ns0 c0 r0 w1 (Hr0.out.later kW.bel (Nat.le_refl _)) hsm0).mono ?_
  rintro e w2 ⟨rfl, hm, hb⟩
  have xs_0 := hm.at_ Hwf0.out hnl0
  have Hxs_0 := hide hm
  have sw2 : w1.heap.size ≤ w2.heap.size := hb.size
  replace kW := kW.step hb
  clear hm hb
  go_wp2_with fail
  refine (specClassesOf_any _ ns0 _ r0 w2 xs_0).mono ?_
  rintro e w3 ⟨AW0, cW0, rfl, hoW0, hb⟩
  have hRf0 : (clsOf ns0 r0).length ≤ 12 := clsOf_few
  have h640 : ∀ x ∈ clsOf ns0 r0, In64 x := clsOf_64
  generalize hRd0 : clsOf ns0 r0 = R0 at hoW0 hRf0 h640 ⊢
  have HRd0 := hide hRd0
  clear hRd0
  have H64_0 := hide h640
  clear h640
  have sw3 : w2.heap.size ≤ w3.heap.size := hb.size
  replace kW := kW.step hb
  clear xs_0 Hxs_0
  clear hb
  have HoW0 := hide hoW0
  have kW0 := Keeps.at_ w2.heap.size w3
  clear hoW0
  have lq := HL0.out.keep kW (Nat.zero_le _) (by omega)
  have e0_0 := lq.cell 0
  have e0_1 := lq.cell 1
  simp at e0_0 e0_1
  clear lq
  go_wp2_with fail
  clear e0_0 e0_1
  refine (toGraph_any A0 ns0 c0 r0 w3 (Hr0.out.later kW.bel (Nat.le_refl _)) hsm0).mono ?_
  rintro e w4 ⟨rfl, hm, hb⟩
  have sw4 : w3.heap.size ≤ w4.heap.size := hb.size
  replace kW := kW.step hb
  replace kW0 := kW0.step hb
  clear hb
  have hg0 : w3.heap.size + 3 < w4.heap.size := by obtain ⟨f, hf⟩ := hm.row; exact hf.lt
  have X := StX.make (r := r0) hm Hwf0.out hnl0
  have hbx : Below w4.heap.size w4 (w4.alloc (.cells #[.slice (some ⟨w3.heap.size + 3, 0, none⟩) ns0.length ns0.length, .int .i64 r0] 30)) := (Below.refl _ _).alloc (Nat.le_refl _) _
  have lq := HL0.out.keep kW (Nat.zero_le _) (by omega)
  have e0_0 := lq.cell 0
  have e0_1 := lq.cell 1
  simp at e0_0 e0_1
  clear lq
  replace kW := kW.step hbx
  replace kW0 := kW0.step hbx
  replace e0_0 := (hbx.cell (p := ⟨w.heap.size, 0, none⟩) (by show w.heap.size < _; omega)).trans e0_0
  replace e0_1 := (hbx.cell (p := ⟨w.heap.size, 1, none⟩) (by show w.heap.size < _; omega)).trans e0_1
  have sx : w4.heap.size < (w4.alloc (.cells #[.slice (some ⟨w3.heap.size + 3, 0, none⟩) ns0.length ns0.length, .int .i64 r0] 30)).heap.size := by simp
  obtain ⟨yx00, yx01⟩ := X.cells
  have HX0 := hide X
  clear hm X
  go_wp2_with fail
  generalize w4.alloc (.cells #[.slice (some ⟨w3.heap.size + 3, 0, none⟩) ns0.length ns0.length, .int .i64 r0] 30) = w5 at HX0 sx hbx yx00 yx01 kW kW0 e0_0 e0_1 ⊢
  have sw5 : w4.heap.size < w5.heap.size := sx
  have HLx0 := hide HX0.out.lx
  have kX0 := Keeps.at_ 0 w5
  clear sx hbx
  clear e0_0 e0_1 yx00 yx01
  have HI := implClassesOf_any (some ⟨w3.heap.size + 3, 0, none⟩) ns0 ns0.length r0 w5 (show NdsAt w5 w5.heap.size (some ⟨w3.heap.size + 3, 0, none⟩) ns0 from ((HX0.out.hx.below (kX0.bel.mono (by omega))).more (by have := kX0.size; omega))) (Nat.le_refl _)
  rw [HRd0.out] at HI
  refine HI.mono ?_
  clear HI
  rintro e w6 ⟨AG0, cG0, rfl, hoG0, hb⟩
  have sw6 : w5.heap.size ≤ w6.heap.size := hb.size
  replace kW := kW.step hb
  replace kW0 := kW0.step hb
  replace kX0 := kX0.step hb
  clear hb
  have HoG0 := hide hoG0
  have kG0 := Keeps.at_ w5.heap.size w6
  clear hoG0
  have lq := HL0.out.keep kW (Nat.zero_le _) (by omega)
  have e0_0 := lq.cell 0
  have e0_1 := lq.cell 1
  simp at e0_0 e0_1
  clear lq
  have lq := HLx0.out.keep kX0 (by omega) (by omega)
  have yx00 := lq.cell 0
  have yx01 := lq.cell 1
  simp at yx00 yx01
  clear lq
  go_wp2_with fail
  clear e0_0 e0_1 yx00 yx01
  have iG := ((HoG0.out.keepK kG0 (Nat.le_refl _) rfl).ints H64_0.out (by omega))
  have iW := ((HoW0.out.keepK kW0 (Nat.le_refl _) rfl).ints H64_0.out (by omega))
  refine (eqIntS_any AG0 AW0 R0 R0 cG0 cW0 w6 iG iW).mono ?_
  rintro e w7 ⟨rfl, hb⟩
  have hself : decide (R0 = R0) = true := by simp
  rw [hself]
  have sw7 : w6.heap.size ≤ w7.heap.size := hb.size
  replace kW := kW.step hb
  replace kW0 := kW0.step hb
  replace kX0 := kX0.step hb
  replace kG0 := kG0.step hb
  clear hb iG iW hself
  have lq := HL0.out.keep kW (Nat.zero_le _) (by omega)
  have e0_0 := lq.cell 0
  have e0_1 := lq.cell 1
  simp at e0_0 e0_1
  clear lq
  have lq := HLx0.out.keep kX0 (by omega) (by omega)
  have yx00 := lq.cell 0
  have yx01 := lq.cell 1
  simp at yx00 yx01
  clear lq
  have hnn : (decide (ns0 = ns0) && decide (r0 = r0)) = true := by simp
  have hcx : w4.heap.size < w7.heap.size := by omega
  have hca : w.heap.size < w7.heap.size := by omega
  have hrX := (show NdsAt w7 w7.heap.size (some ⟨w3.heap.size + 3, 0, none⟩) ns0 from ((HX0.out.hx.below (kX0.bel.mono (by omega))).more (by have := kX0.size; omega)))
  have hrA := (Hr0.out.later kW.bel (Nat.le_refl _))
  have H1 := hide hrX
  have H2 := hide hrA
  clear hrX hrA
  go_wp2_with fail
  go_region_held3 (fun w' => w'.cell? ⟨w4.heap.size, 0, none⟩ = some (.slice (some ⟨w3.heap.size + 3, 0, none⟩) ns0.length ns0.length) ∧ w'.cell? ⟨w4.heap.size, 1, none⟩ = some (.int .i64 r0) ∧ w'.cell? ⟨w.heap.size, 0, none⟩ = some (.slice A0 ns0.length c0) ∧ w'.cell? ⟨w.heap.size, 1, none⟩ = some (.int .i64 r0))
    (first
      | (go_split_ands; refine ⟨?_, ?_, ?_, ?_⟩ <;> assumption))
    (first
      | (go_at_call 6; refine (toGraph_any A0 ns0 c0 r0 _ (H2.out.later (Below.refl _ _).drew (by omega)) hsm0).mono ?_; rintro e w8 ⟨rfl, hm8, hb8⟩; have q0 := (hb8.cell (p := ⟨w4.heap.size, 0, none⟩) hcx).trans yx00; have q1 := (hb8.cell (p := ⟨w4.heap.size, 1, none⟩) hcx).trans yx01; have q2 := (hb8.cell (p := ⟨w.heap.size, 0, none⟩) hca).trans e0_0; have q3 := (hb8.cell (p := ⟨w.heap.size, 1, none⟩) hca).trans e0_1)
      | (go_at_call 9; refine (eqGraph_any _ _ ns0 ns0 r0 r0 _ _ _ (H1.out.later ((Below.refl w7.heap.size w7).drew.trans (hb8.mono (Nat.le_refl _))) (Nat.le_refl _)) (hm8.at_ Hwf0.out hnl0)).mono ?_; rintro e w9 ⟨rfl, hb9⟩; have z0 := (hb9.cell (p := ⟨w4.heap.size, 0, none⟩) (Nat.lt_of_lt_of_le hcx hb8.size)).trans q0; have z1 := (hb9.cell (p := ⟨w4.heap.size, 1, none⟩) (Nat.lt_of_lt_of_le hcx hb8.size)).trans q1; have z2 := (hb9.cell (p := ⟨w.heap.size, 0, none⟩) (Nat.lt_of_lt_of_le hca hb8.size)).trans q2; have z3 := (hb9.cell (p := ⟨w.heap.size, 1, none⟩) (Nat.lt_of_lt_of_le hca hb8.size)).trans q3))
  have hb : Below w7.heap.size w7 w9 := ((Below.refl _ w7).drew.trans (hb8.mono (by simp))).trans (hb9.mono (by have := hb8.size; simp at this; omega))
  clear hb8 hb9 hm8 q0 q1 q2 q3 z0 z1 z2 z3 H1 H2 hcx hca
  clear e0_0 e0_1 yx00 yx01
  have sw9 : w7.heap.size ≤ w9.heap.size := hb.size
  replace kW := kW.step hb
  replace kW0 := kW0.step hb
  replace kX0 := kX0.step hb
  replace kG0 := kG0.step hb
  clear hb hnn
  replace kX0 := kX0.mono (lo' := w3.heap.size) (hi' := w5.heap.size) (by omega) (Nat.le_refl _)
  have lq := HL0.out.keep kW (Nat.zero_le _) (by omega)
  have e0_0 := lq.cell 0
  have e0_1 := lq.cell 1
  simp at e0_0 e0_1
  clear lq
  have lq := HLx0.out.keep kX0 (by omega) (by omega)
  have yx00 := lq.cell 0
  have yx01 := lq.cell 1
  simp at yx00 yx01
  clear lq
  go_wp2_with fail
  clear e0_0 e0_1 yx00 yx01
  refine (markGraph_any (w3.heap.size + 3) (w3.heap.size + 3) (w4.heap.size) ns0 ns0.length r0 1 w9 (HX0.out.hM.kept (kX0.block _ (by omega) (by omega)) (fun q h1 h2 => kX0.block q (by omega) (by omega))) hsm0 (by omega) (by omega) (Nat.le_refl _) (by omega) (by have := kX0.size; omega)).mono ?_
  rintro e w10 ⟨⟨k0m, hk0m, rfl⟩, hS⟩
  have sw10 : w9.heap.size ≤ w10.heap.size := hS.size
  replace kW := kW.save hS (by omega)
  replace kW0 := kW0.save hS (by omega)
  replace kG0 := kG0.save hS (by omega)
  clear hS
  clear kX0
  have hdk : decide (k0m < 0) = false := by simp; omega
  have lq := HL0.out.keep kW (Nat.zero_le _) (by omega)
  have e0_0 := lq.cell 0
  have e0_1 := lq.cell 1
  simp at e0_0 e0_1
  clear lq
  go_wp2_with fail
  clear e0_0 e0_1
  have iG := ((HoG0.out.keepK kG0 (Nat.le_refl _) rfl).ints H64_0.out (by omega))
  have iW := ((HoW0.out.keepK kW0 (Nat.le_refl _) rfl).ints H64_0.out (by omega))
  refine (eqIntS_any AG0 AW0 R0 R0 cG0 cW0 w10 iG iW).mono ?_
  rintro e w11 ⟨rfl, hb⟩
  have hself : decide (R0 = R0) = true := by simp
  rw [hself]
  have sw11 : w10.heap.size ≤ w11.heap.size := hb.size
  replace kW := kW.step hb
  replace kW0 := kW0.step hb
  replace kG0 := kG0.step hb
  clear hb iG iW hself
  have lq := HL0.out.keep kW (Nat.zero_le _) (by omega)
  have e0_0 := lq.cell 0
  have e0_1 := lq.cell 1
  simp at e0_0 e0_1
  clear lq
  go_wp2_with fail
  clear e0_0 e0_1
  refine (markIntS_own _ AG0 cG0 R0 1 w11 (HoG0.out.keepK kG0 (Nat.le_refl _) rfl) (by omega) (by omega) (by omega)).mono ?_
  rintro e w12 ⟨rfl, hoM0, hO⟩
  have ho := hO w5.heap.size w6.heap.size (fun g hg => HoG0.out.blocks g hg)
  have sw12 : w11.heap.size ≤ w12.heap.size := by rw [ho.size]; exact Nat.le_refl _
  replace kW := kW.only ho (by omega)
  replace kW0 := kW0.only ho (by omega)
  clear hO ho
  have Hm64_0 : Hid (∀ x ∈ marks 1 R0.length, In64 x) := hide fun x hx => by
    obtain ⟨q, hq, rfl⟩ := List.mem_map.1 hx
    have := List.mem_range.1 hq
    constructor <;> omega
  have hml0 := marks_len 1 R0.length
  clear kG0
  have HoM0 := hide hoM0
  clear hoM0
  have kM0 := Keeps.at_ 0 w12
  have hm0 : 0 ≤ 1 + (R0.length : Int) ∧ 1 + (R0.length : Int) ≤ 1048000 := by constructor <;> omega
  generalize hmd0 : 1 + (R0.length : Int) = m0 at hm0 ⊢
  have HMD0 := hide hmd0
  clear hmd0
  have lq := HL0.out.keep kW (Nat.zero_le _) (by omega)
  have e0_0 := lq.cell 0
  have e0_1 := lq.cell 1
  simp at e0_0 e0_1
  clear lq
  go_wp2_with fail
  clear e0_0 e0_1
  have iG := (HoM0.out.keepK kM0 (Nat.zero_le _) rfl).ints Hm64_0.out (by omega)
  have HH := hide (heldIntS_any AG0 R0.length cG0 1 w12 iG (by omega) (by omega) (by omega))
  rw [HMD0.out] at HH
  refine HH.out.mono ?_
  clear HH iG
  rintro e w' ⟨rfl, rfl⟩
  have hdq0 : decide (m0 < 0) = false := by simp; omega
  have hne : (m0 != m0) = false := by simp
  have lq := HL0.out.keep kW (Nat.zero_le _) (by omega)
  have e0_0 := lq.cell 0
  have e0_1 := lq.cell 1
  simp at e0_0 e0_1
  clear lq
  go_wp2_with fail
  clear e0_0 e0_1
  refine (toGraph_any A0 ns0 c0 r0 w12 (Hr0.out.later kW.bel (Nat.le_refl _)) hsm0).mono ?_
  rintro e w13 ⟨rfl, hm, hb⟩
  have y_0 := hm.at_ Hwf0.out hnl0
  have Hy_0 := hide hm
  have sw13 : w12.heap.size ≤ w13.heap.size := hb.size
  replace kW := kW.step hb
  replace kW0 := kW0.step hb
  replace kM0 := kM0.step hb
  clear hm hb
  have lq := HL0.out.keep kW (Nat.zero_le _) (by omega)
  have e0_0 := lq.cell 0
  have e0_1 := lq.cell 1
  simp at e0_0 e0_1
  clear lq
  go_wp2_with fail
  clear e0_0 e0_1
  have HI := implClassesOf_any (some ⟨w12.heap.size + 3, 0, none⟩) ns0 ns0.length r0 w13 y_0 (Nat.le_refl _)
  rw [HRd0.out] at HI
  refine HI.mono ?_
  clear HI
  rintro e w14 ⟨AH0, cH0, rfl, hoH0, hb⟩
  have sw14 : w13.heap.size ≤ w14.heap.size := hb.size
  replace kW := kW.step hb
  replace kW0 := kW0.step hb
  replace kM0 := kM0.step hb
  clear y_0 Hy_0
  clear hb
  have HoH0 := hide hoH0
  have kH0 := Keeps.at_ w13.heap.size w14
  clear hoH0
  have lq := HL0.out.keep kW (Nat.zero_le _) (by omega)
  have e0_0 := lq.cell 0
  have e0_1 := lq.cell 1
  simp at e0_0 e0_1
  clear lq
  go_wp2_with fail
  clear e0_0 e0_1
  have iG := ((HoH0.out.keepK kH0 (Nat.le_refl _) rfl).ints H64_0.out (by omega))
  have iW := ((HoW0.out.keepK kW0 (Nat.le_refl _) rfl).ints H64_0.out (by omega))
  refine (eqIntS_any AH0 AW0 R0 R0 cH0 cW0 w14 iG iW).mono ?_
  rintro e w15 ⟨rfl, hb⟩
  have hself : decide (R0 = R0) = true := by simp
  rw [hself]
  have sw15 : w14.heap.size ≤ w15.heap.size := hb.size
  replace kW := kW.step hb
  replace kW0 := kW0.step hb
  replace kM0 := kM0.step hb
  replace kH0 := kH0.step hb
  clear hb iG iW hself
  have lq := HL0.out.keep kW (Nat.zero_le _) (by omega)
  have e0_0 := lq.cell 0
  have e0_1 := lq.cell 1
  simp at e0_0 e0_1
  clear lq
  go_wp2_with fail
  clear e0_0 e0_1
  have iG := (HoM0.out.keepK kM0 (Nat.zero_le _) rfl).ints Hm64_0.out (by omega)
  have HH := hide (heldIntS_any AG0 R0.length cG0 1 w15 iG (by omega) (by omega) (by omega))
  rw [HMD0.out] at HH
  refine HH.out.mono ?_
  clear HH iG
  rintro e w' ⟨rfl, rfl⟩
  have lq := HL0.out.keep kW (Nat.zero_le _) (by omega)
  have e0_0 := lq.cell 0
  have e0_1 := lq.cell 1
  simp at e0_0 e0_1
  clear lq
  have HBf := hide (HB0.out.trans (kW.bel.mono hs0))
  go_wp2
  go_ret
  exact ⟨rfl, HBf.out⟩

set_option maxHeartbeats 1000000 in
theorem exCA_big (A0 : Option Addr) (ns0 : List Nd) (c0 : Nat) (r0 : Int) (w : World) (hr0 : NdsAt w w.heap.size A0 ns0) (hs : szNs ns0 1048576 < 0) :
    Calls Try.prog 3 #[.agg #[.slice A0 ns0.length c0, .int .i64 r0]] w fun e w' => e = .returned (.bool true) ∧ Below w.heap.size w w' := by
  have hB0 : Below w.heap.size w (w.alloc (.cells #[.slice A0 ns0.length c0, .int .i64 r0] 24)) := (Below.refl _ _).alloc (Nat.le_refl _) _
  have hrW := hr0.later hB0 (Nat.le_refl _)
  clear hr0
  go_enter Try.func3, Try.ntmps3
  go_wp2_with fail
  refine (szGraph_any A0 ns0 c0 r0 _ _ (by omega) (by omega) hrW).mono ?_
  rintro e w1 ⟨rfl, hb⟩
  have HB := hide (hB0.trans (hb.mono hB0.size))
  clear hb hB0 hrW
  generalize szNs ns0 1048576 = sz at hs ⊢
  have hd : decide (sz < 0) = true := by simp; omega
  go_wp2
  go_ret
  exact ⟨rfl, HB.out⟩

theorem exCA_any (A0 : Option Addr) (ns0 : List Nd) (c0 : Nat) (r0 : Int) (w : World) (hr0 : NdsAt w w.heap.size A0 ns0) :
    Calls Try.prog 3 #[.agg #[.slice A0 ns0.length c0, .int .i64 r0]] w fun e w' => e = .returned (.bool true) ∧ Below w.heap.size w w' := by
  by_cases hs : 0 ≤ szNs ns0 1048576
  · exact exCA_small A0 ns0 c0 r0 w hr0   hs
  · exact exCA_big A0 ns0 c0 r0 w hr0   (by omega)

end Go.Proofs.Ytjpikloecadhkaa
