/-
  Lemmas, several texts in one: ShX, ExSO.
-/
import Derived.Test.YtanicidkmfoooabDoorPjAi
import Derived.Test.YtanicidkmfoooabDoorRunS
import Derived.Test.YtanicidkmfoooabDoorPjAr
import Derived.Deep.Cut
import Derived.Test.YtanicidkmfoooabDoorPjAp
import Derived.Test.YtanicidkmfoooabDoorArg
import Derived.Test.YtanicidkmfoooabDoorPjAq
import Derived.Test.YtanicidkmfoooabDoorPjAo
import Derived.Test.YtanicidkmfoooabDoorPjAj
import Derived.Deep.RegionHeld3
namespace Go.Proofs.YtanicidkmfoooabDoor
open Go.RowKit
set_option linter.unusedVariables false
set_option linter.unusedSimpArgs false

set_option maxRecDepth 100000 in
set_option maxHeartbeats 1000000 in
theorem specShapesOf_any (A : Option Addr) (os : List Od) (c : Nat) (w : World) (h : OpsAt w w.heap.size A os) :
    Calls Tryd.prog 5 #[.slice A os.length c] w (GivesSO w os) := by
  have hB0 := (Below.refl w.heap.size w).alloc (Nat.le_refl _) (.cells zero5 27)
  have L0 := Lies.new w zero5 27
  have h1 := h.later hB0 (Nat.le_refl _)
  clear h
  unfold zero5 at hB0 L0 h1
  by_cases hok : OpsOk os
  · have ht := hide (tf_true hok)
    have Hall := hide hok.2
    have HE1 := hide (shOf_yes hok)
    have HE2 := hide (shN_yes hok)
    clear hok
    go_enter Tryd.func5, Tryd.ntmps5
    go_wp2_with fail
    generalize w.alloc (.cells #[.slice none 0 0, .slice none 0 0, .slice none 0 0, .slice none 0 0, .bool false] 27) = W at hB0 L0 h1 ⊢
    refine (specValidOps_any A os c W h1).mono ?_
    rintro e w1 ⟨rfl, hb1⟩
    rw [ht.out]
    have l2 := L0.below hb1 L0.lt
    have h2 := h1.later hb1 (Nat.le_refl _)
    have hB1 := hB0.trans (hb1.mono hB0.size)
    clear hb1 hB0 L0 h1
    go_wp2_with fail
    have HC := runShapes_any A os c w1 h2 Hall.out
    obtain ⟨R, hR⟩ : ∃ R, R = runShp Shp.new os := ⟨_, rfl⟩
    rw [← hR] at HC HE1 HE2
    clear hR
    obtain ⟨s, m⟩ := R
    refine HC.mono ?_
    clear HC
    rintro e w2 ⟨p, rfl, ho, hb2⟩
    simp only [shVal, shCells]
    have l3 := l2.below hb2 l2.lt
    have hlt := l2.lt
    obtain ⟨⟨r0, r1, r2, r3, r4, f0, f1, f2, f3, f4, s0, s1, s2, s3, s4⟩, _⟩ := l3.set5 (.slice p.K s.kinds.length p.c1) (.slice p.F s.full.length p.c2) (.slice p.S s.stack.length p.c3) (.slice p.M s.memo.length p.c4) (.bool s.done)
    have HO := hide (ho.set5 (v0 := .slice p.K s.kinds.length p.c1) (v1 := .slice p.F s.full.length p.c2) (v2 := .slice p.S s.stack.length p.c3) (v3 := .slice p.M s.memo.length p.c4) (v4 := .bool s.done) (ho.off (.inl hlt)))
    have HB := hide (set5_below (v0 := .slice p.K s.kinds.length p.c1) (v1 := .slice p.F s.full.length p.c2) (v2 := .slice p.S s.stack.length p.c3) (v3 := .slice p.M s.memo.length p.c4) (v4 := .bool s.done) (hB1.trans (hb2.mono hB1.size)) (Nat.le_refl _))
    have hsz := hB1.size
    clear l2 l3 ho hb2 hB1 h2
    go_wp2
    refine bodyPost_ret (v := .tuple #[.agg #[.slice p.K s.kinds.length p.c1, .slice p.F s.full.length p.c2, .slice p.S s.stack.length p.c3, .slice p.M s.memo.length p.c4, .bool s.done], .int .i64 (m : Int)]) (by simp [results, Tryd.results5, go_sem, s0, s1, s2, s3, s4]) rfl ?_
    show GivesSO w os _ _
    unfold GivesSO
    rw [HE1.out, HE2.out]
    exact ⟨p, rfl, HO.out.mono hsz, HB.out⟩
  · have ht := hide (tf_false hok)
    have HE1 := hide (shOf_no hok)
    have HE2 := hide (shN_no hok)
    clear hok
    go_enter Tryd.func5, Tryd.ntmps5
    go_wp2_with fail
    generalize w.alloc (.cells #[.slice none 0 0, .slice none 0 0, .slice none 0 0, .slice none 0 0, .bool false] 27) = W at hB0 L0 h1 ⊢
    refine (specValidOps_any A os c W h1).mono ?_
    rintro e w1 ⟨rfl, hb1⟩
    rw [ht.out]
    have l2 := L0.below hb1 L0.lt
    have hB1 := hB0.trans (hb1.mono hB0.size)
    obtain ⟨⟨r0, r1, r2, r3, r4, f0, f1, f2, f3, f4, s0, s1, s2, s3, s4⟩, _⟩ := l2.set5 (.slice none 0 0) (.slice none 0 0) (.slice none 0 0) (.slice none 0 0) (.bool false)
    have HB := hide (set5_below (v0 := .slice none 0 0) (v1 := .slice none 0 0) (v2 := .slice none 0 0) (v3 := .slice none 0 0) (v4 := .bool false) hB1 (Nat.le_refl _))
    clear hb1 hB0 L0 h1 l2 hB1
    go_wp2
    refine bodyPost_ret (v := .tuple #[.agg #[.slice none 0 0, .slice none 0 0, .slice none 0 0, .slice none 0 0, .bool false], .int .i64 (-1)]) (by simp [results, Tryd.results5, go_sem, s0, s1, s2, s3, s4]) rfl ?_
    show GivesSO w os _ _
    unfold GivesSO
    rw [HE1.out, HE2.out]
    exact ⟨ShPtr.nil, rfl, ShOwn.nothing _ _, HB.out⟩

end Go.Proofs.YtanicidkmfoooabDoor

namespace Go.Proofs.YtanicidkmfoooabDoor
open Go.RowKit Go.Maps
set_option linter.unusedVariables false

set_option maxRecDepth 100000 in
set_option maxHeartbeats 4000000 in
theorem exSO_small (A0 : Option Addr) (os0 : List Od) (c0 : Nat) (w : World) (hr0 : OpsAt w w.heap.size A0 os0) (hF : FormsAt w w.heap.size) (hN : NeedsAt w w.heap.size) (hs : 0 ≤ szI os0.length 1048576) :
    Calls Tryd.prog 3 #[.slice A0 os0.length c0] w fun e w' => e = .returned (.bool true) ∧ Below w.heap.size w w' := by
  have hsm0 : os0.length ≤ 1048576 := by unfold szI at hs; split at hs <;> omega
  have Hwf0 := hide hr0.wf
  have hnl0 := hr0.len
  have Hr0 := hide hr0
  have HhF := hide hF
  have HhN := hide hN
  clear hr0 hF hN
  go_enter Tryd.func3, Tryd.ntmps3
  have kW := Keeps.at_ 0 w
  go_wp2_with fail
  refine (szOpS_any A0 os0.length c0 _ w (by omega) (by omega) hnl0).mono ?_
  rintro e w' ⟨rfl, rfl⟩
  generalize szI os0.length 1048576 = sz at hs ⊢
  have hd : decide (sz < 0) = false := by simp; omega
  go_wp2_with fail
  refine (toOpS_any A0 os0 c0 w (Hr0.out.later kW.bel (Nat.le_refl _)) hsm0).mono ?_
  rintro e w1 ⟨rfl, hm, hb⟩
  have xs_0 := OpsAt.of_row hm hm.lt Hwf0.out hnl0
  have Hxs_0 := hide hm
  have sw1 : w.heap.size ≤ w1.heap.size := hb.size
  replace kW := kW.step hb
  clear hm hb
  go_wp2_with fail
  refine (specShapesOf_any _ os0 _ w1 xs_0).mono ?_
  rintro e w2 ⟨pW0, rfl, hoW0, hb⟩
  have hfew0 : ShFew (shOf os0) := shOf_few os0
  generalize hRd0 : shOf os0 = R0 at hoW0 hfew0 ⊢
  generalize hvd1 : shN os0 = v1 at hoW0 hfew0 ⊢
  have HRd0 := hide hRd0
  clear hRd0
  have Hvd1 := hide hvd1
  clear hvd1
  have hfk0 := hfew0.k
  have hff0 := hfew0.f
  have hft0 := hfew0.t
  have hfm0 := hfew0.m
  have HFW0 := hide hfew0
  clear hfew0
  have hvv1 : (v1 != v1) = false := by simp
  have sw2 : w1.heap.size ≤ w2.heap.size := hb.size
  replace kW := kW.step hb
  clear xs_0 Hxs_0
  clear hb
  have HoW0 := hide hoW0
  have kW0 := Keeps.at_ w1.heap.size w2
  clear hoW0
  have hbx : Below w2.heap.size w2 (w2.alloc (.cells #[.slice pW0.K R0.kinds.length pW0.c1, .slice pW0.F R0.full.length pW0.c2, .slice pW0.S R0.stack.length pW0.c3, .slice pW0.M R0.memo.length pW0.c4, .bool R0.done] 27)) := (Below.refl _ _).alloc (Nat.le_refl _) _
  have lx := Lies.new w2 #[.slice pW0.K R0.kinds.length pW0.c1, .slice pW0.F R0.full.length pW0.c2, .slice pW0.S R0.stack.length pW0.c3, .slice pW0.M R0.memo.length pW0.c4, .bool R0.done] 27
  replace kW := kW.step hbx
  replace kW0 := kW0.step hbx
  have sx : w2.heap.size < (w2.alloc (.cells #[.slice pW0.K R0.kinds.length pW0.c1, .slice pW0.F R0.full.length pW0.c2, .slice pW0.S R0.stack.length pW0.c3, .slice pW0.M R0.memo.length pW0.c4, .bool R0.done] 27)).heap.size := by simp
  have yW0 := lx.cell 0
  have yW1 := lx.cell 1
  have yW2 := lx.cell 2
  have yW3 := lx.cell 3
  have yW4 := lx.cell 4
  simp at yW0 yW1 yW2 yW3 yW4
  go_wp2_with fail
  generalize w2.alloc (.cells #[.slice pW0.K R0.kinds.length pW0.c1, .slice pW0.F R0.full.length pW0.c2, .slice pW0.S R0.stack.length pW0.c3, .slice pW0.M R0.memo.length pW0.c4, .bool R0.done] 27) = w3 at lx sx hbx yW0 yW1 yW2 yW3 yW4 kW kW0  ⊢
  have HLxW := hide lx
  have sw3 : w2.heap.size < w3.heap.size := sx
  have kxW := Keeps.at_ w2.heap.size w3
  clear lx sx hbx
  clear yW0 yW1 yW2 yW3 yW4
  refine (toOpS_any A0 os0 c0 w3 (Hr0.out.later kW.bel (Nat.le_refl _)) hsm0).mono ?_
  rintro e w4 ⟨rfl, hm, hb⟩
  have sw4 : w3.heap.size ≤ w4.heap.size := hb.size
  replace kW := kW.step hb
  replace kW0 := kW0.step hb
  replace kxW := kxW.step hb
  clear hb
  have HX0 := hide hm
  have hx0 : w3.heap.size < w4.heap.size := hm.lt
  clear hm
  have kX0 := Keeps.at_ 0 w4
  have lq := HLxW.out.keep kxW (by omega) (by omega)
  have yW0 := lq.cell 0
  have yW1 := lq.cell 1
  have yW2 := lq.cell 2
  have yW3 := lq.cell 3
  have yW4 := lq.cell 4
  simp at yW0 yW1 yW2 yW3 yW4
  clear lq
  go_wp2_with fail
  clear yW0 yW1 yW2 yW3 yW4
  have HI := implShapesOf_any (some ⟨w3.heap.size, 0, none⟩) os0 os0.length w4 (show OpsAt w4 w4.heap.size (some ⟨w3.heap.size, 0, none⟩) os0 from (OpsAt.of_row (rowIs_keep HX0.out kX0 (Nat.zero_le _) (by omega)) (by have := kX0.size; omega) Hwf0.out hnl0)) (HhF.out.later kW.bel (Nat.le_refl _)) (HhN.out.later kW.bel (Nat.le_refl _))
  unfold GivesSO at HI
  rw [HRd0.out, Hvd1.out] at HI
  refine HI.mono ?_
  clear HI
  rintro e w5 ⟨pG0, rfl, hoG0, hb⟩
  have sw5 : w4.heap.size ≤ w5.heap.size := hb.size
  replace kW := kW.step hb
  replace kW0 := kW0.step hb
  replace kxW := kxW.step hb
  replace kX0 := kX0.step hb
  clear hb
  have HoG0 := hide hoG0
  have kG0 := Keeps.at_ w4.heap.size w5
  clear hoG0
  have hbx : Below w5.heap.size w5 (w5.alloc (.cells #[.slice pG0.K R0.kinds.length pG0.c1, .slice pG0.F R0.full.length pG0.c2, .slice pG0.S R0.stack.length pG0.c3, .slice pG0.M R0.memo.length pG0.c4, .bool R0.done] 27)) := (Below.refl _ _).alloc (Nat.le_refl _) _
  have lx := Lies.new w5 #[.slice pG0.K R0.kinds.length pG0.c1, .slice pG0.F R0.full.length pG0.c2, .slice pG0.S R0.stack.length pG0.c3, .slice pG0.M R0.memo.length pG0.c4, .bool R0.done] 27
  have lq := HLxW.out.keep kxW (by omega) (by omega)
  have yW0 := lq.cell 0
  have yW1 := lq.cell 1
  have yW2 := lq.cell 2
  have yW3 := lq.cell 3
  have yW4 := lq.cell 4
  simp at yW0 yW1 yW2 yW3 yW4
  clear lq
  replace kW := kW.step hbx
  replace kW0 := kW0.step hbx
  replace kxW := kxW.step hbx
  replace kX0 := kX0.step hbx
  replace kG0 := kG0.step hbx
  replace yW0 := (hbx.cell (p := ⟨w2.heap.size, 0, none⟩) (by show w2.heap.size < _; omega)).trans yW0
  replace yW1 := (hbx.cell (p := ⟨w2.heap.size, 1, none⟩) (by show w2.heap.size < _; omega)).trans yW1
  replace yW2 := (hbx.cell (p := ⟨w2.heap.size, 2, none⟩) (by show w2.heap.size < _; omega)).trans yW2
  replace yW3 := (hbx.cell (p := ⟨w2.heap.size, 3, none⟩) (by show w2.heap.size < _; omega)).trans yW3
  replace yW4 := (hbx.cell (p := ⟨w2.heap.size, 4, none⟩) (by show w2.heap.size < _; omega)).trans yW4
  have sx : w5.heap.size < (w5.alloc (.cells #[.slice pG0.K R0.kinds.length pG0.c1, .slice pG0.F R0.full.length pG0.c2, .slice pG0.S R0.stack.length pG0.c3, .slice pG0.M R0.memo.length pG0.c4, .bool R0.done] 27)).heap.size := by simp
  have yG0 := lx.cell 0
  have yG1 := lx.cell 1
  have yG2 := lx.cell 2
  have yG3 := lx.cell 3
  have yG4 := lx.cell 4
  simp at yG0 yG1 yG2 yG3 yG4
  go_wp2_with fail
  generalize w5.alloc (.cells #[.slice pG0.K R0.kinds.length pG0.c1, .slice pG0.F R0.full.length pG0.c2, .slice pG0.S R0.stack.length pG0.c3, .slice pG0.M R0.memo.length pG0.c4, .bool R0.done] 27) = w6 at lx sx hbx yG0 yG1 yG2 yG3 yG4 kW kW0 kxW kX0 kG0 yW0 yW1 yW2 yW3 yW4 ⊢
  have HLxG := hide lx
  have sw6 : w5.heap.size < w6.heap.size := sx
  have kxG := Keeps.at_ w5.heap.size w6
  clear lx sx hbx
  clear yW0 yW1 yW2 yW3 yW4 yG0 yG1 yG2 yG3 yG4
  have iG := ((HoG0.out.keepS kG0 (Nat.le_refl _) rfl).atF HFW0.out)
  have iW := ((HoW0.out.keepS kW0 (Nat.le_refl _) rfl).atF HFW0.out)
  refine (eqShapes_same pG0 pW0 R0 w6 iG iW).mono ?_
  rintro e w7 ⟨rfl, hb⟩
  have sw7 : w6.heap.size ≤ w7.heap.size := hb.size
  replace kW := kW.step hb
  replace kW0 := kW0.step hb
  replace kxW := kxW.step hb
  replace kX0 := kX0.step hb
  replace kG0 := kG0.step hb
  replace kxG := kxG.step hb
  clear hb iG iW
  have lq := HLxW.out.keep kxW (by omega) (by omega)
  have yW0 := lq.cell 0
  have yW1 := lq.cell 1
  have yW2 := lq.cell 2
  have yW3 := lq.cell 3
  have yW4 := lq.cell 4
  simp at yW0 yW1 yW2 yW3 yW4
  clear lq
  have lq := HLxG.out.keep kxG (by omega) (by omega)
  have yG0 := lq.cell 0
  have yG1 := lq.cell 1
  have yG2 := lq.cell 2
  have yG3 := lq.cell 3
  have yG4 := lq.cell 4
  simp at yG0 yG1 yG2 yG3 yG4
  clear lq
  go_wp2_with fail
  clear yW0 yW1 yW2 yW3 yW4 yG0 yG1 yG2 yG3 yG4
  refine (toOpS_any A0 os0 c0 w7 (Hr0.out.later kW.bel (Nat.le_refl _)) hsm0).mono ?_
  rintro e w8 ⟨rfl, hm, hb⟩
  have hy := OpsAt.of_row hm hm.lt Hwf0.out hnl0
  have sw8 : w7.heap.size ≤ w8.heap.size := hb.size
  replace kW := kW.step hb
  replace kW0 := kW0.step hb
  replace kxW := kxW.step hb
  replace kX0 := kX0.step hb
  replace kG0 := kG0.step hb
  replace kxG := kxG.step hb
  clear hm hb
  have hx := (show OpsAt w8 w8.heap.size (some ⟨w3.heap.size, 0, none⟩) os0 from (OpsAt.of_row (rowIs_keep HX0.out kX0 (Nat.zero_le _) (by omega)) (by have := kX0.size; omega) Hwf0.out hnl0))
  go_wp2_with fail
  refine (eqOpS_any _ _ os0 os0 _ _ w8 hx hy).mono ?_
  rintro e w9 ⟨rfl, hb⟩
  have hself : decide (os0 = os0) = true := by simp
  rw [hself]
  have sw9 : w8.heap.size ≤ w9.heap.size := hb.size
  replace kW := kW.step hb
  replace kW0 := kW0.step hb
  replace kxW := kxW.step hb
  replace kX0 := kX0.step hb
  replace kG0 := kG0.step hb
  replace kxG := kxG.step hb
  clear hb hx hy hself
  replace kX0 := kX0.mono (lo' := w3.heap.size) (hi' := w4.heap.size) (by omega) (Nat.le_refl _)
  have lq := HLxW.out.keep kxW (by omega) (by omega)
  have yW0 := lq.cell 0
  have yW1 := lq.cell 1
  have yW2 := lq.cell 2
  have yW3 := lq.cell 3
  have yW4 := lq.cell 4
  simp at yW0 yW1 yW2 yW3 yW4
  clear lq
  have lq := HLxG.out.keep kxG (by omega) (by omega)
  have yG0 := lq.cell 0
  have yG1 := lq.cell 1
  have yG2 := lq.cell 2
  have yG3 := lq.cell 3
  have yG4 := lq.cell 4
  simp at yG0 yG1 yG2 yG3 yG4
  clear lq
  go_wp2_with fail
  clear yW0 yW1 yW2 yW3 yW4 yG0 yG1 yG2 yG3 yG4
  refine (markOpS_row (w3.heap.size) _ os0.length os0.length _ 1 w9 (rowIs_keep HX0.out kX0 (Nat.le_refl _) (by omega)) os0.length (Nat.le_refl _) (by omega) (by omega) (by omega)).mono ?_
  rintro e w10 ⟨rfl, _, hO⟩
  have sw10 : w9.heap.size ≤ w10.heap.size := by rw [hO.size]; exact Nat.le_refl _
  replace kW := kW.only hO (by omega)
  replace kW0 := kW0.only hO (by omega)
  replace kxW := kxW.only hO (by omega)
  replace kG0 := kG0.only hO (by omega)
  replace kxG := kxG.only hO (by omega)
  have hk0m : 0 ≤ 1 + 2 * (os0.length : Int) ∧ 1 + 2 * (os0.length : Int) ≤ 4000000000000 := by constructor <;> omega
  generalize 1 + 2 * (os0.length : Int) = k0m at hk0m ⊢
  clear hO
  clear kX0
  have hdk : decide (k0m < 0) = false := by simp; omega
  have lq := HLxW.out.keep kxW (by omega) (by omega)
  have yW0 := lq.cell 0
  have yW1 := lq.cell 1
  have yW2 := lq.cell 2
  have yW3 := lq.cell 3
  have yW4 := lq.cell 4
  simp at yW0 yW1 yW2 yW3 yW4
  clear lq
  have lq := HLxG.out.keep kxG (by omega) (by omega)
  have yG0 := lq.cell 0
  have yG1 := lq.cell 1
  have yG2 := lq.cell 2
  have yG3 := lq.cell 3
  have yG4 := lq.cell 4
  simp at yG0 yG1 yG2 yG3 yG4
  clear lq
  go_wp2_with fail
  clear yW0 yW1 yW2 yW3 yW4 yG0 yG1 yG2 yG3 yG4
  have iG := ((HoG0.out.keepS kG0 (Nat.le_refl _) rfl).atF HFW0.out)
  have iW := ((HoW0.out.keepS kW0 (Nat.le_refl _) rfl).atF HFW0.out)
  refine (eqShapes_same pG0 pW0 R0 w10 iG iW).mono ?_
  rintro e w11 ⟨rfl, hb⟩
  have sw11 : w10.heap.size ≤ w11.heap.size := hb.size
  replace kW := kW.step hb
  replace kW0 := kW0.step hb
  replace kxW := kxW.step hb
  replace kG0 := kG0.step hb
  replace kxG := kxG.step hb
  clear hb iG iW
  have lq := HLxW.out.keep kxW (by omega) (by omega)
  have yW0 := lq.cell 0
  have yW1 := lq.cell 1
  have yW2 := lq.cell 2
  have yW3 := lq.cell 3
  have yW4 := lq.cell 4
  simp at yW0 yW1 yW2 yW3 yW4
  clear lq
  have lq := HLxG.out.keep kxG (by omega) (by omega)
  have yG0 := lq.cell 0
  have yG1 := lq.cell 1
  have yG2 := lq.cell 2
  have yG3 := lq.cell 3
  have yG4 := lq.cell 4
  simp at yG0 yG1 yG2 yG3 yG4
  clear lq
  go_wp2_with fail
  clear yW0 yW1 yW2 yW3 yW4 yG0 yG1 yG2 yG3 yG4
  refine (markShapes_own _ w4.heap.size w5.heap.size pG0 R0 1 w11 (HoG0.out.keepS kG0 (Nat.le_refl _) rfl) HoG0.out.inn (by omega) (by omega) (by omega) (by omega) (by omega) (by omega)).mono ?_
  rintro e w12 ⟨rfl, hoM0, hS⟩
  have sw12 : w11.heap.size ≤ w12.heap.size := hS.size
  replace kW := kW.save hS (by omega)
  replace kW0 := kW0.save hS (by omega)
  replace kxW := kxW.save hS (by omega)
  replace kxG := kxG.save hS (by omega)
  clear hS
  clear kG0
  have HoM0 := hide hoM0
  clear hoM0
  have kM0 := Keeps.at_ 0 w12
  have hm0 : 0 ≤ shEnd 1 R0 ∧ shEnd 1 R0 ≤ 1048000 := by unfold shEnd; constructor <;> omega
  generalize hmd0 : shEnd 1 R0 = m0 at hm0 ⊢
  have HMD0 := hide hmd0
  clear hmd0
  have lq := HLxW.out.keep kxW (by omega) (by omega)
  have yW0 := lq.cell 0
  have yW1 := lq.cell 1
  have yW2 := lq.cell 2
  have yW3 := lq.cell 3
  have yW4 := lq.cell 4
  simp at yW0 yW1 yW2 yW3 yW4
  clear lq
  have lq := HLxG.out.keep kxG (by omega) (by omega)
  have yG0 := lq.cell 0
  have yG1 := lq.cell 1
  have yG2 := lq.cell 2
  have yG3 := lq.cell 3
  have yG4 := lq.cell 4
  simp at yG0 yG1 yG2 yG3 yG4
  clear lq
  go_wp2_with fail
  clear yW0 yW1 yW2 yW3 yW4 yG0 yG1 yG2 yG3 yG4
  have HH := hide (heldShapes_of _ pG0 R0 1 w12 (HoM0.out.keepS kM0 (Nat.zero_le _) rfl) (by omega) (by omega) HFW0.out)
  rw [HMD0.out] at HH
  refine HH.out.mono ?_
  clear HH
  rintro e w13 ⟨rfl, hb⟩
  have sw13 : w12.heap.size ≤ w13.heap.size := hb.size
  replace kW := kW.step hb
  replace kW0 := kW0.step hb
  replace kxW := kxW.step hb
  replace kxG := kxG.step hb
  replace kM0 := kM0.step hb
  clear hb
  have hdq0 : decide (m0 < 0) = false := by simp; omega
  have hne : (m0 != m0) = false := by simp
  go_wp2_with fail
  refine (toOpS_any A0 os0 c0 w13 (Hr0.out.later kW.bel (Nat.le_refl _)) hsm0).mono ?_
  rintro e w14 ⟨rfl, hm, hb⟩
  have y_0 := OpsAt.of_row hm hm.lt Hwf0.out hnl0
  have Hy_0 := hide hm
  have sw14 : w13.heap.size ≤ w14.heap.size := hb.size
  replace kW := kW.step hb
  replace kW0 := kW0.step hb
  replace kxW := kxW.step hb
  replace kxG := kxG.step hb
  replace kM0 := kM0.step hb
  clear hm hb
  have lq := HLxW.out.keep kxW (by omega) (by omega)
  have yW0 := lq.cell 0
  have yW1 := lq.cell 1
  have yW2 := lq.cell 2
  have yW3 := lq.cell 3
  have yW4 := lq.cell 4
  simp at yW0 yW1 yW2 yW3 yW4
  clear lq
  have lq := HLxG.out.keep kxG (by omega) (by omega)
  have yG0 := lq.cell 0
  have yG1 := lq.cell 1
  have yG2 := lq.cell 2
  have yG3 := lq.cell 3
  have yG4 := lq.cell 4
  simp at yG0 yG1 yG2 yG3 yG4
  clear lq
  go_wp2_with fail
  clear yW0 yW1 yW2 yW3 yW4 yG0 yG1 yG2 yG3 yG4
  have HI := implShapesOf_any (some ⟨w13.heap.size, 0, none⟩) os0 os0.length w14 y_0 (HhF.out.later kW.bel (Nat.le_refl _)) (HhN.out.later kW.bel (Nat.le_refl _))
  unfold GivesSO at HI
  rw [HRd0.out, Hvd1.out] at HI
  refine HI.mono ?_
  clear HI
  rintro e w15 ⟨pH0, rfl, hoH0, hb⟩
  have sw15 : w14.heap.size ≤ w15.heap.size := hb.size
  replace kW := kW.step hb
  replace kW0 := kW0.step hb
  replace kxW := kxW.step hb
  replace kxG := kxG.step hb
  replace kM0 := kM0.step hb
  clear y_0 Hy_0
  clear hb
  have HoH0 := hide hoH0
  have kH0 := Keeps.at_ w14.heap.size w15
  clear hoH0
  have hbx : Below w15.heap.size w15 (w15.alloc (.cells #[.slice pH0.K R0.kinds.length pH0.c1, .slice pH0.F R0.full.length pH0.c2, .slice pH0.S R0.stack.length pH0.c3, .slice pH0.M R0.memo.length pH0.c4, .bool R0.done] 27)) := (Below.refl _ _).alloc (Nat.le_refl _) _
  have lx := Lies.new w15 #[.slice pH0.K R0.kinds.length pH0.c1, .slice pH0.F R0.full.length pH0.c2, .slice pH0.S R0.stack.length pH0.c3, .slice pH0.M R0.memo.length pH0.c4, .bool R0.done] 27
  have lq := HLxW.out.keep kxW (by omega) (by omega)
  have yW0 := lq.cell 0
  have yW1 := lq.cell 1
  have yW2 := lq.cell 2
  have yW3 := lq.cell 3
  have yW4 := lq.cell 4
  simp at yW0 yW1 yW2 yW3 yW4
  clear lq
  have lq := HLxG.out.keep kxG (by omega) (by omega)
  have yG0 := lq.cell 0
  have yG1 := lq.cell 1
  have yG2 := lq.cell 2
  have yG3 := lq.cell 3
  have yG4 := lq.cell 4
  simp at yG0 yG1 yG2 yG3 yG4
  clear lq
  replace kW := kW.step hbx
  replace kW0 := kW0.step hbx
  replace kxW := kxW.step hbx
  replace kxG := kxG.step hbx
  replace kM0 := kM0.step hbx
  replace kH0 := kH0.step hbx
  replace yW0 := (hbx.cell (p := ⟨w2.heap.size, 0, none⟩) (by show w2.heap.size < _; omega)).trans yW0
  replace yW1 := (hbx.cell (p := ⟨w2.heap.size, 1, none⟩) (by show w2.heap.size < _; omega)).trans yW1
  replace yW2 := (hbx.cell (p := ⟨w2.heap.size, 2, none⟩) (by show w2.heap.size < _; omega)).trans yW2
  replace yW3 := (hbx.cell (p := ⟨w2.heap.size, 3, none⟩) (by show w2.heap.size < _; omega)).trans yW3
  replace yW4 := (hbx.cell (p := ⟨w2.heap.size, 4, none⟩) (by show w2.heap.size < _; omega)).trans yW4
  replace yG0 := (hbx.cell (p := ⟨w5.heap.size, 0, none⟩) (by show w5.heap.size < _; omega)).trans yG0
  replace yG1 := (hbx.cell (p := ⟨w5.heap.size, 1, none⟩) (by show w5.heap.size < _; omega)).trans yG1
  replace yG2 := (hbx.cell (p := ⟨w5.heap.size, 2, none⟩) (by show w5.heap.size < _; omega)).trans yG2
  replace yG3 := (hbx.cell (p := ⟨w5.heap.size, 3, none⟩) (by show w5.heap.size < _; omega)).trans yG3
  replace yG4 := (hbx.cell (p := ⟨w5.heap.size, 4, none⟩) (by show w5.heap.size < _; omega)).trans yG4
  have sx : w15.heap.size < (w15.alloc (.cells #[.slice pH0.K R0.kinds.length pH0.c1, .slice pH0.F R0.full.length pH0.c2, .slice pH0.S R0.stack.length pH0.c3, .slice pH0.M R0.memo.length pH0.c4, .bool R0.done] 27)).heap.size := by simp
  have yH0 := lx.cell 0
  have yH1 := lx.cell 1
  have yH2 := lx.cell 2
  have yH3 := lx.cell 3
  have yH4 := lx.cell 4
  simp at yH0 yH1 yH2 yH3 yH4
  go_wp2_with fail
  generalize w15.alloc (.cells #[.slice pH0.K R0.kinds.length pH0.c1, .slice pH0.F R0.full.length pH0.c2, .slice pH0.S R0.stack.length pH0.c3, .slice pH0.M R0.memo.length pH0.c4, .bool R0.done] 27) = w16 at lx sx hbx yH0 yH1 yH2 yH3 yH4 kW kW0 kxW kxG kM0 kH0 yW0 yW1 yW2 yW3 yW4 yG0 yG1 yG2 yG3 yG4 ⊢
  have HLxH := hide lx
  have sw16 : w15.heap.size < w16.heap.size := sx
  have kxH := Keeps.at_ w15.heap.size w16
  clear lx sx hbx
  clear yW0 yW1 yW2 yW3 yW4 yG0 yG1 yG2 yG3 yG4 yH0 yH1 yH2 yH3 yH4
  have iG := ((HoH0.out.keepS kH0 (Nat.le_refl _) rfl).atF HFW0.out)
  have iW := ((HoW0.out.keepS kW0 (Nat.le_refl _) rfl).atF HFW0.out)
  refine (eqShapes_same pH0 pW0 R0 w16 iG iW).mono ?_
  rintro e w17 ⟨rfl, hb⟩
  have sw17 : w16.heap.size ≤ w17.heap.size := hb.size
  replace kW := kW.step hb
  replace kW0 := kW0.step hb
  replace kxW := kxW.step hb
  replace kxG := kxG.step hb
  replace kM0 := kM0.step hb
  replace kH0 := kH0.step hb
  replace kxH := kxH.step hb
  clear hb iG iW
  have lq := HLxW.out.keep kxW (by omega) (by omega)
  have yW0 := lq.cell 0
  have yW1 := lq.cell 1
  have yW2 := lq.cell 2
  have yW3 := lq.cell 3
  have yW4 := lq.cell 4
  simp at yW0 yW1 yW2 yW3 yW4
  clear lq
  have lq := HLxG.out.keep kxG (by omega) (by omega)
  have yG0 := lq.cell 0
  have yG1 := lq.cell 1
  have yG2 := lq.cell 2
  have yG3 := lq.cell 3
  have yG4 := lq.cell 4
  simp at yG0 yG1 yG2 yG3 yG4
  clear lq
  have lq := HLxH.out.keep kxH (by omega) (by omega)
  have yH0 := lq.cell 0
  have yH1 := lq.cell 1
  have yH2 := lq.cell 2
  have yH3 := lq.cell 3
  have yH4 := lq.cell 4
  simp at yH0 yH1 yH2 yH3 yH4
  clear lq
  go_wp2_with fail
  clear yW0 yW1 yW2 yW3 yW4 yG0 yG1 yG2 yG3 yG4 yH0 yH1 yH2 yH3 yH4
  have HH := hide (heldShapes_of _ pG0 R0 1 w17 (HoM0.out.keepS kM0 (Nat.zero_le _) rfl) (by omega) (by omega) HFW0.out)
  rw [HMD0.out] at HH
  refine HH.out.mono ?_
  clear HH
  rintro e w18 ⟨rfl, hb⟩
  have sw18 : w17.heap.size ≤ w18.heap.size := hb.size
  replace kW := kW.step hb
  replace kW0 := kW0.step hb
  replace kxW := kxW.step hb
  replace kxG := kxG.step hb
  replace kM0 := kM0.step hb
  replace kH0 := kH0.step hb
  replace kxH := kxH.step hb
  clear hb
  have lq := HLxW.out.keep kxW (by omega) (by omega)
  have yW0 := lq.cell 0
  have yW1 := lq.cell 1
  have yW2 := lq.cell 2
  have yW3 := lq.cell 3
  have yW4 := lq.cell 4
  simp at yW0 yW1 yW2 yW3 yW4
  clear lq
  have lq := HLxG.out.keep kxG (by omega) (by omega)
  have yG0 := lq.cell 0
  have yG1 := lq.cell 1
  have yG2 := lq.cell 2
  have yG3 := lq.cell 3
  have yG4 := lq.cell 4
  simp at yG0 yG1 yG2 yG3 yG4
  clear lq
  have lq := HLxH.out.keep kxH (by omega) (by omega)
  have yH0 := lq.cell 0
  have yH1 := lq.cell 1
  have yH2 := lq.cell 2
  have yH3 := lq.cell 3
  have yH4 := lq.cell 4
  simp at yH0 yH1 yH2 yH3 yH4
  clear lq
  have HBf := hide (kW.bel)
  go_wp2
  go_ret
  exact ⟨rfl, HBf.out⟩

set_option maxHeartbeats 1000000 in
theorem exSO_big (A0 : Option Addr) (os0 : List Od) (c0 : Nat) (w : World) (hr0 : OpsAt w w.heap.size A0 os0) (hF : FormsAt w w.heap.size) (hN : NeedsAt w w.heap.size) (hs : szI os0.length 1048576 < 0) :
    Calls Tryd.prog 3 #[.slice A0 os0.length c0] w fun e w' => e = .returned (.bool true) ∧ Below w.heap.size w w' := by
  have hnl := hr0.len
  clear hr0 hF hN
  go_enter Tryd.func3, Tryd.ntmps3
  go_wp2_with fail
  refine (szOpS_any A0 os0.length c0 1048576 w (by omega) (by omega) hnl).mono ?_
  rintro e w' ⟨rfl, rfl⟩
  generalize szI os0.length 1048576 = sz at hs ⊢
  have hd : decide (sz < 0) = true := by simp; omega
  go_wp2
  go_ret
  exact ⟨rfl, Below.refl _ _⟩

theorem exSO_any (A0 : Option Addr) (os0 : List Od) (c0 : Nat) (w : World) (hr0 : OpsAt w w.heap.size A0 os0) (hF : FormsAt w w.heap.size) (hN : NeedsAt w w.heap.size) :
    Calls Tryd.prog 3 #[.slice A0 os0.length c0] w fun e w' => e = .returned (.bool true) ∧ Below w.heap.size w w' := by
  by_cases hs : 0 ≤ szI os0.length 1048576
  · exact exSO_small A0 os0 c0 w hr0 hF hN  hs
  · exact exSO_big A0 os0 c0 w hr0 hF hN  (by omega)

end Go.Proofs.YtanicidkmfoooabDoor
