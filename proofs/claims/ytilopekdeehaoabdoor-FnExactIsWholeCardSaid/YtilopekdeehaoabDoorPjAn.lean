/-
  Lemmas, several texts in one: IwS, ExIW.
-/
import Derived.Test.YtilopekdeehaoabDoorRunS
import Derived.Test.YtilopekdeehaoabDoorPjAg
import Derived.Test.YtilopekdeehaoabDoorPjAe
import Derived.Test.YtilopekdeehaoabDoorPjAm
import Derived.Test.YtilopekdeehaoabDoorPjAl
import Derived.Test.YtilopekdeehaoabDoorPjAh
import Derived.Deep.RegionHeld3
namespace Go.Proofs.YtilopekdeehaoabDoor
open Go.RowKit
set_option linter.unusedVariables false

set_option maxRecDepth 100000 in
set_option maxHeartbeats 1000000 in
theorem specIsWhole_any (A : Option Addr) (os : List Od) (c : Nat) (w : World) (h : OpsAt w w.heap.size A os) :
    Calls Tryd.prog 5 #[.slice A os.length c] w fun e w' => e = .returned (.bool (tf (Whole os))) ∧ Below w.heap.size w w' := by
  by_cases hok : OpsOk os
  · have ht := hide (tf_true hok)
    have hl := hok.1
    have Hall := hide hok.2
    have HV := hide (show tf (Whole os) = tf ((runShp Shp.new os).2 = os.length ∧ (runShp Shp.new os).1.done = true) from tf_congr ⟨fun h => h.2, fun h => ⟨hok, h⟩⟩)
    obtain ⟨R, hR⟩ : ∃ R, R = runShp Shp.new os := ⟨_, rfl⟩
    rw [← hR] at HV
    have HR := hide hR
    clear hR hok
    obtain ⟨s, n⟩ := R
    go_enter Tryd.func5, Tryd.ntmps5
    go_wp2_with fail
    refine (specValidOps_any A os c w h).mono ?_
    rintro e w1 ⟨rfl, hb1⟩
    rw [ht.out]
    have h1 := h.later hb1 (Nat.le_refl _)
    go_wp2_with fail
    have HC := runShapes_any A os c w1 h1 Hall.out
    rw [← HR.out] at HC
    refine HC.mono ?_
    clear HC
    rintro e w2 ⟨p, rfl, ho, hb2⟩
    have HB := hide ((hb1.trans (hb2.mono hb1.size)).alloc (Nat.le_trans hb1.size hb2.size) (.cells (shCells p s) 32))
    simp only [shVal, shCells] at HB ⊢
    clear ho hb1 hb2 h1
    by_cases hn : n = os.length
    · subst hn
      have HV3 := hide (show tf (Whole os) = s.done from by
        rw [HV.out]
        cases s.done
        · exact tf_false fun h => by simp at h
        · exact tf_true ⟨rfl, rfl⟩)
      clear HV
      go_wp2
      go_ret
      exact ⟨ret_bool HV3.out.symm, HB.out⟩
    · have n2 : ((n : Int) == (os.length : Int)) = false := by simp; omega
      have HV2 := hide (show tf (Whole os) = false by rw [HV.out]; exact tf_false fun h => hn h.1)
      clear hn HV
      go_wp2
      go_ret
      exact ⟨ret_bool HV2.out.symm, HB.out⟩
  · have ht := hide (tf_false hok)
    have HV := hide (show tf (Whole os) = false from tf_false fun h => hok h.1)
    clear hok
    go_enter Tryd.func5, Tryd.ntmps5
    go_wp2_with fail
    refine (specValidOps_any A os c w h).mono ?_
    rintro e w1 ⟨rfl, hb1⟩
    rw [ht.out]
    go_wp2
    go_ret
    exact ⟨ret_bool HV.out.symm, hb1⟩

end Go.Proofs.YtilopekdeehaoabDoor

namespace Go.Proofs.YtilopekdeehaoabDoor
open Go.RowKit Go.Maps
set_option linter.unusedVariables false

set_option maxRecDepth 100000 in
set_option maxHeartbeats 4000000 in
theorem exIW_small (A : Option Addr) (os : List Od) (c : Nat) (w : World) (hr : OpsAt w w.heap.size A os) (hF : FormsAt w w.heap.size) (hN : NeedsAt w w.heap.size) (hs : 0 ≤ szI os.length 1048576) :
    Calls Tryd.prog 3 #[.slice A os.length c] w fun e w' => e = .returned (.bool true) ∧ Below w.heap.size w w' := by
  have hsm : os.length ≤ 1048576 := by unfold szI at hs; split at hs <;> omega
  have hwf := hr.wf
  have Hwf := hide hwf
  have hnl := hr.len
  clear hwf
  go_enter Tryd.func3, Tryd.ntmps3
  go_wp2_with fail
  refine (szOpS_any A os.length c 1048576 w (by omega) (by omega) hnl).mono ?_
  rintro e w1 ⟨rfl, rfl⟩
  generalize szI os.length 1048576 = sz at hs ⊢
  have hd : decide (sz < 0) = false := by simp; omega
  go_wp2_with fail
  refine (toOpS_any A os c w hr hsm).mono ?_
  rintro e w2 ⟨rfl, hm2, hb2⟩
  have hx2 := OpsAt.of_row hm2 hm2.lt Hwf.out hnl
  have hr2 := hr.later hb2 (Nat.le_refl _)
  clear hm2
  go_wp2_with fail
  refine (specIsWhole_any _ os _ w2 hx2).mono ?_
  rintro e w3 ⟨rfl, hb3⟩
  have hb13 := hb2.trans (hb3.mono hb2.size)
  have hr3 := hr2.later hb3 (Nat.le_refl _)
  clear hx2 hr2 hb2 hb3
  go_wp2_with fail
  refine (toOpS_any A os c w3 hr3 hsm).mono ?_
  rintro e w4 ⟨rfl, hm4, hb4⟩
  have hx4 := OpsAt.of_row hm4 hm4.lt Hwf.out hnl
  have hb14 := hb13.trans (hb4.mono hb13.size)
  have hr4 := hr3.later hb4 (Nat.le_refl _)
  clear hm4 hb13 hr3
  go_wp2_with fail
  refine (implIsWhole_any _ os _ w4 hx4 (hF.later hb14 (Nat.le_refl _)) (hN.later hb14 (Nat.le_refl _))).mono ?_
  rintro e w5 ⟨rfl, hb5⟩
  have hb15 := hb14.trans (hb5.mono hb14.size)
  have hr5 := hr4.later hb5 (Nat.le_refl _)
  have hx5 := hx4.later hb5 (Nat.le_refl _)
  clear hb14 hr4 hx4 hb5 hb4
  generalize tf (Whole os) = V
  have hvv : (V != V) = false := by simp
  go_wp2_with fail
  refine (toOpS_any A os c w5 hr5 hsm).mono ?_
  rintro e w6 ⟨rfl, hm6, hb6⟩
  have hx6 := OpsAt.of_row hm6 hm6.lt Hwf.out hnl
  have hy6 := hx5.later hb6 (Nat.le_refl _)
  have hb16 := hb15.trans (hb6.mono hb15.size)
  clear hm6 hb15 hr5 hx5
  go_wp2_with fail
  refine (eqOpS_any _ _ os os _ _ w6 hy6 hx6).mono ?_
  rintro e w7 ⟨rfl, hb7⟩
  have hself : decide (os = os) = true := by simp
  rw [hself]
  have hb17 := hb16.trans (hb7.mono hb16.size)
  go_wp2
  go_ret
  exact ⟨rfl, hb17⟩

set_option maxHeartbeats 1000000 in
theorem exIW_big (A : Option Addr) (os : List Od) (c : Nat) (w : World) (hr : OpsAt w w.heap.size A os) (hs : szI os.length 1048576 < 0) :
    Calls Tryd.prog 3 #[.slice A os.length c] w fun e w' => e = .returned (.bool true) ∧ Below w.heap.size w w' := by
  have hnl := hr.len
  go_enter Tryd.func3, Tryd.ntmps3
  go_wp2_with fail
  refine (szOpS_any A os.length c 1048576 w (by omega) (by omega) hnl).mono ?_
  rintro e w1 ⟨rfl, rfl⟩
  generalize szI os.length 1048576 = sz at hs ⊢
  have hd : decide (sz < 0) = true := by simp; omega
  go_wp2
  go_ret
  exact ⟨rfl, Below.refl _ _⟩

theorem exIW_any (A : Option Addr) (os : List Od) (c : Nat) (w : World) (hr : OpsAt w w.heap.size A os) (hF : FormsAt w w.heap.size) (hN : NeedsAt w w.heap.size) :
    Calls Tryd.prog 3 #[.slice A os.length c] w fun e w' => e = .returned (.bool true) ∧ Below w.heap.size w w' := by
  by_cases hs : 0 ≤ szI os.length 1048576
  · exact exIW_small A os c w hr hF hN hs
  · exact exIW_big A os c w hr (by omega)

end Go.Proofs.YtilopekdeehaoabDoor
