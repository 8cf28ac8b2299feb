/-
  The walk of the law FnExactSizeOf: for every program it returns true and writes nothing that was there.
-/
import Derived.Test.YtbfdajkaecgkpadDoorSizI
import Derived.Test.YtbfdajkaecgkpadDoorSizS
import Derived.Test.YtbfdajkaecgkpadDoorSzO
import Derived.Test.YtbfdajkaecgkpadDoorToO
import Derived.Test.YtbfdajkaecgkpadDoorEqO
import Derived.Deep.RegionHeld3
namespace Go.Proofs.YtbfdajkaecgkpadDoor
open Go.RowKit Go.Maps
set_option linter.unusedVariables false

set_option maxRecDepth 100000 in
set_option maxHeartbeats 4000000 in
theorem exSZ_small (A : Option Addr) (os : List Od) (c : Nat) (w : World) (hr : OpsAt w w.heap.size A os) (hF : FormsAt w w.heap.size) (hs : 0 ≤ szI os.length 1048576) :
    Calls Tryd.prog 3 #[.slice A os.length c] w fun e w' => e = .returned (.bool true) ∧ Below w.heap.size w w' := by
  have hsm : os.length ≤ 1048576 := by unfold szI at hs; split at hs <;> omega
  have hwf := hr.wf
  have Hwf := hide hwf
  have hnl := hr.len
  clear hwf
  go_enter Tryd.func3, Tryd.ntmps3
  go_wp2_with fail
  refine (szOpS_any A os.length c 1048576 w (by omega) (by omega) hnl).mono ?_
  rintro e w1 ⟨rfl, rfl⟩
  generalize szI os.length 1048576 = sz at hs ⊢
  have hd : decide (sz < 0) = false := by simp; omega
  go_wp2_with fail
  refine (toOpS_any A os c w hr hsm).mono ?_
  rintro e w2 ⟨rfl, hm2, hb2⟩
  have hx2 := OpsAt.of_row hm2 hm2.lt Hwf.out hnl
  have hr2 := hr.later hb2 (Nat.le_refl _)
  clear hm2
  go_wp2_with fail
  refine (specSizeOf_any _ os _ w2 hx2).mono ?_
  rintro e w3 ⟨rfl, hb3⟩
  have hb13 := hb2.trans (hb3.mono hb2.size)
  have hr3 := hr2.later hb3 (Nat.le_refl _)
  clear hx2 hr2 hb2 hb3
  go_wp2_with fail
  refine (toOpS_any A os c w3 hr3 hsm).mono ?_
  rintro e w4 ⟨rfl, hm4, hb4⟩
  have hx4 := OpsAt.of_row hm4 hm4.lt Hwf.out hnl
  have hb14 := hb13.trans (hb4.mono hb13.size)
  have hr4 := hr3.later hb4 (Nat.le_refl _)
  clear hm4 hb13 hr3
  go_wp2_with fail
  refine (implSizeOf_any _ os _ w4 hx4 (hF.later hb14 (Nat.le_refl _))).mono ?_
  rintro e w5 ⟨rfl, hb5⟩
  have hb15 := hb14.trans (hb5.mono hb14.size)
  have hr5 := hr4.later hb5 (Nat.le_refl _)
  have hx5 := hx4.later hb5 (Nat.le_refl _)
  clear hb14 hr4 hx4 hb5 hb4
  generalize sizeOfOps os = V
  have hvv : (V != V) = false := by simp
  go_wp2_with fail
  refine (toOpS_any A os c w5 hr5 hsm).mono ?_
  rintro e w6 ⟨rfl, hm6, hb6⟩
  have hx6 := OpsAt.of_row hm6 hm6.lt Hwf.out hnl
  have hy6 := hx5.later hb6 (Nat.le_refl _)
  have hb16 := hb15.trans (hb6.mono hb15.size)
  clear hm6 hb15 hr5 hx5
  go_wp2_with fail
  refine (eqOpS_any _ _ os os _ _ w6 hy6 hx6).mono ?_
  rintro e w7 ⟨rfl, hb7⟩
  have hself : decide (os = os) = true := by simp
  rw [hself]
  have hb17 := hb16.trans (hb7.mono hb16.size)
  go_wp2
  go_ret
  exact ⟨rfl, hb17⟩

set_option maxHeartbeats 1000000 in
theorem exSZ_big (A : Option Addr) (os : List Od) (c : Nat) (w : World) (hr : OpsAt w w.heap.size A os) (hs : szI os.length 1048576 < 0) :
    Calls Tryd.prog 3 #[.slice A os.length c] w fun e w' => e = .returned (.bool true) ∧ Below w.heap.size w w' := by
  have hnl := hr.len
  go_enter Tryd.func3, Tryd.ntmps3
  go_wp2_with fail
  refine (szOpS_any A os.length c 1048576 w (by omega) (by omega) hnl).mono ?_
  rintro e w1 ⟨rfl, rfl⟩
  generalize szI os.length 1048576 = sz at hs ⊢
  have hd : decide (sz < 0) = true := by simp; omega
  go_wp2
  go_ret
  exact ⟨rfl, Below.refl _ _⟩

theorem exSZ_any (A : Option Addr) (os : List Od) (c : Nat) (w : World) (hr : OpsAt w w.heap.size A os) (hF : FormsAt w w.heap.size) :
    Calls Tryd.prog 3 #[.slice A os.length c] w fun e w' => e = .returned (.bool true) ∧ Below w.heap.size w w' := by
  by_cases hs : 0 ≤ szI os.length 1048576
  · exact exSZ_small A os c w hr hF hs
  · exact exSZ_big A os c w hr (by omega)

end Go.Proofs.YtbfdajkaecgkpadDoor
