/-
  The model's SizeOf: what it returns.
-/
import Derived.Test.YtbfdajkaecgkpadDoorEncS
namespace Go.Proofs.YtbfdajkaecgkpadDoor
open Go.RowKit
set_option linter.unusedVariables false

set_option maxHeartbeats 1000000 in
theorem specSizeOf_any (A : Option Addr) (os : List Od) (c : Nat) (w : World) (h : OpsAt w w.heap.size A os) :
    Calls Tryd.prog 5 #[.slice A os.length c] w fun e w' => e = .returned (.int .i64 (sizeOfOps os)) ∧ Below w.heap.size w w' := by
  by_cases hok : OpsOk os
  · rw [sizeOfOps_ok hok]
    have he := hide (encodeOf_ok hok)
    have ht := hide (tf_true hok)
    clear hok
    go_enter Tryd.func5, Tryd.ntmps5
    go_wp2_with fail
    refine (specValidOps_any A os c w h).mono ?_
    rintro e w1 ⟨rfl, hb1⟩
    rw [ht.out]
    have h1 := h.later hb1 (Nat.le_refl _)
    go_wp2_with fail
    have HC := specEncodeOps_any A os c w1 h1
    rw [he.out] at HC
    refine HC.mono ?_
    clear HC
    rintro e w2 ⟨A2, c2, rfl, ho, hb2⟩
    have hb := hb1.trans (hb2.mono hb1.size)
    clear hb1 hb2 ho h1
    go_wp2
    go_ret
    exact ⟨rfl, hb⟩
  · rw [sizeOfOps_no hok]
    have ht := hide (tf_false hok)
    clear hok
    go_enter Tryd.func5, Tryd.ntmps5
    go_wp2_with fail
    refine (specValidOps_any A os c w h).mono ?_
    rintro e w1 ⟨rfl, hb1⟩
    rw [ht.out]
    go_wp2
    go_ret
    exact ⟨rfl, hb1⟩

end Go.Proofs.YtbfdajkaecgkpadDoor
