/-
  The model's DecodeTorn: what it returns.
-/
import Derived.Test.YtbfdajkaecgkpaaDoorRds
namespace Go.Proofs.YtbfdajkaecgkpaaDoor
open Go.RowKit
set_option linter.unusedVariables false

set_option maxHeartbeats 1000000 in
theorem specDecodeTorn_any (A : Option Addr) (xs : List Int) (c : Nat) (w : World) (h : IntsAt w w.heap.size A xs) (hnil : A = none → c = 0) (hc : xs.length ≤ c) :
    Calls Tryd.prog 4 #[.slice A xs.length c] w (GivesOpsV w (tornOps xs) (.int .i64 (tornSize xs))) := by
  by_cases hok : BytesOk 1000 xs
  · rw [tornOps_ok hok, tornSize_ok hok]
    have ht := hide (tf_true hok)
    have Hok := hide hok
    have Hnil := hide hnil
    clear hok hnil
    go_enter Tryd.func4, Tryd.ntmps4
    go_wp2_with fail
    refine (validBytes_any A xs c w h).mono ?_
    rintro e w' ⟨rfl, rfl⟩
    rw [ht.out]
    go_wp2_with fail
    refine (readOps_any A xs c w h Hnil.out hc Hok.out).mono ?_
    rintro e w2 ⟨A2, c2, rfl, ho, hb⟩
    go_wp2
    go_ret2
    exact ⟨A2, c2, rfl, ho, hb⟩
  · rw [tornOps_no hok, tornSize_no hok]
    have ht := hide (tf_false hok)
    clear hok hnil
    go_enter Tryd.func4, Tryd.ntmps4
    go_wp2_with fail
    refine (validBytes_any A xs c w h).mono ?_
    rintro e w' ⟨rfl, rfl⟩
    rw [ht.out]
    go_wp2
    go_ret2
    exact ⟨none, 0, rfl, OwnO.empty _ _, Below.refl _ _⟩

end Go.Proofs.YtbfdajkaecgkpaaDoor
