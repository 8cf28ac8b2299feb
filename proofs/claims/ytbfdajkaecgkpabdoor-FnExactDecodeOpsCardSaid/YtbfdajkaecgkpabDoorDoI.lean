/-
  The program's DecodeOps: what it returns.
-/
import Derived.Test.YtbfdajkaecgkpabDoorDtI
namespace Go.Proofs.YtbfdajkaecgkpabDoor
open Go.RowKit
set_option linter.unusedVariables false

set_option maxHeartbeats 1000000 in
theorem implDecodeOps_any (A : Option Addr) (xs : List Int) (c : Nat) (w : World) (h : IntsAt w w.heap.size A xs) (hnil : A = none → c = 0) (hc : xs.length ≤ c) (hF : FormsAt w w.heap.size) :
    Calls Tryd.prog 6 #[.slice A xs.length c] w (GivesOpsV w (decAll xs) (.bool (tf (DecOk xs)))) := by
  have hlen := h.len
  have Hnil := hide hnil
  clear hnil
  by_cases hok : DecOk xs
  · rw [decAll_ok hok, tf_true hok]
    have e1 := hide (tornOps_ok hok.1)
    have e2 := hide (tornSize_ok hok.1)
    have e3 := hide hok.2
    clear hok
    have d1 : ((xs.length : Int) != (xs.length : Int)) = false := by simp
    go_enter Tryd.func6, Tryd.ntmps6
    go_wp2_with fail
    have HC := implDecodeTorn_any A xs c w h Hnil.out hc hF
    rw [e1.out, e2.out, e3.out] at HC
    refine HC.mono ?_
    clear HC
    rintro e w2 ⟨A2, c2, rfl, ho, hb⟩
    go_wp2
    go_ret2
    exact ⟨A2, c2, rfl, ho, hb⟩
  · rw [decAll_no hok, tf_false hok]
    have d0 : tornSize xs ≠ (xs.length : Int) := by
      unfold tornSize
      split
      · rename_i hb
        intro e
        exact hok ⟨hb, by omega⟩
      · omega
    have d1 : (tornSize xs != (xs.length : Int)) = true := by simpa using d0
    clear hok d0
    go_enter Tryd.func6, Tryd.ntmps6
    go_wp2_with fail
    refine (implDecodeTorn_any A xs c w h Hnil.out hc hF).mono ?_
    rintro e w2 ⟨A2, c2, rfl, ho, hb⟩
    go_wp2
    go_ret2
    exact ⟨none, 0, rfl, OwnO.empty _ _, hb⟩

end Go.Proofs.YtbfdajkaecgkpabDoor
