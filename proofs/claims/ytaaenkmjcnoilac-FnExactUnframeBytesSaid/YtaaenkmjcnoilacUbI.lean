/-
  The program's UnframeBytes: what it returns.
-/
import Derived.Test.YtaaenkmjcnoilacUtI
import Derived.Test.YtaaenkmjcnoilacUbM
namespace Go.Proofs.Ytaaenkmjcnoilac
open Go.RowKit
set_option linter.unusedVariables false

set_option maxHeartbeats 1000000 in
theorem implUnframeBytes_any (A : Option Addr) (xs : List Int) (c : Nat) (w : World) (h : IntsAt w w.heap.size A xs) (hnil : A = none → c = 0) (hc : xs.length ≤ c) :
    Calls Try.prog 6 #[.slice A xs.length c] w (GivesIntsV w (unfAll xs) (.bool (tf (UnfOk xs)))) := by
  have hlen := h.len
  by_cases hok : UnfOk xs
  · rw [unfAll_ok hok, tf_true hok]
    have e1 := hide (unfrBytes_ok hok.1)
    have e2 := hide (unfrSize_ok hok.1)
    have e3 := hide hok.2
    clear hok
    have Hnil := hide hnil
    clear hnil
    have d1 : ((xs.length : Int) != (xs.length : Int)) = false := by simp
    go_enter Try.func6, Try.ntmps6
    go_wp2_with fail
    have HC := implUnframeTorn_any A xs c w h Hnil.out hc
    rw [e1.out, e2.out, e3.out] at HC
    refine HC.mono ?_
    clear HC
    rintro e w2 ⟨A2, c2, rfl, ho, hb⟩
    go_wp2
    go_ret2
    exact ⟨A2, c2, rfl, ho, hb⟩
  · rw [unfAll_no hok, tf_false hok]
    have d0 : unfrSize xs ≠ (xs.length : Int) := by
      unfold unfrSize
      split
      · rename_i hb
        intro e
        exact hok ⟨hb, by omega⟩
      · omega
    have d1 : (unfrSize xs != (xs.length : Int)) = true := by simpa using d0
    have Hnil := hide hnil
    clear hok d0 hnil
    go_enter Try.func6, Try.ntmps6
    go_wp2_with fail
    refine (implUnframeTorn_any A xs c w h Hnil.out hc).mono ?_
    rintro e w2 ⟨A2, c2, rfl, ho, hb⟩
    go_wp2
    go_ret2
    exact ⟨none, 0, rfl, OwnI.empty _ _, hb⟩

end Go.Proofs.Ytaaenkmjcnoilac
