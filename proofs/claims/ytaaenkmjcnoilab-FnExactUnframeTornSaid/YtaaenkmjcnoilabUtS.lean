/-
  The model's UnframeTorn: what it returns.
-/
import Derived.Test.YtaaenkmjcnoilabUfS
namespace Go.Proofs.Ytaaenkmjcnoilab
open Go.RowKit
set_option linter.unusedVariables false

set_option maxHeartbeats 1000000 in
theorem specUnframeTorn_any (A : Option Addr) (xs : List Int) (c : Nat) (w : World) (h : IntsAt w w.heap.size A xs) (hc : xs.length ≤ c) :
    Calls Try.prog 4 #[.slice A xs.length c] w (GivesIntsV w (unfrBytes xs) (.int .i64 (unfrSize xs))) := by
  by_cases hok : BytesOk 2000 xs
  · rw [unfrBytes_ok hok, unfrSize_ok hok]
    have ht := hide (tf_true hok)
    have hl := hok.1
    clear hok
    go_enter Try.func4, Try.ntmps4
    go_wp2_with fail
    refine (validFramed_any A xs c w h).mono ?_
    rintro e w' ⟨rfl, rfl⟩
    rw [ht.out]
    go_wp2_with fail
    refine (unframe_any A xs c w h hc hl).mono ?_
    rintro e w2 ⟨A2, c2, rfl, ho, hb⟩
    go_wp2
    go_ret2
    exact ⟨A2, c2, rfl, ho, hb⟩
  · rw [unfrBytes_no hok, unfrSize_no hok]
    have ht := hide (tf_false hok)
    clear hok
    go_enter Try.func4, Try.ntmps4
    go_wp2_with fail
    refine (validFramed_any A xs c w h).mono ?_
    rintro e w' ⟨rfl, rfl⟩
    rw [ht.out]
    go_wp2
    go_ret2
    exact ⟨none, 0, rfl, OwnI.empty _ _, Below.refl _ _⟩

end Go.Proofs.Ytaaenkmjcnoilab
