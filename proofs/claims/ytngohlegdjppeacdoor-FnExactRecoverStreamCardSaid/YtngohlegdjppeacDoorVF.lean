/-
  The model's validFramed: what it returns.
-/
import Derived.Test.YtngohlegdjppeacDoorAllIn
import Derived.Test.YtngohlegdjppeacDoorFrM
namespace Go.Proofs.YtngohlegdjppeacDoor
open Go.RowKit

theorem validFramed_any (A : Option Addr) (xs : List Int) (c : Nat) (w : World) (h : IntsAt w w.heap.size A xs) :
    Calls Tryd.prog 12 #[.slice A xs.length c] w fun e w' => e = .returned (.bool (tf (BytesOk 2000 xs))) ∧ w = w' := by
  have hl := h.len
  by_cases hlen : xs.length ≤ 2000
  · have e1 : tf (BytesOk 2000 xs) = tf (AllIn xs 0 255) := tf_congr ⟨fun h => h.2, fun h => ⟨hlen, h⟩⟩
    rw [e1]
    clear e1
    go_enter Tryd.func12, Tryd.ntmps12
    go_wp2_with fail
    refine (allIn_any A xs c 0 255 w h).mono ?_
    rintro e w' ⟨rfl, rfl⟩
    go_wp2
    go_ret
    exact ⟨rfl, rfl⟩
  · have HF := hide (show tf (BytesOk 2000 xs) = false from tf_false fun h => hlen h.1)
    go_enter Tryd.func12, Tryd.ntmps12
    go_wp2
    go_ret
    exact ⟨ret_bool HF.out.symm, rfl⟩

end Go.Proofs.YtngohlegdjppeacDoor
