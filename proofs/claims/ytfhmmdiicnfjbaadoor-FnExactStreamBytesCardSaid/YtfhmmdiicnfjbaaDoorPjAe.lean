/-
  Lemmas, several texts in one: VB, SzO.
-/
import Derived.Test.YtfhmmdiicnfjbaaDoorAllIn
import Derived.Test.YtfhmmdiicnfjbaaDoorFrM
import Derived.Test.YtfhmmdiicnfjbaaDoorPjAa
namespace Go.Proofs.YtfhmmdiicnfjbaaDoor
open Go.RowKit

theorem validBytes_any (A : Option Addr) (xs : List Int) (c : Nat) (w : World) (h : IntsAt w w.heap.size A xs) :
    Calls Tryd.prog 24 #[.slice A xs.length c] w fun e w' => e = .returned (.bool (tf (BytesOk 1000 xs))) ∧ w = w' := by
  have hl := h.len
  by_cases hlen : xs.length ≤ 1000
  · have e1 : tf (BytesOk 1000 xs) = tf (AllIn xs 0 255) := tf_congr ⟨fun h => h.2, fun h => ⟨hlen, h⟩⟩
    rw [e1]
    clear e1
    go_enter Tryd.func24, Tryd.ntmps24
    go_wp2_with fail
    refine (allIn_any A xs c 0 255 w h).mono ?_
    rintro e w' ⟨rfl, rfl⟩
    go_wp2
    go_ret
    exact ⟨rfl, rfl⟩
  · have HF := hide (show tf (BytesOk 1000 xs) = false from tf_false fun h => hlen h.1)
    go_enter Tryd.func24, Tryd.ntmps24
    go_wp2
    go_ret
    exact ⟨ret_bool HF.out.symm, rfl⟩

end Go.Proofs.YtfhmmdiicnfjbaaDoor

namespace Go.Proofs.YtfhmmdiicnfjbaaDoor
open Go.RowKit

set_option maxHeartbeats 400000 in
theorem szOpS_any (A : Option Addr) (n c : Nat) (left : Int) (w : World) (h0 : 0 ≤ left) (h1 : left ≤ 1048576) (hn : n ≤ 9223372036854775807) :
    Calls Tryd.prog 4 #[.slice A n c, .int .i64 left] w fun e w' => e = .returned (.int .i64 (szI n left)) ∧ w = w' := by
  by_cases h : left - n < 0
  · have hs : Hid (szI n left = -1) := by unfold szI; rw [if_pos h]; rfl
    go_enter Tryd.func4, Tryd.ntmps4
    go_wp2
    go_ret
    exact ⟨ret_int hs.out.symm, rfl⟩
  · have hs : Hid (szI n left = left - n) := by unfold szI; rw [if_neg h]; rfl
    go_enter Tryd.func4, Tryd.ntmps4
    go_wp2
    go_ret
    exact ⟨ret_int hs.out.symm, rfl⟩

end Go.Proofs.YtfhmmdiicnfjbaaDoor
