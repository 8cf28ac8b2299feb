/-
  The program's isOrder: what it returns.
-/
import Derived.Test.YtcahmcnppamebacDif
import Derived.Test.YtcahmcnppamebacPjAj
namespace Go.Proofs.Ytcahmcnppamebac
open Go.RowKit
set_option linter.unusedVariables false

set_option maxHeartbeats 1000000 in
theorem isOrder_any (A : Option Addr) (os : List Int) (c n : Nat) (w : World) (h : IntsAt w w.heap.size A os) (hn : n ≤ 1000) :
    Calls Try.prog 20 #[.slice A os.length c, .int .i64 (n : Int)] w fun e w' => e = .returned (.bool (tf (IsOrd os n))) ∧ Below w.heap.size w w' := by
  have hl := h.len
  by_cases hlen : os.length = n
  · have HE : Hid (tf (IsOrd os n) = tf (Diff os ((n : Int) - 1))) := hide (tf_congr ⟨fun h => ⟨fun x hx => by have := h.rng x hx; omega, h.nd⟩, fun h => ⟨hlen, fun x hx => by have := h.rng x hx; omega, h.nd⟩⟩)
    have hb0 : ((os.length : Int) == (n : Int)) = true := by simp [hlen]
    have HC := hide (areDifferent_any A os c ((n : Int) - 1) w h (by omega))
    clear hlen h
    go_enter Try.func20, Try.ntmps20
    go_wp2_with fail
    refine HC.out.mono ?_
    clear HC
    rintro e w1 ⟨rfl, hb1⟩
    go_wp2
    go_ret
    exact ⟨ret_bool HE.out.symm, hb1⟩
  · have HF := hide (show tf (IsOrd os n) = false from tf_false fun h => hlen h.len)
    have hb0 : ((os.length : Int) == (n : Int)) = false := by rw [beq_eq_false_iff_ne]; omega
    clear hlen h
    go_enter Try.func20, Try.ntmps20
    go_wp2
    go_ret
    exact ⟨ret_bool HF.out.symm, Below.refl _ _⟩

end Go.Proofs.Ytcahmcnppamebac
