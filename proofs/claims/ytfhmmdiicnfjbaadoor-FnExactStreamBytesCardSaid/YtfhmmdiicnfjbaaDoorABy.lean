/-
  The program's areBytes: what it returns.
-/
import Derived.Test.YtfhmmdiicnfjbaaDoorUpTo
import Derived.Test.YtfhmmdiicnfjbaaDoorFrM
import Derived.Deep.QuietTactic
import Derived.BigQuiet
namespace Go.Proofs.YtfhmmdiicnfjbaaDoor
open Go.RowKit

set_option maxHeartbeats 1000000 in
theorem areBytes_any (A : Option Addr) (xs : List Int) (c : Nat) (m : Nat) (w : World) (h : IntsAt w w.heap.size A xs) (hm : m ≤ 1048576) :
    Calls Tryd.prog 28 #[.slice A xs.length c, .int .i64 (m : Int)] w fun e w' => e = .returned (.bool (tf (BytesOk m xs))) ∧ w = w' := by
  have hl := h.len
  by_cases hlen : xs.length ≤ m
  · have d1 : decide (m < xs.length) = false := by simpa using hlen
    go_enter Tryd.func28, Tryd.ntmps28
    go_wp2_with fail
    clear d1
    go_loop [6, 13] (fun _ i => ∃ k : Nat, k ≤ xs.length ∧ i = .int .i64 k ∧ ∀ j x, j < k → xs[j]? = some x → 0 ≤ x ∧ x ≤ 255) (fun _ i => xs.length - (intOf i).toNat)
    case atStart => exact ⟨0, Nat.zero_le _, rfl, fun j _ hj => absurd hj (by omega)⟩
    case round =>
      obtain ⟨k, hk, rfl, he0⟩ := hrel
      have he := hide he0
      clear he0
      by_cases hlt : k < xs.length
      · obtain ⟨b, off, x, rfl, hbl, hx, hmem, hc⟩ := h.at_ hlt
        have Hx := hide hx
        clear hx
        by_cases hin : 0 ≤ x ∧ x ≤ 255
        · have He : Hid (∀ j y, j < k + 1 → xs[j]? = some y → 0 ≤ y ∧ y ≤ 255) := by
            intro j y hj hy
            by_cases e : j = k
            · subst e
              have := Hx.out.symm.trans hy
              injection this with this
              subst this
              exact hin
            · exact he.out j y (by omega) hy
          obtain ⟨h1, h2⟩ := hin
          clear he hmem
          go_wp2_with fail
          refine (isUpTo_yes x 255 w h1 h2).mono ?_
          rintro e w' ⟨rfl, rfl⟩
          go_wp2
          go_round
          case rel => exact ⟨k + 1, by omega, by go_num, He.out⟩
          case measure => simp [intOf]; omega
        · have HF := hide (show tf (BytesOk m xs) = false from tf_false fun hall => hin (hall.2 x hmem))
          have hno : x < 0 ∨ 255 < x := by omega
          clear he hmem
          go_wp2_with fail
          refine (isUpTo_no x 255 w hno).mono ?_
          rintro e w' ⟨rfl, rfl⟩
          clear hno hin
          go_wp2
          go_ret
          exact ⟨ret_bool HF.out.symm, rfl⟩
      · obtain rfl : k = xs.length := by omega
        have HF := hide (show tf (BytesOk m xs) = true from tf_true ⟨hlen, fun x hx => by
          obtain ⟨j, hj, rfl⟩ := List.getElem_of_mem hx
          exact he.out j _ hj (List.getElem?_eq_getElem hj)⟩)
        clear hlt
        go_wp2
        go_ret
        exact ⟨ret_bool HF.out.symm, rfl⟩
  · have d1 : decide (m < xs.length) = true := by simpa using hlen
    have HF := hide (show tf (BytesOk m xs) = false from tf_false fun h => hlen h.1)
    go_enter Tryd.func28, Tryd.ntmps28
    go_wp2
    go_ret
    exact ⟨ret_bool HF.out.symm, rfl⟩

end Go.Proofs.YtfhmmdiicnfjbaaDoor
