/-
  The model's UnframeBytes: what it returns.
-/
import Derived.Test.YtaaenkmjcnoilacUfS
import Derived.Test.YtaaenkmjcnoilacUbM
namespace Go.Proofs.Ytaaenkmjcnoilac
open Go.RowKit
set_option linter.unusedVariables false

set_option maxHeartbeats 1000000 in
theorem specUnframeBytes_any (A : Option Addr) (xs : List Int) (c : Nat) (w : World) (h : IntsAt w w.heap.size A xs) (hc : xs.length ≤ c) :
    Calls Try.prog 4 #[.slice A xs.length c] w (GivesIntsV w (unfAll xs) (.bool (tf (UnfOk xs)))) := by
  by_cases hok : BytesOk 2000 xs
  · have ht := hide (tf_true hok)
    have hl := hok.1
    have hle := (unfr_le xs.length xs).1
    by_cases hall : (unfr xs.length xs).2 = xs.length
    · have HK : UnfOk xs := ⟨hok, hall⟩
      rw [unfAll_ok HK, tf_true HK]
      clear HK hok
      have d1 : decide (xs.length < xs.length) = false := by simp
      have Hall := hide hall
      clear hall hle
      go_enter Try.func4, Try.ntmps4
      go_wp2_with fail
      refine (validFramed_any A xs c w h).mono ?_
      rintro e w' ⟨rfl, rfl⟩
      rw [ht.out]
      go_wp2_with fail
      have HC := unframe_any A xs c w h hc hl
      rw [Hall.out] at HC
      refine HC.mono ?_
      clear HC
      rintro e w2 ⟨A2, c2, rfl, ho, hb⟩
      go_wp2
      go_ret2
      exact ⟨A2, c2, rfl, ho, hb⟩
    · have HK : ¬ UnfOk xs := fun h => hall h.2
      rw [unfAll_no HK, tf_false HK]
      clear HK hok
      have d1 : decide ((unfr xs.length xs).2 < xs.length) = true := by simp; omega
      clear hall hle
      go_enter Try.func4, Try.ntmps4
      go_wp2_with fail
      refine (validFramed_any A xs c w h).mono ?_
      rintro e w' ⟨rfl, rfl⟩
      rw [ht.out]
      go_wp2_with fail
      refine (unframe_any A xs c w h hc hl).mono ?_
      rintro e w2 ⟨A2, c2, rfl, ho, hb⟩
      go_wp2
      go_ret2
      exact ⟨none, 0, rfl, OwnI.empty _ _, hb⟩
  · have HK : ¬ UnfOk xs := fun h => hok h.1
    rw [unfAll_no HK, tf_false HK]
    have ht := hide (tf_false hok)
    clear hok HK
    go_enter Try.func4, Try.ntmps4
    go_wp2_with fail
    refine (validFramed_any A xs c w h).mono ?_
    rintro e w' ⟨rfl, rfl⟩
    rw [ht.out]
    go_wp2
    go_ret2
    exact ⟨none, 0, rfl, OwnI.empty _ _, Below.refl _ _⟩

end Go.Proofs.Ytaaenkmjcnoilac
