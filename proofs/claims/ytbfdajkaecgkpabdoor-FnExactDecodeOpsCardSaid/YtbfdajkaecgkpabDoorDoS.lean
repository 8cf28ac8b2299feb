/-
  The model's DecodeOps: what it returns.
-/
import Derived.Test.YtbfdajkaecgkpabDoorRds
namespace Go.Proofs.YtbfdajkaecgkpabDoor
open Go.RowKit
set_option linter.unusedVariables false

set_option maxHeartbeats 1000000 in
theorem specDecodeOps_any (A : Option Addr) (xs : List Int) (c : Nat) (w : World) (h : IntsAt w w.heap.size A xs) (hnil : A = none → c = 0) (hc : xs.length ≤ c) :
    Calls Tryd.prog 4 #[.slice A xs.length c] w (GivesOpsV w (decAll xs) (.bool (tf (DecOk xs)))) := by
  have Hnil := hide hnil
  clear hnil
  by_cases hok : BytesOk 1000 xs
  · have ht := hide (tf_true hok)
    have hl := hok.1
    have hle := (decs_le 300 xs hok.2).1
    by_cases hall : (decs 300 xs).2 = xs.length
    · have HK : DecOk xs := ⟨hok, hall⟩
      rw [decAll_ok HK, tf_true HK]
      have Hok := hide hok
      have d1 : decide (xs.length < xs.length) = false := by simp
      have Hall := hide hall
      clear hall hle HK hok
      go_enter Tryd.func4, Tryd.ntmps4
      go_wp2_with fail
      refine (validBytes_any A xs c w h).mono ?_
      rintro e w' ⟨rfl, rfl⟩
      rw [ht.out]
      go_wp2_with fail
      have HC := readOps_any A xs c w h Hnil.out hc Hok.out
      rw [Hall.out] at HC
      refine HC.mono ?_
      clear HC
      rintro e w2 ⟨A2, c2, rfl, ho, hb⟩
      go_wp2
      go_ret2
      exact ⟨A2, c2, rfl, ho, hb⟩
    · have HK : ¬ DecOk xs := fun h => hall h.2
      rw [decAll_no HK, tf_false HK]
      have Hok := hide hok
      have d1 : decide ((decs 300 xs).2 < xs.length) = true := by simp; omega
      clear hall hle HK hok
      go_enter Tryd.func4, Tryd.ntmps4
      go_wp2_with fail
      refine (validBytes_any A xs c w h).mono ?_
      rintro e w' ⟨rfl, rfl⟩
      rw [ht.out]
      go_wp2_with fail
      refine (readOps_any A xs c w h Hnil.out hc Hok.out).mono ?_
      rintro e w2 ⟨A2, c2, rfl, ho, hb⟩
      go_wp2
      go_ret2
      exact ⟨none, 0, rfl, OwnO.empty _ _, hb⟩
  · have HK : ¬ DecOk xs := fun h => hok h.1
    rw [decAll_no HK, tf_false HK]
    have ht := hide (tf_false hok)
    clear hok HK
    go_enter Tryd.func4, Tryd.ntmps4
    go_wp2_with fail
    refine (validBytes_any A xs c w h).mono ?_
    rintro e w' ⟨rfl, rfl⟩
    rw [ht.out]
    go_wp2
    go_ret2
    exact ⟨none, 0, rfl, OwnO.empty _ _, Below.refl _ _⟩

end Go.Proofs.YtbfdajkaecgkpabDoor
