/-
  The model's IsShort: what it returns.
-/
import Derived.Test.YtgdljgddfbegnafDoorShM
import Derived.Test.YtgdljgddfbegnafDoorSpecO
import Derived.Deep.QuietTactic
import Derived.BigQuiet
namespace Go.Proofs.YtgdljgddfbegnafDoor
open Go.RowKit
set_option linter.unusedVariables false

set_option maxRecDepth 100000 in
set_option maxHeartbeats 1000000 in
theorem specIsShort_any (A : Option Addr) (os : List Od) (c : Nat) (w : World) (h : OpsAt w w.heap.size A os) :
    Calls Tryd.prog 5 #[.slice A os.length c] w fun e w' => e = .returned (.bool (tf (ShortOk os))) ∧ Below w.heap.size w w' := by
  have hl := h.len
  by_cases hok : OpsOk os
  · have ht := hide (tf_true hok)
    have Hok := hide hok
    clear hok
    go_enter Tryd.func5, Tryd.ntmps5
    go_wp2_with fail
    refine (specValidOps_any A os c w h).mono ?_
    rintro e w1 ⟨rfl, hb1⟩
    rw [ht.out]
    go_wp2_with fail
    go_loopw [3] (fun iv wr => ∃ k : Nat, k ≤ os.length ∧ iv = .int .i64 k ∧ Below w.heap.size w wr ∧ ∀ j o, j < k → os[j]? = some o → ¬ ShortOp o) (fun iv _ => os.length - (intOf iv).toNat)
    case atStart => exact ⟨0, Nat.zero_le _, rfl, hb1, fun j _ hj => absurd hj (by omega)⟩
    case round =>
      clear hb1
      obtain ⟨k, hk, rfl, hb, he0⟩ := hrel
      have he := hide he0
      clear he0
      by_cases hlt : k < os.length
      · obtain ⟨b, off, o, rfl, hbl, hx, hmem, hc0, hc1⟩ := (h.below hb).at_ hlt
        have hk1 : (0 : Int) ≤ (k : Int) := by omega
        have hk2 : (k : Int) < (os.length : Int) := by omega
        have hT : ShortOp o → Hid (tf (ShortOk os) = true) := fun hs => hide (tf_true ⟨Hok.out, o, hmem, hs⟩)
        by_cases h5 : o.code = 5
        · have HF := hT (.inl h5)
          rw [h5] at hc0
          clear hT hx hmem h5 he
          go_wp2
          go_ret
          exact ⟨ret_bool HF.out.symm, hb⟩
        · by_cases h6 : o.code = 6
          · have HF := hT (.inr (.inl h6))
            rw [h6] at hc0
            clear hT hx hmem h5 h6 he
            go_wp2
            go_ret
            exact ⟨ret_bool HF.out.symm, hb⟩
          · by_cases h9 : o.code = 9
            · have HF := hT (.inr (.inr (.inl h9)))
              rw [h9] at hc0
              clear hT hx hmem h5 h6 h9 he
              go_wp2
              go_ret
              exact ⟨ret_bool HF.out.symm, hb⟩
            · by_cases h12 : o.code = 12
              · have HF := hT (.inr (.inr (.inr h12)))
                rw [h12] at hc0
                clear hT hx hmem h5 h6 h9 h12 he
                go_wp2
                go_ret
                exact ⟨ret_bool HF.out.symm, hb⟩
              · have t5 : (o.code == 5) = false := by simpa using h5
                have t6 : (o.code == 6) = false := by simpa using h6
                have t9 : (o.code == 9) = false := by simpa using h9
                have t12 : (o.code == 12) = false := by simpa using h12
                have HE := hide (short_step he.out hx (by rintro (h | h | h | h) <;> contradiction))
                clear hT hx hmem h5 h6 h9 h12 he
                go_wp2
                go_roundw
                case rel => exact ⟨k + 1, by omega, by go_num, hb, HE.out⟩
                case measure => simp [intOf]; omega
      · obtain rfl : k = os.length := by omega
        have HF := hide (show tf (ShortOk os) = false from tf_false fun hs => short_none he.out hs.2)
        clear hlt he
        go_wp2
        go_ret
        exact ⟨ret_bool HF.out.symm, hb⟩
  · have ht := hide (tf_false hok)
    have HF := hide (show tf (ShortOk os) = false from tf_false fun hs => hok hs.1)
    clear hok
    go_enter Tryd.func5, Tryd.ntmps5
    go_wp2_with fail
    refine (specValidOps_any A os c w h).mono ?_
    rintro e w1 ⟨rfl, hb1⟩
    rw [ht.out]
    go_wp2
    go_ret
    exact ⟨ret_bool HF.out.symm, hb1⟩

end Go.Proofs.YtgdljgddfbegnafDoor
