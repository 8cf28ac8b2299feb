/-
  The program's firstArg: what it returns.
-/
import Derived.Test.YtngohlegdjppeacDoorDecM
import Derived.Test.YtngohlegdjppeacDoorOwn
import Derived.Deep.QuietTactic
import Derived.BigQuiet
namespace Go.Proofs.YtngohlegdjppeacDoor
open Go.RowKit
set_option linter.unusedVariables false

set_option maxHeartbeats 1000000 in
theorem firstArg_any (A : Option Addr) (xs : List Int) (c : Nat) (w : World) (h : IntsAt w w.heap.size A xs) (hb : ∀ x ∈ xs, 0 ≤ x ∧ x ≤ 255) (hl : xs.length ≤ 1000) :
    Calls Tryd.prog 31 #[.slice A xs.length c] w fun e w' => e = .returned (.tuple #[.int .i64 (firstA xs).1, .int .i64 ((firstA xs).2 : Int)]) ∧ Below w.heap.size w w' := by
  match xs, h, hb, hl with
  | [], h, hb, hl =>
    clear h hb hl
    go_enter Tryd.func31, Tryd.ntmps31
    go_wp2
    go_ret2
    exact ⟨rfl, Below.refl _ _⟩
  | [a], h, hb, hl =>
    have ha := hb a (by simp)
    obtain ⟨b0, off, y, rfl, hbl, hy, _, hcell⟩ := h.at_ (k := 0) (by simp)
    obtain rfl : a = y := by simpa using hy
    rw [Nat.add_zero] at hcell
    clear h hy hb hl
    by_cases hs : a < 128
    · have HF := hide (show firstA [a] = (a, 1) by simp only [firstA]; rw [if_pos hs])
      have d : decide (a < 128) = true := by simpa using hs
      go_enter Tryd.func31, Tryd.ntmps31
      go_wp2
      go_ret2
      exact ⟨by rw [HF.out]; rfl, Below.refl _ _⟩
    · have HF := hide (show firstA [a] = (0, 0) by simp only [firstA]; rw [if_neg hs])
      have d : decide (a < 128) = false := by simpa using hs
      go_enter Tryd.func31, Tryd.ntmps31
      go_wp2
      go_ret2
      exact ⟨by rw [HF.out]; rfl, Below.refl _ _⟩
  | a :: b :: t, h, hb, hl =>
    have ha := hb a (by simp)
    have hbb := hb b (by simp)
    have h1 := h.at_ (k := 1) (by simp)
    obtain ⟨b0, off, y, rfl, hbl, hy, _, hcell⟩ := h.at_ (k := 0) (by simp)
    obtain ⟨b1, off1, y1, e1, _, hy1, _, hcell1⟩ := h1
    injection e1 with e1
    injection e1 with e1 e2
    subst e1 e2
    obtain rfl : a = y := by simpa using hy
    obtain rfl : b = y1 := by simpa using hy1
    rw [Nat.add_zero] at hcell
    have hn : (a :: b :: t).length = t.length + 2 := by simp
    simp only [List.length_cons] at hl
    have hl2 : (0 : Int) < (t.length : Int) + 2 := by omega
    by_cases hs : a < 128
    · have HF := hide (show firstA (a :: b :: t) = (a, 1) by simp only [firstA]; rw [if_pos hs])
      have d : decide (a < 128) = true := by simpa using hs
      rw [HF.out, hn]
      clear h hy hy1 hb hn
      go_enter Tryd.func31, Tryd.ntmps31
      go_wp2
      go_ret2
      exact ⟨rfl, Below.refl _ _⟩
    · by_cases hp : 0 < b
      · have HF := hide (show firstA (a :: b :: t) = (a - 128 + b * 128, 2) by simp only [firstA]; rw [if_neg hs, if_pos hp])
        have d : decide (a < 128) = false := by simpa using hs
        have d2 : decide (0 < b) = true := by simpa using hp
        have hl3 : (1 : Int) < (t.length : Int) + 2 := by omega
        rw [HF.out, hn]
        clear h hy hy1 hb hn
        go_enter Tryd.func31, Tryd.ntmps31
        go_wp2_with fail
        go_quiet (fail)
        go_wp2
        go_ret2
        exact ⟨rfl, below_drewN (Below.refl _ _) _⟩
      · have HF := hide (show firstA (a :: b :: t) = (0, 0) by simp only [firstA]; rw [if_neg hs, if_neg hp])
        have d : decide (a < 128) = false := by simpa using hs
        have d2 : decide (0 < b) = false := by simpa using hp
        have hl3 : (1 : Int) < (t.length : Int) + 2 := by omega
        rw [HF.out, hn]
        clear h hy hy1 hb hn
        go_enter Tryd.func31, Tryd.ntmps31
        go_wp2
        go_ret2
        exact ⟨rfl, Below.refl _ _⟩

end Go.Proofs.YtngohlegdjppeacDoor
