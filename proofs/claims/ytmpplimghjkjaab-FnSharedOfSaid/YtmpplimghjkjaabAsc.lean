/-
  The laws' helper ascends: what it returns.
-/
import Derived.Test.YtmpplimghjkjaabPkA
import Derived.Deep.QuietTactic
import Derived.BigQuiet
namespace Go.Proofs.Ytmpplimghjkjaab
open Go.RowKit
set_option linter.unusedVariables false

theorem asc_at {xs : List Int} (h : xs.Pairwise (· < ·)) {i j : Nat} {x y : Int} (hij : i < j) (hx : xs[i]? = some x) (hy : xs[j]? = some y) : x < y := by
  obtain ⟨h1, rfl⟩ := List.getElem?_eq_some_iff.1 hx
  obtain ⟨h2, rfl⟩ := List.getElem?_eq_some_iff.1 hy
  exact List.pairwise_iff_getElem.1 h i j h1 h2 hij

set_option maxHeartbeats 1000000 in
theorem ascends_any (A : Option Addr) (xs : List Int) (c : Nat) (w : World) (h : IntsAt w w.heap.size A xs) (ha : xs.Pairwise (· < ·)) :
    Calls Try.prog 12 #[.slice A xs.length c] w fun e w' => e = .returned (.bool true) ∧ Below w.heap.size w w' := by
  have hl := h.len
  go_enter Try.func12, Try.ntmps12
  go_wp2_with fail
  go_loopw [3] (fun i wr => ∃ k : Nat, i = .int .i64 (k : Int) ∧ 1 ≤ k ∧ (k ≤ xs.length ∨ k = 1) ∧ Below w.heap.size w wr) (fun i _ => xs.length + 1 - (intOf i).toNat)
  case atStart => exact ⟨1, rfl, Nat.le_refl _, .inr rfl, Below.refl _ _⟩
  case round =>
    obtain ⟨k, rfl, hk1, hk, hb⟩ := hrel
    by_cases hlt : k < xs.length
    · obtain ⟨b, off, x, rfl, hbl, hx, hm, hc⟩ := (h.below hb).at_ hlt
      obtain ⟨b', off', y, e, _, hy, _, hc2⟩ := (h.below hb).at_ (k := k - 1) (by omega)
      injection e with e
      injection e with e1 e2
      subst e1 e2
      have hyx := asc_at ha (by omega) hy hx
      have d : decide (x ≤ y) = false := by simp; omega
      obtain ⟨m, rfl⟩ := Nat.exists_eq_add_of_le hk1
      have e3 : 1 + m - 1 = m := by omega
      rw [e3] at hc2
      have hk2 : ((1 + m : Nat) : Int) - 1 = (m : Int) := by omega
      have hk3 : (0 : Int) ≤ (m : Int) := by omega
      have hk4 : (m : Int) < (xs.length : Int) := by omega
      have hk5 : (0 : Int) ≤ ((1 + m : Nat) : Int) := by omega
      have hk6 : ((1 + m : Nat) : Int) < (xs.length : Int) := by omega
      have HB := hide hb
      clear hx hy hyx e3 hb hm hk
      go_wp2_with fail
      go_quiet (fail)
      go_wp2
      go_roundw
      case rel => exact ⟨1 + m + 1, by go_num, by omega, .inl (by omega), below_drewN HB.out _⟩
      case measure => simp [intOf]; omega
    · clear hk
      go_wp2
      go_ret
      exact ⟨rfl, hb⟩

end Go.Proofs.Ytmpplimghjkjaab
