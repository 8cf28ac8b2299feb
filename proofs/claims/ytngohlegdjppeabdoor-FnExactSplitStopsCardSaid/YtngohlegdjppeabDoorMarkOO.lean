/-
  The marking functions markOpS and heldOpS of a slice of orders of the call's own.
-/
import Derived.Test.YtngohlegdjppeabDoorMarkO
import Derived.Test.YtngohlegdjppeabDoorOwnO
namespace Go.Proofs.YtngohlegdjppeabDoor
open Go.RowKit
set_option linter.unusedVariables false

/-- orders that are marked from k on -/
def marksO (k : Int) (n : Nat) : List Od := (List.range n).map fun (i : Nat) => ⟨k + 2 * (i : Int), k + 2 * (i : Int) + 1⟩

theorem marksO_len (k : Int) (n : Nat) : (marksO k n).length = n := by simp [marksO]
theorem marksO_at {k : Int} {n j : Nat} (h : j < n) : (marksO k n)[j]? = some ⟨k + 2 * (j : Int), k + 2 * (j : Int) + 1⟩ := by
  simp [marksO, h]
theorem marksO_64 {k : Int} {n : Nat} (h0 : 0 ≤ k) (h1 : k ≤ 1048576) (hn : n ≤ 1048576) : ∀ o ∈ marksO k n, In64 o.code ∧ In64 o.arg := by
  intro o ho
  obtain ⟨j, hj, rfl⟩ := List.mem_map.1 ho
  have := List.mem_range.1 hj
  refine ⟨⟨?_, ?_⟩, ⟨?_, ?_⟩⟩ <;> simp <;> omega

theorem marksO_vals {k : Int} {n i : Nat} (h : i < n * 2) : (opVals (marksO k n))[i]? = some (.int .i64 (k + (i : Int))) := by
  obtain ⟨j, hj⟩ : ∃ j, i = j * 2 ∨ i = j * 2 + 1 := ⟨i / 2, by omega⟩
  rcases hj with rfl | rfl
  · rw [opVals_code (marksO_at (by omega))]
    congr 2
    show k + 2 * (j : Int) = k + ((j * 2 : Nat) : Int)
    omega
  · rw [opVals_arg (marksO_at (by omega))]
    congr 2
    show k + 2 * (j : Int) + 1 = k + ((j * 2 + 1 : Nat) : Int)
    omega

set_option maxHeartbeats 400000 in
theorem markOpS_nil (c : Nat) (k0 : Int) (w : World) :
    Calls Tryd.prog 10 #[.slice none 0 c, .int .i64 k0] w fun e w' => e = .returned (.int .i64 k0) ∧ w = w' := by
  go_enter Tryd.func10, Tryd.ntmps10
  go_wp2_with fail
  refine wp_loop_rounds 1 ?_
  rw [rounds_succ]
  go_wp2
  go_ret
  exact ⟨rfl, rfl⟩

theorem markOpS_own (base : Nat) (A : Option Addr) (c : Nat) (os : List Od) (k0 : Int) (w : World) (h : OwnO w base A c os) (hk0 : 0 ≤ k0) (hk1 : k0 ≤ 1048576) (hn : os.length ≤ 1048576) :
    Calls Tryd.prog 10 #[.slice A os.length c, .int .i64 k0] w fun e w' => e = .returned (.int .i64 (k0 + 2 * (os.length : Int))) ∧ OwnO w' base A c (marksO k0 os.length) ∧
      (∀ lo hi, (∀ g, blockOf A = some g → lo ≤ g ∧ g < hi) → Only lo hi w w') := by
  rcases h.form with ⟨rfl, rfl, rfl⟩ | ⟨g, rfl, hb, hg⟩
  · refine (markOpS_nil 0 k0 w).mono fun e w' ⟨he, hw⟩ => ?_
    subst hw
    exact ⟨by rw [he]; simp, OwnO.empty _ _, fun lo hi _ => Only.refl _ _ _⟩
  · obtain ⟨cap, f, hrow, hle, hm, rfl, hbg⟩ := h.row
    refine (markOpS_row g 35 c c f k0 w hrow os.length hle hk0 hk1 hn).mono fun e w' ⟨he, hr, ho⟩ => ?_
    refine ⟨he, OwnO.of_row hr (by rw [marksO_len]; exact hle) hm hbg (fun i hi => ?_), fun lo hi hgb => ?_⟩
    · rw [marksO_len] at hi
      rw [marksO_vals hi, if_pos (by omega)]
    · have := hgb g rfl
      exact ho.mono this.1 (by omega)

set_option maxHeartbeats 1000000 in
theorem heldOpS_any (A : Option Addr) (n c : Nat) (k0 : Int) (w : World) (h : OpsAt w w.heap.size A (marksO k0 n)) (hk0 : 0 ≤ k0) (hk1 : k0 ≤ 1048576) (hn : n ≤ 1048576) :
    Calls Tryd.prog 18 #[.slice A n c, .int .i64 k0] w fun e w' => e = .returned (.int .i64 (k0 + 2 * (n : Int))) ∧ w = w' := by
  go_enter Tryd.func18, Tryd.ntmps18
  go_wp2_with fail
  go_loop [1, 5] (fun kv iv => ∃ j : Nat, j ≤ n ∧ iv = .int .i64 j ∧ kv = .int .i64 (k0 + 2 * (j : Int))) (fun _ iv => n - (intOf iv).toNat)
  case atStart => exact ⟨0, Nat.zero_le _, rfl, by go_num⟩
  case round =>
    obtain ⟨j, hj, rfl, rfl⟩ := hrel
    by_cases hlt : j < n
    · obtain ⟨b, off, x, rfl, hbl, hx, _, hc, hc1⟩ := h.at_ (k := j) (by rw [marksO_len]; exact hlt)
      rw [marksO_at hlt] at hx
      obtain rfl := Option.some.inj hx
      simp only at hc hc1
      have t : ((k0 + 2 * (j : Int)) != (k0 + 2 * (j : Int))) = false := by simp
      have t1 : ((k0 + 2 * (j : Int) + 1) != (k0 + 2 * (j : Int) + 1)) = false := by simp
      have hk2 : k0 + 2 * (j : Int) ≤ 9223372036854775800 := by omega
      have hk3 : 0 ≤ k0 + 2 * (j : Int) := by omega
      clear hx
      go_wp2
      go_round
      case rel => exact ⟨j + 1, by omega, by go_num, by go_num⟩
      case measure => simp [intOf]; omega
    · obtain rfl : j = n := by omega
      clear hlt
      go_wp2
      go_ret
      exact ⟨rfl, rfl⟩

end Go.Proofs.YtngohlegdjppeabDoor
