/-
  Several small texts in one.
-/
import Derived.Test.YtodilbofjcgjbaaPkA
namespace Go.Proofs.Ytodilbofjcgjbaa
open Go.RowKit

theorem inRange_yes (n lo hi : Int) (w : World) (h1 : lo ≤ n) (h2 : n ≤ hi) :
    Calls Try.prog 31 #[.int .i64 n, .int .i64 lo, .int .i64 hi] w fun e w' => e = .returned (.bool true) ∧ w = w' := by
  have d1 : decide (lo ≤ n) = true := by simpa using h1
  have d2 : decide (n ≤ hi) = true := by simpa using h2
  go_enter Try.func31, Try.ntmps31
  go_wp2
  go_ret
  exact ⟨rfl, rfl⟩

theorem inRange_no (n lo hi : Int) (w : World) (h : n < lo ∨ hi < n) :
    Calls Try.prog 31 #[.int .i64 n, .int .i64 lo, .int .i64 hi] w fun e w' => e = .returned (.bool false) ∧ w = w' := by
  by_cases h1 : lo ≤ n
  · have h2 : ¬ n ≤ hi := by omega
    have d1 : decide (lo ≤ n) = true := by simpa using h1
    have d2 : decide (n ≤ hi) = false := by simpa using h2
    clear h
    go_enter Try.func31, Try.ntmps31
    go_wp2
    go_ret
    exact ⟨rfl, rfl⟩
  · have d1 : decide (lo ≤ n) = false := by simpa using h1
    clear h
    go_enter Try.func31, Try.ntmps31
    go_wp2
    go_ret
    exact ⟨rfl, rfl⟩

end Go.Proofs.Ytodilbofjcgjbaa
namespace Go.Proofs.Ytodilbofjcgjbaa
open Go.RowKit

set_option maxHeartbeats 1000000 in
theorem placeIn_any (A : Option Addr) (xs : List Int) (c : Nat) (n : Int) (w : World) (h : IntsAt w w.heap.size A xs) :
    Calls Try.prog 20 #[.slice A xs.length c, .int .i64 n] w fun e w' => e = .returned (.int .i64 (place xs n)) ∧ w = w' := by
  have hl := h.len
  go_enter Try.func20, Try.ntmps20
  go_wp2_with fail
  go_loop [5] (fun i => ∃ k : Nat, k ≤ xs.length ∧ i = .int .i64 k ∧ ∀ j, j < k → xs[j]? ≠ some n) (fun i => xs.length - (intOf i).toNat)
  case atStart => exact ⟨0, Nat.zero_le _, rfl, fun j hj => absurd hj (by omega)⟩
  case round =>
    obtain ⟨k, hk, rfl, he0⟩ := hrel
    have he := hide he0
    clear he0
    by_cases hlt : k < xs.length
    · obtain ⟨b, off, x, rfl, hbl, hx, _, hc⟩ := h.at_ hlt
      have Hx := hide hx
      clear hx
      by_cases hxn : x = n
      · subst hxn
        have HF := hide (place_at Hx.out he.out)
        go_wp2
        go_ret
        exact ⟨ret_int HF.out.symm, rfl⟩
      · have t : (x == n) = false := by simpa using hxn
        have he2 : ∀ j, j < k + 1 → xs[j]? ≠ some n := by
          intro j hj
          by_cases e : j = k
          · subst e; rw [Hx.out]; intro e; injection e with e; exact hxn e
          · exact he.out j (by omega)
        have He := hide he2
        clear he2 he hxn
        go_wp2
        go_round
        case rel => exact ⟨k + 1, by omega, by go_num, He.out⟩
        case measure => simp [intOf]; omega
    · obtain rfl : k = xs.length := by omega
      have HF := hide (place_none he.out)
      clear hlt
      go_wp2
      go_ret
      exact ⟨ret_int HF.out.symm, rfl⟩

end Go.Proofs.Ytodilbofjcgjbaa
namespace Go.Proofs.Ytodilbofjcgjbaa
open Go.RowKit

theorem isUpTo_yes (n hi : Int) (w : World) (h1 : 0 ≤ n) (h2 : n ≤ hi) :
    Calls Try.prog 21 #[.int .i64 n, .int .i64 hi] w fun e w' => e = .returned (.bool true) ∧ w = w' := by
  have d1 : decide (0 ≤ n) = true := by simpa using h1
  have d2 : decide (n ≤ hi) = true := by simpa using h2
  go_enter Try.func21, Try.ntmps21
  go_wp2
  go_ret
  exact ⟨rfl, rfl⟩

theorem isUpTo_no (n hi : Int) (w : World) (h : n < 0 ∨ hi < n) :
    Calls Try.prog 21 #[.int .i64 n, .int .i64 hi] w fun e w' => e = .returned (.bool false) ∧ w = w' := by
  by_cases h1 : 0 ≤ n
  · have h2 : ¬ n ≤ hi := by omega
    have d1 : decide (0 ≤ n) = true := by simpa using h1
    have d2 : decide (n ≤ hi) = false := by simpa using h2
    clear h
    go_enter Try.func21, Try.ntmps21
    go_wp2
    go_ret
    exact ⟨rfl, rfl⟩
  · have d1 : decide (0 ≤ n) = false := by simpa using h1
    clear h
    go_enter Try.func21, Try.ntmps21
    go_wp2
    go_ret
    exact ⟨rfl, rfl⟩

/-- whether a number is in 0..hi -/
def upB (n hi : Int) : Bool := decide (0 ≤ n ∧ n ≤ hi)
theorem upB_yes {n hi : Int} (h : 0 ≤ n ∧ n ≤ hi) : upB n hi = true := by unfold upB; simpa using h
theorem upB_no {n hi : Int} (h : ¬ (0 ≤ n ∧ n ≤ hi)) : upB n hi = false := by unfold upB; simpa using h

/-- the same for a region that only reads -/
theorem isUpTo_q (n hi : Int) (w : World) :
    Calls Try.prog 21 #[.int .i64 n, .int .i64 hi] w fun e w' => e = .returned (.bool (upB n hi)) ∧ w' = w := by
  by_cases h : 0 ≤ n ∧ n ≤ hi
  · rw [upB_yes h]
    exact (isUpTo_yes n hi w h.1 h.2).mono fun e w' ⟨a, b⟩ => ⟨a, b.symm⟩
  · rw [upB_no h]
    exact (isUpTo_no n hi w (by omega)).mono fun e w' ⟨a, b⟩ => ⟨a, b.symm⟩

end Go.Proofs.Ytodilbofjcgjbaa
namespace Go.Proofs.Ytodilbofjcgjbaa

theorem eq_of_prefix {α : Type} [DecidableEq α] {xs ys : List α} (h : xs.length = ys.length) {k : Nat} (hk : k = xs.length) (he : ∀ j, j < k → xs[j]? = ys[j]?) : xs = ys := by
  apply List.ext_getElem?
  intro j
  by_cases hj : j < k
  · exact he j hj
  · rw [List.getElem?_eq_none (by omega), List.getElem?_eq_none (by omega)]

end Go.Proofs.Ytodilbofjcgjbaa
