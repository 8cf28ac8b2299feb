/-
  Lemmas, several texts in one: InR, UpTo.
-/
import Derived.Test.YthgklkpfmjgeoaaMem
namespace Go.Proofs.Ythgklkpfmjgeoaa
open Go.RowKit

theorem inRange_yes (n lo hi : Int) (w : World) (h1 : lo ≤ n) (h2 : n ≤ hi) :
    Calls Try.prog 39 #[.int .i64 n, .int .i64 lo, .int .i64 hi] w fun e w' => e = .returned (.bool true) ∧ w = w' := by
  have d1 : decide (lo ≤ n) = true := by simpa using h1
  have d2 : decide (n ≤ hi) = true := by simpa using h2
  go_enter Try.func39, Try.ntmps39
  go_wp2
  go_ret
  exact ⟨rfl, rfl⟩

theorem inRange_no (n lo hi : Int) (w : World) (h : n < lo ∨ hi < n) :
    Calls Try.prog 39 #[.int .i64 n, .int .i64 lo, .int .i64 hi] w fun e w' => e = .returned (.bool false) ∧ w = w' := by
  by_cases h1 : lo ≤ n
  · have h2 : ¬ n ≤ hi := by omega
    have d1 : decide (lo ≤ n) = true := by simpa using h1
    have d2 : decide (n ≤ hi) = false := by simpa using h2
    clear h
    go_enter Try.func39, Try.ntmps39
    go_wp2
    go_ret
    exact ⟨rfl, rfl⟩
  · have d1 : decide (lo ≤ n) = false := by simpa using h1
    clear h
    go_enter Try.func39, Try.ntmps39
    go_wp2
    go_ret
    exact ⟨rfl, rfl⟩

end Go.Proofs.Ythgklkpfmjgeoaa

namespace Go.Proofs.Ythgklkpfmjgeoaa
open Go.RowKit

theorem isUpTo_yes (n hi : Int) (w : World) (h1 : 0 ≤ n) (h2 : n ≤ hi) :
    Calls Try.prog 18 #[.int .i64 n, .int .i64 hi] w fun e w' => e = .returned (.bool true) ∧ w = w' := by
  have d1 : decide (0 ≤ n) = true := by simpa using h1
  have d2 : decide (n ≤ hi) = true := by simpa using h2
  go_enter Try.func18, Try.ntmps18
  go_wp2
  go_ret
  exact ⟨rfl, rfl⟩

theorem isUpTo_no (n hi : Int) (w : World) (h : n < 0 ∨ hi < n) :
    Calls Try.prog 18 #[.int .i64 n, .int .i64 hi] w fun e w' => e = .returned (.bool false) ∧ w = w' := by
  by_cases h1 : 0 ≤ n
  · have h2 : ¬ n ≤ hi := by omega
    have d1 : decide (0 ≤ n) = true := by simpa using h1
    have d2 : decide (n ≤ hi) = false := by simpa using h2
    clear h
    go_enter Try.func18, Try.ntmps18
    go_wp2
    go_ret
    exact ⟨rfl, rfl⟩
  · have d1 : decide (0 ≤ n) = false := by simpa using h1
    clear h
    go_enter Try.func18, Try.ntmps18
    go_wp2
    go_ret
    exact ⟨rfl, rfl⟩

/-- whether a number is in 0..hi -/
def upB (n hi : Int) : Bool := decide (0 ≤ n ∧ n ≤ hi)
theorem upB_yes {n hi : Int} (h : 0 ≤ n ∧ n ≤ hi) : upB n hi = true := by unfold upB; simpa using h
theorem upB_no {n hi : Int} (h : ¬ (0 ≤ n ∧ n ≤ hi)) : upB n hi = false := by unfold upB; simpa using h

/-- the same for a region that only reads -/
theorem isUpTo_q (n hi : Int) (w : World) :
    Calls Try.prog 18 #[.int .i64 n, .int .i64 hi] w fun e w' => e = .returned (.bool (upB n hi)) ∧ w' = w := by
  by_cases h : 0 ≤ n ∧ n ≤ hi
  · rw [upB_yes h]
    exact (isUpTo_yes n hi w h.1 h.2).mono fun e w' ⟨a, b⟩ => ⟨a, b.symm⟩
  · rw [upB_no h]
    exact (isUpTo_no n hi w (by omega)).mono fun e w' ⟨a, b⟩ => ⟨a, b.symm⟩

end Go.Proofs.Ythgklkpfmjgeoaa
