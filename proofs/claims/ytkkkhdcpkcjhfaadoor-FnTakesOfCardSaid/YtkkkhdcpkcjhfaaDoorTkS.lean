/-
  The model's TakesOf: what it returns.
-/
import Derived.Test.YtkkkhdcpkcjhfaaDoorForms
import Derived.Test.YtkkkhdcpkcjhfaaDoorInR
import Derived.Deep.QuietTactic
import Derived.BigQuiet
namespace Go.Proofs.YtkkkhdcpkcjhfaaDoor
open Go.RowKit
set_option linter.unusedVariables false

/-- how many things an order of a code takes, and how many it pushes; -2 for other codes -/
def takesC (c : Int) : Int := if 0 ≤ c ∧ c ≤ 19 then takesOf c.toNat else -2
def pushesC (c : Int) : Int := if 0 ≤ c ∧ c ≤ 19 then pushesOf c.toNat else -2

def takesRow : Array Value := #[.int .i64 0, .int .i64 0, .int .i64 0, .int .i64 (-1), .int .i64 0, .int .i64 1, .int .i64 2, .int .i64 0, .int .i64 1, .int .i64 (-1), .int .i64 0, .int .i64 2, .int .i64 (-1), .int .i64 0, .int .i64 1, .int .i64 0, .int .i64 0, .int .i64 1, .int .i64 (-1), .int .i64 0]
def pushesRow : Array Value := #[.int .i64 1, .int .i64 1, .int .i64 1, .int .i64 1, .int .i64 1, .int .i64 1, .int .i64 1, .int .i64 1, .int .i64 0, .int .i64 0, .int .i64 1, .int .i64 0, .int .i64 0, .int .i64 1, .int .i64 0, .int .i64 0, .int .i64 1, .int .i64 0, .int .i64 0, .int .i64 0]

theorem rows_at : ∀ m : Nat, m < 20 → takesRow[m]? = some (.int .i64 (takesOf m)) ∧ pushesRow[m]? = some (.int .i64 (pushesOf m)) := by
  intro m hm
  have : m = 0 ∨ m = 1 ∨ m = 2 ∨ m = 3 ∨ m = 4 ∨ m = 5 ∨ m = 6 ∨ m = 7 ∨ m = 8 ∨ m = 9 ∨ m = 10 ∨ m = 11 ∨ m = 12 ∨ m = 13 ∨ m = 14 ∨ m = 15 ∨ m = 16 ∨ m = 17 ∨ m = 18 ∨ m = 19 := by omega
  rcases this with h | h | h | h | h | h | h | h | h | h | h | h | h | h | h | h | h | h | h | h <;> subst h <;> exact ⟨rfl, rfl⟩

set_option maxRecDepth 100000 in
set_option maxHeartbeats 1000000 in
theorem specTakesOf_any (c : Int) (w : World) :
    Calls Tryd.prog 6 #[.int .i64 c] w fun e w' => e = .returned (.tuple #[.int .i64 (takesC c), .int .i64 (pushesC c)]) ∧ Below w.heap.size w w' := by
  by_cases hc : 0 ≤ c ∧ c ≤ 19
  · obtain ⟨m, rfl⟩ := Int.eq_ofNat_of_zero_le hc.1
    have hm : m < 20 := by omega
    have h1 : takesC (m : Int) = takesOf m := by unfold takesC; rw [if_pos hc]; rfl
    have h2 : pushesC (m : Int) = pushesOf m := by unfold pushesC; rw [if_pos hc]; rfl
    rw [h1, h2]
    have l1 := (Lies.new w takesRow 3).alloc (.cells pushesRow 3)
    have l2 := Lies.new (w.alloc (.cells takesRow 3)) pushesRow 3
    have hB : Below w.heap.size w ((w.alloc (.cells takesRow 3)).alloc (.cells pushesRow 3)) := ((Below.refl _ _).alloc (Nat.le_refl _) _).alloc (by simp) _
    have R1 : Hid (takesRow.toList[m]'hm = .int .i64 (takesOf m)) := hide (by
      have := (rows_at m hm).1
      rw [Array.getElem?_eq_getElem hm] at this
      exact Option.some.inj this)
    have R2 : Hid (pushesRow.toList[m]'hm = .int .i64 (pushesOf m)) := hide (by
      have := (rows_at m hm).2
      rw [Array.getElem?_eq_getElem hm] at this
      exact Option.some.inj this)
    have e1 := (l1.cell m).trans (rows_at m hm).1
    have e2 := (l2.cell m).trans (rows_at m hm).2
    have hm1 : (0 : Int) ≤ (m : Int) := by omega
    have hm2 : (m : Int) < 20 := by omega
    have hm3 : (m : Int) ≤ 19 := by omega
    simp only [World.size_alloc] at e2
    clear h1 h2 l1 l2 hc
    go_enter Tryd.func6, Tryd.ntmps6
    go_wp2_with fail
    refine (inRange_yes (m : Int) 0 19 w (by omega) (by omega)).mono ?_
    rintro e w' ⟨rfl, rfl⟩
    go_wp2_with fail
    go_quiet (fail)
    go_wp2
    go_ret2
    refine ⟨?_, below_drewN hB _⟩
    show Ending.returned (.tuple #[takesRow.toList[m]'hm, pushesRow.toList[m]'hm]) = _
    rw [R1.out, R2.out]
  · have h1 : takesC c = -2 := by unfold takesC; rw [if_neg hc]
    have h2 : pushesC c = -2 := by unfold pushesC; rw [if_neg hc]
    rw [h1, h2]
    clear h1 h2
    go_enter Tryd.func6, Tryd.ntmps6
    go_wp2_with fail
    refine (inRange_no c 0 19 w (by omega)).mono ?_
    rintro e w' ⟨rfl, rfl⟩
    go_wp2
    go_ret2
    exact ⟨rfl, Below.refl _ _⟩

end Go.Proofs.YtkkkhdcpkcjhfaaDoor
