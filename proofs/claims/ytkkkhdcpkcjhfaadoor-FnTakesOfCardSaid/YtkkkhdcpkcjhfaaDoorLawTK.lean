/-
  The walk of the law FnTakesOf: for every text it returns true and writes nothing that was there.
-/
import Derived.Test.YtkkkhdcpkcjhfaaDoorDrawTK
import Derived.Test.YtkkkhdcpkcjhfaaDoorTkI
namespace Go.Proofs.YtkkkhdcpkcjhfaaDoor
open Go.RowKit
set_option linter.unusedVariables false

theorem takes_range (c : Int) : (takesC c = -2 ∧ pushesC c = -2) ∨ (0 ≤ c ∧ c ≤ 19 ∧ -1 ≤ takesC c ∧ takesC c ≤ 2 ∧ 0 ≤ pushesC c ∧ pushesC c ≤ 1) := by
  unfold takesC pushesC
  by_cases h : 0 ≤ c ∧ c ≤ 19
  · rw [if_pos h, if_pos h]
    obtain ⟨m, rfl⟩ := Int.eq_ofNat_of_zero_le h.1
    refine .inr ⟨h.1, h.2, ?_⟩
    have hm : m < 20 := by omega
    rw [Int.toNat_natCast]
    have : m = 0 ∨ m = 1 ∨ m = 2 ∨ m = 3 ∨ m = 4 ∨ m = 5 ∨ m = 6 ∨ m = 7 ∨ m = 8 ∨ m = 9 ∨ m = 10 ∨ m = 11 ∨ m = 12 ∨ m = 13 ∨ m = 14 ∨ m = 15 ∨ m = 16 ∨ m = 17 ∨ m = 18 ∨ m = 19 := by omega
    rcases this with h | h | h | h | h | h | h | h | h | h | h | h | h | h | h | h | h | h | h | h <;> subst h <;> decide
  · rw [if_neg h, if_neg h]
    exact .inl ⟨rfl, rfl⟩

set_option maxRecDepth 100000 in
set_option maxHeartbeats 4000000 in
theorem lawTK_any (A : Option Addr) (n c : Nat) (w : World) (h : BytesAt w w.heap.size A n) (hc : n ≤ c) (hn : n ≤ 9223372036854775807) (hF : FormsAt w w.heap.size) :
    Calls Tryd.prog 3 #[.slice A n c] w fun e w' => e = .returned (.bool true) ∧ Below w.heap.size w w' := by
  by_cases hbig : 1048576 < n
  · have d : decide ((1048576 : Int) < (n : Int)) = true := by simp; omega
    go_enter Tryd.func3, Tryd.ntmps3
    go_wp2
    go_ret
    exact ⟨rfl, Below.refl _ _⟩
  · have d : decide ((1048576 : Int) < (n : Int)) = false := by simp; omega
    go_enter Tryd.func3, Tryd.ntmps3
    go_wp2_with fail
    refine (drawTakesOf_any A n c w h hc hn).mono ?_
    rintro e w1 ⟨⟨x, rfl⟩, hb1⟩
    have hF1 := hF.later hb1 (Nat.le_refl _)
    clear h hF
    have hI := implTakesOf_any x w1 hF1
    have hS := fun w2 => specTakesOf_any x w2
    have hR := takes_range x
    generalize takesC x = a at hI hS hR
    generalize pushesC x = b at hI hS hR
    clear hF1
    go_wp2_with fail
    refine hI.mono ?_
    rintro e w2 ⟨rfl, hb2⟩
    have hb12 := hb1.trans (hb2.mono hb1.size)
    clear hI hb2 hb1
    go_wp2_with fail
    refine (hS w2).mono ?_
    rintro e w3 ⟨rfl, hb3⟩
    have HB := hide (hb12.trans (hb3.mono hb12.size))
    clear hS hb3 hb12
    have na : (a != a) = false := by simp
    have nb : (b != b) = false := by simp
    have ea : (a == a) = true := by simp
    have eb : (b == b) = true := by simp
    rcases hR with ⟨ha, hb⟩ | ⟨h0, h1, h2, h3, h4, h5⟩
    · subst ha hb
      go_wp2
      go_ret
      exact ⟨rfl, HB.out⟩
    · have e2 : (a == -2) = false := beq_eq_false_iff_ne.2 (by omega)
      have d0 : decide (0 ≤ x) = true := by simpa using h0
      have d1 : decide (x ≤ 19) = true := by simpa using h1
      have d2 : decide (-1 ≤ a) = true := by simpa using h2
      have d3 : decide (a ≤ 2) = true := by simpa using h3
      have d4 : decide (0 ≤ b) = true := by simpa using h4
      have d5 : decide (b ≤ 1) = true := by simpa using h5
      clear h0 h1 h2 h3 h4 h5
      go_wp2
      go_ret
      exact ⟨rfl, HB.out⟩

end Go.Proofs.YtkkkhdcpkcjhfaaDoor
