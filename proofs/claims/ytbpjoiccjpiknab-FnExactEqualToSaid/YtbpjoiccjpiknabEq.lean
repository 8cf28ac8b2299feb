/-
  The comparing function eqGraph only reads: it returns whether what its arguments read as is equal.
-/
import Derived.Test.YtbpjoiccjpiknabEqN
import Derived.Deep.QuietTactic
import Derived.BigQuiet
import Derived.StillTailTactics
namespace Go.Proofs.Ytbpjoiccjpiknab
open Go.RowKit

set_option maxHeartbeats 1000000 in
theorem eqGraph_any (A A' : Option Addr) (ms ns : List Nd) (r s : Int) (c c' : Nat) (w : World) (h : NdsAt w w.heap.size A ms) (h' : NdsAt w w.heap.size A' ns) :
    Calls Try.prog 8 #[.agg #[.slice A ms.length c, .int .i64 r], .agg #[.slice A' ns.length c', .int .i64 s]] w fun e w' =>
      e = .returned (.bool (decide (ms = ns) && decide (r = s))) ∧ Below w.heap.size w w' := by
  have hB : Below w.heap.size w ((w.alloc (.cells #[.slice A ms.length c, .int .i64 r] 29)).alloc (.cells #[.slice A' ns.length c', .int .i64 s] 29)) :=
    ((Below.refl _ _).alloc (Nat.le_refl _) _).alloc (by simp) _
  have l1 := (Lies.new w #[.slice A ms.length c, .int .i64 r] 29).alloc (.cells #[.slice A' ns.length c', .int .i64 s] 29)
  have l2 := Lies.new (w.alloc (.cells #[.slice A ms.length c, .int .i64 r] 29)) #[.slice A' ns.length c', .int .i64 s] 29
  have hi := h.later hB (Nat.le_refl _)
  have hi' := h'.later hB (Nat.le_refl _)
  clear h h'
  by_cases h3 : ms = ns
  · have t3 := hide (show decide (ms = ns) = true by simpa using h3)
    by_cases h1 : r = s
    · have t1 : (r != s) = false := by simpa using h1
      have HF := hide (show (decide (ms = ns) && decide (r = s)) = true by simp [h1, h3])
      clear h1 h3
      go_enter Try.func8, Try.ntmps8
      go_wp2_with fail
      refine (eqNodeS_any A A' ms ns c c' _ hi hi').mono ?_
      rintro e w' ⟨rfl, hb⟩
      rw [t3.out]
      have d1 := (l1.below hb (by simp; omega)).cell 1
      have d2 := (l2.below hb (by simp)).cell 1
      simp at d1 d2
      go_wp2
      go_ret
      exact ⟨ret_bool HF.out.symm, hB.trans (hb.mono (by simp; omega))⟩
    · have t1 : (r != s) = true := by simpa using h1
      have HF := hide (show (decide (ms = ns) && decide (r = s)) = false by simp [h1])
      clear h1 h3
      go_enter Try.func8, Try.ntmps8
      go_wp2_with fail
      refine (eqNodeS_any A A' ms ns c c' _ hi hi').mono ?_
      rintro e w' ⟨rfl, hb⟩
      rw [t3.out]
      have d1 := (l1.below hb (by simp; omega)).cell 1
      have d2 := (l2.below hb (by simp)).cell 1
      simp at d1 d2
      go_wp2
      go_ret
      exact ⟨ret_bool HF.out.symm, hB.trans (hb.mono (by simp; omega))⟩
  · have t3 := hide (show decide (ms = ns) = false by simpa using h3)
    have HF := hide (show (decide (ms = ns) && decide (r = s)) = false by simp [h3])
    clear h3
    go_enter Try.func8, Try.ntmps8
    go_wp2_with fail
    refine (eqNodeS_any A A' ms ns c c' _ hi hi').mono ?_
    rintro e w' ⟨rfl, hb⟩
    rw [t3.out]
    go_wp2
    go_ret
    exact ⟨ret_bool HF.out.symm, hB.trans (hb.mono (by simp; omega))⟩

end Go.Proofs.Ytbpjoiccjpiknab
