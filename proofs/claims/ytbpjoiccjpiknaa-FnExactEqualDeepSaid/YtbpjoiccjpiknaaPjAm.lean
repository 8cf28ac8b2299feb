/-
  Lemmas, several texts in one: OwnRD, ShcM, Eq.
-/
import Derived.Test.YtbpjoiccjpiknaaRowD
import Derived.Test.YtbpjoiccjpiknaaSpecE
import Derived.Test.YtbpjoiccjpiknaaEqN
import Derived.Deep.QuietTactic
import Derived.BigQuiet
import Derived.StillTailTactics
namespace Go.Proofs.Ytbpjoiccjpiknaa
open Go.RowKit
set_option linter.unusedVariables false

theorem OwnRow.rowD {w : World} {lo hi g cap : Nat} {ns : List Nd} (h : OwnRow w lo hi g cap ns) (hc : cap ≤ maxLen) : RowD w lo hi (some ⟨g, 0, none⟩) cap ns := by
  obtain ⟨f, cur, h1, h2, h3⟩ := h.row
  have hle := h.le
  have hat : ∀ i, i < ns.length * 3 → (cur.toList.take (ns.length * 3))[i]? = w.cell? ⟨g, i, none⟩ := fun i hi => by
    rw [List.getElem?_take_of_lt hi, Array.getElem?_toList, cell_of_row w g i cur _ _ h1]
  refine ⟨⟨cur.toList.take (ns.length * 3), ⟨by simp; omega, .inr ⟨g, cap, cur, rfl, h.hlo, h1, hle, hc, h2, rfl⟩⟩, fun j n hj => ?_, fun i j A1 A2 n1 n2 c1 c2 hij hj d1 d2 => ?_, fun i A1 n1 c1 hi d1 b hb => ?_⟩⟩
  · have hjl := (List.getElem?_eq_some_iff.1 hj).1
    have hn := h.nd j n hj
    obtain ⟨A1, c1, k1, k2, _⟩ := hn.kids
    exact ⟨A1, c1, (hat _ (by omega)).trans hn.kind, (hat _ (by omega)).trans hn.value, (hat _ (by omega)).trans k1, k2⟩
  · rw [hat _ (by omega)] at d1 d2
    exact h.dis i j A1 A2 n1 n2 c1 c2 (by omega) (by omega) hj d1 d2
  · rw [hat _ (by omega)] at d1
    obtain ⟨A3, c3, k1, _, k3⟩ := (h.nd i _ (List.getElem?_eq_getElem hi)).kids
    rw [d1] at k1
    injection k1 with k1
    injection k1 with k1 _ _
    subst k1
    exact (k3 b hb).1

end Go.Proofs.Ytbpjoiccjpiknaa

namespace Go.Proofs.Ytbpjoiccjpiknaa
open Go.RowKit
set_option linter.unusedVariables false

/-- the root's node once more behind the others -/
def rootNd (ns : List Nd) (r : Int) : Nd := (ns[r.toNat]?).getD ⟨0, 0, []⟩
theorem rootNd_at {ns : List Nd} {i : Nat} {n : Nd} (h : ns[i]? = some n) : rootNd ns (i : Int) = n := by
  unfold rootNd
  rw [Int.toNat_natCast, h]
  rfl

open Classical in
noncomputable def shalN (ns : List Nd) (r : Int) : List Nd := if ValidG ns r ∧ ns.length ≠ 12 then ns ++ [rootNd ns r] else []
open Classical in
noncomputable def shalR (ns : List Nd) (r : Int) : Int := if ValidG ns r ∧ ns.length ≠ 12 then (ns.length : Int) else 0

theorem shalN_yes {ns : List Nd} {r : Int} (h : ValidG ns r) (h2 : ns.length ≠ 12) : shalN ns r = ns ++ [rootNd ns r] := if_pos ⟨h, h2⟩
theorem shalR_yes {ns : List Nd} {r : Int} (h : ValidG ns r) (h2 : ns.length ≠ 12) : shalR ns r = ns.length := if_pos ⟨h, h2⟩
theorem shalN_no {ns : List Nd} {r : Int} (h : ¬ (ValidG ns r ∧ ns.length ≠ 12)) : shalN ns r = [] := if_neg h
theorem shalR_no {ns : List Nd} {r : Int} (h : ¬ (ValidG ns r ∧ ns.length ≠ 12)) : shalR ns r = 0 := if_neg h

end Go.Proofs.Ytbpjoiccjpiknaa

namespace Go.Proofs.Ytbpjoiccjpiknaa
open Go.RowKit

set_option maxHeartbeats 1000000 in
theorem eqGraph_any (A A' : Option Addr) (ms ns : List Nd) (r s : Int) (c c' : Nat) (w : World) (h : NdsAt w w.heap.size A ms) (h' : NdsAt w w.heap.size A' ns) :
    Calls Try.prog 8 #[.agg #[.slice A ms.length c, .int .i64 r], .agg #[.slice A' ns.length c', .int .i64 s]] w fun e w' =>
      e = .returned (.bool (decide (ms = ns) && decide (r = s))) ∧ Below w.heap.size w w' := by
  have hB : Below w.heap.size w ((w.alloc (.cells #[.slice A ms.length c, .int .i64 r] 29)).alloc (.cells #[.slice A' ns.length c', .int .i64 s] 29)) :=
    ((Below.refl _ _).alloc (Nat.le_refl _) _).alloc (by simp) _
  have l1 := (Lies.new w #[.slice A ms.length c, .int .i64 r] 29).alloc (.cells #[.slice A' ns.length c', .int .i64 s] 29)
  have l2 := Lies.new (w.alloc (.cells #[.slice A ms.length c, .int .i64 r] 29)) #[.slice A' ns.length c', .int .i64 s] 29
  have hi := h.later hB (Nat.le_refl _)
  have hi' := h'.later hB (Nat.le_refl _)
  clear h h'
  by_cases h3 : ms = ns
  · have t3 := hide (show decide (ms = ns) = true by simpa using h3)
    by_cases h1 : r = s
    · have t1 : (r != s) = false := by simpa using h1
      have HF := hide (show (decide (ms = ns) && decide (r = s)) = true by simp [h1, h3])
      clear h1 h3
      go_enter Try.func8, Try.ntmps8
      go_wp2_with fail
      refine (eqNodeS_any A A' ms ns c c' _ hi hi').mono ?_
      rintro e w' ⟨rfl, hb⟩
      rw [t3.out]
      have d1 := (l1.below hb (by simp; omega)).cell 1
      have d2 := (l2.below hb (by simp)).cell 1
      simp at d1 d2
      go_wp2
      go_ret
      exact ⟨ret_bool HF.out.symm, hB.trans (hb.mono (by simp; omega))⟩
    · have t1 : (r != s) = true := by simpa using h1
      have HF := hide (show (decide (ms = ns) && decide (r = s)) = false by simp [h1])
      clear h1 h3
      go_enter Try.func8, Try.ntmps8
      go_wp2_with fail
      refine (eqNodeS_any A A' ms ns c c' _ hi hi').mono ?_
      rintro e w' ⟨rfl, hb⟩
      rw [t3.out]
      have d1 := (l1.below hb (by simp; omega)).cell 1
      have d2 := (l2.below hb (by simp)).cell 1
      simp at d1 d2
      go_wp2
      go_ret
      exact ⟨ret_bool HF.out.symm, hB.trans (hb.mono (by simp; omega))⟩
  · have t3 := hide (show decide (ms = ns) = false by simpa using h3)
    have HF := hide (show (decide (ms = ns) && decide (r = s)) = false by simp [h3])
    clear h3
    go_enter Try.func8, Try.ntmps8
    go_wp2_with fail
    refine (eqNodeS_any A A' ms ns c c' _ hi hi').mono ?_
    rintro e w' ⟨rfl, hb⟩
    rw [t3.out]
    go_wp2
    go_ret
    exact ⟨ret_bool HF.out.symm, hB.trans (hb.mono (by simp; omega))⟩

end Go.Proofs.Ytbpjoiccjpiknaa
