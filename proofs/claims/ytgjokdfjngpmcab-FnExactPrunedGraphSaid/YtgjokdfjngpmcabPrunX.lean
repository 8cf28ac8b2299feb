/-
  The model's PrunedGraph: what it returns.
-/
import Derived.Test.YtgjokdfjngpmcabPrunS
import Derived.Test.YtgjokdfjngpmcabSpecE
namespace Go.Proofs.Ytgjokdfjngpmcab
open Go.RowKit Go.Maps
set_option linter.unusedVariables false

set_option maxHeartbeats 1000000 in
theorem specPrunedGraph_any (A : Option Addr) (ns : List Nd) (c : Nat) (r : Int) (w : World) (hr : NdsAt w w.heap.size A ns) :
    Calls Try.prog 5 #[.agg #[.slice A ns.length c, .int .i64 r]] w (ReadsG w (prunedOf ns r) 0) := by
  have hB2 : Below w.heap.size w ((w.alloc (.cells #[.slice A ns.length c, .int .i64 r] 28)).alloc (.cells #[.slice none 0 0, .int .i64 0] 28)) := ((Below.refl _ _).alloc (Nat.le_refl _) _).alloc (by simp) _
  have lG := (Lies.new w #[.slice A ns.length c, .int .i64 r] 28).alloc (.cells #[.slice none 0 0, .int .i64 0] 28)
  have lR := Lies.new (w.alloc (.cells #[.slice A ns.length c, .int .i64 r] 28)) #[.slice none 0 0, .int .i64 0] 28
  simp only [World.size_alloc] at lR
  have hr2 := hr.later hB2 (Nat.le_refl _)
  clear hr
  go_enter Try.func5, Try.ntmps5
  go_wp2_with fail
  generalize (w.alloc (.cells #[.slice A ns.length c, .int .i64 r] 28)).alloc (.cells #[.slice none 0 0, .int .i64 0] 28) = W at hB2 lG lR hr2 ⊢
  refine (specValidGraph_any A ns c r W hr2).mono ?_
  rintro e w1 ⟨rfl, hb1⟩
  have lG1 := lG.below hb1 lG.lt
  have lR1 := lR.below hb1 lR.lt
  have hr3 := hr2.later hb1 (Nat.le_refl _)
  have hB3 := hB2.trans (hb1.mono hB2.size)
  have e0 := lG1.cell 0
  have e1 := lG1.cell 1
  simp at e0 e1
  clear lG lR hr2 hB2 hb1
  by_cases hv : ValidG ns r
  · rw [tf_true hv]
    obtain ⟨i, rfl⟩ := Int.eq_ofNat_of_zero_le hv.root0
    have HV := hide hv
    have hRl := lR1.lt
    clear hv
    go_wp2_with fail
    refine (specPruned_yes A ns c i w1 hr3 HV.out).mono ?_
    rintro e w2 ⟨Ap, cp, rfl, hrow, hwf, hb2⟩
    have lR2 := lR1.below hb2 hRl
    have l5 := (lR2.set 0 (.slice Ap (pickNs ns (reachOf ns (i : Int))).length cp)).set 1 (.int .i64 0)
    simp only [List.setIfInBounds_toArray, List.set_cons_succ, List.set_cons_zero] at l5
    have s0 := l5.cell 0
    have s1 := l5.cell 1
    have b0 := lR2.cell 0
    have b1 := lR2.cell 1
    have f0 := lR2.frozen 0
    have f1 := lR2.frozen 1
    simp only [List.getElem?_toArray, List.getElem?_cons_zero, List.getElem?_cons_succ] at s0 s1 b0 b1
    have hk := hrow.keep (w' := (w2.setCell ⟨w.heap.size + 1, 0, none⟩ (.slice Ap (pickNs ns (reachOf ns (i : Int))).length cp)).setCell ⟨w.heap.size + 1, 1, none⟩ (.int .i64 0)) (fun b hb _ => (Below.heap_setCell _ _ _ _ (by show b ≠ w.heap.size + 1; omega)).trans (Below.heap_setCell _ _ _ _ (by show b ≠ w.heap.size + 1; omega)))
    have HG := hide (show ReadsG w (pickNs ns (reachOf ns (i : Int))) 0 (.returned (.agg #[.slice Ap (pickNs ns (reachOf ns (i : Int))).length cp, .int .i64 0])) _ from ⟨Ap, cp, rfl, hk.low (by omega), hwf, ((hB3.trans (hb2.mono hB3.size)).setCell (p := ⟨w.heap.size + 1, 0, none⟩) (by show w.heap.size ≤ w.heap.size + 1; omega) _).setCell (p := ⟨w.heap.size + 1, 1, none⟩) (by show w.heap.size ≤ w.heap.size + 1; omega) _⟩)
    clear l5 lR2 hb2 hk hrow hwf lR1 lG1 hr3 hB3 e0 e1
    go_wp2
    refine bodyPost_ret (v := .agg #[.slice Ap (pickNs ns (reachOf ns (i : Int))).length cp, .int .i64 0]) (by simp [results, Try.results5, go_sem, s0, s1]) rfl ?_
    unfold prunedOf
    rw [if_pos HV.out]
    exact HG.out
  · rw [tf_false hv]
    have HV := hide hv
    have l5 := (lR1.set 0 (.slice none 0 0)).set 1 (.int .i64 0)
    simp only [List.setIfInBounds_toArray, List.set_cons_succ, List.set_cons_zero] at l5
    have s0 := l5.cell 0
    have s1 := l5.cell 1
    have b0 := lR1.cell 0
    have b1 := lR1.cell 1
    have f0 := lR1.frozen 0
    have f1 := lR1.frozen 1
    simp only [List.getElem?_toArray, List.getElem?_cons_zero, List.getElem?_cons_succ] at s0 s1 b0 b1
    have HB := hide ((hB3.setCell (p := ⟨w.heap.size + 1, 0, none⟩) (by show w.heap.size ≤ w.heap.size + 1; omega) (.slice none 0 0)).setCell (p := ⟨w.heap.size + 1, 1, none⟩) (by show w.heap.size ≤ w.heap.size + 1; omega) (.int .i64 0))
    clear hv l5 lR1 lG1 hr3 hB3 e0 e1
    go_wp2
    refine bodyPost_ret (v := .agg #[.slice none 0 0, .int .i64 0]) (by simp [results, Try.results5, go_sem, s0, s1]) rfl ?_
    unfold prunedOf
    rw [if_neg HV.out]
    exact ⟨none, 0, rfl, RowN.nil _ _, fun n hn => by simp at hn, HB.out⟩

end Go.Proofs.Ytgjokdfjngpmcab
