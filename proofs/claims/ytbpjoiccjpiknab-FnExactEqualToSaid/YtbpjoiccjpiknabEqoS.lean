/-
  The model's EqualTo: what it returns.
-/
import Derived.Test.YtbpjoiccjpiknabEqtS
import Derived.Test.YtbpjoiccjpiknabSpecE
import Derived.Test.YtbpjoiccjpiknabPjAe
namespace Go.Proofs.Ytbpjoiccjpiknab
open Go.RowKit Go.Maps
set_option linter.unusedVariables false

set_option maxHeartbeats 2000000 in
theorem specEqualTo_any (A A' : Option Addr) (ns ms : List Nd) (c c' : Nat) (r s d : Int) (w : World) (hr : NdsAt w w.heap.size A ns) (hq : NdsAt w w.heap.size A' ms) :
    Calls Try.prog 5 #[.agg #[.slice A ns.length c, .int .i64 r], .agg #[.slice A' ms.length c', .int .i64 s], .int .i64 d] w fun e w' => e = .returned (.bool (tf (EqToG ns r ms s d))) ∧ Below w.heap.size w w' := by
  have hB2 : Below w.heap.size w ((w.alloc (.cells #[.slice A ns.length c, .int .i64 r] 29)).alloc (.cells #[.slice A' ms.length c', .int .i64 s] 29)) := ((Below.refl _ _).alloc (Nat.le_refl _) _).alloc (by simp) _
  have lA := (Lies.new w #[.slice A ns.length c, .int .i64 r] 29).alloc (.cells #[.slice A' ms.length c', .int .i64 s] 29)
  have lB := Lies.new (w.alloc (.cells #[.slice A ns.length c, .int .i64 r] 29)) #[.slice A' ms.length c', .int .i64 s] 29
  simp only [World.size_alloc] at lB
  have hr2 := hr.later hB2 (Nat.le_refl _)
  have hq2 := hq.later hB2 (Nat.le_refl _)
  clear hr hq
  go_enter Try.func5, Try.ntmps5
  go_wp2_with fail
  generalize (w.alloc (.cells #[.slice A ns.length c, .int .i64 r] 29)).alloc (.cells #[.slice A' ms.length c', .int .i64 s] 29) = W at hB2 lA lB hr2 hq2 ⊢
  refine (specValidGraph_any A ns c r W hr2).mono ?_
  rintro e w1 ⟨rfl, hb1⟩
  have lA1 := lA.below hb1 lA.lt
  have lB1 := lB.below hb1 lB.lt
  have hr3 := hr2.later hb1 (Nat.le_refl _)
  have hq3 := hq2.later hb1 (Nat.le_refl _)
  have hB3 := hB2.trans (hb1.mono hB2.size)
  have e0 := lA1.cell 0
  have e1 := lA1.cell 1
  have d0 := lB1.cell 0
  have d1 := lB1.cell 1
  simp only [List.getElem?_toArray, List.getElem?_cons_zero, List.getElem?_cons_succ] at e0 e1 d0 d1
  clear lA lB hr2 hq2 hB2 hb1
  by_cases hv : ValidG ns r
  · rw [tf_true hv]
    go_wp2_with fail
    refine (specValidGraph_any A' ms c' s w1 hq3).mono ?_
    rintro e w2 ⟨rfl, hb2⟩
    have lA2 := lA1.below hb2 lA1.lt
    have lB2 := lB1.below hb2 lB1.lt
    have hr4 := hr3.later hb2 (Nat.le_refl _)
    have hq4 := hq3.later hb2 (Nat.le_refl _)
    have hB4 := hB3.trans (hb2.mono hB3.size)
    clear e0 e1 d0 d1
    have e0 := lA2.cell 0
    have e1 := lA2.cell 1
    have d0 := lB2.cell 0
    have d1 := lB2.cell 1
    simp only [List.getElem?_toArray, List.getElem?_cons_zero, List.getElem?_cons_succ] at e0 e1 d0 d1
    clear lA1 lB1 hr3 hq3 hB3 hb2
    by_cases hwd : ValidG ms s ∧ 0 ≤ d ∧ d ≤ 8
    · obtain ⟨hw, hd0, hd8⟩ := hwd
      rw [tf_true hw]
      obtain ⟨dn, rfl⟩ := Int.eq_ofNat_of_zero_le hd0
      obtain ⟨i, rfl⟩ := Int.eq_ofNat_of_zero_le hv.root0
      obtain ⟨j, rfl⟩ := Int.eq_ofNat_of_zero_le hw.root0
      have hil : i < ns.length := by have := hv.root; omega
      have hjl : j < ms.length := by have := hw.root; omega
      have HQ := hide (equalTo_any dn (dn : Int) (hide rfl) (by omega) A A' ns ms c c' i j i j w2 hr4 hq4 (validG_kids hv) (validG_kids hw) hil hjl)
      have HE : Hid (tf (EqToG ns (i : Int) ms (j : Int) (dn : Int)) = tf (EqN ns ms dn (i : Int) (j : Int))) := hide (tf_congr ⟨fun h => by simpa [RootsEq, EqN] using h.2.2.2.2, fun h => ⟨hv, hw, hd0, hd8, by simpa [RootsEq, EqN] using h⟩⟩)
      have HB4 := hide hB4
      clear hv hw lA2 lB2 hr4 hq4 hB4
      go_wp2_with fail
      refine (inRange_yes (dn : Int) 0 8 w2 hd0 hd8).mono ?_
      rintro e wx ⟨rfl, rfl⟩
      go_wp2_with fail
      refine HQ.out.mono ?_
      clear HQ
      rintro e w3 ⟨rfl, hb3⟩
      have HB5 := hide (HB4.out.trans (hb3.mono HB4.out.size))
      clear e0 e1 d0 d1 hb3 HB4
      go_wp2
      go_ret
      exact ⟨ret_bool HE.out.symm, HB5.out⟩
    · have HE : Hid (tf (EqToG ns r ms s d) = false) := hide (tf_false fun h => hwd ⟨h.2.1, h.2.2.1, h.2.2.2.1⟩)
      have HB := hide hB4
      clear hv lA2 lB2 hr4 hq4 hB4 e0 e1 d0 d1
      by_cases hw : ValidG ms s
      · have hd : d < 0 ∨ 8 < d := by
          rcases Int.lt_or_le d 0 with h | h
          · exact .inl h
          · exact .inr (by rcases Int.lt_or_le 8 d with h2 | h2; exact h2; exact absurd ⟨hw, h, h2⟩ hwd)
        rw [tf_true hw]
        clear hw hwd
        go_wp2_with fail
        refine (inRange_no d 0 8 w2 hd).mono ?_
        rintro e wx ⟨rfl, rfl⟩
        clear hd
        go_wp2
        go_ret
        exact ⟨ret_bool HE.out.symm, HB.out⟩
      · rw [tf_false hw]
        clear hw hwd
        go_wp2
        go_ret
        exact ⟨ret_bool HE.out.symm, HB.out⟩
  · have HE : Hid (tf (EqToG ns r ms s d) = false) := hide (tf_false fun h => hv h.1)
    rw [tf_false hv]
    have HB := hide hB3
    clear hv lA1 lB1 hr3 hq3 hB3 e0 e1 d0 d1
    go_wp2
    go_ret
    exact ⟨ret_bool HE.out.symm, HB.out⟩

end Go.Proofs.Ytbpjoiccjpiknab
