/-
  ClassesOf, the model's: what it returns.
-/
import Derived.Test.YtjpikloecadhkaaClaS
import Derived.Test.YtjpikloecadhkaaPjAd
import Derived.Test.YtjpikloecadhkaaSpecE
namespace Go.Proofs.Ytjpikloecadhkaa
open Go.RowKit Go.Maps
set_option linter.unusedVariables false

set_option maxHeartbeats 1000000 in
theorem specClassesOf_any (A : Option Addr) (ns : List Nd) (c : Nat) (r : Int) (w : World) (hr : NdsAt w w.heap.size A ns) :
    Calls Try.prog 5 #[.agg #[.slice A ns.length c, .int .i64 r]] w (GivesInts w (clsOf ns r)) := by
  have hB : Below w.heap.size w (w.alloc (.cells #[.slice A ns.length c, .int .i64 r] 30)) := (Below.refl _ _).alloc (Nat.le_refl _) _
  have l1 := Lies.new w #[.slice A ns.length c, .int .i64 r] 30
  have hr2 := hr.later hB (Nat.le_refl _)
  clear hr
  go_enter Try.func5, Try.ntmps5
  go_wp2_with fail
  generalize w.alloc (.cells #[.slice A ns.length c, .int .i64 r] 30) = W at hB l1 hr2 ⊢
  refine (specValidGraph_any A ns c r W hr2).mono ?_
  rintro e w1 ⟨rfl, hb1⟩
  have l2 := l1.below hb1 l1.lt
  have hr3 := hr2.later hb1 (Nat.le_refl _)
  have hB1 := hB.trans (hb1.mono hB.size)
  have e0 := l2.cell 0
  simp at e0
  clear l1 hr2 hb1 hB l2
  by_cases hv : ValidG ns r
  · have HE := hide (cls_yes hv)
    have hK := validG_kids hv
    have h12 := hv.few
    rw [tf_true hv]
    clear hv
    go_wp2_with fail
    refine (specClasses_any A ns c w1 hr3 hK (by omega)).mono ?_
    rintro e w2 ⟨Ag, cg, rfl, ho, hb⟩
    have H := hide (And.intro (ho.mono hB1.size) (hB1.trans (hb.mono hB1.size)))
    rw [← HE.out] at H ⊢
    clear ho hb e0 hr3 hK
    go_wp2
    go_ret
    exact ⟨Ag, cg, rfl, H.out.1, H.out.2⟩
  · have HE := hide (cls_no hv)
    rw [tf_false hv]
    have HB := hide hB1
    clear hv e0 hr3 hB1
    go_wp2
    go_ret
    rw [HE.out]
    exact ⟨none, 0, rfl, OwnI.empty _ _, HB.out⟩

end Go.Proofs.Ytjpikloecadhkaa
