/-
  The program's CodeOf.
-/
import Derived.Test.YthdldkbeccmcmabCodF
import Derived.Test.YthdldkbeccmcmabImplD
namespace Go.Proofs.Ythdldkbeccmcmab
open Go.RowKit Go.Maps
set_option linter.unusedVariables false

set_option maxHeartbeats 1000000 in
theorem implCodeOf_any (A : Option Addr) (ns : List Nd) (c : Nat) (r : Int) (w : World) (hr : NdsAt w w.heap.size A ns) :
    Calls Try.prog 8 #[.agg #[.slice A ns.length c, .int .i64 r]] w (GivesInts w (codeOf ns r)) := by
  have hB : Below w.heap.size w (w.alloc (.cells #[.slice A ns.length c, .int .i64 r] 25)) := (Below.refl _ _).alloc (Nat.le_refl _) _
  have l1 := Lies.new w #[.slice A ns.length c, .int .i64 r] 25
  have hr2 := hr.later hB (Nat.le_refl _)
  have hwf := hide hr.wf
  clear hr
  by_cases hv : ValidG ns r
  · obtain ⟨i, rfl⟩ := Int.eq_ofNat_of_zero_le hv.root0
    have hg := hide (codG_of_valid hv hwf.out)
    have h12 := hv.few
    have hi : i < ns.length := by have := hv.root; omega
    have HV := hide hv
    have he : Hid (codeOf ns i = (cod ns (ns.length + 1) i ([], [])).1) := by show _ = _; unfold codeOf; rw [if_pos hv]
    clear hv
    go_enter Try.func8, Try.ntmps8
    go_wp2_with fail
    generalize w.alloc (.cells #[.slice A ns.length c, .int .i64 (i : Int)] 25) = W at hB l1 hr2 ⊢
    refine (implValid_any A ns c i W hr2).mono ?_
    rintro e w1 ⟨rfl, hb1⟩
    rw [tf_true HV.out]
    have l2 := l1.below hb1 l1.lt
    have hr3 := hr2.later hb1 (Nat.le_refl _)
    have hB1 := hB.trans (hb1.mono hB.size)
    have e0 := l2.cell 0
    have e1 := l2.cell 1
    simp at e0 e1
    have hi64 : In64 (i : Int) := by constructor <;> omega
    have hb0 : Below w1.heap.size w1 (w1.alloc (.cells #[.int .i64 (i : Int)] 3)) := (Below.refl _ _).alloc (Nat.le_refl _) _
    have hB1 := hB1.trans (hb0.mono hB1.size)
    have HN := hide (hr3.later hb0 (Nat.le_refl _))
    have h1R := (IntsAt.one w1 (i : Int) hi64).more (show w1.heap.size + 1 ≤ (w1.alloc (.cells #[.int .i64 (i : Int)] 3)).heap.size by simp)
    have H1R := hide h1R
    clear l1 hr2 hb1 hB hr3 h1R hb0
    go_wp2_with fail
    refine (codeFroms_any ns 6 hg.out (by omega) A c (some ⟨w1.heap.size, 0, none⟩) 1 [(i : Int)] (by simp; omega) _ HN.out H1R.out (fun x hx => by simp at hx; subst hx; omega)).mono ?_
    rw [codL_one]
    rintro e w2 ⟨Ao, co, rfl, hown, hb2⟩
    have Hfin : Hid (GivesInts w (codeOf ns i) (.returned (.slice Ao (cod ns (ns.length + 1) i ([], [])).1.length co)) w2) := by
      show GivesInts _ _ _ _
      rw [he.out]
      exact ⟨Ao, co, rfl, hown.mono hB1.size, hB1.trans (hb2.mono hB1.size)⟩
    clear hown hb2 e0 e1
    go_wp2
    go_ret
    exact Hfin.out
  · have HV := hide hv
    clear hv
    go_enter Try.func8, Try.ntmps8
    go_wp2_with fail
    refine (implValid_any A ns c r _ hr2).mono ?_
    rintro e w1 ⟨rfl, hb1⟩
    rw [tf_false HV.out]
    have hB1 := hB.trans (hb1.mono hB.size)
    clear hb1 hB hr2
    go_wp2
    go_ret
    unfold codeOf
    rw [if_neg HV.out]
    exact ⟨none, 0, rfl, OwnI.empty _ _, hB1⟩

end Go.Proofs.Ythdldkbeccmcmab
