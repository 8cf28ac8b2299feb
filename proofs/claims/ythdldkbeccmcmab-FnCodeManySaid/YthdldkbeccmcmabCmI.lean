/-
  The program's CodeMany: what it returns.
-/
import Derived.Test.YthdldkbeccmcmabCmM
import Derived.Test.YthdldkbeccmcmabCodF
import Derived.Test.YthdldkbeccmcmabImplD
namespace Go.Proofs.Ythdldkbeccmcmab
open Go.RowKit Go.Maps
set_option linter.unusedVariables false

set_option maxHeartbeats 1000000 in
theorem areRoots_any (A : Option Addr) (ns : List Nd) (c : Nat) (r : Int) (Ar : Option Addr) (rs : List Int) (cr : Nat) (w : World) (hr : NdsAt w w.heap.size A ns) (hR : IntsAt w w.heap.size Ar rs) :
    Calls Try.prog 11 #[.agg #[.slice A ns.length c, .int .i64 r], .slice Ar rs.length cr] w fun e w' => e = .returned (.bool (tf (RootsOk ns r rs))) ∧ Below w.heap.size w w' := by
  have hB : Below w.heap.size w (w.alloc (.cells #[.slice A ns.length c, .int .i64 r] 25)) := (Below.refl _ _).alloc (Nat.le_refl _) _
  have l1 := Lies.new w #[.slice A ns.length c, .int .i64 r] 25
  have hr2 := hr.later hB (Nat.le_refl _)
  have hR2 := hR.later hB (Nat.le_refl _)
  have hnl := hr.len
  have hrl := hR.len
  clear hr hR
  by_cases hv : ValidG ns r
  · have HV := hide (tf_true hv)
    by_cases h5 : rs.length ≤ 5
    · have HE : Hid (tf (RootsOk ns r rs) = tf (Among ns.length rs)) := hide (tf_congr ⟨fun h x hx => by have := h.2.2 x hx; omega, fun h => ⟨hv, h5, fun x hx => by have := h x hx; omega⟩⟩)
      clear hv
      go_enter Try.func11, Try.ntmps11
      go_wp2_with fail
      generalize w.alloc (.cells #[.slice A ns.length c, .int .i64 r] 25) = W at hB l1 hr2 hR2 ⊢
      refine (implValid_any A ns c r W hr2).mono ?_
      rintro e w1 ⟨rfl, hb1⟩
      rw [HV.out]
      have l2 := l1.below hb1 l1.lt
      have hR3 := hR2.later hb1 (Nat.le_refl _)
      have hB1 := hB.trans (hb1.mono hB.size)
      have e0 := l2.cell 0
      simp at e0
      clear l1 hr2 hb1 hB hR2 l2
      go_wp2_with fail
      refine (areNodes_any Ar rs cr ns.length w1 hR3 (by omega)).mono ?_
      rintro e w' ⟨rfl, rfl⟩
      go_wp2
      go_ret
      exact ⟨ret_bool HE.out.symm, hB1⟩
    · have HF := hide (show tf (RootsOk ns r rs) = false from tf_false fun h => h5 h.2.1)
      clear hv
      go_enter Try.func11, Try.ntmps11
      go_wp2_with fail
      refine (implValid_any A ns c r _ hr2).mono ?_
      rintro e w1 ⟨rfl, hb1⟩
      rw [HV.out]
      have hB1 := hB.trans (hb1.mono hB.size)
      clear l1 hr2 hb1 hB hR2
      go_wp2
      go_ret
      exact ⟨ret_bool HF.out.symm, hB1⟩
  · have HF := hide (show tf (RootsOk ns r rs) = false from tf_false fun h => hv h.1)
    have HV := hide (tf_false hv)
    clear hv
    go_enter Try.func11, Try.ntmps11
    go_wp2_with fail
    refine (implValid_any A ns c r _ hr2).mono ?_
    rintro e w1 ⟨rfl, hb1⟩
    rw [HV.out]
    have hB1 := hB.trans (hb1.mono hB.size)
    clear l1 hr2 hb1 hB hR2
    go_wp2
    go_ret
    exact ⟨ret_bool HF.out.symm, hB1⟩

set_option maxHeartbeats 1000000 in
theorem implCodeMany_any (A : Option Addr) (ns : List Nd) (c : Nat) (r : Int) (Ar : Option Addr) (rs : List Int) (cr : Nat) (w : World) (hr : NdsAt w w.heap.size A ns) (hR : IntsAt w w.heap.size Ar rs) :
    Calls Try.prog 5 #[.agg #[.slice A ns.length c, .int .i64 r], .slice Ar rs.length cr] w (GivesInts w (codeMany ns r rs)) := by
  have hB : Below w.heap.size w (w.alloc (.cells #[.slice A ns.length c, .int .i64 r] 25)) := (Below.refl _ _).alloc (Nat.le_refl _) _
  have l1 := Lies.new w #[.slice A ns.length c, .int .i64 r] 25
  have hr2 := hr.later hB (Nat.le_refl _)
  have hR2 := hR.later hB (Nat.le_refl _)
  have hwf := hide hr.wf
  clear hr hR
  by_cases hv : RootsOk ns r rs
  · have HV := hide (tf_true hv)
    have hg := hide (codG_of_valid hv.1 hwf.out)
    have h12 := hv.1.few
    have h5 := hv.2.1
    have Hin := hide hv.2.2
    have he := hide (codeMany_ok hv)
    clear hv
    go_enter Try.func5, Try.ntmps5
    go_wp2_with fail
    generalize w.alloc (.cells #[.slice A ns.length c, .int .i64 r] 25) = W at hB l1 hr2 hR2 ⊢
    refine (areRoots_any A ns c r Ar rs cr W hr2 hR2).mono ?_
    rintro e w1 ⟨rfl, hb1⟩
    rw [HV.out]
    have l2 := l1.below hb1 l1.lt
    have hr3 := hr2.later hb1 (Nat.le_refl _)
    have hR3 := hR2.later hb1 (Nat.le_refl _)
    have hB1 := hB.trans (hb1.mono hB.size)
    have e0 := l2.cell 0
    have e1 := l2.cell 1
    simp at e0 e1
    clear l1 hr2 hb1 hB hR2 l2
    go_wp2_with fail
    refine (codeFroms_any ns 6 hg.out (by omega) A c Ar cr rs (by omega) w1 hr3 hR3 Hin.out).mono ?_
    rintro e w2 ⟨Ao, co, rfl, hown, hb2⟩
    have Hfin : Hid (GivesInts w (codeMany ns r rs) (.returned (.slice Ao (codesOf ns rs).length co)) w2) := by
      show GivesInts _ _ _ _
      rw [he.out]
      exact ⟨Ao, co, rfl, hown.mono hB1.size, hB1.trans (hb2.mono hB1.size)⟩
    clear hown hb2 e0 e1
    go_wp2
    go_ret
    exact Hfin.out
  · have HV := hide (tf_false hv)
    have he := hide (codeMany_no hv)
    clear hv
    go_enter Try.func5, Try.ntmps5
    go_wp2_with fail
    refine (areRoots_any A ns c r Ar rs cr _ hr2 hR2).mono ?_
    rintro e w1 ⟨rfl, hb1⟩
    rw [HV.out]
    have hB1 := hB.trans (hb1.mono hB.size)
    clear hb1 hB hr2 hR2 l1
    go_wp2
    go_ret
    rw [he.out]
    exact ⟨none, 0, rfl, OwnI.empty _ _, hB1⟩

end Go.Proofs.Ythdldkbeccmcmab
