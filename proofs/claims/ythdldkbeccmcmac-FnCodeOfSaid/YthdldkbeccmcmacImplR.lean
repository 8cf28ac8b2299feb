/-
  The program's ReachOf: it returns the same nodes as the model.
-/
import Derived.Test.YthdldkbeccmcmacWalkA
import Derived.Test.YthdldkbeccmcmacImplD
import Derived.Test.YthdldkbeccmcmacPjAf
namespace Go.Proofs.Ythdldkbeccmcmac
open Go.RowKit Go.Maps
set_option linter.unusedVariables false

set_option maxHeartbeats 400000 in
theorem enters_any (ns : List Nd) : WalkA.Enters ns anyB := by
  intro k n A c w _
  go_enter Try.func45, Try.ntmps45
  go_wp2
  go_ret
  exact ⟨rfl, (Below.refl _ _).alloc (Nat.le_refl _) _⟩

set_option maxHeartbeats 1000000 in
theorem reachFrom_yes (A : Option Addr) (ns : List Nd) (c : Nat) (i : Nat) (w : World) (hr : NdsAt w w.heap.size A ns) (hv : ValidG ns (i : Int)) :
    Calls Try.prog 33 #[.agg #[.slice A ns.length c, .int .i64 (i : Int)]] w (GivesInts w (reachOf ns i)) := by
  have hB : Below w.heap.size w (w.alloc (.cells #[.slice A ns.length c, .int .i64 (i : Int)] 25)) := (Below.refl _ _).alloc (Nat.le_refl _) _
  have l1 := Lies.new w #[.slice A ns.length c, .int .i64 (i : Int)] 25
  have hr3 := hr.later hB (Nat.le_refl _)
  have hi : i < ns.length := by have := hv.root; omega
  have hi12 := hv.few
  have HV := hide hv
  clear hr hv
  go_enter Try.func33, Try.ntmps33
  go_wp2_with fail
  have l2 := l1
  have hzz : (w.alloc (.cells #[.slice A ns.length c, .int .i64 (i : Int)] 25)).heap.size = w.heap.size + 1 := by simp
  have HZZ := hide hzz
  clear hzz
  generalize w.alloc (.cells #[.slice A ns.length c, .int .i64 (i : Int)] 25) = w1 at hB l1 l2 hr3 HZZ ⊢
  have hB1 := hB
  have hsz := l2.lt
  clear l1 hB
  have hb2 : Below w1.heap.size w1 (w1.alloc (.cells #[.int .i64 (i : Int)] 3)) := (Below.refl _ _).alloc (Nat.le_refl _) _
  have hr4 := hr3.later hb2 (Nat.le_refl _)
  have hB2 := hB1.trans (hb2.mono (by omega))
  have hI : IntsAt (w1.alloc (.cells #[.int .i64 (i : Int)] 3)) (w1.alloc (.cells #[.int .i64 (i : Int)] 3)).heap.size (some ⟨w.heap.size + 1, 0, none⟩) [(i : Int)] := by
    have := IntsAt.one w1 (i : Int) (by constructor <;> omega)
    rw [← HZZ.out]
    simpa using this
  generalize w1.alloc (.cells #[.int .i64 (i : Int)] 3) = w2 at hb2 hr4 hB2 hI ⊢
  refine (WalkA.walkFrom_any ns anyB (enters_any ns) (kidsIn_of_valid HV.out) (by omega) A c (some ⟨w.heap.size + 1, 0, none⟩) [(i : Int)] 1 w2 hr4 hI (fun x hx => by simp at hx; omega)).mono ?_
  rintro e w3 ⟨A', c', rfl, hown, hb3⟩
  have HG : Hid (GivesInts w (reachOf ns i) (.returned (.slice A' (dfsL ns anyB (ns.length + 1) [(i : Int)] []).length c')) w3) := by
    show GivesInts _ _ _ _
    have e : reachOf ns i = dfsL ns anyB (ns.length + 1) [(i : Int)] [] := by
      unfold reachOf
      rw [if_pos HV.out, dfsL_cons, dfsL_nil]
    rw [e]
    exact ⟨A', c', rfl, hown.mono hB2.size, hB2.trans (hb3.mono hB2.size)⟩
  clear hown hb3
  go_wp2
  go_ret
  exact HG.out

set_option maxHeartbeats 1000000 in
theorem implReachOf_yes (A : Option Addr) (ns : List Nd) (c : Nat) (i : Nat) (w : World) (hr : NdsAt w w.heap.size A ns) (hv : ValidG ns (i : Int)) :
    Calls Try.prog 16 #[.agg #[.slice A ns.length c, .int .i64 (i : Int)]] w (GivesInts w (reachOf ns i)) := by
  have hB : Below w.heap.size w (w.alloc (.cells #[.slice A ns.length c, .int .i64 (i : Int)] 25)) := (Below.refl _ _).alloc (Nat.le_refl _) _
  have l1 := Lies.new w #[.slice A ns.length c, .int .i64 (i : Int)] 25
  have hr2 := hr.later hB (Nat.le_refl _)
  have HV := hide hv
  clear hr hv
  go_enter Try.func16, Try.ntmps16
  go_wp2_with fail
  generalize w.alloc (.cells #[.slice A ns.length c, .int .i64 (i : Int)] 25) = W at hB l1 hr2 ⊢
  refine (implValid_any A ns c i W hr2).mono ?_
  rintro e w1 ⟨rfl, hb1⟩
  rw [tf_true HV.out]
  have l2 := l1.below hb1 l1.lt
  have hr3 := hr2.later hb1 (Nat.le_refl _)
  have hB1 := hB.trans (hb1.mono hB.size)
  have e0 := l2.cell 0
  have e1 := l2.cell 1
  simp at e0 e1
  clear l1 hr2 hb1 hB
  go_wp2_with fail
  refine (reachFrom_yes A ns c i w1 hr3 HV.out).mono ?_
  rintro e w3 ⟨A', c', rfl, hown, hb3⟩
  have HG : Hid (∃ n, n = (reachOf ns i).length ∧ OwnI w3 w.heap.size A' c' (reachOf ns i) ∧ Below w.heap.size w w3) := ⟨_, rfl, hown.mono hB1.size, hB1.trans (hb3.mono hB1.size)⟩
  clear hown hb3 l2 hr3
  go_wp2
  go_ret
  obtain ⟨_, _, h1, h2⟩ := HG.out
  exact ⟨A', c', rfl, h1, h2⟩

set_option maxHeartbeats 1000000 in
theorem implReachOf_any (A : Option Addr) (ns : List Nd) (c : Nat) (r : Int) (w : World) (hr : NdsAt w w.heap.size A ns) :
    Calls Try.prog 16 #[.agg #[.slice A ns.length c, .int .i64 r]] w (GivesInts w (reachOf ns r)) := by
  by_cases hv : ValidG ns r
  · obtain ⟨i, rfl⟩ := Int.eq_ofNat_of_zero_le hv.root0
    exact implReachOf_yes A ns c i w hr hv
  · have hB : Below w.heap.size w (w.alloc (.cells #[.slice A ns.length c, .int .i64 r] 25)) := (Below.refl _ _).alloc (Nat.le_refl _) _
    have hr2 := hr.later hB (Nat.le_refl _)
    have HV := hide hv
    clear hr hv
    go_enter Try.func16, Try.ntmps16
    go_wp2_with fail
    refine (implValid_any A ns c r _ hr2).mono ?_
    rintro e w1 ⟨rfl, hb1⟩
    rw [tf_false HV.out]
    have hB1 := hB.trans (hb1.mono hB.size)
    clear hb1 hB hr2
    go_wp2
    go_ret
    unfold reachOf
    rw [if_neg HV.out]
    exact ⟨none, 0, rfl, OwnI.empty _ _, hB1⟩

end Go.Proofs.Ythdldkbeccmcmac
