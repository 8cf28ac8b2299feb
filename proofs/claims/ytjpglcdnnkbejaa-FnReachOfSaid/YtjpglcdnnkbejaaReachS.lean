/-
  The model's ReachOf as the given function.
-/
import Derived.Test.YtjpglcdnnkbejaaReach2
namespace Go.Proofs.Ytjpglcdnnkbejaa
open Go.RowKit
set_option linter.unusedVariables false

set_option maxHeartbeats 1000000 in
theorem specReachOf_yes (A : Option Addr) (ns : List Nd) (c : Nat) (i : Nat) (w : World) (hr : NdsAt w w.heap.size A ns) (hv : ValidG ns (i : Int)) :
    Calls Try.prog 7 #[.agg #[.slice A ns.length c, .int .i64 (i : Int)]] w (GivesInts w (reachOf ns i)) := by
  have hB : Below w.heap.size w (w.alloc (.cells #[.slice A ns.length c, .int .i64 (i : Int)] 25)) := (Below.refl _ _).alloc (Nat.le_refl _) _
  have l1 := Lies.new w #[.slice A ns.length c, .int .i64 (i : Int)] 25
  have hr2 := hr.later hB (Nat.le_refl _)
  have hi : i < ns.length := by have := hv.root; omega
  have HV := hide hv
  clear hr hv
  go_enter Try.func7, Try.ntmps7
  go_wp2_with fail
  generalize w.alloc (.cells #[.slice A ns.length c, .int .i64 (i : Int)] 25) = W at hB l1 hr2 ⊢
  refine (specValidGraph_any A ns c i W hr2).mono ?_
  rintro e w1 ⟨rfl, hb1⟩
  rw [tf_true HV.out]
  have l2 := l1.below hb1 l1.lt
  have hr3 := hr2.later hb1 (Nat.le_refl _)
  have hB1 := hB.trans (hb1.mono hB.size)
  have e0 := l2.cell 0
  have e1 := l2.cell 1
  simp at e0 e1
  have hsz := l2.lt
  clear l1 hr2 hb1 hB
  go_wp2_with fail
  have hb2 : Below w1.heap.size w1 (w1.alloc (.cells #[] 3)) := (Below.refl _ _).alloc (Nat.le_refl _) _
  have hr4 := hr3.later hb2 (Nat.le_refl _)
  have hB2 := hB1.trans (hb2.mono (by omega))
  have hI : IntsAt (w1.alloc (.cells #[] 3)) (w1.alloc (.cells #[] 3)).heap.size (some ⟨w1.heap.size, 0, none⟩) [] := (OwnI.bare w1).ints (by simp) (by simp)
  generalize w1.alloc (.cells #[] 3) = w2 at hb2 hr4 hB2 hI ⊢
  refine (reach_any ns (kidsIn_of_valid HV.out) (fun n hn => (HV.out.nodes n hn).few) HV.out.few A c i (ns.length + 1) i [] (some ⟨w1.heap.size, 0, none⟩) 0 w2 hi (Met.nil ns) hr4 hI (fun e => by cases e) (by simp)).mono ?_
  rintro e w3 ⟨A', c', rfl, hb3, hI3, hnil3, hor⟩
  have HG : Hid (GivesInts w (reachOf ns i) (.returned (.slice A' (dfs ns anyB (ns.length + 1) i []).length c')) w3) := by
    show GivesInts _ _ _ _
    unfold reachOf
    rw [if_pos HV.out]
    refine ⟨A', c', rfl, ?_, hB2.trans (hb3.mono hB2.size)⟩
    rcases hor with ⟨_, _, h⟩ | h
    · exact absurd h (by rw [dfs_go rfl (by simp)]; intro h; have hw := (walkedAll ns anyB (kidsIn_of_valid HV.out) (kidsOf ns i) ([] ++ [(i : Int)]) ns.length ((Met.nil ns).snoc ⟨by omega, by omega⟩ (by simp)) ((kidsIn_of_valid HV.out).of i) (by simp)).len; rw [h] at hw; simp at hw)
    · exact h.mono hB2.size
  clear hor hI3 hnil3 hb3
  go_wp2
  go_ret
  exact HG.out

set_option maxHeartbeats 1000000 in
theorem specReachOf_any (A : Option Addr) (ns : List Nd) (c : Nat) (r : Int) (w : World) (hr : NdsAt w w.heap.size A ns) :
    Calls Try.prog 7 #[.agg #[.slice A ns.length c, .int .i64 r]] w (GivesInts w (reachOf ns r)) := by
  by_cases hv : ValidG ns r
  · obtain ⟨i, rfl⟩ := Int.eq_ofNat_of_zero_le hv.root0
    exact specReachOf_yes A ns c i w hr hv
  · have hB : Below w.heap.size w (w.alloc (.cells #[.slice A ns.length c, .int .i64 r] 25)) := (Below.refl _ _).alloc (Nat.le_refl _) _
    have hr2 := hr.later hB (Nat.le_refl _)
    have HV := hide hv
    clear hr hv
    go_enter Try.func7, Try.ntmps7
    go_wp2_with fail
    refine (specValidGraph_any A ns c r _ hr2).mono ?_
    rintro e w1 ⟨rfl, hb1⟩
    rw [tf_false HV.out]
    have hB1 := hB.trans (hb1.mono hB.size)
    clear hb1 hB hr2
    go_wp2
    go_ret
    unfold reachOf
    rw [if_neg HV.out]
    exact ⟨none, 0, rfl, OwnI.empty _ _, hB1⟩

end Go.Proofs.Ytjpglcdnnkbejaa
