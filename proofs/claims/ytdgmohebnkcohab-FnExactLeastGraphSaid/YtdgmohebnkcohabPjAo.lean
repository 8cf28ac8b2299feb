/-
  Lemmas, several texts in one: ImplR, PrunI.
-/
import Derived.Test.YtdgmohebnkcohabWalkA
import Derived.Test.YtdgmohebnkcohabPjAm
import Derived.Test.YtdgmohebnkcohabPjAj
import Derived.Test.YtdgmohebnkcohabPjAn
import Derived.Deep.RegionHeld3
namespace Go.Proofs.Ytdgmohebnkcohab
open Go.RowKit Go.Maps
set_option linter.unusedVariables false

set_option maxHeartbeats 400000 in
theorem enters_any (ns : List Nd) : WalkA.Enters ns anyB := by
  intro k n A c w _
  go_enter Try.func67, Try.ntmps67
  go_wp2
  go_ret
  exact ⟨rfl, (Below.refl _ _).alloc (Nat.le_refl _) _⟩

set_option maxHeartbeats 1000000 in
theorem reachFrom_yes (A : Option Addr) (ns : List Nd) (c : Nat) (i : Nat) (w : World) (hr : NdsAt w w.heap.size A ns) (hv : ValidG ns (i : Int)) :
    Calls Try.prog 56 #[.agg #[.slice A ns.length c, .int .i64 (i : Int)]] w (GivesInts w (reachOf ns i)) := by
  have hB : Below w.heap.size w (w.alloc (.cells #[.slice A ns.length c, .int .i64 (i : Int)] 28)) := (Below.refl _ _).alloc (Nat.le_refl _) _
  have l1 := Lies.new w #[.slice A ns.length c, .int .i64 (i : Int)] 28
  have hr3 := hr.later hB (Nat.le_refl _)
  have hi : i < ns.length := by have := hv.root; omega
  have hi12 := hv.few
  have HV := hide hv
  clear hr hv
  go_enter Try.func56, Try.ntmps56
  go_wp2_with fail
  have l2 := l1
  have hzz : (w.alloc (.cells #[.slice A ns.length c, .int .i64 (i : Int)] 28)).heap.size = w.heap.size + 1 := by simp
  have HZZ := hide hzz
  clear hzz
  generalize w.alloc (.cells #[.slice A ns.length c, .int .i64 (i : Int)] 28) = w1 at hB l1 l2 hr3 HZZ ⊢
  have hB1 := hB
  have hsz := l2.lt
  clear l1 hB
  have hb2 : Below w1.heap.size w1 (w1.alloc (.cells #[.int .i64 (i : Int)] 3)) := (Below.refl _ _).alloc (Nat.le_refl _) _
  have hr4 := hr3.later hb2 (Nat.le_refl _)
  have hB2 := hB1.trans (hb2.mono (by omega))
  have hI : IntsAt (w1.alloc (.cells #[.int .i64 (i : Int)] 3)) (w1.alloc (.cells #[.int .i64 (i : Int)] 3)).heap.size (some ⟨w.heap.size + 1, 0, none⟩) [(i : Int)] := by
    have := IntsAt.one w1 (i : Int) (by constructor <;> omega)
    rw [← HZZ.out]
    simpa using this
  generalize w1.alloc (.cells #[.int .i64 (i : Int)] 3) = w2 at hb2 hr4 hB2 hI ⊢
  refine (WalkA.walkFrom_any ns anyB (enters_any ns) (kidsIn_of_valid HV.out) (by omega) A c (some ⟨w.heap.size + 1, 0, none⟩) [(i : Int)] 1 w2 hr4 hI (fun x hx => by simp at hx; omega)).mono ?_
  rintro e w3 ⟨A', c', rfl, hown, hb3⟩
  have HG : Hid (GivesInts w (reachOf ns i) (.returned (.slice A' (dfsL ns anyB (ns.length + 1) [(i : Int)] []).length c')) w3) := by
    show GivesInts _ _ _ _
    have e : reachOf ns i = dfsL ns anyB (ns.length + 1) [(i : Int)] [] := by
      unfold reachOf
      rw [if_pos HV.out, dfsL_cons, dfsL_nil]
    rw [e]
    exact ⟨A', c', rfl, hown.mono hB2.size, hB2.trans (hb3.mono hB2.size)⟩
  clear hown hb3
  go_wp2
  go_ret
  exact HG.out

set_option maxHeartbeats 1000000 in
theorem implReachOf_yes (A : Option Addr) (ns : List Nd) (c : Nat) (i : Nat) (w : World) (hr : NdsAt w w.heap.size A ns) (hv : ValidG ns (i : Int)) :
    Calls Try.prog 36 #[.agg #[.slice A ns.length c, .int .i64 (i : Int)]] w (GivesInts w (reachOf ns i)) := by
  have hB : Below w.heap.size w (w.alloc (.cells #[.slice A ns.length c, .int .i64 (i : Int)] 28)) := (Below.refl _ _).alloc (Nat.le_refl _) _
  have l1 := Lies.new w #[.slice A ns.length c, .int .i64 (i : Int)] 28
  have hr2 := hr.later hB (Nat.le_refl _)
  have HV := hide hv
  clear hr hv
  go_enter Try.func36, Try.ntmps36
  go_wp2_with fail
  generalize w.alloc (.cells #[.slice A ns.length c, .int .i64 (i : Int)] 28) = W at hB l1 hr2 ⊢
  refine (implValid_any A ns c i W hr2).mono ?_
  rintro e w1 ⟨rfl, hb1⟩
  rw [tf_true HV.out]
  have l2 := l1.below hb1 l1.lt
  have hr3 := hr2.later hb1 (Nat.le_refl _)
  have hB1 := hB.trans (hb1.mono hB.size)
  have e0 := l2.cell 0
  have e1 := l2.cell 1
  simp at e0 e1
  clear l1 hr2 hb1 hB
  go_wp2_with fail
  refine (reachFrom_yes A ns c i w1 hr3 HV.out).mono ?_
  rintro e w3 ⟨A', c', rfl, hown, hb3⟩
  have HG : Hid (∃ n, n = (reachOf ns i).length ∧ OwnI w3 w.heap.size A' c' (reachOf ns i) ∧ Below w.heap.size w w3) := ⟨_, rfl, hown.mono hB1.size, hB1.trans (hb3.mono hB1.size)⟩
  clear hown hb3 l2 hr3
  go_wp2
  go_ret
  obtain ⟨_, _, h1, h2⟩ := HG.out
  exact ⟨A', c', rfl, h1, h2⟩

set_option maxHeartbeats 1000000 in
theorem implReachOf_any (A : Option Addr) (ns : List Nd) (c : Nat) (r : Int) (w : World) (hr : NdsAt w w.heap.size A ns) :
    Calls Try.prog 36 #[.agg #[.slice A ns.length c, .int .i64 r]] w (GivesInts w (reachOf ns r)) := by
  by_cases hv : ValidG ns r
  · obtain ⟨i, rfl⟩ := Int.eq_ofNat_of_zero_le hv.root0
    exact implReachOf_yes A ns c i w hr hv
  · have hB : Below w.heap.size w (w.alloc (.cells #[.slice A ns.length c, .int .i64 r] 28)) := (Below.refl _ _).alloc (Nat.le_refl _) _
    have hr2 := hr.later hB (Nat.le_refl _)
    have HV := hide hv
    clear hr hv
    go_enter Try.func36, Try.ntmps36
    go_wp2_with fail
    refine (implValid_any A ns c r _ hr2).mono ?_
    rintro e w1 ⟨rfl, hb1⟩
    rw [tf_false HV.out]
    have hB1 := hB.trans (hb1.mono hB.size)
    clear hb1 hB hr2
    go_wp2
    go_ret
    unfold reachOf
    rw [if_neg HV.out]
    exact ⟨none, 0, rfl, OwnI.empty _ _, hB1⟩

end Go.Proofs.Ytdgmohebnkcohab

namespace Go.Proofs.Ytdgmohebnkcohab
open Go.RowKit Go.Maps
set_option linter.unusedVariables false

theorem reach_pickable {ns : List Nd} {r : Int} (hv : ValidG ns r) : Pickable ns r (reachOf ns r) := by
  have hR := reachOf_reached hv
  have hm : r ∈ reachOf ns r := by
    unfold reachOf
    rw [if_pos hv]
    have w := walked ns anyB (kidsIn_of_valid hv) (ns.length + 1) r [] (Met.nil ns) hv.root0 hv.root (by simp)
    exact w.starts r (by simp) rfl
  refine ⟨hR.met.nodup, hR.met.range, fun i n hi hn => ⟨?_, fun k hk => hR.closed i hi k (by rw [kidsOf_at hn]; exact hk)⟩, hm, reachOf_few, hv.few⟩
  have := (hv.nodes n (List.mem_of_getElem? hn)).few
  omega

theorem reach_place {ns : List Nd} {r : Int} (hv : ValidG ns r) : place (reachOf ns r) r = 0 := by
  have hR := reachOf_reached hv
  have hp := reachOf_some hv
  have h0 : (reachOf ns r)[0]? = some (reachOf ns r)[0] := List.getElem?_eq_getElem hp
  have e := hR.ord.first _ h0
  have hm : r ∈ reachOf ns r := by
    have hm0 := List.getElem_mem hp
    generalize (reachOf ns r)[0] = x at e hm0
    subst e
    exact hm0
  rw [place_pos hm]
  cases hL : reachOf ns r with
  | nil => rw [hL] at hp; simp at hp
  | cons x xs =>
    have : x = r := by simpa [hL] using e
    subst this
    simp

open Classical in
/-- the graph without the nodes that are not reached -/
noncomputable def prunedOf (ns : List Nd) (r : Int) : List Nd := if ValidG ns r then pickNs ns (reachOf ns r) else []

set_option maxHeartbeats 1000000 in
theorem implPruned_any (A : Option Addr) (ns : List Nd) (c : Nat) (r : Int) (w : World) (hr : NdsAt w w.heap.size A ns) :
    Calls Try.prog 16 #[.agg #[.slice A ns.length c, .int .i64 r]] w (GivesG w (prunedOf ns r) 0) := by
  have hB2 : Below w.heap.size w ((w.alloc (.cells #[.slice A ns.length c, .int .i64 r] 28)).alloc (.cells #[.slice none 0 0, .int .i64 0] 28)) := ((Below.refl _ _).alloc (Nat.le_refl _) _).alloc (by simp) _
  have lG := (Lies.new w #[.slice A ns.length c, .int .i64 r] 28).alloc (.cells #[.slice none 0 0, .int .i64 0] 28)
  have lR := Lies.new (w.alloc (.cells #[.slice A ns.length c, .int .i64 r] 28)) #[.slice none 0 0, .int .i64 0] 28
  simp only [World.size_alloc] at lR
  have hr2 := hr.later hB2 (Nat.le_refl _)
  clear hr
  go_enter Try.func16, Try.ntmps16
  go_wp2_with fail
  generalize (w.alloc (.cells #[.slice A ns.length c, .int .i64 r] 28)).alloc (.cells #[.slice none 0 0, .int .i64 0] 28) = W at hB2 lG lR hr2 ⊢
  refine (implValid_any A ns c r W hr2).mono ?_
  rintro e w1 ⟨rfl, hb1⟩
  have lG1 := lG.below hb1 lG.lt
  have lR1 := lR.below hb1 lR.lt
  have hr3 := hr2.later hb1 (Nat.le_refl _)
  have hB3 := hB2.trans (hb1.mono hB2.size)
  have e0 := lG1.cell 0
  have e1 := lG1.cell 1
  simp at e0 e1
  clear lG lR hr2 hB2 hb1
  by_cases hv : ValidG ns r
  · rw [tf_true hv]
    have HV := hide hv
    have hGl := lG1.lt
    have hRl := lR1.lt
    have hne : w.heap.size + 1 ≠ w.heap.size := by omega
    have hr3d : NdsAt w1.drew w1.drew.heap.size A ns := hr3.later (Below.refl _ _).drew (Nat.le_refl _)
    have lRd : Lies w1.drew (w.heap.size + 1) #[.slice none 0 0, .int .i64 0] 28 := lR1
    have hGd : w.heap.size < w1.drew.heap.size := hGl
    have hRd : w.heap.size + 1 < w1.drew.heap.size := hRl
    have hBd : Below w.heap.size w w1.drew := hB3.drew
    clear hv
    go_wp2_with fail
    go_region_held3 (fun w' => w'.cell? ⟨w.heap.size, 0, none⟩ = some (.slice A ns.length c) ∧ w'.cell? ⟨w.heap.size, 1, none⟩ = some (.int .i64 r))
      (first
        | (go_split_ands; refine ⟨?_, ?_⟩ <;> assumption)
        | go_keep)
      (first
        | (go_at_call 36; refine (implReachOf_any A ns c r w1.drew hr3d).mono ?_; rintro e w2 ⟨Ag, cg, rfl, hoG, hb2⟩; have q0 := (hb2.cell (p := ⟨w.heap.size, 0, none⟩) hGd).trans e0; have q1 := (hb2.cell (p := ⟨w.heap.size, 1, none⟩) hGd).trans e1; have lR2 := lRd.below hb2 hRd; have HoG := hide hoG; clear hoG)
        | (go_at_call 35; refine (implPicked_any A ns c r Ag (reachOf ns r) cg w2 (hr3d.later hb2 (Nat.le_refl _)) (HoG.out.ints (in64_met HV.out.few reachOf_met) (by have := @reachOf_few ns r; omega)) (reach_pickable HV.out)).mono ?_; rintro e w3 ⟨Ap, cp, rfl, hoP, hb3⟩; have z0 := (hb3.cell (p := ⟨w.heap.size, 0, none⟩) (Nat.lt_of_lt_of_le hGd hb2.size)).trans q0; have z1 := (hb3.cell (p := ⟨w.heap.size, 1, none⟩) (Nat.lt_of_lt_of_le hGd hb2.size)).trans q1; have lR3 := lR2.below hb3 lR2.lt; have HoP := hide hoP; have b0 := lR3.cell 0; have b1 := lR3.cell 1; have f0 := lR3.frozen 0; have f1 := lR3.frozen 1; simp at b0 b1; clear hoP))
    have l5 := (lR3.set 0 (.slice Ap (pickNs ns (reachOf ns r)).length cp)).set 1 (.int .i64 (place (reachOf ns r) r))
    simp only [List.setIfInBounds_toArray, List.set_cons_succ, List.set_cons_zero] at l5
    have s0 := l5.cell 0
    have s1 := l5.cell 1
    simp only [List.getElem?_toArray, List.getElem?_cons_zero, List.getElem?_cons_succ] at s0 s1
    have HG := hide (GivesG.put (r := place (reachOf ns r) r) hRd hBd hb2 hb3 HoP.out)
    clear l5 lR3 lR2 hb2 hb3 q0 q1 z0 z1 b0 b1 f0 f1 lR1 lG1 hr3 hr3d lRd hBd hB3 e0 e1
    go_wp2
    refine bodyPost_ret (v := .agg #[.slice Ap (pickNs ns (reachOf ns r)).length cp, .int .i64 (place (reachOf ns r) r)]) (by simp [results, Try.results16, go_sem, s0, s1]) rfl ?_
    have h := HG.out
    unfold prunedOf
    rw [if_pos HV.out]
    rw [reach_place HV.out] at h ⊢
    exact h
  · rw [tf_false hv]
    have HV := hide hv
    have l5 := (lR1.set 0 (.slice none 0 0)).set 1 (.int .i64 0)
    simp only [List.setIfInBounds_toArray, List.set_cons_succ, List.set_cons_zero] at l5
    have s0 := l5.cell 0
    have s1 := l5.cell 1
    have b0 := lR1.cell 0
    have b1 := lR1.cell 1
    have f0 := lR1.frozen 0
    have f1 := lR1.frozen 1
    simp only [List.getElem?_toArray, List.getElem?_cons_zero, List.getElem?_cons_succ] at s0 s1 b0 b1
    have HB := hide ((hB3.setCell (p := ⟨w.heap.size + 1, 0, none⟩) (by show w.heap.size ≤ w.heap.size + 1; omega) (.slice none 0 0)).setCell (p := ⟨w.heap.size + 1, 1, none⟩) (by show w.heap.size ≤ w.heap.size + 1; omega) (.int .i64 0))
    clear hv l5 lR1 lG1 hr3 hB3 e0 e1
    go_wp2
    refine bodyPost_ret (v := .agg #[.slice none 0 0, .int .i64 0]) (by simp [results, Try.results16, go_sem, s0, s1]) rfl ?_
    unfold prunedOf
    rw [if_neg HV.out]
    exact GivesG.zero _ _ HB.out

end Go.Proofs.Ytdgmohebnkcohab
