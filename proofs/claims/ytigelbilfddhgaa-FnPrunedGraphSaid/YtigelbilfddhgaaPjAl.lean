/-
  Lemmas, several texts in one: PrunX, PrM.
-/
import Derived.Test.YtigelbilfddhgaaPrunS
import Derived.Test.YtigelbilfddhgaaSpecE
import Derived.Test.YtigelbilfddhgaaPjAj
import Derived.Test.YtigelbilfddhgaaPjAk
import Derived.Test.YtigelbilfddhgaaPjAh
namespace Go.Proofs.Ytigelbilfddhgaa
open Go.RowKit Go.Maps
set_option linter.unusedVariables false

set_option maxHeartbeats 1000000 in
theorem specPrunedGraph_any (A : Option Addr) (ns : List Nd) (c : Nat) (r : Int) (w : World) (hr : NdsAt w w.heap.size A ns) :
    Calls Try.prog 7 #[.agg #[.slice A ns.length c, .int .i64 r]] w (ReadsG w (prunedOf ns r) 0) := by
  have hB2 : Below w.heap.size w ((w.alloc (.cells #[.slice A ns.length c, .int .i64 r] 25)).alloc (.cells #[.slice none 0 0, .int .i64 0] 25)) := ((Below.refl _ _).alloc (Nat.le_refl _) _).alloc (by simp) _
  have lG := (Lies.new w #[.slice A ns.length c, .int .i64 r] 25).alloc (.cells #[.slice none 0 0, .int .i64 0] 25)
  have lR := Lies.new (w.alloc (.cells #[.slice A ns.length c, .int .i64 r] 25)) #[.slice none 0 0, .int .i64 0] 25
  simp only [World.size_alloc] at lR
  have hr2 := hr.later hB2 (Nat.le_refl _)
  clear hr
  go_enter Try.func7, Try.ntmps7
  go_wp2_with fail
  generalize (w.alloc (.cells #[.slice A ns.length c, .int .i64 r] 25)).alloc (.cells #[.slice none 0 0, .int .i64 0] 25) = W at hB2 lG lR hr2 ⊢
  refine (specValidGraph_any A ns c r W hr2).mono ?_
  rintro e w1 ⟨rfl, hb1⟩
  have lG1 := lG.below hb1 lG.lt
  have lR1 := lR.below hb1 lR.lt
  have hr3 := hr2.later hb1 (Nat.le_refl _)
  have hB3 := hB2.trans (hb1.mono hB2.size)
  have e0 := lG1.cell 0
  have e1 := lG1.cell 1
  simp at e0 e1
  clear lG lR hr2 hB2 hb1
  by_cases hv : ValidG ns r
  · rw [tf_true hv]
    obtain ⟨i, rfl⟩ := Int.eq_ofNat_of_zero_le hv.root0
    have HV := hide hv
    have hRl := lR1.lt
    clear hv
    go_wp2_with fail
    refine (specPruned_yes A ns c i w1 hr3 HV.out).mono ?_
    rintro e w2 ⟨Ap, cp, rfl, hrow, hwf, hb2⟩
    have lR2 := lR1.below hb2 hRl
    have l5 := (lR2.set 0 (.slice Ap (pickNs ns (reachOf ns (i : Int))).length cp)).set 1 (.int .i64 0)
    simp only [List.setIfInBounds_toArray, List.set_cons_succ, List.set_cons_zero] at l5
    have s0 := l5.cell 0
    have s1 := l5.cell 1
    have b0 := lR2.cell 0
    have b1 := lR2.cell 1
    have f0 := lR2.frozen 0
    have f1 := lR2.frozen 1
    simp only [List.getElem?_toArray, List.getElem?_cons_zero, List.getElem?_cons_succ] at s0 s1 b0 b1
    have hk := hrow.keep (w' := (w2.setCell ⟨w.heap.size + 1, 0, none⟩ (.slice Ap (pickNs ns (reachOf ns (i : Int))).length cp)).setCell ⟨w.heap.size + 1, 1, none⟩ (.int .i64 0)) (fun b hb _ => (Below.heap_setCell _ _ _ _ (by show b ≠ w.heap.size + 1; omega)).trans (Below.heap_setCell _ _ _ _ (by show b ≠ w.heap.size + 1; omega)))
    have HG := hide (show ReadsG w (pickNs ns (reachOf ns (i : Int))) 0 (.returned (.agg #[.slice Ap (pickNs ns (reachOf ns (i : Int))).length cp, .int .i64 0])) _ from ⟨Ap, cp, rfl, hk.low (by omega), hwf, ((hB3.trans (hb2.mono hB3.size)).setCell (p := ⟨w.heap.size + 1, 0, none⟩) (by show w.heap.size ≤ w.heap.size + 1; omega) _).setCell (p := ⟨w.heap.size + 1, 1, none⟩) (by show w.heap.size ≤ w.heap.size + 1; omega) _⟩)
    clear l5 lR2 hb2 hk hrow hwf lR1 lG1 hr3 hB3 e0 e1
    go_wp2
    refine bodyPost_ret (v := .agg #[.slice Ap (pickNs ns (reachOf ns (i : Int))).length cp, .int .i64 0]) (by simp [results, Try.results7, go_sem, s0, s1]) rfl ?_
    unfold prunedOf
    rw [if_pos HV.out]
    exact HG.out
  · rw [tf_false hv]
    have HV := hide hv
    have l5 := (lR1.set 0 (.slice none 0 0)).set 1 (.int .i64 0)
    simp only [List.setIfInBounds_toArray, List.set_cons_succ, List.set_cons_zero] at l5
    have s0 := l5.cell 0
    have s1 := l5.cell 1
    have b0 := lR1.cell 0
    have b1 := lR1.cell 1
    have f0 := lR1.frozen 0
    have f1 := lR1.frozen 1
    simp only [List.getElem?_toArray, List.getElem?_cons_zero, List.getElem?_cons_succ] at s0 s1 b0 b1
    have HB := hide ((hB3.setCell (p := ⟨w.heap.size + 1, 0, none⟩) (by show w.heap.size ≤ w.heap.size + 1; omega) (.slice none 0 0)).setCell (p := ⟨w.heap.size + 1, 1, none⟩) (by show w.heap.size ≤ w.heap.size + 1; omega) (.int .i64 0))
    clear hv l5 lR1 lG1 hr3 hB3 e0 e1
    go_wp2
    refine bodyPost_ret (v := .agg #[.slice none 0 0, .int .i64 0]) (by simp [results, Try.results7, go_sem, s0, s1]) rfl ?_
    unfold prunedOf
    rw [if_neg HV.out]
    exact ⟨none, 0, rfl, RowN.nil _ _, fun n hn => by simp at hn, HB.out⟩

end Go.Proofs.Ytigelbilfddhgaa

namespace Go.Proofs.Ytigelbilfddhgaa
open Go.RowKit
set_option linter.unusedVariables false

theorem pruned_yes {ns : List Nd} {r : Int} (hv : ValidG ns r) : prunedOf ns r = pickNs ns (reachOf ns r) := by
  unfold prunedOf
  rw [if_pos hv]
theorem pruned_no {ns : List Nd} {r : Int} (hv : ¬ ValidG ns r) : prunedOf ns r = [] := by
  unfold prunedOf
  rw [if_neg hv]

/-- the pruned graph has the same code -/
theorem pruned_code {ns : List Nd} {r : Int} (hv : ValidG ns r) : codeOf (prunedOf ns r) 0 = codeOf ns r := by
  have h := pick_code hv (reach_pickable hv)
  rw [reach_place hv] at h
  rw [pruned_yes hv]
  exact h
theorem pruned_valid {ns : List Nd} {r : Int} (hv : ValidG ns r) : ValidG (prunedOf ns r) 0 := by
  have h := pick_valid hv (reach_pickable hv)
  rw [reach_place hv] at h
  rw [pruned_yes hv]
  exact h
theorem pruned_len {ns : List Nd} {r : Int} (hv : ValidG ns r) : (prunedOf ns r).length = (reachOf ns r).length := by
  rw [pruned_yes hv, pickNs_len]

theorem map_place_self {L : List Int} (hn : L.Nodup) : L.map (place L) = (List.range L.length).map (fun (i : Nat) => (i : Int)) := by
  apply List.ext_getElem?
  intro j
  rw [List.getElem?_map, List.getElem?_map]
  by_cases hj : j < L.length
  · rw [List.getElem?_eq_getElem hj, List.getElem?_range hj]
    simp only [Option.map_some, Option.some.injEq]
    exact place_get hn (List.getElem?_eq_getElem hj)
  · rw [List.getElem?_eq_none (by omega), List.getElem?_eq_none (by simpa using hj)]
    rfl

/-- all of the pruned graph is reached, in order -/
theorem pruned_reach {ns : List Nd} {r : Int} (hv : ValidG ns r) : reachOf (prunedOf ns r) 0 = (List.range (reachOf ns r).length).map (fun (i : Nat) => (i : Int)) := by
  have hp := reach_pickable hv
  have hR := reachOf_reached hv
  have hw := pruned_valid hv
  have hrch : ∀ y ∈ reachOf ns r, y ∈ reachOf ns r := fun y hy => hy
  rw [← map_place_self hR.met.nodup]
  have h := (dfs_iso (iso_pick hp) (ns.length + 1) r [] hp.root (fun y hy => by cases hy)).1
  rw [reach_place hv] at h
  have e1 : reachOf ns r = dfs ns anyB (ns.length + 1) r [] := by unfold reachOf; rw [if_pos hv]
  have e2 : reachOf (prunedOf ns r) 0 = dfs (prunedOf ns r) anyB ((prunedOf ns r).length + 1) 0 [] := by unfold reachOf; rw [if_pos hw]
  rw [e2]
  conv => rhs; arg 2; rw [e1]
  rw [← h, pruned_yes hv]
  have hle : (pickNs ns (reachOf ns r)).length ≤ ns.length := by rw [pickNs_len]; exact nodup_le _ _ hp.nodup hp.range
  obtain ⟨d, hd⟩ := Nat.exists_eq_add_of_le hle
  have hw2 := hw
  rw [pruned_yes hv] at hw2
  have := dfs_fuels (kidsIn_of_valid hw2) ((pickNs ns (reachOf ns r)).length + 1) 0 [] (Met.nil _) hw2.root0 hw2.root (by simp) d
  have e : (pickNs ns (reachOf ns r)).length + 1 + d = ns.length + 1 := by omega
  rw [e] at this
  exact this.symm

theorem place_range {m : Nat} {x : Int} (h0 : 0 ≤ x) (h1 : x < m) : place ((List.range m).map (fun (i : Nat) => (i : Int))) x = x := by
  obtain ⟨j, rfl⟩ := Int.eq_ofNat_of_zero_le h0
  refine place_get ?_ (j := j) (by rw [List.getElem?_map, List.getElem?_range (by omega)]; rfl)
  exact List.Pairwise.map _ (fun a b hab => by omega) (List.pairwise_lt_range (n := m) |>.imp (fun h => Nat.ne_of_lt h))

/-- pruned again it is the same -/
theorem pruned_again {ns : List Nd} {r : Int} (hv : ValidG ns r) : prunedOf (prunedOf ns r) 0 = prunedOf ns r := by
  have hw := pruned_valid hv
  rw [pruned_yes hw, pruned_reach hv, ← pruned_len hv]
  generalize prunedOf ns r = ms at hw
  apply List.ext_getElem?
  intro j
  unfold pickNs
  rw [List.getElem?_map, List.getElem?_map]
  by_cases hj : j < ms.length
  · rw [List.getElem?_range hj, List.getElem?_eq_getElem hj]
    simp only [Option.map_some, Option.some.injEq]
    rw [pickN_at (List.getElem?_eq_getElem hj)]
    have hok := hw.nodes _ (List.getElem_mem hj)
    generalize ms[j] = n at hok
    have e : n.kids.map (place ((List.range ms.length).map (fun (i : Nat) => (i : Int)))) = n.kids := by
      conv => rhs; rw [← List.map_id n.kids]
      apply List.map_congr_left
      intro k hk
      have := hok.inn k hk
      exact place_range this.1 this.2
    rw [e]
  · rw [List.getElem?_eq_none (by simpa using hj), List.getElem?_eq_none (by omega)]
    rfl

/-- the first numbers of a code -/
theorem code_first {ns : List Nd} {r : Int} (hv : ValidG ns r) : ∃ l, codeOf ns r = kindOf ns r :: valueOf ns r :: l := by
  unfold codeOf
  rw [if_pos hv, cod_new (by simp)]
  have key : ∀ (xs : List Int) (q : CM), ∃ l, (codL ns ns.length xs q).1 = q.1 ++ l := by
    intro xs
    induction xs with
    | nil => intro q; exact ⟨[], by simp [codL]⟩
    | cons a xs ih =>
      intro q
      obtain ⟨l1, h1⟩ := cod_grows (ns := ns) ns.length a q
      obtain ⟨l2, h2⟩ := ih (cod ns ns.length a q)
      refine ⟨l1 ++ l2, ?_⟩
      show (codL ns ns.length xs (cod ns ns.length a q)).1 = _
      rw [h2, h1, List.append_assoc]
  obtain ⟨l, h⟩ := key (kidsOf ns r) (codPut ns r ([], []))
  refine ⟨((kidsOf ns r).length : Int) :: l, ?_⟩
  rw [h]
  unfold codPut
  simp

end Go.Proofs.Ytigelbilfddhgaa
