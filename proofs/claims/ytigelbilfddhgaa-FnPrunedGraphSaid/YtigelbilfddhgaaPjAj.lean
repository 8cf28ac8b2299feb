/-
  Lemmas, several texts in one: PrunI, CodM, SmN, PrSm, EqI, EqualI.
-/
import Derived.Test.YtigelbilfddhgaaPjAh
import Derived.Test.YtigelbilfddhgaaPjAi
import Derived.Deep.RegionHeld3
import Derived.Test.YtigelbilfddhgaaCod
import Derived.Test.YtigelbilfddhgaaPjAf
import Derived.Test.YtigelbilfddhgaaMem
import Derived.Deep.QuietTactic
import Derived.BigQuiet
namespace Go.Proofs.Ytigelbilfddhgaa
open Go.RowKit Go.Maps
set_option linter.unusedVariables false

theorem reach_pickable {ns : List Nd} {r : Int} (hv : ValidG ns r) : Pickable ns r (reachOf ns r) := by
  have hR := reachOf_reached hv
  have hm : r ∈ reachOf ns r := by
    unfold reachOf
    rw [if_pos hv]
    have w := walked ns anyB (kidsIn_of_valid hv) (ns.length + 1) r [] (Met.nil ns) hv.root0 hv.root (by simp)
    exact w.starts r (by simp) rfl
  refine ⟨hR.met.nodup, hR.met.range, fun i n hi hn => ⟨?_, fun k hk => hR.closed i hi k (by rw [kidsOf_at hn]; exact hk)⟩, hm, reachOf_few, hv.few⟩
  have := (hv.nodes n (List.mem_of_getElem? hn)).few
  omega

theorem reach_place {ns : List Nd} {r : Int} (hv : ValidG ns r) : place (reachOf ns r) r = 0 := by
  have hR := reachOf_reached hv
  have hp := reachOf_some hv
  have h0 : (reachOf ns r)[0]? = some (reachOf ns r)[0] := List.getElem?_eq_getElem hp
  have e := hR.ord.first _ h0
  have hm : r ∈ reachOf ns r := by
    have hm0 := List.getElem_mem hp
    generalize (reachOf ns r)[0] = x at e hm0
    subst e
    exact hm0
  rw [place_pos hm]
  cases hL : reachOf ns r with
  | nil => rw [hL] at hp; simp at hp
  | cons x xs =>
    have : x = r := by simpa [hL] using e
    subst this
    simp

open Classical in
/-- the graph without the nodes that are not reached -/
noncomputable def prunedOf (ns : List Nd) (r : Int) : List Nd := if ValidG ns r then pickNs ns (reachOf ns r) else []

set_option maxHeartbeats 1000000 in
theorem implPruned_any (A : Option Addr) (ns : List Nd) (c : Nat) (r : Int) (w : World) (hr : NdsAt w w.heap.size A ns) :
    Calls Try.prog 5 #[.agg #[.slice A ns.length c, .int .i64 r]] w (GivesG w (prunedOf ns r) 0) := by
  have hB2 : Below w.heap.size w ((w.alloc (.cells #[.slice A ns.length c, .int .i64 r] 25)).alloc (.cells #[.slice none 0 0, .int .i64 0] 25)) := ((Below.refl _ _).alloc (Nat.le_refl _) _).alloc (by simp) _
  have lG := (Lies.new w #[.slice A ns.length c, .int .i64 r] 25).alloc (.cells #[.slice none 0 0, .int .i64 0] 25)
  have lR := Lies.new (w.alloc (.cells #[.slice A ns.length c, .int .i64 r] 25)) #[.slice none 0 0, .int .i64 0] 25
  simp only [World.size_alloc] at lR
  have hr2 := hr.later hB2 (Nat.le_refl _)
  clear hr
  go_enter Try.func5, Try.ntmps5
  go_wp2_with fail
  generalize (w.alloc (.cells #[.slice A ns.length c, .int .i64 r] 25)).alloc (.cells #[.slice none 0 0, .int .i64 0] 25) = W at hB2 lG lR hr2 ⊢
  refine (implValid_any A ns c r W hr2).mono ?_
  rintro e w1 ⟨rfl, hb1⟩
  have lG1 := lG.below hb1 lG.lt
  have lR1 := lR.below hb1 lR.lt
  have hr3 := hr2.later hb1 (Nat.le_refl _)
  have hB3 := hB2.trans (hb1.mono hB2.size)
  have e0 := lG1.cell 0
  have e1 := lG1.cell 1
  simp at e0 e1
  clear lG lR hr2 hB2 hb1
  by_cases hv : ValidG ns r
  · rw [tf_true hv]
    have HV := hide hv
    have hGl := lG1.lt
    have hRl := lR1.lt
    have hne : w.heap.size + 1 ≠ w.heap.size := by omega
    have hr3d : NdsAt w1.drew w1.drew.heap.size A ns := hr3.later (Below.refl _ _).drew (Nat.le_refl _)
    have lRd : Lies w1.drew (w.heap.size + 1) #[.slice none 0 0, .int .i64 0] 25 := lR1
    have hGd : w.heap.size < w1.drew.heap.size := hGl
    have hRd : w.heap.size + 1 < w1.drew.heap.size := hRl
    have hBd : Below w.heap.size w w1.drew := hB3.drew
    clear hv
    go_wp2_with fail
    go_region_held3 (fun w' => w'.cell? ⟨w.heap.size, 0, none⟩ = some (.slice A ns.length c) ∧ w'.cell? ⟨w.heap.size, 1, none⟩ = some (.int .i64 r))
      (first
        | (go_split_ands; refine ⟨?_, ?_⟩ <;> assumption)
        | go_keep)
      (first
        | (go_at_call 8; refine (implReachOf_any A ns c r w1.drew hr3d).mono ?_; rintro e w2 ⟨Ag, cg, rfl, hoG, hb2⟩; have q0 := (hb2.cell (p := ⟨w.heap.size, 0, none⟩) hGd).trans e0; have q1 := (hb2.cell (p := ⟨w.heap.size, 1, none⟩) hGd).trans e1; have lR2 := lRd.below hb2 hRd; have HoG := hide hoG; clear hoG)
        | (go_at_call 13; refine (implPicked_any A ns c r Ag (reachOf ns r) cg w2 (hr3d.later hb2 (Nat.le_refl _)) (HoG.out.ints (in64_met HV.out.few reachOf_met) (by have := @reachOf_few ns r; omega)) (reach_pickable HV.out)).mono ?_; rintro e w3 ⟨Ap, cp, rfl, hoP, hb3⟩; have z0 := (hb3.cell (p := ⟨w.heap.size, 0, none⟩) (Nat.lt_of_lt_of_le hGd hb2.size)).trans q0; have z1 := (hb3.cell (p := ⟨w.heap.size, 1, none⟩) (Nat.lt_of_lt_of_le hGd hb2.size)).trans q1; have lR3 := lR2.below hb3 lR2.lt; have HoP := hide hoP; have b0 := lR3.cell 0; have b1 := lR3.cell 1; have f0 := lR3.frozen 0; have f1 := lR3.frozen 1; simp at b0 b1; clear hoP))
    have l5 := (lR3.set 0 (.slice Ap (pickNs ns (reachOf ns r)).length cp)).set 1 (.int .i64 (place (reachOf ns r) r))
    simp only [List.setIfInBounds_toArray, List.set_cons_succ, List.set_cons_zero] at l5
    have s0 := l5.cell 0
    have s1 := l5.cell 1
    simp only [List.getElem?_toArray, List.getElem?_cons_zero, List.getElem?_cons_succ] at s0 s1
    have HG := hide (GivesG.put (r := place (reachOf ns r) r) hRd hBd hb2 hb3 HoP.out)
    clear l5 lR3 lR2 hb2 hb3 q0 q1 z0 z1 b0 b1 f0 f1 lR1 lG1 hr3 hr3d lRd hBd hB3 e0 e1
    go_wp2
    refine bodyPost_ret (v := .agg #[.slice Ap (pickNs ns (reachOf ns r)).length cp, .int .i64 (place (reachOf ns r) r)]) (by simp [results, Try.results5, go_sem, s0, s1]) rfl ?_
    have h := HG.out
    unfold prunedOf
    rw [if_pos HV.out]
    rw [reach_place HV.out] at h ⊢
    exact h
  · rw [tf_false hv]
    have HV := hide hv
    have l5 := (lR1.set 0 (.slice none 0 0)).set 1 (.int .i64 0)
    simp only [List.setIfInBounds_toArray, List.set_cons_succ, List.set_cons_zero] at l5
    have s0 := l5.cell 0
    have s1 := l5.cell 1
    have b0 := lR1.cell 0
    have b1 := lR1.cell 1
    have f0 := lR1.frozen 0
    have f1 := lR1.frozen 1
    simp only [List.getElem?_toArray, List.getElem?_cons_zero, List.getElem?_cons_succ] at s0 s1 b0 b1
    have HB := hide ((hB3.setCell (p := ⟨w.heap.size + 1, 0, none⟩) (by show w.heap.size ≤ w.heap.size + 1; omega) (.slice none 0 0)).setCell (p := ⟨w.heap.size + 1, 1, none⟩) (by show w.heap.size ≤ w.heap.size + 1; omega) (.int .i64 0))
    clear hv l5 lR1 lG1 hr3 hB3 e0 e1
    go_wp2
    refine bodyPost_ret (v := .agg #[.slice none 0 0, .int .i64 0]) (by simp [results, Try.results5, go_sem, s0, s1]) rfl ?_
    unfold prunedOf
    rw [if_neg HV.out]
    exact GivesG.zero _ _ HB.out

end Go.Proofs.Ytigelbilfddhgaa

namespace Go.Proofs.Ytigelbilfddhgaa
open Go.RowKit Go.Maps
set_option linter.unusedVariables false

theorem CInv.start (ns : List Nd) : CInv ns ([], []) := ⟨Met.nil ns, fun x hx => (by cases hx), fun x hx => (by cases hx)⟩

open Classical in
/-- the code of a valid graph; nothing for another one -/
noncomputable def codeOf (ns : List Nd) (r : Int) : List Int := if ValidG ns r then (cod ns (ns.length + 1) r ([], [])).1 else []

theorem codG_of_valid {ns : List Nd} {r : Int} (h : ValidG ns r) (hwf : Wf ns) : CodG ns 6 := by
  refine ⟨fun n hn => (h.nodes n hn).inn, fun n hn => (h.nodes n hn).few, fun n hn h0 => ?_, hwf⟩
  have hk := (h.nodes n hn).kind
  apply List.eq_nil_of_length_eq_zero
  rcases hk with hk | hk | hk | hk | hk | hk
  · exact hk.2.2.2
  · omega
  · omega
  · omega
  · omega
  · omega

theorem codeOf_few {ns : List Nd} {r : Int} (hwf : Wf ns) : (codeOf ns r).length ≤ 300 := by
  unfold codeOf
  split
  next h =>
    have hc := (coded ns 6 (codG_of_valid h hwf) (by have := h.few; omega) (ns.length + 1) r ([], []) (CInv.start ns) h.root0 h.root (by simp))
    have h1 := hc.len
    have h2 := hc.inv.met.len
    have := h.few
    simp at h1
    omega
  next => simp

theorem codeOf_64 {ns : List Nd} {r : Int} (hwf : Wf ns) : ∀ x ∈ codeOf ns r, In64 x := by
  unfold codeOf
  split
  next h => exact (coded ns 6 (codG_of_valid h hwf) (by have := h.few; omega) (ns.length + 1) r ([], []) (CInv.start ns) h.root0 h.root (by simp)).inv.wf
  next => simp

end Go.Proofs.Ytigelbilfddhgaa

namespace Go.Proofs.Ytigelbilfddhgaa

/-- all lists of kids, and the marks, are small -/
structure SmallN (ns : List Nd) : Prop where
  len : ns.length ≤ 400
  kids : ∀ n ∈ ns, n.kids.length ≤ 2000

end Go.Proofs.Ytigelbilfddhgaa

namespace Go.Proofs.Ytigelbilfddhgaa
open Go.RowKit
set_option linter.unusedVariables false

theorem prunedOf_smallN (ns : List Nd) (r : Int) : SmallN (prunedOf ns r) := by
  unfold prunedOf
  split
  · next hv =>
    have hp := reach_pickable hv
    refine ⟨by rw [pickNs_len]; have := @reachOf_few ns r; omega, fun n hn => ?_⟩
    obtain ⟨x, hx, rfl⟩ := List.mem_map.1 hn
    have hR := reachOf_reached hv
    obtain ⟨h0, h1⟩ := hR.met.range x hx
    obtain ⟨i, rfl⟩ := Int.eq_ofNat_of_zero_le h0
    have hi : i < ns.length := by omega
    rw [pickN_at (List.getElem?_eq_getElem hi)]
    have := (hv.nodes _ (List.getElem_mem hi)).few
    simp
    omega
  · exact ⟨by simp, fun n hn => by simp at hn⟩

end Go.Proofs.Ytigelbilfddhgaa

namespace Go.Proofs.Ytigelbilfddhgaa

theorem eq_of_prefix {α : Type} [DecidableEq α] {xs ys : List α} (h : xs.length = ys.length) {k : Nat} (hk : k = xs.length) (he : ∀ j, j < k → xs[j]? = ys[j]?) : xs = ys := by
  apply List.ext_getElem?
  intro j
  by_cases hj : j < k
  · exact he j hj
  · rw [List.getElem?_eq_none (by omega), List.getElem?_eq_none (by omega)]

end Go.Proofs.Ytigelbilfddhgaa

namespace Go.Proofs.Ytigelbilfddhgaa
open Go.RowKit

set_option maxHeartbeats 1000000 in
theorem equalI_any (A A' : Option Addr) (xs ys : List Int) (c c' : Nat) (w : World) (h : IntsAt w w.heap.size A xs) (h' : IntsAt w w.heap.size A' ys) :
    Calls Try.prog 18 #[.slice A xs.length c, .slice A' ys.length c'] w fun e w' => e = .returned (.bool (decide (xs = ys))) ∧ Below w.heap.size w w' := by
  have hl := h.len
  by_cases hne : xs.length = ys.length
  · have hb0 : ((xs.length : Int) != (ys.length : Int)) = false := by simp [hne]
    go_enter Try.func18, Try.ntmps18
    go_wp2_with fail
    go_loopw [13] (fun i wr => ∃ k : Nat, k ≤ xs.length ∧ i = .int .i64 k ∧ Below w.heap.size w wr ∧ ∀ j, j < k → xs[j]? = ys[j]?) (fun i _ => xs.length - (intOf i).toNat)
    case atStart => exact ⟨0, Nat.zero_le _, rfl, Below.refl _ _, fun j hj => absurd hj (by omega)⟩
    case round =>
      obtain ⟨k, hk, rfl, hb, he0⟩ := hrel
      have he := hide he0
      clear he0
      by_cases hlt : k < xs.length
      · obtain ⟨b, off, x, rfl, hbl, hx, _, hcx⟩ := (h.below hb).at_ hlt
        obtain ⟨b', off', y, rfl, hbl', hy, _, hcy⟩ := (h'.below hb).at_ (k := k) (by omega)
        have Hx := hide hx
        have Hy := hide hy
        clear hx hy
        have hk1 : (0 : Int) ≤ (k : Int) := by omega
        have hk2 : (k : Int) < (xs.length : Int) := by omega
        have hk3 : (k : Int) < (ys.length : Int) := by omega
        by_cases hxy : x = y
        · subst hxy
          go_wp2_with fail
          go_quiet (fail)
          go_wp2
          go_roundw
          case rel => exact ⟨k + 1, by omega, by go_num, below_drewN hb _, fun j hj => by
            by_cases e : j = k
            · subst e; rw [Hx.out, Hy.out]
            · exact he.out j (by omega)⟩
          case measure => simp [intOf]; omega
        · have hn1 : (x != y) = true := by simpa using hxy
          have hF : decide (xs = ys) = false := by
            simp only [decide_eq_false_iff_not]
            intro e
            subst e
            have := Hx.out.symm.trans Hy.out
            injection this with this
            exact hxy this
          have HF := hide hF
          clear hF
          go_wp2_with fail
          go_quiet (fail)
          go_wp2
          go_ret
          exact ⟨ret_bool HF.out.symm, below_drewN hb _⟩
      · obtain rfl : k = xs.length := by omega
        have hF : decide (xs = ys) = true := by
          simp only [decide_eq_true_eq]
          exact eq_of_prefix hne rfl he.out
        have HF := hide hF
        clear hF hlt
        go_wp2
        go_ret
        exact ⟨ret_bool HF.out.symm, hb⟩
  · have hb1 : ((xs.length : Int) != (ys.length : Int)) = true := by simp; omega
    have hF : decide (xs = ys) = false := by
      simp only [decide_eq_false_iff_not]
      intro e
      exact hne (by rw [e])
    have HF := hide hF
    clear hF
    go_enter Try.func18, Try.ntmps18
    go_wp2
    go_ret
    exact ⟨ret_bool HF.out.symm, Below.refl _ _⟩

end Go.Proofs.Ytigelbilfddhgaa
