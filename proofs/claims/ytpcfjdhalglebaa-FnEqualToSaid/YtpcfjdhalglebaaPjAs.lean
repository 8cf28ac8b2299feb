/-
  Lemmas, several texts in one: PickM, PrM, HerI, EqoS.
-/
import Derived.Test.YtpcfjdhalglebaaPjAk
import Derived.Test.YtpcfjdhalglebaaPjAr
import Derived.Test.YtpcfjdhalglebaaPjAi
import Derived.Test.YtpcfjdhalglebaaPjAl
import Derived.Test.YtpcfjdhalglebaaPjAa
import Derived.IntWalk
import Derived.Deep.Cut
import Derived.Deep.QuietTactic
import Derived.BigQuiet
import Derived.Test.YtpcfjdhalglebaaSpecE
import Derived.Test.YtpcfjdhalglebaaPjAc
namespace Go.Proofs.Ytpcfjdhalglebaa
open Go.RowKit
set_option linter.unusedVariables false

theorem pick_at {ns : List Nd} {L : List Int} {j i : Nat} {n : Nd} (hj : L[j]? = some (i : Int)) (hn : ns[i]? = some n) : (pickNs ns L)[j]? = some ⟨n.kind, n.value, n.kids.map (place L)⟩ := by
  unfold pickNs
  rw [List.getElem?_map, hj]
  simp [pickN_at hn]

theorem place_inj {L : List Int} {x y : Int} (hx : x ∈ L) (hy : y ∈ L) (h : place L x = place L y) : x = y := by
  rw [place_pos hx, place_pos hy] at h
  have h1 : L.idxOf x = L.idxOf y := by omega
  have h2 := List.getElem_idxOf (List.idxOf_lt_length_of_mem hx)
  have h3 := List.getElem_idxOf (List.idxOf_lt_length_of_mem hy)
  rw [← h2, ← h3]
  congr 1

theorem place_get {L : List Int} (hn : L.Nodup) {j : Nat} {x : Int} (hj : L[j]? = some x) : place L x = (j : Int) := by
  refine place_at hj (fun i hi e => ?_)
  obtain ⟨h1, h2⟩ := List.getElem?_eq_some_iff.1 hj
  obtain ⟨h3, h4⟩ := List.getElem?_eq_some_iff.1 e
  have := (List.getElem_inj hn).1 (h4.trans h2.symm)
  omega

theorem iso_pick {ns : List Nd} {r : Int} {L : List Int} (hp : Pickable ns r L) : Iso ns (pickNs ns L) (fun x => x ∈ L) (place L) := by
  refine ⟨hp.range, fun x hx => ?_, fun x y hx hy => place_inj hx hy, fun i n hi hn => ?_, fun i n hi hn => (hp.closed i n hi hn).2⟩
  · have := place_lt hx
    rw [pickNs_len]
    exact this
  · rw [place_pos hi, Int.toNat_natCast]
    refine pick_at ?_ hn
    have h := List.idxOf_lt_length_of_mem hi
    rw [List.getElem?_eq_getElem h, List.getElem_idxOf h]

theorem pick_onto {ns : List Nd} {r : Int} {L : List Int} (hp : Pickable ns r L) : ∀ j : Nat, j < (pickNs ns L).length → ∃ x, x ∈ L ∧ place L x = (j : Int) := by
  intro j hj
  rw [pickNs_len] at hj
  exact ⟨L[j], List.getElem_mem hj, place_get hp.nodup (List.getElem?_eq_getElem hj)⟩

theorem pick_valid {ns : List Nd} {r : Int} {L : List Int} (hv : ValidG ns r) (hp : Pickable ns r L) : ValidG (pickNs ns L) (place L r) :=
  (iso_pick hp).valid hv hp.root (pick_onto hp) (by rw [pickNs_len]; exact hp.few)

theorem pick_wf {ns : List Nd} {r : Int} {L : List Int} (hv : ValidG ns r) (hp : Pickable ns r L) : Wf (pickNs ns L) := by
  have hw := pick_valid hv hp
  intro n hn
  have hok := hw.nodes n hn
  have hk := hok.kind
  unfold KindOk at hk
  have h6 := hok.few
  have hf := hw.few
  refine ⟨?_, ?_, fun x hx => ?_, by omega⟩
  · constructor <;> omega
  · constructor <;> omega
  · have := hok.inn x hx
    constructor <;> omega

theorem pick_code {ns : List Nd} {r : Int} {L : List Int} (hv : ValidG ns r) (hp : Pickable ns r L) : codeOf (pickNs ns L) (place L r) = codeOf ns r := by
  have hw := pick_valid hv hp
  unfold codeOf
  rw [if_pos hv, if_pos hw]
  refine (iso_pick hp).code hv hw (pick_wf hv hp) hp.root ?_
  rw [pickNs_len]
  exact nodup_le _ _ hp.nodup hp.range

end Go.Proofs.Ytpcfjdhalglebaa

namespace Go.Proofs.Ytpcfjdhalglebaa
open Go.RowKit
set_option linter.unusedVariables false

theorem pruned_yes {ns : List Nd} {r : Int} (hv : ValidG ns r) : prunedOf ns r = pickNs ns (reachOf ns r) := by
  unfold prunedOf
  rw [if_pos hv]
theorem pruned_no {ns : List Nd} {r : Int} (hv : ¬ ValidG ns r) : prunedOf ns r = [] := by
  unfold prunedOf
  rw [if_neg hv]

/-- the pruned graph has the same code -/
theorem pruned_code {ns : List Nd} {r : Int} (hv : ValidG ns r) : codeOf (prunedOf ns r) 0 = codeOf ns r := by
  have h := pick_code hv (reach_pickable hv)
  rw [reach_place hv] at h
  rw [pruned_yes hv]
  exact h
theorem pruned_valid {ns : List Nd} {r : Int} (hv : ValidG ns r) : ValidG (prunedOf ns r) 0 := by
  have h := pick_valid hv (reach_pickable hv)
  rw [reach_place hv] at h
  rw [pruned_yes hv]
  exact h
theorem pruned_len {ns : List Nd} {r : Int} (hv : ValidG ns r) : (prunedOf ns r).length = (reachOf ns r).length := by
  rw [pruned_yes hv, pickNs_len]

theorem map_place_self {L : List Int} (hn : L.Nodup) : L.map (place L) = (List.range L.length).map (fun (i : Nat) => (i : Int)) := by
  apply List.ext_getElem?
  intro j
  rw [List.getElem?_map, List.getElem?_map]
  by_cases hj : j < L.length
  · rw [List.getElem?_eq_getElem hj, List.getElem?_range hj]
    simp only [Option.map_some, Option.some.injEq]
    exact place_get hn (List.getElem?_eq_getElem hj)
  · rw [List.getElem?_eq_none (by omega), List.getElem?_eq_none (by simpa using hj)]
    rfl

/-- all of the pruned graph is reached, in order -/
theorem pruned_reach {ns : List Nd} {r : Int} (hv : ValidG ns r) : reachOf (prunedOf ns r) 0 = (List.range (reachOf ns r).length).map (fun (i : Nat) => (i : Int)) := by
  have hp := reach_pickable hv
  have hR := reachOf_reached hv
  have hw := pruned_valid hv
  have hrch : ∀ y ∈ reachOf ns r, y ∈ reachOf ns r := fun y hy => hy
  rw [← map_place_self hR.met.nodup]
  have h := (dfs_iso (iso_pick hp) (ns.length + 1) r [] hp.root (fun y hy => by cases hy)).1
  rw [reach_place hv] at h
  have e1 : reachOf ns r = dfs ns anyB (ns.length + 1) r [] := by unfold reachOf; rw [if_pos hv]
  have e2 : reachOf (prunedOf ns r) 0 = dfs (prunedOf ns r) anyB ((prunedOf ns r).length + 1) 0 [] := by unfold reachOf; rw [if_pos hw]
  rw [e2]
  conv => rhs; arg 2; rw [e1]
  rw [← h, pruned_yes hv]
  have hle : (pickNs ns (reachOf ns r)).length ≤ ns.length := by rw [pickNs_len]; exact nodup_le _ _ hp.nodup hp.range
  obtain ⟨d, hd⟩ := Nat.exists_eq_add_of_le hle
  have hw2 := hw
  rw [pruned_yes hv] at hw2
  have := dfs_fuels (kidsIn_of_valid hw2) ((pickNs ns (reachOf ns r)).length + 1) 0 [] (Met.nil _) hw2.root0 hw2.root (by simp) d
  have e : (pickNs ns (reachOf ns r)).length + 1 + d = ns.length + 1 := by omega
  rw [e] at this
  exact this.symm

theorem place_range {m : Nat} {x : Int} (h0 : 0 ≤ x) (h1 : x < m) : place ((List.range m).map (fun (i : Nat) => (i : Int))) x = x := by
  obtain ⟨j, rfl⟩ := Int.eq_ofNat_of_zero_le h0
  refine place_get ?_ (j := j) (by rw [List.getElem?_map, List.getElem?_range (by omega)]; rfl)
  exact List.Pairwise.map _ (fun a b hab => by omega) (List.pairwise_lt_range (n := m) |>.imp (fun h => Nat.ne_of_lt h))

/-- pruned again it is the same -/
theorem pruned_again {ns : List Nd} {r : Int} (hv : ValidG ns r) : prunedOf (prunedOf ns r) 0 = prunedOf ns r := by
  have hw := pruned_valid hv
  rw [pruned_yes hw, pruned_reach hv, ← pruned_len hv]
  generalize prunedOf ns r = ms at hw
  apply List.ext_getElem?
  intro j
  unfold pickNs
  rw [List.getElem?_map, List.getElem?_map]
  by_cases hj : j < ms.length
  · rw [List.getElem?_range hj, List.getElem?_eq_getElem hj]
    simp only [Option.map_some, Option.some.injEq]
    rw [pickN_at (List.getElem?_eq_getElem hj)]
    have hok := hw.nodes _ (List.getElem_mem hj)
    generalize ms[j] = n at hok
    have e : n.kids.map (place ((List.range ms.length).map (fun (i : Nat) => (i : Int)))) = n.kids := by
      conv => rhs; rw [← List.map_id n.kids]
      apply List.map_congr_left
      intro k hk
      have := hok.inn k hk
      exact place_range this.1 this.2
    rw [e]
  · rw [List.getElem?_eq_none (by simpa using hj), List.getElem?_eq_none (by omega)]
    rfl

/-- the first numbers of a code -/
theorem code_first {ns : List Nd} {r : Int} (hv : ValidG ns r) : ∃ l, codeOf ns r = kindOf ns r :: valueOf ns r :: l := by
  unfold codeOf
  rw [if_pos hv, cod_new (by simp)]
  have key : ∀ (xs : List Int) (q : CM), ∃ l, (codL ns ns.length xs q).1 = q.1 ++ l := by
    intro xs
    induction xs with
    | nil => intro q; exact ⟨[], by simp [codL]⟩
    | cons a xs ih =>
      intro q
      obtain ⟨l1, h1⟩ := cod_grows (ns := ns) ns.length a q
      obtain ⟨l2, h2⟩ := ih (cod ns ns.length a q)
      refine ⟨l1 ++ l2, ?_⟩
      show (codL ns ns.length xs (cod ns ns.length a q)).1 = _
      rw [h2, h1, List.append_assoc]
  obtain ⟨l, h⟩ := key (kidsOf ns r) (codPut ns r ([], []))
  refine ⟨((kidsOf ns r).length : Int) :: l, ?_⟩
  rw [h]
  unfold codPut
  simp

end Go.Proofs.Ytpcfjdhalglebaa

namespace Go.Proofs.Ytpcfjdhalglebaa
open Go.RowKit Go.Maps
set_option linter.unusedVariables false

set_option maxHeartbeats 1000000 in
theorem haveEqualRoots_any (A B C : Option Addr) (nl ml ca cb cc : Nat) (r s : Int) (cls : List Int) (w : World) (hC : IntsAt w w.heap.size C cls) (hr0 : 0 ≤ r) (hr1 : r < cls.length) (hs0 : 0 ≤ s) (hs1 : nl + s < cls.length) (hl : cls.length ≤ 1000) :
    Calls Try.prog 14 #[.agg #[.slice A nl ca, .int .i64 r], .agg #[.slice B ml cb, .int .i64 s], .slice C cls.length cc] w fun e w' => e = .returned (.bool (decide (look cls r = look cls ((nl : Int) + s)))) ∧ Below w.heap.size w w' := by
  obtain ⟨i, rfl⟩ := Int.eq_ofNat_of_zero_le hr0
  obtain ⟨j, rfl⟩ := Int.eq_ofNat_of_zero_le hs0
  obtain ⟨b, off, x, rfl, hbl, hx, _, cx⟩ := hC.at_ (k := i) (by omega)
  obtain ⟨b2, off2, y, hb2, _, hy, _, cy⟩ := hC.at_ (k := nl + j) (by omega)
  injection hb2 with hb2
  injection hb2 with e1 e2 _
  subst e1
  subst e2
  have hB2 : Below w.heap.size w ((w.alloc (.cells #[.slice A nl ca, .int .i64 (i : Int)] 25)).alloc (.cells #[.slice B ml cb, .int .i64 (j : Int)] 25)) := ((Below.refl _ _).alloc (Nat.le_refl _) _).alloc (by simp) _
  have lA := (Lies.new w #[.slice A nl ca, .int .i64 (i : Int)] 25).alloc (.cells #[.slice B ml cb, .int .i64 (j : Int)] 25)
  have lB := Lies.new (w.alloc (.cells #[.slice A nl ca, .int .i64 (i : Int)] 25)) #[.slice B ml cb, .int .i64 (j : Int)] 25
  simp only [World.size_alloc] at lB
  have hx2 : look cls (i : Int) = x := look_at hx
  have hy2 : look cls ((nl : Int) + (j : Int)) = y := by
    have := look_at hy
    rwa [Int.natCast_add] at this
  have cx := (hB2.cell (p := ⟨b, off + i, none⟩) hbl).trans cx
  have cy := (hB2.cell (p := ⟨b, off + (nl + j), none⟩) hbl).trans cy
  have H1 := hide hx2
  have H2 := hide hy2
  clear hC hx hy hx2 hy2
  go_enter Try.func14, Try.ntmps14
  go_upto_region 1 with fail
  generalize (w.alloc (.cells #[.slice A nl ca, .int .i64 (i : Int)] 25)).alloc (.cells #[.slice B ml cb, .int .i64 (j : Int)] 25) = W at hB2 lA lB cx cy ⊢
  have e0 := lA.cell 0
  have e1 := lA.cell 1
  have d1 := lB.cell 1
  simp only [List.getElem?_toArray, List.getElem?_cons_zero, List.getElem?_cons_succ] at e0 e1 d1
  have HB := hide hB2
  have q1 : (0 : Int) ≤ (i : Int) := by omega
  have q2 : (i : Int) < (cls.length : Int) := by omega
  have q3 : (0 : Int) ≤ (nl : Int) + (j : Int) := by omega
  have q4 : (nl : Int) + (j : Int) < (cls.length : Int) := by omega
  have q5 : IntKind.i64.wrap ((nl : Int) + (j : Int)) = (nl : Int) + (j : Int) := by rw [IntKind.wrap_i64]; omega
  have q6 : ((nl : Int) + (j : Int)).toNat = nl + j := by omega
  clear lA lB hB2
  go_quiet (fail)
  go_wp2
  go_ret
  exact ⟨ret_bool (by rw [H1.out, H2.out]; first | rfl | simp), below_drewN HB.out _⟩

end Go.Proofs.Ytpcfjdhalglebaa

namespace Go.Proofs.Ytpcfjdhalglebaa
open Go.RowKit Go.Maps
set_option linter.unusedVariables false

set_option maxHeartbeats 2000000 in
theorem specEqualTo_any (A A' : Option Addr) (ns ms : List Nd) (c c' : Nat) (r s d : Int) (w : World) (hr : NdsAt w w.heap.size A ns) (hq : NdsAt w w.heap.size A' ms) :
    Calls Try.prog 6 #[.agg #[.slice A ns.length c, .int .i64 r], .agg #[.slice A' ms.length c', .int .i64 s], .int .i64 d] w fun e w' => e = .returned (.bool (tf (EqToG ns r ms s d))) ∧ Below w.heap.size w w' := by
  have hB2 : Below w.heap.size w ((w.alloc (.cells #[.slice A ns.length c, .int .i64 r] 25)).alloc (.cells #[.slice A' ms.length c', .int .i64 s] 25)) := ((Below.refl _ _).alloc (Nat.le_refl _) _).alloc (by simp) _
  have lA := (Lies.new w #[.slice A ns.length c, .int .i64 r] 25).alloc (.cells #[.slice A' ms.length c', .int .i64 s] 25)
  have lB := Lies.new (w.alloc (.cells #[.slice A ns.length c, .int .i64 r] 25)) #[.slice A' ms.length c', .int .i64 s] 25
  simp only [World.size_alloc] at lB
  have hr2 := hr.later hB2 (Nat.le_refl _)
  have hq2 := hq.later hB2 (Nat.le_refl _)
  clear hr hq
  go_enter Try.func6, Try.ntmps6
  go_wp2_with fail
  generalize (w.alloc (.cells #[.slice A ns.length c, .int .i64 r] 25)).alloc (.cells #[.slice A' ms.length c', .int .i64 s] 25) = W at hB2 lA lB hr2 hq2 ⊢
  refine (specValidGraph_any A ns c r W hr2).mono ?_
  rintro e w1 ⟨rfl, hb1⟩
  have lA1 := lA.below hb1 lA.lt
  have lB1 := lB.below hb1 lB.lt
  have hr3 := hr2.later hb1 (Nat.le_refl _)
  have hq3 := hq2.later hb1 (Nat.le_refl _)
  have hB3 := hB2.trans (hb1.mono hB2.size)
  have e0 := lA1.cell 0
  have e1 := lA1.cell 1
  have d0 := lB1.cell 0
  have d1 := lB1.cell 1
  simp only [List.getElem?_toArray, List.getElem?_cons_zero, List.getElem?_cons_succ] at e0 e1 d0 d1
  clear lA lB hr2 hq2 hB2 hb1
  by_cases hv : ValidG ns r
  · rw [tf_true hv]
    go_wp2_with fail
    refine (specValidGraph_any A' ms c' s w1 hq3).mono ?_
    rintro e w2 ⟨rfl, hb2⟩
    have lA2 := lA1.below hb2 lA1.lt
    have lB2 := lB1.below hb2 lB1.lt
    have hr4 := hr3.later hb2 (Nat.le_refl _)
    have hq4 := hq3.later hb2 (Nat.le_refl _)
    have hB4 := hB3.trans (hb2.mono hB3.size)
    clear e0 e1 d0 d1
    have e0 := lA2.cell 0
    have e1 := lA2.cell 1
    have d0 := lB2.cell 0
    have d1 := lB2.cell 1
    simp only [List.getElem?_toArray, List.getElem?_cons_zero, List.getElem?_cons_succ] at e0 e1 d0 d1
    clear lA1 lB1 hr3 hq3 hB3 hb2
    by_cases hwd : ValidG ms s ∧ 0 ≤ d ∧ d ≤ 8
    · obtain ⟨hw, hd0, hd8⟩ := hwd
      rw [tf_true hw]
      obtain ⟨dn, rfl⟩ := Int.eq_ofNat_of_zero_le hd0
      obtain ⟨i, rfl⟩ := Int.eq_ofNat_of_zero_le hv.root0
      obtain ⟨j, rfl⟩ := Int.eq_ofNat_of_zero_le hw.root0
      have hil : i < ns.length := by have := hv.root; omega
      have hjl : j < ms.length := by have := hw.root; omega
      have HQ := hide (equalTo_any dn (dn : Int) (hide rfl) (by omega) A A' ns ms c c' i j i j w2 hr4 hq4 (validG_kids hv) (validG_kids hw) hil hjl)
      have HE : Hid (tf (EqToG ns (i : Int) ms (j : Int) (dn : Int)) = tf (EqN ns ms dn (i : Int) (j : Int))) := hide (tf_congr ⟨fun h => by simpa [RootsEq, EqN] using h.2.2.2.2, fun h => ⟨hv, hw, hd0, hd8, by simpa [RootsEq, EqN] using h⟩⟩)
      have HB4 := hide hB4
      clear hv hw lA2 lB2 hr4 hq4 hB4
      go_wp2_with fail
      refine (inRange_yes (dn : Int) 0 8 w2 hd0 hd8).mono ?_
      rintro e wx ⟨rfl, rfl⟩
      go_wp2_with fail
      refine HQ.out.mono ?_
      clear HQ
      rintro e w3 ⟨rfl, hb3⟩
      have HB5 := hide (HB4.out.trans (hb3.mono HB4.out.size))
      clear e0 e1 d0 d1 hb3 HB4
      go_wp2
      go_ret
      exact ⟨ret_bool HE.out.symm, HB5.out⟩
    · have HE : Hid (tf (EqToG ns r ms s d) = false) := hide (tf_false fun h => hwd ⟨h.2.1, h.2.2.1, h.2.2.2.1⟩)
      have HB := hide hB4
      clear hv lA2 lB2 hr4 hq4 hB4 e0 e1 d0 d1
      by_cases hw : ValidG ms s
      · have hd : d < 0 ∨ 8 < d := by
          rcases Int.lt_or_le d 0 with h | h
          · exact .inl h
          · exact .inr (by rcases Int.lt_or_le 8 d with h2 | h2; exact h2; exact absurd ⟨hw, h, h2⟩ hwd)
        rw [tf_true hw]
        clear hw hwd
        go_wp2_with fail
        refine (inRange_no d 0 8 w2 hd).mono ?_
        rintro e wx ⟨rfl, rfl⟩
        clear hd
        go_wp2
        go_ret
        exact ⟨ret_bool HE.out.symm, HB.out⟩
      · rw [tf_false hw]
        clear hw hwd
        go_wp2
        go_ret
        exact ⟨ret_bool HE.out.symm, HB.out⟩
  · have HE : Hid (tf (EqToG ns r ms s d) = false) := hide (tf_false fun h => hv h.1)
    rw [tf_false hv]
    have HB := hide hB3
    clear hv lA1 lB1 hr3 hq3 hB3 e0 e1 d0 d1
    go_wp2
    go_ret
    exact ⟨ret_bool HE.out.symm, HB.out⟩

end Go.Proofs.Ytpcfjdhalglebaa
