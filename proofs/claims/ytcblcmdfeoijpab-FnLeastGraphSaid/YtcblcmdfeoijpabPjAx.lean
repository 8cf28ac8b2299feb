/-
  Lemmas, several texts in one: LsqM, EqdI.
-/
import Derived.Test.YtcblcmdfeoijpabPjAq
import Derived.Test.YtcblcmdfeoijpabPjAo
import Derived.Test.YtcblcmdfeoijpabPjAu
import Derived.Test.YtcblcmdfeoijpabPjAv
import Derived.Test.YtcblcmdfeoijpabPjAn
import Derived.Test.YtcblcmdfeoijpabPjAr
namespace Go.Proofs.Ytcblcmdfeoijpab
open Go.RowKit
set_option linter.unusedVariables false

theorem nodup_sub_len : ∀ (a b : List Int), a.Nodup → (∀ x ∈ a, x ∈ b) → a.length ≤ b.length
  | [], _, _, _ => Nat.zero_le _
  | x :: a, b, hd, hs => by
    have hx := hs x (by simp)
    have hn := List.nodup_cons.1 hd
    have h1 := nodup_sub_len a (b.erase x) hn.2 (fun y hy => by
      have hne : y ≠ x := fun e => hn.1 (by rw [← e]; exact hy)
      exact (List.mem_erase_of_ne hne).2 (hs y (by simp [hy])))
    have h2 := List.length_erase_of_mem hx
    have h3 : 0 < b.length := List.length_pos_of_mem hx
    rw [List.length_cons]
    omega

/-- the numbers from 0 on -/
def idNums (n : Nat) : List Int := (List.range n).map fun (i : Nat) => (i : Int)
theorem idNums_len (n : Nat) : (idNums n).length = n := by simp [idNums]
theorem idNums_at {n k : Nat} (h : k < n) : (idNums n)[k]? = some (k : Int) := by
  unfold idNums
  rw [List.getElem?_map, List.getElem?_range h]
  rfl
theorem idNums_64 {n : Nat} (h : n ≤ 1000) : ∀ x ∈ idNums n, In64 x := by
  intro x hx
  obtain ⟨i, hi, rfl⟩ := List.mem_map.1 hx
  have := List.mem_range.1 hi
  constructor <;> omega
theorem look_id {n : Nat} {x : Int} (h0 : 0 ≤ x) (h1 : x < n) : look (idNums n) x = x := by
  obtain ⟨i, rfl⟩ := Int.eq_ofNat_of_zero_le h0
  exact look_at (idNums_at (by omega))
theorem repl_id {ns : List Nd} (hk : KidsIn ns) : replNs ns (idNums ns.length) = ns := by
  unfold replNs
  conv => rhs; rw [← List.map_id ns]
  apply List.map_congr_left
  intro n hn
  unfold replNd
  have : n.kids.map (look (idNums ns.length)) = n.kids := by
    conv => rhs; rw [← List.map_id n.kids]
    apply List.map_congr_left
    intro x hx
    have := hk n hn x hx
    exact look_id this.1 this.2
  rw [this]
  rfl

/-- all that the laws ask of the least graph, of one that is found valid -/
theorem least_facts {ns : List Nd} {r : Int} (hv : ValidG ns r) :
    ValidG (lstN ns r) 0 ∧ EqDeepG (lstN ns r) 0 ns r ∧ clsN (lstN ns r) (lstN ns r).length = idNums (lstN ns r).length ∧ lstN (lstN ns r) 0 = lstN ns r ∧ (lstN ns r).length ≤ (reachOf ns r).length ∧ 0 < (lstN ns r).length := by
  have hk := validG_kids hv
  have hc := cong_cls hk
  have hg := least_valid hv
  rw [lstN_yes hv]
  generalize hcl : clsN ns ns.length = cl at hc hg ⊢
  have hvo := pruned_valid hg
  have hR := reachOf_reached hg
  have hstay := repl_reached hv hc hR
  have hp := reach_pickable hg
  have hiso := iso_pick hp
  have hrp := reach_place hg
  have hpy := pruned_yes hg
  have hlen := pruned_len hg
  have hag := pruned_again hg
  have hpos : 0 < (prunedOf (replNs ns cl) (look cl r)).length := by rw [hlen]; exact reachOf_some hg
  -- each reached node is equal to the one of its place
  have heq : ∀ (j : Nat) (x : Int), (reachOf (replNs ns cl) (look cl r))[j]? = some x → EqqAll (prunedOf (replNs ns cl) (look cl r)) ns (j : Int) x := by
    intro j x hj
    have hm := List.mem_of_getElem? hj
    obtain ⟨⟨x0, x1⟩, hs⟩ := hstay x hm
    have h1 := (hiso.eqAll hm).symm
    rw [place_get hp.nodup hj, ← hpy] at h1
    have h2 := repl_eqAll hk hc x0 x1
    rw [hs] at h2
    exact h1.trans h2
  have hcls : clsN (prunedOf (replNs ns cl) (look cl r)) (prunedOf (replNs ns cl) (look cl r)).length = idNums (prunedOf (replNs ns cl) (look cl r)).length := by
    apply List.ext_getElem?
    intro i
    by_cases hi : i < (prunedOf (replNs ns cl) (look cl r)).length
    · rw [idNums_at hi]
      obtain ⟨j, g1, g2, g3⟩ := cls_self (ns := prunedOf (replNs ns cl) (look cl r)) (prunedOf (replNs ns cl) (look cl r)).length hi
      rw [g1]
      have hji : j < (prunedOf (replNs ns cl) (look cl r)).length := by omega
      have e1 := (cls_all_iff (validG_kids hvo) (x := (i : Int)) (y := (j : Int)) (by omega) (by omega) (by omega) (by omega)).1 (by rw [look_at g1, look_at g3])
      have hil : i < (reachOf (replNs ns cl) (look cl r)).length := by omega
      have hjl : j < (reachOf (replNs ns cl) (look cl r)).length := by omega
      have a1 := List.getElem?_eq_getElem hil
      have a2 := List.getElem?_eq_getElem hjl
      have e2 := (heq i _ a1).symm.trans (e1.trans (heq j _ a2))
      obtain ⟨⟨x0, x1⟩, hs1⟩ := hstay _ (List.getElem_mem hil)
      obtain ⟨⟨y0, y1⟩, hs2⟩ := hstay _ (List.getElem_mem hjl)
      have e3 := (cls_all_iff hk x0 x1 y0 y1).2 e2
      rw [hcl, hs1, hs2] at e3
      have := (List.getElem_inj hp.nodup).1 e3
      subst this
      rfl
    · rw [List.getElem?_eq_none (by rw [clsN_len]; omega), List.getElem?_eq_none (by rw [idNums_len]; omega)]
  refine ⟨hvo, (eqDeep_iff hvo hv).2 ?_, hcls, ?_, ?_, hpos⟩
  · have hm : look cl r ∈ reachOf (replNs ns cl) (look cl r) := hp.root
    have h1 := (hiso.eqAll hm).symm
    rw [hrp, ← hpy] at h1
    exact h1.trans (repl_eqAll hk hc hv.root0 hv.root)
  · rw [lstN_yes hvo, hcls, repl_id (validG_kids hvo), look_id (Int.le_refl 0) (by omega)]
    exact hag
  · rw [hlen]
    have hsub : ∀ x ∈ reachOf (replNs ns cl) (look cl r), x ∈ (reachOf ns r).map (look cl) := by
      have hRn := reachOf_reached hv
      have key : ∀ (k : Nat) (x : Int), (reachOf (replNs ns cl) (look cl r))[k]? = some x → x ∈ (reachOf ns r).map (look cl) := by
        intro k
        induction k using Nat.strongRecOn with
        | _ k ih =>
          intro x hx
          rcases Nat.eq_zero_or_pos k with h0 | h0
          · subst h0
            rw [hR.ord.first x hx]
            exact List.mem_map_of_mem (by
              have := reach_pickable hv
              exact this.root)
          · obtain ⟨m, y, hm, hy, hin⟩ := hR.ord.later k x h0 hx
            obtain ⟨z, hz, ez⟩ := List.mem_map.1 (ih m hm y hy)
            have hzr := hRn.met.range z hz
            obtain ⟨⟨y0, y1⟩, hys⟩ := hstay y (List.mem_of_getElem? hy)
            obtain ⟨a, n, rfl, hn⟩ := nd_of y0 y1
            obtain ⟨b, q, rfl, hq⟩ := nd_of hzr.1 hzr.2
            rw [kidsOf_repl hn] at hin
            obtain ⟨u, hu, rfl⟩ := List.mem_map.1 hin
            obtain ⟨v, hvm, ev⟩ := sig_kid (hc.same a b n q hn hq (by rw [hys, ez])) hu
            rw [← ev]
            exact List.mem_map_of_mem (hRn.closed (b : Int) hz v (by rw [kidsOf_at hq]; exact hvm))
      intro x hx
      obtain ⟨k, hk2, e⟩ := List.getElem_of_mem hx
      exact key k x (by rw [List.getElem?_eq_getElem hk2, e])
    have := nodup_sub_len _ _ hp.nodup hsub
    simpa using this

end Go.Proofs.Ytcblcmdfeoijpab

namespace Go.Proofs.Ytcblcmdfeoijpab
open Go.RowKit Go.Maps
set_option linter.unusedVariables false

set_option maxHeartbeats 2000000 in
theorem implEqualDeep_any (A A' : Option Addr) (ns ms : List Nd) (c c' : Nat) (r s : Int) (w : World) (hr : NdsAt w w.heap.size A ns) (hq : NdsAt w w.heap.size A' ms) :
    Calls Try.prog 10 #[.agg #[.slice A ns.length c, .int .i64 r], .agg #[.slice A' ms.length c', .int .i64 s]] w fun e w' => e = .returned (.bool (tf (EqDeepG ns r ms s))) ∧ Below w.heap.size w w' := by
  have hB2 : Below w.heap.size w ((w.alloc (.cells #[.slice A ns.length c, .int .i64 r] 25)).alloc (.cells #[.slice A' ms.length c', .int .i64 s] 25)) := ((Below.refl _ _).alloc (Nat.le_refl _) _).alloc (by simp) _
  have lA := (Lies.new w #[.slice A ns.length c, .int .i64 r] 25).alloc (.cells #[.slice A' ms.length c', .int .i64 s] 25)
  have lB := Lies.new (w.alloc (.cells #[.slice A ns.length c, .int .i64 r] 25)) #[.slice A' ms.length c', .int .i64 s] 25
  simp only [World.size_alloc] at lB
  have hr2 := hr.later hB2 (Nat.le_refl _)
  have hq2 := hq.later hB2 (Nat.le_refl _)
  clear hr hq
  go_enter Try.func10, Try.ntmps10
  go_wp2_with fail
  generalize (w.alloc (.cells #[.slice A ns.length c, .int .i64 r] 25)).alloc (.cells #[.slice A' ms.length c', .int .i64 s] 25) = W at hB2 lA lB hr2 hq2 ⊢
  refine (implValid_any A ns c r W hr2).mono ?_
  rintro e w1 ⟨rfl, hb1⟩
  have lA1 := lA.below hb1 lA.lt
  have lB1 := lB.below hb1 lB.lt
  have hr3 := hr2.later hb1 (Nat.le_refl _)
  have hq3 := hq2.later hb1 (Nat.le_refl _)
  have hB3 := hB2.trans (hb1.mono hB2.size)
  have e0 := lA1.cell 0
  have e1 := lA1.cell 1
  have d0 := lB1.cell 0
  have d1 := lB1.cell 1
  simp only [List.getElem?_toArray, List.getElem?_cons_zero, List.getElem?_cons_succ] at e0 e1 d0 d1
  clear lA lB hr2 hq2 hB2 hb1
  by_cases hv : ValidG ns r
  · rw [tf_true hv]
    go_wp2_with fail
    refine (implValid_any A' ms c' s w1 hq3).mono ?_
    rintro e w2 ⟨rfl, hb2⟩
    have lA2 := lA1.below hb2 lA1.lt
    have lB2 := lB1.below hb2 lB1.lt
    have hr4 := hr3.later hb2 (Nat.le_refl _)
    have hq4 := hq3.later hb2 (Nat.le_refl _)
    have hB4 := hB3.trans (hb2.mono hB3.size)
    clear e0 e1 d0 d1
    have e0 := lA2.cell 0
    have e1 := lA2.cell 1
    have d0 := lB2.cell 0
    have d1 := lB2.cell 1
    simp only [List.getElem?_toArray, List.getElem?_cons_zero, List.getElem?_cons_succ] at e0 e1 d0 d1
    clear lA1 lB1 hr3 hq3 hB3 hb2
    by_cases hw : ValidG ms s
    · rw [tf_true hw]
      have HW := hide (RowN.wfJ hv hw hr4 hq4)
      have HK := hide (joinNs_kids (validG_kids hv) (validG_kids hw))
      have hjs := joined_small hv hw
      have HJ := hide (joinedNodes_any A ns c r A' ms c' s w2 hr4 hq4 (by have := hv.few; omega) (by have := hw.few; omega) (fun n hn => ((validG_bounds hv).2 n hn).1) (validG_bounds hw).2)
      have hr0 := hv.root0
      have hr1 := hv.root
      have hs0 := hw.root0
      have hs1 := hw.root
      have hlen := hide (joinNs_len ns ms)
      have hn1 : (ns.length : Int) ≤ (joinNs ns ms).length := by have := hlen.out; omega
      have hn2 : (ns.length : Int) + ms.length ≤ (joinNs ns ms).length := by have := hlen.out; omega
      have HE : Hid (tf (EqDeepG ns r ms s) = tf (RootsEq ns r ms s (joinNs ns ms).length)) := hide (tf_congr ⟨fun h => h.2.2, fun h => ⟨hv, hw, h⟩⟩)
      have HLA := hide lA2
      have HLB := hide lB2
      have HB4 := hide hB4
      clear hv hw lA2 lB2 hr4 hq4 hB4
      go_wp2_with fail
      refine HJ.out.mono ?_
      clear HJ
      rintro e w3 ⟨Aj, cj, rfl, hrow, hb3⟩
      have HN := hide (hrow.nds HW.out (by omega))
      have hcap := hrow.capJ
      have HB5 := hide (HB4.out.trans (hb3.mono HB4.out.size))
      have lA3 := HLA.out.below hb3 HLA.out.lt
      have lB3 := HLB.out.below hb3 HLB.out.lt
      clear e0 e1 d0 d1 hrow hb3 HLA HLB HB4
      have HLA := hide lA3
      have HLB := hide lB3
      clear lA3 lB3
      go_wp2_with fail
      refine (deepClasses_any Aj (joinNs ns ms) cj w3 HN.out HK.out (by omega) hcap).mono ?_
      rintro e w4 ⟨Ag, cg, rfl, ho, hb4⟩
      have lA4 := HLA.out.below hb4 HLA.out.lt
      have lB4 := HLB.out.below hb4 HLB.out.lt
      have e0 := lA4.cell 0
      have e1 := lA4.cell 1
      have d0 := lB4.cell 0
      have d1 := lB4.cell 1
      simp only [List.getElem?_toArray, List.getElem?_cons_zero, List.getElem?_cons_succ] at e0 e1 d0 d1
      have hcl := hide (clsN_len (joinNs ns ms) (joinNs ns ms).length)
      have hIn : ∀ x ∈ clsN (joinNs ns ms) (joinNs ns ms).length, In64 x := fun x hx => by
        have := clsN_in (joinNs ns ms) _ x hx
        constructor <;> omega
      have HI := hide (ho.ints hIn (by rw [hcl.out]; omega))
      have HH := hide (haveEqualRoots_any A A' Ag ns.length ms.length c c' cg r s (clsN (joinNs ns ms) (joinNs ns ms).length) w4 HI.out hr0 (by rw [hcl.out]; omega) hs0 (by rw [hcl.out]; omega) (by rw [hcl.out]; omega))
      rw [RootsEq.tf_def, ← HE.out] at HH
      have HB6 := hide (HB5.out.trans (hb4.mono HB5.out.size))
      clear ho hb4 lA4 lB4 hIn HI HN HE
      go_wp2_with fail
      refine HH.out.mono ?_
      rintro e w5 ⟨rfl, hb5⟩
      have HB7 := hide (HB6.out.trans (hb5.mono HB6.out.size))
      clear hb5 e0 e1 d0 d1
      go_wp2
      go_ret
      exact ⟨rfl, HB7.out⟩
    · have HE : Hid (tf (EqDeepG ns r ms s) = false) := hide (tf_false fun h => hw h.2.1)
      rw [tf_false hw]
      have HB := hide hB4
      clear hv hw lA2 lB2 hr4 hq4 hB4 e0 e1 d0 d1
      go_wp2
      go_ret
      exact ⟨ret_bool HE.out.symm, HB.out⟩
  · have HE : Hid (tf (EqDeepG ns r ms s) = false) := hide (tf_false fun h => hv h.1)
    rw [tf_false hv]
    have HB := hide hB3
    clear hv lA1 lB1 hr3 hq3 hB3 e0 e1 d0 d1
    go_wp2
    go_ret
    exact ⟨ret_bool HE.out.symm, HB.out⟩

end Go.Proofs.Ytcblcmdfeoijpab
