/-
  Lemmas, several texts in one: ShcI, EqdI.
-/
import Derived.Test.YtpcfjdhalglebabPjAl
import Derived.Test.YtpcfjdhalglebabPjAo
import Derived.Test.YtpcfjdhalglebabPjAp
import Derived.Test.YtpcfjdhalglebabPjAq
import Derived.Test.YtpcfjdhalglebabPjAm
import Derived.Test.YtpcfjdhalglebabPjAn
import Derived.Test.YtpcfjdhalglebabJoiI
namespace Go.Proofs.Ytpcfjdhalglebab
open Go.RowKit Go.Maps
set_option linter.unusedVariables false

set_option maxHeartbeats 2000000 in
theorem implShallow_any (A : Option Addr) (ns : List Nd) (c : Nat) (r : Int) (w : World) (hr : NdsAt w w.heap.size A ns) :
    Calls Try.prog 5 #[.agg #[.slice A ns.length c, .int .i64 r]] w (GivesG w (shalN ns r) (shalR ns r)) := by
  have hB2 : Below w.heap.size w ((w.alloc (.cells #[.slice A ns.length c, .int .i64 r] 25)).alloc (.cells #[.slice none 0 0, .int .i64 0] 25)) := ((Below.refl _ _).alloc (Nat.le_refl _) _).alloc (by simp) _
  have lG := (Lies.new w #[.slice A ns.length c, .int .i64 r] 25).alloc (.cells #[.slice none 0 0, .int .i64 0] 25)
  have lR := Lies.new (w.alloc (.cells #[.slice A ns.length c, .int .i64 r] 25)) #[.slice none 0 0, .int .i64 0] 25
  simp only [World.size_alloc] at lR
  have hr2 := hr.later hB2 (Nat.le_refl _)
  clear hr
  go_enter Try.func5, Try.ntmps5
  go_upto_region 1 with fail
  generalize (w.alloc (.cells #[.slice A ns.length c, .int .i64 r] 25)).alloc (.cells #[.slice none 0 0, .int .i64 0] 25) = W at hB2 lG lR hr2 ⊢
  have g0 := lG.cell 0
  have g1 := lG.cell 1
  simp at g0 g1
  go_wp2_with fail
  clear g0 g1
  refine (implValid_any A ns c r W hr2).mono ?_
  rintro e w1 ⟨rfl, hb1⟩
  have lG1 := lG.below hb1 lG.lt
  have lR1 := lR.below hb1 lR.lt
  have hr3 := hr2.later hb1 (Nat.le_refl _)
  have hB3 := hB2.trans (hb1.mono hB2.size)
  have e0 := lG1.cell 0
  have e1 := lG1.cell 1
  simp at e0 e1
  clear lG lR hr2 hB2 hb1
  by_cases hy : ValidG ns r ∧ ns.length ≠ 12
  · obtain ⟨hv, h12⟩ := hy
    rw [tf_true hv]
    obtain ⟨i, rfl⟩ := Int.eq_ofNat_of_zero_le hv.root0
    have hil : i < ns.length := by have := hv.root; omega
    have hfew := hv.few
    have HK : Hid (∀ n ∈ ns, n.kids.length ≤ 1000) := hide (fun n hn => by have := (hv.nodes n hn).few; omega)
    have HV := hide hv
    have hRl := lR1.lt
    have hGl := lG1.lt
    have hd : decide ((ns.length : Int) = 12) = false := by simp; omega
    clear hv
    go_wp2_with fail
    refine (clonedNodes_any A ns c w1 hr3 (by omega) HK.out).mono ?_
    rintro e w2 ⟨g, rfl, hrow, hb2⟩
    obtain ⟨b, off, n, rfl, hbl, hn, hm, hnd⟩ := (hr3.below hb2).at_ hil
    obtain ⟨A1, c1, k2, hki, hnil⟩ := hnd.kids
    have k0 := hnd.kind
    have k1 := hnd.value
    have e0 := (hb2.cell (p := ⟨w.heap.size, 0, none⟩) hGl).trans e0
    have e1 := (hb2.cell (p := ⟨w.heap.size, 1, none⟩) hGl).trans e1
    have HC := hide (clonedNode_any n A1 c1 w2 (hki.later (Below.refl _ _) hb2.size) hnil (HK.out n hm))
    have HD := hide (hrow.rowD (by unfold maxLen; omega))
    have hlo := hrow.hlo
    have HN := hide hn
    have hs2 := hb2.size
    have Hb2 := hide hb2
    have hi3 : (0 : Int) ≤ (i : Int) := by omega
    have hi4 : (i : Int) < (ns.length : Int) := by omega
    clear hrow hki hnd hn hm hbl hr3 hnil hb2
    go_wp2_with fail
    refine HC.out.mono ?_
    clear HC
    rintro e w3 ⟨Ak, ck, rfl, hown, hb3⟩
    have hs3 := hb3.size
    have hba : Below w3.heap.size w3 (w3.alloc (.cells #[.int .i64 n.kind, .int .i64 n.value, .slice Ak n.kids.length ck] 33)) := (Below.refl _ _).alloc (Nat.le_refl _) _
    have HD3 := hide ((HD.out.below hb3).below hba)
    have HO3 := hide ((hown.below hba).lowB (base' := w1.heap.size) hs2)
    have HOb := hide hown.blocks
    have Hb3 := hide ((Hb2.out.trans (hb3.mono hs2)).trans (hba.mono (by omega)))
    have l6 := Lies.new w3 #[.int .i64 n.kind, .int .i64 n.value, .slice Ak n.kids.length ck] 33
    have HL6 := hide l6
    clear hown hb3 hba l6 HD k0 k1 k2 e0 e1
    go_wp2_with (at_builtin; refine append_ndD rfl (.tmp 19) (.tmp 27) rfl w1.heap.size w2.heap.size w3.heap.size _ _ ns rfl HD3.out w3.heap.size n Ak ck _ rfl HL6.out HO3.out (by simp; omega) (by omega) (fun q hq => HOb.out q hq) hs3 ?_; intro A5 c5 w5 hD5 hg5; have HD5 := hide hD5; have hs5 : w3.heap.size ≤ w5.heap.size := (by have := hg5.size; simp at this; omega); have Hb5 := hide (below_grown Hb3.out hg5 (by simp; omega) (fun q hq => (HD3.out.rowN.blocks q hq).1)); clear hD5 hg5; have lR5 := lR1.below Hb5.out hRl; have b0 := lR5.cell 0; have b1 := lR5.cell 1; have f0 := lR5.frozen 0; have f1 := lR5.frozen 1; simp only [List.getElem?_toArray, List.getElem?_cons_zero, List.getElem?_cons_succ] at b0 b1; have l7 := (lR5.set 0 (.slice A5 (ns.length + 1) c5)).set 1 (.int .i64 (ns.length : Int)); simp only [List.setIfInBounds_toArray, List.set_cons_succ, List.set_cons_zero] at l7; have s0 := l7.cell 0; have s1 := l7.cell 1; simp only [List.getElem?_toArray, List.getElem?_cons_zero, List.getElem?_cons_succ] at s0 s1; clear lR5 l7)
    refine bodyPost_ret (v := .agg #[.slice A5 (ns.length + 1) c5, .int .i64 (ns.length : Int)]) (by simp [results, Try.results5, go_sem, s0, s1]) rfl ?_
    have hG := GivesG.put (r := (ns.length : Int)) hRl hB3 (Below.refl _ _) Hb5.out (HD5.out.own hs5)
    rw [shalN_yes HV.out h12, shalR_yes HV.out h12, rootNd_at HN.out]
    simpa using hG
  · have HY := hide hy
    have l5 := (lR1.set 0 (.slice none 0 0)).set 1 (.int .i64 0)
    simp only [List.setIfInBounds_toArray, List.set_cons_succ, List.set_cons_zero] at l5
    have s0 := l5.cell 0
    have s1 := l5.cell 1
    have b0 := lR1.cell 0
    have b1 := lR1.cell 1
    have f0 := lR1.frozen 0
    have f1 := lR1.frozen 1
    simp only [List.getElem?_toArray, List.getElem?_cons_zero, List.getElem?_cons_succ] at s0 s1 b0 b1
    have HB := hide ((hB3.setCell (p := ⟨w.heap.size + 1, 0, none⟩) (by show w.heap.size ≤ w.heap.size + 1; omega) (.slice none 0 0)).setCell (p := ⟨w.heap.size + 1, 1, none⟩) (by show w.heap.size ≤ w.heap.size + 1; omega) (.int .i64 0))
    have hcase : tf (ValidG ns r) = false ∨ (tf (ValidG ns r) = true ∧ ns.length = 12) := by
      by_cases hv : ValidG ns r
      · exact .inr ⟨tf_true hv, Classical.byContradiction fun h => hy ⟨hv, h⟩⟩
      · exact .inl (tf_false hv)
    clear hy l5 lR1 lG1 hr3 hB3 e0 e1
    rcases hcase with hc | ⟨hc, h12⟩
    · rw [hc]
      clear hc
      go_wp2
      refine bodyPost_ret (v := .agg #[.slice none 0 0, .int .i64 0]) (by simp [results, Try.results5, go_sem, s0, s1]) rfl ?_
      rw [shalN_no HY.out, shalR_no HY.out]
      exact GivesG.zero _ _ HB.out
    · rw [hc]
      have hd : decide ((ns.length : Int) = 12) = true := by simp; omega
      clear hc
      go_wp2
      refine bodyPost_ret (v := .agg #[.slice none 0 0, .int .i64 0]) (by simp [results, Try.results5, go_sem, s0, s1]) rfl ?_
      rw [shalN_no HY.out, shalR_no HY.out]
      exact GivesG.zero _ _ HB.out

end Go.Proofs.Ytpcfjdhalglebab

namespace Go.Proofs.Ytpcfjdhalglebab
open Go.RowKit Go.Maps
set_option linter.unusedVariables false

set_option maxHeartbeats 2000000 in
theorem implEqualDeep_any (A A' : Option Addr) (ns ms : List Nd) (c c' : Nat) (r s : Int) (w : World) (hr : NdsAt w w.heap.size A ns) (hq : NdsAt w w.heap.size A' ms) :
    Calls Try.prog 9 #[.agg #[.slice A ns.length c, .int .i64 r], .agg #[.slice A' ms.length c', .int .i64 s]] w fun e w' => e = .returned (.bool (tf (EqDeepG ns r ms s))) ∧ Below w.heap.size w w' := by
  have hB2 : Below w.heap.size w ((w.alloc (.cells #[.slice A ns.length c, .int .i64 r] 25)).alloc (.cells #[.slice A' ms.length c', .int .i64 s] 25)) := ((Below.refl _ _).alloc (Nat.le_refl _) _).alloc (by simp) _
  have lA := (Lies.new w #[.slice A ns.length c, .int .i64 r] 25).alloc (.cells #[.slice A' ms.length c', .int .i64 s] 25)
  have lB := Lies.new (w.alloc (.cells #[.slice A ns.length c, .int .i64 r] 25)) #[.slice A' ms.length c', .int .i64 s] 25
  simp only [World.size_alloc] at lB
  have hr2 := hr.later hB2 (Nat.le_refl _)
  have hq2 := hq.later hB2 (Nat.le_refl _)
  clear hr hq
  go_enter Try.func9, Try.ntmps9
  go_wp2_with fail
  generalize (w.alloc (.cells #[.slice A ns.length c, .int .i64 r] 25)).alloc (.cells #[.slice A' ms.length c', .int .i64 s] 25) = W at hB2 lA lB hr2 hq2 ⊢
  refine (implValid_any A ns c r W hr2).mono ?_
  rintro e w1 ⟨rfl, hb1⟩
  have lA1 := lA.below hb1 lA.lt
  have lB1 := lB.below hb1 lB.lt
  have hr3 := hr2.later hb1 (Nat.le_refl _)
  have hq3 := hq2.later hb1 (Nat.le_refl _)
  have hB3 := hB2.trans (hb1.mono hB2.size)
  have e0 := lA1.cell 0
  have e1 := lA1.cell 1
  have d0 := lB1.cell 0
  have d1 := lB1.cell 1
  simp only [List.getElem?_toArray, List.getElem?_cons_zero, List.getElem?_cons_succ] at e0 e1 d0 d1
  clear lA lB hr2 hq2 hB2 hb1
  by_cases hv : ValidG ns r
  · rw [tf_true hv]
    go_wp2_with fail
    refine (implValid_any A' ms c' s w1 hq3).mono ?_
    rintro e w2 ⟨rfl, hb2⟩
    have lA2 := lA1.below hb2 lA1.lt
    have lB2 := lB1.below hb2 lB1.lt
    have hr4 := hr3.later hb2 (Nat.le_refl _)
    have hq4 := hq3.later hb2 (Nat.le_refl _)
    have hB4 := hB3.trans (hb2.mono hB3.size)
    clear e0 e1 d0 d1
    have e0 := lA2.cell 0
    have e1 := lA2.cell 1
    have d0 := lB2.cell 0
    have d1 := lB2.cell 1
    simp only [List.getElem?_toArray, List.getElem?_cons_zero, List.getElem?_cons_succ] at e0 e1 d0 d1
    clear lA1 lB1 hr3 hq3 hB3 hb2
    by_cases hw : ValidG ms s
    · rw [tf_true hw]
      have HW := hide (RowN.wfJ hv hw hr4 hq4)
      have HK := hide (joinNs_kids (validG_kids hv) (validG_kids hw))
      have hjs := joined_small hv hw
      have HJ := hide (joinedNodes_any A ns c r A' ms c' s w2 hr4 hq4 (by have := hv.few; omega) (by have := hw.few; omega) (fun n hn => ((validG_bounds hv).2 n hn).1) (validG_bounds hw).2)
      have hr0 := hv.root0
      have hr1 := hv.root
      have hs0 := hw.root0
      have hs1 := hw.root
      have hlen := hide (joinNs_len ns ms)
      have hn1 : (ns.length : Int) ≤ (joinNs ns ms).length := by have := hlen.out; omega
      have hn2 : (ns.length : Int) + ms.length ≤ (joinNs ns ms).length := by have := hlen.out; omega
      have HE : Hid (tf (EqDeepG ns r ms s) = tf (RootsEq ns r ms s (joinNs ns ms).length)) := hide (tf_congr ⟨fun h => h.2.2, fun h => ⟨hv, hw, h⟩⟩)
      have HLA := hide lA2
      have HLB := hide lB2
      have HB4 := hide hB4
      clear hv hw lA2 lB2 hr4 hq4 hB4
      go_wp2_with fail
      refine HJ.out.mono ?_
      clear HJ
      rintro e w3 ⟨Aj, cj, rfl, hrow, hb3⟩
      have HN := hide (hrow.nds HW.out (by omega))
      have hcap := hrow.capJ
      have HB5 := hide (HB4.out.trans (hb3.mono HB4.out.size))
      have lA3 := HLA.out.below hb3 HLA.out.lt
      have lB3 := HLB.out.below hb3 HLB.out.lt
      clear e0 e1 d0 d1 hrow hb3 HLA HLB HB4
      have HLA := hide lA3
      have HLB := hide lB3
      clear lA3 lB3
      go_wp2_with fail
      refine (deepClasses_any Aj (joinNs ns ms) cj w3 HN.out HK.out (by omega) hcap).mono ?_
      rintro e w4 ⟨Ag, cg, rfl, ho, hb4⟩
      have lA4 := HLA.out.below hb4 HLA.out.lt
      have lB4 := HLB.out.below hb4 HLB.out.lt
      have e0 := lA4.cell 0
      have e1 := lA4.cell 1
      have d0 := lB4.cell 0
      have d1 := lB4.cell 1
      simp only [List.getElem?_toArray, List.getElem?_cons_zero, List.getElem?_cons_succ] at e0 e1 d0 d1
      have hcl := hide (clsN_len (joinNs ns ms) (joinNs ns ms).length)
      have hIn : ∀ x ∈ clsN (joinNs ns ms) (joinNs ns ms).length, In64 x := fun x hx => by
        have := clsN_in (joinNs ns ms) _ x hx
        constructor <;> omega
      have HI := hide (ho.ints hIn (by rw [hcl.out]; omega))
      have HH := hide (haveEqualRoots_any A A' Ag ns.length ms.length c c' cg r s (clsN (joinNs ns ms) (joinNs ns ms).length) w4 HI.out hr0 (by rw [hcl.out]; omega) hs0 (by rw [hcl.out]; omega) (by rw [hcl.out]; omega))
      rw [RootsEq.tf_def, ← HE.out] at HH
      have HB6 := hide (HB5.out.trans (hb4.mono HB5.out.size))
      clear ho hb4 lA4 lB4 hIn HI HN HE
      go_wp2_with fail
      refine HH.out.mono ?_
      rintro e w5 ⟨rfl, hb5⟩
      have HB7 := hide (HB6.out.trans (hb5.mono HB6.out.size))
      clear hb5 e0 e1 d0 d1
      go_wp2
      go_ret
      exact ⟨rfl, HB7.out⟩
    · have HE : Hid (tf (EqDeepG ns r ms s) = false) := hide (tf_false fun h => hw h.2.1)
      rw [tf_false hw]
      have HB := hide hB4
      clear hv hw lA2 lB2 hr4 hq4 hB4 e0 e1 d0 d1
      go_wp2
      go_ret
      exact ⟨ret_bool HE.out.symm, HB.out⟩
  · have HE : Hid (tf (EqDeepG ns r ms s) = false) := hide (tf_false fun h => hv h.1)
    rw [tf_false hv]
    have HB := hide hB3
    clear hv lA1 lB1 hr3 hq3 hB3 e0 e1 d0 d1
    go_wp2
    go_ret
    exact ⟨ret_bool HE.out.symm, HB.out⟩

end Go.Proofs.Ytpcfjdhalglebab
