/-
  Lemmas, several texts in one: EqdI, EqdS, RplI, LstI.
-/
import Derived.Test.YthgklkpfmjgeoaaPjAm
import Derived.Test.YthgklkpfmjgeoaaPjBc
import Derived.Test.YthgklkpfmjgeoaaPjAx
import Derived.Test.YthgklkpfmjgeoaaPjAs
import Derived.Test.YthgklkpfmjgeoaaPjAy
import Derived.Test.YthgklkpfmjgeoaaTogS
import Derived.Test.YthgklkpfmjgeoaaPjBa
import Derived.Test.YthgklkpfmjgeoaaPjAf
import Derived.Deep.QuietTactic
import Derived.BigQuiet
import Derived.Test.YthgklkpfmjgeoaaPjAn
import Derived.Test.YthgklkpfmjgeoaaPjAh
import Derived.Test.YthgklkpfmjgeoaaPjAj
import Derived.Test.YthgklkpfmjgeoaaPjAo
import Derived.Deep.RegionHeld3
namespace Go.Proofs.Ythgklkpfmjgeoaa
open Go.RowKit Go.Maps
set_option linter.unusedVariables false

set_option maxHeartbeats 2000000 in
theorem implEqualDeep_any (A A' : Option Addr) (ns ms : List Nd) (c c' : Nat) (r s : Int) (w : World) (hr : NdsAt w w.heap.size A ns) (hq : NdsAt w w.heap.size A' ms) :
    Calls Try.prog 5 #[.agg #[.slice A ns.length c, .int .i64 r], .agg #[.slice A' ms.length c', .int .i64 s]] w fun e w' => e = .returned (.bool (tf (EqDeepG ns r ms s))) ∧ Below w.heap.size w w' := by
  have hB2 : Below w.heap.size w ((w.alloc (.cells #[.slice A ns.length c, .int .i64 r] 25)).alloc (.cells #[.slice A' ms.length c', .int .i64 s] 25)) := ((Below.refl _ _).alloc (Nat.le_refl _) _).alloc (by simp) _
  have lA := (Lies.new w #[.slice A ns.length c, .int .i64 r] 25).alloc (.cells #[.slice A' ms.length c', .int .i64 s] 25)
  have lB := Lies.new (w.alloc (.cells #[.slice A ns.length c, .int .i64 r] 25)) #[.slice A' ms.length c', .int .i64 s] 25
  simp only [World.size_alloc] at lB
  have hr2 := hr.later hB2 (Nat.le_refl _)
  have hq2 := hq.later hB2 (Nat.le_refl _)
  clear hr hq
  go_enter Try.func5, Try.ntmps5
  go_wp2_with fail
  generalize (w.alloc (.cells #[.slice A ns.length c, .int .i64 r] 25)).alloc (.cells #[.slice A' ms.length c', .int .i64 s] 25) = W at hB2 lA lB hr2 hq2 ⊢
  refine (implValid_any A ns c r W hr2).mono ?_
  rintro e w1 ⟨rfl, hb1⟩
  have lA1 := lA.below hb1 lA.lt
  have lB1 := lB.below hb1 lB.lt
  have hr3 := hr2.later hb1 (Nat.le_refl _)
  have hq3 := hq2.later hb1 (Nat.le_refl _)
  have hB3 := hB2.trans (hb1.mono hB2.size)
  have e0 := lA1.cell 0
  have e1 := lA1.cell 1
  have d0 := lB1.cell 0
  have d1 := lB1.cell 1
  simp only [List.getElem?_toArray, List.getElem?_cons_zero, List.getElem?_cons_succ] at e0 e1 d0 d1
  clear lA lB hr2 hq2 hB2 hb1
  by_cases hv : ValidG ns r
  · rw [tf_true hv]
    go_wp2_with fail
    refine (implValid_any A' ms c' s w1 hq3).mono ?_
    rintro e w2 ⟨rfl, hb2⟩
    have lA2 := lA1.below hb2 lA1.lt
    have lB2 := lB1.below hb2 lB1.lt
    have hr4 := hr3.later hb2 (Nat.le_refl _)
    have hq4 := hq3.later hb2 (Nat.le_refl _)
    have hB4 := hB3.trans (hb2.mono hB3.size)
    clear e0 e1 d0 d1
    have e0 := lA2.cell 0
    have e1 := lA2.cell 1
    have d0 := lB2.cell 0
    have d1 := lB2.cell 1
    simp only [List.getElem?_toArray, List.getElem?_cons_zero, List.getElem?_cons_succ] at e0 e1 d0 d1
    clear lA1 lB1 hr3 hq3 hB3 hb2
    by_cases hw : ValidG ms s
    · rw [tf_true hw]
      have HW := hide (RowN.wfJ hv hw hr4 hq4)
      have HK := hide (joinNs_kids (validG_kids hv) (validG_kids hw))
      have hjs := joined_small hv hw
      have HJ := hide (joinedNodes_any A ns c r A' ms c' s w2 hr4 hq4 (by have := hv.few; omega) (by have := hw.few; omega) (fun n hn => ((validG_bounds hv).2 n hn).1) (validG_bounds hw).2)
      have hr0 := hv.root0
      have hr1 := hv.root
      have hs0 := hw.root0
      have hs1 := hw.root
      have hlen := hide (joinNs_len ns ms)
      have hn1 : (ns.length : Int) ≤ (joinNs ns ms).length := by have := hlen.out; omega
      have hn2 : (ns.length : Int) + ms.length ≤ (joinNs ns ms).length := by have := hlen.out; omega
      have HE : Hid (tf (EqDeepG ns r ms s) = tf (RootsEq ns r ms s (joinNs ns ms).length)) := hide (tf_congr ⟨fun h => h.2.2, fun h => ⟨hv, hw, h⟩⟩)
      have HLA := hide lA2
      have HLB := hide lB2
      have HB4 := hide hB4
      clear hv hw lA2 lB2 hr4 hq4 hB4
      go_wp2_with fail
      refine HJ.out.mono ?_
      clear HJ
      rintro e w3 ⟨Aj, cj, rfl, hrow, hb3⟩
      have HN := hide (hrow.nds HW.out (by omega))
      have hcap := hrow.capJ
      have HB5 := hide (HB4.out.trans (hb3.mono HB4.out.size))
      have lA3 := HLA.out.below hb3 HLA.out.lt
      have lB3 := HLB.out.below hb3 HLB.out.lt
      clear e0 e1 d0 d1 hrow hb3 HLA HLB HB4
      have HLA := hide lA3
      have HLB := hide lB3
      clear lA3 lB3
      go_wp2_with fail
      refine (deepClasses_any Aj (joinNs ns ms) cj w3 HN.out HK.out (by omega) hcap).mono ?_
      rintro e w4 ⟨Ag, cg, rfl, ho, hb4⟩
      have lA4 := HLA.out.below hb4 HLA.out.lt
      have lB4 := HLB.out.below hb4 HLB.out.lt
      have e0 := lA4.cell 0
      have e1 := lA4.cell 1
      have d0 := lB4.cell 0
      have d1 := lB4.cell 1
      simp only [List.getElem?_toArray, List.getElem?_cons_zero, List.getElem?_cons_succ] at e0 e1 d0 d1
      have hcl := hide (clsN_len (joinNs ns ms) (joinNs ns ms).length)
      have hIn : ∀ x ∈ clsN (joinNs ns ms) (joinNs ns ms).length, In64 x := fun x hx => by
        have := clsN_in (joinNs ns ms) _ x hx
        constructor <;> omega
      have HI := hide (ho.ints hIn (by rw [hcl.out]; omega))
      have HH := hide (haveEqualRoots_any A A' Ag ns.length ms.length c c' cg r s (clsN (joinNs ns ms) (joinNs ns ms).length) w4 HI.out hr0 (by rw [hcl.out]; omega) hs0 (by rw [hcl.out]; omega) (by rw [hcl.out]; omega))
      rw [RootsEq.tf_def, ← HE.out] at HH
      have HB6 := hide (HB5.out.trans (hb4.mono HB5.out.size))
      clear ho hb4 lA4 lB4 hIn HI HN HE
      go_wp2_with fail
      refine HH.out.mono ?_
      rintro e w5 ⟨rfl, hb5⟩
      have HB7 := hide (HB6.out.trans (hb5.mono HB6.out.size))
      clear hb5 e0 e1 d0 d1
      go_wp2
      go_ret
      exact ⟨rfl, HB7.out⟩
    · have HE : Hid (tf (EqDeepG ns r ms s) = false) := hide (tf_false fun h => hw h.2.1)
      rw [tf_false hw]
      have HB := hide hB4
      clear hv hw lA2 lB2 hr4 hq4 hB4 e0 e1 d0 d1
      go_wp2
      go_ret
      exact ⟨ret_bool HE.out.symm, HB.out⟩
  · have HE : Hid (tf (EqDeepG ns r ms s) = false) := hide (tf_false fun h => hv h.1)
    rw [tf_false hv]
    have HB := hide hB3
    clear hv lA1 lB1 hr3 hq3 hB3 e0 e1 d0 d1
    go_wp2
    go_ret
    exact ⟨ret_bool HE.out.symm, HB.out⟩

end Go.Proofs.Ythgklkpfmjgeoaa

namespace Go.Proofs.Ythgklkpfmjgeoaa
open Go.RowKit Go.Maps
set_option linter.unusedVariables false

theorem validG_boundsS {ns : List Nd} {r : Int} (hv : ValidG ns r) : ns.length ≤ 12 ∧ (∀ n ∈ ns, n.kids.length ≤ 1000 ∧ ∀ k ∈ n.kids, 0 ≤ k ∧ k ≤ 1000000) := by
  refine ⟨hv.few, fun n hn => ⟨by have := (hv.nodes n hn).few; omega, fun k hk => ?_⟩⟩
  have h1 := validG_kids hv n hn k hk
  have h2 := hv.few
  omega

theorem RowN.wfJS {ns ms : List Nd} {r s : Int} {w : World} {B B2 : Nat} {A A2 : Option Addr} (hv : ValidG ns r) (hw : ValidG ms s) (h1 : NdsAt w B A ns) (h2 : NdsAt w B2 A2 ms) : WfN (joinNs ns ms) := by
  have w1 := h1.wf
  have w2 := h2.wf
  intro n hn
  unfold joinNs at hn
  rcases List.mem_append.1 hn with hn | hn
  · exact w1 n hn
  · obtain ⟨m, hm, rfl⟩ := List.mem_map.1 hn
    obtain ⟨a1, a2, a3, a4⟩ := w2 m hm
    refine ⟨a1, a2, fun x hx => ?_, by simpa [shiftNd] using a4⟩
    obtain ⟨k, hk, rfl⟩ := List.mem_map.1 (show x ∈ m.kids.map (fun k => (ns.length : Int) + k) from hx)
    have h3 := (validG_boundsS hw).2 m hm
    have h4 := h3.2 k hk
    have h5 := hv.few
    constructor <;> omega

set_option maxHeartbeats 2000000 in
theorem specEqualDeep_any (A A' : Option Addr) (ns ms : List Nd) (c c' : Nat) (r s : Int) (w : World) (hr : NdsAt w w.heap.size A ns) (hq : NdsAt w w.heap.size A' ms) :
    Calls Try.prog 6 #[.agg #[.slice A ns.length c, .int .i64 r], .agg #[.slice A' ms.length c', .int .i64 s]] w fun e w' => e = .returned (.bool (tf (EqDeepG ns r ms s))) ∧ Below w.heap.size w w' := by
  have hB2 : Below w.heap.size w ((w.alloc (.cells #[.slice A ns.length c, .int .i64 r] 25)).alloc (.cells #[.slice A' ms.length c', .int .i64 s] 25)) := ((Below.refl _ _).alloc (Nat.le_refl _) _).alloc (by simp) _
  have lA := (Lies.new w #[.slice A ns.length c, .int .i64 r] 25).alloc (.cells #[.slice A' ms.length c', .int .i64 s] 25)
  have lB := Lies.new (w.alloc (.cells #[.slice A ns.length c, .int .i64 r] 25)) #[.slice A' ms.length c', .int .i64 s] 25
  simp only [World.size_alloc] at lB
  have hr2 := hr.later hB2 (Nat.le_refl _)
  have hq2 := hq.later hB2 (Nat.le_refl _)
  clear hr hq
  go_enter Try.func6, Try.ntmps6
  go_wp2_with fail
  generalize (w.alloc (.cells #[.slice A ns.length c, .int .i64 r] 25)).alloc (.cells #[.slice A' ms.length c', .int .i64 s] 25) = W at hB2 lA lB hr2 hq2 ⊢
  refine (specValidGraph_any A ns c r W hr2).mono ?_
  rintro e w1 ⟨rfl, hb1⟩
  have lA1 := lA.below hb1 lA.lt
  have lB1 := lB.below hb1 lB.lt
  have hr3 := hr2.later hb1 (Nat.le_refl _)
  have hq3 := hq2.later hb1 (Nat.le_refl _)
  have hB3 := hB2.trans (hb1.mono hB2.size)
  have e0 := lA1.cell 0
  have e1 := lA1.cell 1
  have d0 := lB1.cell 0
  have d1 := lB1.cell 1
  simp only [List.getElem?_toArray, List.getElem?_cons_zero, List.getElem?_cons_succ] at e0 e1 d0 d1
  clear lA lB hr2 hq2 hB2 hb1
  by_cases hv : ValidG ns r
  · rw [tf_true hv]
    go_wp2_with fail
    refine (specValidGraph_any A' ms c' s w1 hq3).mono ?_
    rintro e w2 ⟨rfl, hb2⟩
    have lA2 := lA1.below hb2 lA1.lt
    have lB2 := lB1.below hb2 lB1.lt
    have hr4 := hr3.later hb2 (Nat.le_refl _)
    have hq4 := hq3.later hb2 (Nat.le_refl _)
    have hB4 := hB3.trans (hb2.mono hB3.size)
    clear e0 e1 d0 d1
    have e0 := lA2.cell 0
    have e1 := lA2.cell 1
    have d0 := lB2.cell 0
    have d1 := lB2.cell 1
    simp only [List.getElem?_toArray, List.getElem?_cons_zero, List.getElem?_cons_succ] at e0 e1 d0 d1
    clear lA1 lB1 hr3 hq3 hB3 hb2
    by_cases hw : ValidG ms s
    · rw [tf_true hw]
      have HW := hide (RowN.wfJS hv hw hr4 hq4)
      have HK := hide (joinNs_kids (validG_kids hv) (validG_kids hw))
      have hjs := joined_small hv hw
      have hr0 := hv.root0
      have hr1 := hv.root
      have hs0 := hw.root0
      have hs1 := hw.root
      have hwf := hw.few
      have HJ := hide (together_any A A' ns ms c c' r s w2 hr4 hq4 (by have := hv.few; omega) (by omega) (fun n hn => ((validG_boundsS hv).2 n hn).1) (validG_boundsS hw).2 hs0 (by omega))
      have hlen := hide (joinNs_len ns ms)
      have hn1 : (ns.length : Int) ≤ (joinNs ns ms).length := by have := hlen.out; omega
      have hn2 : (ns.length : Int) + ms.length ≤ (joinNs ns ms).length := by have := hlen.out; omega
      have HE : Hid (tf (EqDeepG ns r ms s) = tf (RootsEq ns r ms s (joinNs ns ms).length)) := hide (tf_congr ⟨fun h => h.2.2, fun h => ⟨hv, hw, h⟩⟩)
      have HLA := hide lA2
      have HB4 := hide hB4
      clear hv hw lA2 lB2 hr4 hq4 hB4
      go_wp2_with fail
      refine HJ.out.mono ?_
      clear HJ
      rintro e w3 ⟨Aj, cj, rfl, hrow, hb3⟩
      have HN := hide (hrow.nds HW.out (by omega))
      have HB5 := hide (HB4.out.trans (hb3.mono HB4.out.size))
      have HLA3 := hide (HLA.out.below hb3 HLA.out.lt)
      clear e0 e1 d0 d1 hrow hb3 HLA HB4
      go_wp2_with fail
      refine (specClasses_any Aj (joinNs ns ms) cj w3 HN.out HK.out (by omega)).mono ?_
      rintro e w4 ⟨Ag, cg, rfl, ho, hb4⟩
      have hcl := hide (clsN_len (joinNs ns ms) (joinNs ns ms).length)
      have hIn : ∀ x ∈ clsN (joinNs ns ms) (joinNs ns ms).length, In64 x := fun x hx => by
        have := clsN_in (joinNs ns ms) _ x hx
        constructor <;> omega
      have HI := hide (ho.ints hIn (by rw [hcl.out]; omega))
      have e1 := (HLA3.out.below hb4 HLA3.out.lt).cell 1
      simp only [List.getElem?_toArray, List.getElem?_cons_zero, List.getElem?_cons_succ] at e1
      have HB6 := hide (HB5.out.trans (hb4.mono HB5.out.size))
      clear ho hb4 hIn HN
      obtain ⟨i, rfl⟩ := Int.eq_ofNat_of_zero_le hr0
      obtain ⟨j, rfl⟩ := Int.eq_ofNat_of_zero_le hs0
      obtain ⟨b, off, x, rfl, hbl, hx, _, cx⟩ := HI.out.at_ (k := i) (by rw [hcl.out]; omega)
      obtain ⟨b2, off2, y, hb2, _, hy, _, cy⟩ := HI.out.at_ (k := ns.length + j) (by rw [hcl.out]; omega)
      injection hb2 with hb2
      injection hb2 with a1 a2 _
      subst a1
      subst a2
      have hy2 : look (clsN (joinNs ns ms) (joinNs ns ms).length) ((ns.length : Int) + (j : Int)) = y := by
        have := look_at hy
        rwa [Int.natCast_add] at this
      have HF : Hid (decide (x = y) = tf (EqDeepG ns (i : Int) ms (j : Int))) := hide (by rw [HE.out, ← RootsEq.tf_def, look_at hx, hy2])
      have hcl2 : (clsN (joinNs ns ms) (joinNs ns ms).length).length ≤ 24 := by rw [hcl.out]; exact hjs
      have hcl3 : (i : Int) < ((clsN (joinNs ns ms) (joinNs ns ms).length).length : Int) := by rw [hcl.out]; omega
      have hcl4 : (ns.length : Int) + (j : Int) < ((clsN (joinNs ns ms) (joinNs ns ms).length).length : Int) := by rw [hcl.out]; omega
      have q1 : (0 : Int) ≤ (i : Int) := by omega
      have q3 : (0 : Int) ≤ (ns.length : Int) + (j : Int) := by omega
      have q6 : ((ns.length : Int) + (j : Int)).toNat = ns.length + j := by omega
      generalize (clsN (joinNs ns ms) (joinNs ns ms).length).length = L at hcl2 hcl3 hcl4 ⊢
      clear hx hy hy2 HE HI
      go_wp2_with fail
      go_quiet (fail)
      go_wp2
      go_ret
      exact ⟨ret_bool (by rw [← HF.out]; first | rfl | simp), below_drewN HB6.out _⟩
    · have HE : Hid (tf (EqDeepG ns r ms s) = false) := hide (tf_false fun h => hw h.2.1)
      rw [tf_false hw]
      have HB := hide hB4
      clear hv hw lA2 lB2 hr4 hq4 hB4 e0 e1 d0 d1
      go_wp2
      go_ret
      exact ⟨ret_bool HE.out.symm, HB.out⟩
  · have HE : Hid (tf (EqDeepG ns r ms s) = false) := hide (tf_false fun h => hv h.1)
    rw [tf_false hv]
    have HB := hide hB3
    clear hv lA1 lB1 hr3 hq3 hB3 e0 e1 d0 d1
    go_wp2
    go_ret
    exact ⟨ret_bool HE.out.symm, HB.out⟩

end Go.Proofs.Ythgklkpfmjgeoaa

namespace Go.Proofs.Ythgklkpfmjgeoaa
open Go.RowKit Go.Maps
set_option linter.unusedVariables false
set_option linter.unusedSimpArgs false

set_option maxHeartbeats 400000 in
theorem replaced1_any (k : Int) (q B : Nat) (C : Option Addr) (cl : List Int) (cc : Nat) (w : World) (h : w.cell? ⟨q, 0, none⟩ = some (.slice C cl.length cc)) (hC : IntsAt w B C cl) (h0 : 0 ≤ k) (h1 : k < cl.length) :
    Calls Try.prog 52 #[.int .i64 k, .pointer (some ⟨q, 0, none⟩)] w fun e w' => e = .returned (.int .i64 (look cl k)) ∧ w = w' := by
  have hcl := hC.len
  obtain ⟨i, rfl⟩ := Int.eq_ofNat_of_zero_le h0
  obtain ⟨b, off, x, rfl, hbl, hx, _, cx⟩ := hC.at_ (k := i) (by omega)
  have HX := hide (look_at hx)
  clear hx hC
  go_enter Try.func52, Try.ntmps52
  go_wp2
  go_ret
  exact ⟨ret_int HX.out.symm, rfl⟩

set_option maxHeartbeats 2000000 in
theorem replacedGraph_any (A : Option Addr) (ns : List Nd) (c : Nat) (r : Int) (C : Option Addr) (cl : List Int) (cc : Nat) (w : World) (hr : NdsAt w w.heap.size A ns) (hC : IntsAt w w.heap.size C cl) (hl : cl.length = ns.length) (hK : KidsIn ns) (hkl : ∀ n ∈ ns, n.kids.length ≤ 1000) (hn : ns.length ≤ 1000) (hr0 : 0 ≤ r) (hr1 : r < ns.length) :
    Calls Try.prog 25 #[.agg #[.slice A ns.length c, .int .i64 r], .slice C cl.length cc] w (GivesG w (replNs ns cl) (look cl r)) := by
  have hB3 : Below w.heap.size w (((w.alloc (.cells #[.slice A ns.length c, .int .i64 r] 25)).alloc (.cells #[.slice C cl.length cc] 35)).alloc (.cells #[.slice none 0 0, .int .i64 0] 25)) := (((Below.refl _ _).alloc (Nat.le_refl _) _).alloc (by simp) _).alloc (by simp; omega) _
  have lG := ((Lies.new w #[.slice A ns.length c, .int .i64 r] 25).alloc (.cells #[.slice C cl.length cc] 35)).alloc (.cells #[.slice none 0 0, .int .i64 0] 25)
  have lC := (Lies.new (w.alloc (.cells #[.slice A ns.length c, .int .i64 r] 25)) #[.slice C cl.length cc] 35).alloc (.cells #[.slice none 0 0, .int .i64 0] 25)
  have lR := Lies.new ((w.alloc (.cells #[.slice A ns.length c, .int .i64 r] 25)).alloc (.cells #[.slice C cl.length cc] 35)) #[.slice none 0 0, .int .i64 0] 25
  simp only [World.size_alloc] at lC lR
  have hmk := makeNodesC ns.length hn
  have HR := hide hr
  have HC := hide hC
  have HK := hide hK
  have HKL := hide hkl
  have HL := hide hl
  have hri : r < (cl.length : Int) := by omega
  obtain ⟨ri, rfl⟩ := Int.eq_ofNat_of_zero_le hr0
  obtain ⟨bc, oc, x, rfl, hbc, hx, _, cx⟩ := hC.at_ (k := ri) (by omega)
  have HX := hide (look_at hx)
  have hcl9 := hC.len
  clear hr hC hK hkl hl hx
  go_enter Try.func25, Try.ntmps25
  go_upto_region 1 with fail
  generalize (((w.alloc (.cells #[.slice A ns.length c, .int .i64 (ri : Int)] 25)).alloc (.cells #[.slice (some ⟨bc, oc, none⟩) cl.length cc] 35)).alloc (.cells #[.slice none 0 0, .int .i64 0] 25)) = W at hB3 lG lC lR ⊢
  have hW := lR.lt
  have e0 := lG.cell 0
  simp only [List.getElem?_toArray, List.getElem?_cons_zero, List.getElem?_cons_succ] at e0
  have HB3 := hide hB3
  have HLG := hide lG
  have HLC := hide lC
  have HLR := hide lR
  have cxW := hide ((hB3.cell (p := ⟨bc, oc + ri, none⟩) hbc).trans cx)
  have hS0 := ClA.start W (replNs ns cl)
  rw [replNs_len] at hS0
  have HS0 := hide hS0
  clear hS0 hB3 lG lC lR cx
  go_upto_region 2 with fail
  clear hmk
  generalize hX1 : W.alloc (.cells (madeCells #[.int .i64 0, .int .i64 0, .slice none 0 0] (ns.length * 3)) 43) = X1 at HS0 ⊢
  clear hX1 e0
  have e0 := (HLG.out.below HS0.out.bel HLG.out.lt).cell 0
  simp only [List.getElem?_toArray, List.getElem?_cons_zero, List.getElem?_cons_succ] at e0
  go_wp2_with fail
  clear e0
  go_loopg [15] ns.length (fun gk iv wr => ∃ k : Nat, k ≤ ns.length ∧ gk = ns.length - k ∧ iv = .int .i64 (k : Int) ∧ ClA W wr (replNs ns cl) k)
  case atStart => exact ⟨0, Nat.zero_le _, rfl, rfl, HS0.out⟩
  case round =>
    clear HS0
    obtain ⟨k, hk, rfl, rfl, hS⟩ := hrel
    have hwW := HB3.out.size
    have hSs := hS.bel.size
    by_cases hlt : k < ns.length
    · have hBk := HB3.out.trans (hS.bel.mono hwW)
      obtain ⟨b, off, n, rfl, hbl, hn2, hm, hnd⟩ := (HR.out.below hBk).at_ hlt
      obtain ⟨A1, c1, k2, hki, hnil⟩ := hnd.kids
      have k0 := hnd.kind
      have k1 := hnd.value
      have HN := hide (replNs_at (cl := cl) hn2)
      have HKn := hide (HK.out n hm)
      have hkn := HKL.out n hm
      have HS := hide hS
      have HKI := hide hki
      have hBk2 := hide hBk
      clear hn2 hm hnd hS hki hbl hBk
      go_upto_region 5 with fail
      have hB2 : Below wr.heap.size wr (wr.alloc (.cells #[.int .i64 n.kind, .int .i64 n.value, .slice A1 n.kids.length c1] 43)) := (Below.refl _ _).alloc (Nat.le_refl _) _
      have l1 := Lies.new wr #[.int .i64 n.kind, .int .i64 n.value, .slice A1 n.kids.length c1] 43
      generalize wr.alloc (.cells #[.int .i64 n.kind, .int .i64 n.value, .slice A1 n.kids.length c1] 43) = W2 at hB2 l1 ⊢
      have e0 := l1.cell 0
      have e1 := l1.cell 1
      have e2 := l1.cell 2
      simp only [List.getElem?_toArray, List.getElem?_cons_zero, List.getElem?_cons_succ] at e0 e1 e2
      have hs2 := hB2.size
      have HBW2 := hide (HS.out.bel.trans (hB2.mono hSs))
      have HRW := hide (rewired_any 52 #[] #[.pointer (some ⟨w.heap.size + 1, 0, none⟩)] (look cl) n A1 c1 W2 ((HKI.out.more (by omega)).later hB2 (Nat.le_refl _)) hkn (fun y hy => HC.out.wf _ (look_mem (HKn.out y hy).1 (by have := (HKn.out y hy).2; have := HL.out; omega))) (fun _ _ => by kernel_rfl)
        (fun y W' hb hy => by
          have hbx := HBW2.out.trans (hb.mono (by omega))
          have q0 := (HLC.out.below hbx HLC.out.lt).cell 0
          simp only [List.getElem?_toArray, List.getElem?_cons_zero] at q0
          have h3 := HKn.out y hy
          exact replaced1_any y (w.heap.size + 1) w.heap.size _ cl cc W' q0 (HC.out.below (HB3.out.trans (hbx.mono hwW))) h3.1 (by have := h3.2; have := HL.out; omega)))
      have HB2 := hide hB2
      clear k0 k1 k2 hB2 l1 HKI hnil
      go_wp2_with fail
      refine HRW.out.mono ?_
      clear HRW
      rintro e wi ⟨Ak, ck, rfl, hown, hbi⟩
      obtain ⟨f, hf⟩ := HS.out.row.row
      have hfw : wi.rowIs W.heap.size 43 (ns.length * 3) f := by
        have := hf.of_block (w' := wi) ((HB2.out.trans (hbi.mono HB2.out.size)).block _ hf.lt)
        rwa [replNs_len] at this
      have q0 := World.rowIs.cell hfw (i := k * 3) (by omega)
      have q1 := World.rowIs.cell hfw (i := k * 3 + 1) (by omega)
      have q2 := World.rowIs.cell hfw (i := k * 3 + 2) (by omega)
      have p0 := World.rowIs.frozen hfw (k * 3)
      have p1 := World.rowIs.frozen hfw (k * 3 + 1)
      have p2 := World.rowIs.frozen hfw (k * 3 + 2)
      have hBs := HS.out.step HN.out HB2.out hbi (c := ck) (Ak := Ak) hown
      simp only [replNd, List.length_map] at hBs
      have HB := hide hBs
      have hk1 : (k : Int) < (ns.length : Int) := by omega
      clear hBs hown hbi hf hfw e0 e1 e2 HB2 HN HS
      go_wp2_with fail
      go_roundg (ns.length - (k + 1))
      case measure => omega
      case rel => exact ⟨k + 1, by omega, rfl, by go_num, HB.out⟩
    · obtain rfl : k = ns.length := by omega
      have lG1 := HLG.out.below hS.bel HLG.out.lt
      have lC1 := HLC.out.below hS.bel HLC.out.lt
      have lR1 := HLR.out.below hS.bel HLR.out.lt
      have g1 := lG1.cell 1
      have g2 := lC1.cell 0
      have cx2 := (hS.bel.cell (p := ⟨bc, oc + ri, none⟩) (by show bc < W.heap.size; omega)).trans cxW.out
      have l5 := (lR1.set 0 (.slice (some ⟨W.heap.size, 0, none⟩) ns.length ns.length)).set 1 (.int .i64 x)
      simp only [List.setIfInBounds_toArray, List.set_cons_succ, List.set_cons_zero] at l5
      have s0 := l5.cell 0
      have s1 := l5.cell 1
      have b0 := lR1.cell 0
      have b1 := lR1.cell 1
      have f0 := lR1.frozen 0
      have f1 := lR1.frozen 1
      simp only [List.getElem?_toArray, List.getElem?_cons_zero, List.getElem?_cons_succ] at s0 s1 b0 b1 g1 g2
      have hrow := hS.row
      rw [List.take_of_length_le (by rw [replNs_len]; exact Nat.le_refl _), replNs_len] at hrow
      have hG := GivesG.putQ (q := w.heap.size + 1 + 1) (r := x) (by omega) (by omega) HB3.out (Below.refl _ _) hS.bel (.inr ⟨_, rfl, hrow⟩ : OwnNs wr W.heap.size wr.heap.size (some ⟨W.heap.size, 0, none⟩) ns.length (replNs ns cl))
      rw [replNs_len] at hG
      have HG := hide hG
      have hr3 : (0 : Int) ≤ (ri : Int) := by omega
      clear lG1 lC1 lR1 l5 hrow hG hS hlt
      go_wp2_with fail
      go_wp2
      refine bodyPost_ret (v := .agg #[.slice (some ⟨W.heap.size, 0, none⟩) ns.length ns.length, .int .i64 x]) (by simp [results, Try.results25, go_sem, s0, s1]) rfl ?_
      rw [HX.out]
      exact HG.out

end Go.Proofs.Ythgklkpfmjgeoaa

namespace Go.Proofs.Ythgklkpfmjgeoaa
open Go.RowKit Go.Maps
set_option linter.unusedVariables false
set_option linter.unusedSimpArgs false

set_option maxHeartbeats 2000000 in
theorem implLeast_any (A : Option Addr) (ns : List Nd) (c : Nat) (r : Int) (w : World) (hr : NdsAt w w.heap.size A ns) (hcap : ns.length ≤ c) :
    Calls Try.prog 9 #[.agg #[.slice A ns.length c, .int .i64 r]] w (GivesG w (lstN ns r) 0) := by
  have hB2 : Below w.heap.size w ((w.alloc (.cells #[.slice A ns.length c, .int .i64 r] 25)).alloc (.cells #[.slice none 0 0, .int .i64 0] 25)) := ((Below.refl _ _).alloc (Nat.le_refl _) _).alloc (by simp) _
  have lG := (Lies.new w #[.slice A ns.length c, .int .i64 r] 25).alloc (.cells #[.slice none 0 0, .int .i64 0] 25)
  have lR := Lies.new (w.alloc (.cells #[.slice A ns.length c, .int .i64 r] 25)) #[.slice none 0 0, .int .i64 0] 25
  simp only [World.size_alloc] at lR
  have hr2 := hr.later hB2 (Nat.le_refl _)
  clear hr
  go_enter Try.func9, Try.ntmps9
  go_wp2_with fail
  generalize (w.alloc (.cells #[.slice A ns.length c, .int .i64 r] 25)).alloc (.cells #[.slice none 0 0, .int .i64 0] 25) = W at hB2 lG lR hr2 ⊢
  refine (implValid_any A ns c r W hr2).mono ?_
  rintro e w1 ⟨rfl, hb1⟩
  have lG1 := lG.below hb1 lG.lt
  have lR1 := lR.below hb1 lR.lt
  have hr3 := hr2.later hb1 (Nat.le_refl _)
  have hB3 := hB2.trans (hb1.mono hB2.size)
  have e0 := lG1.cell 0
  have e1 := lG1.cell 1
  simp at e0 e1
  clear lG lR hr2 hB2 hb1
  by_cases hv : ValidG ns r
  · rw [tf_true hv]
    have HV := hide hv
    have hGl := lG1.lt
    have hRl := lR1.lt
    have hne : w.heap.size + 1 ≠ w.heap.size := by omega
    have hr3d : NdsAt w1.drew w1.drew.heap.size A ns := hr3.later (Below.refl _ _).drew (Nat.le_refl _)
    have lRd : Lies w1.drew (w.heap.size + 1) #[.slice none 0 0, .int .i64 0] 25 := lR1
    have hGd : w.heap.size < w1.drew.heap.size := hGl
    have hRd : w.heap.size + 1 < w1.drew.heap.size := hRl
    have hBd : Below w.heap.size w w1.drew := hB3.drew
    have hfew := hv.few
    have hcl := hide (clsN_len ns ns.length)
    have H64 := hide (clsN_64 (ns := ns) (d := ns.length) (by omega))
    have HWf := hide (replNs_wf hr3.wf (validG_kids hv) (clsN_len ns ns.length) (clsN_64 (ns := ns) (d := ns.length) (by omega)))
    have HC := implClassesOf_any A ns c r w1.drew hr3d hcap
    rw [cls_yes hv] at HC
    have HC := hide HC
    have HP : Hid (∀ (Ap : Option Addr) (cp : Nat) (X : World), NdsAt X X.heap.size Ap (replNs ns (clsN ns ns.length)) → Calls Try.prog 24 #[.agg #[.slice Ap (replNs ns (clsN ns ns.length)).length cp, .int .i64 (look (clsN ns ns.length) r)]] X (GivesG X (lstN ns r) 0)) := hide (fun Ap cp X hX => by
      rw [lstN_yes hv]
      exact implPruned_any Ap _ cp _ X hX)
    have HRp := hide (fun (Ac : Option Addr) (cc : Nat) (X : World) (hX : NdsAt X X.heap.size A ns) (hI : IntsAt X X.heap.size Ac (clsN ns ns.length)) => replacedGraph_any A ns c r Ac (clsN ns ns.length) cc X hX hI hcl.out (validG_kids hv) (fun n hn => by have := (hv.nodes n hn).few; omega) (by omega) hv.root0 hv.root)
    have hrl := hide (replNs_len ns (clsN ns ns.length))
    clear hv
    generalize clsN ns ns.length = CL at *
    generalize lstN ns r = LN at *
    generalize look CL r = rt at *
    generalize hRN : replNs ns CL = RN at *
    clear hRN
    go_wp2_with fail
    go_region_held3 (fun w' => w'.cell? ⟨w.heap.size, 0, none⟩ = some (.slice A ns.length c) ∧ w'.cell? ⟨w.heap.size, 1, none⟩ = some (.int .i64 r))
      (first
        | (go_split_ands; refine ⟨?_, ?_⟩ <;> assumption)
        | go_keep)
      (first
        | (go_at_call 26; refine HC.out.mono ?_; rintro e w2 ⟨Ac, cc, rfl, hoC, hb2⟩; have q0 := (hb2.cell (p := ⟨w.heap.size, 0, none⟩) hGd).trans e0; have q1 := (hb2.cell (p := ⟨w.heap.size, 1, none⟩) hGd).trans e1; have lR2 := lRd.below hb2 hRd; have HI2 := hide (hoC.ints H64.out (by rw [hcl.out]; omega)); have Hr4 := hide (hr3d.later hb2 (Nat.le_refl _)); have hs2 := hb2.size; have HB4 := hide (hBd.trans (hb2.mono (by omega))); clear hoC hb2)
        | (go_at_call 25; refine (HRp.out Ac cc w2 Hr4.out HI2.out).mono ?_; rintro e w3 ⟨Ap, cp, rfl, hoP, hb3⟩; have z0 := (hb3.cell (p := ⟨w.heap.size, 0, none⟩) (by show w.heap.size < w2.heap.size; omega)).trans q0; have z1 := (hb3.cell (p := ⟨w.heap.size, 1, none⟩) (by show w.heap.size < w2.heap.size; omega)).trans q1; have lR3 := lR2.below hb3 lR2.lt; have HN3 := hide (hoP.nds HWf.out (by rw [hrl.out]; omega)); have hs3 := hb3.size; have HB5 := hide (HB4.out.trans (hb3.mono (by omega))); clear hoP hb3)
        | (go_at_call 24; refine (HP.out Ap cp w3 HN3.out).mono ?_; rintro e w4 ⟨Ag, cg, rfl, hoG, hb4⟩; have y0 := (hb4.cell (p := ⟨w.heap.size, 0, none⟩) (by show w.heap.size < w3.heap.size; omega)).trans z0; have y1 := (hb4.cell (p := ⟨w.heap.size, 1, none⟩) (by show w.heap.size < w3.heap.size; omega)).trans z1; have lR4 := lR3.below hb4 lR3.lt; have HoG := hide hoG; have Hb4 := hide hb4; have b0 := lR4.cell 0; have b1 := lR4.cell 1; have f0 := lR4.frozen 0; have f1 := lR4.frozen 1; simp at b0 b1; clear hoG hb4))
    have l5 := (lR4.set 0 (.slice Ag LN.length cg)).set 1 (.int .i64 0)
    simp only [List.setIfInBounds_toArray, List.set_cons_succ, List.set_cons_zero] at l5
    have s0 := l5.cell 0
    have s1 := l5.cell 1
    simp only [List.getElem?_toArray, List.getElem?_cons_zero, List.getElem?_cons_succ] at s0 s1
    have HG := hide (GivesG.putQ (q := w.heap.size + 1) (r := 0) (by omega) (by show w.heap.size + 1 < w3.heap.size; omega) HB5.out (Below.refl _ _) Hb4.out HoG.out)
    clear l5 lR4 lR3 lR2 q0 q1 z0 z1 y0 y1 b0 b1 f0 f1 lR1 lG1 hr3 hr3d lRd hBd hB3 e0 e1
    go_wp2
    refine bodyPost_ret (v := .agg #[.slice Ag LN.length cg, .int .i64 0]) (by simp [results, Try.results9, go_sem, s0, s1]) rfl ?_
    exact HG.out
  · have HY := hide hv
    have l5 := (lR1.set 0 (.slice none 0 0)).set 1 (.int .i64 0)
    simp only [List.setIfInBounds_toArray, List.set_cons_succ, List.set_cons_zero] at l5
    have s0 := l5.cell 0
    have s1 := l5.cell 1
    have b0 := lR1.cell 0
    have b1 := lR1.cell 1
    have f0 := lR1.frozen 0
    have f1 := lR1.frozen 1
    simp only [List.getElem?_toArray, List.getElem?_cons_zero, List.getElem?_cons_succ] at s0 s1 b0 b1
    have HB := hide ((hB3.setCell (p := ⟨w.heap.size + 1, 0, none⟩) (by show w.heap.size ≤ w.heap.size + 1; omega) (.slice none 0 0)).setCell (p := ⟨w.heap.size + 1, 1, none⟩) (by show w.heap.size ≤ w.heap.size + 1; omega) (.int .i64 0))
    rw [tf_false hv]
    clear hv l5 lR1 lG1 hr3 hB3 e0 e1
    go_wp2
    refine bodyPost_ret (v := .agg #[.slice none 0 0, .int .i64 0]) (by simp [results, Try.results9, go_sem, s0, s1]) rfl ?_
    rw [lstN_no HY.out]
    exact GivesG.zero _ _ HB.out

end Go.Proofs.Ythgklkpfmjgeoaa
