/-
  The model's EqualDeep: what it returns.
-/
import Derived.Test.YtbpjoiccjpiknaaTogS
import Derived.Test.YtbpjoiccjpiknaaClaS
import Derived.Test.YtbpjoiccjpiknaaSpecE
import Derived.Deep.QuietTactic
import Derived.BigQuiet
namespace Go.Proofs.Ytbpjoiccjpiknaa
open Go.RowKit Go.Maps
set_option linter.unusedVariables false

theorem validG_boundsS {ns : List Nd} {r : Int} (hv : ValidG ns r) : ns.length ≤ 12 ∧ (∀ n ∈ ns, n.kids.length ≤ 1000 ∧ ∀ k ∈ n.kids, 0 ≤ k ∧ k ≤ 1000000) := by
  refine ⟨hv.few, fun n hn => ⟨by have := (hv.nodes n hn).few; omega, fun k hk => ?_⟩⟩
  have h1 := validG_kids hv n hn k hk
  have h2 := hv.few
  omega

theorem RowN.wfJS {ns ms : List Nd} {r s : Int} {w : World} {B B2 : Nat} {A A2 : Option Addr} (hv : ValidG ns r) (hw : ValidG ms s) (h1 : NdsAt w B A ns) (h2 : NdsAt w B2 A2 ms) : WfN (joinNs ns ms) := by
  have w1 := h1.wf
  have w2 := h2.wf
  intro n hn
  unfold joinNs at hn
  rcases List.mem_append.1 hn with hn | hn
  · exact w1 n hn
  · obtain ⟨m, hm, rfl⟩ := List.mem_map.1 hn
    obtain ⟨a1, a2, a3, a4⟩ := w2 m hm
    refine ⟨a1, a2, fun x hx => ?_, by simpa [shiftNd] using a4⟩
    obtain ⟨k, hk, rfl⟩ := List.mem_map.1 (show x ∈ m.kids.map (fun k => (ns.length : Int) + k) from hx)
    have h3 := (validG_boundsS hw).2 m hm
    have h4 := h3.2 k hk
    have h5 := hv.few
    constructor <;> omega

set_option maxHeartbeats 2000000 in
theorem specEqualDeep_any (A A' : Option Addr) (ns ms : List Nd) (c c' : Nat) (r s : Int) (w : World) (hr : NdsAt w w.heap.size A ns) (hq : NdsAt w w.heap.size A' ms) :
    Calls Try.prog 5 #[.agg #[.slice A ns.length c, .int .i64 r], .agg #[.slice A' ms.length c', .int .i64 s]] w fun e w' => e = .returned (.bool (tf (EqDeepG ns r ms s))) ∧ Below w.heap.size w w' := by
  have hB2 : Below w.heap.size w ((w.alloc (.cells #[.slice A ns.length c, .int .i64 r] 29)).alloc (.cells #[.slice A' ms.length c', .int .i64 s] 29)) := ((Below.refl _ _).alloc (Nat.le_refl _) _).alloc (by simp) _
  have lA := (Lies.new w #[.slice A ns.length c, .int .i64 r] 29).alloc (.cells #[.slice A' ms.length c', .int .i64 s] 29)
  have lB := Lies.new (w.alloc (.cells #[.slice A ns.length c, .int .i64 r] 29)) #[.slice A' ms.length c', .int .i64 s] 29
  simp only [World.size_alloc] at lB
  have hr2 := hr.later hB2 (Nat.le_refl _)
  have hq2 := hq.later hB2 (Nat.le_refl _)
  clear hr hq
  go_enter Try.func5, Try.ntmps5
  go_wp2_with fail
  generalize (w.alloc (.cells #[.slice A ns.length c, .int .i64 r] 29)).alloc (.cells #[.slice A' ms.length c', .int .i64 s] 29) = W at hB2 lA lB hr2 hq2 ⊢
  refine (specValidGraph_any A ns c r W hr2).mono ?_
  rintro e w1 ⟨rfl, hb1⟩
  have lA1 := lA.below hb1 lA.lt
  have lB1 := lB.below hb1 lB.lt
  have hr3 := hr2.later hb1 (Nat.le_refl _)
  have hq3 := hq2.later hb1 (Nat.le_refl _)
  have hB3 := hB2.trans (hb1.mono hB2.size)
  have e0 := lA1.cell 0
  have e1 := lA1.cell 1
  have d0 := lB1.cell 0
  have d1 := lB1.cell 1
  simp only [List.getElem?_toArray, List.getElem?_cons_zero, List.getElem?_cons_succ] at e0 e1 d0 d1
  clear lA lB hr2 hq2 hB2 hb1
  by_cases hv : ValidG ns r
  · rw [tf_true hv]
    go_wp2_with fail
    refine (specValidGraph_any A' ms c' s w1 hq3).mono ?_
    rintro e w2 ⟨rfl, hb2⟩
    have lA2 := lA1.below hb2 lA1.lt
    have lB2 := lB1.below hb2 lB1.lt
    have hr4 := hr3.later hb2 (Nat.le_refl _)
    have hq4 := hq3.later hb2 (Nat.le_refl _)
    have hB4 := hB3.trans (hb2.mono hB3.size)
    clear e0 e1 d0 d1
    have e0 := lA2.cell 0
    have e1 := lA2.cell 1
    have d0 := lB2.cell 0
    have d1 := lB2.cell 1
    simp only [List.getElem?_toArray, List.getElem?_cons_zero, List.getElem?_cons_succ] at e0 e1 d0 d1
    clear lA1 lB1 hr3 hq3 hB3 hb2
    by_cases hw : ValidG ms s
    · rw [tf_true hw]
      have HW := hide (RowN.wfJS hv hw hr4 hq4)
      have HK := hide (joinNs_kids (validG_kids hv) (validG_kids hw))
      have hjs := joined_small hv hw
      have hr0 := hv.root0
      have hr1 := hv.root
      have hs0 := hw.root0
      have hs1 := hw.root
      have hwf := hw.few
      have HJ := hide (together_any A A' ns ms c c' r s w2 hr4 hq4 (by have := hv.few; omega) (by omega) (fun n hn => ((validG_boundsS hv).2 n hn).1) (validG_boundsS hw).2 hs0 (by omega))
      have hlen := hide (joinNs_len ns ms)
      have hn1 : (ns.length : Int) ≤ (joinNs ns ms).length := by have := hlen.out; omega
      have hn2 : (ns.length : Int) + ms.length ≤ (joinNs ns ms).length := by have := hlen.out; omega
      have HE : Hid (tf (EqDeepG ns r ms s) = tf (RootsEq ns r ms s (joinNs ns ms).length)) := hide (tf_congr ⟨fun h => h.2.2, fun h => ⟨hv, hw, h⟩⟩)
      have HLA := hide lA2
      have HB4 := hide hB4
      clear hv hw lA2 lB2 hr4 hq4 hB4
      go_wp2_with fail
      refine HJ.out.mono ?_
      clear HJ
      rintro e w3 ⟨Aj, cj, rfl, hrow, hb3⟩
      have HN := hide (hrow.nds HW.out (by omega))
      have HB5 := hide (HB4.out.trans (hb3.mono HB4.out.size))
      have HLA3 := hide (HLA.out.below hb3 HLA.out.lt)
      clear e0 e1 d0 d1 hrow hb3 HLA HB4
      go_wp2_with fail
      refine (specClasses_any Aj (joinNs ns ms) cj w3 HN.out HK.out (by omega)).mono ?_
      rintro e w4 ⟨Ag, cg, rfl, ho, hb4⟩
      have hcl := hide (clsN_len (joinNs ns ms) (joinNs ns ms).length)
      have hIn : ∀ x ∈ clsN (joinNs ns ms) (joinNs ns ms).length, In64 x := fun x hx => by
        have := clsN_in (joinNs ns ms) _ x hx
        constructor <;> omega
      have HI := hide (ho.ints hIn (by rw [hcl.out]; omega))
      have e1 := (HLA3.out.below hb4 HLA3.out.lt).cell 1
      simp only [List.getElem?_toArray, List.getElem?_cons_zero, List.getElem?_cons_succ] at e1
      have HB6 := hide (HB5.out.trans (hb4.mono HB5.out.size))
      clear ho hb4 hIn HN
      obtain ⟨i, rfl⟩ := Int.eq_ofNat_of_zero_le hr0
      obtain ⟨j, rfl⟩ := Int.eq_ofNat_of_zero_le hs0
      obtain ⟨b, off, x, rfl, hbl, hx, _, cx⟩ := HI.out.at_ (k := i) (by rw [hcl.out]; omega)
      obtain ⟨b2, off2, y, hb2, _, hy, _, cy⟩ := HI.out.at_ (k := ns.length + j) (by rw [hcl.out]; omega)
      injection hb2 with hb2
      injection hb2 with a1 a2 _
      subst a1
      subst a2
      have hy2 : look (clsN (joinNs ns ms) (joinNs ns ms).length) ((ns.length : Int) + (j : Int)) = y := by
        have := look_at hy
        rwa [Int.natCast_add] at this
      have HF : Hid (decide (x = y) = tf (EqDeepG ns (i : Int) ms (j : Int))) := hide (by rw [HE.out, ← RootsEq.tf_def, look_at hx, hy2])
      have hcl2 : (clsN (joinNs ns ms) (joinNs ns ms).length).length ≤ 24 := by rw [hcl.out]; exact hjs
      have hcl3 : (i : Int) < ((clsN (joinNs ns ms) (joinNs ns ms).length).length : Int) := by rw [hcl.out]; omega
      have hcl4 : (ns.length : Int) + (j : Int) < ((clsN (joinNs ns ms) (joinNs ns ms).length).length : Int) := by rw [hcl.out]; omega
      have q1 : (0 : Int) ≤ (i : Int) := by omega
      have q3 : (0 : Int) ≤ (ns.length : Int) + (j : Int) := by omega
      have q6 : ((ns.length : Int) + (j : Int)).toNat = ns.length + j := by omega
      generalize (clsN (joinNs ns ms) (joinNs ns ms).length).length = L at hcl2 hcl3 hcl4 ⊢
      clear hx hy hy2 HE HI
      go_wp2_with fail
      go_quiet (fail)
      go_wp2
      go_ret
      exact ⟨ret_bool (by rw [← HF.out]; first | rfl | simp), below_drewN HB6.out _⟩
    · have HE : Hid (tf (EqDeepG ns r ms s) = false) := hide (tf_false fun h => hw h.2.1)
      rw [tf_false hw]
      have HB := hide hB4
      clear hv hw lA2 lB2 hr4 hq4 hB4 e0 e1 d0 d1
      go_wp2
      go_ret
      exact ⟨ret_bool HE.out.symm, HB.out⟩
  · have HE : Hid (tf (EqDeepG ns r ms s) = false) := hide (tf_false fun h => hv h.1)
    rw [tf_false hv]
    have HB := hide hB3
    clear hv lA1 lB1 hr3 hq3 hB3 e0 e1 d0 d1
    go_wp2
    go_ret
    exact ⟨ret_bool HE.out.symm, HB.out⟩

end Go.Proofs.Ytbpjoiccjpiknaa
