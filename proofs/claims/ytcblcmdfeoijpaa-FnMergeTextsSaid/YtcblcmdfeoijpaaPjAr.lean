/-
  Lemmas, several texts in one: MgqM, EqdI.
-/
import Derived.Test.YtcblcmdfeoijpaaPjAo
import Derived.Test.YtcblcmdfeoijpaaPjAl
import Derived.Test.YtcblcmdfeoijpaaPjAk
import Derived.Test.YtcblcmdfeoijpaaImplD
import Derived.Test.YtcblcmdfeoijpaaJoiI
namespace Go.Proofs.Ytcblcmdfeoijpaa
open Go.RowKit
set_option linter.unusedVariables false

theorem firstT_spec {ns : List Nd} {i : Nat} {n : Nd} (h : ns[i]? = some n) (hk : n.kind = 1) : ∃ q, ns[firstT ns n.value]? = some q ∧ IsTx n.value q := by
  have hle := firstT_le h ⟨hk, rfl⟩
  have hi := (List.getElem?_eq_some_iff.1 h).1
  have hl : firstT ns n.value < ns.length := by omega
  refine ⟨_, List.getElem?_eq_getElem hl, ?_⟩
  have := List.findIdx_getElem (xs := ns) (p := fun m => decide (IsTx n.value m)) (w := hl)
  exact of_decide_eq_true this

theorem look_txt {ns : List Nd} {i : Nat} (hi : i < ns.length) : look (txtCl ns) (i : Int) = ftx ns i := look_at (txtCl_at hi)

theorem ftx_idem {ns : List Nd} {i : Nat} (hi : i < ns.length) : ∃ j : Nat, ftx ns i = (j : Int) ∧ j < ns.length ∧ ftx ns j = (j : Int) := by
  have hn : ns[i]? = some ns[i] := List.getElem?_eq_getElem hi
  by_cases hk : ns[i].kind = 1
  · obtain ⟨q, hq, ht⟩ := firstT_spec hn hk
    refine ⟨_, ftx_text hn hk, (List.getElem?_eq_some_iff.1 hq).1, ?_⟩
    rw [ftx_text hq ht.1, ht.2]
  · exact ⟨i, ftx_else hn hk, hi, ftx_else hn hk⟩

theorem text_kids {ns : List Nd} {r : Int} (hv : ValidG ns r) {n : Nd} (hn : n ∈ ns) (hk : n.kind = 1) : n.kids = [] := by
  have := (hv.nodes n hn).kind
  unfold KindOk at this
  rw [hk] at this
  apply List.eq_nil_of_length_eq_zero
  omega

theorem cong_txt {ns : List Nd} {r : Int} (hv : ValidG ns r) : Cong ns (txtCl ns) := by
  refine ⟨txtCl_len ns, fun x h0 h1 => ?_, fun x h0 h1 => ?_, fun i j n m hn hm h => ?_⟩
  · obtain ⟨i, rfl⟩ := Int.eq_ofNat_of_zero_le h0
    rw [look_txt (by omega)]
    have := ftx_range (ns := ns) (i := i) (by omega)
    omega
  · obtain ⟨i, rfl⟩ := Int.eq_ofNat_of_zero_le h0
    obtain ⟨j, g1, g2, g3⟩ := ftx_idem (ns := ns) (i := i) (by omega)
    rw [look_txt (by omega), g1, look_txt g2, g3]
  · have hi := (List.getElem?_eq_some_iff.1 hn).1
    have hj := (List.getElem?_eq_some_iff.1 hm).1
    rw [look_txt hi, look_txt hj] at h
    by_cases hk : n.kind = 1
    · obtain ⟨q, hq, ht⟩ := firstT_spec hn hk
      rw [ftx_text hn hk] at h
      by_cases hk2 : m.kind = 1
      · obtain ⟨q2, hq2, ht2⟩ := firstT_spec hm hk2
        rw [ftx_text hm hk2] at h
        have e : firstT ns n.value = firstT ns m.value := by omega
        rw [e, hq2] at hq
        injection hq with hq
        subst hq
        unfold sigOf
        rw [hk, hk2, ← ht.2, ← ht2.2, text_kids hv (List.mem_of_getElem? hn) hk, text_kids hv (List.mem_of_getElem? hm) hk2]
      · rw [ftx_else hm hk2] at h
        have e : firstT ns n.value = j := by omega
        rw [e, hm] at hq
        injection hq with hq
        subst hq
        exact absurd ht.1 hk2
    · rw [ftx_else hn hk] at h
      by_cases hk2 : m.kind = 1
      · obtain ⟨q2, hq2, ht2⟩ := firstT_spec hm hk2
        rw [ftx_text hm hk2] at h
        have e : firstT ns m.value = i := by omega
        rw [e, hn] at hq2
        injection hq2 with hq2
        subst hq2
        exact absurd ht2.1 hk
      · rw [ftx_else hm hk2] at h
        obtain rfl : i = j := by omega
        rw [hn] at hm
        injection hm with hm
        rw [hm]

theorem firstT_repl (ns : List Nd) (cl : List Int) (v : Int) : firstT (replNs ns cl) v = firstT ns v := by
  unfold firstT replNs
  rw [List.findIdx_map]
  rfl

theorem txtCl_repl (ns : List Nd) (cl : List Int) : txtCl (replNs ns cl) = txtCl ns := by
  unfold txtCl
  rw [replNs_len]
  apply List.map_congr_left
  intro i hi
  have hil := List.mem_range.1 hi
  have hn : ns[i]? = some ns[i] := List.getElem?_eq_getElem hil
  by_cases hk : ns[i].kind = 1
  · rw [ftx_text hn hk, ftx_text (replNs_at (cl := cl) hn) hk, firstT_repl]
    rfl
  · rw [ftx_else hn hk, ftx_else (replNs_at (cl := cl) hn) hk]

theorem mrg_valid {ns : List Nd} {r : Int} (hv : ValidG ns r) : ValidG (mrgN ns r) (mrgR ns r) := by
  rw [mrgN_yes hv, mrgR_yes hv]
  exact repl_valid hv (cong_txt hv)

theorem mrg_equal {ns : List Nd} {r : Int} (hv : ValidG ns r) : EqDeepG (mrgN ns r) (mrgR ns r) ns r := by
  refine (eqDeep_iff (mrg_valid hv) hv).2 ?_
  rw [mrgN_yes hv, mrgR_yes hv]
  exact repl_eqAll (validG_kids hv) (cong_txt hv) hv.root0 hv.root

theorem mrg_again {ns : List Nd} {r : Int} (hv : ValidG ns r) : mrgN (mrgN ns r) (mrgR ns r) = mrgN ns r ∧ mrgR (mrgN ns r) (mrgR ns r) = mrgR ns r := by
  have h := mrg_valid hv
  rw [mrgN_yes h, mrgR_yes h]
  rw [mrgN_yes hv, mrgR_yes hv, txtCl_repl]
  exact ⟨repl_repl (validG_kids hv) (cong_txt hv), (cong_txt hv).idem r hv.root0 hv.root⟩

/-- no two equal texts are reached -/
theorem mrg_texts {ns : List Nd} {r : Int} (hv : ValidG ns r) {L : List Int} (hR : Reached (mrgN ns r) (mrgR ns r) L) {i k : Nat} (hk : k < i) {x y : Nat} {m q : Nd} (hx : L[i]? = some (x : Int)) (hy : L[k]? = some (y : Int)) (hm : (mrgN ns r)[x]? = some m) (hq : (mrgN ns r)[y]? = some q) :
    ¬ (m.kind = 1 ∧ q.kind = 1 ∧ m.value = q.value) := by
  rw [mrgN_yes hv, mrgR_yes hv] at hR
  rw [mrgN_yes hv] at hm hq
  rintro ⟨h1, h2, h3⟩
  obtain ⟨⟨_, hx1⟩, hxs⟩ := repl_reached hv (cong_txt hv) hR (x : Int) (List.mem_of_getElem? hx)
  obtain ⟨⟨_, hy1⟩, hys⟩ := repl_reached hv (cong_txt hv) hR (y : Int) (List.mem_of_getElem? hy)
  have hxl : x < ns.length := by omega
  have hyl : y < ns.length := by omega
  have hn : ns[x]? = some ns[x] := List.getElem?_eq_getElem hxl
  have hp : ns[y]? = some ns[y] := List.getElem?_eq_getElem hyl
  rw [replNs_at hn] at hm
  rw [replNs_at hp] at hq
  injection hm with hm
  injection hq with hq
  rw [← hm] at h1 h3
  rw [← hq] at h2 h3
  rw [look_txt hxl, ftx_text hn h1] at hxs
  rw [look_txt hyl, ftx_text hp h2] at hys
  have e : ns[x].value = ns[y].value := h3
  rw [e] at hxs
  have : x = y := by omega
  subst this
  have hil := (List.getElem?_eq_some_iff.1 hx)
  have hkl := (List.getElem?_eq_some_iff.1 hy)
  have := (List.getElem_inj hR.met.nodup).1 (hil.2.trans hkl.2.symm)
  omega

end Go.Proofs.Ytcblcmdfeoijpaa

namespace Go.Proofs.Ytcblcmdfeoijpaa
open Go.RowKit Go.Maps
set_option linter.unusedVariables false

set_option maxHeartbeats 2000000 in
theorem implEqualDeep_any (A A' : Option Addr) (ns ms : List Nd) (c c' : Nat) (r s : Int) (w : World) (hr : NdsAt w w.heap.size A ns) (hq : NdsAt w w.heap.size A' ms) :
    Calls Try.prog 10 #[.agg #[.slice A ns.length c, .int .i64 r], .agg #[.slice A' ms.length c', .int .i64 s]] w fun e w' => e = .returned (.bool (tf (EqDeepG ns r ms s))) ∧ Below w.heap.size w w' := by
  have hB2 : Below w.heap.size w ((w.alloc (.cells #[.slice A ns.length c, .int .i64 r] 25)).alloc (.cells #[.slice A' ms.length c', .int .i64 s] 25)) := ((Below.refl _ _).alloc (Nat.le_refl _) _).alloc (by simp) _
  have lA := (Lies.new w #[.slice A ns.length c, .int .i64 r] 25).alloc (.cells #[.slice A' ms.length c', .int .i64 s] 25)
  have lB := Lies.new (w.alloc (.cells #[.slice A ns.length c, .int .i64 r] 25)) #[.slice A' ms.length c', .int .i64 s] 25
  simp only [World.size_alloc] at lB
  have hr2 := hr.later hB2 (Nat.le_refl _)
  have hq2 := hq.later hB2 (Nat.le_refl _)
  clear hr hq
  go_enter Try.func10, Try.ntmps10
  go_wp2_with fail
  generalize (w.alloc (.cells #[.slice A ns.length c, .int .i64 r] 25)).alloc (.cells #[.slice A' ms.length c', .int .i64 s] 25) = W at hB2 lA lB hr2 hq2 ⊢
  refine (implValid_any A ns c r W hr2).mono ?_
  rintro e w1 ⟨rfl, hb1⟩
  have lA1 := lA.below hb1 lA.lt
  have lB1 := lB.below hb1 lB.lt
  have hr3 := hr2.later hb1 (Nat.le_refl _)
  have hq3 := hq2.later hb1 (Nat.le_refl _)
  have hB3 := hB2.trans (hb1.mono hB2.size)
  have e0 := lA1.cell 0
  have e1 := lA1.cell 1
  have d0 := lB1.cell 0
  have d1 := lB1.cell 1
  simp only [List.getElem?_toArray, List.getElem?_cons_zero, List.getElem?_cons_succ] at e0 e1 d0 d1
  clear lA lB hr2 hq2 hB2 hb1
  by_cases hv : ValidG ns r
  · rw [tf_true hv]
    go_wp2_with fail
    refine (implValid_any A' ms c' s w1 hq3).mono ?_
    rintro e w2 ⟨rfl, hb2⟩
    have lA2 := lA1.below hb2 lA1.lt
    have lB2 := lB1.below hb2 lB1.lt
    have hr4 := hr3.later hb2 (Nat.le_refl _)
    have hq4 := hq3.later hb2 (Nat.le_refl _)
    have hB4 := hB3.trans (hb2.mono hB3.size)
    clear e0 e1 d0 d1
    have e0 := lA2.cell 0
    have e1 := lA2.cell 1
    have d0 := lB2.cell 0
    have d1 := lB2.cell 1
    simp only [List.getElem?_toArray, List.getElem?_cons_zero, List.getElem?_cons_succ] at e0 e1 d0 d1
    clear lA1 lB1 hr3 hq3 hB3 hb2
    by_cases hw : ValidG ms s
    · rw [tf_true hw]
      have HW := hide (RowN.wfJ hv hw hr4 hq4)
      have HK := hide (joinNs_kids (validG_kids hv) (validG_kids hw))
      have hjs := joined_small hv hw
      have HJ := hide (joinedNodes_any A ns c r A' ms c' s w2 hr4 hq4 (by have := hv.few; omega) (by have := hw.few; omega) (fun n hn => ((validG_bounds hv).2 n hn).1) (validG_bounds hw).2)
      have hr0 := hv.root0
      have hr1 := hv.root
      have hs0 := hw.root0
      have hs1 := hw.root
      have hlen := hide (joinNs_len ns ms)
      have hn1 : (ns.length : Int) ≤ (joinNs ns ms).length := by have := hlen.out; omega
      have hn2 : (ns.length : Int) + ms.length ≤ (joinNs ns ms).length := by have := hlen.out; omega
      have HE : Hid (tf (EqDeepG ns r ms s) = tf (RootsEq ns r ms s (joinNs ns ms).length)) := hide (tf_congr ⟨fun h => h.2.2, fun h => ⟨hv, hw, h⟩⟩)
      have HLA := hide lA2
      have HLB := hide lB2
      have HB4 := hide hB4
      clear hv hw lA2 lB2 hr4 hq4 hB4
      go_wp2_with fail
      refine HJ.out.mono ?_
      clear HJ
      rintro e w3 ⟨Aj, cj, rfl, hrow, hb3⟩
      have HN := hide (hrow.nds HW.out (by omega))
      have hcap := hrow.capJ
      have HB5 := hide (HB4.out.trans (hb3.mono HB4.out.size))
      have lA3 := HLA.out.below hb3 HLA.out.lt
      have lB3 := HLB.out.below hb3 HLB.out.lt
      clear e0 e1 d0 d1 hrow hb3 HLA HLB HB4
      have HLA := hide lA3
      have HLB := hide lB3
      clear lA3 lB3
      go_wp2_with fail
      refine (deepClasses_any Aj (joinNs ns ms) cj w3 HN.out HK.out (by omega) hcap).mono ?_
      rintro e w4 ⟨Ag, cg, rfl, ho, hb4⟩
      have lA4 := HLA.out.below hb4 HLA.out.lt
      have lB4 := HLB.out.below hb4 HLB.out.lt
      have e0 := lA4.cell 0
      have e1 := lA4.cell 1
      have d0 := lB4.cell 0
      have d1 := lB4.cell 1
      simp only [List.getElem?_toArray, List.getElem?_cons_zero, List.getElem?_cons_succ] at e0 e1 d0 d1
      have hcl := hide (clsN_len (joinNs ns ms) (joinNs ns ms).length)
      have hIn : ∀ x ∈ clsN (joinNs ns ms) (joinNs ns ms).length, In64 x := fun x hx => by
        have := clsN_in (joinNs ns ms) _ x hx
        constructor <;> omega
      have HI := hide (ho.ints hIn (by rw [hcl.out]; omega))
      have HH := hide (haveEqualRoots_any A A' Ag ns.length ms.length c c' cg r s (clsN (joinNs ns ms) (joinNs ns ms).length) w4 HI.out hr0 (by rw [hcl.out]; omega) hs0 (by rw [hcl.out]; omega) (by rw [hcl.out]; omega))
      rw [RootsEq.tf_def, ← HE.out] at HH
      have HB6 := hide (HB5.out.trans (hb4.mono HB5.out.size))
      clear ho hb4 lA4 lB4 hIn HI HN HE
      go_wp2_with fail
      refine HH.out.mono ?_
      rintro e w5 ⟨rfl, hb5⟩
      have HB7 := hide (HB6.out.trans (hb5.mono HB6.out.size))
      clear hb5 e0 e1 d0 d1
      go_wp2
      go_ret
      exact ⟨rfl, HB7.out⟩
    · have HE : Hid (tf (EqDeepG ns r ms s) = false) := hide (tf_false fun h => hw h.2.1)
      rw [tf_false hw]
      have HB := hide hB4
      clear hv hw lA2 lB2 hr4 hq4 hB4 e0 e1 d0 d1
      go_wp2
      go_ret
      exact ⟨ret_bool HE.out.symm, HB.out⟩
  · have HE : Hid (tf (EqDeepG ns r ms s) = false) := hide (tf_false fun h => hv h.1)
    rw [tf_false hv]
    have HB := hide hB3
    clear hv lA1 lB1 hr3 hq3 hB3 e0 e1 d0 d1
    go_wp2
    go_ret
    exact ⟨ret_bool HE.out.symm, HB.out⟩

end Go.Proofs.Ytcblcmdfeoijpaa
