/-
  Lemmas, several texts in one: RowE, JoiI, EqoS.
-/
import Derived.Test.YtkgnijbdbkopkabRowD
import Derived.Deep.RegionLaw
import Derived.Deep.AppendLies
import Derived.Test.YtkgnijbdbkopkabPjAp
import Derived.Test.YtkgnijbdbkopkabPjAu
import Derived.Test.YtkgnijbdbkopkabPjAi
import Derived.Test.YtkgnijbdbkopkabPjAe
import Derived.IntWalk
import Derived.Test.YtkgnijbdbkopkabPjAs
import Derived.Test.YtkgnijbdbkopkabSpecE
import Derived.Test.YtkgnijbdbkopkabPjAj
set_option linter.unusedVariables false
namespace Go.Proofs.Ytkgnijbdbkopkab
open Go.RowKit

/-- append of one node whose kids lie apart from all before -/
theorem step_append_ndD {w : World} {ops : Array Oper} {o : Oper} {a : Act} {K : Act → World → Prop} {Q : Exit → Act → World → Prop} {E : Prop} (hgd : o.guard = none) (s x : Operand)
    (ho : o.op = .call { callee := .builtin .append, args := #[s, x], argTypes := #[23, 23] })
    (base bnd bnd' : Nat) (An : Option Addr) (cn : Nat) (ns : List Nd) (hs : a.eval s = .slice An ns.length cn) (hrow : RowD w base bnd An cn ns) (b : Nat) (n : Nd) (Ak : Option Addr) (ck : Nat) (t : TypeId) (hx : a.eval x = .slice (some ⟨b, 0, none⟩) 1 1)
    (hr : w.heap[b]? = some (.cells #[.int .i64 n.kind, .int .i64 n.value, .slice Ak n.kids.length ck] t (0, 0))) (hown : OwnI w base Ak ck n.kids) (hbase : base ≤ w.heap.size) (hn : ns.length ≤ 1000)
    (hk : ∀ q, blockOf Ak = some q → bnd ≤ q ∧ q < bnd') (hbb : bnd ≤ bnd')
    (h : ∀ (A' : Option Addr) (c' : Nat) (w' : World), RowD w' base bnd' A' c' (ns ++ [n]) → w.grownBy w' (blockOf An) →
      K (a.put o.dst (.slice A' (ns.length + 1) c')) w') :
    if Region.wanted o (yielded ops a.tmps) = true then Oper.wp Try.prog o a w K Q else E := by
  obtain ⟨i0, hi, hz0, hz1, hz2⟩ := info_parts infoNdA
  obtain ⟨cs, h1, hcs, hap, hun⟩ := hrow.row
  have hlen := h1.1
  refine step_append_lies w hgd s x 23 ho base 45 i0 _ 3 40 Try.underlying23 hi hz0 hz1 hz2 rfl (by omega) _ ns.length cs hs h1 ⟨b, 0, none⟩ 1 1 [.int .i64 n.kind, .int .i64 n.value, .slice Ak n.kids.length ck] hx (by simp) (World.news_of_block hr) (by
      intro u hu
      simp at hu
      rcases hu with rfl | rfl | rfl <;> rfl)
    (by omega) (by unfold maxLen; omega) (by omega) hbase w.heap.size rfl ?_
  intro g cap w' h2 h3 _ _
  rw [ownBlock_slice] at h3
  have h2' := h2
  have hold : ∀ i, i < ns.length → (cs ++ [.int .i64 n.kind, .int .i64 n.value, .slice Ak n.kids.length ck])[i * 3 + 2]? = cs[i * 3 + 2]? := fun i hi2 => List.getElem?_append_left (by omega)
  have hnew : (cs ++ [.int .i64 n.kind, .int .i64 n.value, .slice Ak n.kids.length ck])[ns.length * 3 + 2]? = some (.slice Ak n.kids.length ck) := by
    rw [List.getElem?_append_right (by omega), hlen]
    simp
  have hll : (ns ++ [n]).length = ns.length + 1 := by simp
  refine h (some ⟨g, 0, none⟩) cap w' ⟨⟨_, by simpa using h2', fun j m hj => ?_, fun i j A1 A2 n1 n2 c1 c2 hij hj d1 d2 q hq1 hq2 => ?_, fun i A1 n1 c1 hi2 d1 q hq1 => ?_⟩⟩ h3
  · have hkeep : ∀ (A1 : Option Addr) (c1 : Nat) (ks : List Int), OwnI w base A1 c1 ks → OwnI w' base A1 c1 ks := fun A1 c1 ks ho => ho.kept h3 (by
      cases hA : blockOf A1 with
      | none => exact .inl rfl
      | some q => exact .inr (fun e => node_int_ne h1 ho.own q e.symm hA))
    rw [List.getElem?_append] at hj
    split at hj
    next hlt =>
      obtain ⟨A1, c1, a1, a2, a3, a4⟩ := hcs j m hj
      exact ⟨A1, c1, by rw [List.getElem?_append_left (by omega)]; exact a1, by rw [List.getElem?_append_left (by omega)]; exact a2, by rw [List.getElem?_append_left (by omega)]; exact a3, hkeep _ _ _ a4⟩
    next hlt =>
      have hjl := (List.getElem?_eq_some_iff.1 hj).1
      simp at hjl
      obtain rfl : j = ns.length := by omega
      simp at hj
      subst hj
      refine ⟨Ak, ck, ?_, ?_, ?_, hkeep _ _ _ hown⟩
      · rw [List.getElem?_append_right (by omega), hlen]; simp
      · rw [List.getElem?_append_right (by omega), hlen]; simp
      · exact hnew
  · rw [hll] at hj
    rw [hold i (by omega)] at d1
    rcases Nat.lt_or_ge j ns.length with h7 | h7
    · rw [hold j h7] at d2
      exact hap i j A1 A2 n1 n2 c1 c2 hij h7 d1 d2 q hq1 hq2
    · obtain rfl : j = ns.length := by omega
      rw [hnew] at d2
      injection d2 with d2
      injection d2 with d2 _ _
      subst d2
      have e1 := hun i A1 n1 c1 (by omega) d1 q hq1
      have e2 := (hk q hq2).1
      omega
  · rw [hll] at hi2
    rcases Nat.lt_or_ge i ns.length with h7 | h7
    · rw [hold i h7] at d1
      have := hun i A1 n1 c1 h7 d1 q hq1
      omega
    · obtain rfl : i = ns.length := by omega
      rw [hnew] at d1
      injection d1 with d1
      injection d1 with d1 _ _
      subst d1
      exact (hk q hq1).2


end Go.Proofs.Ytkgnijbdbkopkab

namespace Go.Proofs.Ytkgnijbdbkopkab
open Go.RowKit Go.Maps
set_option linter.unusedVariables false

theorem joined1_any (k : Int) (q m : Nat) (w : World) (h : w.cell? ⟨q, 0, none⟩ = some (.int .i64 (m : Int))) (h0 : 0 ≤ k) (h1 : k ≤ 1000000) (hm : m ≤ 1000000) :
    Calls Try.prog 35 #[.int .i64 k, .pointer (some ⟨q, 0, none⟩)] w fun e w' => e = .returned (.int .i64 ((m : Int) + k)) ∧ w = w' := by
  have hw : IntKind.i64.wrap ((m : Int) + k) = (m : Int) + k := by rw [IntKind.wrap_i64]; omega
  go_enter Try.func35, Try.ntmps35
  go_wp2
  go_ret
  exact ⟨rfl, rfl⟩

/-- the answer: a row of the call's own that reads as the nodes -/
def GivesR (w : World) (ns : List Nd) (e : Ending) (w' : World) : Prop :=
  ∃ A c, e = .returned (.slice A ns.length c) ∧ RowN w' w.heap.size A c ns ∧ Below w.heap.size w w'

/-- the memory of the loop -/
structure JoA (w W2 wr : World) (B : Option Addr) (cb : Nat) (rb : Int) (ns ms : List Nd) (k : Nat) (A : Option Addr) (c : Nat) : Prop where
  bel : Below W2.heap.size W2 wr
  row : RowN wr W2.heap.size A c (ns ++ (ms.take k).map (shiftNd ns.length))

theorem jo_len {ns ms : List Nd} {k : Nat} (hk : k ≤ ms.length) : (ns ++ (ms.take k).map (shiftNd ns.length)).length = ns.length + k := by
  simp
  omega

theorem RowN.lowN {w : World} {base base' : Nat} {A : Option Addr} {c : Nat} {ns : List Nd} (h : RowN w base A c ns) (hb : base' ≤ base) : RowN w base' A c ns := by
  obtain ⟨cs, h1, h2⟩ := h.row
  refine ⟨⟨cs, ⟨h1.1, ?_⟩, fun j n hj => ?_⟩⟩
  · rcases h1.2 with h3 | ⟨g, cap, cur, hv, hg, r⟩
    · exact .inl h3
    · exact .inr ⟨g, cap, cur, hv, by omega, r⟩
  · obtain ⟨A1, c1, a1, a2, a3, a4⟩ := h2 j n hj
    exact ⟨A1, c1, a1, a2, a3, a4.lowB hb⟩

set_option maxHeartbeats 2000000 in
theorem joinedNodes_any (A : Option Addr) (ns : List Nd) (c : Nat) (r : Int) (B : Option Addr) (ms : List Nd) (cb : Nat) (rb : Int) (w : World) (ha : NdsAt w w.heap.size A ns) (hb : NdsAt w w.heap.size B ms) (hl : ns.length ≤ 100) (hm : ms.length ≤ 100)
    (hka : ∀ n ∈ ns, n.kids.length ≤ 1000) (hkb : ∀ n ∈ ms, n.kids.length ≤ 1000 ∧ ∀ k ∈ n.kids, 0 ≤ k ∧ k ≤ 1000000) :
    Calls Try.prog 14 #[.agg #[.slice A ns.length c, .int .i64 r], .agg #[.slice B ms.length cb, .int .i64 rb]] w (GivesR w (joinNs ns ms)) := by
  have hB1 : Below w.heap.size w ((w.alloc (.cells #[.slice A ns.length c, .int .i64 r] 25)).alloc (.cells #[.slice B ms.length cb, .int .i64 rb] 25)) := ((Below.refl _ _).alloc (Nat.le_refl _) _).alloc (by simp) _
  have lA := (Lies.new w #[.slice A ns.length c, .int .i64 r] 25).alloc (.cells #[.slice B ms.length cb, .int .i64 rb] 25)
  have lB := Lies.new (w.alloc (.cells #[.slice A ns.length c, .int .i64 r] 25)) #[.slice B ms.length cb, .int .i64 rb] 25
  simp only [World.size_alloc] at lB
  have HKA := hide hka
  have HKB := hide hkb
  have HA := hide ha
  have HBn := hide hb
  clear ha hb hka hkb
  go_enter Try.func14, Try.ntmps14
  go_upto_region 1 with fail
  generalize (w.alloc (.cells #[.slice A ns.length c, .int .i64 r] 25)).alloc (.cells #[.slice B ms.length cb, .int .i64 rb] 25) = W at hB1 lA lB ⊢
  have e0 := lA.cell 0
  simp only [List.getElem?_toArray, List.getElem?_cons_zero] at e0
  have hW1 : w.heap.size + 1 < W.heap.size := lB.lt
  have hba : Below W.heap.size W (W.alloc (.cells #[.int .i64 (ns.length : Int)] 3)) := (Below.refl _ _).alloc (Nat.le_refl _) _
  have lN := Lies.new W #[.int .i64 (ns.length : Int)] 3
  go_upto_region 2 with fail
  generalize W.alloc (.cells #[.int .i64 (ns.length : Int)] 3) = W2 at hba lN ⊢
  have hs2 := hba.size
  have hNl := lN.lt
  have lA2 := lA.below hba lA.lt
  have lB2 := lB.below hba lB.lt
  have hB2 := hB1.trans (hba.mono hB1.size)
  have HA2 := hide (HA.out.later hB2 (Nat.le_refl _))
  have HB2 := hide hB2
  have HLB := hide lB2
  have HLN := hide lN
  have e0 := lA2.cell 0
  simp only [List.getElem?_toArray, List.getElem?_cons_zero] at e0
  clear lA lB hba lA2 lB2 lN hB1 hB2
  go_wp2_with fail
  refine (clonedNodes_any A ns c W2 HA2.out (by omega) HKA.out).mono ?_
  rintro e w2 ⟨g, rfl, hrow, hb2⟩
  have HS0 := hide (show JoA w W2 w2 B cb rb ns ms 0 (some ⟨g, 0, none⟩) ns.length from ⟨hb2, by simpa using (hrow.rowD (by unfold maxLen; omega)).rowN⟩)
  have e1 := (HLB.out.below hb2 HLB.out.lt).cell 0
  simp only [List.getElem?_toArray, List.getElem?_cons_zero] at e1
  clear hrow hb2 e0
  go_wp2_with fail
  clear e1
  go_loopg [6, 18] ms.length (fun gk sv iv wr => ∃ (k : Nat) (A2 : Option Addr) (c2 : Nat), k ≤ ms.length ∧ gk = ms.length - k ∧ sv = .slice A2 (ns.length + k) c2 ∧ iv = .int .i64 (k : Int) ∧ JoA w W2 wr B cb rb ns ms k A2 c2)
  case atStart => exact ⟨0, _, _, Nat.zero_le _, rfl, rfl, rfl, HS0.out⟩
  case round =>
    clear HS0
    obtain ⟨k, A2, c2, hk, rfl, rfl, rfl, hS⟩ := hrel
    have HS := hide hS
    by_cases hlt : k < ms.length
    · obtain ⟨b, off, n, rfl, hbl, hn, hmm, hnd⟩ := ((HBn.out.below HB2.out).below (hS.bel.mono HB2.out.size)).at_ hlt
      obtain ⟨A1, c1, k2, hki, hnil⟩ := hnd.kids
      have k0 := hnd.kind
      have k1 := hnd.value
      have HN := hide hn
      have HM := hide (HKB.out n hmm)
      have hszw : w.heap.size ≤ wr.heap.size := Nat.le_trans HB2.out.size hS.bel.size
      have HKI := hide (hki.later (Below.refl _ _) hszw)
      have hba : Below wr.heap.size wr (wr.alloc (.cells #[.int .i64 n.kind, .int .i64 n.value, .slice A1 n.kids.length c1] 45)) := (Below.refl _ _).alloc (Nat.le_refl _) _
      have l1 := Lies.new wr #[.int .i64 n.kind, .int .i64 n.value, .slice A1 n.kids.length c1] 45
      clear hn hmm hnd hS hki
      go_upto_region 6 with fail
      clear k0 k1 k2
      generalize wr.alloc (.cells #[.int .i64 n.kind, .int .i64 n.value, .slice A1 n.kids.length c1] 45) = W3 at hba l1 ⊢
      have hs3 := hba.size
      have hs2r := HS.out.bel.size
      have e0 := l1.cell 0
      have e1 := l1.cell 1
      have e2 := l1.cell 2
      simp only [List.getElem?_toArray, List.getElem?_cons_zero, List.getElem?_cons_succ] at e0 e1 e2
      have HLN3 := hide ((HLN.out.below HS.out.bel hNl).below hba (by omega))
      have HRW := hide (rewired_any 35 #[] #[.pointer (some ⟨W.heap.size, 0, none⟩)] (fun k => (ns.length : Int) + k) n A1 c1 W3 (HKI.out.later hba (Nat.le_refl _)) HM.out.1 (fun k hk => by have := HM.out.2 k hk; unfold In64; omega) (fun _ _ => by kernel_rfl)
        (fun y W' hb hy => by
          have h3 := HM.out.2 y hy
          have h4 := (HLN3.out.below hb (by omega)).cell 0
          simp only [List.getElem?_toArray, List.getElem?_cons_zero] at h4
          exact joined1_any y W.heap.size ns.length W' h4 h3.1 h3.2 (by omega)))
      have HBA := hide hba
      clear hba l1 HKI hnil
      go_wp2_with fail
      refine HRW.out.mono ?_
      clear HRW
      rintro e wi ⟨Ak, ck, rfl, hown, hbi⟩
      have hbw := HBA.out.trans (hbi.mono hs3)
      have hba2 : Below wi.heap.size wi (wi.alloc (.cells #[.int .i64 n.kind, .int .i64 n.value, .slice Ak n.kids.length ck] 45)) := (Below.refl _ _).alloc (Nat.le_refl _) _
      have HL6 := hide (Lies.new wi #[.int .i64 n.kind, .int .i64 n.value, .slice Ak n.kids.length ck] 45)
      have HD6 := hide ((HS.out.row.below hbw).below hba2)
      have HO6 := hide ((hown.below hba2).lowB (base' := W2.heap.size) (by omega))
      have HBX := hide ((HS.out.bel.trans (hbw.mono hs2r)).trans (hba2.mono (by have := hbw.size; omega)))
      have hkl := @jo_len ns ms k hk
      have hsi := hbi.size
      clear hown hbi hbw hba2 e0 e1 e2
      have hsl : (shiftNd ns.length n).kids.length = n.kids.length := List.length_map ..
      have HL7 := hide (show (wi.alloc (.cells #[.int .i64 n.kind, .int .i64 n.value, .slice Ak n.kids.length ck] 45)).heap[wi.heap.size]? = some (.cells #[.int .i64 (shiftNd ns.length n).kind, .int .i64 (shiftNd ns.length n).value, .slice Ak (shiftNd ns.length n).kids.length ck] 45 (0, 0)) from by rw [hsl]; exact HL6.out)
      have hbz : W2.heap.size ≤ (wi.alloc (.cells #[.int .i64 n.kind, .int .i64 n.value, .slice Ak n.kids.length ck] 45)).heap.size := HBX.out.size
      have hlz : (ns ++ (ms.take k).map (shiftNd ns.length)).length ≤ 1000 := by rw [hkl]; omega
      clear hsl
      go_wp2_with (at_builtin; refine append_ndK rfl (.tmp 22) (.tmp 26) rfl W2.heap.size A2 c2 (ns ++ (ms.take k).map (shiftNd ns.length)) (by first | (rw [hkl]; rfl) | (rw [hkl]) | (simp [Act.eval, Act.put, hkl])) HD6.out wi.heap.size (shiftNd ns.length n) Ak ck 45 rfl HL7.out HO6.out hbz hlz ?_; intro A5 c5 w5 hD5 hg5; have HD5 := hide hD5; have Hb5 := hide (below_grown HBX.out hg5 hbz (fun q hq => (HD6.out.blocks q hq).1)); clear hD5 hg5)
      have HE := hide (show JoA w W2 w5 (some ⟨b, off, none⟩) cb rb ns ms (k + 1) A5 c5 from ⟨Hb5.out, by rw [List.take_add_one, HN.out]; simpa using HD5.out⟩)
      go_roundg (ms.length - (k + 1))
      case measure => omega
      case rel => exact ⟨k + 1, A5, c5, by omega, rfl, by first | rfl | (rw [hkl, Nat.add_assoc]) | (simp; omega), by go_num, HE.out⟩
    · obtain rfl : k = ms.length := by omega
      clear hS hlt
      have hrow := HS.out.row
      rw [List.take_length] at hrow
      have HE := hide (show RowN wr w.heap.size A2 c2 (joinNs ns ms) from RowN.lowN hrow HB2.out.size)
      have HF := hide (HB2.out.trans (HS.out.bel.mono HB2.out.size))
      clear hrow
      go_wp2
      refine bodyPost_ret (v := .slice A2 (ns.length + ms.length) c2) (by simp [results, Try.results14, go_sem]) rfl ?_
      rw [← joinNs_len]
      exact ⟨A2, c2, rfl, HE.out, HF.out⟩

end Go.Proofs.Ytkgnijbdbkopkab

namespace Go.Proofs.Ytkgnijbdbkopkab
open Go.RowKit Go.Maps
set_option linter.unusedVariables false

set_option maxHeartbeats 2000000 in
theorem specEqualTo_any (A A' : Option Addr) (ns ms : List Nd) (c c' : Nat) (r s d : Int) (w : World) (hr : NdsAt w w.heap.size A ns) (hq : NdsAt w w.heap.size A' ms) :
    Calls Try.prog 6 #[.agg #[.slice A ns.length c, .int .i64 r], .agg #[.slice A' ms.length c', .int .i64 s], .int .i64 d] w fun e w' => e = .returned (.bool (tf (EqToG ns r ms s d))) ∧ Below w.heap.size w w' := by
  have hB2 : Below w.heap.size w ((w.alloc (.cells #[.slice A ns.length c, .int .i64 r] 25)).alloc (.cells #[.slice A' ms.length c', .int .i64 s] 25)) := ((Below.refl _ _).alloc (Nat.le_refl _) _).alloc (by simp) _
  have lA := (Lies.new w #[.slice A ns.length c, .int .i64 r] 25).alloc (.cells #[.slice A' ms.length c', .int .i64 s] 25)
  have lB := Lies.new (w.alloc (.cells #[.slice A ns.length c, .int .i64 r] 25)) #[.slice A' ms.length c', .int .i64 s] 25
  simp only [World.size_alloc] at lB
  have hr2 := hr.later hB2 (Nat.le_refl _)
  have hq2 := hq.later hB2 (Nat.le_refl _)
  clear hr hq
  go_enter Try.func6, Try.ntmps6
  go_wp2_with fail
  generalize (w.alloc (.cells #[.slice A ns.length c, .int .i64 r] 25)).alloc (.cells #[.slice A' ms.length c', .int .i64 s] 25) = W at hB2 lA lB hr2 hq2 ⊢
  refine (specValidGraph_any A ns c r W hr2).mono ?_
  rintro e w1 ⟨rfl, hb1⟩
  have lA1 := lA.below hb1 lA.lt
  have lB1 := lB.below hb1 lB.lt
  have hr3 := hr2.later hb1 (Nat.le_refl _)
  have hq3 := hq2.later hb1 (Nat.le_refl _)
  have hB3 := hB2.trans (hb1.mono hB2.size)
  have e0 := lA1.cell 0
  have e1 := lA1.cell 1
  have d0 := lB1.cell 0
  have d1 := lB1.cell 1
  simp only [List.getElem?_toArray, List.getElem?_cons_zero, List.getElem?_cons_succ] at e0 e1 d0 d1
  clear lA lB hr2 hq2 hB2 hb1
  by_cases hv : ValidG ns r
  · rw [tf_true hv]
    go_wp2_with fail
    refine (specValidGraph_any A' ms c' s w1 hq3).mono ?_
    rintro e w2 ⟨rfl, hb2⟩
    have lA2 := lA1.below hb2 lA1.lt
    have lB2 := lB1.below hb2 lB1.lt
    have hr4 := hr3.later hb2 (Nat.le_refl _)
    have hq4 := hq3.later hb2 (Nat.le_refl _)
    have hB4 := hB3.trans (hb2.mono hB3.size)
    clear e0 e1 d0 d1
    have e0 := lA2.cell 0
    have e1 := lA2.cell 1
    have d0 := lB2.cell 0
    have d1 := lB2.cell 1
    simp only [List.getElem?_toArray, List.getElem?_cons_zero, List.getElem?_cons_succ] at e0 e1 d0 d1
    clear lA1 lB1 hr3 hq3 hB3 hb2
    by_cases hwd : ValidG ms s ∧ 0 ≤ d ∧ d ≤ 8
    · obtain ⟨hw, hd0, hd8⟩ := hwd
      rw [tf_true hw]
      obtain ⟨dn, rfl⟩ := Int.eq_ofNat_of_zero_le hd0
      obtain ⟨i, rfl⟩ := Int.eq_ofNat_of_zero_le hv.root0
      obtain ⟨j, rfl⟩ := Int.eq_ofNat_of_zero_le hw.root0
      have hil : i < ns.length := by have := hv.root; omega
      have hjl : j < ms.length := by have := hw.root; omega
      have HQ := hide (equalTo_any dn (dn : Int) (hide rfl) (by omega) A A' ns ms c c' i j i j w2 hr4 hq4 (validG_kids hv) (validG_kids hw) hil hjl)
      have HE : Hid (tf (EqToG ns (i : Int) ms (j : Int) (dn : Int)) = tf (EqN ns ms dn (i : Int) (j : Int))) := hide (tf_congr ⟨fun h => by simpa [RootsEq, EqN] using h.2.2.2.2, fun h => ⟨hv, hw, hd0, hd8, by simpa [RootsEq, EqN] using h⟩⟩)
      have HB4 := hide hB4
      clear hv hw lA2 lB2 hr4 hq4 hB4
      go_wp2_with fail
      refine (inRange_yes (dn : Int) 0 8 w2 hd0 hd8).mono ?_
      rintro e wx ⟨rfl, rfl⟩
      go_wp2_with fail
      refine HQ.out.mono ?_
      clear HQ
      rintro e w3 ⟨rfl, hb3⟩
      have HB5 := hide (HB4.out.trans (hb3.mono HB4.out.size))
      clear e0 e1 d0 d1 hb3 HB4
      go_wp2
      go_ret
      exact ⟨ret_bool HE.out.symm, HB5.out⟩
    · have HE : Hid (tf (EqToG ns r ms s d) = false) := hide (tf_false fun h => hwd ⟨h.2.1, h.2.2.1, h.2.2.2.1⟩)
      have HB := hide hB4
      clear hv lA2 lB2 hr4 hq4 hB4 e0 e1 d0 d1
      by_cases hw : ValidG ms s
      · have hd : d < 0 ∨ 8 < d := by
          rcases Int.lt_or_le d 0 with h | h
          · exact .inl h
          · exact .inr (by rcases Int.lt_or_le 8 d with h2 | h2; exact h2; exact absurd ⟨hw, h, h2⟩ hwd)
        rw [tf_true hw]
        clear hw hwd
        go_wp2_with fail
        refine (inRange_no d 0 8 w2 hd).mono ?_
        rintro e wx ⟨rfl, rfl⟩
        clear hd
        go_wp2
        go_ret
        exact ⟨ret_bool HE.out.symm, HB.out⟩
      · rw [tf_false hw]
        clear hw hwd
        go_wp2
        go_ret
        exact ⟨ret_bool HE.out.symm, HB.out⟩
  · have HE : Hid (tf (EqToG ns r ms s d) = false) := hide (tf_false fun h => hv h.1)
    rw [tf_false hv]
    have HB := hide hB3
    clear hv lA1 lB1 hr3 hq3 hB3 e0 e1 d0 d1
    go_wp2
    go_ret
    exact ⟨ret_bool HE.out.symm, HB.out⟩

end Go.Proofs.Ytkgnijbdbkopkab
