/-
  Lemmas, several texts in one: ReadB, RowE, JoiI, ClaO.
-/
import Derived.Test.YthgklkpfmjgeoaaPjAb
import Derived.Test.YthgklkpfmjgeoaaRows
import Derived.ProofKit
import Derived.OpenShut
import Derived.ShutString
import Derived.ChangeOld
import Derived.Deep.Slices
import Derived.Deep.Fields
import Derived.Lib.SmallJoins
import Derived.Test.YthgklkpfmjgeoaaPjAj
import Derived.Deep.RegionLaw
import Derived.Deep.AppendLies
import Derived.Test.YthgklkpfmjgeoaaPjAv
import Derived.Test.YthgklkpfmjgeoaaPjAo
import Derived.Test.YthgklkpfmjgeoaaPjAe
import Derived.IntWalk
import Derived.Test.YthgklkpfmjgeoaaPjAx
import Derived.Test.YthgklkpfmjgeoaaPjAf
import Derived.Test.YthgklkpfmjgeoaaPjAs
namespace Go.Proofs.Ythgklkpfmjgeoaa
open Go.ChangeShapes Go.WideShapes Go.ChangeAt Go.RowKit Go.Deep
set_option linter.unusedVariables false

theorem readCellsB : Try.prog.cellsOf 5 = 1 := by kernel_rfl
theorem readOwnB : ownKnob Try.prog.godebug = none := by kernel_rfl
theorem readLaidB : laidOutB Try.prog = true := by kernel_rfl

theorem addr_add_b (b off j : Nat) : (⟨b, off, none⟩ : Addr).add j = ⟨b, off + j, none⟩ := by
  unfold Addr.add
  split
  · rename_i h0; subst h0; rfl
  · rfl

/-- a slice of bytes that came in -/
theorem read_bytes {H : Type} {enc : TypeId × Value → H} {w : World} {base : Nat} {spare : Nat → Bool} {held : Bool} {m : Nat} {v : Value} {y : DataW H × List MemPlace} (h : DataW.trod enc Try.prog w base spare held m 22 [v] = some y) :
    ∃ (A : Option Addr) (n c : Nat), v = .slice A n c ∧ BytesAt w w.heap.size A n ∧ n ≤ c ∧ n ≤ 9223372036854775807 := by
  rcases open_ints Try.underlying22 Try.underlying5 readCellsB h with ⟨hcs, _⟩ | ⟨a, len, cap, zs, hcs, _, hl, hm, hz, _, hcell, hwz⟩
  · simp at hcs
    subst hcs
    exact ⟨none, 0, 0, rfl, fun k hk => absurd hk (by omega), Nat.le_refl _, by omega⟩
  · simp at hcs
    subst hcs
    have hzl : len ≤ zs.length := by rw [hz]; split <;> omega
    refine ⟨some a, len, cap, rfl, fun k hk => ?_, hl, by unfold maxLen at hm; omega⟩
    have hz0 := hcell 0 (by omega)
    have hc0 := hcell k (by omega)
    obtain ⟨b, off, sp⟩ := a
    have hsp : sp = none := by simpa [Addr.add] using World.cell?_spot hz0
    subst hsp
    rw [addr_add_b] at hc0
    have hb := range_u8 hwz k
    rw [List.getD_eq_getElem?_getD] at hc0
    obtain ⟨x, hx⟩ := Int.eq_ofNat_of_zero_le hb.1
    refine ⟨b, off, x, rfl, World.block_lt_of_cell? w _ hc0, ?_, by omega⟩
    rw [hc0, hx]

end Go.Proofs.Ythgklkpfmjgeoaa

set_option linter.unusedVariables false
namespace Go.Proofs.Ythgklkpfmjgeoaa
open Go.RowKit

/-- append of one node whose kids lie apart from all before -/
theorem step_append_ndD {w : World} {ops : Array Oper} {o : Oper} {a : Act} {K : Act → World → Prop} {Q : Exit → Act → World → Prop} {E : Prop} (hgd : o.guard = none) (s x : Operand)
    (ho : o.op = .call { callee := .builtin .append, args := #[s, x], argTypes := #[23, 23] })
    (base bnd bnd' : Nat) (An : Option Addr) (cn : Nat) (ns : List Nd) (hs : a.eval s = .slice An ns.length cn) (hrow : RowD w base bnd An cn ns) (b : Nat) (n : Nd) (Ak : Option Addr) (ck : Nat) (t : TypeId) (hx : a.eval x = .slice (some ⟨b, 0, none⟩) 1 1)
    (hr : w.heap[b]? = some (.cells #[.int .i64 n.kind, .int .i64 n.value, .slice Ak n.kids.length ck] t (0, 0))) (hown : OwnI w base Ak ck n.kids) (hbase : base ≤ w.heap.size) (hn : ns.length ≤ 1000)
    (hk : ∀ q, blockOf Ak = some q → bnd ≤ q ∧ q < bnd') (hbb : bnd ≤ bnd')
    (h : ∀ (A' : Option Addr) (c' : Nat) (w' : World), RowD w' base bnd' A' c' (ns ++ [n]) → w.grownBy w' (blockOf An) →
      K (a.put o.dst (.slice A' (ns.length + 1) c')) w') :
    if Region.wanted o (yielded ops a.tmps) = true then Oper.wp Try.prog o a w K Q else E := by
  obtain ⟨i0, hi, hz0, hz1, hz2⟩ := info_parts infoNdA
  obtain ⟨cs, h1, hcs, hap, hun⟩ := hrow.row
  have hlen := h1.1
  refine step_append_lies w hgd s x 23 ho base 43 i0 _ 3 40 Try.underlying23 hi hz0 hz1 hz2 rfl (by omega) _ ns.length cs hs h1 ⟨b, 0, none⟩ 1 1 [.int .i64 n.kind, .int .i64 n.value, .slice Ak n.kids.length ck] hx (by simp) (World.news_of_block hr) (by
      intro u hu
      simp at hu
      rcases hu with rfl | rfl | rfl <;> rfl)
    (by omega) (by unfold maxLen; omega) (by omega) hbase w.heap.size rfl ?_
  intro g cap w' h2 h3 _ _
  rw [ownBlock_slice] at h3
  have h2' := h2
  have hold : ∀ i, i < ns.length → (cs ++ [.int .i64 n.kind, .int .i64 n.value, .slice Ak n.kids.length ck])[i * 3 + 2]? = cs[i * 3 + 2]? := fun i hi2 => List.getElem?_append_left (by omega)
  have hnew : (cs ++ [.int .i64 n.kind, .int .i64 n.value, .slice Ak n.kids.length ck])[ns.length * 3 + 2]? = some (.slice Ak n.kids.length ck) := by
    rw [List.getElem?_append_right (by omega), hlen]
    simp
  have hll : (ns ++ [n]).length = ns.length + 1 := by simp
  refine h (some ⟨g, 0, none⟩) cap w' ⟨⟨_, by simpa using h2', fun j m hj => ?_, fun i j A1 A2 n1 n2 c1 c2 hij hj d1 d2 q hq1 hq2 => ?_, fun i A1 n1 c1 hi2 d1 q hq1 => ?_⟩⟩ h3
  · have hkeep : ∀ (A1 : Option Addr) (c1 : Nat) (ks : List Int), OwnI w base A1 c1 ks → OwnI w' base A1 c1 ks := fun A1 c1 ks ho => ho.kept h3 (by
      cases hA : blockOf A1 with
      | none => exact .inl rfl
      | some q => exact .inr (fun e => node_int_ne h1 ho.own q e.symm hA))
    rw [List.getElem?_append] at hj
    split at hj
    next hlt =>
      obtain ⟨A1, c1, a1, a2, a3, a4⟩ := hcs j m hj
      exact ⟨A1, c1, by rw [List.getElem?_append_left (by omega)]; exact a1, by rw [List.getElem?_append_left (by omega)]; exact a2, by rw [List.getElem?_append_left (by omega)]; exact a3, hkeep _ _ _ a4⟩
    next hlt =>
      have hjl := (List.getElem?_eq_some_iff.1 hj).1
      simp at hjl
      obtain rfl : j = ns.length := by omega
      simp at hj
      subst hj
      refine ⟨Ak, ck, ?_, ?_, ?_, hkeep _ _ _ hown⟩
      · rw [List.getElem?_append_right (by omega), hlen]; simp
      · rw [List.getElem?_append_right (by omega), hlen]; simp
      · exact hnew
  · rw [hll] at hj
    rw [hold i (by omega)] at d1
    rcases Nat.lt_or_ge j ns.length with h7 | h7
    · rw [hold j h7] at d2
      exact hap i j A1 A2 n1 n2 c1 c2 hij h7 d1 d2 q hq1 hq2
    · obtain rfl : j = ns.length := by omega
      rw [hnew] at d2
      injection d2 with d2
      injection d2 with d2 _ _
      subst d2
      have e1 := hun i A1 n1 c1 (by omega) d1 q hq1
      have e2 := (hk q hq2).1
      omega
  · rw [hll] at hi2
    rcases Nat.lt_or_ge i ns.length with h7 | h7
    · rw [hold i h7] at d1
      have := hun i A1 n1 c1 h7 d1 q hq1
      omega
    · obtain rfl : i = ns.length := by omega
      rw [hnew] at d1
      injection d1 with d1
      injection d1 with d1 _ _
      subst d1
      exact (hk q hq1).2


end Go.Proofs.Ythgklkpfmjgeoaa

namespace Go.Proofs.Ythgklkpfmjgeoaa
open Go.RowKit Go.Maps
set_option linter.unusedVariables false

theorem joined1_any (k : Int) (q m : Nat) (w : World) (h : w.cell? ⟨q, 0, none⟩ = some (.int .i64 (m : Int))) (h0 : 0 ≤ k) (h1 : k ≤ 1000000) (hm : m ≤ 1000000) :
    Calls Try.prog 38 #[.int .i64 k, .pointer (some ⟨q, 0, none⟩)] w fun e w' => e = .returned (.int .i64 ((m : Int) + k)) ∧ w = w' := by
  have hw : IntKind.i64.wrap ((m : Int) + k) = (m : Int) + k := by rw [IntKind.wrap_i64]; omega
  go_enter Try.func38, Try.ntmps38
  go_wp2
  go_ret
  exact ⟨rfl, rfl⟩

/-- the answer: a row of the call's own that reads as the nodes -/
def GivesR (w : World) (ns : List Nd) (e : Ending) (w' : World) : Prop :=
  ∃ A c, e = .returned (.slice A ns.length c) ∧ RowN w' w.heap.size A c ns ∧ Below w.heap.size w w'

/-- the memory of the loop -/
structure JoA (w W2 wr : World) (B : Option Addr) (cb : Nat) (rb : Int) (ns ms : List Nd) (k : Nat) (A : Option Addr) (c : Nat) : Prop where
  bel : Below W2.heap.size W2 wr
  row : RowN wr W2.heap.size A c (ns ++ (ms.take k).map (shiftNd ns.length))

theorem jo_len {ns ms : List Nd} {k : Nat} (hk : k ≤ ms.length) : (ns ++ (ms.take k).map (shiftNd ns.length)).length = ns.length + k := by
  simp
  omega

theorem RowN.lowN {w : World} {base base' : Nat} {A : Option Addr} {c : Nat} {ns : List Nd} (h : RowN w base A c ns) (hb : base' ≤ base) : RowN w base' A c ns := by
  obtain ⟨cs, h1, h2⟩ := h.row
  refine ⟨⟨cs, ⟨h1.1, ?_⟩, fun j n hj => ?_⟩⟩
  · rcases h1.2 with h3 | ⟨g, cap, cur, hv, hg, r⟩
    · exact .inl h3
    · exact .inr ⟨g, cap, cur, hv, by omega, r⟩
  · obtain ⟨A1, c1, a1, a2, a3, a4⟩ := h2 j n hj
    exact ⟨A1, c1, a1, a2, a3, a4.lowB hb⟩

set_option maxHeartbeats 2000000 in
theorem joinedNodes_any (A : Option Addr) (ns : List Nd) (c : Nat) (r : Int) (B : Option Addr) (ms : List Nd) (cb : Nat) (rb : Int) (w : World) (ha : NdsAt w w.heap.size A ns) (hb : NdsAt w w.heap.size B ms) (hl : ns.length ≤ 100) (hm : ms.length ≤ 100)
    (hka : ∀ n ∈ ns, n.kids.length ≤ 1000) (hkb : ∀ n ∈ ms, n.kids.length ≤ 1000 ∧ ∀ k ∈ n.kids, 0 ≤ k ∧ k ≤ 1000000) :
    Calls Try.prog 13 #[.agg #[.slice A ns.length c, .int .i64 r], .agg #[.slice B ms.length cb, .int .i64 rb]] w (GivesR w (joinNs ns ms)) := by
  have hB1 : Below w.heap.size w ((w.alloc (.cells #[.slice A ns.length c, .int .i64 r] 25)).alloc (.cells #[.slice B ms.length cb, .int .i64 rb] 25)) := ((Below.refl _ _).alloc (Nat.le_refl _) _).alloc (by simp) _
  have lA := (Lies.new w #[.slice A ns.length c, .int .i64 r] 25).alloc (.cells #[.slice B ms.length cb, .int .i64 rb] 25)
  have lB := Lies.new (w.alloc (.cells #[.slice A ns.length c, .int .i64 r] 25)) #[.slice B ms.length cb, .int .i64 rb] 25
  simp only [World.size_alloc] at lB
  have HKA := hide hka
  have HKB := hide hkb
  have HA := hide ha
  have HBn := hide hb
  clear ha hb hka hkb
  go_enter Try.func13, Try.ntmps13
  go_upto_region 1 with fail
  generalize (w.alloc (.cells #[.slice A ns.length c, .int .i64 r] 25)).alloc (.cells #[.slice B ms.length cb, .int .i64 rb] 25) = W at hB1 lA lB ⊢
  have e0 := lA.cell 0
  simp only [List.getElem?_toArray, List.getElem?_cons_zero] at e0
  have hW1 : w.heap.size + 1 < W.heap.size := lB.lt
  have hba : Below W.heap.size W (W.alloc (.cells #[.int .i64 (ns.length : Int)] 3)) := (Below.refl _ _).alloc (Nat.le_refl _) _
  have lN := Lies.new W #[.int .i64 (ns.length : Int)] 3
  go_upto_region 2 with fail
  generalize W.alloc (.cells #[.int .i64 (ns.length : Int)] 3) = W2 at hba lN ⊢
  have hs2 := hba.size
  have hNl := lN.lt
  have lA2 := lA.below hba lA.lt
  have lB2 := lB.below hba lB.lt
  have hB2 := hB1.trans (hba.mono hB1.size)
  have HA2 := hide (HA.out.later hB2 (Nat.le_refl _))
  have HB2 := hide hB2
  have HLB := hide lB2
  have HLN := hide lN
  have e0 := lA2.cell 0
  simp only [List.getElem?_toArray, List.getElem?_cons_zero] at e0
  clear lA lB hba lA2 lB2 lN hB1 hB2
  go_wp2_with fail
  refine (clonedNodes_any A ns c W2 HA2.out (by omega) HKA.out).mono ?_
  rintro e w2 ⟨g, rfl, hrow, hb2⟩
  have HS0 := hide (show JoA w W2 w2 B cb rb ns ms 0 (some ⟨g, 0, none⟩) ns.length from ⟨hb2, by simpa using (hrow.rowD (by unfold maxLen; omega)).rowN⟩)
  have e1 := (HLB.out.below hb2 HLB.out.lt).cell 0
  simp only [List.getElem?_toArray, List.getElem?_cons_zero] at e1
  clear hrow hb2 e0
  go_wp2_with fail
  clear e1
  go_loopg [6, 18] ms.length (fun gk sv iv wr => ∃ (k : Nat) (A2 : Option Addr) (c2 : Nat), k ≤ ms.length ∧ gk = ms.length - k ∧ sv = .slice A2 (ns.length + k) c2 ∧ iv = .int .i64 (k : Int) ∧ JoA w W2 wr B cb rb ns ms k A2 c2)
  case atStart => exact ⟨0, _, _, Nat.zero_le _, rfl, rfl, rfl, HS0.out⟩
  case round =>
    clear HS0
    obtain ⟨k, A2, c2, hk, rfl, rfl, rfl, hS⟩ := hrel
    have HS := hide hS
    by_cases hlt : k < ms.length
    · obtain ⟨b, off, n, rfl, hbl, hn, hmm, hnd⟩ := ((HBn.out.below HB2.out).below (hS.bel.mono HB2.out.size)).at_ hlt
      obtain ⟨A1, c1, k2, hki, hnil⟩ := hnd.kids
      have k0 := hnd.kind
      have k1 := hnd.value
      have HN := hide hn
      have HM := hide (HKB.out n hmm)
      have hszw : w.heap.size ≤ wr.heap.size := Nat.le_trans HB2.out.size hS.bel.size
      have HKI := hide (hki.later (Below.refl _ _) hszw)
      have hba : Below wr.heap.size wr (wr.alloc (.cells #[.int .i64 n.kind, .int .i64 n.value, .slice A1 n.kids.length c1] 43)) := (Below.refl _ _).alloc (Nat.le_refl _) _
      have l1 := Lies.new wr #[.int .i64 n.kind, .int .i64 n.value, .slice A1 n.kids.length c1] 43
      clear hn hmm hnd hS hki
      go_upto_region 6 with fail
      clear k0 k1 k2
      generalize wr.alloc (.cells #[.int .i64 n.kind, .int .i64 n.value, .slice A1 n.kids.length c1] 43) = W3 at hba l1 ⊢
      have hs3 := hba.size
      have hs2r := HS.out.bel.size
      have e0 := l1.cell 0
      have e1 := l1.cell 1
      have e2 := l1.cell 2
      simp only [List.getElem?_toArray, List.getElem?_cons_zero, List.getElem?_cons_succ] at e0 e1 e2
      have HLN3 := hide ((HLN.out.below HS.out.bel hNl).below hba (by omega))
      have HRW := hide (rewired_any 38 #[] #[.pointer (some ⟨W.heap.size, 0, none⟩)] (fun k => (ns.length : Int) + k) n A1 c1 W3 (HKI.out.later hba (Nat.le_refl _)) HM.out.1 (fun k hk => by have := HM.out.2 k hk; unfold In64; omega) (fun _ _ => by kernel_rfl)
        (fun y W' hb hy => by
          have h3 := HM.out.2 y hy
          have h4 := (HLN3.out.below hb (by omega)).cell 0
          simp only [List.getElem?_toArray, List.getElem?_cons_zero] at h4
          exact joined1_any y W.heap.size ns.length W' h4 h3.1 h3.2 (by omega)))
      have HBA := hide hba
      clear hba l1 HKI hnil
      go_wp2_with fail
      refine HRW.out.mono ?_
      clear HRW
      rintro e wi ⟨Ak, ck, rfl, hown, hbi⟩
      have hbw := HBA.out.trans (hbi.mono hs3)
      have hba2 : Below wi.heap.size wi (wi.alloc (.cells #[.int .i64 n.kind, .int .i64 n.value, .slice Ak n.kids.length ck] 43)) := (Below.refl _ _).alloc (Nat.le_refl _) _
      have HL6 := hide (Lies.new wi #[.int .i64 n.kind, .int .i64 n.value, .slice Ak n.kids.length ck] 43)
      have HD6 := hide ((HS.out.row.below hbw).below hba2)
      have HO6 := hide ((hown.below hba2).lowB (base' := W2.heap.size) (by omega))
      have HBX := hide ((HS.out.bel.trans (hbw.mono hs2r)).trans (hba2.mono (by have := hbw.size; omega)))
      have hkl := @jo_len ns ms k hk
      have hsi := hbi.size
      clear hown hbi hbw hba2 e0 e1 e2
      have hsl : (shiftNd ns.length n).kids.length = n.kids.length := List.length_map ..
      have HL7 := hide (show (wi.alloc (.cells #[.int .i64 n.kind, .int .i64 n.value, .slice Ak n.kids.length ck] 43)).heap[wi.heap.size]? = some (.cells #[.int .i64 (shiftNd ns.length n).kind, .int .i64 (shiftNd ns.length n).value, .slice Ak (shiftNd ns.length n).kids.length ck] 43 (0, 0)) from by rw [hsl]; exact HL6.out)
      have hbz : W2.heap.size ≤ (wi.alloc (.cells #[.int .i64 n.kind, .int .i64 n.value, .slice Ak n.kids.length ck] 43)).heap.size := HBX.out.size
      have hlz : (ns ++ (ms.take k).map (shiftNd ns.length)).length ≤ 1000 := by rw [hkl]; omega
      clear hsl
      go_wp2_with (at_builtin; refine append_ndK rfl (.tmp 22) (.tmp 26) rfl W2.heap.size A2 c2 (ns ++ (ms.take k).map (shiftNd ns.length)) (by first | (rw [hkl]; rfl) | (rw [hkl]) | (simp [Act.eval, Act.put, hkl])) HD6.out wi.heap.size (shiftNd ns.length n) Ak ck 43 rfl HL7.out HO6.out hbz hlz ?_; intro A5 c5 w5 hD5 hg5; have HD5 := hide hD5; have Hb5 := hide (below_grown HBX.out hg5 hbz (fun q hq => (HD6.out.blocks q hq).1)); clear hD5 hg5)
      have HE := hide (show JoA w W2 w5 (some ⟨b, off, none⟩) cb rb ns ms (k + 1) A5 c5 from ⟨Hb5.out, by rw [List.take_add_one, HN.out]; simpa using HD5.out⟩)
      go_roundg (ms.length - (k + 1))
      case measure => omega
      case rel => exact ⟨k + 1, A5, c5, by omega, rfl, by first | rfl | (rw [hkl, Nat.add_assoc]) | (simp; omega), by go_num, HE.out⟩
    · obtain rfl : k = ms.length := by omega
      clear hS hlt
      have hrow := HS.out.row
      rw [List.take_length] at hrow
      have HE := hide (show RowN wr w.heap.size A2 c2 (joinNs ns ms) from RowN.lowN hrow HB2.out.size)
      have HF := hide (HB2.out.trans (HS.out.bel.mono HB2.out.size))
      clear hrow
      go_wp2
      refine bodyPost_ret (v := .slice A2 (ns.length + ms.length) c2) (by simp [results, Try.results13, go_sem]) rfl ?_
      rw [← joinNs_len]
      exact ⟨A2, c2, rfl, HE.out, HF.out⟩

end Go.Proofs.Ythgklkpfmjgeoaa

namespace Go.Proofs.Ythgklkpfmjgeoaa
open Go.RowKit Go.Maps
set_option linter.unusedVariables false

set_option maxHeartbeats 1000000 in
theorem implClassesOf_any (A : Option Addr) (ns : List Nd) (c : Nat) (r : Int) (w : World) (hr : NdsAt w w.heap.size A ns) (hc : ns.length ≤ c) :
    Calls Try.prog 26 #[.agg #[.slice A ns.length c, .int .i64 r]] w (GivesInts w (clsOf ns r)) := by
  have hB : Below w.heap.size w (w.alloc (.cells #[.slice A ns.length c, .int .i64 r] 25)) := (Below.refl _ _).alloc (Nat.le_refl _) _
  have l1 := Lies.new w #[.slice A ns.length c, .int .i64 r] 25
  have hr2 := hr.later hB (Nat.le_refl _)
  clear hr
  go_enter Try.func26, Try.ntmps26
  go_wp2_with fail
  generalize w.alloc (.cells #[.slice A ns.length c, .int .i64 r] 25) = W at hB l1 hr2 ⊢
  refine (implValid_any A ns c r W hr2).mono ?_
  rintro e w1 ⟨rfl, hb1⟩
  have l2 := l1.below hb1 l1.lt
  have hr3 := hr2.later hb1 (Nat.le_refl _)
  have hB1 := hB.trans (hb1.mono hB.size)
  have e0 := l2.cell 0
  simp at e0
  clear l1 hr2 hb1 hB l2
  by_cases hv : ValidG ns r
  · have HE := hide (cls_yes hv)
    have hK := validG_kids hv
    have h12 := hv.few
    rw [tf_true hv]
    clear hv
    go_wp2_with fail
    refine (deepClasses_any A ns c w1 hr3 hK (by omega) hc).mono ?_
    rintro e w2 ⟨Ag, cg, rfl, ho, hb⟩
    have H := hide (And.intro (ho.mono hB1.size) (hB1.trans (hb.mono hB1.size)))
    rw [← HE.out] at H ⊢
    clear ho hb e0 hr3 hK
    go_wp2
    go_ret
    exact ⟨Ag, cg, rfl, H.out.1, H.out.2⟩
  · have HE := hide (cls_no hv)
    rw [tf_false hv]
    have HB := hide hB1
    clear hv e0 hr3 hB1
    go_wp2
    go_ret
    rw [HE.out]
    exact ⟨none, 0, rfl, OwnI.empty _ _, HB.out⟩

end Go.Proofs.Ythgklkpfmjgeoaa
