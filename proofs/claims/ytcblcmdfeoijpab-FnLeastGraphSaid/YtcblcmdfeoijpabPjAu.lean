/-
  Lemmas, several texts in one: PrSm, LstM, ClaD, ClnL, JoiI.
-/
import Derived.Test.YtcblcmdfeoijpabPjAs
import Derived.Test.YtcblcmdfeoijpabPjAo
import Derived.Test.YtcblcmdfeoijpabPjAq
import Derived.Test.YtcblcmdfeoijpabClaI
import Derived.Test.YtcblcmdfeoijpabPjAt
import Derived.Test.YtcblcmdfeoijpabPjAh
import Derived.Test.YtcblcmdfeoijpabPjAm
import Derived.Test.YtcblcmdfeoijpabPjAi
import Derived.Test.YtcblcmdfeoijpabPjAj
import Derived.IntWalk
namespace Go.Proofs.Ytcblcmdfeoijpab
open Go.RowKit
set_option linter.unusedVariables false

theorem prunedOf_smallN (ns : List Nd) (r : Int) : SmallN (prunedOf ns r) := by
  unfold prunedOf
  split
  · next hv =>
    have hp := reach_pickable hv
    refine ⟨by rw [pickNs_len]; have := @reachOf_few ns r; omega, fun n hn => ?_⟩
    obtain ⟨x, hx, rfl⟩ := List.mem_map.1 hn
    have hR := reachOf_reached hv
    obtain ⟨h0, h1⟩ := hR.met.range x hx
    obtain ⟨i, rfl⟩ := Int.eq_ofNat_of_zero_le h0
    have hi : i < ns.length := by omega
    rw [pickN_at (List.getElem?_eq_getElem hi)]
    have := (hv.nodes _ (List.getElem_mem hi)).few
    simp
    omega
  · exact ⟨by simp, fun n hn => by simp at hn⟩

end Go.Proofs.Ytcblcmdfeoijpab

namespace Go.Proofs.Ytcblcmdfeoijpab
open Go.RowKit Go.Maps
set_option linter.unusedVariables false

open Classical in
noncomputable def lstN (ns : List Nd) (r : Int) : List Nd := if ValidG ns r then prunedOf (replNs ns (clsN ns ns.length)) (look (clsN ns ns.length) r) else []
theorem lstN_yes {ns : List Nd} {r : Int} (h : ValidG ns r) : lstN ns r = prunedOf (replNs ns (clsN ns ns.length)) (look (clsN ns ns.length) r) := if_pos h
theorem lstN_no {ns : List Nd} {r : Int} (h : ¬ ValidG ns r) : lstN ns r = [] := if_neg h
theorem lstN_smallN (ns : List Nd) (r : Int) : SmallN (lstN ns r) := by
  by_cases h : ValidG ns r
  · rw [lstN_yes h]; exact prunedOf_smallN _ _
  · rw [lstN_no h]; exact ⟨by simp, fun n hn => by simp at hn⟩

theorem least_valid {ns : List Nd} {r : Int} (h : ValidG ns r) : ValidG (replNs ns (clsN ns ns.length)) (look (clsN ns ns.length) r) := repl_valid h (cong_cls (validG_kids h))

theorem clsN_64 {ns : List Nd} {d : Nat} (hl : ns.length ≤ 1000) : ∀ x ∈ clsN ns d, In64 x := fun x hx => by
  have := clsN_in ns d x hx
  constructor <;> omega

theorem replNs_wf {ns : List Nd} {cl : List Int} (hw : WfN ns) (hk : KidsIn ns) (hl : cl.length = ns.length) (h64 : ∀ x ∈ cl, In64 x) : WfN (replNs ns cl) := by
  intro n hn
  obtain ⟨m, hm, rfl⟩ := List.mem_map.1 hn
  obtain ⟨a1, a2, a3, a4⟩ := hw m hm
  refine ⟨a1, a2, fun x hx => ?_, by simpa [replNd] using a4⟩
  obtain ⟨k, hkm, rfl⟩ := List.mem_map.1 (show x ∈ m.kids.map (look cl) from hx)
  have h2 := hk m hm k hkm
  exact h64 _ (look_mem h2.1 (by rw [hl]; exact h2.2))

end Go.Proofs.Ytcblcmdfeoijpab

namespace Go.Proofs.Ytcblcmdfeoijpab
open Go.RowKit Go.Maps
set_option linter.unusedVariables false

set_option maxHeartbeats 1000000 in
theorem deepClasses_any (A : Option Addr) (ns : List Nd) (c : Nat) (w : World) (hr : NdsAt w w.heap.size A ns) (hK : KidsIn ns) (hn : ns.length ≤ 1000) (hc : ns.length ≤ c) :
    Calls Try.prog 19 #[.slice A ns.length c] w (GivesInts w (clsN ns ns.length)) := by
  have HC := hide (classesUpTo_any A ns c ns.length w hr hK hn hn hc)
  clear hr hK
  generalize clsN ns ns.length = R at HC ⊢
  go_enter Try.func19, Try.ntmps19
  go_wp2_with fail
  refine HC.out.mono ?_
  rintro e w2 ⟨Ag, cg, rfl, ho, hb⟩
  have H := hide (And.intro ho hb)
  clear ho hb
  go_wp2
  go_ret
  exact ⟨Ag, cg, rfl, H.out.1, H.out.2⟩

end Go.Proofs.Ytcblcmdfeoijpab

namespace Go.Proofs.Ytcblcmdfeoijpab
open Go.RowKit Go.Maps
set_option linter.unusedVariables false

set_option maxHeartbeats 1000000 in
theorem clonedNodes_any (A : Option Addr) (ns : List Nd) (c : Nat) (w : World) (hr : NdsAt w w.heap.size A ns) (hl : ns.length ≤ 1000) (hk : ∀ n ∈ ns, n.kids.length ≤ 1000) :
    Calls Try.prog 46 #[.slice A ns.length c] w (GivesNs w ns) := by
  have hmk := makeNodesC ns.length hl
  have HR := hide hr
  have HS0 := hide (ClA.start w ns)
  have HK := hide hk
  clear hr hk
  go_enter Try.func46, Try.ntmps46
  go_wp2_with fail
  clear hmk
  generalize hX1 : w.alloc (.cells (madeCells #[.int .i64 0, .int .i64 0, .slice none 0 0] (ns.length * 3)) 41) = X1 at HS0 ⊢
  clear hX1
  go_loopg [11] ns.length (fun gk iv wr => ∃ k : Nat, k ≤ ns.length ∧ gk = ns.length - k ∧ iv = .int .i64 (k : Int) ∧ ClA w wr ns k)
  case atStart => exact ⟨0, Nat.zero_le _, rfl, rfl, HS0.out⟩
  case round =>
    clear HS0
    obtain ⟨k, hk, rfl, rfl, hS⟩ := hrel
    by_cases hlt : k < ns.length
    · obtain ⟨b, off, n, rfl, hbl, hn, hm, hnd⟩ := (HR.out.below hS.bel).at_ hlt
      obtain ⟨A1, c1, k2, hki, hnil⟩ := hnd.kids
      have k0 := hnd.kind
      have k1 := hnd.value
      have HN := hide hn
      have HM := hide (HK.out n hm)
      have HS := hide hS
      have HKI := hide hki
      clear hn hm hnd hS hki hbl
      go_upto_region 5 with fail
      have hB2 : Below wr.heap.size wr (wr.alloc (.cells #[.int .i64 n.kind, .int .i64 n.value, .slice A1 n.kids.length c1] 41)) := (Below.refl _ _).alloc (Nat.le_refl _) _
      have l1 := Lies.new wr #[.int .i64 n.kind, .int .i64 n.value, .slice A1 n.kids.length c1] 41
      generalize wr.alloc (.cells #[.int .i64 n.kind, .int .i64 n.value, .slice A1 n.kids.length c1] 41) = W2 at hB2 l1 ⊢
      have e0 := l1.cell 0
      have e1 := l1.cell 1
      have e2 := l1.cell 2
      simp only [List.getElem?_toArray, List.getElem?_cons_zero, List.getElem?_cons_succ] at e0 e1 e2
      have hwr := HS.out.bel.size
      have HC := hide (clonedNode_any n A1 c1 W2 ((HKI.out.later (Below.refl _ _) hwr).later hB2 (Nat.le_refl _)) hnil HM.out)
      have HB2 := hide hB2
      clear k0 k1 k2 hB2 l1 HKI hnil
      go_wp2_with fail
      refine HC.out.mono ?_
      clear HC
      rintro e wi ⟨Ak, ck, rfl, hown, hbi⟩
      obtain ⟨f, hf⟩ := HS.out.row.row
      have hfw : wi.rowIs w.heap.size 41 (ns.length * 3) f := hf.of_block ((HB2.out.trans (hbi.mono HB2.out.size)).block _ hf.lt)
      have q0 := World.rowIs.cell hfw (i := k * 3) (by omega)
      have q1 := World.rowIs.cell hfw (i := k * 3 + 1) (by omega)
      have q2 := World.rowIs.cell hfw (i := k * 3 + 2) (by omega)
      have p0 := World.rowIs.frozen hfw (k * 3)
      have p1 := World.rowIs.frozen hfw (k * 3 + 1)
      have p2 := World.rowIs.frozen hfw (k * 3 + 2)
      have HB := hide (HS.out.step HN.out HB2.out hbi hown)
      have hk1 : (k : Int) < (ns.length : Int) := by omega
      clear hown hbi hf hfw e0 e1 e2 HB2 HN HM HS
      go_wp2_with fail
      go_roundg (ns.length - (k + 1))
      case measure => omega
      case rel => exact ⟨k + 1, by omega, rfl, by go_num, HB.out⟩
    · obtain rfl : k = ns.length := by omega
      have HS := hide hS
      clear hS hlt
      go_wp2
      have hrow := HS.out.row
      rw [List.take_length] at hrow
      refine bodyPost_ret (v := .slice (some ⟨w.heap.size, 0, none⟩) ns.length ns.length) (by simp [results, Try.results46, go_sem]) rfl ?_
      exact ⟨_, rfl, hrow, HS.out.bel⟩

end Go.Proofs.Ytcblcmdfeoijpab

namespace Go.Proofs.Ytcblcmdfeoijpab
open Go.RowKit Go.Maps
set_option linter.unusedVariables false

theorem joined1_any (k : Int) (q m : Nat) (w : World) (h : w.cell? ⟨q, 0, none⟩ = some (.int .i64 (m : Int))) (h0 : 0 ≤ k) (h1 : k ≤ 1000000) (hm : m ≤ 1000000) :
    Calls Try.prog 47 #[.int .i64 k, .pointer (some ⟨q, 0, none⟩)] w fun e w' => e = .returned (.int .i64 ((m : Int) + k)) ∧ w = w' := by
  have hw : IntKind.i64.wrap ((m : Int) + k) = (m : Int) + k := by rw [IntKind.wrap_i64]; omega
  go_enter Try.func47, Try.ntmps47
  go_wp2
  go_ret
  exact ⟨rfl, rfl⟩

/-- the answer: a row of the call's own that reads as the nodes -/
def GivesR (w : World) (ns : List Nd) (e : Ending) (w' : World) : Prop :=
  ∃ A c, e = .returned (.slice A ns.length c) ∧ RowN w' w.heap.size A c ns ∧ Below w.heap.size w w'

/-- the memory of the loop -/
structure JoA (w W2 wr : World) (B : Option Addr) (cb : Nat) (rb : Int) (ns ms : List Nd) (k : Nat) (A : Option Addr) (c : Nat) : Prop where
  bel : Below W2.heap.size W2 wr
  row : RowN wr W2.heap.size A c (ns ++ (ms.take k).map (shiftNd ns.length))

theorem jo_len {ns ms : List Nd} {k : Nat} (hk : k ≤ ms.length) : (ns ++ (ms.take k).map (shiftNd ns.length)).length = ns.length + k := by
  simp
  omega

theorem RowN.lowN {w : World} {base base' : Nat} {A : Option Addr} {c : Nat} {ns : List Nd} (h : RowN w base A c ns) (hb : base' ≤ base) : RowN w base' A c ns := by
  obtain ⟨cs, h1, h2⟩ := h.row
  refine ⟨⟨cs, ⟨h1.1, ?_⟩, fun j n hj => ?_⟩⟩
  · rcases h1.2 with h3 | ⟨g, cap, cur, hv, hg, r⟩
    · exact .inl h3
    · exact .inr ⟨g, cap, cur, hv, by omega, r⟩
  · obtain ⟨A1, c1, a1, a2, a3, a4⟩ := h2 j n hj
    exact ⟨A1, c1, a1, a2, a3, a4.lowB hb⟩

set_option maxHeartbeats 2000000 in
theorem joinedNodes_any (A : Option Addr) (ns : List Nd) (c : Nat) (r : Int) (B : Option Addr) (ms : List Nd) (cb : Nat) (rb : Int) (w : World) (ha : NdsAt w w.heap.size A ns) (hb : NdsAt w w.heap.size B ms) (hl : ns.length ≤ 100) (hm : ms.length ≤ 100)
    (hka : ∀ n ∈ ns, n.kids.length ≤ 1000) (hkb : ∀ n ∈ ms, n.kids.length ≤ 1000 ∧ ∀ k ∈ n.kids, 0 ≤ k ∧ k ≤ 1000000) :
    Calls Try.prog 24 #[.agg #[.slice A ns.length c, .int .i64 r], .agg #[.slice B ms.length cb, .int .i64 rb]] w (GivesR w (joinNs ns ms)) := by
  have hB1 : Below w.heap.size w ((w.alloc (.cells #[.slice A ns.length c, .int .i64 r] 25)).alloc (.cells #[.slice B ms.length cb, .int .i64 rb] 25)) := ((Below.refl _ _).alloc (Nat.le_refl _) _).alloc (by simp) _
  have lA := (Lies.new w #[.slice A ns.length c, .int .i64 r] 25).alloc (.cells #[.slice B ms.length cb, .int .i64 rb] 25)
  have lB := Lies.new (w.alloc (.cells #[.slice A ns.length c, .int .i64 r] 25)) #[.slice B ms.length cb, .int .i64 rb] 25
  simp only [World.size_alloc] at lB
  have HKA := hide hka
  have HKB := hide hkb
  have HA := hide ha
  have HBn := hide hb
  clear ha hb hka hkb
  go_enter Try.func24, Try.ntmps24
  go_upto_region 1 with fail
  generalize (w.alloc (.cells #[.slice A ns.length c, .int .i64 r] 25)).alloc (.cells #[.slice B ms.length cb, .int .i64 rb] 25) = W at hB1 lA lB ⊢
  have e0 := lA.cell 0
  simp only [List.getElem?_toArray, List.getElem?_cons_zero] at e0
  have hW1 : w.heap.size + 1 < W.heap.size := lB.lt
  have hba : Below W.heap.size W (W.alloc (.cells #[.int .i64 (ns.length : Int)] 3)) := (Below.refl _ _).alloc (Nat.le_refl _) _
  have lN := Lies.new W #[.int .i64 (ns.length : Int)] 3
  go_upto_region 2 with fail
  generalize W.alloc (.cells #[.int .i64 (ns.length : Int)] 3) = W2 at hba lN ⊢
  have hs2 := hba.size
  have hNl := lN.lt
  have lA2 := lA.below hba lA.lt
  have lB2 := lB.below hba lB.lt
  have hB2 := hB1.trans (hba.mono hB1.size)
  have HA2 := hide (HA.out.later hB2 (Nat.le_refl _))
  have HB2 := hide hB2
  have HLB := hide lB2
  have HLN := hide lN
  have e0 := lA2.cell 0
  simp only [List.getElem?_toArray, List.getElem?_cons_zero] at e0
  clear lA lB hba lA2 lB2 lN hB1 hB2
  go_wp2_with fail
  refine (clonedNodes_any A ns c W2 HA2.out (by omega) HKA.out).mono ?_
  rintro e w2 ⟨g, rfl, hrow, hb2⟩
  have HS0 := hide (show JoA w W2 w2 B cb rb ns ms 0 (some ⟨g, 0, none⟩) ns.length from ⟨hb2, by simpa using (hrow.rowD (by unfold maxLen; omega)).rowN⟩)
  have e1 := (HLB.out.below hb2 HLB.out.lt).cell 0
  simp only [List.getElem?_toArray, List.getElem?_cons_zero] at e1
  clear hrow hb2 e0
  go_wp2_with fail
  clear e1
  go_loopg [6, 18] ms.length (fun gk sv iv wr => ∃ (k : Nat) (A2 : Option Addr) (c2 : Nat), k ≤ ms.length ∧ gk = ms.length - k ∧ sv = .slice A2 (ns.length + k) c2 ∧ iv = .int .i64 (k : Int) ∧ JoA w W2 wr B cb rb ns ms k A2 c2)
  case atStart => exact ⟨0, _, _, Nat.zero_le _, rfl, rfl, rfl, HS0.out⟩
  case round =>
    clear HS0
    obtain ⟨k, A2, c2, hk, rfl, rfl, rfl, hS⟩ := hrel
    have HS := hide hS
    by_cases hlt : k < ms.length
    · obtain ⟨b, off, n, rfl, hbl, hn, hmm, hnd⟩ := ((HBn.out.below HB2.out).below (hS.bel.mono HB2.out.size)).at_ hlt
      obtain ⟨A1, c1, k2, hki, hnil⟩ := hnd.kids
      have k0 := hnd.kind
      have k1 := hnd.value
      have HN := hide hn
      have HM := hide (HKB.out n hmm)
      have hszw : w.heap.size ≤ wr.heap.size := Nat.le_trans HB2.out.size hS.bel.size
      have HKI := hide (hki.later (Below.refl _ _) hszw)
      have hba : Below wr.heap.size wr (wr.alloc (.cells #[.int .i64 n.kind, .int .i64 n.value, .slice A1 n.kids.length c1] 41)) := (Below.refl _ _).alloc (Nat.le_refl _) _
      have l1 := Lies.new wr #[.int .i64 n.kind, .int .i64 n.value, .slice A1 n.kids.length c1] 41
      clear hn hmm hnd hS hki
      go_upto_region 6 with fail
      clear k0 k1 k2
      generalize wr.alloc (.cells #[.int .i64 n.kind, .int .i64 n.value, .slice A1 n.kids.length c1] 41) = W3 at hba l1 ⊢
      have hs3 := hba.size
      have hs2r := HS.out.bel.size
      have e0 := l1.cell 0
      have e1 := l1.cell 1
      have e2 := l1.cell 2
      simp only [List.getElem?_toArray, List.getElem?_cons_zero, List.getElem?_cons_succ] at e0 e1 e2
      have HLN3 := hide ((HLN.out.below HS.out.bel hNl).below hba (by omega))
      have HRW := hide (rewired_any 47 #[] #[.pointer (some ⟨W.heap.size, 0, none⟩)] (fun k => (ns.length : Int) + k) n A1 c1 W3 (HKI.out.later hba (Nat.le_refl _)) HM.out.1 (fun k hk => by have := HM.out.2 k hk; unfold In64; omega) (fun _ _ => by kernel_rfl)
        (fun y W' hb hy => by
          have h3 := HM.out.2 y hy
          have h4 := (HLN3.out.below hb (by omega)).cell 0
          simp only [List.getElem?_toArray, List.getElem?_cons_zero] at h4
          exact joined1_any y W.heap.size ns.length W' h4 h3.1 h3.2 (by omega)))
      have HBA := hide hba
      clear hba l1 HKI hnil
      go_wp2_with fail
      refine HRW.out.mono ?_
      clear HRW
      rintro e wi ⟨Ak, ck, rfl, hown, hbi⟩
      have hbw := HBA.out.trans (hbi.mono hs3)
      have hba2 : Below wi.heap.size wi (wi.alloc (.cells #[.int .i64 n.kind, .int .i64 n.value, .slice Ak n.kids.length ck] 41)) := (Below.refl _ _).alloc (Nat.le_refl _) _
      have HL6 := hide (Lies.new wi #[.int .i64 n.kind, .int .i64 n.value, .slice Ak n.kids.length ck] 41)
      have HD6 := hide ((HS.out.row.below hbw).below hba2)
      have HO6 := hide ((hown.below hba2).lowB (base' := W2.heap.size) (by omega))
      have HBX := hide ((HS.out.bel.trans (hbw.mono hs2r)).trans (hba2.mono (by have := hbw.size; omega)))
      have hkl := @jo_len ns ms k hk
      have hsi := hbi.size
      clear hown hbi hbw hba2 e0 e1 e2
      have hsl : (shiftNd ns.length n).kids.length = n.kids.length := List.length_map ..
      have HL7 := hide (show (wi.alloc (.cells #[.int .i64 n.kind, .int .i64 n.value, .slice Ak n.kids.length ck] 41)).heap[wi.heap.size]? = some (.cells #[.int .i64 (shiftNd ns.length n).kind, .int .i64 (shiftNd ns.length n).value, .slice Ak (shiftNd ns.length n).kids.length ck] 41 (0, 0)) from by rw [hsl]; exact HL6.out)
      have hbz : W2.heap.size ≤ (wi.alloc (.cells #[.int .i64 n.kind, .int .i64 n.value, .slice Ak n.kids.length ck] 41)).heap.size := HBX.out.size
      have hlz : (ns ++ (ms.take k).map (shiftNd ns.length)).length ≤ 1000 := by rw [hkl]; omega
      clear hsl
      go_wp2_with (at_builtin; refine append_ndK rfl (.tmp 22) (.tmp 26) rfl W2.heap.size A2 c2 (ns ++ (ms.take k).map (shiftNd ns.length)) (by first | (rw [hkl]; rfl) | (rw [hkl]) | (simp [Act.eval, Act.put, hkl])) HD6.out wi.heap.size (shiftNd ns.length n) Ak ck 41 rfl HL7.out HO6.out hbz hlz ?_; intro A5 c5 w5 hD5 hg5; have HD5 := hide hD5; have Hb5 := hide (below_grown HBX.out hg5 hbz (fun q hq => (HD6.out.blocks q hq).1)); clear hD5 hg5)
      have HE := hide (show JoA w W2 w5 (some ⟨b, off, none⟩) cb rb ns ms (k + 1) A5 c5 from ⟨Hb5.out, by rw [List.take_add_one, HN.out]; simpa using HD5.out⟩)
      go_roundg (ms.length - (k + 1))
      case measure => omega
      case rel => exact ⟨k + 1, A5, c5, by omega, rfl, by first | rfl | (rw [hkl, Nat.add_assoc]) | (simp; omega), by go_num, HE.out⟩
    · obtain rfl : k = ms.length := by omega
      clear hS hlt
      have hrow := HS.out.row
      rw [List.take_length] at hrow
      have HE := hide (show RowN wr w.heap.size A2 c2 (joinNs ns ms) from RowN.lowN hrow HB2.out.size)
      have HF := hide (HB2.out.trans (HS.out.bel.mono HB2.out.size))
      clear hrow
      go_wp2
      refine bodyPost_ret (v := .slice A2 (ns.length + ms.length) c2) (by simp [results, Try.results24, go_sem]) rfl ?_
      rw [← joinNs_len]
      exact ⟨A2, c2, rfl, HE.out, HF.out⟩

end Go.Proofs.Ytcblcmdfeoijpab
