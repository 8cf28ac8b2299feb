/-
  The model's onCycle: whether a way leads from a node back to it.
-/
import Derived.Test.YtmpplimghjkjaacCycP
import Derived.Test.YtmpplimghjkjaacReach2
import Derived.StillTailTactics
namespace Go.Proofs.Ytmpplimghjkjaac
open Go.RowKit
set_option linter.unusedVariables false

set_option maxRecDepth 100000 in
set_option maxHeartbeats 1000000 in
theorem onCycle_any (A : Option Addr) (ns : List Nd) (c : Nat) (r : Int) (i : Nat) (w : World) (hr : NdsAt w w.heap.size A ns) (hv : ValidG ns r) (hi : i < ns.length) :
    Calls Try.prog 21 #[.agg #[.slice A ns.length c, .int .i64 r], .int .i64 (i : Int)] w fun e w' => e = .returned (.bool (tf (OnCyc ns i))) ∧ Below w.heap.size w w' := by
  have hB : Below w.heap.size w ((w.alloc (.cells #[.slice A ns.length c, .int .i64 r] 25)).alloc (.cells #[] 3)) := ((Below.refl _ _).alloc (Nat.le_refl _) _).alloc (by simp) _
  have l1 := (Lies.new w #[.slice A ns.length c, .int .i64 r] 25).alloc (.cells #[] 3)
  have hr2 := hr.below hB
  have hbare := OwnI.bare (w.alloc (.cells #[.slice A ns.length c, .int .i64 r] 25))
  simp only [World.size_alloc] at hbare
  have hk := kidsIn_of_valid hv
  have h12 := hv.few
  have HV := hide hv
  have Hk := hide hk
  have hi1 : (0 : Int) ≤ (i : Int) := by omega
  have hi2 : (i : Int) < (ns.length : Int) := by omega
  clear hr hv hk
  go_enter Try.func21, Try.ntmps21
  go_wp2_with fail
  generalize hWd : (w.alloc (.cells #[.slice A ns.length c, .int .i64 r] 25)).alloc (.cells #[] 3) = W at hB l1 hr2 hbare ⊢
  have HWs : Hid (w.heap.size + 1 + 1 = W.heap.size) := by rw [← hWd]; simp [Hid]
  clear hWd
  go_loopw [5, 6] (fun mv iv wr => ∃ (k : Nat) (R : List Int) (A5 : Option Addr) (c5 : Nat), k ≤ (kidsOf ns i).length ∧ iv = .int .i64 k ∧ mv = .slice A5 R.length c5 ∧ R = dfsL ns anyB (ns.length + 1) ((kidsOf ns i).take k) [] ∧ Below W.heap.size W wr ∧ IntsAt wr wr.heap.size A5 R ∧ (A5 = none → c5 = 0)) (fun _ iv _ => (kidsOf ns i).length - (intOf iv).toNat)
  case atStart => exact ⟨0, [], _, 0, Nat.zero_le _, rfl, rfl, by rw [List.take_zero, dfsL_nil], Below.refl _ _, hbare.ints (by simp) (by simp), fun e => by cases e⟩
  case round =>
    clear hbare
    obtain ⟨k, R, A5, c5, hkl, rfl, rfl, hR, hb, hI5, hnil5⟩ := hrel
    have HR := hide hR
    have Hnil := hide hnil5
    clear hR hnil5
    obtain ⟨b, off, n, rfl, hbl, hat, hmem, hN⟩ := (hr2.below (hb.mono (by have := HWs.out; omega))).at_ hi
    obtain ⟨hn_k, hn_v, ⟨A1, c1, hn_s, hI1, _⟩, _, _⟩ := hN
    have hkids : Hid (kidsOf ns (i : Int) = n.kids) := kidsOf_at hat
    have hk6 := (HV.out.nodes n hmem).few
    rw [hkids.out] at hkl
    have lr := l1.below hb (by have := HWs.out; omega)
    have e0 := lr.cell 0
    have e1 := lr.cell 1
    simp at e0 e1
    clear hat hmem lr
    have hwk := walkedAll ns anyB Hk.out (n.kids.take k) [] (ns.length + 1) (Met.nil ns) (fun z hz => Hk.out.of (i : Int) z (by rw [hkids.out]; exact List.mem_of_mem_take hz)) (by simp)
    have HRM : Hid (Met ns R) := by
      show Met ns R
      rw [HR.out, hkids.out]
      exact hwk.met
    have hR12 := HRM.out.len
    clear hwk
    by_cases hlt : k < n.kids.length
    · obtain ⟨bk, ok, x, rfl, hbk, hx, hxm, hcx⟩ := hI1.at_ hlt
      obtain ⟨hx0, hx1⟩ := Hk.out.of (i : Int) x (by rw [hkids.out]; exact hxm)
      obtain ⟨y, rfl⟩ := Int.eq_ofNat_of_zero_le hx0
      have Hx := hide hx
      have hk1 : (0 : Int) ≤ (k : Int) := by omega
      have hk2 : (k : Int) < (n.kids.length : Int) := by omega
      have hbd : Below W.heap.size W wr.drew := hb.drew
      have hrd : NdsAt wr.drew wr.drew.heap.size (some ⟨b, off, none⟩) ns := (hr2.below (hb.mono (by have := HWs.out; omega))).later (Below.refl _ _).drew (by have := HWs.out; have := hb.size; omega)
      have hIRd : IntsAt wr.drew wr.drew.heap.size A5 R := hI5.later (Below.refl _ _).drew (Nat.le_refl _)
      clear hx hxm hI5
      go_wp2_with fail
      go_still_tail 11, (by kernel_rfl)
      change wpList _ _ _ _ _ wr.drew
      generalize wr.drew = w3 at hbd hrd hIRd ⊢
      clear hb hcx hn_s hn_k hn_v e0 e1 hI1
      go_wp2_with fail
      refine (reach_any ns Hk.out (fun n hn => (HV.out.nodes n hn).few) h12 (some ⟨b, off, none⟩) c r (ns.length + 1) y R A5 c5 w3 (by omega) HRM.out hrd hIRd Hnil.out (by omega)).mono ?_
      rintro e w4 ⟨A6, c6, rfl, hb4, hI6, hnil6, _⟩
      have HB4 := hide (hbd.trans (hb4.mono hbd.size))
      have HI6 := hide hI6
      have Hn6 := hide hnil6
      clear hb4 hI6 hnil6 hIRd hrd hbd
      go_wp2
      go_roundw
      case rel => exact ⟨k + 1, dfs ns anyB (ns.length + 1) y R, A6, c6, by rw [hkids.out]; omega, by go_num, rfl, by rw [hkids.out, List.take_add_one, Hx.out, Option.toList_some, dfsL_snoc, HR.out, hkids.out], HB4.out, HI6.out, Hn6.out⟩
      case measure => rw [hkids.out]; simp [intOf]; omega
    · obtain rfl : k = n.kids.length := by omega
      have hRe : Hid (tf (OnCyc ns i) = tf ((i : Int) ∈ R)) := by
        show _ = _
        unfold OnCyc
        have h := HR.out
        rw [hkids.out, List.take_length] at h
        rw [hkids.out, ← h]
      have hBw := hB.trans (hb.mono (by have := HWs.out; omega))
      clear hlt hb hI1
      go_wp2_with fail
      refine (placeIn_any A5 R c5 i wr hI5).mono ?_
      rintro e w' ⟨rfl, rfl⟩
      by_cases hmem : (i : Int) ∈ R
      · have hp := place_lt hmem
        have hd : decide (0 ≤ place R i) = true := by simp; omega
        generalize place R i = pl at hp hd ⊢
        have ht := hide (hRe.out.trans (tf_true hmem))
        clear hmem
        go_wp2
        go_ret
        exact ⟨ret_bool ht.out.symm, hBw⟩
      · rw [place_neg hmem]
        have ht := hide (hRe.out.trans (tf_false hmem))
        clear hmem
        go_wp2
        go_ret
        exact ⟨ret_bool ht.out.symm, hBw⟩

end Go.Proofs.Ytmpplimghjkjaac
