/-
  Lemmas, several texts in one: DrawPL, LawPL.
-/
import Derived.Test.YthckkpbjpgfdcaaDoorPjAa
import Derived.Test.YthckkpbjpgfdcaaDoorSoO
import Derived.Test.YthckkpbjpgfdcaaDoorPjAj
import Derived.Test.YthckkpbjpgfdcaaDoorPjAk
import Derived.Test.YthckkpbjpgfdcaaDoorPjAg
namespace Go.Proofs.YthckkpbjpgfdcaaDoor
open Go.RowKit
set_option linter.unusedVariables false
def DrawnO (w : World) (e : Ending) (w' : World) : Prop :=
  ∃ (os : List Od) (B : Option Addr) (cb : Nat), e = .returned (.slice B os.length cb) ∧ OpsAt w' w'.heap.size B os ∧ (B = none → cb = 0) ∧ os.length ≤ cb ∧ os.length ≤ 2000 ∧ Below w.heap.size w w'
theorem SoS.drawn {w w0 w' : World} {A B : Option Addr} {rb n c P cb : Nat} {os : List Od} (h : SoS w0 w' rb A n c P B cb os) (hb : Below w.heap.size w w0) (hr : w.heap.size ≤ rb) : DrawnO w (.returned (.slice B os.length cb)) w' := by
  have hl := h.few
  refine ⟨os, B, cb, rfl, h.own.ops h.wf (by omega), fun e => ?_, h.own.capLen, h.few, h.grew.below hb hr hb.size⟩
  rcases h.own.form with ⟨_, h2, _⟩ | ⟨g, h2, _⟩
  · exact h2
  · rw [h2] at e; cases e
set_option maxHeartbeats 1000000 in
theorem drawOps_any (A : Option Addr) (n c : Nat) (w : World) (h : BytesAt w w.heap.size A n) (hc : n ≤ c) (hn : n ≤ 9223372036854775807) :
    Calls Tryd.prog 4 #[.slice A n c] w (DrawnO w) := by
  go_enter Tryd.func4, Tryd.ntmps4
  go_wp2_with fail
  refine (newReader_any A n c w h hc hn).mono ?_
  rintro e w1 ⟨rfl, ⟨n', c', hrd⟩, hb1⟩
  clear h
  go_wp2_with fail
  refine (someOps_any w.heap.size A n' c' 0 w1 hrd (by omega)).mono ?_
  rintro e w2 ⟨os, B, cb, rfl, hS⟩
  have HF := hide (hS.drawn hb1 (Nat.le_refl _))
  clear hS hrd hb1
  go_wp2
  go_ret
  exact HF.out
end Go.Proofs.YthckkpbjpgfdcaaDoor

namespace Go.Proofs.YthckkpbjpgfdcaaDoor
open Go.RowKit
set_option linter.unusedVariables false
set_option maxRecDepth 100000 in
set_option maxHeartbeats 4000000 in
theorem lawPL_any (A : Option Addr) (n c : Nat) (w : World) (h : BytesAt w w.heap.size A n) (hc : n ≤ c) (hn : n ≤ 9223372036854775807) (hF : FormsAt w w.heap.size) :
    Calls Tryd.prog 3 #[.slice A n c] w fun e w' => e = .returned (.bool true) ∧ Below w.heap.size w w' := by
  by_cases hbig : 1048576 < n
  · have d : decide ((1048576 : Int) < (n : Int)) = true := by simp; omega
    go_enter Tryd.func3, Tryd.ntmps3
    go_wp2
    go_ret
    exact ⟨rfl, Below.refl _ _⟩
  · have d : decide ((1048576 : Int) < (n : Int)) = false := by simp; omega
    go_enter Tryd.func3, Tryd.ntmps3
    go_wp2_with fail
    refine (drawOps_any A n c w h hc hn).mono ?_
    rintro e w1 ⟨os, B, cb, rfl, ho1, hnil, hcap, hfew, hb1⟩
    have hF1 := hF.later hb1 (Nat.le_refl _)
    have HW1 := hide hb1
    clear h hF
    obtain ⟨s, hs⟩ : ∃ s, placesOf os = s := ⟨_, rfl⟩
    have HS := hide hs
    clear hs
    go_wp2_with fail
    refine (implPlacesOf_any B os cb w1 ho1 hF1).mono ?_
    rintro e w2 ⟨rfl, hb2⟩
    rw [HS.out]
    have HW2 := hide (HW1.out.trans (hb2.mono HW1.out.size))
    have HP2 := hide (ho1.later hb2 (Nat.le_refl _))
    have HF2 := hide (hF1.later hb2 (Nat.le_refl _))
    have hwf := hide ho1.wf
    clear ho1 hF1 hb1 hb2
    go_wp2_with fail
    refine (specPlacesOf_any B os cb w2 HP2.out).mono ?_
    rintro e w3 ⟨rfl, hb3⟩
    rw [HS.out]
    have HW3 := hide (HW2.out.trans (hb3.mono HW2.out.size))
    have HP3 := hide (HP2.out.later hb3 (Nat.le_refl _))
    have HF3 := hide (HF2.out.later hb3 (Nat.le_refl _))
    have hne : (s != s) = false := by simp
    clear hb3 HP2 HF2
    by_cases hok : OpsOk os
    · obtain ⟨l0, l1, l2, l3, l4⟩ := places_law hok
      rw [HS.out] at l0 l1 l2 l3
      have hnum := numOf_le os 15
      have d0 : decide (s < 0) = false := by simp; omega
      have HL := implLeanOps_any B os cb w3 HP3.out HF3.out
      obtain ⟨L, hL⟩ : ∃ L, leanOf os = L := ⟨_, rfl⟩
      have h64 := leanOf_64 (os := os) hwf.out
      have hlf := @leanOf_few os
      rw [hL] at l1 l4 HL h64 hlf
      obtain ⟨s2, hs2⟩ : ∃ s, placesOf L = s := ⟨_, rfl⟩
      have HS2 := hide hs2
      rw [hs2] at l1 l4
      have d1 : decide (s2 ≤ s) = true := by simpa using l1
      have d2 : decide (s ≤ (numOf os 15 : Int)) = true := by simpa using l2
      have d3 : decide (s ≤ 20) = true := by simpa using l3
      have H64 := hide h64
      have HLL := hide HL
      clear hok hs2 hL h64 HL
      go_wp2_with fail
      refine HLL.out.mono ?_
      clear HLL
      rintro e w4 ⟨A4, c4, rfl, ho4, hb4⟩
      have HW4 := hide (HW3.out.trans (hb4.mono HW3.out.size))
      have HP4 := hide (HP3.out.later hb4 (Nat.le_refl _))
      have HF4 := hide (HF3.out.later hb4 (Nat.le_refl _))
      have HO4 := hide (ho4.ops H64.out (by omega))
      clear ho4 hb4 HP3 HF3
      go_wp2_with fail
      refine (implPlacesOf_any A4 L c4 w4 HO4.out HF4.out).mono ?_
      rintro e w5 ⟨rfl, hb5⟩
      rw [HS2.out]
      have HW5 := hide (HW4.out.trans (hb5.mono HW4.out.size))
      have HP5 := hide (HP4.out.later hb5 (Nat.le_refl _))
      have HCt := hide (countOf_q B os cb 15 (numOf os 15) w5 HP5.out (by omega) rfl)
      clear hb5 HP4
      generalize numOf os 15 = m at *
      go_wp2_with fail
      refine HCt.out.mono ?_
      rintro e w' ⟨rfl, rfl⟩
      clear HCt
      go_wp2
      go_ret
      exact ⟨rfl, HW5.out⟩
    · have hs1 : s = -1 := by rw [← HS.out, placesOf_no hok]
      subst hs1
      clear hok
      go_wp2_with fail
      refine (specPlacesOf_any B os cb w3 HP3.out).mono ?_
      rintro e w5 ⟨rfl, hb5⟩
      rw [HS.out]
      have HW5 := hide (HW3.out.trans (hb5.mono HW3.out.size))
      clear hb5
      go_wp2
      go_ret
      exact ⟨rfl, HW5.out⟩
end Go.Proofs.YthckkpbjpgfdcaaDoor
