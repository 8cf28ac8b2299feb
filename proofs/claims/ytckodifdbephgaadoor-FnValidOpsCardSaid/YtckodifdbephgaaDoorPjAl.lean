/-
  Lemmas, several texts in one: DrawVO, LawVO.
-/
import Derived.Test.YtckodifdbephgaaDoorPjAk
import Derived.Test.YtckodifdbephgaaDoorSoO
import Derived.Test.YtckodifdbephgaaDoorPjAf
import Derived.Test.YtckodifdbephgaaDoorPjAc
namespace Go.Proofs.YtckodifdbephgaaDoor
open Go.RowKit
set_option linter.unusedVariables false

/-- some program that can be read comes back, and old memory is as it was -/
def DrawnO (w : World) (e : Ending) (w' : World) : Prop :=
  ∃ (os : List Od) (B : Option Addr) (cb : Nat), e = .returned (.slice B os.length cb) ∧ OpsAt w' w'.heap.size B os ∧ (B = none → cb = 0) ∧ os.length ≤ cb ∧ os.length ≤ 2000 ∧ Below w.heap.size w w'

theorem SoS.drawn {w w0 w' : World} {A B : Option Addr} {rb n c P cb : Nat} {os : List Od} (h : SoS w0 w' rb A n c P B cb os) (hb : Below w.heap.size w w0) (hr : w.heap.size ≤ rb) : DrawnO w (.returned (.slice B os.length cb)) w' := by
  have hl := h.few
  refine ⟨os, B, cb, rfl, h.own.ops h.wf (by omega), fun e => ?_, h.own.capLen, h.few, h.grew.below hb hr hb.size⟩
  rcases h.own.form with ⟨_, h2, _⟩ | ⟨g, h2, _⟩
  · exact h2
  · rw [h2] at e; cases e

set_option maxHeartbeats 1000000 in
theorem drawOps_any (A : Option Addr) (n c : Nat) (w : World) (h : BytesAt w w.heap.size A n) (hc : n ≤ c) (hn : n ≤ 9223372036854775807) :
    Calls Tryd.prog 4 #[.slice A n c] w (DrawnO w) := by
  go_enter Tryd.func4, Tryd.ntmps4
  go_wp2_with fail
  refine (newReader_any A n c w h hc hn).mono ?_
  rintro e w1 ⟨rfl, ⟨n', c', hrd⟩, hb1⟩
  clear h
  go_wp2_with fail
  refine (someOps_any w.heap.size A n' c' 0 w1 hrd (by omega)).mono ?_
  rintro e w2 ⟨os, B, cb, rfl, hS⟩
  have HF := hide (hS.drawn hb1 (Nat.le_refl _))
  clear hS hrd hb1
  go_wp2
  go_ret
  exact HF.out

end Go.Proofs.YtckodifdbephgaaDoor

namespace Go.Proofs.YtckodifdbephgaaDoor
open Go.RowKit
set_option linter.unusedVariables false

theorem OpsOk.part {os ps : List Od} (h : OpsOk os) (hs : ps.Sublist os) : OpsOk ps := ⟨Nat.le_trans hs.length_le h.1, fun o ho => h.2 o (hs.subset ho)⟩

set_option maxRecDepth 100000 in
set_option maxHeartbeats 4000000 in
theorem lawVO_any (A : Option Addr) (n c : Nat) (w : World) (h : BytesAt w w.heap.size A n) (hc : n ≤ c) (hn : n ≤ 9223372036854775807) (hF : FormsAt w w.heap.size) :
    Calls Tryd.prog 3 #[.slice A n c] w fun e w' => e = .returned (.bool true) ∧ Below w.heap.size w w' := by
  by_cases hbig : 1048576 < n
  · have d : decide ((1048576 : Int) < (n : Int)) = true := by simp; omega
    go_enter Tryd.func3, Tryd.ntmps3
    go_wp2
    go_ret
    exact ⟨rfl, Below.refl _ _⟩
  · have d : decide ((1048576 : Int) < (n : Int)) = false := by simp; omega
    go_enter Tryd.func3, Tryd.ntmps3
    go_wp2_with fail
    refine (drawOps_any A n c w h hc hn).mono ?_
    rintro e w1 ⟨os, B, cb, rfl, ho1, hnil, hcap, hfew, hb1⟩
    have hF1 := hF.later hb1 (Nat.le_refl _)
    have HW1 := hide hb1
    clear h hF
    go_wp2_with fail
    refine (implValidOps_any B os cb w1 ho1 hF1).mono ?_
    rintro e w2 ⟨rfl, hb2⟩
    have HW2 := hide (HW1.out.trans (hb2.mono HW1.out.size))
    have HP2 := hide (ho1.later hb2 (Nat.le_refl _))
    have HF2 := hide (hF1.later hb2 (Nat.le_refl _))
    clear ho1 hF1 hb1 hb2
    have hS2 := hide (specValidOpsX_any B os cb w2 HP2.out)
    by_cases hok : OpsOk os
    · rw [tf_true hok] at hS2 ⊢
      go_wp2_with fail
      refine hS2.out.mono ?_
      rintro e w3 ⟨rfl, hb3⟩
      have HW3 := hide (HW2.out.trans (hb3.mono HW2.out.size))
      have HP3 := hide (HP2.out.later hb3 (Nat.le_refl _))
      have HF3 := hide (HF2.out.later hb3 (Nat.le_refl _))
      clear hb3 HP2 HF2 hS2
      obtain ⟨k, hk⟩ : ∃ k, k = os.length / 2 := ⟨_, rfl⟩
      have Hk := hide hk
      have hlk : (os.take k).length = k := by simp; omega
      have hld : (os.drop k).length = os.length - k := by simp
      have hkl : k ≤ os.length := by omega
      have hdiv : ((os.length : Int) / 2) = (k : Int) := by omega
      clear hk
      by_cases hz : os = []
      · subst hz
        have hk0 : k = 0 := by have := Hk.out; simp at this; exact this
        subst hk0
        cases B with
        | none =>
          obtain rfl := hnil rfl
          have hI5 := implValidOps_any none ([] : List Od) 0 w3 HP3.out HF3.out
          have HK5 := hide (tf_true hok)
          have HK6 := hide (tf_true hok)
          clear hok
          go_wp2_with fail
          refine hI5.mono ?_
          rintro e w5 ⟨rfl, hb5⟩
          rw [HK5.out]
          have HW5 := hide (HW3.out.trans (hb5.mono HW3.out.size))
          have HP5 := hide (HP3.out.later hb5 (Nat.le_refl _))
          have HF5 := hide (HF3.out.later hb5 (Nat.le_refl _))
          clear hb5 HP3 HF3 HW3 hI5
          have hI6 := implValidOps_any none ([] : List Od) 0 w5 HP5.out HF5.out
          go_wp2_with fail
          refine hI6.mono ?_
          rintro e w6 ⟨rfl, hb6⟩
          rw [HK6.out]
          have HW6 := hide (HW5.out.trans (hb6.mono HW5.out.size))
          clear hb6 HP5 HF5 HW5 hI6
          go_wp2
          go_ret
          exact ⟨rfl, HW6.out⟩
        | some ad =>
          have hI5 := implValidOps_any (some ad) ([] : List Od) cb w3 HP3.out HF3.out
          have HK5 := hide (tf_true hok)
          have HK6 := hide (tf_true hok)
          clear hok
          go_wp2_with fail
          refine hI5.mono ?_
          rintro e w5 ⟨rfl, hb5⟩
          rw [HK5.out]
          have HW5 := hide (HW3.out.trans (hb5.mono HW3.out.size))
          have HP5 := hide (HP3.out.later hb5 (Nat.le_refl _))
          have HF5 := hide (HF3.out.later hb5 (Nat.le_refl _))
          clear hb5 HP3 HF3 HW3 hI5
          have hI6 := implValidOps_any (some ad) ([] : List Od) cb w5 HP5.out HF5.out
          go_wp2_with fail
          refine hI6.mono ?_
          rintro e w6 ⟨rfl, hb6⟩
          rw [HK6.out]
          have HW6 := hide (HW5.out.trans (hb6.mono HW5.out.size))
          clear hb6 HP5 HF5 HW5 hI6
          go_wp2
          go_ret
          exact ⟨rfl, HW6.out⟩
      · have hpos : 0 < os.length := by cases os with | nil => exact absurd rfl hz | cons => simp
        obtain ⟨b, off, o, rfl, hbl, _, _, _, _⟩ := HP3.out.at_ hpos
        have hI5 := implValidOps_any (some ⟨b, off, none⟩) (os.take k) cb w3 (HP3.out.begin k) HF3.out
        rw [hlk] at hI5
        have hck : ¬ cb = k := by omega
        have HK5 := hide (tf_true (OpsOk.part hok (List.take_sublist k os)))
        have HK6 := hide (tf_true (OpsOk.part hok (List.drop_sublist k os)))
        clear hok
        go_wp2_with fail
        refine hI5.mono ?_
        rintro e w5 ⟨rfl, hb5⟩
        rw [HK5.out]
        have HW5 := hide (HW3.out.trans (hb5.mono HW3.out.size))
        have HP5 := hide (HP3.out.later hb5 (Nat.le_refl _))
        have HF5 := hide (HF3.out.later hb5 (Nat.le_refl _))
        clear hb5 HP3 HF3 HW3 hI5
        have hI6 := implValidOps_any (some ⟨b, off + k * 2, none⟩) (os.drop k) (cb - k) w5 (HP5.out.behind k) HF5.out
        rw [hld] at hI6
        go_wp2_with fail
        refine hI6.mono ?_
        rintro e w6 ⟨rfl, hb6⟩
        rw [HK6.out]
        have HW6 := hide (HW5.out.trans (hb6.mono HW5.out.size))
        clear hb6 HP5 HF5 HW5 hI6
        go_wp2
        go_ret
        exact ⟨rfl, HW6.out⟩
    · have HT := hide (tf_false hok)
      rw [HT.out] at hS2 ⊢
      clear hok
      go_wp2_with fail
      refine hS2.out.mono ?_
      rintro e w3 ⟨rfl, hb3⟩
      have HW3 := hide (HW2.out.trans (hb3.mono HW2.out.size))
      have hS3 := specValidOpsX_any B os cb w3 (HP2.out.later hb3 (Nat.le_refl _))
      rw [HT.out] at hS3
      have HS3 := hide hS3
      clear hb3 hS2 HP2 HF2 hS3
      go_wp2_with fail
      refine HS3.out.mono ?_
      rintro e w4 ⟨rfl, hb4⟩
      have HW4 := hide (HW3.out.trans (hb4.mono HW3.out.size))
      clear HS3 hb4
      go_wp2
      go_ret
      exact ⟨rfl, HW4.out⟩

end Go.Proofs.YtckodifdbephgaaDoor
