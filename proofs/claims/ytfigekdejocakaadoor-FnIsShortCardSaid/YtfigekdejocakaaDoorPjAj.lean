/-
  Lemmas, several texts in one: DrawIS, LawIS.
-/
import Derived.Test.YtfigekdejocakaaDoorPjAf
import Derived.Test.YtfigekdejocakaaDoorSoO
import Derived.Test.YtfigekdejocakaaDoorPjAi
import Derived.Test.YtfigekdejocakaaDoorPjAe
namespace Go.Proofs.YtfigekdejocakaaDoor
open Go.RowKit
set_option linter.unusedVariables false

/-- some program that can be read comes back, and old memory is as it was -/
def DrawnO (w : World) (e : Ending) (w' : World) : Prop :=
  ∃ (os : List Od) (B : Option Addr) (cb : Nat), e = .returned (.slice B os.length cb) ∧ OpsAt w' w'.heap.size B os ∧ (B = none → cb = 0) ∧ os.length ≤ cb ∧ os.length ≤ 2000 ∧ Below w.heap.size w w'

theorem SoS.drawn {w w0 w' : World} {A B : Option Addr} {rb n c P cb : Nat} {os : List Od} (h : SoS w0 w' rb A n c P B cb os) (hb : Below w.heap.size w w0) (hr : w.heap.size ≤ rb) : DrawnO w (.returned (.slice B os.length cb)) w' := by
  have hl := h.few
  refine ⟨os, B, cb, rfl, h.own.ops h.wf (by omega), fun e => ?_, h.own.capLen, h.few, h.grew.below hb hr hb.size⟩
  rcases h.own.form with ⟨_, h2, _⟩ | ⟨g, h2, _⟩
  · exact h2
  · rw [h2] at e; cases e

set_option maxHeartbeats 1000000 in
theorem drawOps_any (A : Option Addr) (n c : Nat) (w : World) (h : BytesAt w w.heap.size A n) (hc : n ≤ c) (hn : n ≤ 9223372036854775807) :
    Calls Tryd.prog 4 #[.slice A n c] w (DrawnO w) := by
  go_enter Tryd.func4, Tryd.ntmps4
  go_wp2_with fail
  refine (newReader_any A n c w h hc hn).mono ?_
  rintro e w1 ⟨rfl, ⟨n', c', hrd⟩, hb1⟩
  clear h
  go_wp2_with fail
  refine (someOps_any w.heap.size A n' c' 0 w1 hrd (by omega)).mono ?_
  rintro e w2 ⟨os, B, cb, rfl, hS⟩
  have HF := hide (hS.drawn hb1 (Nat.le_refl _))
  clear hS hrd hb1
  go_wp2
  go_ret
  exact HF.out

end Go.Proofs.YtfigekdejocakaaDoor

namespace Go.Proofs.YtfigekdejocakaaDoor
open Go.RowKit
set_option linter.unusedVariables false

theorem short_num {os : List Od} (hok : OpsOk os) : ShortOk os ↔ 0 < numOf os 5 + numOf os 6 + numOf os 9 + numOf os 12 := by
  have key : ∀ c : Int, 0 < numOf os c ↔ ∃ o ∈ os, o.code = c := by
    intro c
    unfold numOf
    rw [List.countP_pos_iff]
    simp
  constructor
  · rintro ⟨_, o, ho, h⟩
    rcases h with h | h | h | h
    · have := (key 5).2 ⟨o, ho, h⟩; omega
    · have := (key 6).2 ⟨o, ho, h⟩; omega
    · have := (key 9).2 ⟨o, ho, h⟩; omega
    · have := (key 12).2 ⟨o, ho, h⟩; omega
  · intro h
    refine ⟨hok, ?_⟩
    by_cases h5 : 0 < numOf os 5
    · obtain ⟨o, ho, e⟩ := (key 5).1 h5; exact ⟨o, ho, .inl e⟩
    · by_cases h6 : 0 < numOf os 6
      · obtain ⟨o, ho, e⟩ := (key 6).1 h6; exact ⟨o, ho, .inr (.inl e)⟩
      · by_cases h9 : 0 < numOf os 9
        · obtain ⟨o, ho, e⟩ := (key 9).1 h9; exact ⟨o, ho, .inr (.inr (.inl e))⟩
        · obtain ⟨o, ho, e⟩ := (key 12).1 (by omega); exact ⟨o, ho, .inr (.inr (.inr e))⟩

set_option maxRecDepth 100000 in
set_option maxHeartbeats 4000000 in
theorem lawIS_any (A : Option Addr) (n c : Nat) (w : World) (h : BytesAt w w.heap.size A n) (hc : n ≤ c) (hn : n ≤ 9223372036854775807) (hF : FormsAt w w.heap.size) :
    Calls Tryd.prog 3 #[.slice A n c] w fun e w' => e = .returned (.bool true) ∧ Below w.heap.size w w' := by
  by_cases hbig : 1048576 < n
  · have d : decide ((1048576 : Int) < (n : Int)) = true := by simp; omega
    go_enter Tryd.func3, Tryd.ntmps3
    go_wp2
    go_ret
    exact ⟨rfl, Below.refl _ _⟩
  · have d : decide ((1048576 : Int) < (n : Int)) = false := by simp; omega
    go_enter Tryd.func3, Tryd.ntmps3
    go_wp2_with fail
    refine (drawOps_any A n c w h hc hn).mono ?_
    rintro e w1 ⟨os, B, cb, rfl, ho1, hnil, hcap, hfew, hb1⟩
    have hF1 := hF.later hb1 (Nat.le_refl _)
    have HW1 := hide hb1
    clear h hF
    obtain ⟨s, hs⟩ : ∃ s, tf (ShortOk os) = s := ⟨_, rfl⟩
    have HS := hide hs
    clear hs
    go_wp2_with fail
    refine (implIsShort_any B os cb w1 ho1 hF1).mono ?_
    rintro e w2 ⟨rfl, hb2⟩
    rw [HS.out]
    have HW2 := hide (HW1.out.trans (hb2.mono HW1.out.size))
    have HP2 := hide (ho1.later hb2 (Nat.le_refl _))
    have HF2 := hide (hF1.later hb2 (Nat.le_refl _))
    clear ho1 hF1 hb1 hb2
    go_wp2_with fail
    refine (specIsShort_any B os cb w2 HP2.out).mono ?_
    rintro e w3 ⟨rfl, hb3⟩
    rw [HS.out]
    have HW3 := hide (HW2.out.trans (hb3.mono HW2.out.size))
    have HP3 := hide (HP2.out.later hb3 (Nat.le_refl _))
    have HF3 := hide (HF2.out.later hb3 (Nat.le_refl _))
    have hne : (s != s) = false := by simp
    clear hb3 HP2 HF2
    go_wp2_with fail
    refine (implValidOps_any B os cb w3 HP3.out HF3.out).mono ?_
    rintro e w4 ⟨rfl, hb4⟩
    have HW4 := hide (HW3.out.trans (hb4.mono HW3.out.size))
    have HP4 := hide (HP3.out.later hb4 (Nat.le_refl _))
    clear hb4 HP3 HF3
    by_cases hok : OpsOk os
    · rw [tf_true hok]
      have h5 := numOf_le os 5
      have h6 := numOf_le os 6
      have h9 := numOf_le os 9
      have h12 := numOf_le os 12
      have hnum : s = decide ((0 : Int) < (((numOf os 5 : Int) + (numOf os 6 : Int)) + (numOf os 9 : Int)) + (numOf os 12 : Int)) := by
        rw [← HS.out]
        by_cases hsh : ShortOk os
        · rw [tf_true hsh]
          have := (short_num hok).1 hsh
          symm
          simp
          omega
        · rw [tf_false hsh]
          have : ¬ (0 < numOf os 5 + numOf os 6 + numOf os 9 + numOf os 12) := fun hx => hsh ((short_num hok).2 hx)
          symm
          simp
          omega
      have c5 := countOf_q B os cb 5 (numOf os 5) w4 HP4.out (by omega) rfl
      have c6 := countOf_q B os cb 6 (numOf os 6) w4 HP4.out (by omega) rfl
      have c9 := countOf_q B os cb 9 (numOf os 9) w4 HP4.out (by omega) rfl
      have c12 := countOf_q B os cb 12 (numOf os 12) w4 HP4.out (by omega) rfl
      have Hnum := hide hnum
      clear hnum hok
      generalize numOf os 5 = m5 at *
      generalize numOf os 6 = m6 at *
      generalize numOf os 9 = m9 at *
      generalize numOf os 12 = m12 at *
      have C6 := hide c6
      have C9 := hide c9
      have C12 := hide c12
      have C5 := hide c5
      clear c5 c6 c9 c12
      go_wp2_with fail
      refine C5.out.mono ?_
      rintro e w' ⟨rfl, rfl⟩
      go_wp2_with fail
      refine C6.out.mono ?_
      rintro e w' ⟨rfl, rfl⟩
      go_wp2_with fail
      refine C9.out.mono ?_
      rintro e w' ⟨rfl, rfl⟩
      go_wp2_with fail
      refine C12.out.mono ?_
      rintro e w' ⟨rfl, rfl⟩
      clear C5 C6 C9 C12
      go_wp2
      go_ret
      refine ⟨?_, HW4.out⟩
      rw [Hnum.out]
      simp
    · rw [tf_false hok]
      clear hok
      go_wp2_with fail
      refine (specIsShort_any B os cb w4 HP4.out).mono ?_
      rintro e w5 ⟨rfl, hb5⟩
      rw [HS.out]
      have HW5 := hide (HW4.out.trans (hb5.mono HW4.out.size))
      have heq : (s == s) = true := by simp
      clear hb5
      go_wp2
      go_ret
      exact ⟨by simp, HW5.out⟩

end Go.Proofs.YtfigekdejocakaaDoor
