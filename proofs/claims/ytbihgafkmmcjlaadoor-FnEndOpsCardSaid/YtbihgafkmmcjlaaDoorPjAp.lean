/-
  Lemmas, several texts in one: DrawEO, LawEO.
-/
import Derived.Test.YtbihgafkmmcjlaaDoorPjAk
import Derived.Test.YtbihgafkmmcjlaaDoorSoO
import Derived.Test.YtbihgafkmmcjlaaDoorPjAo
import Derived.Test.YtbihgafkmmcjlaaDoorEndS
import Derived.Test.YtbihgafkmmcjlaaDoorPjAm
import Derived.Test.YtbihgafkmmcjlaaDoorPjAh
import Derived.Test.YtbihgafkmmcjlaaDoorPjAj
namespace Go.Proofs.YtbihgafkmmcjlaaDoor
open Go.RowKit
set_option linter.unusedVariables false
def DrawnO (w : World) (e : Ending) (w' : World) : Prop :=
  ∃ (os : List Od) (B : Option Addr) (cb : Nat), e = .returned (.slice B os.length cb) ∧ OpsAt w' w'.heap.size B os ∧ (B = none → cb = 0) ∧ os.length ≤ cb ∧ os.length ≤ 2000 ∧ Below w.heap.size w w'
theorem SoS.drawn {w w0 w' : World} {A B : Option Addr} {rb n c P cb : Nat} {os : List Od} (h : SoS w0 w' rb A n c P B cb os) (hb : Below w.heap.size w w0) (hr : w.heap.size ≤ rb) : DrawnO w (.returned (.slice B os.length cb)) w' := by
  have hl := h.few
  refine ⟨os, B, cb, rfl, h.own.ops h.wf (by omega), fun e => ?_, h.own.capLen, h.few, h.grew.below hb hr hb.size⟩
  rcases h.own.form with ⟨_, h2, _⟩ | ⟨g, h2, _⟩
  · exact h2
  · rw [h2] at e; cases e
set_option maxHeartbeats 1000000 in
theorem drawOps_any (A : Option Addr) (n c : Nat) (w : World) (h : BytesAt w w.heap.size A n) (hc : n ≤ c) (hn : n ≤ 9223372036854775807) :
    Calls Tryd.prog 4 #[.slice A n c] w (DrawnO w) := by
  go_enter Tryd.func4, Tryd.ntmps4
  go_wp2_with fail
  refine (newReader_any A n c w h hc hn).mono ?_
  rintro e w1 ⟨rfl, ⟨n', c', hrd⟩, hb1⟩
  clear h
  go_wp2_with fail
  refine (someOps_any w.heap.size A n' c' 0 w1 hrd (by omega)).mono ?_
  rintro e w2 ⟨os, B, cb, rfl, hS⟩
  have HF := hide (hS.drawn hb1 (Nat.le_refl _))
  clear hS hrd hb1
  go_wp2
  go_ret
  exact HF.out
end Go.Proofs.YtbihgafkmmcjlaaDoor

namespace Go.Proofs.YtbihgafkmmcjlaaDoor
open Go.RowKit
set_option linter.unusedVariables false
set_option maxRecDepth 100000 in
set_option maxHeartbeats 8000000 in
theorem lawEO_any (A : Option Addr) (n c : Nat) (w : World) (h : BytesAt w w.heap.size A n) (hc : n ≤ c) (hn : n ≤ 9223372036854775807) (hF : FormsAt w w.heap.size) (hN : NeedsAt w w.heap.size) :
    Calls Tryd.prog 3 #[.slice A n c] w fun e w' => e = .returned (.bool true) ∧ Below w.heap.size w w' := by
  by_cases hbig : 1048576 < n
  · have d : decide ((1048576 : Int) < (n : Int)) = true := by simp; omega
    go_enter Tryd.func3, Tryd.ntmps3
    go_wp2
    go_ret
    exact ⟨rfl, Below.refl _ _⟩
  · have d : decide ((1048576 : Int) < (n : Int)) = false := by simp; omega
    go_enter Tryd.func3, Tryd.ntmps3
    go_wp2_with fail
    refine (drawOps_any A n c w h hc hn).mono ?_
    rintro e w1 ⟨os, B, cb, rfl, ho1, hnil, hcap, hfew, hb1⟩
    have hF1 := hF.later hb1 (Nat.le_refl _)
    have hN1 := hN.later hb1 (Nat.le_refl _)
    have HW1 := hide hb1
    have Hnil := hide hnil
    clear h hF hN
    have HI := implEndOps_any B os cb w1 ho1 hF1 hN1
    unfold GivesEndI at HI
    have HS := hide fun W (hW : OpsAt W W.heap.size B os) => specEndOps_any B os cb W hW hnil hcap
    unfold GivesEnd at HS
    have HE : Hid (∀ out, endOf os = some out → OpsOk os ∧ Whole (cutOf os ++ out) ∧ (out.length = 0 ↔ Whole (cutOf os))) := hide fun out h => end_whole (os := os) (out := out) h
    have hok := endOf_okE os
    have hRf := hok.1
    have H64 := hide (ok_64 hok)
    have hsm : ∀ v, endOf os = some v → (endOf os).getD [] = v := fun v hv => by rw [hv]; rfl
    have hso : (endOf os).isSome = true → endOf os = some ((endOf os).getD []) := fun hv => by
      cases he : endOf os with
      | none => rw [he] at hv; cases hv
      | some l => rfl
    have HSo := hide hso
    clear hok hso hsm hnil
    generalize hR : (endOf os).getD [] = R at HI HS H64 HSo hRf
    generalize hb : (endOf os).isSome = bv at HI HS HSo
    clear hR hb
    go_wp2_with fail
    refine HI.mono ?_
    clear HI
    rintro e w2 ⟨A2, c2, rfl, ho2, hb2⟩
    have HW2 := hide (HW1.out.trans (hb2.mono HW1.out.size))
    have HP2 := hide (ho1.later hb2 (Nat.le_refl _))
    have HF2 := hide (hF1.later hb2 (Nat.le_refl _))
    have HN2 := hide (hN1.later hb2 (Nat.le_refl _))
    have HO2 := hide (ho2.ops H64.out (by omega))
    have HL2 := hide ho2.nilX
    clear ho1 hF1 hN1 hb1 hb2 HW1 ho2
    go_wp2_with fail
    refine (HS.out w2 HP2.out).mono ?_
    rintro e w3 ⟨A3, c3, rfl, ho3, hb3⟩
    have HW3 := hide (HW2.out.trans (hb3.mono HW2.out.size))
    have HP3 := hide (HP2.out.later hb3 (Nat.le_refl _))
    have HF3 := hide (HF2.out.later hb3 (Nat.le_refl _))
    have HN3 := hide (HN2.out.later hb3 (Nat.le_refl _))
    have HI3 := hide (HO2.out.later hb3 (Nat.le_refl _))
    have HO3 := hide (ho3.ops H64.out (by omega))
    clear hb3 ho3 HW2 HP2 HF2 HN2 HO2
    go_wp2_with fail
    refine (equalOps_same A2 A3 R c2 c3 w3 HI3.out HO3.out).mono ?_
    rintro e w4 ⟨rfl, hb4⟩
    have HW4 := hide (HW3.out.trans (hb4.mono HW3.out.size))
    have HP4 := hide (HP3.out.later hb4 (Nat.le_refl _))
    have HF4 := hide (HF3.out.later hb4 (Nat.le_refl _))
    have HN4 := hide (HN3.out.later hb4 (Nat.le_refl _))
    have HI4 := hide (HI3.out.later hb4 (Nat.le_refl _))
    have HO4 := hide (HO3.out.later hb4 (Nat.le_refl _))
    clear hb4 HW3 HP3 HF3 HN3 HI3 HO3
    cases bv with
    | false =>
      clear HS HE HSo
      go_wp2_with fail
      refine (equalOps_same A2 A3 R c2 c3 w4 HI4.out HO4.out).mono ?_
      rintro e w6 ⟨rfl, hb6⟩
      have HW6 := hide (HW4.out.trans (hb6.mono HW4.out.size))
      clear hb6
      go_wp2
      go_ret
      exact ⟨rfl, HW6.out⟩
    | true =>
      obtain ⟨hok, hwh, hz⟩ := HE.out R (HSo.out rfl)
      have HWh := hide hwh
      have HZ := hide hz
      have hCf : (cutOf os).length ≤ 300 := cutOf_few
      have H64c := hide (fun o ho => od_64 (cutOf_mem (os := os) o ho))
      have HC := implCutOps_any B os cb w4 HP4.out Hnil.out hcap HF4.out HN4.out
      clear hok hwh hz HS HE HSo HO4
      generalize cutOf os = C at HC HWh HZ hCf H64c
      go_wp2_with fail
      refine HC.mono ?_
      clear HC
      rintro e w5 ⟨A5, c5, rfl, ho5, hb5⟩
      have HW5 := hide (HW4.out.trans (hb5.mono HW4.out.size))
      have HF5 := hide (HF4.out.later hb5 (Nat.le_refl _))
      have HN5 := hide (HN4.out.later hb5 (Nat.le_refl _))
      have HI5 := hide (HI4.out.later hb5 (Nat.le_refl _))
      have HC5 := hide (ho5.ops H64c.out (by omega))
      have HL5 := hide ho5.nilX
      clear ho5 hb5 HW4 HP4 HF4 HN4 HI4
      have HJo := joinOps_any A5 A2 C R c5 c2 w5 HC5.out HL5.out HI5.out HL2.out (by omega) (by omega)
      have hjl : (C ++ R).length ≤ 600 := by rw [List.length_append]; omega
      have H64j := hide fun o (ho : o ∈ C ++ R) => (List.mem_append.1 ho).elim (H64c.out o) (H64.out o)
      generalize C ++ R = J at HJo hjl H64j HWh
      go_wp2_with fail
      refine HJo.mono ?_
      clear HJo
      rintro e w6 ⟨A6, c6, rfl, ho6, hb6⟩
      have HW6 := hide (HW5.out.trans (hb6.mono HW5.out.size))
      have HF6 := hide (HF5.out.later hb6 (Nat.le_refl _))
      have HN6 := hide (HN5.out.later hb6 (Nat.le_refl _))
      have HC6 := hide (HC5.out.later hb6 (Nat.le_refl _))
      have HJ6 := hide (ho6.ops H64j.out (by omega))
      clear ho6 hb6 HW5 HF5 HN5 HI5 HC5
      have HT := hide (tf_true HWh.out)
      have HWn := hide fun W (h1 : OpsAt W W.heap.size A5 C) h2 h3 => implIsWhole_any A5 C c5 W h1 h2 h3
      have HC := implIsWhole_any A6 J c6 w6 HJ6.out HF6.out HN6.out
      rw [HT.out] at HC
      clear HT HWh
      by_cases hz : R.length = 0
      · have d2 : ((R.length : Int) == 0) = true := by simp [hz]
        have HWv : Hid (tf (Whole C) = true) := hide (tf_true (HZ.out.1 hz))
        go_wp2_with fail
        refine HC.mono ?_
        clear HC
        rintro e w7 ⟨rfl, hb7⟩
        have HW7 := hide (HW6.out.trans (hb7.mono HW6.out.size))
        have HF7 := hide (HF6.out.later hb7 (Nat.le_refl _))
        have HN7 := hide (HN6.out.later hb7 (Nat.le_refl _))
        have HC7 := hide (HC6.out.later hb7 (Nat.le_refl _))
        clear hb7 HW6 HF6 HN6 HC6 HJ6
        have HC := HWn.out w7 HC7.out HF7.out HN7.out
        rw [HWv.out] at HC
        clear HWn HWv
        go_wp2_with fail
        refine HC.mono ?_
        clear HC
        rintro e w8 ⟨rfl, hb8⟩
        have HW8 := hide (HW7.out.trans (hb8.mono HW7.out.size))
        clear hb8
        go_wp2
        go_ret
        exact ⟨rfl, HW8.out⟩
      · have d2 : ((R.length : Int) == 0) = false := by rw [beq_eq_false_iff_ne]; omega
        have HWv : Hid (tf (Whole C) = false) := hide (tf_false (fun hw => hz (HZ.out.2 hw)))
        go_wp2_with fail
        refine HC.mono ?_
        clear HC
        rintro e w7 ⟨rfl, hb7⟩
        have HW7 := hide (HW6.out.trans (hb7.mono HW6.out.size))
        have HF7 := hide (HF6.out.later hb7 (Nat.le_refl _))
        have HN7 := hide (HN6.out.later hb7 (Nat.le_refl _))
        have HC7 := hide (HC6.out.later hb7 (Nat.le_refl _))
        clear hb7 HW6 HF6 HN6 HC6 HJ6
        have HC := HWn.out w7 HC7.out HF7.out HN7.out
        rw [HWv.out] at HC
        clear HWn HWv
        go_wp2_with fail
        refine HC.mono ?_
        clear HC
        rintro e w8 ⟨rfl, hb8⟩
        have HW8 := hide (HW7.out.trans (hb8.mono HW7.out.size))
        clear hb8
        go_wp2
        go_ret
        exact ⟨rfl, HW8.out⟩
end Go.Proofs.YtbihgafkmmcjlaaDoor
