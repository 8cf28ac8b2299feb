/-
  Lemmas, several texts in one: DrawEN, LawEN.
-/
import Derived.Test.YtlgahkeklmbefabDoorPjAj
import Derived.Test.YtlgahkeklmbefabDoorSoO
import Derived.Test.YtlgahkeklmbefabDoorPjAl
import Derived.Test.YtlgahkeklmbefabDoorPjAg
import Derived.Test.YtlgahkeklmbefabDoorPjAk
import Derived.Test.YtlgahkeklmbefabDoorOwnBb
namespace Go.Proofs.YtlgahkeklmbefabDoor
open Go.RowKit
set_option linter.unusedVariables false

/-- some program that can be read comes back, and old memory is as it was -/
def DrawnO (w : World) (e : Ending) (w' : World) : Prop :=
  ∃ (os : List Od) (B : Option Addr) (cb : Nat), e = .returned (.slice B os.length cb) ∧ OpsAt w' w'.heap.size B os ∧ (B = none → cb = 0) ∧ os.length ≤ cb ∧ os.length ≤ 2000 ∧ Below w.heap.size w w'

theorem SoS.drawn {w w0 w' : World} {A B : Option Addr} {rb n c P cb : Nat} {os : List Od} (h : SoS w0 w' rb A n c P B cb os) (hb : Below w.heap.size w w0) (hr : w.heap.size ≤ rb) : DrawnO w (.returned (.slice B os.length cb)) w' := by
  have hl := h.few
  refine ⟨os, B, cb, rfl, h.own.ops h.wf (by omega), fun e => ?_, h.own.capLen, h.few, h.grew.below hb hr hb.size⟩
  rcases h.own.form with ⟨_, h2, _⟩ | ⟨g, h2, _⟩
  · exact h2
  · rw [h2] at e; cases e

set_option maxHeartbeats 1000000 in
theorem drawOps_any (A : Option Addr) (n c : Nat) (w : World) (h : BytesAt w w.heap.size A n) (hc : n ≤ c) (hn : n ≤ 9223372036854775807) :
    Calls Tryd.prog 4 #[.slice A n c] w (DrawnO w) := by
  go_enter Tryd.func4, Tryd.ntmps4
  go_wp2_with fail
  refine (newReader_any A n c w h hc hn).mono ?_
  rintro e w1 ⟨rfl, ⟨n', c', hrd⟩, hb1⟩
  clear h
  go_wp2_with fail
  refine (someOps_any w.heap.size A n' c' 0 w1 hrd (by omega)).mono ?_
  rintro e w2 ⟨os, B, cb, rfl, hS⟩
  have HF := hide (hS.drawn hb1 (Nat.le_refl _))
  clear hS hrd hb1
  go_wp2
  go_ret
  exact HF.out

end Go.Proofs.YtlgahkeklmbefabDoor

namespace Go.Proofs.YtlgahkeklmbefabDoor
open Go.RowKit
set_option linter.unusedVariables false

theorem encs_len3 (os : List Od) (h : OpsOk os) : os.length ≤ (encs os).length ∧ (encs os).length ≤ 3 * os.length := by
  have := encs_len os
  omega

set_option maxRecDepth 100000 in
set_option maxHeartbeats 8000000 in
theorem lawEN_any (A : Option Addr) (n c : Nat) (w : World) (h : BytesAt w w.heap.size A n) (hc : n ≤ c) (hn : n ≤ 9223372036854775807) (hF : FormsAt w w.heap.size) :
    Calls Tryd.prog 3 #[.slice A n c] w fun e w' => e = .returned (.bool true) ∧ Below w.heap.size w w' := by
  by_cases hbig : 1048576 < n
  · have d : decide ((1048576 : Int) < (n : Int)) = true := by simp; omega
    go_enter Tryd.func3, Tryd.ntmps3
    go_wp2
    go_ret
    exact ⟨rfl, Below.refl _ _⟩
  · have d : decide ((1048576 : Int) < (n : Int)) = false := by simp; omega
    go_enter Tryd.func3, Tryd.ntmps3
    go_wp2_with fail
    refine (drawOps_any A n c w h hc hn).mono ?_
    rintro e w1 ⟨os, B, cb, rfl, ho1, hnil, hcap, hfew, hb1⟩
    have hF1 := hF.later hb1 (Nat.le_refl _)
    clear h hF
    go_wp2_with fail
    refine (implEncodeOps_any B os cb w1 ho1 hF1).mono ?_
    rintro e w2 ⟨A2, c2, rfl, ho2, hb2⟩
    have HO2 := hide ho2
    have HW2 := hide (hb1.trans (hb2.mono hb1.size))
    have HP2 := hide (ho1.later hb2 (Nat.le_refl _))
    have HF2 := hide (hF1.later hb2 (Nat.le_refl _))
    clear ho1 hF1 ho2 hb1 hb2
    go_wp2_with fail
    refine (specEncodeOps_any B os cb w2 HP2.out).mono ?_
    rintro e w3 ⟨A3, c3, rfl, ho3, hb3⟩
    have HI3 := hide (ho3.ints encodeOf_64 (by have := @encodeOf_few os; omega))
    have HI2 := hide ((HO2.out.below hb3).ints encodeOf_64 (by have := @encodeOf_few os; omega))
    have HN2 := hide HO2.out.nil
    have HC2 := hide HO2.out.capLen
    have HW3 := hide (HW2.out.trans (hb3.mono HW2.out.size))
    have HP3 := hide (HP2.out.later hb3 (Nat.le_refl _))
    have HF3 := hide (HF2.out.later hb3 (Nat.le_refl _))
    clear ho3 hb3 HO2 HP2 HF2 HW2
    go_wp2_with fail
    refine (equalInts_any A2 A3 (encodeOf os) (encodeOf os) c2 c3 w3 HI2.out HI3.out).mono ?_
    rintro e w4 ⟨rfl, hb4⟩
    have HI2 := hide (HI2.out.later hb4 (Nat.le_refl _))
    have HP3 := hide (HP3.out.later hb4 (Nat.le_refl _))
    have HF3 := hide (HF3.out.later hb4 (Nat.le_refl _))
    have HW3 := hide (HW3.out.trans (hb4.mono HW3.out.size))
    rw [decide_eq_true (rfl : encodeOf os = encodeOf os)]
    clear hb4 HI3
    by_cases hok : OpsOk os ∧ os ≠ []
    · obtain ⟨hok, hz⟩ := hok
      have hpos : 0 < os.length := by cases os with | nil => exact absurd rfl hz | cons => simp
      have hl3 := encs_len3 os hok
      have h300 := hok.1
      have hE := encodeOf_ok hok
      rw [hE] at HI2 HC2 ⊢
      have hD := decOk_enc hok
      have HD := hide (show tf (DecOk (encs os)) = true from tf_true hD.1)
      have HDA := hide hD.2
      have Hby := hide (encs_byte hok.2)
      have hlenpos : ¬ ((encs os).length : Int) = 0 := by omega
      have hcap2 := HC2.out
      clear hok hz hE hD hpos
      go_wp2_with fail
      go_loopw [5] (fun i wr => ∃ k : Nat, k ≤ (encs os).length ∧ i = .int .i64 k ∧ Below w.heap.size w wr ∧ IntsAt wr wr.heap.size A2 (encs os) ∧ OpsAt wr wr.heap.size B os ∧ FormsAt wr wr.heap.size) (fun i _ => (encs os).length - (intOf i).toNat)
      case atStart => exact ⟨0, Nat.zero_le _, rfl, HW3.out, HI2.out, HP3.out, HF3.out⟩
      case round =>
        obtain ⟨k, hk, rfl, hb, hi, hp, hf⟩ := hrel
        clear HI2 HP3 HF3 HW3
        by_cases hlt : k < (encs os).length
        · have HB := hide hb
          have HP := hide hp
          have HF := hide hf
          have HI := hide hi
          obtain ⟨b, off, x, rfl, hbl, hx, h64, hcx⟩ := hi.at_ hlt
          have hxr := Hby.out x (List.mem_of_getElem? hx)
          have hk1 : (0 : Int) ≤ (k : Int) := by omega
          have hk2 : (k : Int) < ((encs os).length : Int) := by omega
          have hx1 : ¬ x < 0 := by omega
          have hx2 : ¬ 255 < x := by omega
          have d1 : decide (x < 0) = false := by simp; omega
          have d2 : decide ((255 : Int) < x) = false := by simp; omega
          clear hb hp hf hi hx hxr
          go_wp2
          go_roundw
          case rel => exact ⟨k + 1, by omega, by go_num, HB.out, HI.out, HP.out, HF.out⟩
          case measure => simp [intOf]; omega
        · obtain rfl : k = (encs os).length := by omega
          have HB := hide hb
          have HP := hide hp
          have HF := hide hf
          have HI := hide hi
          have HC := hide (implDecodeOps_any A2 (encs os) c2 wr hi HN2.out hcap2 hf)
          clear hb hp hf hi
          go_wp2_with fail
          have hC := HC.out
          rw [HD.out, HDA.out] at hC
          refine hC.mono ?_
          clear HC hC
          rintro e w5 ⟨A5, c5, rfl, ho5, hb5⟩
          have HB5 := hide (HB.out.trans (hb5.mono HB.out.size))
          have HP5 := hide (HP.out.later hb5 (Nat.le_refl _))
          have HI5 := hide (HI.out.later hb5 (Nat.le_refl _))
          have HO5 := hide (ho5.ops HP.out.wf HP.out.len)
          clear ho5 hb5
          go_wp2_with fail
          refine (equalOps_same A5 B os c5 cb w5 HO5.out HP5.out).mono ?_
          rintro e w6 ⟨rfl, hb6⟩
          have HB6 := hide (HB5.out.trans (hb6.mono HB5.out.size))
          have d3 : decide (((os.length : Nat) : Int) ≤ ((encs os).length : Int)) = true := by simp; omega
          have d4 : decide (((encs os).length : Int) ≤ 3 * ((os.length : Nat) : Int)) = true := by simp; omega
          clear hb6
          go_wp2
          go_ret
          exact ⟨by simp, HB6.out⟩
    · have h0 : encodeOf os = [] := by
        by_cases ho : OpsOk os
        · have : os = [] := by
            cases hos : os with
            | nil => rfl
            | cons o l => exact absurd ⟨ho, by rw [hos]; simp⟩ hok
          rw [encodeOf_ok ho, this]; rfl
        · exact encodeOf_no ho
      have he := fun (X : World) (A3 : Option Addr) (c3 : Nat) (h : IntsAt X X.heap.size A2 (encodeOf os)) (h' : IntsAt X X.heap.size A3 (encodeOf os)) => equalInts_any A2 A3 (encodeOf os) (encodeOf os) c2 c3 X h h'
      have hs := specEncodeOps_any B os cb w4 HP3.out
      rw [h0] at hs HI2 ⊢
      simp only [h0] at he
      have HE := hide he
      have HSp := hide hs
      clear he hs hok h0
      go_wp2_with fail
      refine HSp.out.mono ?_
      rintro e w5 ⟨A5, c5, rfl, ho5, hb5⟩
      have HI5 := hide (ho5.ints (fun x hx => by cases hx) (by simp))
      have HI2 := hide (HI2.out.later hb5 (Nat.le_refl _))
      have HW5 := hide (HW3.out.trans (hb5.mono HW3.out.size))
      clear ho5 hb5 HSp
      go_wp2_with fail
      refine (HE.out w5 A5 c5 HI2.out HI5.out).mono ?_
      rintro e w6 ⟨rfl, hb6⟩
      have HW6 := hide (HW5.out.trans (hb6.mono HW5.out.size))
      clear hb6 HE
      go_wp2
      go_ret
      exact ⟨by simp, HW6.out⟩

end Go.Proofs.YtlgahkeklmbefabDoor
