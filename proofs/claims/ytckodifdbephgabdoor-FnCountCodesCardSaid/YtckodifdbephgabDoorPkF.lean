/-
  Lemmas, several texts in one: DrawCC, LawCC.
-/
import Derived.Test.YtckodifdbephgabDoorPkA
import Derived.Test.YtckodifdbephgabDoorSoO
import Derived.Test.YtckodifdbephgabDoorPkC
import Derived.Deep.QuietTactic
import Derived.BigQuiet
import Derived.WalkSmall
namespace Go.Proofs.YtckodifdbephgabDoor
open Go.RowKit
set_option linter.unusedVariables false

/-- some program that can be read comes back, and old memory is as it was -/
def DrawnO (w : World) (e : Ending) (w' : World) : Prop :=
  ∃ (os : List Od) (B : Option Addr) (cb : Nat), e = .returned (.slice B os.length cb) ∧ OpsAt w' w'.heap.size B os ∧ (B = none → cb = 0) ∧ os.length ≤ cb ∧ os.length ≤ 2000 ∧ Below w.heap.size w w'

theorem SoS.drawn {w w0 w' : World} {A B : Option Addr} {rb n c P cb : Nat} {os : List Od} (h : SoS w0 w' rb A n c P B cb os) (hb : Below w.heap.size w w0) (hr : w.heap.size ≤ rb) : DrawnO w (.returned (.slice B os.length cb)) w' := by
  have hl := h.few
  refine ⟨os, B, cb, rfl, h.own.ops h.wf (by omega), fun e => ?_, h.own.capLen, h.few, h.grew.below hb hr hb.size⟩
  rcases h.own.form with ⟨_, h2, _⟩ | ⟨g, h2, _⟩
  · exact h2
  · rw [h2] at e; cases e

set_option maxHeartbeats 1000000 in
theorem drawOps_any (A : Option Addr) (n c : Nat) (w : World) (h : BytesAt w w.heap.size A n) (hc : n ≤ c) (hn : n ≤ 9223372036854775807) :
    Calls Tryd.prog 4 #[.slice A n c] w (DrawnO w) := by
  go_enter Tryd.func4, Tryd.ntmps4
  go_wp2_with fail
  refine (newReader_any A n c w h hc hn).mono ?_
  rintro e w1 ⟨rfl, ⟨n', c', hrd⟩, hb1⟩
  clear h
  go_wp2_with fail
  refine (someOps_any w.heap.size A n' c' 0 w1 hrd (by omega)).mono ?_
  rintro e w2 ⟨os, B, cb, rfl, hS⟩
  have HF := hide (hS.drawn hb1 (Nat.le_refl _))
  clear hS hrd hb1
  go_wp2
  go_ret
  exact HF.out

end Go.Proofs.YtckodifdbephgabDoor

namespace Go.Proofs.YtckodifdbephgabDoor
open Go.RowKit
set_option linter.unusedVariables false

set_option maxRecDepth 100000 in
set_option maxHeartbeats 8000000 in
theorem lawCC_any (A : Option Addr) (n c : Nat) (w : World) (h : BytesAt w w.heap.size A n) (hc : n ≤ c) (hn : n ≤ 9223372036854775807) (hF : FormsAt w w.heap.size) :
    Calls Tryd.prog 3 #[.slice A n c] w fun e w' => e = .returned (.bool true) ∧ Below w.heap.size w w' := by
  by_cases hbig : 1048576 < n
  · have d : decide ((1048576 : Int) < (n : Int)) = true := by simp; omega
    go_enter Tryd.func3, Tryd.ntmps3
    go_wp2
    go_ret
    exact ⟨rfl, Below.refl _ _⟩
  · have d : decide ((1048576 : Int) < (n : Int)) = false := by simp; omega
    go_enter Tryd.func3, Tryd.ntmps3
    go_wp2_with fail
    refine (drawOps_any A n c w h hc hn).mono ?_
    rintro e w1 ⟨os, B, cb, rfl, ho1, hnil, hcap, hfew, hb1⟩
    have hF1 := hF.later hb1 (Nat.le_refl _)
    clear h hF
    go_wp2_with fail
    refine (implCountCodes_any B os cb w1 ho1 hF1).mono ?_
    rintro e w2 ⟨A2, c2, rfl, ho2, hb2⟩
    have HO2 := hide ho2
    have HW2 := hide (hb1.trans (hb2.mono hb1.size))
    have HP2 := hide (ho1.later hb2 (Nat.le_refl _))
    have HF2 := hide (hF1.later hb2 (Nat.le_refl _))
    clear ho1 hF1 ho2 hb1 hb2
    go_wp2_with fail
    refine (specCountCodes_any B os cb w2 HP2.out).mono ?_
    rintro e w3 ⟨A3, c3, rfl, ho3, hb3⟩
    have HI3 := hide (ho3.ints countsOf_64 (by have := @countsOf_few os; omega))
    have HI2 := hide ((HO2.out.below hb3).ints countsOf_64 (by have := @countsOf_few os; omega))
    have HW3 := hide (HW2.out.trans (hb3.mono HW2.out.size))
    have HP3 := hide (HP2.out.later hb3 (Nat.le_refl _))
    have HF3 := hide (HF2.out.later hb3 (Nat.le_refl _))
    clear ho3 hb3 HO2 HP2 HF2 HW2
    go_wp2_with fail
    refine (equalInts_any A2 A3 (countsOf os) (countsOf os) c2 c3 w3 HI2.out HI3.out).mono ?_
    rintro e w4 ⟨rfl, hb4⟩
    have HI2 := hide (HI2.out.later hb4 (Nat.le_refl _))
    have HP3 := hide (HP3.out.later hb4 (Nat.le_refl _))
    have HF3 := hide (HF3.out.later hb4 (Nat.le_refl _))
    have HW3 := hide (HW3.out.trans (hb4.mono HW3.out.size))
    rw [decide_eq_true (rfl : countsOf os = countsOf os)]
    clear hb4 HI3
    by_cases hok : OpsOk os
    · have Hok := hide hok
      have Hlen := hide (countsOf_len hok)
      have Hsum := hide (countsOf_sum hok)
      have Hat := hide (fun (c : Nat) (hc : c < 20) => countsOf_at hok hc)
      have h300 := hok.1
      have Hall := hide (fun (x : Int) (hx : x ∈ countsOf os) => (show 0 ≤ x ∧ x ≤ 1000000 from by
        have h1 := countsTo_upto os os.length
        rw [← countsOf_ok hok] at h1
        have := h1 x hx
        omega))
      clear hok
      rw [Hlen.out]
      obtain ⟨k, hk⟩ : ∃ k, k = os.length / 2 := ⟨_, rfl⟩
      have Hk := hide hk
      have hlk : (os.take k).length = k := by simp; omega
      have hld : (os.drop k).length = os.length - k := by simp
      have hkl : k ≤ os.length := by omega
      have hdiv : ((os.length : Int) / 2) = (k : Int) := by omega
      clear hk
      by_cases hz : os = []
      · subst hz
        have hk0 : k = 0 := by have := Hk.out; simp at this; exact this
        subst hk0
        cases B with
        | none =>
          obtain rfl := hnil rfl
          have hI5 := implCountCodes_any none ([] : List Od) 0 w4 HP3.out HF3.out
          go_wp2_with fail
          refine hI5.mono ?_
          rintro e w5 ⟨A5, c5, rfl, ho5, hb5⟩
          have hb5w := hb5
          have HW5 := hide (HW3.out.trans (hb5.mono HW3.out.size))
          have HI2 := hide (HI2.out.later hb5 (Nat.le_refl _))
          have HP5 := hide (HP3.out.later hb5 (Nat.le_refl _))
          have HF5 := hide (HF3.out.later hb5 (Nat.le_refl _))
          have HO5 := hide ho5
          clear hb5 hb5w ho5 HP3 HF3 HW3 hI5
          have hI6 := implCountCodes_any none ([] : List Od) 0 w5 HP5.out HF5.out
          go_wp2_with fail
          refine hI6.mono ?_
          rintro e w6 ⟨A6, c6, rfl, ho6, hb6⟩
          have HW6 := hide (HW5.out.trans (hb6.mono HW5.out.size))
          have HI2 := hide (HI2.out.later hb6 (Nat.le_refl _))
          have HP6 := hide (HP5.out.later hb6 (Nat.le_refl _))
          have HI5 := hide ((HO5.out.below hb6).ints countsOf_64 (by have := @countsOf_few ([] : List Od); omega))
          have HI6 := hide (ho6.ints countsOf_64 (by have := @countsOf_few ([] : List Od); omega))
          have Hl5 := hide (countsOf_len Hok.out)
          have Hl6 := hide (countsOf_len Hok.out)
          have Ha5 := hide (fun (c : Nat) (hc : c < 20) => countsOf_at Hok.out hc)
          have Ha6 := hide (fun (c : Nat) (hc : c < 20) => countsOf_at Hok.out hc)
          clear hb6 ho6 HP5 HF5 HO5 HW5 hI6
          rw [Hl5.out]
          go_wp2_with fail
          go_loopw [8] (fun iv wr => ∃ i : Nat, i ≤ 20 ∧ iv = .int .i64 (i : Int) ∧ Below w6.heap.size w6 wr) (fun iv _ => 20 - (intOf iv).toNat)
          case atStart => exact ⟨0, Nat.zero_le _, rfl, Below.refl _ _⟩
          case round =>
            obtain ⟨i, hi, rfl, hbr⟩ := hrel
            have Hbr := hide hbr
            by_cases hlt : i < 20
            · obtain ⟨b2, o2, x2, rfl, _, hx2, _, hc2⟩ := (HI2.out.below hbr).at_ (k := i) (by rw [Hlen.out]; exact hlt)
              obtain ⟨b5, o5, x5, rfl, _, hx5, _, hc5⟩ := (HI5.out.below hbr).at_ (k := i) (by rw [Hl5.out]; exact hlt)
              obtain ⟨b6, o6, x6, rfl, _, hx6, _, hc6⟩ := (HI6.out.below hbr).at_ (k := i) (by rw [Hl6.out]; exact hlt)
              obtain rfl := Option.some.inj ((Hat.out i hlt).symm.trans hx2)
              obtain rfl := Option.some.inj ((Ha5.out i hlt).symm.trans hx5)
              obtain rfl := Option.some.inj ((Ha6.out i hlt).symm.trans hx6)
              have hn1 := numOf_le ([] : List Od) (i : Int)
              have HPr := hide (HP6.out.later hbr (Nat.le_refl _))
              have hi1 : (0 : Int) ≤ (i : Int) := by omega
              have hi2 : (i : Int) < 20 := by omega
              obtain ⟨m5, h5⟩ : ∃ m, numOf ([] : List Od) (i : Int) = m := ⟨_, rfl⟩
              obtain ⟨m6, h6⟩ : ∃ m, numOf ([] : List Od) (i : Int) = m := ⟨_, rfl⟩
              obtain ⟨m2, hm2⟩ : ∃ m, numOf ([] : List Od) (i : Int) = m := ⟨_, rfl⟩
              have hp : m5 + m6 = m2 := by rw [← h5, ← h6, ← hm2]; rfl
              rw [h5] at hc5
              rw [h6] at hc6
              clear h5 h6
              rw [hm2] at hc2 hn1
              have hcnt := hide (fun X : World => fun h : OpsAt X X.heap.size none ([] : List Od) => (countOf_q none ([] : List Od) 0 (i : Int) m2 X h (by omega) hm2))
              have hw : IntKind.i64.wrap ((m5 : Int) + (m6 : Int)) = (m2 : Int) := by rw [IntKind.wrap_i64]; omega
              have hne : (((m5 : Int) + (m6 : Int)) != (m2 : Int)) = false := by simp; omega
              have hne2 : ((m2 : Int) != (m2 : Int)) = false := by simp
              clear hx2 hx5 hx6 hm2 hbr
              go_wp2_with fail
              go_quiet ((go_at_call 8; exact Calls.quiet_of_same (hcnt.out _ (HPr.out.drewN _))))
              go_wp2
              go_roundw
              case rel => exact ⟨i + 1, by omega, by go_num, below_drewN Hbr.out _⟩
              case measure => simp [intOf]; omega
            · obtain rfl : i = 20 := by omega
              have HI2 := hide (HI2.out.later hbr (Nat.le_refl _))
              have HWr := hide (HW6.out.trans (hbr.mono HW6.out.size))
              have ht := total_any A2 (countsOf ([] : List Od)) c2 wr HI2.out (by rw [Hlen.out]; omega) Hall.out
              rw [Hlen.out, Hsum.out] at ht
              clear hbr hlt
              go_wp2_with fail
              refine ht.mono ?_
              rintro e w' ⟨rfl, rfl⟩
              go_wp2
              go_ret
              exact ⟨by simp, HWr.out⟩
        | some ad =>
          have hI5 := implCountCodes_any (some ad) ([] : List Od) cb w4 HP3.out HF3.out
          go_wp2_with fail
          refine hI5.mono ?_
          rintro e w5 ⟨A5, c5, rfl, ho5, hb5⟩
          have hb5w := hb5
          have HW5 := hide (HW3.out.trans (hb5.mono HW3.out.size))
          have HI2 := hide (HI2.out.later hb5 (Nat.le_refl _))
          have HP5 := hide (HP3.out.later hb5 (Nat.le_refl _))
          have HF5 := hide (HF3.out.later hb5 (Nat.le_refl _))
          have HO5 := hide ho5
          clear hb5 hb5w ho5 HP3 HF3 HW3 hI5
          have hI6 := implCountCodes_any (some ad) ([] : List Od) cb w5 HP5.out HF5.out
          go_wp2_with fail
          refine hI6.mono ?_
          rintro e w6 ⟨A6, c6, rfl, ho6, hb6⟩
          have HW6 := hide (HW5.out.trans (hb6.mono HW5.out.size))
          have HI2 := hide (HI2.out.later hb6 (Nat.le_refl _))
          have HP6 := hide (HP5.out.later hb6 (Nat.le_refl _))
          have HI5 := hide ((HO5.out.below hb6).ints countsOf_64 (by have := @countsOf_few ([] : List Od); omega))
          have HI6 := hide (ho6.ints countsOf_64 (by have := @countsOf_few ([] : List Od); omega))
          have Hl5 := hide (countsOf_len Hok.out)
          have Hl6 := hide (countsOf_len Hok.out)
          have Ha5 := hide (fun (c : Nat) (hc : c < 20) => countsOf_at Hok.out hc)
          have Ha6 := hide (fun (c : Nat) (hc : c < 20) => countsOf_at Hok.out hc)
          clear hb6 ho6 HP5 HF5 HO5 HW5 hI6
          rw [Hl5.out]
          go_wp2_with fail
          go_loopw [8] (fun iv wr => ∃ i : Nat, i ≤ 20 ∧ iv = .int .i64 (i : Int) ∧ Below w6.heap.size w6 wr) (fun iv _ => 20 - (intOf iv).toNat)
          case atStart => exact ⟨0, Nat.zero_le _, rfl, Below.refl _ _⟩
          case round =>
            obtain ⟨i, hi, rfl, hbr⟩ := hrel
            have Hbr := hide hbr
            by_cases hlt : i < 20
            · obtain ⟨b2, o2, x2, rfl, _, hx2, _, hc2⟩ := (HI2.out.below hbr).at_ (k := i) (by rw [Hlen.out]; exact hlt)
              obtain ⟨b5, o5, x5, rfl, _, hx5, _, hc5⟩ := (HI5.out.below hbr).at_ (k := i) (by rw [Hl5.out]; exact hlt)
              obtain ⟨b6, o6, x6, rfl, _, hx6, _, hc6⟩ := (HI6.out.below hbr).at_ (k := i) (by rw [Hl6.out]; exact hlt)
              obtain rfl := Option.some.inj ((Hat.out i hlt).symm.trans hx2)
              obtain rfl := Option.some.inj ((Ha5.out i hlt).symm.trans hx5)
              obtain rfl := Option.some.inj ((Ha6.out i hlt).symm.trans hx6)
              have hn1 := numOf_le ([] : List Od) (i : Int)
              have HPr := hide (HP6.out.later hbr (Nat.le_refl _))
              have hi1 : (0 : Int) ≤ (i : Int) := by omega
              have hi2 : (i : Int) < 20 := by omega
              obtain ⟨m5, h5⟩ : ∃ m, numOf ([] : List Od) (i : Int) = m := ⟨_, rfl⟩
              obtain ⟨m6, h6⟩ : ∃ m, numOf ([] : List Od) (i : Int) = m := ⟨_, rfl⟩
              obtain ⟨m2, hm2⟩ : ∃ m, numOf ([] : List Od) (i : Int) = m := ⟨_, rfl⟩
              have hp : m5 + m6 = m2 := by rw [← h5, ← h6, ← hm2]; rfl
              rw [h5] at hc5
              rw [h6] at hc6
              clear h5 h6
              rw [hm2] at hc2 hn1
              have hcnt := hide (fun X : World => fun h : OpsAt X X.heap.size (some ad) ([] : List Od) => (countOf_q (some ad) ([] : List Od) cb (i : Int) m2 X h (by omega) hm2))
              have hw : IntKind.i64.wrap ((m5 : Int) + (m6 : Int)) = (m2 : Int) := by rw [IntKind.wrap_i64]; omega
              have hne : (((m5 : Int) + (m6 : Int)) != (m2 : Int)) = false := by simp; omega
              have hne2 : ((m2 : Int) != (m2 : Int)) = false := by simp
              clear hx2 hx5 hx6 hm2 hbr
              go_wp2_with fail
              go_quiet ((go_at_call 8; exact Calls.quiet_of_same (hcnt.out _ (HPr.out.drewN _))))
              go_wp2
              go_roundw
              case rel => exact ⟨i + 1, by omega, by go_num, below_drewN Hbr.out _⟩
              case measure => simp [intOf]; omega
            · obtain rfl : i = 20 := by omega
              have HI2 := hide (HI2.out.later hbr (Nat.le_refl _))
              have HWr := hide (HW6.out.trans (hbr.mono HW6.out.size))
              have ht := total_any A2 (countsOf ([] : List Od)) c2 wr HI2.out (by rw [Hlen.out]; omega) Hall.out
              rw [Hlen.out, Hsum.out] at ht
              clear hbr hlt
              go_wp2_with fail
              refine ht.mono ?_
              rintro e w' ⟨rfl, rfl⟩
              go_wp2
              go_ret
              exact ⟨by simp, HWr.out⟩
      · have hpos : 0 < os.length := by cases os with | nil => exact absurd rfl hz | cons => simp
        obtain ⟨b, off, o, rfl, hbl, _, _, _, _⟩ := HP3.out.at_ hpos
        have hI5 := implCountCodes_any (some ⟨b, off, none⟩) (os.take k) cb w4 (HP3.out.begin k) HF3.out
        rw [hlk] at hI5
        have hck : ¬ cb = k := by omega
        go_wp2_with fail
        refine hI5.mono ?_
        rintro e w5 ⟨A5, c5, rfl, ho5, hb5⟩
        have hb5w := hb5
        have HW5 := hide (HW3.out.trans (hb5.mono HW3.out.size))
        have HI2 := hide (HI2.out.later hb5 (Nat.le_refl _))
        have HP5 := hide (HP3.out.later hb5 (Nat.le_refl _))
        have HF5 := hide (HF3.out.later hb5 (Nat.le_refl _))
        have HO5 := hide ho5
        clear hb5 hb5w ho5 HP3 HF3 HW3 hI5
        have hI6 := implCountCodes_any (some ⟨b, off + k * 2, none⟩) (os.drop k) (cb - k) w5 (HP5.out.behind k) HF5.out
        rw [hld] at hI6
        go_wp2_with fail
        refine hI6.mono ?_
        rintro e w6 ⟨A6, c6, rfl, ho6, hb6⟩
        have HW6 := hide (HW5.out.trans (hb6.mono HW5.out.size))
        have HI2 := hide (HI2.out.later hb6 (Nat.le_refl _))
        have HP6 := hide (HP5.out.later hb6 (Nat.le_refl _))
        have HI5 := hide ((HO5.out.below hb6).ints countsOf_64 (by have := @countsOf_few (os.take k); omega))
        have HI6 := hide (ho6.ints countsOf_64 (by have := @countsOf_few (os.drop k); omega))
        have Hl5 := hide (countsOf_len (Hok.out.begin k))
        have Hl6 := hide (countsOf_len (Hok.out.behind k))
        have Ha5 := hide (fun (c : Nat) (hc : c < 20) => countsOf_at (Hok.out.begin k) hc)
        have Ha6 := hide (fun (c : Nat) (hc : c < 20) => countsOf_at (Hok.out.behind k) hc)
        clear hb6 ho6 HP5 HF5 HO5 HW5 hI6
        rw [Hl5.out, Hl6.out]
        go_wp2_with fail
        go_loopw [8] (fun iv wr => ∃ i : Nat, i ≤ 20 ∧ iv = .int .i64 (i : Int) ∧ Below w6.heap.size w6 wr) (fun iv _ => 20 - (intOf iv).toNat)
        case atStart => exact ⟨0, Nat.zero_le _, rfl, Below.refl _ _⟩
        case round =>
          obtain ⟨i, hi, rfl, hbr⟩ := hrel
          have Hbr := hide hbr
          by_cases hlt : i < 20
          · obtain ⟨b2, o2, x2, rfl, _, hx2, _, hc2⟩ := (HI2.out.below hbr).at_ (k := i) (by rw [Hlen.out]; exact hlt)
            obtain ⟨b5, o5, x5, rfl, _, hx5, _, hc5⟩ := (HI5.out.below hbr).at_ (k := i) (by rw [Hl5.out]; exact hlt)
            obtain ⟨b6, o6, x6, rfl, _, hx6, _, hc6⟩ := (HI6.out.below hbr).at_ (k := i) (by rw [Hl6.out]; exact hlt)
            obtain rfl := Option.some.inj ((Hat.out i hlt).symm.trans hx2)
            obtain rfl := Option.some.inj ((Ha5.out i hlt).symm.trans hx5)
            obtain rfl := Option.some.inj ((Ha6.out i hlt).symm.trans hx6)
            have hp := numOf_parts os k (i : Int)
            have hn1 := numOf_le os (i : Int)
            have HPr := hide (HP6.out.later hbr (Nat.le_refl _))
            have hi1 : (0 : Int) ≤ (i : Int) := by omega
            have hi2 : (i : Int) < 20 := by omega
            generalize numOf (os.take k) (i : Int) = m5 at hp hc5
            generalize numOf (os.drop k) (i : Int) = m6 at hp hc6
            obtain ⟨m2, hm2⟩ : ∃ m2, numOf os (i : Int) = m2 := ⟨_, rfl⟩
            rw [hm2] at hc2 hp hn1
            have hcnt := hide (fun X : World => fun h : OpsAt X X.heap.size (some ⟨b, off, none⟩) os => (countOf_q (some ⟨b, off, none⟩) os cb (i : Int) m2 X h (by omega) hm2))
            have hw : IntKind.i64.wrap ((m5 : Int) + (m6 : Int)) = (m2 : Int) := by rw [IntKind.wrap_i64]; omega
            have hne : (((m5 : Int) + (m6 : Int)) != (m2 : Int)) = false := by simp; omega
            have hne2 : ((m2 : Int) != (m2 : Int)) = false := by simp
            clear hx2 hx5 hx6 hm2 hbr
            go_wp2_with fail
            go_quiet ((go_at_call 8; exact Calls.quiet_of_same (hcnt.out _ (HPr.out.drewN _))))
            go_wp2
            go_roundw
            case rel => exact ⟨i + 1, by omega, by go_num, below_drewN Hbr.out _⟩
            case measure => simp [intOf]; omega
          · obtain rfl : i = 20 := by omega
            have HI2 := hide (HI2.out.later hbr (Nat.le_refl _))
            have HWr := hide (HW6.out.trans (hbr.mono HW6.out.size))
            have ht := total_any A2 (countsOf os) c2 wr HI2.out (by rw [Hlen.out]; omega) Hall.out
            rw [Hlen.out, Hsum.out] at ht
            clear hbr hlt
            go_wp2_with fail
            refine ht.mono ?_
            rintro e w' ⟨rfl, rfl⟩
            go_wp2
            go_ret
            exact ⟨by simp, HWr.out⟩
    · have h0 : (countsOf os).length = 0 := by rw [countsOf_no hok]; rfl
      have H0 := hide (countsOf_no hok)
      have hI := implCountCodes_any B os cb w4 HP3.out HF3.out
      rw [h0]
      clear hok
      go_wp2_with fail
      refine (specCountCodes_any B os cb w4 HP3.out).mono ?_
      rintro e w5 ⟨A5, c5, rfl, ho5, hb5⟩
      have HI5 := hide (ho5.ints countsOf_64 (by have := @countsOf_few os; omega))
      have HI2 := hide (HI2.out.later hb5 (Nat.le_refl _))
      have HW5 := hide (HW3.out.trans (hb5.mono HW3.out.size))
      have he := equalInts_any A2 A5 (countsOf os) (countsOf os) c2 c5 w5 HI2.out HI5.out
      rw [h0, decide_eq_true (rfl : countsOf os = countsOf os)] at he
      rw [h0]
      clear ho5 hb5 hI
      go_wp2_with fail
      refine he.mono ?_
      rintro e w6 ⟨rfl, hb6⟩
      have HW6 := hide (HW5.out.trans (hb6.mono HW5.out.size))
      clear hb6 he
      go_wp2
      go_ret
      exact ⟨rfl, HW6.out⟩

end Go.Proofs.YtckodifdbephgabDoor
