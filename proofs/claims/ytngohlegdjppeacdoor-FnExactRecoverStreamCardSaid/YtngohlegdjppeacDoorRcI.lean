/-
  The program's RecoverStream: what it returns.
-/
import Derived.Test.YtngohlegdjppeacDoorRcM
import Derived.Test.YtngohlegdjppeacDoorUtI
import Derived.Test.YtngohlegdjppeacDoorDtI
import Derived.Test.YtngohlegdjppeacDoorOwnX
namespace Go.Proofs.YtngohlegdjppeacDoor
open Go.RowKit
set_option linter.unusedVariables false

open Classical in
set_option maxRecDepth 100000 in
set_option maxHeartbeats 1000000 in
theorem recoveredOps_any (A : Option Addr) (xs : List Int) (c : Nat) (w : World) (h : IntsAt w w.heap.size A xs) (hnil : A = none → c = 0) (hc : xs.length ≤ c) (hF : FormsAt w w.heap.size) :
    Calls Tryd.prog 15 #[.slice A xs.length c] w (GivesOpsV w (recOps xs) (.bool (decide (RecOk xs)))) := by
  have HU := hide (implUnframeTorn_any A xs c w h hnil hc)
  obtain ⟨L, hL⟩ : ∃ L, L = unfrBytes xs := ⟨_, rfl⟩
  obtain ⟨os, hos⟩ : ∃ os, os = tornOps L := ⟨_, rfl⟩
  have h300 : os.length ≤ 300 := by rw [hos]; exact tornOps_few L
  have HO64 : Hid (∀ o ∈ os, In64 o.code ∧ In64 o.arg) := hide (by rw [hos]; exact tornOps_64 L)
  have HR : Hid (recOps xs = os.take (lastStop os)) := hide (by unfold recOps; rw [← hL, ← hos])
  have Hos := hide hos
  have hls := lastStop_le os
  have HF := hide hF
  clear hos hF hnil h
  by_cases hok : BytesOk 2000 xs
  · have h255 := unfr_mem xs.length xs hok.2
    have hle := unfr_le xs.length xs
    rw [← unfrBytes_ok hok, ← hL] at h255 hle
    have hl := hok.1
    have hL2 : L.length ≤ 2000 := by omega
    have hs0 : 0 ≤ unfrSize xs := by rw [unfrSize_ok hok]; omega
    rw [← hL] at HU
    generalize unfrSize xs = sz at HU hs0
    have H64 : Hid (∀ x ∈ L, In64 x) := hide fun x hx => by have := h255 x hx; constructor <;> omega
    have hne : (sz == -1) = false := by rw [beq_eq_false_iff_ne]; omega
    by_cases hok2 : BytesOk 1000 L
    · have hs2 : 0 ≤ tornSize L := by rw [tornSize_ok hok2]; omega
      have HD : Hid (decide (RecOk xs) = true) := hide (by rw [decide_eq_true_iff]; exact ⟨hok, by rw [← hL]; exact hok2⟩)
      rw [HD.out]
      clear h255 hle hok hok2 hL HD
      go_enter Tryd.func15, Tryd.ntmps15
      go_wp2_with fail
      refine HU.out.mono ?_
      rintro e w1 ⟨A1, c1, rfl, ho1, hb1⟩
      have hcap := ho1.capX
      have hi := ho1.ints H64.out (by omega)
      have hn := ho1.nil
      have hF1 := HF.out.later hb1 (Nat.le_refl _)
      have HB1 := hide hb1
      clear hb1 ho1 HU
      go_wp2_with fail
      clear hne
      refine (implDecodeTorn_any A1 L c1 w1 hi hn hcap hF1).mono ?_
      rintro e w2 ⟨A2, c2, rfl, ho2, hb2⟩
      rw [← Hos.out] at ho2 ⊢
      have hiO := ho2.ops HO64.out (by omega)
      have hcap2 := ho2.capX
      have HO2 := hide ho2
      have HB2 := hide (HB1.out.trans (hb2.mono HB1.out.size))
      have hsz : w.heap.size ≤ w1.heap.size := HB1.out.size
      generalize tornSize L = s2 at hs2 ⊢
      have hne : (s2 == -1) = false := by rw [beq_eq_false_iff_ne]; omega
      clear hb2 ho2 hi hn hcap hF1
      go_wp2_with fail
      go_loop [7] (fun v => ∃ k : Nat, k ≤ os.length ∧ v = .int .i64 (k : Int) ∧ stopTo os k = lastStop os) (fun v => (intOf v).toNat)
      case atStart => exact ⟨os.length, Nat.le_refl _, rfl, rfl⟩
      case round =>
        obtain ⟨k, hk, rfl, ha⟩ := hrel
        have Ha := hide ha
        clear ha
        cases k with
        | zero =>
          have hz : (0 : Int) ≤ (c2 : Int) := by omega
          go_wp2
          go_ret2
          have e0 : os.take (lastStop os) = [] := by rw [← Ha.out]; rfl
          rw [HR.out, e0]
          exact ⟨A2, c2, rfl, by have := HO2.out.cutX (Nat.zero_le os.length); exact (show OwnO w2 w1.heap.size A2 c2 [] from this).mono hsz, HB2.out⟩
        | succ k =>
          obtain ⟨b, off, o, rfl, hbl, hx, hmem, hcx, _⟩ := hiO.at_ (k := k) (by omega)
          have h0 : (0 : Int) < ((k + 1 : Nat) : Int) := by omega
          have e1 : ((k + 1 : Nat) : Int) - 1 = (k : Int) := by omega
          have h1 : (0 : Int) ≤ (k : Int) := by omega
          have h2 : (k : Int) < (os.length : Int) := by omega
          have Hx := hide hx
          clear hx hmem
          by_cases h19 : o.code = 19
          · have hd : (o.code != 19) = false := by simp [h19]
            have HS : Hid (lastStop os = k + 1) := hide (by rw [← Ha.out]; exact stopTo_yes Hx.out h19)
            have hkc : ((k + 1 : Nat) : Int) ≤ (c2 : Int) := by omega
            clear h19
            go_wp2
            go_ret2
            rw [HR.out, HS.out]
            exact ⟨_, c2, by rw [show (os.take (k + 1)).length = k + 1 by simp; omega] <;> rfl, (HO2.out.cutX (by omega)).mono hsz, HB2.out⟩
          · have hd : (o.code != 19) = true := by simp [h19]
            have HS : Hid (stopTo os k = lastStop os) := hide (by rw [← Ha.out]; exact (stopTo_no Hx.out h19).symm)
            clear h19
            go_wp2
            go_round
            case rel => exact ⟨k, by omega, rfl, HS.out⟩
            case measure => simp [intOf] <;> omega
    · have hs2 : tornSize L = -1 := tornSize_no hok2
      have HD : Hid (decide (RecOk xs) = false) := hide (by rw [decide_eq_false_iff_not]; exact fun e => hok2 (by rw [hL]; exact e.2))
      have HR2 : Hid (recOps xs = []) := hide (recOps_long (by rw [← hL]; exact hok2))
      rw [HD.out, HR2.out]
      have HS2 := hide hs2
      clear h255 hle hok hok2 hL HD hs2
      go_enter Tryd.func15, Tryd.ntmps15
      go_wp2_with fail
      refine HU.out.mono ?_
      rintro e w1 ⟨A1, c1, rfl, ho1, hb1⟩
      have hcap := ho1.capX
      have hi := ho1.ints H64.out (by omega)
      have hn := ho1.nil
      have hF1 := HF.out.later hb1 (Nat.le_refl _)
      have HB1 := hide hb1
      clear hb1 ho1 HU
      go_wp2_with fail
      clear hne
      refine (implDecodeTorn_any A1 L c1 w1 hi hn hcap hF1).mono ?_
      rintro e w2 ⟨A2, c2, rfl, ho2, hb2⟩
      rw [HS2.out]
      have HB2 := hide (HB1.out.trans (hb2.mono HB1.out.size))
      clear hb2 ho2 hi hn hcap hF1
      go_wp2
      go_ret2
      exact ⟨none, 0, rfl, OwnO.empty _ _, HB2.out⟩
  · have hs2 : unfrSize xs = -1 := unfrSize_no hok
    have HD : Hid (decide (RecOk xs) = false) := hide (by rw [decide_eq_false_iff_not]; exact fun e => hok e.1)
    have HR2 : Hid (recOps xs = []) := hide (recOps_bad hok)
    rw [HD.out, HR2.out]
    rw [hs2] at HU
    clear hok hL HD hs2
    go_enter Tryd.func15, Tryd.ntmps15
    go_wp2_with fail
    refine HU.out.mono ?_
    rintro e w1 ⟨A1, c1, rfl, ho1, hb1⟩
    clear HU ho1
    go_wp2
    go_ret2
    exact ⟨none, 0, rfl, OwnO.empty _ _, hb1⟩

open Classical in
set_option maxHeartbeats 1000000 in
theorem implRecoverStream_any (A : Option Addr) (xs : List Int) (c : Nat) (w : World) (h : IntsAt w w.heap.size A xs) (hnil : A = none → c = 0) (hc : xs.length ≤ c) (hF : FormsAt w w.heap.size) :
    Calls Tryd.prog 6 #[.slice A xs.length c] w fun e w' => ∃ A' c', e = .returned (.slice A' (recOps xs).length c') ∧ OwnO w' w.heap.size A' c' (recOps xs) ∧ Below w.heap.size w w' := by
  have HC := hide (recoveredOps_any A xs c w h hnil hc hF)
  generalize recOps xs = R at HC ⊢
  generalize decide (RecOk xs) = b at HC
  go_enter Tryd.func6, Tryd.ntmps6
  go_wp2_with fail
  refine HC.out.mono ?_
  rintro e w1 ⟨A1, c1, rfl, ho1, hb1⟩
  clear HC
  go_wp2
  go_ret
  exact ⟨A1, c1, rfl, ho1, hb1⟩

end Go.Proofs.YtngohlegdjppeacDoor
