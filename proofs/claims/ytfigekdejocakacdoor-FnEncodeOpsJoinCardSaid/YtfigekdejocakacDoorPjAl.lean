/-
  Lemmas, several texts in one: DrawEN, LawEJ.
-/
import Derived.Test.YtfigekdejocakacDoorPjAg
import Derived.Test.YtfigekdejocakacDoorSoO
import Derived.Test.YtfigekdejocakacDoorPjAe
import Derived.Test.YtfigekdejocakacDoorPjAi
import Derived.Test.YtfigekdejocakacDoorPjAd
import Derived.Test.YtfigekdejocakacDoorPjAk
import Derived.Test.YtfigekdejocakacDoorPjAc
import Derived.Deep.RegionHeld3
namespace Go.Proofs.YtfigekdejocakacDoor
open Go.RowKit
set_option linter.unusedVariables false

/-- some program that can be read comes back, and old memory is as it was -/
def DrawnO (w : World) (e : Ending) (w' : World) : Prop :=
  ∃ (os : List Od) (B : Option Addr) (cb : Nat), e = .returned (.slice B os.length cb) ∧ OpsAt w' w'.heap.size B os ∧ (B = none → cb = 0) ∧ os.length ≤ cb ∧ os.length ≤ 2000 ∧ Below w.heap.size w w'

theorem SoS.drawn {w w0 w' : World} {A B : Option Addr} {rb n c P cb : Nat} {os : List Od} (h : SoS w0 w' rb A n c P B cb os) (hb : Below w.heap.size w w0) (hr : w.heap.size ≤ rb) : DrawnO w (.returned (.slice B os.length cb)) w' := by
  have hl := h.few
  refine ⟨os, B, cb, rfl, h.own.ops h.wf (by omega), fun e => ?_, h.own.capLen, h.few, h.grew.below hb hr hb.size⟩
  rcases h.own.form with ⟨_, h2, _⟩ | ⟨g, h2, _⟩
  · exact h2
  · rw [h2] at e; cases e

set_option maxHeartbeats 1000000 in
theorem drawOps_any (A : Option Addr) (n c : Nat) (w : World) (h : BytesAt w w.heap.size A n) (hc : n ≤ c) (hn : n ≤ 9223372036854775807) :
    Calls Tryd.prog 4 #[.slice A n c] w (DrawnO w) := by
  go_enter Tryd.func4, Tryd.ntmps4
  go_wp2_with fail
  refine (newReader_any A n c w h hc hn).mono ?_
  rintro e w1 ⟨rfl, ⟨n', c', hrd⟩, hb1⟩
  clear h
  go_wp2_with fail
  refine (someOps_any w.heap.size A n' c' 0 w1 hrd (by omega)).mono ?_
  rintro e w2 ⟨os, B, cb, rfl, hS⟩
  have HF := hide (hS.drawn hb1 (Nat.le_refl _))
  clear hS hrd hb1
  go_wp2
  go_ret
  exact HF.out

end Go.Proofs.YtfigekdejocakacDoor

namespace Go.Proofs.YtfigekdejocakacDoor
open Go.RowKit
set_option linter.unusedVariables false

theorem OpsOk.piece {os ps : List Od} (h : OpsOk os) (hs : ps.Sublist os) : OpsOk ps := ⟨Nat.le_trans hs.length_le h.1, fun o ho => h.2 o (hs.subset ho)⟩

set_option maxRecDepth 100000 in
set_option maxHeartbeats 8000000 in
theorem lawEJ_any (A : Option Addr) (n c : Nat) (w : World) (h : BytesAt w w.heap.size A n) (hc : n ≤ c) (hn : n ≤ 9223372036854775807) (hF : FormsAt w w.heap.size) :
    Calls Tryd.prog 3 #[.slice A n c] w fun e w' => e = .returned (.bool true) ∧ Below w.heap.size w w' := by
  by_cases hbig : 1048576 < n
  · have d : decide ((1048576 : Int) < (n : Int)) = true := by simp; omega
    go_enter Tryd.func3, Tryd.ntmps3
    go_wp2
    go_ret
    exact ⟨rfl, Below.refl _ _⟩
  · have d : decide ((1048576 : Int) < (n : Int)) = false := by simp; omega
    go_enter Tryd.func3, Tryd.ntmps3
    go_wp2_with fail
    refine (drawOps_any A n c w h hc hn).mono ?_
    rintro e w1 ⟨os, B, cb, rfl, ho1, hnil, hcap, hfew, hb1⟩
    have hF1 := hF.later hb1 (Nat.le_refl _)
    clear h hF
    go_wp2_with fail
    refine (implEncodeOps_any B os cb w1 ho1 hF1).mono ?_
    rintro e w2 ⟨A2, c2, rfl, ho2, hb2⟩
    have HO2 := hide ho2
    have HW2 := hide (hb1.trans (hb2.mono hb1.size))
    have HP2 := hide (ho1.later hb2 (Nat.le_refl _))
    have HF2 := hide (hF1.later hb2 (Nat.le_refl _))
    clear ho1 hF1 ho2 hb1 hb2
    go_wp2_with fail
    refine (specEncodeOps_any B os cb w2 HP2.out).mono ?_
    rintro e w3 ⟨A3, c3, rfl, ho3, hb3⟩
    have HI3 := hide (ho3.ints encodeOf_64 (by have := @encodeOf_few os; omega))
    have HI2 := hide ((HO2.out.below hb3).ints encodeOf_64 (by have := @encodeOf_few os; omega))
    have HN2 := hide HO2.out.nil
    have HW3 := hide (HW2.out.trans (hb3.mono HW2.out.size))
    have HP3 := hide (HP2.out.later hb3 (Nat.le_refl _))
    have HF3 := hide (HF2.out.later hb3 (Nat.le_refl _))
    clear ho3 hb3 HO2 HP2 HF2 HW2
    go_wp2_with fail
    refine (equalInts_any A2 A3 (encodeOf os) (encodeOf os) c2 c3 w3 HI2.out HI3.out).mono ?_
    rintro e w4 ⟨rfl, hb4⟩
    have HI2 := hide (HI2.out.later hb4 (Nat.le_refl _))
    have HP3 := hide (HP3.out.later hb4 (Nat.le_refl _))
    have HF3 := hide (HF3.out.later hb4 (Nat.le_refl _))
    have HW3 := hide (HW3.out.trans (hb4.mono HW3.out.size))
    rw [decide_eq_true (rfl : encodeOf os = encodeOf os)]
    clear hb4 HI3
    by_cases hok : OpsOk os ∧ os ≠ []
    · obtain ⟨hok, hz⟩ := hok
      have hpos : 0 < os.length := by cases os with | nil => exact absurd rfl hz | cons => simp
      have h300 := hok.1
      have hel := encs_len os
      obtain ⟨k, hk⟩ : ∃ k, k = os.length / 2 := ⟨_, rfl⟩
      have hlk : (os.take k).length = k := by simp; omega
      have hld : (os.drop k).length = os.length - k := by simp
      have hkl : k ≤ os.length := by omega
      have hdiv : ((os.length : Int) / 2) = (k : Int) := by omega
      have hck : ¬ cb = k := by omega
      have hs0 : (0 : Int) ≤ (k : Int) := by omega
      have hs1 : (k : Int) ≤ (cb : Int) := by omega
      have hs2 : (k : Int) ≤ (os.length : Int) := by omega
      have hs3 : (os.length : Int) ≤ (cb : Int) := by omega
      obtain ⟨b, off, o, rfl, hbl, _, _, _, _⟩ := HP3.out.at_ hpos
      have hE := encodeOf_ok hok
      have hE5 := encodeOf_ok (OpsOk.piece hok (List.take_sublist k os))
      have hE6 := encodeOf_ok (OpsOk.piece hok (List.drop_sublist k os))
      have hcat : encs (os.take k) ++ encs (os.drop k) = encs os := by rw [← encs_append, List.take_append_drop]
      have HZ := hide (sizeOfOps_ok hok)
      have HI5 := hide (fun X : World => fun h : OpsAt X X.heap.size (some ⟨b, off, none⟩) os => fun hF : FormsAt X X.heap.size => (show Calls Tryd.prog 5 #[.slice (some ⟨b, off, none⟩) k cb] X (GivesInts X (encs (os.take k))) from by
        have h1 := implEncodeOps_any (some ⟨b, off, none⟩) (os.take k) cb X (h.begin k) hF
        rw [hlk, hE5] at h1
        exact h1))
      have HI6 := hide (fun X : World => fun h : OpsAt X X.heap.size (some ⟨b, off, none⟩) os => fun hF : FormsAt X X.heap.size => (show Calls Tryd.prog 5 #[.slice (some ⟨b, off + k * 2, none⟩) (os.length - k) (cb - k)] X (GivesInts X (encs (os.drop k))) from by
        have h1 := implEncodeOps_any (some ⟨b, off + k * 2, none⟩) (os.drop k) (cb - k) X (h.behind k) hF
        rw [hld, hE6] at h1
        exact h1))
      have hl5 := encs_len (os.take k)
      have hl6 := encs_len (os.drop k)
      have H64 : Hid (∀ l : List Od, l.Sublist os → ∀ x ∈ encs l, In64 x) := fun l hl x hx => by
        have := encs_byte (OpsOk.piece hok hl).2 x hx
        constructor <;> omega
      rw [hE] at HI2 ⊢
      have hlenpos : ¬ ((encs os).length : Int) = 0 := by omega
      have Hcat := hide hcat
      have hl5' : (encs (os.take k)).length ≤ 900 := by omega
      have hl6' : (encs (os.drop k)).length ≤ 900 := by omega
      have hl9 : (encs os).length ≤ 900 := by omega
      clear hok hz hk hel hE hE5 hE6 hcat hl5 hl6
      have HPd := hide (HP3.out.later ((Below.refl _ w4).drew) (Nat.le_refl _))
      have HFd := hide (HF3.out.later ((Below.refl _ w4).drew) (Nat.le_refl _))
      have HId := hide (HI2.out.later ((Below.refl _ w4).drew) (Nat.le_refl _))
      have tok1 : True := trivial
      have hT : Hid (∀ X : World, True) := hide fun _ => trivial
      go_wp2_with fail
      go_region_held3 (fun w' => True)
        (first
          | trivial
          | go_keep)
        (first
          | (have _t := tok1; clear tok1; go_at_call 5
             refine (HI5.out _ HPd.out HFd.out).mono ?_; rintro e w5 ⟨A5, c5, rfl, ho5, hb5⟩
             have HP5 := hide (HPd.out.later hb5 (Nat.le_refl _)); have HF5 := hide (HFd.out.later hb5 (Nat.le_refl _)); have HI5b := hide (HId.out.later hb5 (Nat.le_refl _)); have HO5 := hide ho5; have HB5 := hide (((Below.refl w4.heap.size w4).drew).trans hb5)
             clear ho5 hb5 _t)
          | (go_at_call 5
             refine (HI6.out _ HP5.out HF5.out).mono ?_; rintro e w6 ⟨A6, c6, rfl, ho6, hb6⟩
             have HP6 := hide (HP5.out.later hb6 (Nat.le_refl _)); have HF6 := hide (HF5.out.later hb6 (Nat.le_refl _)); have HI6b := hide (HI5b.out.later hb6 (Nat.le_refl _)); have HO56 := hide (HO5.out.below hb6); have HO6 := hide ho6; have HB6 := hide (HB5.out.trans (hb6.mono HB5.out.size))
             clear ho6 hb6)
          | (go_at_call 8
             refine (join_any A5 A6 (encs (os.take k)) (encs (os.drop k)) c5 c6 _ (HO56.out.ints (H64.out _ (List.take_sublist _ _)) (by omega)) HO5.out.nil (HO6.out.ints (H64.out _ (List.drop_sublist _ _)) (by omega)) HO6.out.nil (by omega) (by omega)).mono ?_; rintro e w7 ⟨A7, c7, rfl, ho7, hb7⟩
             rw [Hcat.out] at ho7 ⊢
             have HP7 := hide (HP6.out.later hb7 (Nat.le_refl _)); have HF7 := hide (HF6.out.later hb7 (Nat.le_refl _)); have HI7 := hide (HI6b.out.later hb7 (Nat.le_refl _)); have HO7 := hide (ho7.ints (H64.out _ (List.Sublist.refl _)) (by omega)); have HB7 := hide (HB6.out.trans (hb7.mono HB6.out.size))
             clear ho7 hb7)
          | (go_at_call 6
             refine (equalInts_any A7 A2 (encs os) (encs os) c7 c2 _ HO7.out HI7.out).mono ?_; rintro e w8 ⟨rfl, hb8⟩
             rw [decide_eq_true (rfl : encs os = encs os)]
             have HP8 := hide (HP7.out.later hb8 (Nat.le_refl _)); have HF8 := hide (HF7.out.later hb8 (Nat.le_refl _)); have HB8 := hide (HB7.out.trans (hb8.mono HB7.out.size))
             clear hb8)
          | (go_at_call 9
             refine (implSizeOf_any (some ⟨b, off, none⟩) os cb _ HP8.out HF8.out).mono ?_; rintro e w9 ⟨rfl, hb9⟩
             rw [HZ.out]
             have HB9 := hide (HB8.out.trans (hb9.mono HB8.out.size))
             clear hb9))
      have HW9 := hide (HW3.out.trans (HB9.out.mono HW3.out.size))
      clear HI5 HI6 HO5 HO6 HO7
      go_wp2
      go_ret
      exact ⟨by simp, HW9.out⟩
    · have h0 : encodeOf os = [] := by
        by_cases ho : OpsOk os
        · have : os = [] := by
            cases hos : os with
            | nil => rfl
            | cons o l => exact absurd ⟨ho, by rw [hos]; simp⟩ hok
          rw [encodeOf_ok ho, this]; rfl
        · exact encodeOf_no ho
      have he := fun (X : World) (A3 : Option Addr) (c3 : Nat) (h : IntsAt X X.heap.size A2 (encodeOf os)) (h' : IntsAt X X.heap.size A3 (encodeOf os)) => equalInts_any A2 A3 (encodeOf os) (encodeOf os) c2 c3 X h h'
      have hs := specEncodeOps_any B os cb w4 HP3.out
      rw [h0] at hs HI2 ⊢
      simp only [h0] at he
      have HE := hide he
      have HSp := hide hs
      clear he hs hok h0
      go_wp2_with fail
      refine HSp.out.mono ?_
      rintro e w5 ⟨A5, c5, rfl, ho5, hb5⟩
      have HI5 := hide (ho5.ints (fun x hx => by cases hx) (by simp))
      have HI2 := hide (HI2.out.later hb5 (Nat.le_refl _))
      have HW5 := hide (HW3.out.trans (hb5.mono HW3.out.size))
      clear ho5 hb5 HSp
      go_wp2_with fail
      refine (HE.out w5 A5 c5 HI2.out HI5.out).mono ?_
      rintro e w6 ⟨rfl, hb6⟩
      have HW6 := hide (HW5.out.trans (hb6.mono HW5.out.size))
      clear hb6 HE
      go_wp2
      go_ret
      exact ⟨by simp, HW6.out⟩

end Go.Proofs.YtfigekdejocakacDoor
