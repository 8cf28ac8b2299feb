/-
  Lemmas, several texts in one: DrawMK, LawMK.
-/
import Derived.Test.YthckkpbjpgfdcabDoorPjAd
import Derived.Test.YthckkpbjpgfdcabDoorSoO
import Derived.Test.YthckkpbjpgfdcabDoorPjAm
import Derived.Test.YthckkpbjpgfdcabDoorPjAo
import Derived.Test.YthckkpbjpgfdcabDoorPjAk
import Derived.Test.YthckkpbjpgfdcabDoorPjAn
namespace Go.Proofs.YthckkpbjpgfdcabDoor
open Go.RowKit
set_option linter.unusedVariables false
def DrawnO (w : World) (e : Ending) (w' : World) : Prop :=
  ∃ (os : List Od) (B : Option Addr) (cb : Nat), e = .returned (.slice B os.length cb) ∧ OpsAt w' w'.heap.size B os ∧ (B = none → cb = 0) ∧ os.length ≤ cb ∧ os.length ≤ 2000 ∧ Below w.heap.size w w'
theorem SoS.drawn {w w0 w' : World} {A B : Option Addr} {rb n c P cb : Nat} {os : List Od} (h : SoS w0 w' rb A n c P B cb os) (hb : Below w.heap.size w w0) (hr : w.heap.size ≤ rb) : DrawnO w (.returned (.slice B os.length cb)) w' := by
  have hl := h.few
  refine ⟨os, B, cb, rfl, h.own.ops h.wf (by omega), fun e => ?_, h.own.capLen, h.few, h.grew.below hb hr hb.size⟩
  rcases h.own.form with ⟨_, h2, _⟩ | ⟨g, h2, _⟩
  · exact h2
  · rw [h2] at e; cases e
set_option maxHeartbeats 1000000 in
theorem drawOps_any (A : Option Addr) (n c : Nat) (w : World) (h : BytesAt w w.heap.size A n) (hc : n ≤ c) (hn : n ≤ 9223372036854775807) :
    Calls Tryd.prog 4 #[.slice A n c] w (DrawnO w) := by
  go_enter Tryd.func4, Tryd.ntmps4
  go_wp2_with fail
  refine (newReader_any A n c w h hc hn).mono ?_
  rintro e w1 ⟨rfl, ⟨n', c', hrd⟩, hb1⟩
  clear h
  go_wp2_with fail
  refine (someOps_any w.heap.size A n' c' 0 w1 hrd (by omega)).mono ?_
  rintro e w2 ⟨os, B, cb, rfl, hS⟩
  have HF := hide (hS.drawn hb1 (Nat.le_refl _))
  clear hS hrd hb1
  go_wp2
  go_ret
  exact HF.out
end Go.Proofs.YthckkpbjpgfdcabDoor

namespace Go.Proofs.YthckkpbjpgfdcabDoor
open Go.RowKit
set_option linter.unusedVariables false
theorem dMark_is {c : Int} (h0 : 0 ≤ c) (h1 : c ≤ 19) : dMark c = if takesC c = -1 then -1 else if c = 2 then 1 else 0 := by
  obtain ⟨n, rfl⟩ := Int.eq_ofNat_of_zero_le h0
  have hn : n < 20 := by omega
  have e : takesC (n : Int) = takesOf n := by unfold takesC; rw [if_pos ⟨h0, h1⟩]; rfl
  rw [e]
  clear h0 h1 e
  revert n
  decide
theorem dMark_take {c : Int} (h0 : 0 ≤ c) (h1 : c ≤ 19) (h : takesC c = -1) : dMark c = -1 := by rw [dMark_is h0 h1, if_pos h]
theorem dMark_two {c : Int} (h : c = 2) : dMark c = 1 ∧ takesC c ≠ -1 := by subst h; decide
theorem dMark_none {c : Int} (h0 : 0 ≤ c) (h1 : c ≤ 19) (h : takesC c ≠ -1) (h2 : c ≠ 2) : dMark c = 0 := by rw [dMark_is h0 h1, if_neg h, if_neg h2]
theorem dMark_small (c : Int) : -1 ≤ dMark c ∧ dMark c ≤ 1 := by unfold dMark; split <;> (try split) <;> omega
theorem toldOf_at {f : List Int → Nat} {os : List Od} {n k : Nat} {x : Int} (h : (toldOf f os n)[k]? = some x) : k < n ∧ x = ((f (stk os (k + 1)) : Nat) : Int) := by
  unfold toldOf at h
  rw [List.getElem?_map] at h
  cases hr : (List.range n)[k]? with
  | none => rw [hr] at h; cases h
  | some j =>
    rw [hr] at h
    obtain ⟨h1, h2⟩ := List.getElem?_eq_some_iff.1 hr
    simp at h1 h2
    subst h2
    simp at h
    exact ⟨h1, h.symm⟩
set_option maxRecDepth 100000 in
set_option maxHeartbeats 1000000 in
theorem lawMK_any (A : Option Addr) (n c : Nat) (w : World) (h : BytesAt w w.heap.size A n) (hc : n ≤ c) (hn : n ≤ 9223372036854775807) (hF : FormsAt w w.heap.size) (hN : NeedsAt w w.heap.size) :
    Calls Tryd.prog 3 #[.slice A n c] w fun e w' => e = .returned (.bool true) ∧ Below w.heap.size w w' := by
  by_cases hbig : 1048576 < n
  · have d : decide ((1048576 : Int) < (n : Int)) = true := by simp; omega
    go_enter Tryd.func3, Tryd.ntmps3
    go_wp2
    go_ret
    exact ⟨rfl, Below.refl _ _⟩
  · have d : decide ((1048576 : Int) < (n : Int)) = false := by simp; omega
    go_enter Tryd.func3, Tryd.ntmps3
    go_wp2_with fail
    refine (drawOps_any A n c w h hc hn).mono ?_
    rintro e w1 ⟨os, B, cb, rfl, ho1, hnil, hcap, hfew, hb1⟩
    have hF1 := hF.later hb1 (Nat.le_refl _)
    have hN1 := hN.later hb1 (Nat.le_refl _)
    have HW1 := hide hb1
    clear h hF hN
    obtain ⟨R, hR⟩ : ∃ s, marksOf os = s := ⟨_, rfl⟩
    have hRf : R.length ≤ 1000 := by have := @marksOf_few os; rw [hR] at this; omega
    have h64 : ∀ x ∈ R, In64 x := by have := @marksOf_64 os; rw [hR] at this; exact this
    have HI := implMarksOf_any B os cb w1 ho1 hF1 hN1
    rw [hR] at HI
    have HS := hide fun W (hW : OpsAt W W.heap.size B os) => specMarksOf_any B os cb W hW hcap
    rw [hR] at HS
    have HR := hide hR
    have H64 := hide h64
    clear hR h64
    go_wp2_with fail
    refine HI.mono ?_
    clear HI
    rintro e w2 ⟨A2, c2, rfl, ho2, hb2⟩
    have HW2 := hide (HW1.out.trans (hb2.mono HW1.out.size))
    have HP2 := hide (ho1.later hb2 (Nat.le_refl _))
    have HF2 := hide (hF1.later hb2 (Nat.le_refl _))
    have HN2 := hide (hN1.later hb2 (Nat.le_refl _))
    have HO2 := hide (ho2.ints H64.out (by omega))
    have hwf := hide ho1.wf
    clear ho1 hF1 hN1 hb1 hb2 HW1 ho2
    go_wp2_with fail
    refine (HS.out w2 HP2.out).mono ?_
    rintro e w3 ⟨A3, c3, rfl, ho3, hb3⟩
    have HW3 := hide (HW2.out.trans (hb3.mono HW2.out.size))
    have HP3 := hide (HP2.out.later hb3 (Nat.le_refl _))
    have HF3 := hide (HF2.out.later hb3 (Nat.le_refl _))
    have HN3 := hide (HN2.out.later hb3 (Nat.le_refl _))
    have HI3 := hide (HO2.out.later hb3 (Nat.le_refl _))
    have HO3 := hide (ho3.ints H64.out (by omega))
    clear hb3 ho3 HW2 HP2 HF2 HN2 HO2
    go_wp2_with fail
    refine (equalInts_any A2 A3 R R c2 c3 w3 HI3.out HO3.out).mono ?_
    rintro e w4 ⟨rfl, hb4⟩
    rw [decide_eq_true (rfl : R = R)]
    have HW4 := hide (HW3.out.trans (hb4.mono HW3.out.size))
    have HP4 := hide (HP3.out.later hb4 (Nat.le_refl _))
    have HF4 := hide (HF3.out.later hb4 (Nat.le_refl _))
    have HN4 := hide (HN3.out.later hb4 (Nat.le_refl _))
    have HI4 := hide (HI3.out.later hb4 (Nat.le_refl _))
    clear hb4 HW3 HP3 HF3 HN3 HI3 HO3
    by_cases hz : R.length = 0
    · have d2 : ((R.length : Int) == 0) = true := by simp [hz]
      clear hz
      go_wp2_with fail
      refine (HS.out w4 HP4.out).mono ?_
      rintro e w5 ⟨A5, c5, rfl, ho5, hb5⟩
      have HW5 := hide (HW4.out.trans (hb5.mono HW4.out.size))
      have HI5 := hide (HI4.out.later hb5 (Nat.le_refl _))
      have HO5 := hide (ho5.ints H64.out (by omega))
      clear hb5 ho5
      go_wp2_with fail
      refine (equalInts_any A2 A5 R R c2 c5 w5 HI5.out HO5.out).mono ?_
      rintro e w6 ⟨rfl, hb6⟩
      rw [decide_eq_true (rfl : R = R)]
      have HW6 := hide (HW5.out.trans (hb6.mono HW5.out.size))
      clear hb6
      go_wp2
      go_ret
      exact ⟨rfl, HW6.out⟩
    · have d2 : ((R.length : Int) == 0) = false := by rw [beq_eq_false_iff_ne]; omega
      have hok : OpsOk os := by
        by_cases hok : OpsOk os
        · exact hok
        · exfalso
          have : marksOf os = [] := by unfold marksOf; rw [if_neg hok]
          rw [HR.out] at this
          rw [this] at hz
          exact hz rfl
      have hm : R = toldOf marksIn os (runShp Shp.new os).2 := by
        rw [← HR.out]; unfold marksOf; rw [if_pos hok]
      have hlen : R.length = (runShp Shp.new os).2 := by rw [hm, toldOf_len]
      have hle : R.length ≤ os.length := by rw [hlen]; exact run_le hok.2
      have Hok := hide hok
      have Hm := hide hm
      have Hlen := hide hlen
      clear hok hm hlen HS
      have hst0 : ((marksIn (stk os 0) : Nat) : Int) = 0 := rfl
      go_wp2_with fail
      go_loopw [5, 6] (fun bv iv wr => ∃ k : Nat, k ≤ R.length ∧ iv = .int .i64 (k : Int) ∧ bv = .int .i64 ((marksIn (stk os k) : Nat) : Int) ∧ Below w.heap.size w wr ∧ OpsAt wr wr.heap.size B os ∧ FormsAt wr wr.heap.size ∧ NeedsAt wr wr.heap.size ∧ IntsAt wr wr.heap.size A2 R) (fun _ iv _ => R.length - (intOf iv).toNat)
      case atStart => exact ⟨0, Nat.zero_le _, rfl, rfl, HW4.out, HP4.out, HF4.out, HN4.out, HI4.out⟩
      case round =>
        obtain ⟨k, hk, rfl, rfl, hb, hP, hF, hN, hI⟩ := hrel
        clear HW4 HP4 HF4 HN4 HI4 d2 hz
        have HB := hide hb
        have HP := hide hP
        have HF := hide hF
        have HN := hide hN
        have HI := hide hI
        clear hb hP hF hN hI
        by_cases hlt : k < R.length
        · obtain ⟨b, off, o, rfl, hbl, hx, hmem, hc0, hc1⟩ := HP.out.at_ (show k < os.length by omega)
          obtain ⟨b2, off2, x, rfl, hbl2, hy, _, hd0⟩ := HI.out.at_ hlt
          have hy2 := hy
          rw [Hm.out] at hy2
          obtain ⟨hkn, hxe⟩ := toldOf_at hy2
          obtain ⟨o2, ho2, hnx⟩ := marks_next Hok.out hkn
          obtain rfl : o2 = o := by rw [hx] at ho2; injection ho2 with e; exact e.symm
          obtain ⟨⟨hp1, hp2⟩, _, _⟩ := (OdOk.iff _).1 (Hok.out.2 o2 hmem)
          rw [← hxe] at hnx
          have hmk := marksIn_le (stk os k)
          have hml := stk_le Hok.out.2 k
          have hk1 : (0 : Int) ≤ (k : Int) := by omega
          have hk2 : (k : Int) < (os.length : Int) := by omega
          have hk3 : (k : Int) < (R.length : Int) := by omega
          have HT := hide (implTakesOf_any o2.code)
          have hT1 := hide (dMark_take hp1 (by omega))
          have hT2 := hide (dMark_none hp1 (by omega))
          have hT3 := hide (@dMark_two o2.code)
          have Hx := hide hxe
          clear hx hmem hy hy2 ho2 hkn hxe
          obtain ⟨cd, ar⟩ := o2
          simp only at hc0 hc1 hnx HT hT1 hT2 hT3 hp1 hp2
          obtain ⟨mk, hmk2⟩ : ∃ m, m = marksIn (stk os k) := ⟨_, rfl⟩
          rw [← hmk2] at hnx hmk ⊢
          obtain ⟨dm, hdm⟩ : ∃ m, m = dMark cd := ⟨_, rfl⟩
          rw [← hdm] at hnx hT1 hT2 hT3
          have hdd := dMark_small cd
          rw [← hdm] at hdd
          have hmk3 : (mk : Int) ≤ 300 := by omega
          have hmk4 : (0 : Int) ≤ (mk : Int) := by omega
          have hx1 : -1 ≤ x ∧ x ≤ 301 := by omega
          clear hmk hml hmk2 hdm
          go_wp2_with fail
          refine (HT.out _ HF.out).mono ?_
          rintro e w2 ⟨rfl, hb2⟩
          have HB2 := hide (HB.out.trans (hb2.mono HB.out.size))
          have HP2 := hide (HP.out.later hb2 (Nat.le_refl _))
          have HF2 := hide (HF.out.later hb2 (Nat.le_refl _))
          have HN2 := hide (HN.out.later hb2 (Nat.le_refl _))
          have HI2 := hide (HI.out.later hb2 (Nat.le_refl _))
          have g0 := (hb2.cell (p := ⟨b, off + k * 2, none⟩) hbl).trans hc0
          have g1 := (hb2.cell (p := ⟨b, off + k * 2 + 1, none⟩) hbl).trans hc1
          have gd := (hb2.cell (p := ⟨b2, off2 + k, none⟩) hbl2).trans hd0
          clear hb2 HP HF HN HI HB hc0 hc1 hd0 HT
          generalize pushesC cd = pc
          by_cases h2 : cd = 2
          · obtain ⟨e1, e2⟩ := hT3 h2
            obtain rfl : dm = 1 := e1
            have t2 : (cd == 2) = true := by simpa using h2
            have t3 : (takesC cd == -1) = false := by simpa using e2
            have t4 : (x != (mk : Int) + 1) = false := by simpa using hnx
            generalize takesC cd = tc at t3
            clear hT1 hT2 hT3 e2 h2 hdd hnx
            go_wp2
            go_roundw
            case rel => exact ⟨k + 1, by omega, by go_num, congrArg _ Hx.out, HB2.out, HP2.out, HF2.out, HN2.out, HI2.out⟩
            case measure => simp [intOf]; omega
          · have t2 : (cd == 2) = false := by simpa using h2
            by_cases ht : takesC cd = -1
            · obtain rfl : dm = -1 := hT1 ht
              have t3 : (takesC cd == -1) = true := by simpa using ht
              have t4 : (x != (mk : Int) + -1) = false := by simpa using hnx
              generalize takesC cd = tc at t3
              clear hT1 hT2 hT3 h2 hdd hnx ht
              go_wp2
              go_roundw
              case rel => exact ⟨k + 1, by omega, by go_num, congrArg _ Hx.out, HB2.out, HP2.out, HF2.out, HN2.out, HI2.out⟩
              case measure => simp [intOf]; omega
            · obtain rfl : dm = 0 := hT2 ht h2
              have t3 : (takesC cd == -1) = false := by simpa using ht
              have hnx2 : x = (mk : Int) := by omega
              subst hnx2
              have t4 : ((mk : Int) != (mk : Int)) = false := by simp
              generalize takesC cd = tc at t3
              clear hT1 hT2 hT3 h2 hdd hnx ht
              go_wp2
              go_roundw
              case rel => exact ⟨k + 1, by omega, by go_num, congrArg _ Hx.out, HB2.out, HP2.out, HF2.out, HN2.out, HI2.out⟩
              case measure => simp [intOf]; omega
        · obtain rfl : k = R.length := by omega
          have hdl : (depthsOf os).length = R.length := by unfold depthsOf; rw [if_pos Hok.out, toldOf_len, Hlen.out]
          have hwm := @whole_marks os
          rw [← Hlen.out] at hwm
          have HD := implDepthsOf_any B os cb wr HP.out HF.out HN.out
          obtain ⟨D, hD⟩ : ∃ d, d = depthsOf os := ⟨_, rfl⟩
          rw [← hD] at HD hdl
          have HWn := hide fun W h1 h2 h3 => implIsWhole_any B os cb W h1 h2 h3
          generalize marksIn (stk os R.length) = mk at *
          have HDd := hide HD
          clear HD hD hlt hk
          go_wp2_with fail
          refine HDd.out.mono ?_
          rintro e w5 ⟨A5, c5, rfl, ho5, hb5⟩
          have HB5 := hide (HB.out.trans (hb5.mono HB.out.size))
          have HP5 := hide (HP.out.later hb5 (Nat.le_refl _))
          have HF5 := hide (HF.out.later hb5 (Nat.le_refl _))
          have HN5 := hide (HN.out.later hb5 (Nat.le_refl _))
          clear HDd hb5 ho5 HP HF HN HI HB
          rw [hdl]
          go_wp2_with fail
          refine (HWn.out w5 HP5.out HF5.out HN5.out).mono ?_
          rintro e w6 ⟨rfl, hb6⟩
          have HB6 := hide (HB5.out.trans (hb6.mono HB5.out.size))
          clear hb6 HWn
          by_cases hw : Whole os
          · rw [tf_true hw]
            obtain rfl : mk = 0 := hwm hw
            go_wp2
            go_ret
            exact ⟨rfl, HB6.out⟩
          · rw [tf_false hw]
            go_wp2
            go_ret
            exact ⟨rfl, HB6.out⟩
end Go.Proofs.YthckkpbjpgfdcabDoor
