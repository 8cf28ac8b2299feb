/-
  Lemmas, several texts in one: DrawSZ, LawSZ.
-/
import Derived.Test.YtfigekdejocakabDoorPjAi
import Derived.Test.YtfigekdejocakabDoorSoO
import Derived.Test.YtfigekdejocakabDoorPjAh
import Derived.Test.YtfigekdejocakabDoorPjAj
import Derived.Test.YtfigekdejocakabDoorPjAg
namespace Go.Proofs.YtfigekdejocakabDoor
open Go.RowKit
set_option linter.unusedVariables false

/-- some program that can be read comes back, and old memory is as it was -/
def DrawnO (w : World) (e : Ending) (w' : World) : Prop :=
  ∃ (os : List Od) (B : Option Addr) (cb : Nat), e = .returned (.slice B os.length cb) ∧ OpsAt w' w'.heap.size B os ∧ (B = none → cb = 0) ∧ os.length ≤ cb ∧ os.length ≤ 2000 ∧ Below w.heap.size w w'

theorem SoS.drawn {w w0 w' : World} {A B : Option Addr} {rb n c P cb : Nat} {os : List Od} (h : SoS w0 w' rb A n c P B cb os) (hb : Below w.heap.size w w0) (hr : w.heap.size ≤ rb) : DrawnO w (.returned (.slice B os.length cb)) w' := by
  have hl := h.few
  refine ⟨os, B, cb, rfl, h.own.ops h.wf (by omega), fun e => ?_, h.own.capLen, h.few, h.grew.below hb hr hb.size⟩
  rcases h.own.form with ⟨_, h2, _⟩ | ⟨g, h2, _⟩
  · exact h2
  · rw [h2] at e; cases e

set_option maxHeartbeats 1000000 in
theorem drawOps_any (A : Option Addr) (n c : Nat) (w : World) (h : BytesAt w w.heap.size A n) (hc : n ≤ c) (hn : n ≤ 9223372036854775807) :
    Calls Tryd.prog 4 #[.slice A n c] w (DrawnO w) := by
  go_enter Tryd.func4, Tryd.ntmps4
  go_wp2_with fail
  refine (newReader_any A n c w h hc hn).mono ?_
  rintro e w1 ⟨rfl, ⟨n', c', hrd⟩, hb1⟩
  clear h
  go_wp2_with fail
  refine (someOps_any w.heap.size A n' c' 0 w1 hrd (by omega)).mono ?_
  rintro e w2 ⟨os, B, cb, rfl, hS⟩
  have HF := hide (hS.drawn hb1 (Nat.le_refl _))
  clear hS hrd hb1
  go_wp2
  go_ret
  exact HF.out

end Go.Proofs.YtfigekdejocakabDoor

namespace Go.Proofs.YtfigekdejocakabDoor
open Go.RowKit
set_option linter.unusedVariables false

set_option maxRecDepth 100000 in
set_option maxHeartbeats 8000000 in
theorem lawSZ_any (A : Option Addr) (n c : Nat) (w : World) (h : BytesAt w w.heap.size A n) (hc : n ≤ c) (hn : n ≤ 9223372036854775807) (hF : FormsAt w w.heap.size) :
    Calls Tryd.prog 3 #[.slice A n c] w fun e w' => e = .returned (.bool true) ∧ Below w.heap.size w w' := by
  by_cases hbig : 1048576 < n
  · have d : decide ((1048576 : Int) < (n : Int)) = true := by simp; omega
    go_enter Tryd.func3, Tryd.ntmps3
    go_wp2
    go_ret
    exact ⟨rfl, Below.refl _ _⟩
  · have d : decide ((1048576 : Int) < (n : Int)) = false := by simp; omega
    go_enter Tryd.func3, Tryd.ntmps3
    go_wp2_with fail
    refine (drawOps_any A n c w h hc hn).mono ?_
    rintro e w1 ⟨os, B, cb, rfl, ho1, hnil, hcap, hfew, hb1⟩
    have hF1 := hF.later hb1 (Nat.le_refl _)
    have HW1 := hide hb1
    clear h hF
    obtain ⟨s, hs⟩ : ∃ s, sizeOfOps os = s := ⟨_, rfl⟩
    have HS := hide hs
    clear hs
    go_wp2_with fail
    refine (implSizeOf_any B os cb w1 ho1 hF1).mono ?_
    rintro e w2 ⟨rfl, hb2⟩
    rw [HS.out]
    have HW2 := hide (HW1.out.trans (hb2.mono HW1.out.size))
    have HP2 := hide (ho1.later hb2 (Nat.le_refl _))
    have HF2 := hide (hF1.later hb2 (Nat.le_refl _))
    clear ho1 hF1 hb1 hb2
    go_wp2_with fail
    refine (specSizeOf_any B os cb w2 HP2.out).mono ?_
    rintro e w3 ⟨rfl, hb3⟩
    rw [HS.out]
    have HW3 := hide (HW2.out.trans (hb3.mono HW2.out.size))
    have HP3 := hide (HP2.out.later hb3 (Nat.le_refl _))
    have HF3 := hide (HF2.out.later hb3 (Nat.le_refl _))
    have hne : (s != s) = false := by simp
    clear hb3 HP2 HF2
    by_cases hok : OpsOk os
    · have Hok := hide hok
      have hsl : s = ((encs os).length : Int) := by rw [← HS.out, sizeOfOps_ok hok]
      have h300 := hok.1
      have Hsl := hide hsl
      have hsn : ¬ s < 0 := by omega
      have hsn2 : decide (s < 0) = false := by simp; omega
      clear hok hsl
      go_wp2_with fail
      go_loopw [5, 6, 7] (fun nv iv kv wr => ∃ k : Nat, k ≤ os.length ∧ iv = .int .i64 (k : Int) ∧ nv = .int .i64 ((encs (os.take k)).length : Int) ∧ Below w3.heap.size w3 wr) (fun _ iv _ _ => os.length - (intOf iv).toNat)
      case atStart => exact ⟨0, Nat.zero_le _, rfl, rfl, Below.refl _ _⟩
      case round =>
        obtain ⟨k, hk, rfl, rfl, hbr⟩ := hrel
        have Hbr := hide hbr
        have hel := encs_len (os.take k)
        rw [List.length_take] at hel
        by_cases hlt : k < os.length
        · have HPr := hide (HP3.out.later hbr (Nat.le_refl _))
          have HFr := hide (HF3.out.later hbr (Nat.le_refl _))
          obtain ⟨b, off, o, rfl, hbl, hx, hmem, _, _⟩ := HPr.out.at_ hlt
          have h1 : ((os.drop k).take 1 : List Od) = [o] := by
            rw [List.drop_eq_getElem_cons hlt, List.take_succ_cons, List.take_zero]
            rw [List.getElem?_eq_getElem hlt] at hx
            rw [Option.some.inj hx]
          have hok1 : OpsOk [o] := ⟨by simp, fun p hp => by rw [List.mem_singleton.1 hp]; exact Hok.out.2 o hmem⟩
          have hl1 := encO_len o
          have hsz : Hid (sizeOfOps [o] = ((encO o).length : Int)) := by show _ = _; rw [sizeOfOps_ok hok1]; simp [encs]
          have hnx : Hid ((encs (os.take (k + 1))).length = (encs (os.take k)).length + (encO o).length) := by show _ = _; rw [encs_next hx, List.length_append]
          have HI := hide (implSizeOf_any (some ⟨b, off + k * 2, none⟩) [o] (cb - k) wr (by rw [← h1]; exact (HPr.out.behind k).begin 1) HFr.out)
          have hk1 : (0 : Int) ≤ (k : Int) := by omega
          have hk2 : (k : Int) < (os.length : Int) := by omega
          have hck : ¬ cb = k := by omega
          have hkc : (k : Int) + 1 ≤ (cb : Int) := by omega
          clear hx hmem h1 hok1 hbr
          generalize (encs (os.take k)).length = m at hel hnx
          generalize hz : (encO o).length = z at hl1 hsz hnx
          clear hz
          have hz1 : ¬ (z : Int) < 1 := by omega
          have hz2 : ¬ (3 : Int) < (z : Int) := by omega
          go_wp2_with fail
          refine HI.out.mono ?_
          rintro e w4 ⟨rfl, hb4⟩
          rw [hsz.out]
          have HB4 := hide (Hbr.out.trans (hb4.mono Hbr.out.size))
          clear hb4 HI HPr HFr
          go_wp2
          go_roundw
          case rel => exact ⟨k + 1, by omega, by go_num, by rw [hnx.out]; go_num, HB4.out⟩
          case measure => simp [intOf]; omega
        · obtain rfl : k = os.length := by omega
          have HWr := hide (HW3.out.trans (hbr.mono HW3.out.size))
          have hf : Hid (s = ((encs (os.take os.length)).length : Int)) := by show _ = _; rw [List.take_length]; exact Hsl.out
          clear hbr hlt hel
          go_wp2
          go_ret
          exact ⟨by rw [hf.out]; simp, HWr.out⟩
    · have hsl : s = -1 := by rw [← HS.out, sizeOfOps_no hok]
      subst hsl
      clear hok
      go_wp2_with fail
      refine (specSizeOf_any B os cb w3 HP3.out).mono ?_
      rintro e w4 ⟨rfl, hb4⟩
      rw [HS.out]
      have HW4 := hide (HW3.out.trans (hb4.mono HW3.out.size))
      clear hb4
      go_wp2
      go_ret
      exact ⟨rfl, HW4.out⟩

end Go.Proofs.YtfigekdejocakabDoor
