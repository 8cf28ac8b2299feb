/-
  The model's IdlePuts: what it returns.
-/
import Derived.Test.YtgdljgddfbegnacDoorIdlSA
import Derived.Test.YtgdljgddfbegnacDoorOwn
namespace Go.Proofs.YtgdljgddfbegnacDoor
open Go.RowKit
set_option linter.unusedVariables false

set_option maxRecDepth 100000 in
set_option maxHeartbeats 1000000 in
theorem specIdlePuts_any (A : Option Addr) (os : List Od) (c : Nat) (w : World) (h : OpsAt w w.heap.size A os) :
    Calls Tryd.prog 5 #[.slice A os.length c] w (GivesInts w (idlesOf os)) := by
  have hl := h.len
  by_cases hok : OpsOk os
  · rw [idlesOf_ok hok]
    have ht := hide (tf_true hok)
    have hl3 := hok.1
    clear hok
    go_enter Tryd.func5, Tryd.ntmps5
    go_wp2_with fail
    refine (specValidOps_any A os c w h).mono ?_
    rintro e w1 ⟨rfl, hb1⟩
    rw [ht.out]
    have hbare := OwnI.bare w1
    have hb2 := hb1.alloc hb1.size (.cells #[] 3)
    have hsz := hb1.size
    go_wp2_with fail
    generalize w1.alloc (.cells #[] 3) = w2 at hbare hb2 ⊢
    go_loopw [3, 4] (fun mv iv wr => ∃ (k : Nat) (A' : Option Addr) (c' : Nat), k ≤ os.length ∧ iv = .int .i64 (k : Int) ∧ mv = .slice A' (idlesTo os k).length c' ∧ OwnI wr w.heap.size A' c' (idlesTo os k) ∧ Below w.heap.size w wr) (fun _ iv _ => os.length - (intOf iv).toNat)
    case atStart => exact ⟨0, some ⟨w1.heap.size, 0, none⟩, 0, Nat.zero_le _, rfl, rfl, hbare.mono hsz, hb2⟩
    case round =>
      clear hbare hb2
      obtain ⟨k, A', c', hk, rfl, rfl, hown, hb⟩ := hrel
      by_cases hlt : k < os.length
      · have hpl := idlesTo_len os k
        have hk1 : (0 : Int) ≤ (k : Int) := by omega
        have hk2 : (k : Int) < (os.length : Int) := by omega
        have hka : In64 (k : Int) := by constructor <;> omega
        have hr := h.later hb (Nat.le_refl _)
        cases hid : idleAt os k with
        | false =>
          have HS := hide (idlesTo_no hid)
          have HI := hide hid
          clear hid
          generalize idlesTo os k = L at hown HS hpl ⊢
          go_wp2_with fail
          refine (specIdle_any A os c k wr hr hlt).mono ?_
          rintro e w3 ⟨rfl, hb3⟩
          rw [HI.out]
          have hown3 := hown.below hb3
          have hb4 := hb.trans (hb3.mono hb.size)
          clear hown hb3 hb hr
          go_wp2
          go_roundw
          case rel => exact ⟨k + 1, A', c', by omega, by go_num, by rw [HS.out], by rw [HS.out]; exact hown3, hb4⟩
          case measure => simp [intOf]; omega
        | true =>
          have HS := hide (idlesTo_yes hid)
          have HI := hide hid
          clear hid
          generalize idlesTo os k = L at hown HS hpl ⊢
          go_wp2_with fail
          refine (specIdle_any A os c k wr hr hlt).mono ?_
          rintro e w3 ⟨rfl, hb3⟩
          rw [HI.out]
          have hown3 := hown.below hb3
          have hb4 := hb.trans (hb3.mono hb.size)
          clear hown hb3 hb hr
          have hsz3 := hb4.size
          go_wp2_with (at_builtin; refine append_ints rfl (.tmp 18) (.tmp 20) rfl w.heap.size A' c' L rfl (hown3.alloc _) (w3.heap.size + 1) _ 1 [(k : Int)] rfl (fun e => by cases e) (IntsAt.one w3 (k : Int) hka) (by simp <;> omega) (by simp <;> omega) ?_; intro zs A2 c2 w5 hz hown5 hgrow5 hat5)
          go_roundw
          case rel => exact ⟨k + 1, A2, c2, by omega, by go_num, by rw [HS.out, hz.out], by rw [HS.out, ← hz.out]; exact hown5, below_grown (hb4.alloc hsz3 _) hgrow5 (by simp; omega) (fun q hq => (hown3.blocks q hq).1)⟩
          case measure => simp [intOf]; omega
      · obtain rfl : k = os.length := by omega
        clear hlt
        have HO := hide (show ∃ n, n = (idlesTo os os.length).length ∧ OwnI wr w.heap.size A' c' (idlesTo os os.length) from ⟨_, rfl, hown⟩)
        clear hown
        go_wp2
        go_ret
        obtain ⟨_, _, ho⟩ := HO.out
        exact ⟨A', c', rfl, ho, hb⟩
  · rw [idlesOf_no hok]
    have ht := hide (tf_false hok)
    clear hok
    go_enter Tryd.func5, Tryd.ntmps5
    go_wp2_with fail
    refine (specValidOps_any A os c w h).mono ?_
    rintro e w1 ⟨rfl, hb1⟩
    rw [ht.out]
    go_wp2
    go_ret
    exact ⟨none, 0, rfl, OwnI.empty _ _, hb1⟩

end Go.Proofs.YtgdljgddfbegnacDoor
