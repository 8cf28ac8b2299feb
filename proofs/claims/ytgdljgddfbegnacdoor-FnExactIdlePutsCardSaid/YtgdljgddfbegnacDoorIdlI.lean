/-
  The program's IdlePuts: what it returns.
-/
import Derived.Test.YtgdljgddfbegnacDoorIdlIA
import Derived.Test.YtgdljgddfbegnacDoorOwn
namespace Go.Proofs.YtgdljgddfbegnacDoor
open Go.RowKit
set_option linter.unusedVariables false

set_option maxRecDepth 100000 in
set_option maxHeartbeats 1000000 in
theorem implIdlePuts_any (A : Option Addr) (os : List Od) (c : Nat) (w : World) (h : OpsAt w w.heap.size A os) (hF : FormsAt w w.heap.size) :
    Calls Tryd.prog 7 #[.slice A os.length c] w (GivesInts w (idlesOf os)) := by
  have hl := h.len
  by_cases hok : OpsOk os
  · rw [idlesOf_ok hok]
    have ht := hide (tf_true hok)
    have hl3 := hok.1
    have Hok := hide hok
    clear hok
    go_enter Tryd.func7, Tryd.ntmps7
    go_wp2_with fail
    refine (implValidOps_any A os c w h hF).mono ?_
    rintro e w1 ⟨rfl, hb1⟩
    rw [ht.out]
    have h1 := h.later hb1 (Nat.le_refl _)
    go_wp2_with fail
    refine (areIdle_any A os c w1 h1 Hok.out).mono ?_
    rintro e w2 ⟨rfl, hrow, hb2⟩
    have hb3 := hb1.trans (hb2.mono hb1.size)
    have hsz := hb1.size
    clear h1 hb1
    have hg := hrow.lt
    generalize w1.heap.size = g at hrow hsz hb2 hg ⊢
    clear hb2
    go_wp2_with fail
    go_loopw [3, 12] (fun mv iv wr => ∃ (k : Nat) (A' : Option Addr) (c' : Nat), k ≤ os.length ∧ iv = .int .i64 (k : Int) ∧ mv = .slice A' (idlesTo os k).length c' ∧ OwnI wr (g + 1) A' c' (idlesTo os k) ∧ Below w.heap.size w wr ∧ wr.rowIs g 4 os.length (fun i => .bool (idleAt os i))) (fun _ iv _ => os.length - (intOf iv).toNat)
    case atStart => exact ⟨0, none, 0, Nat.zero_le _, rfl, by rw [idlesTo_zero]; rfl, by rw [idlesTo_zero]; exact OwnI.empty _ _, hb3, hrow⟩
    case round =>
      clear hb3 hrow
      obtain ⟨k, A', c', hk, rfl, rfl, hown, hb, hrow⟩ := hrel
      by_cases hlt : k < os.length
      · have hpl := idlesTo_len os k
        have hk1 : (0 : Int) ≤ (k : Int) := by omega
        have hk2 : (k : Int) < (os.length : Int) := by omega
        have hka : In64 (k : Int) := by constructor <;> omega
        have hgr := hrow.lt
        have d1 := hrow.cell hlt
        have HR := hide hrow
        clear hrow
        cases hid : idleAt os k with
        | false =>
          have HS := hide (idlesTo_no hid)
          rw [hid] at d1
          clear hid
          generalize idlesTo os k = L at hown HS hpl ⊢
          go_wp2
          go_roundw
          case rel => exact ⟨k + 1, A', c', by omega, by go_num, by rw [HS.out], by rw [HS.out]; exact hown, hb, HR.out⟩
          case measure => simp [intOf]; omega
        | true =>
          have HS := hide (idlesTo_yes hid)
          rw [hid] at d1
          clear hid
          generalize idlesTo os k = L at hown HS hpl ⊢
          go_wp2_with (at_builtin; refine append_ints rfl (.tmp 18) (.tmp 20) rfl (g + 1) A' c' L rfl (hown.alloc _) (wr.heap.size + 1) _ 1 [(k : Int)] rfl (fun e => by cases e) (IntsAt.one wr (k : Int) hka) (by simp <;> omega) (by simp <;> omega) ?_; intro zs A2 c2 w5 hz hown5 hgrow5 hat5)
          go_roundw
          case rel => exact ⟨k + 1, A2, c2, by omega, by go_num, by rw [HS.out, hz.out], by rw [HS.out, ← hz.out]; exact hown5, below_grown (hb.alloc hb.size _) hgrow5 (by have := hb.size; simp; omega) (fun q hq => by have := (hown.blocks q hq).1; omega), (HR.out.alloc _).of_block (hgrow5.block g (by simp; omega) (fun e => by have := (hown.blocks g e.symm).1; omega))⟩
          case measure => simp [intOf]; omega
      · obtain rfl : k = os.length := by omega
        clear hlt hrow
        have HO := hide (show ∃ n, n = (idlesTo os os.length).length ∧ OwnI wr w.heap.size A' c' (idlesTo os os.length) from ⟨_, rfl, hown.mono (by omega)⟩)
        clear hown
        go_wp2
        go_ret
        obtain ⟨_, _, ho⟩ := HO.out
        exact ⟨A', c', rfl, ho, hb⟩
  · rw [idlesOf_no hok]
    have ht := hide (tf_false hok)
    clear hok
    go_enter Tryd.func7, Tryd.ntmps7
    go_wp2_with fail
    refine (implValidOps_any A os c w h hF).mono ?_
    rintro e w1 ⟨rfl, hb1⟩
    rw [ht.out]
    go_wp2
    go_ret
    exact ⟨none, 0, rfl, OwnI.empty _ _, hb1⟩

end Go.Proofs.YtgdljgddfbegnacDoor
