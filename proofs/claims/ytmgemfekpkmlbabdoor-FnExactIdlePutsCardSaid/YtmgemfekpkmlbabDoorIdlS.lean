/-
  The model's idle and IdlePuts: what each returns.
-/
import Derived.Test.YtmgemfekpkmlbabDoorIdlM
import Derived.Test.YtmgemfekpkmlbabDoorOwn
import Derived.Test.YtmgemfekpkmlbabDoorSpecO
import Derived.Deep.QuietTactic
import Derived.BigQuiet
namespace Go.Proofs.YtmgemfekpkmlbabDoor
open Go.RowKit
set_option linter.unusedVariables false

set_option maxRecDepth 100000 in
set_option maxHeartbeats 2000000 in
theorem specIdle_any (A : Option Addr) (os : List Od) (c : Nat) (i : Nat) (w : World) (h : OpsAt w w.heap.size A os) (hi : i < os.length) :
    Calls Tryd.prog 14 #[.slice A os.length c, .int .i64 (i : Int)] w fun e w' => e = .returned (.bool (idleAt os i)) ∧ Below w.heap.size w w' := by
  have hl := h.len
  obtain ⟨b, off, o, rfl, hbl, hx, hmem, hc0, hc1⟩ := h.at_ hi
  have hi1 : (0 : Int) ≤ (i : Int) := by omega
  have hi2 : (i : Int) < (os.length : Int) := by omega
  by_cases h15 : o.code = 15
  · have HI := hide (idleAt_put hx h15)
    have hc0' := hc0
    rw [h15] at hc0
    have t15 : ((15 : Int) != 15) = false := rfl
    clear hc0' hx hmem h15
    go_enter Tryd.func14, Tryd.ntmps14
    go_wp2_with fail
    clear t15 hc0
    go_loopw [5] (fun iv wr => ∃ j : Nat, i + 1 ≤ j ∧ j ≤ os.length ∧ iv = .int .i64 (j : Int) ∧ Below w.heap.size w wr ∧ gotIn (os.drop (i + 1)) o.arg = gotIn (os.drop j) o.arg) (fun iv _ => os.length - (intOf iv).toNat)
    case atStart => exact ⟨i + 1, Nat.le_refl _, hi, by go_num, Below.refl _ _, rfl⟩
    case round =>
      obtain ⟨j, hij, hj, rfl, hb, he0⟩ := hrel
      have he := hide he0
      clear he0
      have hc1r := (hb.cell (p := ⟨b, off + i * 2 + 1, none⟩) hbl).trans hc1
      clear hc1
      by_cases hlt : j < os.length
      · obtain ⟨_, _, p, hq, _, hp, hpm, hp0, hp1⟩ := (h.below hb).at_ hlt
        simp only [Option.some.injEq, Addr.mk.injEq, and_true] at hq
        obtain ⟨rfl, rfl⟩ := hq
        have hj1 : (0 : Int) ≤ (j : Int) := by omega
        have hj2 : (j : Int) < (os.length : Int) := by omega
        by_cases ha : p.arg = o.arg
        · rw [ha] at hp1
          have ta : (o.arg == o.arg) = true := by simp
          by_cases h16 : p.code = 16
          · have HF := hide (show idleAt os i = false by rw [HI.out, he.out, gotIn_get hp h16, if_pos ha]; rfl)
            rw [h16] at hp0
            have t16 : ((16 : Int) == 16) = true := rfl
            clear he HI hp hpm ha h16
            go_wp2_with fail
            go_quiet (fail)
            go_wp2
            go_ret
            exact ⟨ret_bool HF.out.symm, below_drewN hb _⟩
          · have t16 : (p.code == 16) = false := by simpa using h16
            by_cases hp15 : p.code = 15
            · have HF := hide (show idleAt os i = true by rw [HI.out, he.out, gotIn_put hp hp15, if_pos ha]; rfl)
              rw [hp15] at hp0 t16
              have tp15 : ((15 : Int) == 15) = true := rfl
              clear he HI hp hpm ha h16 hp15
              go_wp2_with fail
              go_quiet (fail)
              go_wp2_with fail
              go_quiet (fail)
              go_wp2
              go_ret
              exact ⟨ret_bool HF.out.symm, below_drewN (below_drewN hb _) _⟩
            · have tp15 : (p.code == 15) = false := by simpa using hp15
              have HE := hide (he.out.trans (gotIn_other hp h16 hp15 o.arg))
              clear he hp hpm ha h16 hp15
              go_wp2_with fail
              go_quiet (fail)
              go_wp2_with fail
              go_quiet (fail)
              go_wp2
              go_roundw
              case rel => exact ⟨j + 1, by omega, by omega, by go_num, below_drewN hb _, HE.out⟩
              case measure => simp [intOf]; omega
        · have ta : (p.arg == o.arg) = false := by simpa using ha
          have HE := hide (he.out.trans (gotIn_far hp ha))
          clear he hp hpm ha
          go_wp2_with fail
          go_quiet (fail)
          go_wp2_with fail
          go_quiet (fail)
          go_wp2
          go_roundw
          case rel => exact ⟨j + 1, by omega, by omega, by go_num, below_drewN hb _, HE.out⟩
          case measure => simp [intOf]; omega
      · obtain rfl : j = os.length := by omega
        have HF := hide (show idleAt os i = true by rw [HI.out, he.out, gotIn_end]; rfl)
        clear he HI hlt
        go_wp2
        go_ret
        exact ⟨ret_bool HF.out.symm, hb⟩
  · have HF := hide (idleAt_no hx h15)
    have t15 : (o.code != 15) = true := by simpa using h15
    clear hx hmem h15
    go_enter Tryd.func14, Tryd.ntmps14
    go_wp2
    go_ret
    exact ⟨ret_bool HF.out.symm, Below.refl _ _⟩

set_option maxRecDepth 100000 in
set_option maxHeartbeats 1000000 in
theorem specIdlePuts_any (A : Option Addr) (os : List Od) (c : Nat) (w : World) (h : OpsAt w w.heap.size A os) :
    Calls Tryd.prog 5 #[.slice A os.length c] w (GivesInts w (idlesOf os)) := by
  have hl := h.len
  by_cases hok : OpsOk os
  · rw [idlesOf_ok hok]
    have ht := hide (tf_true hok)
    have hl3 := hok.1
    clear hok
    go_enter Tryd.func5, Tryd.ntmps5
    go_wp2_with fail
    refine (specValidOps_any A os c w h).mono ?_
    rintro e w1 ⟨rfl, hb1⟩
    rw [ht.out]
    have hbare := OwnI.bare w1
    have hb2 := hb1.alloc hb1.size (.cells #[] 3)
    have hsz := hb1.size
    go_wp2_with fail
    generalize w1.alloc (.cells #[] 3) = w2 at hbare hb2 ⊢
    go_loopw [3, 4] (fun mv iv wr => ∃ (k : Nat) (A' : Option Addr) (c' : Nat), k ≤ os.length ∧ iv = .int .i64 (k : Int) ∧ mv = .slice A' (idlesTo os k).length c' ∧ OwnI wr w.heap.size A' c' (idlesTo os k) ∧ Below w.heap.size w wr) (fun _ iv _ => os.length - (intOf iv).toNat)
    case atStart => exact ⟨0, some ⟨w1.heap.size, 0, none⟩, 0, Nat.zero_le _, rfl, rfl, hbare.mono hsz, hb2⟩
    case round =>
      clear hbare hb2
      obtain ⟨k, A', c', hk, rfl, rfl, hown, hb⟩ := hrel
      by_cases hlt : k < os.length
      · have hpl := idlesTo_len os k
        have hk1 : (0 : Int) ≤ (k : Int) := by omega
        have hk2 : (k : Int) < (os.length : Int) := by omega
        have hka : In64 (k : Int) := by constructor <;> omega
        have hr := h.later hb (Nat.le_refl _)
        cases hid : idleAt os k with
        | false =>
          have HS := hide (idlesTo_no hid)
          have HI := hide hid
          clear hid
          generalize idlesTo os k = L at hown HS hpl ⊢
          go_wp2_with fail
          refine (specIdle_any A os c k wr hr hlt).mono ?_
          rintro e w3 ⟨rfl, hb3⟩
          rw [HI.out]
          have hown3 := hown.below hb3
          have hb4 := hb.trans (hb3.mono hb.size)
          clear hown hb3 hb hr
          go_wp2
          go_roundw
          case rel => exact ⟨k + 1, A', c', by omega, by go_num, by rw [HS.out], by rw [HS.out]; exact hown3, hb4⟩
          case measure => simp [intOf]; omega
        | true =>
          have HS := hide (idlesTo_yes hid)
          have HI := hide hid
          clear hid
          generalize idlesTo os k = L at hown HS hpl ⊢
          go_wp2_with fail
          refine (specIdle_any A os c k wr hr hlt).mono ?_
          rintro e w3 ⟨rfl, hb3⟩
          rw [HI.out]
          have hown3 := hown.below hb3
          have hb4 := hb.trans (hb3.mono hb.size)
          clear hown hb3 hb hr
          have hsz3 := hb4.size
          go_wp2_with (at_builtin; refine append_ints rfl (.tmp 18) (.tmp 20) rfl w.heap.size A' c' L rfl (hown3.alloc _) (w3.heap.size + 1) _ 1 [(k : Int)] rfl (fun e => by cases e) (IntsAt.one w3 (k : Int) hka) (by simp <;> omega) (by simp <;> omega) ?_; intro zs A2 c2 w5 hz hown5 hgrow5 hat5)
          go_roundw
          case rel => exact ⟨k + 1, A2, c2, by omega, by go_num, by rw [HS.out, hz.out], by rw [HS.out, ← hz.out]; exact hown5, below_grown (hb4.alloc hsz3 _) hgrow5 (by simp; omega) (fun q hq => (hown3.blocks q hq).1)⟩
          case measure => simp [intOf]; omega
      · obtain rfl : k = os.length := by omega
        clear hlt
        have HO := hide (show ∃ n, n = (idlesTo os os.length).length ∧ OwnI wr w.heap.size A' c' (idlesTo os os.length) from ⟨_, rfl, hown⟩)
        clear hown
        go_wp2
        go_ret
        obtain ⟨_, _, ho⟩ := HO.out
        exact ⟨A', c', rfl, ho, hb⟩
  · rw [idlesOf_no hok]
    have ht := hide (tf_false hok)
    clear hok
    go_enter Tryd.func5, Tryd.ntmps5
    go_wp2_with fail
    refine (specValidOps_any A os c w h).mono ?_
    rintro e w1 ⟨rfl, hb1⟩
    rw [ht.out]
    go_wp2
    go_ret
    exact ⟨none, 0, rfl, OwnI.empty _ _, hb1⟩

end Go.Proofs.YtmgemfekpkmlbabDoor
