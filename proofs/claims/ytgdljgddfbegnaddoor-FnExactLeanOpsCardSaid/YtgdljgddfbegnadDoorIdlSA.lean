/-
  The model's idle: what it returns.
-/
import Derived.Test.YtgdljgddfbegnadDoorIdlM
import Derived.Test.YtgdljgddfbegnadDoorSpecO
import Derived.Deep.QuietTactic
import Derived.BigQuiet
namespace Go.Proofs.YtgdljgddfbegnadDoor
open Go.RowKit
set_option linter.unusedVariables false

set_option maxRecDepth 100000 in
set_option maxHeartbeats 2000000 in
theorem specIdle_any (A : Option Addr) (os : List Od) (c : Nat) (i : Nat) (w : World) (h : OpsAt w w.heap.size A os) (hi : i < os.length) :
    Calls Tryd.prog 22 #[.slice A os.length c, .int .i64 (i : Int)] w fun e w' => e = .returned (.bool (idleAt os i)) ∧ Below w.heap.size w w' := by
  have hl := h.len
  obtain ⟨b, off, o, rfl, hbl, hx, hmem, hc0, hc1⟩ := h.at_ hi
  have hi1 : (0 : Int) ≤ (i : Int) := by omega
  have hi2 : (i : Int) < (os.length : Int) := by omega
  by_cases h15 : o.code = 15
  · have HI := hide (idleAt_put hx h15)
    have hc0' := hc0
    rw [h15] at hc0
    have t15 : ((15 : Int) != 15) = false := rfl
    clear hc0' hx hmem h15
    go_enter Tryd.func22, Tryd.ntmps22
    go_wp2_with fail
    clear t15 hc0
    go_loopw [5] (fun iv wr => ∃ j : Nat, i + 1 ≤ j ∧ j ≤ os.length ∧ iv = .int .i64 (j : Int) ∧ Below w.heap.size w wr ∧ gotIn (os.drop (i + 1)) o.arg = gotIn (os.drop j) o.arg) (fun iv _ => os.length - (intOf iv).toNat)
    case atStart => exact ⟨i + 1, Nat.le_refl _, hi, by go_num, Below.refl _ _, rfl⟩
    case round =>
      obtain ⟨j, hij, hj, rfl, hb, he0⟩ := hrel
      have he := hide he0
      clear he0
      have hc1r := (hb.cell (p := ⟨b, off + i * 2 + 1, none⟩) hbl).trans hc1
      clear hc1
      by_cases hlt : j < os.length
      · obtain ⟨_, _, p, hq, _, hp, hpm, hp0, hp1⟩ := (h.below hb).at_ hlt
        simp only [Option.some.injEq, Addr.mk.injEq, and_true] at hq
        obtain ⟨rfl, rfl⟩ := hq
        have hj1 : (0 : Int) ≤ (j : Int) := by omega
        have hj2 : (j : Int) < (os.length : Int) := by omega
        by_cases ha : p.arg = o.arg
        · rw [ha] at hp1
          have ta : (o.arg == o.arg) = true := by simp
          by_cases h16 : p.code = 16
          · have HF := hide (show idleAt os i = false by rw [HI.out, he.out, gotIn_get hp h16, if_pos ha]; rfl)
            rw [h16] at hp0
            have t16 : ((16 : Int) == 16) = true := rfl
            clear he HI hp hpm ha h16
            go_wp2_with fail
            go_quiet (fail)
            go_wp2
            go_ret
            exact ⟨ret_bool HF.out.symm, below_drewN hb _⟩
          · have t16 : (p.code == 16) = false := by simpa using h16
            by_cases hp15 : p.code = 15
            · have HF := hide (show idleAt os i = true by rw [HI.out, he.out, gotIn_put hp hp15, if_pos ha]; rfl)
              rw [hp15] at hp0 t16
              have tp15 : ((15 : Int) == 15) = true := rfl
              clear he HI hp hpm ha h16 hp15
              go_wp2_with fail
              go_quiet (fail)
              go_wp2_with fail
              go_quiet (fail)
              go_wp2
              go_ret
              exact ⟨ret_bool HF.out.symm, below_drewN (below_drewN hb _) _⟩
            · have tp15 : (p.code == 15) = false := by simpa using hp15
              have HE := hide (he.out.trans (gotIn_other hp h16 hp15 o.arg))
              clear he hp hpm ha h16 hp15
              go_wp2_with fail
              go_quiet (fail)
              go_wp2_with fail
              go_quiet (fail)
              go_wp2
              go_roundw
              case rel => exact ⟨j + 1, by omega, by omega, by go_num, below_drewN hb _, HE.out⟩
              case measure => simp [intOf]; omega
        · have ta : (p.arg == o.arg) = false := by simpa using ha
          have HE := hide (he.out.trans (gotIn_far hp ha))
          clear he hp hpm ha
          go_wp2_with fail
          go_quiet (fail)
          go_wp2_with fail
          go_quiet (fail)
          go_wp2
          go_roundw
          case rel => exact ⟨j + 1, by omega, by omega, by go_num, below_drewN hb _, HE.out⟩
          case measure => simp [intOf]; omega
      · obtain rfl : j = os.length := by omega
        have HF := hide (show idleAt os i = true by rw [HI.out, he.out, gotIn_end]; rfl)
        clear he HI hlt
        go_wp2
        go_ret
        exact ⟨ret_bool HF.out.symm, hb⟩
  · have HF := hide (idleAt_no hx h15)
    have t15 : (o.code != 15) = true := by simpa using h15
    clear hx hmem h15
    go_enter Tryd.func22, Tryd.ntmps22
    go_wp2
    go_ret
    exact ⟨ret_bool HF.out.symm, Below.refl _ _⟩

end Go.Proofs.YtgdljgddfbegnadDoor
