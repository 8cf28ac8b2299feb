/-
  The model's CountCodes: what it returns.
-/
import Derived.Test.YtgdljgddfbegnabDoorCntM
import Derived.Test.YtgdljgddfbegnabDoorSpecO
import Derived.Test.YtgdljgddfbegnabDoorOnly
import Derived.Test.YtgdljgddfbegnabDoorMarkI
import Derived.StillTailTactics
import Derived.Deep.QuietTactic
import Derived.BigQuiet
namespace Go.Proofs.YtgdljgddfbegnabDoor
open Go.RowKit
set_option linter.unusedVariables false

theorem makeInts20 : ∀ w : World, (Instr.makeSlice 24 (.int .i64 20) (.int .i64 20)).run Tryd.prog w = .ok (.slice (some ⟨w.heap.size, 0, none⟩) 20 20) (w.alloc (.cells (madeCells #[.int .i64 0] 20) 3)) :=
  run_make_row' (P := Tryd.prog) 24 3 (.int .i64 0) 8 Tryd.underlying24 infoI rfl .i64 .i64 20 (by omega) (by omega)

set_option maxRecDepth 100000 in
set_option maxHeartbeats 1000000 in
theorem specCountCodes_any (A : Option Addr) (os : List Od) (c : Nat) (w : World) (h : OpsAt w w.heap.size A os) :
    Calls Tryd.prog 5 #[.slice A os.length c] w (GivesInts w (countsOf os)) := by
  have hl := h.len
  by_cases hok : OpsOk os
  · rw [countsOf_ok hok]
    have Hok := hide hok
    have ht := hide (tf_true hok)
    have hl3 := hok.1
    clear hok
    have hmk := makeInts20
    go_enter Tryd.func5, Tryd.ntmps5
    go_wp2_with fail
    refine (specValidOps_any A os c w h).mono ?_
    rintro e w1 ⟨rfl, hb1⟩
    rw [ht.out]
    have hrow0 := World.rowIs_made w1 (.int .i64 0) 20 3
    have hb2 := hb1.alloc hb1.size (.cells (madeCells #[.int .i64 0] 20) 3)
    have hsz := hb1.size
    go_wp2_with fail
    clear hmk
    generalize w1.alloc (.cells (madeCells #[.int .i64 0] 20) 3) = w2 at hrow0 hb2 ⊢
    generalize w1.heap.size = g at hrow0 hsz ⊢
    go_loopw [4] (fun iv wr => ∃ k : Nat, k ≤ os.length ∧ iv = .int .i64 k ∧ Below w.heap.size w wr ∧ wr.rowIs g 3 20 (intCell (countsTo os k))) (fun iv _ => os.length - (intOf iv).toNat)
    case atStart => exact ⟨0, Nat.zero_le _, rfl, hb2, hrow0.congr (fun j hj => by rw [countsTo_zero, intCell_zeros])⟩
    case round =>
      clear hrow0 hb2
      obtain ⟨k, hk, rfl, hb, hrow⟩ := hrel
      by_cases hlt : k < os.length
      · obtain ⟨b, off, o, rfl, hbl, hx, hmem, hc0, hc1⟩ := (h.below hb).at_ hlt
        have hcode := (Hok.out.2 o hmem).1
        obtain ⟨m, hm⟩ := Int.eq_ofNat_of_zero_le hcode.1
        rw [hm] at hc0
        have hm20 : m < 20 := by omega
        have hup := countsTo_upto os k
        have hu := hup.getD (by omega) m
        have hlen := countsTo_len os k
        have Hs := hide (countsTo_succ hx)
        have Hm := hide hm
        generalize countsTo os k = us at hrow hu hlen Hs
        have q1 := hrow.cell hm20
        have q2 := hrow.frozen m
        rw [show intCell us m = .int .i64 (us.getD m 0) from rfl] at q1
        generalize hud : us.getD m 0 = u at q1 hu
        have Hud := hide hud
        have HR := hide hrow
        have HB := hide hb
        have Hl := hide hlen
        have hk1 : (0 : Int) ≤ (k : Int) := by omega
        have hk2 : (k : Int) < (os.length : Int) := by omega
        have hm1 : (0 : Int) ≤ (m : Int) := by omega
        have hm2 : (m : Int) < 20 := by omega
        clear hx hmem hc1 hcode hm hup hlen hud hrow hb
        have hbd : Below w.heap.size w wr.drew := HB.out.drew
        have hrd : wr.drew.rowIs g 3 20 (intCell us) := HR.out
        have HBd := hide hbd
        have HRd := hide hrd
        clear hbd hrd
        go_wp2_with fail
        go_still_tail 16, (by kernel_rfl)
        change wpList _ _ _ _ _ wr.drew
        generalize wr.drew = wd at HBd HRd ⊢
        have d1 := HRd.out.cell hm20
        have d2 := HRd.out.frozen m
        go_wp2
        go_roundw
        case rel => exact ⟨k + 1, by omega, by go_num, HBd.out.setCell hsz _, (World.rowIs.set (w := wd) HRd.out m _).congr (fun q hq => by
          rw [Hs.out, Hm.out, intCell_bump us m (by have := Hl.out; omega), Hud.out])⟩
        case measure => simp [intOf]; omega
      · obtain rfl : k = os.length := by omega
        clear hlt
        have HR := hide hrow
        clear hrow
        have hlen := countsTo_len os os.length
        go_wp2
        go_ret
        refine ⟨some ⟨g, 0, none⟩, 20, by rw [hlen]; rfl, OwnI.of_row HR.out (by omega) (by unfold maxLen; omega) hsz (fun i x hx => intCell_at hx), hb⟩
  · rw [countsOf_no hok]
    have ht := hide (tf_false hok)
    clear hok
    go_enter Tryd.func5, Tryd.ntmps5
    go_wp2_with fail
    refine (specValidOps_any A os c w h).mono ?_
    rintro e w1 ⟨rfl, hb1⟩
    rw [ht.out]
    go_wp2
    go_ret
    exact ⟨none, 0, rfl, OwnI.empty _ _, hb1⟩

end Go.Proofs.YtgdljgddfbegnabDoor
