/-
  The program's areIdle: what it returns.
-/
import Derived.Test.YtgdljgddfbegnadDoorIdlM
import Derived.Test.YtgdljgddfbegnadDoorImplO
import Derived.Deep.QuietTactic
import Derived.BigQuiet
namespace Go.Proofs.YtgdljgddfbegnadDoor
open Go.RowKit
set_option linter.unusedVariables false

theorem infoB : (Tryd.prog.info? 4).map (fun i => (i.zero, i.size, i.bytes)) = some (some (.bool false), 1, 1) := by kernel_rfl

theorem twenty (v : Value) : ∀ i, i < 20 → (#[v, v, v, v, v, v, v, v, v, v, v, v, v, v, v, v, v, v, v, v] : Array Value)[i]? = some v := by
  intro i hi
  rcases i with _ | _ | _ | _ | _ | _ | _ | _ | _ | _ | _ | _ | _ | _ | _ | _ | _ | _ | _ | _ | i <;> first | rfl | omega

theorem twenty_row (w : World) (v : Value) (t : TypeId) : (w.alloc (.cells #[v, v, v, v, v, v, v, v, v, v, v, v, v, v, v, v, v, v, v, v] t)).rowIs w.heap.size t 20 (fun _ => v) :=
  ⟨_, Go.Deep.blk_alloc_new _ _, rfl, twenty v⟩

set_option maxRecDepth 100000 in
set_option maxHeartbeats 2000000 in
theorem areIdle_any (A : Option Addr) (os : List Od) (c : Nat) (w : World) (h : OpsAt w w.heap.size A os) (hok : OpsOk os) :
    Calls Tryd.prog 16 #[.slice A os.length c] w fun e w' => e = .returned (.slice (some ⟨w.heap.size, 0, none⟩) os.length os.length) ∧
      w'.rowIs w.heap.size 4 os.length (fun i => .bool (idleAt os i)) ∧ Below w.heap.size w w' := by
  have hl := h.len
  have hl3 := hok.1
  have Hok := hide hok.2
  clear hok
  have hmk := run_make_row' (P := Tryd.prog) 39 4 (.bool false) 1 Tryd.underlying39 infoB rfl .i64 .i64 os.length (by omega) (by omega)
  have hrow0 := World.rowIs_made w (.bool false) os.length 4
  have hb0 := (Below.refl w.heap.size w).alloc (Nat.le_refl _) (.cells (madeCells #[.bool false] os.length) 4)
  have hz0 : (w.alloc (.cells (madeCells #[.bool false] os.length) 4)).heap.size = w.heap.size + 1 := by simp
  go_enter Tryd.func16, Tryd.ntmps16
  go_wp2_with fail
  clear hmk
  have hrowB := twenty_row (w.alloc (.cells (madeCells #[.bool false] os.length) 4)) (.bool false) 50
  rw [hz0] at hrowB
  have hrowA := hrow0.alloc (.cells #[.bool false, .bool false, .bool false, .bool false, .bool false, .bool false, .bool false, .bool false, .bool false, .bool false, .bool false, .bool false, .bool false, .bool false, .bool false, .bool false, .bool false, .bool false, .bool false, .bool false] 50)
  have hb1 := hb0.alloc (by omega) (.cells #[.bool false, .bool false, .bool false, .bool false, .bool false, .bool false, .bool false, .bool false, .bool false, .bool false, .bool false, .bool false, .bool false, .bool false, .bool false, .bool false, .bool false, .bool false, .bool false, .bool false] 50)
  clear hrow0 hb0 hz0
  generalize (w.alloc (.cells (madeCells #[.bool false] os.length) 4)).alloc _ = w2 at hrowB hrowA hb1 ⊢
  go_loopw [5] (fun iv wr => ∃ k : Nat, k ≤ os.length ∧ iv = .int .i64 ((k : Int) - 1) ∧ Below w.heap.size w wr ∧ wr.rowIs w.heap.size 4 os.length (fun i => .bool (if k ≤ i then idleAt os i else false)) ∧ wr.rowIs (w.heap.size + 1) 50 20 (fun p => .bool (gotIn (os.drop k) (p : Int)))) (fun iv _ => (intOf iv + 1).toNat)
  case atStart => exact ⟨os.length, Nat.le_refl _, rfl, hb1, hrowA.congr (fun i hi => by rw [if_neg (by omega)]), hrowB.congr (fun p _ => by rw [gotIn_end])⟩
  case round =>
    clear hrowA hrowB hb1
    obtain ⟨k, hk, rfl, hb, hrA, hrB⟩ := hrel
    rcases k with _ | j
    · rw [show ((0 : Nat) : Int) - 1 = -1 from rfl]
      have HR := hide (hrA.congr (g := fun i => .bool (idleAt os i)) (fun i _ => by rw [if_pos (Nat.zero_le _)]))
      clear hrA hrB
      go_wp2
      go_ret
      exact ⟨rfl, HR.out, hb⟩
    · rw [show ((j + 1 : Nat) : Int) - 1 = (j : Int) by omega]
      obtain ⟨b, off, o, rfl, hbl, hx, hmem, hc0, hc1⟩ := (h.below hb).at_ (k := j) (by omega)
      have hj1 : (0 : Int) ≤ (j : Int) := by omega
      have hj2 : (j : Int) < (os.length : Int) := by omega
      by_cases h16 : o.code = 16
      · obtain ⟨ha0, ha1⟩ := (Hok.out o hmem).place (.inr h16)
        have Hg := hide (fun p => gotIn_get hx h16 p)
        have Hi := hide (idleAt_no hx (by omega))
        obtain ⟨a, ha⟩ := Int.eq_ofNat_of_zero_le ha0
        have Ha := hide ha
        rw [ha] at hc1 ha0 ha1
        rw [h16] at hc0
        have ha2 : (a : Int) < 20 := by omega
        have ha3 : a < 20 := by omega
        have t16 : ((16 : Int) == 16) = true := rfl
        have d1 := hrB.cell ha3
        have d2 := hrB.frozen a
        have HB := hide (hb.setCell (p := ⟨w.heap.size + 1, a, none⟩) (by simp) (.bool true))
        have HrA := hide (hrA.setOther (a := ⟨w.heap.size + 1, a, none⟩) (by simp) (.bool true))
        have HrB := hide (hrB.set a (.bool true))
        clear hrA hrB hb hx hmem ha h16 ha1
        go_wp2
        go_roundw
        case rel => exact ⟨j, by omega, by go_num, HB.out, HrA.out.congr (fun i hi => by
            by_cases e : j = i
            · subst e; rw [if_neg (by omega), if_pos (Nat.le_refl _), Hi.out]
            · by_cases e2 : j + 1 ≤ i
              · rw [if_pos e2, if_pos (by omega)]
              · rw [if_neg e2, if_neg (by omega)]), HrB.out.congr (fun p hp => by
            rw [Hg.out, Ha.out]
            by_cases e : p = a
            · subst e; rw [if_pos rfl, if_pos rfl]
            · rw [if_neg e, if_neg (by omega)])⟩
        case measure => simp [intOf]
      · have t16 : (o.code == 16) = false := by simpa using h16
        by_cases h15 : o.code = 15
        · obtain ⟨ha0, ha1⟩ := (Hok.out o hmem).place (.inl h15)
          have Hg := hide (fun p => gotIn_put hx h15 p)
          have Hi := hide (idleAt_put hx h15)
          obtain ⟨a, ha⟩ := Int.eq_ofNat_of_zero_le ha0
          have Ha := hide ha
          rw [ha] at hc1 ha0 ha1
          rw [h15] at hc0 t16
          have ha2 : (a : Int) < 20 := by omega
          have ha3 : a < 20 := by omega
          have t15 : ((15 : Int) == 15) = true := rfl
          have Hq : Hid (idleAt os j = !gotIn (os.drop (j + 1)) (a : Int)) := by rw [← Ha.out]; exact Hi.out
          have d1 := hrB.cell ha3
          have d2 := hrA.cell (i := j) (by omega)
          have d3 := hrA.frozen j
          generalize hqd : gotIn (os.drop (j + 1)) (a : Int) = q at d1 Hq
          have HB := hide ((hb.setCell (p := ⟨w.heap.size, j, none⟩) (by simp) (.bool (!q))).setCell (p := ⟨w.heap.size + 1, a, none⟩) (by simp) (.bool false))
          have hrA2 := hrA.set j (.bool (!q))
          have hrB2 := hrB.setOther (a := ⟨w.heap.size, j, none⟩) (by simp) (.bool (!q))
          have f1 := hrB2.cell ha3
          have f2 := hrB2.frozen a
          have HrA := hide (hrA2.setOther (a := ⟨w.heap.size + 1, a, none⟩) (by simp) (.bool false))
          have HrB := hide (hrB2.set a (.bool false))
          clear hrA hrB hb hx hmem ha h16 h15 ha1 hrA2 hrB2 hqd
          go_wp2
          go_roundw
          case rel => exact ⟨j, by omega, by go_num, HB.out, HrA.out.congr (fun i hi => by
              by_cases e : i = j
              · subst e; rw [if_pos rfl, if_pos (Nat.le_refl _), Hq.out]
              · rw [if_neg e]
                by_cases e2 : j + 1 ≤ i
                · rw [if_pos e2, if_pos (by omega)]
                · rw [if_neg e2, if_neg (by omega)]), HrB.out.congr (fun p hp => by
              rw [Hg.out, Ha.out]
              by_cases e : p = a
              · subst e; rw [if_pos rfl, if_pos rfl]
              · rw [if_neg e, if_neg (by omega)])⟩
          case measure => simp [intOf]
        · have t15 : (o.code == 15) = false := by simpa using h15
          have Hg := hide (fun p => gotIn_other hx h16 h15 p)
          have Hi := hide (idleAt_no hx h15)
          have HB := hide hb
          have HrA := hide hrA
          have HrB := hide hrB
          clear hrA hrB hb hx hmem h16 h15
          go_wp2
          go_roundw
          case rel => exact ⟨j, by omega, by go_num, HB.out, HrA.out.congr (fun i hi => by
              by_cases e : j = i
              · subst e; rw [if_neg (by omega), if_pos (Nat.le_refl _), Hi.out]
              · by_cases e2 : j + 1 ≤ i
                · rw [if_pos e2, if_pos (by omega)]
                · rw [if_neg e2, if_neg (by omega)]), HrB.out.congr (fun p hp => by rw [Hg.out])⟩
          case measure => simp [intOf]

end Go.Proofs.YtgdljgddfbegnadDoor
