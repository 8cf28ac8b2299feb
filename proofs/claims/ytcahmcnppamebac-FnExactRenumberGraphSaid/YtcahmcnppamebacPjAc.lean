/-
  Lemmas, several texts in one: ReadI, ToI.
-/
import Derived.Test.YtcahmcnppamebacMem
import Derived.Test.YtcahmcnppamebacRows
import Derived.ProofKit
import Derived.OpenShut
import Derived.ShutString
import Derived.ChangeOld
import Derived.Deep.Slices
import Derived.Deep.Fields
import Derived.Lib.SmallJoins
import Derived.Test.YtcahmcnppamebacPjAb
import Derived.Test.YtcahmcnppamebacPjAa
namespace Go.Proofs.Ytcahmcnppamebac
open Go.ChangeShapes Go.WideShapes Go.ChangeAt Go.RowKit Go.Deep
set_option linter.unusedVariables false

theorem readCellsI : Try.prog.cellsOf 3 = 1 := by kernel_rfl
theorem readCellsS : Try.prog.cellsOf 25 = 1 := by kernel_rfl
theorem readOwn : ownKnob Try.prog.godebug = none := by kernel_rfl
theorem readLaid : laidOutB Try.prog = true := by kernel_rfl

theorem list3 {α : Type} (l : List α) (h : l.length = 3) : ∃ a b c, l = [a, b, c] := by
  match l, h with
  | [a, b, c], _ => exact ⟨a, b, c, rfl⟩

section
variable {H : Type} {enc : TypeId × Value → H} {w : World} {base : Nat} {spare : Nat → Bool} {held : Bool}

theorem addr_add_none (b off j : Nat) : (⟨b, off, none⟩ : Addr).add j = ⟨b, off + j, none⟩ := by
  unfold Addr.add
  split
  · rename_i h0; subst h0; rfl
  · rfl

/-- an int slice that came in -/
theorem read_ints {m : Nat} {v : Value} {y : DataW H × List MemPlace} (h : DataW.trod enc Try.prog w base spare held m 25 [v] = some y) :
    ∃ (A : Option Addr) (xs : List Int) (c : Nat), v = .slice A xs.length c ∧ IntsAt w w.heap.size A xs ∧ (A = none → c = 0) := by
  rcases open_ints Try.underlying25 Try.underlying3 readCellsI h with ⟨hcs, _⟩ | ⟨a, len, cap, zs, hcs, _, hl, hm, hz, _, hcell, hwz⟩
  · simp at hcs
    subst hcs
    exact ⟨none, [], 0, rfl, ⟨fun hx => absurd rfl hx, fun x hx => (by cases hx), by simp⟩, fun _ => rfl⟩
  · simp at hcs
    subst hcs
    have hzl : len ≤ zs.length := by rw [hz]; split <;> omega
    have hlt : (zs.take len).length = len := by simp; omega
    refine ⟨some a, zs.take len, cap, by rw [hlt], ⟨fun hx => ?_, fun x hx => ?_, ?_⟩, fun e => by cases e⟩
    · have h0 : 0 < len := by
        rcases Nat.eq_zero_or_pos len with e | e
        · subst e; simp at hx
        · exact e
      have hc0 := hcell 0 (by omega)
      obtain ⟨b, off, sp⟩ := a
      have hsp : sp = none := by simpa [Addr.add] using World.cell?_spot hc0
      subst hsp
      refine ⟨b, off, rfl, World.block_lt_of_cell? w _ (by simpa [Addr.add] using hc0), fun j x hj => ?_⟩
      have hjl : j < len := by have := (List.getElem?_eq_some_iff.1 hj).1; omega
      have hc := hcell j (by omega)
      rw [addr_add_none] at hc
      rw [hc, List.getD_eq_getElem?_getD]
      rw [List.getElem?_take_of_lt hjl] at hj
      rw [hj]
      rfl
    · exact bounds_i64 (hwz x (List.mem_of_mem_take hx))
    · rw [hlt]
      unfold maxLen at hm
      omega

end
end Go.Proofs.Ytcahmcnppamebac

namespace Go.Proofs.Ytcahmcnppamebac
open Go.RowKit

set_option maxHeartbeats 1000000 in
theorem toIntS_any (A : Option Addr) (xs : List Int) (c : Nat) (w : World) (h : IntsAt w w.heap.size A xs) (hs : xs.length ≤ 1048576) :
    Calls Try.prog 7 #[.slice A xs.length c] w fun e w' => e = .returned (.slice (some ⟨w.heap.size, 0, none⟩) xs.length xs.length) ∧
      w'.rowIs w.heap.size 3 xs.length (intCell xs) ∧ Below w.heap.size w w' := by
  have hmk := run_make_row' (P := Try.prog) 25 3 (.int .i64 0) 8 Try.underlying25 infoInt rfl .i64 .i64 xs.length (by omega) (by omega)
  have hrow0 := World.rowIs_made w (.int .i64 0) xs.length 3
  go_enter Try.func7, Try.ntmps7
  go_wp2_with fail
  clear hmk
  go_loopw [4] (fun i wr => ∃ k : Nat, k ≤ xs.length ∧ i = .int .i64 k ∧ Below w.heap.size w wr ∧ wr.rowIs w.heap.size 3 xs.length (fun j => if j < k then intCell xs j else .int .i64 0)) (fun i _ => xs.length - (intOf i).toNat)
  case atStart => exact ⟨0, Nat.zero_le _, rfl, (Below.refl _ _).alloc (Nat.le_refl _) _, hrow0.congr (fun i _ => by simp)⟩
  case round =>
    obtain ⟨k, hk, rfl, hb, hrow⟩ := hrel
    clear hrow0
    by_cases hlt : k < xs.length
    · obtain ⟨b, off, x, rfl, hbl, hx, _, hc⟩ := (h.below hb).at_ hlt
      have Hx := hide hx
      clear hx
      have hc2 := hrow.cell hlt
      have hf2 := hrow.frozen k
      have hnext := hrow.set k (.int .i64 x)
      have hb2 := hb.setCell (p := ⟨w.heap.size, k, none⟩) (Nat.le_refl _) (.int .i64 x)
      clear hrow hb
      go_wp2
      go_roundw
      case rel => exact ⟨k + 1, by omega, by go_num, hb2, hnext.congr (fun i _ => by
        by_cases e : i = k
        · subst e; rw [if_pos rfl, if_pos (by omega), intCell_at Hx.out]
        · rw [if_neg e]
          by_cases e2 : i < k
          · rw [if_pos e2, if_pos (by omega)]
          · rw [if_neg e2, if_neg (by omega)])⟩
      case measure => simp [intOf]; omega
    · obtain rfl : k = xs.length := by omega
      clear hlt
      go_wp2
      go_ret
      exact ⟨rfl, hrow.congr (fun i hi => by rw [if_pos hi]), hb⟩

end Go.Proofs.Ytcahmcnppamebac
