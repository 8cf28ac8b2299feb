/-
  The marking function markOpS of rows of orders: what it writes, and what it leaves alone.
-/
import Derived.Test.YtfhmmdiicnfjbaaDoorPjAc
import Derived.Test.YtfhmmdiicnfjbaaDoorOd
namespace Go.Proofs.YtfhmmdiicnfjbaaDoor
open Go.RowKit
set_option linter.unusedVariables false

set_option maxHeartbeats 1000000 in
theorem markOpS_row (g t0 : Nat) (n c : Nat) (f : Nat → Value) (k0 : Int) (w : World) (hrow : w.rowIs g t0 (n * 2) f) (m : Nat) (hm : m ≤ n) (hk0 : 0 ≤ k0) (hk1 : k0 ≤ 1048576) (hn : m ≤ 1048576) :
    Calls Tryd.prog 10 #[.slice (some ⟨g, 0, none⟩) m c, .int .i64 k0] w fun e w' => e = .returned (.int .i64 (k0 + 2 * (m : Int))) ∧
      w'.rowIs g t0 (n * 2) (fun i => if i < 2 * m then .int .i64 (k0 + (i : Int)) else f i) ∧ Only g (g + 1) w w' := by
  go_enter Tryd.func10, Tryd.ntmps10
  go_wp2_with fail
  go_loopw [1, 5] (fun kv iv wr => ∃ j : Nat, j ≤ m ∧ iv = .int .i64 j ∧ kv = .int .i64 (k0 + 2 * (j : Int)) ∧ wr.rowIs g t0 (n * 2) (fun i => if i < 2 * j then .int .i64 (k0 + (i : Int)) else f i) ∧ Only g (g + 1) w wr) (fun _ iv _ => m - (intOf iv).toNat)
  case atStart => exact ⟨0, Nat.zero_le _, rfl, by go_num, hrow.congr (fun i _ => by simp), Only.refl _ _ _⟩
  case round =>
    obtain ⟨j, hj, rfl, rfl, hr, ho⟩ := hrel
    clear hrow
    by_cases hlt : j < m
    · have c1 := hr.cell (i := j * 2) (by omega)
      have c2 := hr.frozen (j * 2)
      have c3 := hr.cell (i := j * 2 + 1) (by omega)
      have c4 := hr.frozen (j * 2 + 1)
      have hset := (hr.set (j * 2) (.int .i64 (k0 + 2 * (j : Int)))).set (j * 2 + 1) (.int .i64 (k0 + 2 * (j : Int) + 1))
      have hos := (ho.setCell (p := ⟨g, j * 2, none⟩) (Nat.le_refl _) (Nat.lt_succ_self _) (.int .i64 (k0 + 2 * (j : Int)))).setCell (p := ⟨g, j * 2 + 1, none⟩) (Nat.le_refl _) (Nat.lt_succ_self _) (.int .i64 (k0 + 2 * (j : Int) + 1))
      have HR := hide hset
      have HO := hide hos
      clear hr ho hset hos
      have hk2 : k0 + 2 * (j : Int) ≤ 9223372036854775800 := by omega
      have hk3 : 0 ≤ k0 + 2 * (j : Int) := by omega
      go_wp2
      go_roundw
      case rel => exact ⟨j + 1, by omega, by go_num, by go_num, HR.out.congr (fun i _ => by
        by_cases e : i = j * 2 + 1
        · subst e; rw [if_pos rfl, if_pos (by omega)]; congr 1; omega
        · rw [if_neg e]
          by_cases e1 : i = j * 2
          · subst e1; rw [if_pos rfl, if_pos (by omega)]; congr 1; omega
          · rw [if_neg e1]
            by_cases e2 : i < 2 * j
            · rw [if_pos e2, if_pos (by omega)]
            · rw [if_neg e2, if_neg (by omega)]), HO.out⟩
      case measure => simp [intOf]; omega
    · obtain rfl : j = m := by omega
      clear hlt
      have HR := hide hr
      clear hr
      go_wp2
      go_ret
      exact ⟨rfl, HR.out, ho⟩

end Go.Proofs.YtfhmmdiicnfjbaaDoor
