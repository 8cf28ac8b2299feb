/-
  The marking function of int slices, markIntS: what they write, and what they leave alone.
-/
import Derived.Test.YtdgmohebnkcohaaPjAc
import Derived.Test.YtdgmohebnkcohaaPjAd
namespace Go.Proofs.Ytdgmohebnkcohaa
open Go.RowKit
set_option linter.unusedVariables false

set_option maxHeartbeats 1000000 in
theorem markIntS_row (g t0 : Nat) (n c : Nat) (f : Nat → Value) (k0 : Int) (w : World) (hrow : w.rowIs g t0 n f) (m : Nat) (hm : m ≤ n) (hk0 : 0 ≤ k0) (hk1 : k0 ≤ 4611686018427387904) (hn : m ≤ 1048576) :
    Calls Try.prog 39 #[.slice (some ⟨g, 0, none⟩) m c, .int .i64 k0] w fun e w' => e = .returned (.int .i64 (k0 + m)) ∧
      w'.rowIs g t0 n (fun i => if i < m then .int .i64 (k0 + (i : Int)) else f i) ∧ Only g (g + 1) w w' := by
  go_enter Try.func39, Try.ntmps39
  go_wp2_with fail
  go_loopw [1, 5] (fun kv iv wr => ∃ j : Nat, j ≤ m ∧ iv = .int .i64 j ∧ kv = .int .i64 (k0 + (j : Int)) ∧ wr.rowIs g t0 n (fun i => if i < j then .int .i64 (k0 + (i : Int)) else f i) ∧ Only g (g + 1) w wr) (fun _ iv _ => m - (intOf iv).toNat)
  case atStart => exact ⟨0, Nat.zero_le _, rfl, by go_num, hrow.congr (fun i _ => by simp), Only.refl _ _ _⟩
  case round =>
    obtain ⟨j, hj, rfl, rfl, hr, ho⟩ := hrel
    clear hrow
    by_cases hlt : j < m
    · have c1 := hr.cell (i := j) (by omega)
      have c2 := hr.frozen j
      simp at c1
      have hset := hr.set j (.int .i64 (k0 + (j : Int)))
      have hos := ho.setCell (p := ⟨g, j, none⟩) (Nat.le_refl _) (Nat.lt_succ_self _) (.int .i64 (k0 + (j : Int)))
      have HR := hide hset
      have HO := hide hos
      clear hr ho hset hos
      have hk2 : k0 + (j : Int) ≤ 9223372036854775806 := by omega
      go_wp2
      go_roundw
      case rel => exact ⟨j + 1, by omega, by go_num, by go_num, HR.out.congr (fun i _ => by
        by_cases e : i = j
        · subst e; rw [if_pos rfl, if_pos (by omega)]
        · rw [if_neg e]
          by_cases e2 : i < j
          · rw [if_pos e2, if_pos (by omega)]
          · rw [if_neg e2, if_neg (by omega)]), HO.out⟩
      case measure => simp [intOf]; omega
    · obtain rfl : j = m := by omega
      clear hlt
      have HR := hide hr
      clear hr
      go_wp2
      go_ret
      exact ⟨rfl, HR.out, ho⟩

set_option maxHeartbeats 400000 in
theorem markIntS_nil (c : Nat) (k0 : Int) (w : World) :
    Calls Try.prog 39 #[.slice none 0 c, .int .i64 k0] w fun e w' => e = .returned (.int .i64 k0) ∧ w = w' := by
  go_enter Try.func39, Try.ntmps39
  go_wp2_with fail
  refine wp_loop_rounds 1 ?_
  rw [rounds_succ]
  go_wp2
  go_ret
  exact ⟨rfl, rfl⟩

/-- markIntS of an owned slice -/
theorem markIntS_own (base : Nat) (A : Option Addr) (c : Nat) (xs : List Int) (k0 : Int) (w : World) (h : OwnI w base A c xs) (hk0 : 0 ≤ k0) (hk1 : k0 ≤ 1048576) (hn : xs.length ≤ 1048576) :
    Calls Try.prog 39 #[.slice A xs.length c, .int .i64 k0] w fun e w' => e = .returned (.int .i64 (k0 + xs.length)) ∧ OwnI w' base A c (marks k0 xs.length) ∧
      (∀ lo hi, (∀ g, blockOf A = some g → lo ≤ g ∧ g < hi) → Only lo hi w w') := by
  rcases h.form with ⟨rfl, rfl, rfl⟩ | ⟨g, rfl, hb, hg⟩
  · refine (markIntS_nil 0 k0 w).mono fun e w' ⟨he, hw⟩ => ?_
    subst hw
    exact ⟨by rw [he]; simp, OwnI.empty _ _, fun lo hi _ => Only.refl _ _ _⟩
  · obtain ⟨cap, f, hrow, hle, hm, rfl, hbg⟩ := h.row
    refine (markIntS_row g 3 c c f k0 w hrow xs.length hle hk0 (by omega) hn).mono fun e w' ⟨he, hr, ho⟩ => ?_
    refine ⟨he, OwnI.of_row hr (by rw [marks_len]; exact hle) hm hbg (fun i x hx => ?_), fun lo hi hgb => ?_⟩
    · have hi : i < xs.length := by have := (List.getElem?_eq_some_iff.1 hx).1; rw [marks_len] at this; exact this
      rw [marks_at hi] at hx
      injection hx with hx
      rw [if_pos hi, hx]
    · have := hgb g rfl
      exact ho.mono this.1 (by omega)

end Go.Proofs.Ytdgmohebnkcohaa
