/-
  Lemmas, several texts in one: NumI, HeldI.
-/
import Derived.Test.YtfhmmdiicnfjbabSetI
import Derived.Maps.OwnOps
import Derived.Test.YtfhmmdiicnfjbabMarkI
namespace Go.Proofs.Ytfhmmdiicnfjbab
open Go.RowKit Go.Maps
set_option linter.unusedVariables false

theorem place_idx {L : List Int} {x : Int} (h : x ∈ L) : (L.idxOf x : Int) = place L x := (place_pos h).symm

set_option maxHeartbeats 1000000 in
theorem numI_any (g base : Nat) (m : Option Nat) (A : Option Addr) (c : Nat) (L : List Int) (x : Int) (w : World) (h : SetI w g base m A c L) (hx : In64 x) (hin : x ∈ L) :
    Calls Try.prog 31 #[.pointer (some ⟨g, 0, none⟩), .int .i64 x] w fun e w' => e = .returned (.int .i64 (place L x)) ∧ w = w' := by
  obtain ⟨hbox, _, hmap, hlt, _⟩ := h
  rcases hmap with ⟨rfl, rfl⟩ | ⟨b, n, D, rfl, hb, hown, hn, hhas, hat⟩
  · cases hin
  · have b0 := hbox.cell 0
    simp at b0
    have hat1 := hat x hin
    have HP := hide (place_idx hin)
    clear hbox hhas hat hin
    go_enter Try.func31, Try.ntmps31
    go_wp2_with (at_lookup; refine wpList_lookup_own_int _ rfl _ _ 54 rfl 3 3 .i64 lawI Try.underlying54 Try.underlying3 (zeroI _) b n _ rfl hown _ _ rfl (keyOf_i hx) ?_; intro cc hat2 hwc)
    go_ret
    rw [hat1] at hat2
    injection hat2 with hat2
    injection hat2 with _ hat2
    exact ⟨ret_int (by rw [← HP.out, ← hat2]), rfl⟩

end Go.Proofs.Ytfhmmdiicnfjbab

namespace Go.Proofs.Ytfhmmdiicnfjbab
open Go.RowKit
set_option linter.unusedVariables false

set_option maxHeartbeats 1000000 in
theorem heldIntS_any (A : Option Addr) (n c : Nat) (k0 : Int) (w : World) (h : IntsAt w w.heap.size A (marks k0 n)) (hk0 : 0 ≤ k0) (hk1 : k0 ≤ 4611686018427387904) (hn : n ≤ 1048576) :
    Calls Try.prog 13 #[.slice A n c, .int .i64 k0] w fun e w' => e = .returned (.int .i64 (k0 + n)) ∧ w = w' := by
  go_enter Try.func13, Try.ntmps13
  go_wp2_with fail
  go_loop [1, 5] (fun kv iv => ∃ j : Nat, j ≤ n ∧ iv = .int .i64 j ∧ kv = .int .i64 (k0 + (j : Int))) (fun _ iv => n - (intOf iv).toNat)
  case atStart => exact ⟨0, Nat.zero_le _, rfl, by go_num⟩
  case round =>
    obtain ⟨j, hj, rfl, rfl⟩ := hrel
    by_cases hlt : j < n
    · obtain ⟨b, off, x, rfl, hbl, hx, _, hc⟩ := h.at_ (k := j) (by rw [marks_len]; exact hlt)
      rw [marks_at hlt] at hx
      obtain rfl : k0 + (j : Int) = x := Option.some.inj hx
      have t : ((k0 + (j : Int)) != (k0 + (j : Int))) = false := by simp
      have hk2 : k0 + (j : Int) ≤ 9223372036854775806 := by omega
      clear hx
      go_wp2
      go_round
      case rel => exact ⟨j + 1, by omega, by go_num, by go_num⟩
      case measure => simp [intOf]; omega
    · obtain rfl : j = n := by omega
      clear hlt
      go_wp2
      go_ret
      exact ⟨rfl, rfl⟩

end Go.Proofs.Ytfhmmdiicnfjbab
