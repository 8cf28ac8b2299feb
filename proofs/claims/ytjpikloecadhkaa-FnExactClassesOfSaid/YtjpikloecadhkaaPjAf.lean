/-
  Lemmas, several texts in one: MarkG, HeldI.
-/
import Derived.Test.YtjpikloecadhkaaMark
import Derived.Test.YtjpikloecadhkaaMarkI
namespace Go.Proofs.Ytjpikloecadhkaa
open Go.RowKit
set_option linter.unusedVariables false

set_option maxHeartbeats 1000000 in
theorem markGraph_any (g lo hi : Nat) (ns : List Nd) (c : Nat) (r k0 : Int) (w : World) (h : Markable w g lo hi 48 3 ns) (hs : Small ns) (hk0 : 0 ≤ k0) (hk1 : k0 ≤ 1048576) (hg1 : lo ≤ g) (hg2 : g < hi) (hhi : hi ≤ w.heap.size) :
    Calls Try.prog 10 #[.agg #[.slice (some ⟨g, 0, none⟩) ns.length c, .int .i64 r], .int .i64 k0] w fun e w' => (∃ k1 : Int, (0 ≤ k1 ∧ k1 ≤ 2000000000000) ∧ e = .returned (.int .i64 k1)) ∧ Save lo hi w w' := by
  have hB : Below w.heap.size w (w.alloc (.cells #[.slice (some ⟨g, 0, none⟩) ns.length c, .int .i64 r] 30)) := (Below.refl _ _).alloc (Nat.le_refl _) _
  have h2 : Markable (w.alloc (.cells #[.slice (some ⟨g, 0, none⟩) ns.length c, .int .i64 r] 30)) g lo hi 48 3 ns :=
    h.kept (hB.block g (by omega)) (fun k _ hk => hB.block k (by omega))
  clear h
  go_enter Try.func10, Try.ntmps10
  go_wp2_with fail
  refine (markNodeS_any g lo hi ns c k0 _ h2 hs hk0 hk1 hg1 hg2).mono ?_
  rintro e w' ⟨⟨k1, hk, rfl⟩, ho⟩
  have HS := hide ((Save.of_below hB).trans (Save.of_only ho))
  clear ho h2 hB
  go_wp2
  go_ret
  exact ⟨⟨k1, hk, rfl⟩, HS.out⟩

end Go.Proofs.Ytjpikloecadhkaa

namespace Go.Proofs.Ytjpikloecadhkaa
open Go.RowKit
set_option linter.unusedVariables false

set_option maxHeartbeats 1000000 in
theorem heldIntS_any (A : Option Addr) (n c : Nat) (k0 : Int) (w : World) (h : IntsAt w w.heap.size A (marks k0 n)) (hk0 : 0 ≤ k0) (hk1 : k0 ≤ 4611686018427387904) (hn : n ≤ 1048576) :
    Calls Try.prog 12 #[.slice A n c, .int .i64 k0] w fun e w' => e = .returned (.int .i64 (k0 + n)) ∧ w = w' := by
  go_enter Try.func12, Try.ntmps12
  go_wp2_with fail
  go_loop [1, 5] (fun kv iv => ∃ j : Nat, j ≤ n ∧ iv = .int .i64 j ∧ kv = .int .i64 (k0 + (j : Int))) (fun _ iv => n - (intOf iv).toNat)
  case atStart => exact ⟨0, Nat.zero_le _, rfl, by go_num⟩
  case round =>
    obtain ⟨j, hj, rfl, rfl⟩ := hrel
    by_cases hlt : j < n
    · obtain ⟨b, off, x, rfl, hbl, hx, _, hc⟩ := h.at_ (k := j) (by rw [marks_len]; exact hlt)
      rw [marks_at hlt] at hx
      obtain rfl : k0 + (j : Int) = x := Option.some.inj hx
      have t : ((k0 + (j : Int)) != (k0 + (j : Int))) = false := by simp
      have hk2 : k0 + (j : Int) ≤ 9223372036854775806 := by omega
      clear hx
      go_wp2
      go_round
      case rel => exact ⟨j + 1, by omega, by go_num, by go_num⟩
      case measure => simp [intOf]; omega
    · obtain rfl : j = n := by omega
      clear hlt
      go_wp2
      go_ret
      exact ⟨rfl, rfl⟩

end Go.Proofs.Ytjpikloecadhkaa
