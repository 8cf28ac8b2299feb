/-
  Lemmas, several texts in one: NumI, HeldI, Eq.
-/
import Derived.Test.YtcahmcnppamebacSetI
import Derived.Maps.OwnOps
import Derived.Test.YtcahmcnppamebacMarkI
import Derived.Test.YtcahmcnppamebacEqN
import Derived.Deep.QuietTactic
import Derived.BigQuiet
import Derived.StillTailTactics
namespace Go.Proofs.Ytcahmcnppamebac
open Go.RowKit Go.Maps
set_option linter.unusedVariables false

theorem place_idx {L : List Int} {x : Int} (h : x ∈ L) : (L.idxOf x : Int) = place L x := (place_pos h).symm

set_option maxHeartbeats 1000000 in
theorem numI_any (g base : Nat) (m : Option Nat) (A : Option Addr) (c : Nat) (L : List Int) (x : Int) (w : World) (h : SetI w g base m A c L) (hx : In64 x) (hin : x ∈ L) :
    Calls Try.prog 37 #[.pointer (some ⟨g, 0, none⟩), .int .i64 x] w fun e w' => e = .returned (.int .i64 (place L x)) ∧ w = w' := by
  obtain ⟨hbox, _, hmap, hlt, _⟩ := h
  rcases hmap with ⟨rfl, rfl⟩ | ⟨b, n, D, rfl, hb, hown, hn, hhas, hat⟩
  · cases hin
  · have b0 := hbox.cell 0
    simp at b0
    have hat1 := hat x hin
    have HP := hide (place_idx hin)
    clear hbox hhas hat hin
    go_enter Try.func37, Try.ntmps37
    go_wp2_with (at_lookup; refine wpList_lookup_own_int _ rfl _ _ 56 rfl 3 3 .i64 lawI Try.underlying56 Try.underlying3 (zeroI _) b n _ rfl hown _ _ rfl (keyOf_i hx) ?_; intro cc hat2 hwc)
    go_ret
    rw [hat1] at hat2
    injection hat2 with hat2
    injection hat2 with _ hat2
    exact ⟨ret_int (by rw [← HP.out, ← hat2]), rfl⟩

end Go.Proofs.Ytcahmcnppamebac

namespace Go.Proofs.Ytcahmcnppamebac
open Go.RowKit
set_option linter.unusedVariables false

set_option maxHeartbeats 1000000 in
theorem heldIntS_any (A : Option Addr) (n c : Nat) (k0 : Int) (w : World) (h : IntsAt w w.heap.size A (marks k0 n)) (hk0 : 0 ≤ k0) (hk1 : k0 ≤ 4611686018427387904) (hn : n ≤ 1048576) :
    Calls Try.prog 39 #[.slice A n c, .int .i64 k0] w fun e w' => e = .returned (.int .i64 (k0 + n)) ∧ w = w' := by
  go_enter Try.func39, Try.ntmps39
  go_wp2_with fail
  go_loop [1, 5] (fun kv iv => ∃ j : Nat, j ≤ n ∧ iv = .int .i64 j ∧ kv = .int .i64 (k0 + (j : Int))) (fun _ iv => n - (intOf iv).toNat)
  case atStart => exact ⟨0, Nat.zero_le _, rfl, by go_num⟩
  case round =>
    obtain ⟨j, hj, rfl, rfl⟩ := hrel
    by_cases hlt : j < n
    · obtain ⟨b, off, x, rfl, hbl, hx, _, hc⟩ := h.at_ (k := j) (by rw [marks_len]; exact hlt)
      rw [marks_at hlt] at hx
      obtain rfl : k0 + (j : Int) = x := Option.some.inj hx
      have t : ((k0 + (j : Int)) != (k0 + (j : Int))) = false := by simp
      have hk2 : k0 + (j : Int) ≤ 9223372036854775806 := by omega
      clear hx
      go_wp2
      go_round
      case rel => exact ⟨j + 1, by omega, by go_num, by go_num⟩
      case measure => simp [intOf]; omega
    · obtain rfl : j = n := by omega
      clear hlt
      go_wp2
      go_ret
      exact ⟨rfl, rfl⟩

end Go.Proofs.Ytcahmcnppamebac

namespace Go.Proofs.Ytcahmcnppamebac
open Go.RowKit

set_option maxHeartbeats 1000000 in
theorem eqGraph_any (A A' : Option Addr) (ms ns : List Nd) (r s : Int) (c c' : Nat) (w : World) (h : NdsAt w w.heap.size A ms) (h' : NdsAt w w.heap.size A' ns) :
    Calls Try.prog 9 #[.agg #[.slice A ms.length c, .int .i64 r], .agg #[.slice A' ns.length c', .int .i64 s]] w fun e w' =>
      e = .returned (.bool (decide (ms = ns) && decide (r = s))) ∧ Below w.heap.size w w' := by
  have hB : Below w.heap.size w ((w.alloc (.cells #[.slice A ms.length c, .int .i64 r] 29)).alloc (.cells #[.slice A' ns.length c', .int .i64 s] 29)) :=
    ((Below.refl _ _).alloc (Nat.le_refl _) _).alloc (by simp) _
  have l1 := (Lies.new w #[.slice A ms.length c, .int .i64 r] 29).alloc (.cells #[.slice A' ns.length c', .int .i64 s] 29)
  have l2 := Lies.new (w.alloc (.cells #[.slice A ms.length c, .int .i64 r] 29)) #[.slice A' ns.length c', .int .i64 s] 29
  have hi := h.later hB (Nat.le_refl _)
  have hi' := h'.later hB (Nat.le_refl _)
  clear h h'
  by_cases h3 : ms = ns
  · have t3 := hide (show decide (ms = ns) = true by simpa using h3)
    by_cases h1 : r = s
    · have t1 : (r != s) = false := by simpa using h1
      have HF := hide (show (decide (ms = ns) && decide (r = s)) = true by simp [h1, h3])
      clear h1 h3
      go_enter Try.func9, Try.ntmps9
      go_wp2_with fail
      refine (eqNodeS_any A A' ms ns c c' _ hi hi').mono ?_
      rintro e w' ⟨rfl, hb⟩
      rw [t3.out]
      have d1 := (l1.below hb (by simp; omega)).cell 1
      have d2 := (l2.below hb (by simp)).cell 1
      simp at d1 d2
      go_wp2
      go_ret
      exact ⟨ret_bool HF.out.symm, hB.trans (hb.mono (by simp; omega))⟩
    · have t1 : (r != s) = true := by simpa using h1
      have HF := hide (show (decide (ms = ns) && decide (r = s)) = false by simp [h1])
      clear h1 h3
      go_enter Try.func9, Try.ntmps9
      go_wp2_with fail
      refine (eqNodeS_any A A' ms ns c c' _ hi hi').mono ?_
      rintro e w' ⟨rfl, hb⟩
      rw [t3.out]
      have d1 := (l1.below hb (by simp; omega)).cell 1
      have d2 := (l2.below hb (by simp)).cell 1
      simp at d1 d2
      go_wp2
      go_ret
      exact ⟨ret_bool HF.out.symm, hB.trans (hb.mono (by simp; omega))⟩
  · have t3 := hide (show decide (ms = ns) = false by simpa using h3)
    have HF := hide (show (decide (ms = ns) && decide (r = s)) = false by simp [h3])
    clear h3
    go_enter Try.func9, Try.ntmps9
    go_wp2_with fail
    refine (eqNodeS_any A A' ms ns c c' _ hi hi').mono ?_
    rintro e w' ⟨rfl, hb⟩
    rw [t3.out]
    go_wp2
    go_ret
    exact ⟨ret_bool HF.out.symm, hB.trans (hb.mono (by simp; omega))⟩

end Go.Proofs.Ytcahmcnppamebac
