/-
  Lemmas, several texts in one: OwnC, MarkG, HeldI.
-/
import Derived.Test.YtdgmohebnkcohaaPjAa
import Derived.Maps.RangeWalk
import Derived.Test.YtdgmohebnkcohaaMark
import Derived.Test.YtdgmohebnkcohaaMarkI
namespace Go.Proofs.Ytdgmohebnkcohaa
open Go.RowKit
set_option linter.unusedVariables false

theorem OwnI.ofB {w w' : World} {base : Nat} {A : Option Addr} {c : Nat} {xs : List Int} (h : OwnI w base A c xs) (hA : ∀ g, blockOf A = some g → w'.heap[g]? = w.heap[g]?) : OwnI w' base A c xs := by
  refine ⟨h.own.1, ?_⟩
  rcases h.own.2 with h2 | ⟨g, cap, cur, hv, hg, hh, r⟩
  · exact .inl h2
  · refine .inr ⟨g, cap, cur, hv, hg, ?_, r⟩
    rw [hA g (by injection hv with hv; rw [hv]; rfl)]
    exact hh

theorem OwnI.setAt {w : World} {base g : Nat} {c : Nat} {xs : List Int} (h : OwnI w base (some ⟨g, 0, none⟩) c xs) (j : Nat) (x : Int) :
    OwnI (w.setCell ⟨g, j, none⟩ (.int .i64 x)) base (some ⟨g, 0, none⟩) c (xs.set j x) := by
  have := (h.own.stored j (.int .i64 x)).1
  refine ⟨?_⟩
  rw [List.length_set, List.map_set]
  exact this

/-- the first of its elements, with the same room behind them -/
theorem OwnI.cutAt {w : World} {base : Nat} {A : Option Addr} {c : Nat} {xs : List Int} (h : OwnI w base A c xs) {k : Nat} (hk : k ≤ xs.length) : OwnI w base A c (xs.take k) := by
  have hl : (xs.take k).length = k := by simp; omega
  obtain ⟨h1, h2⟩ := h.own
  refine ⟨⟨by simp, ?_⟩⟩
  rcases h2 with ⟨h3, h4⟩ | ⟨g, cap, cur, hv, hg, hh, hn, hm, hs, ht⟩
  · have : xs = [] := List.eq_nil_of_length_eq_zero h4
    subst this
    exact .inl ⟨by simpa using h3, by simp⟩
  · refine .inr ⟨g, cap, cur, ?_, hg, hh, by omega, hm, hs, ?_⟩
    · injection hv with e1 _ e3
      rw [e1, e3]
    · rw [hl]
      have := congrArg (fun l => l.take k) ht
      simp only [List.take_take, Nat.mul_one] at this
      rw [Nat.min_eq_left hk] at this
      rw [Nat.mul_one, this, List.map_take]

theorem OwnI.capLen {w : World} {base : Nat} {A : Option Addr} {c : Nat} {xs : List Int} (h : OwnI w base A c xs) : xs.length ≤ c := by
  rcases h.own with ⟨hl, hh⟩
  rcases hh with ⟨h1, h2⟩ | ⟨g, cap, cur, hv, hg, hh, hle, hm, hs, hx⟩
  · rw [h2]; exact Nat.zero_le _
  · injection hv with _ _ h3
    subst h3
    exact hle

theorem OwnI.frozenM {w : World} {base g : Nat} {c : Nat} {xs : List Int} (h : OwnI w base (some ⟨g, 0, none⟩) c xs) (j : Nat) : w.frozen? ⟨g, j, none⟩ = false := by
  rcases h.own.2 with ⟨h1, _⟩ | ⟨g', cap, cur, hv, hg, hh, _⟩
  · injection h1 with h1
    cases h1
  · injection hv with hv _ hc
    obtain rfl : g = g' := by simpa using hv
    exact Lies.frozen hh j
theorem OwnI.cellM {w : World} {base g : Nat} {c : Nat} {xs : List Int} (h : OwnI w base (some ⟨g, 0, none⟩) c xs) {j : Nat} {x : Int} (hj : xs[j]? = some x) : w.cell? ⟨g, j, none⟩ = some (.int .i64 x) := by
  rw [h.own.cellAt j (by have := (List.getElem?_eq_some_iff.1 hj).1; omega), List.getElem?_map, hj]
  rfl

end Go.Proofs.Ytdgmohebnkcohaa

namespace Go.Proofs.Ytdgmohebnkcohaa
open Go.RowKit
set_option linter.unusedVariables false

set_option maxHeartbeats 1000000 in
theorem markGraph_any (g lo hi : Nat) (ns : List Nd) (c : Nat) (r k0 : Int) (w : World) (h : Markable w g lo hi 38 3 ns) (hs : Small ns) (hk0 : 0 ≤ k0) (hk1 : k0 ≤ 1048576) (hg1 : lo ≤ g) (hg2 : g < hi) (hhi : hi ≤ w.heap.size) :
    Calls Try.prog 9 #[.agg #[.slice (some ⟨g, 0, none⟩) ns.length c, .int .i64 r], .int .i64 k0] w fun e w' => (∃ k1 : Int, (0 ≤ k1 ∧ k1 ≤ 2000000000000) ∧ e = .returned (.int .i64 k1)) ∧ Save lo hi w w' := by
  have hB : Below w.heap.size w (w.alloc (.cells #[.slice (some ⟨g, 0, none⟩) ns.length c, .int .i64 r] 28)) := (Below.refl _ _).alloc (Nat.le_refl _) _
  have h2 : Markable (w.alloc (.cells #[.slice (some ⟨g, 0, none⟩) ns.length c, .int .i64 r] 28)) g lo hi 38 3 ns :=
    h.kept (hB.block g (by omega)) (fun k _ hk => hB.block k (by omega))
  clear h
  go_enter Try.func9, Try.ntmps9
  go_wp2_with fail
  refine (markNodeS_any g lo hi ns c k0 _ h2 hs hk0 hk1 hg1 hg2).mono ?_
  rintro e w' ⟨⟨k1, hk, rfl⟩, ho⟩
  have HS := hide ((Save.of_below hB).trans (Save.of_only ho))
  clear ho h2 hB
  go_wp2
  go_ret
  exact ⟨⟨k1, hk, rfl⟩, HS.out⟩

end Go.Proofs.Ytdgmohebnkcohaa

namespace Go.Proofs.Ytdgmohebnkcohaa
open Go.RowKit
set_option linter.unusedVariables false

set_option maxHeartbeats 1000000 in
theorem heldIntS_any (A : Option Addr) (n c : Nat) (k0 : Int) (w : World) (h : IntsAt w w.heap.size A (marks k0 n)) (hk0 : 0 ≤ k0) (hk1 : k0 ≤ 4611686018427387904) (hn : n ≤ 1048576) :
    Calls Try.prog 40 #[.slice A n c, .int .i64 k0] w fun e w' => e = .returned (.int .i64 (k0 + n)) ∧ w = w' := by
  go_enter Try.func40, Try.ntmps40
  go_wp2_with fail
  go_loop [1, 5] (fun kv iv => ∃ j : Nat, j ≤ n ∧ iv = .int .i64 j ∧ kv = .int .i64 (k0 + (j : Int))) (fun _ iv => n - (intOf iv).toNat)
  case atStart => exact ⟨0, Nat.zero_le _, rfl, by go_num⟩
  case round =>
    obtain ⟨j, hj, rfl, rfl⟩ := hrel
    by_cases hlt : j < n
    · obtain ⟨b, off, x, rfl, hbl, hx, _, hc⟩ := h.at_ (k := j) (by rw [marks_len]; exact hlt)
      rw [marks_at hlt] at hx
      obtain rfl : k0 + (j : Int) = x := Option.some.inj hx
      have t : ((k0 + (j : Int)) != (k0 + (j : Int))) = false := by simp
      have hk2 : k0 + (j : Int) ≤ 9223372036854775806 := by omega
      clear hx
      go_wp2
      go_round
      case rel => exact ⟨j + 1, by omega, by go_num, by go_num⟩
      case measure => simp [intOf]; omega
    · obtain rfl : j = n := by omega
      clear hlt
      go_wp2
      go_ret
      exact ⟨rfl, rfl⟩

end Go.Proofs.Ytdgmohebnkcohaa
