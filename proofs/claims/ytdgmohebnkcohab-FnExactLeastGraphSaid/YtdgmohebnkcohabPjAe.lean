/-
  Lemmas, several texts in one: GivB, NumI, OwnC, OwnR, MarkI, HeldI.
-/
import Derived.Test.YtdgmohebnkcohabPjAd
import Derived.Test.YtdgmohebnkcohabSetI
import Derived.Maps.OwnOps
import Derived.Test.YtdgmohebnkcohabPjAa
import Derived.Maps.RangeWalk
import Derived.Test.YtdgmohebnkcohabPjAb
namespace Go.Proofs.Ytdgmohebnkcohab
open Go.RowKit Go.Maps
set_option linter.unusedVariables false

theorem GivesG.zero (w w' : World) (hb : Below w.heap.size w w') : GivesG w [] 0 (.returned (.agg #[.slice none 0 0, .int .i64 0])) w' :=
  ⟨none, 0, rfl, .inl ⟨rfl, rfl, rfl⟩, hb⟩

theorem OwnNs.lowB {w : World} {lo lo2 hi : Nat} {A : Option Addr} {c : Nat} {ns : List Nd} (h : OwnNs w lo hi A c ns) (h2 : lo2 ≤ lo) : OwnNs w lo2 hi A c ns := by
  rcases h with h | ⟨g, e, h⟩
  · exact .inl h
  · exact .inr ⟨g, e, h.low h2⟩

/-- the result is stored -/
theorem GivesG.put {w wd w2 w3 : World} {A : Option Addr} {c : Nat} {ms : List Nd} {r : Int} (hw : w.heap.size + 1 < wd.heap.size) (h0 : Below w.heap.size w wd) (h2 : Below wd.heap.size wd w2) (h3 : Below w2.heap.size w2 w3) (h : OwnNs w3 w2.heap.size w3.heap.size A c ms) :
    GivesG w ms r (.returned (.agg #[.slice A ms.length c, .int .i64 r])) ((w3.setCell ⟨w.heap.size + 1, 0, none⟩ (.slice A ms.length c)).setCell ⟨w.heap.size + 1, 1, none⟩ (.int .i64 r)) := by
  have hs2 := h2.size
  refine ⟨A, c, rfl, ?_, ((h0.trans ((h2.mono (by omega)).trans (h3.mono (by omega)))).setCell (p := ⟨w.heap.size + 1, 0, none⟩) (by show w.heap.size ≤ w.heap.size + 1; omega) _).setCell (p := ⟨w.heap.size + 1, 1, none⟩) (by show w.heap.size ≤ w.heap.size + 1; omega) _⟩
  have := (h.kept (w' := (w3.setCell ⟨w.heap.size + 1, 0, none⟩ (.slice A ms.length c)).setCell ⟨w.heap.size + 1, 1, none⟩ (.int .i64 r)) (fun b hb _ => (Below.heap_setCell _ _ _ _ (by show b ≠ w.heap.size + 1; omega)).trans (Below.heap_setCell _ _ _ _ (by show b ≠ w.heap.size + 1; omega)))).lowB (lo2 := w.heap.size) (by omega)
  simpa using this

end Go.Proofs.Ytdgmohebnkcohab

namespace Go.Proofs.Ytdgmohebnkcohab
open Go.RowKit Go.Maps
set_option linter.unusedVariables false

theorem place_idx {L : List Int} {x : Int} (h : x ∈ L) : (L.idxOf x : Int) = place L x := (place_pos h).symm

set_option maxHeartbeats 1000000 in
theorem numI_any (g base : Nat) (m : Option Nat) (A : Option Addr) (c : Nat) (L : List Int) (x : Int) (w : World) (h : SetI w g base m A c L) (hx : In64 x) (hin : x ∈ L) :
    Calls Try.prog 55 #[.pointer (some ⟨g, 0, none⟩), .int .i64 x] w fun e w' => e = .returned (.int .i64 (place L x)) ∧ w = w' := by
  obtain ⟨hbox, _, hmap, hlt, _⟩ := h
  rcases hmap with ⟨rfl, rfl⟩ | ⟨b, n, D, rfl, hb, hown, hn, hhas, hat⟩
  · cases hin
  · have b0 := hbox.cell 0
    simp at b0
    have hat1 := hat x hin
    have HP := hide (place_idx hin)
    clear hbox hhas hat hin
    go_enter Try.func55, Try.ntmps55
    go_wp2_with (at_lookup; refine wpList_lookup_own_int _ rfl _ _ 66 rfl 3 3 .i64 lawI Try.underlying66 Try.underlying3 (zeroI _) b n _ rfl hown _ _ rfl (keyOf_i hx) ?_; intro cc hat2 hwc)
    go_ret
    rw [hat1] at hat2
    injection hat2 with hat2
    injection hat2 with _ hat2
    exact ⟨ret_int (by rw [← HP.out, ← hat2]), rfl⟩

end Go.Proofs.Ytdgmohebnkcohab

namespace Go.Proofs.Ytdgmohebnkcohab
open Go.RowKit
set_option linter.unusedVariables false

theorem OwnI.ofB {w w' : World} {base : Nat} {A : Option Addr} {c : Nat} {xs : List Int} (h : OwnI w base A c xs) (hA : ∀ g, blockOf A = some g → w'.heap[g]? = w.heap[g]?) : OwnI w' base A c xs := by
  refine ⟨h.own.1, ?_⟩
  rcases h.own.2 with h2 | ⟨g, cap, cur, hv, hg, hh, r⟩
  · exact .inl h2
  · refine .inr ⟨g, cap, cur, hv, hg, ?_, r⟩
    rw [hA g (by injection hv with hv; rw [hv]; rfl)]
    exact hh

theorem OwnI.setAt {w : World} {base g : Nat} {c : Nat} {xs : List Int} (h : OwnI w base (some ⟨g, 0, none⟩) c xs) (j : Nat) (x : Int) :
    OwnI (w.setCell ⟨g, j, none⟩ (.int .i64 x)) base (some ⟨g, 0, none⟩) c (xs.set j x) := by
  have := (h.own.stored j (.int .i64 x)).1
  refine ⟨?_⟩
  rw [List.length_set, List.map_set]
  exact this

/-- the first of its elements, with the same room behind them -/
theorem OwnI.cutAt {w : World} {base : Nat} {A : Option Addr} {c : Nat} {xs : List Int} (h : OwnI w base A c xs) {k : Nat} (hk : k ≤ xs.length) : OwnI w base A c (xs.take k) := by
  have hl : (xs.take k).length = k := by simp; omega
  obtain ⟨h1, h2⟩ := h.own
  refine ⟨⟨by simp, ?_⟩⟩
  rcases h2 with ⟨h3, h4⟩ | ⟨g, cap, cur, hv, hg, hh, hn, hm, hs, ht⟩
  · have : xs = [] := List.eq_nil_of_length_eq_zero h4
    subst this
    exact .inl ⟨by simpa using h3, by simp⟩
  · refine .inr ⟨g, cap, cur, ?_, hg, hh, by omega, hm, hs, ?_⟩
    · injection hv with e1 _ e3
      rw [e1, e3]
    · rw [hl]
      have := congrArg (fun l => l.take k) ht
      simp only [List.take_take, Nat.mul_one] at this
      rw [Nat.min_eq_left hk] at this
      rw [Nat.mul_one, this, List.map_take]

theorem OwnI.capLen {w : World} {base : Nat} {A : Option Addr} {c : Nat} {xs : List Int} (h : OwnI w base A c xs) : xs.length ≤ c := by
  rcases h.own with ⟨hl, hh⟩
  rcases hh with ⟨h1, h2⟩ | ⟨g, cap, cur, hv, hg, hh, hle, hm, hs, hx⟩
  · rw [h2]; exact Nat.zero_le _
  · injection hv with _ _ h3
    subst h3
    exact hle

theorem OwnI.frozenM {w : World} {base g : Nat} {c : Nat} {xs : List Int} (h : OwnI w base (some ⟨g, 0, none⟩) c xs) (j : Nat) : w.frozen? ⟨g, j, none⟩ = false := by
  rcases h.own.2 with ⟨h1, _⟩ | ⟨g', cap, cur, hv, hg, hh, _⟩
  · injection h1 with h1
    cases h1
  · injection hv with hv _ hc
    obtain rfl : g = g' := by simpa using hv
    exact Lies.frozen hh j
theorem OwnI.cellM {w : World} {base g : Nat} {c : Nat} {xs : List Int} (h : OwnI w base (some ⟨g, 0, none⟩) c xs) {j : Nat} {x : Int} (hj : xs[j]? = some x) : w.cell? ⟨g, j, none⟩ = some (.int .i64 x) := by
  rw [h.own.cellAt j (by have := (List.getElem?_eq_some_iff.1 hj).1; omega), List.getElem?_map, hj]
  rfl

end Go.Proofs.Ytdgmohebnkcohab

namespace Go.Proofs.Ytdgmohebnkcohab
open Go.RowKit
set_option linter.unusedVariables false


/-- a row behind an owned int slice -/
theorem OwnI.row {w : World} {base g : Nat} {c : Nat} {xs : List Int} (h : OwnI w base (some ⟨g, 0, none⟩) c xs) :
    ∃ (cap : Nat) (f : Nat → Value), w.rowIs g 3 cap f ∧ xs.length ≤ cap ∧ cap ≤ maxLen ∧ c = cap ∧ base ≤ g := by
  rcases h.own.2 with ⟨h1, _⟩ | ⟨g', cap, cur, hv, hg, hh, hn, hm, hs, _⟩
  · injection h1 with h1
    cases h1
  · injection hv with hv _ hc
    obtain rfl : g = g' := by simpa using hv
    refine ⟨cap, fun i => (cur[i]?).getD undef, ⟨cur, hh, by simpa using hs, fun i hi => ?_⟩, hn, hm, hc, hg⟩
    have : i < cur.size := by rw [hs]; omega
    show _ = some ((cur[i]?).getD undef)
    rw [Array.getElem?_eq_getElem this]; rfl

theorem OwnI.of_row {w : World} {base g cap : Nat} {f : Nat → Value} {xs : List Int} (h : w.rowIs g 3 cap f) (hl : xs.length ≤ cap) (hm : cap ≤ maxLen) (hb : base ≤ g) (hf : ∀ i x, xs[i]? = some x → f i = .int .i64 x) :
    OwnI w base (some ⟨g, 0, none⟩) cap xs := by
  obtain ⟨cur, hh, hs, hc⟩ := h
  refine ⟨⟨by simp, .inr ⟨g, cap, cur, rfl, hb, hh, hl, hm, by simpa using hs, ?_⟩⟩⟩
  apply List.ext_getElem?
  intro i
  rw [List.getElem?_take, List.getElem?_map]
  by_cases hi : i < xs.length
  · rw [if_pos (by omega), Array.getElem?_toList, hc i (by omega), List.getElem?_eq_getElem hi]
    simp [hf i _ (List.getElem?_eq_getElem hi)]
  · rw [if_neg (by omega), List.getElem?_eq_none (by omega)]
    rfl

end Go.Proofs.Ytdgmohebnkcohab

namespace Go.Proofs.Ytdgmohebnkcohab
open Go.RowKit
set_option linter.unusedVariables false

set_option maxHeartbeats 1000000 in
theorem markIntS_row (g t0 : Nat) (n c : Nat) (f : Nat → Value) (k0 : Int) (w : World) (hrow : w.rowIs g t0 n f) (m : Nat) (hm : m ≤ n) (hk0 : 0 ≤ k0) (hk1 : k0 ≤ 4611686018427387904) (hn : m ≤ 1048576) :
    Calls Try.prog 41 #[.slice (some ⟨g, 0, none⟩) m c, .int .i64 k0] w fun e w' => e = .returned (.int .i64 (k0 + m)) ∧
      w'.rowIs g t0 n (fun i => if i < m then .int .i64 (k0 + (i : Int)) else f i) ∧ Only g (g + 1) w w' := by
  go_enter Try.func41, Try.ntmps41
  go_wp2_with fail
  go_loopw [1, 5] (fun kv iv wr => ∃ j : Nat, j ≤ m ∧ iv = .int .i64 j ∧ kv = .int .i64 (k0 + (j : Int)) ∧ wr.rowIs g t0 n (fun i => if i < j then .int .i64 (k0 + (i : Int)) else f i) ∧ Only g (g + 1) w wr) (fun _ iv _ => m - (intOf iv).toNat)
  case atStart => exact ⟨0, Nat.zero_le _, rfl, by go_num, hrow.congr (fun i _ => by simp), Only.refl _ _ _⟩
  case round =>
    obtain ⟨j, hj, rfl, rfl, hr, ho⟩ := hrel
    clear hrow
    by_cases hlt : j < m
    · have c1 := hr.cell (i := j) (by omega)
      have c2 := hr.frozen j
      simp at c1
      have hset := hr.set j (.int .i64 (k0 + (j : Int)))
      have hos := ho.setCell (p := ⟨g, j, none⟩) (Nat.le_refl _) (Nat.lt_succ_self _) (.int .i64 (k0 + (j : Int)))
      have HR := hide hset
      have HO := hide hos
      clear hr ho hset hos
      have hk2 : k0 + (j : Int) ≤ 9223372036854775806 := by omega
      go_wp2
      go_roundw
      case rel => exact ⟨j + 1, by omega, by go_num, by go_num, HR.out.congr (fun i _ => by
        by_cases e : i = j
        · subst e; rw [if_pos rfl, if_pos (by omega)]
        · rw [if_neg e]
          by_cases e2 : i < j
          · rw [if_pos e2, if_pos (by omega)]
          · rw [if_neg e2, if_neg (by omega)]), HO.out⟩
      case measure => simp [intOf]; omega
    · obtain rfl : j = m := by omega
      clear hlt
      have HR := hide hr
      clear hr
      go_wp2
      go_ret
      exact ⟨rfl, HR.out, ho⟩

set_option maxHeartbeats 400000 in
theorem markIntS_nil (c : Nat) (k0 : Int) (w : World) :
    Calls Try.prog 41 #[.slice none 0 c, .int .i64 k0] w fun e w' => e = .returned (.int .i64 k0) ∧ w = w' := by
  go_enter Try.func41, Try.ntmps41
  go_wp2_with fail
  refine wp_loop_rounds 1 ?_
  rw [rounds_succ]
  go_wp2
  go_ret
  exact ⟨rfl, rfl⟩

/-- markIntS of an owned slice -/
theorem markIntS_own (base : Nat) (A : Option Addr) (c : Nat) (xs : List Int) (k0 : Int) (w : World) (h : OwnI w base A c xs) (hk0 : 0 ≤ k0) (hk1 : k0 ≤ 1048576) (hn : xs.length ≤ 1048576) :
    Calls Try.prog 41 #[.slice A xs.length c, .int .i64 k0] w fun e w' => e = .returned (.int .i64 (k0 + xs.length)) ∧ OwnI w' base A c (marks k0 xs.length) ∧
      (∀ lo hi, (∀ g, blockOf A = some g → lo ≤ g ∧ g < hi) → Only lo hi w w') := by
  rcases h.form with ⟨rfl, rfl, rfl⟩ | ⟨g, rfl, hb, hg⟩
  · refine (markIntS_nil 0 k0 w).mono fun e w' ⟨he, hw⟩ => ?_
    subst hw
    exact ⟨by rw [he]; simp, OwnI.empty _ _, fun lo hi _ => Only.refl _ _ _⟩
  · obtain ⟨cap, f, hrow, hle, hm, rfl, hbg⟩ := h.row
    refine (markIntS_row g 3 c c f k0 w hrow xs.length hle hk0 (by omega) hn).mono fun e w' ⟨he, hr, ho⟩ => ?_
    refine ⟨he, OwnI.of_row hr (by rw [marks_len]; exact hle) hm hbg (fun i x hx => ?_), fun lo hi hgb => ?_⟩
    · have hi : i < xs.length := by have := (List.getElem?_eq_some_iff.1 hx).1; rw [marks_len] at this; exact this
      rw [marks_at hi] at hx
      injection hx with hx
      rw [if_pos hi, hx]
    · have := hgb g rfl
      exact ho.mono this.1 (by omega)

end Go.Proofs.Ytdgmohebnkcohab

namespace Go.Proofs.Ytdgmohebnkcohab
open Go.RowKit
set_option linter.unusedVariables false

set_option maxHeartbeats 1000000 in
theorem heldIntS_any (A : Option Addr) (n c : Nat) (k0 : Int) (w : World) (h : IntsAt w w.heap.size A (marks k0 n)) (hk0 : 0 ≤ k0) (hk1 : k0 ≤ 4611686018427387904) (hn : n ≤ 1048576) :
    Calls Try.prog 42 #[.slice A n c, .int .i64 k0] w fun e w' => e = .returned (.int .i64 (k0 + n)) ∧ w = w' := by
  go_enter Try.func42, Try.ntmps42
  go_wp2_with fail
  go_loop [1, 5] (fun kv iv => ∃ j : Nat, j ≤ n ∧ iv = .int .i64 j ∧ kv = .int .i64 (k0 + (j : Int))) (fun _ iv => n - (intOf iv).toNat)
  case atStart => exact ⟨0, Nat.zero_le _, rfl, by go_num⟩
  case round =>
    obtain ⟨j, hj, rfl, rfl⟩ := hrel
    by_cases hlt : j < n
    · obtain ⟨b, off, x, rfl, hbl, hx, _, hc⟩ := h.at_ (k := j) (by rw [marks_len]; exact hlt)
      rw [marks_at hlt] at hx
      obtain rfl : k0 + (j : Int) = x := Option.some.inj hx
      have t : ((k0 + (j : Int)) != (k0 + (j : Int))) = false := by simp
      have hk2 : k0 + (j : Int) ≤ 9223372036854775806 := by omega
      clear hx
      go_wp2
      go_round
      case rel => exact ⟨j + 1, by omega, by go_num, by go_num⟩
      case measure => simp [intOf]; omega
    · obtain rfl : j = n := by omega
      clear hlt
      go_wp2
      go_ret
      exact ⟨rfl, rfl⟩

end Go.Proofs.Ytdgmohebnkcohab
