/-
  Lemmas, several texts in one: GivNd, InfoI, SmN, OwnR, Eq, EqGS.
-/
import Derived.Test.YtdgmohebnkcohaaOwnNB
import Derived.Test.YtdgmohebnkcohaaPjAa
import Derived.Test.YtdgmohebnkcohaaMem
import Derived.Test.YtdgmohebnkcohaaOnly
import Derived.Test.YtdgmohebnkcohaaEqN
import Derived.Deep.QuietTactic
import Derived.BigQuiet
import Derived.StillTailTactics
namespace Go.Proofs.Ytdgmohebnkcohaa
open Go.RowKit
set_option linter.unusedVariables false

/-- a node, its kids in memory of the call's own -/
def GivesNd (w : World) (k v : Int) (ks : List Int) (e : Ending) (w' : World) : Prop := ∃ A c, e = .returned (.agg #[.int .i64 k, .int .i64 v, .slice A ks.length c]) ∧ OwnI w' w.heap.size A c ks ∧ Below w.heap.size w w'

end Go.Proofs.Ytdgmohebnkcohaa

namespace Go.Proofs.Ytdgmohebnkcohaa

theorem infoInt : (Try.prog.info? 3).map (fun i => (i.zero, i.size, i.bytes)) = some (some (.int .i64 0), 1, 8) := by kernel_rfl

end Go.Proofs.Ytdgmohebnkcohaa

namespace Go.Proofs.Ytdgmohebnkcohaa

/-- all lists of kids, and the marks, are small -/
structure SmallN (ns : List Nd) : Prop where
  len : ns.length ≤ 400
  kids : ∀ n ∈ ns, n.kids.length ≤ 2000

end Go.Proofs.Ytdgmohebnkcohaa

namespace Go.Proofs.Ytdgmohebnkcohaa
open Go.RowKit
set_option linter.unusedVariables false


/-- a row behind an owned int slice -/
theorem OwnI.row {w : World} {base g : Nat} {c : Nat} {xs : List Int} (h : OwnI w base (some ⟨g, 0, none⟩) c xs) :
    ∃ (cap : Nat) (f : Nat → Value), w.rowIs g 3 cap f ∧ xs.length ≤ cap ∧ cap ≤ maxLen ∧ c = cap ∧ base ≤ g := by
  rcases h.own.2 with ⟨h1, _⟩ | ⟨g', cap, cur, hv, hg, hh, hn, hm, hs, _⟩
  · injection h1 with h1
    cases h1
  · injection hv with hv _ hc
    obtain rfl : g = g' := by simpa using hv
    refine ⟨cap, fun i => (cur[i]?).getD undef, ⟨cur, hh, by simpa using hs, fun i hi => ?_⟩, hn, hm, hc, hg⟩
    have : i < cur.size := by rw [hs]; omega
    show _ = some ((cur[i]?).getD undef)
    rw [Array.getElem?_eq_getElem this]; rfl

theorem OwnI.of_row {w : World} {base g cap : Nat} {f : Nat → Value} {xs : List Int} (h : w.rowIs g 3 cap f) (hl : xs.length ≤ cap) (hm : cap ≤ maxLen) (hb : base ≤ g) (hf : ∀ i x, xs[i]? = some x → f i = .int .i64 x) :
    OwnI w base (some ⟨g, 0, none⟩) cap xs := by
  obtain ⟨cur, hh, hs, hc⟩ := h
  refine ⟨⟨by simp, .inr ⟨g, cap, cur, rfl, hb, hh, hl, hm, by simpa using hs, ?_⟩⟩⟩
  apply List.ext_getElem?
  intro i
  rw [List.getElem?_take, List.getElem?_map]
  by_cases hi : i < xs.length
  · rw [if_pos (by omega), Array.getElem?_toList, hc i (by omega), List.getElem?_eq_getElem hi]
    simp [hf i _ (List.getElem?_eq_getElem hi)]
  · rw [if_neg (by omega), List.getElem?_eq_none (by omega)]
    rfl

end Go.Proofs.Ytdgmohebnkcohaa

namespace Go.Proofs.Ytdgmohebnkcohaa
open Go.RowKit

set_option maxHeartbeats 1000000 in
theorem eqGraph_any (A A' : Option Addr) (ms ns : List Nd) (r s : Int) (c c' : Nat) (w : World) (h : NdsAt w w.heap.size A ms) (h' : NdsAt w w.heap.size A' ns) :
    Calls Try.prog 8 #[.agg #[.slice A ms.length c, .int .i64 r], .agg #[.slice A' ns.length c', .int .i64 s]] w fun e w' =>
      e = .returned (.bool (decide (ms = ns) && decide (r = s))) ∧ Below w.heap.size w w' := by
  have hB : Below w.heap.size w ((w.alloc (.cells #[.slice A ms.length c, .int .i64 r] 28)).alloc (.cells #[.slice A' ns.length c', .int .i64 s] 28)) :=
    ((Below.refl _ _).alloc (Nat.le_refl _) _).alloc (by simp) _
  have l1 := (Lies.new w #[.slice A ms.length c, .int .i64 r] 28).alloc (.cells #[.slice A' ns.length c', .int .i64 s] 28)
  have l2 := Lies.new (w.alloc (.cells #[.slice A ms.length c, .int .i64 r] 28)) #[.slice A' ns.length c', .int .i64 s] 28
  have hi := h.later hB (Nat.le_refl _)
  have hi' := h'.later hB (Nat.le_refl _)
  clear h h'
  by_cases h3 : ms = ns
  · have t3 := hide (show decide (ms = ns) = true by simpa using h3)
    by_cases h1 : r = s
    · have t1 : (r != s) = false := by simpa using h1
      have HF := hide (show (decide (ms = ns) && decide (r = s)) = true by simp [h1, h3])
      clear h1 h3
      go_enter Try.func8, Try.ntmps8
      go_wp2_with fail
      refine (eqNodeS_any A A' ms ns c c' _ hi hi').mono ?_
      rintro e w' ⟨rfl, hb⟩
      rw [t3.out]
      have d1 := (l1.below hb (by simp; omega)).cell 1
      have d2 := (l2.below hb (by simp)).cell 1
      simp at d1 d2
      go_wp2
      go_ret
      exact ⟨ret_bool HF.out.symm, hB.trans (hb.mono (by simp; omega))⟩
    · have t1 : (r != s) = true := by simpa using h1
      have HF := hide (show (decide (ms = ns) && decide (r = s)) = false by simp [h1])
      clear h1 h3
      go_enter Try.func8, Try.ntmps8
      go_wp2_with fail
      refine (eqNodeS_any A A' ms ns c c' _ hi hi').mono ?_
      rintro e w' ⟨rfl, hb⟩
      rw [t3.out]
      have d1 := (l1.below hb (by simp; omega)).cell 1
      have d2 := (l2.below hb (by simp)).cell 1
      simp at d1 d2
      go_wp2
      go_ret
      exact ⟨ret_bool HF.out.symm, hB.trans (hb.mono (by simp; omega))⟩
  · have t3 := hide (show decide (ms = ns) = false by simpa using h3)
    have HF := hide (show (decide (ms = ns) && decide (r = s)) = false by simp [h3])
    clear h3
    go_enter Try.func8, Try.ntmps8
    go_wp2_with fail
    refine (eqNodeS_any A A' ms ns c c' _ hi hi').mono ?_
    rintro e w' ⟨rfl, hb⟩
    rw [t3.out]
    go_wp2
    go_ret
    exact ⟨ret_bool HF.out.symm, hB.trans (hb.mono (by simp; omega))⟩

end Go.Proofs.Ytdgmohebnkcohaa

namespace Go.Proofs.Ytdgmohebnkcohaa
open Go.RowKit

theorem eqGraph_same (A A' : Option Addr) (ms : List Nd) (r : Int) (c c' : Nat) (w : World) (h : NdsAt w w.heap.size A ms) (h' : NdsAt w w.heap.size A' ms) :
    Calls Try.prog 8 #[.agg #[.slice A ms.length c, .int .i64 r], .agg #[.slice A' ms.length c', .int .i64 r]] w fun e w' => e = .returned (.bool true) ∧ Below w.heap.size w w' :=
  (eqGraph_any A A' ms ms r r c c' w h h').mono fun e w' ⟨he, hb⟩ => ⟨by rw [he]; simp, hb⟩

end Go.Proofs.Ytdgmohebnkcohaa
