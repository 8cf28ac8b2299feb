/-
  markGraph: it marks the nodes of a graph of the call's own, and leaves all other old memory alone.
-/
import Derived.Test.YtfhmmdiicnfjbabMark
namespace Go.Proofs.Ytfhmmdiicnfjbab
open Go.RowKit
set_option linter.unusedVariables false

set_option maxHeartbeats 1000000 in
theorem markGraph_any (g lo hi : Nat) (ns : List Nd) (c : Nat) (r k0 : Int) (w : World) (h : Markable w g lo hi 51 3 ns) (hs : Small ns) (hk0 : 0 ≤ k0) (hk1 : k0 ≤ 1048576) (hg1 : lo ≤ g) (hg2 : g < hi) (hhi : hi ≤ w.heap.size) :
    Calls Try.prog 11 #[.agg #[.slice (some ⟨g, 0, none⟩) ns.length c, .int .i64 r], .int .i64 k0] w fun e w' => (∃ k1 : Int, (0 ≤ k1 ∧ k1 ≤ 2000000000000) ∧ e = .returned (.int .i64 k1)) ∧ Save lo hi w w' := by
  have hB : Below w.heap.size w (w.alloc (.cells #[.slice (some ⟨g, 0, none⟩) ns.length c, .int .i64 r] 30)) := (Below.refl _ _).alloc (Nat.le_refl _) _
  have h2 : Markable (w.alloc (.cells #[.slice (some ⟨g, 0, none⟩) ns.length c, .int .i64 r] 30)) g lo hi 51 3 ns :=
    h.kept (hB.block g (by omega)) (fun k _ hk => hB.block k (by omega))
  clear h
  go_enter Try.func11, Try.ntmps11
  go_wp2_with fail
  refine (markNodeS_any g lo hi ns c k0 _ h2 hs hk0 hk1 hg1 hg2).mono ?_
  rintro e w' ⟨⟨k1, hk, rfl⟩, ho⟩
  have HS := hide ((Save.of_below hB).trans (Save.of_only ho))
  clear ho h2 hB
  go_wp2
  go_ret
  exact ⟨⟨k1, hk, rfl⟩, HS.out⟩

end Go.Proofs.Ytfhmmdiicnfjbab
