/-
  markGraph: it marks the nodes of a graph of the call's own, and leaves all other old memory alone.
-/
import Derived.Test.YtpmdnliipcnehacMark
namespace Go.Proofs.Ytpmdnliipcnehac
open Go.RowKit
set_option linter.unusedVariables false

/-- but for blocks from lo on and below hi, old memory is as it was -/
structure Save (lo hi : Nat) (w w' : World) : Prop where
  os : w'.os = w.os
  tape : w'.tape = w.tape
  output : w'.output = w.output
  size : w.heap.size ≤ w'.heap.size
  block : ∀ k, k < w.heap.size → k < lo ∨ hi ≤ k → w'.heap[k]? = w.heap[k]?

theorem Save.of_below {lo hi : Nat} {w w' : World} (h : Below w.heap.size w w') : Save lo hi w w' := ⟨h.os, h.tape, h.output, h.size, fun k hk _ => h.block k hk⟩
theorem Save.of_only {lo hi : Nat} {w w' : World} (h : Only lo hi w w') : Save lo hi w w' := ⟨h.os, h.tape, h.output, by rw [h.size]; exact Nat.le_refl _, fun k _ hk => h.block k hk⟩
theorem Save.trans {lo hi : Nat} {a b c : World} (h : Save lo hi a b) (k : Save lo hi b c) : Save lo hi a c :=
  ⟨k.os.trans h.os, k.tape.trans h.tape, k.output.trans h.output, Nat.le_trans h.size k.size, fun j hj hl => (k.block j (Nat.lt_of_lt_of_le hj h.size) hl).trans (h.block j hj hl)⟩
theorem Save.below {lo hi : Nat} {w w' : World} (h : Save lo hi w w') (hl : lo ≤ w.heap.size) : Below lo w w' := ⟨h.os, h.tape, h.output, h.size, fun k hk => h.block k (by omega) (.inl hk)⟩

theorem OwnI.save {w w' : World} {base lo hi : Nat} {A : Option Addr} {c : Nat} {xs : List Int} (h : OwnI w base A c xs) (ho : Save lo hi w w') (hA : ∀ g, blockOf A = some g → g < lo ∨ hi ≤ g) : OwnI w' base A c xs := by
  refine ⟨h.own.1, ?_⟩
  have hbl := h.blocks
  rcases h.own.2 with h2 | ⟨g, cap, cur, hv, hg, hh, r⟩
  · exact .inl h2
  · have hAg : blockOf A = some g := by
      injection hv with hv
      rw [hv]
      rfl
    refine .inr ⟨g, cap, cur, hv, hg, ?_, r⟩
    rw [ho.block g (hbl g hAg).2 (hA g hAg)]
    exact hh

set_option maxHeartbeats 1000000 in
theorem markGraph_any (g lo hi : Nat) (ns : List Nd) (c : Nat) (r k0 : Int) (w : World) (h : Markable w g lo hi 48 3 ns) (hs : Small ns) (hk0 : 0 ≤ k0) (hk1 : k0 ≤ 1048576) (hg1 : lo ≤ g) (hg2 : g < hi) (hhi : hi ≤ w.heap.size) :
    Calls Try.prog 10 #[.agg #[.slice (some ⟨g, 0, none⟩) ns.length c, .int .i64 r], .int .i64 k0] w fun e w' => (∃ k1 : Int, 0 ≤ k1 ∧ e = .returned (.int .i64 k1)) ∧ Save lo hi w w' := by
  have hB : Below w.heap.size w (w.alloc (.cells #[.slice (some ⟨g, 0, none⟩) ns.length c, .int .i64 r] 30)) := (Below.refl _ _).alloc (Nat.le_refl _) _
  have h2 : Markable (w.alloc (.cells #[.slice (some ⟨g, 0, none⟩) ns.length c, .int .i64 r] 30)) g lo hi 48 3 ns :=
    h.kept (hB.block g (by omega)) (fun k _ hk => hB.block k (by omega))
  clear h
  go_enter Try.func10, Try.ntmps10
  go_wp2_with fail
  refine (markNodeS_any g lo hi ns c k0 _ h2 hs hk0 hk1 hg1 hg2).mono ?_
  rintro e w' ⟨⟨k1, hk, rfl⟩, ho⟩
  have HS := hide ((Save.of_below hB).trans (Save.of_only ho))
  clear ho h2 hB
  go_wp2
  go_ret
  exact ⟨⟨k1, hk, rfl⟩, HS.out⟩

end Go.Proofs.Ytpmdnliipcnehac
