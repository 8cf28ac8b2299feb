/-
  The generator's draw for LeastGraph: some graph that can be read comes back.
-/
import Derived.Test.YtcblcmdfeoijpabPjAp
import Derived.Test.YtcblcmdfeoijpabAnyGraC
namespace Go.Proofs.Ytcblcmdfeoijpab
open Go.RowKit
set_option linter.unusedVariables false

/-- some graph that can be read comes back, and old memory is as it was -/
def DrawnG (w : World) (e : Ending) (w' : World) : Prop :=
  ∃ (g cap : Nat) (ns : List Nd) (r : Int), e = .returned (.agg #[.slice (some ⟨g, 0, none⟩) ns.length cap, .int .i64 r]) ∧ NdsAt w' w'.heap.size (some ⟨g, 0, none⟩) ns ∧ 1 ≤ ns.length ∧ ns.length ≤ 10 ∧ In64 r ∧ Below w.heap.size w w' ∧ ns.length ≤ cap

set_option maxHeartbeats 1000000 in
theorem drawLeastGraph_any (A : Option Addr) (n c : Nat) (w : World) (h : BytesAt w w.heap.size A n) (hc : n ≤ c) (hn : n ≤ 9223372036854775807) :
    Calls Try.prog 4 #[.slice A n c] w (DrawnG w) := by
  have hB : Below w.heap.size w (w.alloc (.cells #[.slice none 0 0, .int .i64 0] 25)) := (Below.refl _ w).alloc (Nat.le_refl _) _
  have l2 := Lies.new w #[.slice none 0 0, .int .i64 0] 25
  have h2 := (h.later hB).more hB.size
  clear h
  go_enter Try.func4, Try.ntmps4
  go_wp2_with fail
  generalize w.alloc (.cells #[.slice none 0 0, .int .i64 0] 25) = W at hB l2 h2 ⊢
  refine (newReader_any A n c W h2 hc hn).mono ?_
  rintro e w1 ⟨rfl, ⟨n', c', hrd⟩, hb1⟩
  have l3 := l2.below hb1 l2.lt
  have hB1 := hB.trans (hb1.mono hB.size)
  have hrl := hrd.box.lt
  have hwl := l2.lt
  clear l2 h2 hB hb1
  go_wp2_with fail
  refine (anyGraph_any W.heap.size A n' c' 0 w1 hrd (by omega)).mono ?_
  rintro e w2 ⟨g, cap, p', ns, r, rfl, _, _, hnds, hg, h1, h10, hr64, hG, hkf, hcap⟩
  have hbl : Below W.heap.size w1 w2 := ⟨hG.os, hG.tape, hG.output, hG.size, fun k hk => hG.block k (by omega) (by omega)⟩
  have l4 := l3.below hbl hwl
  have hB2 := hB1.trans (hbl.mono (by omega))
  have hwW : w.heap.size < W.heap.size := hwl
  have hw1 : W.heap.size < w1.heap.size := hrl
  have hfin : Hid (NdsAt ((w2.setCell ⟨w.heap.size, 0, none⟩ (.slice (some ⟨g, 0, none⟩) ns.length cap)).setCell ⟨w.heap.size, 1, none⟩ (.int .i64 r)) ((w2.setCell ⟨w.heap.size, 0, none⟩ (.slice (some ⟨g, 0, none⟩) ns.length cap)).setCell ⟨w.heap.size, 1, none⟩ (.int .i64 r)).heap.size (some ⟨g, 0, none⟩) ns) := by
    have hbb : ∀ b, b ≠ w.heap.size → ((w2.setCell ⟨w.heap.size, 0, none⟩ (.slice (some ⟨g, 0, none⟩) ns.length cap)).setCell ⟨w.heap.size, 1, none⟩ (.int .i64 r)).heap[b]? = w2.heap[b]? := fun b hb => (Below.heap_setCell _ _ _ _ hb).trans (Below.heap_setCell _ _ _ _ hb)
    exact hide (hnds.keptK (by simp) (hbb g (by omega)) (fun j hj A3 k3 d3 h3 b hb => hbb b (by have := hkf j hj A3 k3 d3 h3 b hb; omega)))
  have l5 := (l4.set 0 (.slice (some ⟨g, 0, none⟩) ns.length cap)).set 1 (.int .i64 r)
  simp only [List.setIfInBounds_toArray, List.set_cons_succ, List.set_cons_zero] at l5
  have s0 := l5.cell 0
  have s1 := l5.cell 1
  have q0 := l4.cell 0
  have q1 := l4.cell 1
  have q2 := l4.frozen 0
  have q3 := l4.frozen 1
  simp only [List.getElem?_toArray, List.getElem?_cons_zero, List.getElem?_cons_succ] at s0 s1 q0 q1
  have HB := hide ((hB2.setCell (p := ⟨w.heap.size, 0, none⟩) (Nat.le_refl _) (.slice (some ⟨g, 0, none⟩) ns.length cap)).setCell (p := ⟨w.heap.size, 1, none⟩) (Nat.le_refl _) (.int .i64 r))
  clear l3 l4 l5 hnds hG hbl hB1 hB2 hrd hkf
  go_wp2
  refine bodyPost_ret (v := .agg #[.slice (some ⟨g, 0, none⟩) ns.length cap, .int .i64 r]) (by simp [results, Try.results4, go_sem, s0, s1]) rfl ?_
  exact ⟨g, cap, ns, r, rfl, hfin.out, h1, h10, hr64, HB.out, hcap⟩

end Go.Proofs.Ytcblcmdfeoijpab
