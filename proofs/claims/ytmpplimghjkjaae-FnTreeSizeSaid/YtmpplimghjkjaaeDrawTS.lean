/-
  The generator's draw for TreeSize: some graph that can be read comes back.
-/
import Derived.Test.YtmpplimghjkjaaePkB
import Derived.Test.YtmpplimghjkjaaeAnyGraph
import Derived.Test.YtmpplimghjkjaaeBomb
namespace Go.Proofs.Ytmpplimghjkjaae
open Go.RowKit
set_option linter.unusedVariables false

/-- some graph that can be read comes back, and old memory is as it was -/
def DrawnT (w : World) (e : Ending) (w' : World) : Prop :=
  ∃ (g cap : Nat) (ns : List Nd) (r : Int), e = .returned (.agg #[.slice (some ⟨g, 0, none⟩) ns.length cap, .int .i64 r]) ∧ NdsAt w' w'.heap.size (some ⟨g, 0, none⟩) ns ∧ In64 r ∧ Below w.heap.size w w'

theorem RowN.somewhere {w : World} {base : Nat} {A : Option Addr} {c : Nat} {ns : List Nd} (h : RowN w base A c ns) (hn : 0 < ns.length) : ∃ g, A = some ⟨g, 0, none⟩ := by
  obtain ⟨xs, h1, _⟩ := h.row
  rcases h1.2 with ⟨_, h2⟩ | ⟨g, cap, cur, hv, _⟩
  · omega
  · injection hv with hv _ _
    exact ⟨g, hv⟩

set_option maxHeartbeats 1000000 in
theorem drawTreeSize_any (A : Option Addr) (n c : Nat) (w : World) (h : BytesAt w w.heap.size A n) (hc : n ≤ c) (hn : n ≤ 9223372036854775807) :
    Calls Try.prog 4 #[.slice A n c] w (DrawnT w) := by
  have hB : Below w.heap.size w (w.alloc (.cells #[.slice none 0 0, .int .i64 0] 25)) := (Below.refl _ w).alloc (Nat.le_refl _) _
  have l2 := Lies.new w #[.slice none 0 0, .int .i64 0] 25
  have h2 := (h.later hB).more hB.size
  clear h
  go_enter Try.func4, Try.ntmps4
  go_wp2_with fail
  generalize w.alloc (.cells #[.slice none 0 0, .int .i64 0] 25) = W at hB l2 h2 ⊢
  refine (newReader_any A n c W h2 hc hn).mono ?_
  rintro e w1 ⟨rfl, ⟨n', c', hrd⟩, hb1⟩
  have l3 := l2.below hb1 l2.lt
  have hB1 := hB.trans (hb1.mono hB.size)
  have hrl := hrd.box.lt
  have hwl := l2.lt
  clear l2 h2 hB hb1
  go_wp2_with fail
  refine (pick_any W.heap.size A n' c' 0 6 w1 hrd (by omega) (by omega)).mono ?_
  rintro e w2 ⟨⟨x, rfl, hx, _⟩, hr2, ht2⟩
  have hG2 : Grew W.heap.size w1 w2 := Grew.of_turn ht2
  have l4 := l3.grew hG2 (by omega)
  have hB2 : Below w.heap.size w w2 := hG2.below hB1 (by omega) (by omega)
  have hs2 := hr2.box.lt
  clear hx ht2 l3 hB1 hrd hG2
  by_cases h0 : x = 0
  · subst h0
    go_wp2_with fail
    refine (pick_any W.heap.size A n' c' 1 12 w2 hr2 (by omega) (by omega)).mono ?_
    rintro e w3 ⟨⟨y, rfl, hy, _⟩, hr3, ht3⟩
    have hy12 : (y : Int) < 12 := hy (by omega)
    have hG3 : Grew W.heap.size w2 w3 := Grew.of_turn ht3
    have l5 := l4.grew hG3 (by omega)
    have hB3 : Below w.heap.size w w3 := hG3.below hB2 (by omega) (by omega)
    have hs3 := hr3.box.lt
    clear hy ht3 l4 hB2 hr2 hr3 hG3
    go_wp2_with fail
    refine (bomb_any y (by omega) w3).mono ?_
    rintro e w4 ⟨Ab, cb, rfl, hrow, hb4⟩
    have hlen := bombNs_len y
    obtain ⟨g, rfl⟩ := hrow.somewhere (by omega)
    have l6 := l5.below hb4 l5.lt
    have hB4 := hB3.trans (hb4.mono (by omega))
    have l7 := l6.set 0 (.slice (some ⟨g, 0, none⟩) (bombNs y).length cb)
    have hrow2 := (hrow.setG (i := 0) l6 (.slice (some ⟨g, 0, none⟩) (bombNs y).length cb)).setG (i := 1) l7 (.int .i64 (y : Int))
    have hnds := hide (hrow2.nds (bombNs_wf y (by omega)) (by omega))
    have l8 := l7.set 1 (.int .i64 (y : Int))
    simp only [List.setIfInBounds_toArray, List.set_cons_succ, List.set_cons_zero] at l8
    have s0 := l8.cell 0
    have s1 := l8.cell 1
    have q0 := l6.cell 0
    have q1 := l6.cell 1
    have q2 := l6.frozen 0
    have q3 := l6.frozen 1
    simp only [List.getElem?_toArray, List.getElem?_cons_zero, List.getElem?_cons_succ] at s0 s1 q0 q1
    have HB := hide ((hB4.setCell (p := ⟨w.heap.size, 0, none⟩) (Nat.le_refl _) (.slice (some ⟨g, 0, none⟩) (bombNs y).length cb)).setCell (p := ⟨w.heap.size, 1, none⟩) (Nat.le_refl _) (.int .i64 (y : Int)))
    clear l5 l6 l7 l8 hrow hrow2 hb4 hB3 hB4 hlen
    generalize bombNs y = P at hnds s0 HB s1 ⊢
    go_wp2
    refine bodyPost_ret (v := .agg #[.slice (some ⟨g, 0, none⟩) P.length cb, .int .i64 (y : Int)]) (by simp [results, Try.results4, go_sem, s0, s1]) rfl ?_
    exact ⟨g, cb, P, y, rfl, hnds.out, ⟨by omega, by omega⟩, HB.out⟩
  · have t0 : ((x : Int) == 0) = false := beq_eq_false_iff_ne.2 (by omega)
    have t1 : (x == 0) = false := by simpa using h0
    clear h0
    go_wp2_with fail
    refine (anyGraph_any W.heap.size A n' c' 1 w2 hr2 (by omega)).mono ?_
    rintro e w3 ⟨g, cap, p', ns, r, rfl, _, _, hnds, hg, h1, h10, hr64, hG, hkf⟩
    have hbl : Below W.heap.size w2 w3 := ⟨hG.os, hG.tape, hG.output, hG.size, fun k hk => hG.block k (by omega) (by omega)⟩
    have l5 := l4.below hbl hwl
    have hB3 := hB2.trans (hbl.mono (by omega))
    have hfin : Hid (NdsAt ((w3.setCell ⟨w.heap.size, 0, none⟩ (.slice (some ⟨g, 0, none⟩) ns.length cap)).setCell ⟨w.heap.size, 1, none⟩ (.int .i64 r)) ((w3.setCell ⟨w.heap.size, 0, none⟩ (.slice (some ⟨g, 0, none⟩) ns.length cap)).setCell ⟨w.heap.size, 1, none⟩ (.int .i64 r)).heap.size (some ⟨g, 0, none⟩) ns) := by
      have hbb : ∀ b, b ≠ w.heap.size → ((w3.setCell ⟨w.heap.size, 0, none⟩ (.slice (some ⟨g, 0, none⟩) ns.length cap)).setCell ⟨w.heap.size, 1, none⟩ (.int .i64 r)).heap[b]? = w3.heap[b]? := fun b hb => (Below.heap_setCell _ _ _ _ hb).trans (Below.heap_setCell _ _ _ _ hb)
      exact hide (hnds.keptK (by simp) (hbb g (by omega)) (fun j hj A3 k3 d3 h3 b hb => hbb b (by have := hkf j hj A3 k3 d3 h3 b hb; omega)))
    have l6 := (l5.set 0 (.slice (some ⟨g, 0, none⟩) ns.length cap)).set 1 (.int .i64 r)
    simp only [List.setIfInBounds_toArray, List.set_cons_succ, List.set_cons_zero] at l6
    have s0 := l6.cell 0
    have s1 := l6.cell 1
    have q0 := l5.cell 0
    have q1 := l5.cell 1
    have q2 := l5.frozen 0
    have q3 := l5.frozen 1
    simp only [List.getElem?_toArray, List.getElem?_cons_zero, List.getElem?_cons_succ] at s0 s1 q0 q1
    have HB := hide ((hB3.setCell (p := ⟨w.heap.size, 0, none⟩) (Nat.le_refl _) (.slice (some ⟨g, 0, none⟩) ns.length cap)).setCell (p := ⟨w.heap.size, 1, none⟩) (Nat.le_refl _) (.int .i64 r))
    clear l4 l5 l6 hnds hG hbl hB2 hB3 hkf hr2
    go_wp2
    refine bodyPost_ret (v := .agg #[.slice (some ⟨g, 0, none⟩) ns.length cap, .int .i64 r]) (by simp [results, Try.results4, go_sem, s0, s1]) rfl ?_
    exact ⟨g, cap, ns, r, rfl, hfin.out, hr64, HB.out⟩

end Go.Proofs.Ytmpplimghjkjaae
