/-
  Lemmas, several texts in one: DrawET, LawTD.
-/
import Derived.Test.YtkgnijbdbkopkabPjAe
import Derived.Test.YtkgnijbdbkopkabAlkF
import Derived.Test.YtkgnijbdbkopkabPjAx
import Derived.Test.YtkgnijbdbkopkabPjAv
import Derived.Test.YtkgnijbdbkopkabPjAu
namespace Go.Proofs.Ytkgnijbdbkopkab
open Go.RowKit
set_option linter.unusedVariables false

theorem GotG.setB {X : World} {lo : Nat} {A1 : Option Addr} {c1 : Nat} {ms : List Nd} {r1 : Int} (h : GotG X lo A1 c1 ms r1) {b : Nat} (hb : b < lo) (x0 x1 : Value) : GotG ((X.setCell ⟨b, 0, none⟩ x0).setCell ⟨b, 1, none⟩ x1) lo A1 c1 ms r1 := by
  have hf : ∀ k, k ≠ b → ((X.setCell ⟨b, 0, none⟩ x0).setCell ⟨b, 1, none⟩ x1).heap[k]? = X.heap[k]? := fun k hk => (Below.heap_setCell _ _ _ _ hk).trans (Below.heap_setCell _ _ _ _ hk)
  exact ⟨h.sees.step (by simp) (fun k h1 h2 => hf k (by omega)), h.le, h.cap, h.r64⟩

/-- the memory of the draw -/
structure DtS (w X : World) (rb lo b6 b7 : Nat) (A1 : Option Addr) (c1 : Nat) (ms : List Nd) (r1 : Int) (A2 : Option Addr) (c2 : Nat) (ns : List Nd) (r2 : Int) (u0 u1 v0 v1 : Value) : Prop where
  bel : Below w.heap.size w X
  l2 : Lies X w.heap.size #[u0, u1] 25
  l3 : Lies X (w.heap.size + 1) #[v0, v1] 25
  l6 : Lies X b6 #[.slice A1 ms.length c1, .int .i64 r1] 25
  l7 : Lies X b7 #[.slice A2 ns.length c2, .int .i64 r2] 25
  ga : GotG X lo A1 c1 ms r1
  gb : GotG X lo A2 c2 ns r2
  h1 : w.heap.size + 1 < rb
  h2 : rb < lo
  h3 : lo ≤ b6
  h4 : b6 < b7

section
variable {w X : World} {rb lo b6 b7 : Nat} {A1 : Option Addr} {c1 : Nat} {ms : List Nd} {r1 : Int} {A2 : Option Addr} {c2 : Nat} {ns : List Nd} {r2 : Int} {u0 u1 v0 v1 : Value}

theorem DtS.move (h : DtS w X rb lo b6 b7 A1 c1 ms r1 A2 c2 ns r2 u0 u1 v0 v1) {Y : World} (hG : Grew rb X Y) : DtS w Y rb lo b6 b7 A1 c1 ms r1 A2 c2 ns r2 u0 u1 v0 v1 := by
  have a1 := h.h1
  have a2 := h.h2
  have a3 := h.h3
  have a4 := h.h4
  have a5 := h.l7.lt
  exact ⟨hG.below h.bel (by omega) h.bel.size, (hG.block _ (by omega) (by omega)).trans h.l2, (hG.block _ (by omega) (by omega)).trans h.l3, (hG.block _ (by omega) (by omega)).trans h.l6, (hG.block _ (by omega) (by omega)).trans h.l7, ⟨h.ga.sees.step hG.size (fun k h1 h2 => hG.block k h2 (by omega)), h.ga.le, h.ga.cap, h.ga.r64⟩, ⟨h.gb.sees.step hG.size (fun k h1 h2 => hG.block k h2 (by omega)), h.gb.le, h.gb.cap, h.gb.r64⟩, a1, a2, a3, a4⟩

theorem DtS.set (h : DtS w X rb lo b6 b7 A1 c1 ms r1 A2 c2 ns r2 u0 u1 v0 v1) (x0 x1 : Value) : DtS w ((X.setCell ⟨w.heap.size, 0, none⟩ x0).setCell ⟨w.heap.size, 1, none⟩ x1) rb lo b6 b7 A1 c1 ms r1 A2 c2 ns r2 x0 x1 v0 v1 := by
  have a1 := h.h1
  have a2 := h.h2
  have a3 := h.h3
  have a4 := h.h4
  have hf : ∀ k, k ≠ w.heap.size → ((X.setCell ⟨w.heap.size, 0, none⟩ x0).setCell ⟨w.heap.size, 1, none⟩ x1).heap[k]? = X.heap[k]? := fun k hk => (Below.heap_setCell _ _ _ _ hk).trans (Below.heap_setCell _ _ _ _ hk)
  have l := (h.l2.set 0 x0).set 1 x1
  simp only [List.setIfInBounds_toArray, List.set_cons_succ, List.set_cons_zero] at l
  exact ⟨(h.bel.setCell (p := ⟨w.heap.size, 0, none⟩) (Nat.le_refl _) _).setCell (p := ⟨w.heap.size, 1, none⟩) (Nat.le_refl _) _, l, (hf _ (by omega)).trans h.l3, (hf _ (by omega)).trans h.l6, (hf _ (by omega)).trans h.l7, h.ga.setB (by omega) _ _, h.gb.setB (by omega) _ _, a1, a2, a3, a4⟩

theorem DtS.set3 (h : DtS w X rb lo b6 b7 A1 c1 ms r1 A2 c2 ns r2 u0 u1 v0 v1) (x0 x1 : Value) : DtS w ((X.setCell ⟨w.heap.size + 1, 0, none⟩ x0).setCell ⟨w.heap.size + 1, 1, none⟩ x1) rb lo b6 b7 A1 c1 ms r1 A2 c2 ns r2 u0 u1 x0 x1 := by
  have a1 := h.h1
  have a2 := h.h2
  have a3 := h.h3
  have a4 := h.h4
  have hf : ∀ k, k ≠ w.heap.size + 1 → ((X.setCell ⟨w.heap.size + 1, 0, none⟩ x0).setCell ⟨w.heap.size + 1, 1, none⟩ x1).heap[k]? = X.heap[k]? := fun k hk => (Below.heap_setCell _ _ _ _ hk).trans (Below.heap_setCell _ _ _ _ hk)
  have l := (h.l3.set 0 x0).set 1 x1
  simp only [List.setIfInBounds_toArray, List.set_cons_succ, List.set_cons_zero] at l
  exact ⟨(h.bel.setCell (p := ⟨w.heap.size + 1, 0, none⟩) (by show _ ≤ w.heap.size + 1; omega) _).setCell (p := ⟨w.heap.size + 1, 1, none⟩) (by show _ ≤ w.heap.size + 1; omega) _, (hf _ (by omega)).trans h.l2, l, (hf _ (by omega)).trans h.l6, (hf _ (by omega)).trans h.l7, h.ga.setB (by omega) _ _, h.gb.setB (by omega) _ _, a1, a2, a3, a4⟩

theorem DtS.got (h : DtS w X rb lo b6 b7 A1 c1 ms r1 A2 c2 ns r2 u0 u1 v0 v1) : Hid (X.cell? ⟨b6, 0, none⟩ = some (.slice A1 ms.length c1) ∧ X.cell? ⟨b6, 1, none⟩ = some (.int .i64 r1) ∧ X.cell? ⟨b7, 0, none⟩ = some (.slice A2 ns.length c2) ∧ X.cell? ⟨b7, 1, none⟩ = some (.int .i64 r2)) := by
  have a2 := h.l6.cell 0
  have a3 := h.l6.cell 1
  have a4 := h.l7.cell 0
  have a5 := h.l7.cell 1
  simp only [List.getElem?_toArray, List.getElem?_cons_zero, List.getElem?_cons_succ] at a2 a3 a4 a5
  exact ⟨a2, a3, a4, a5⟩

theorem DtS.cells (h : DtS w X rb lo b6 b7 A1 c1 ms r1 A2 c2 ns r2 u0 u1 v0 v1) : Hid (X.cell? ⟨w.heap.size, 0, none⟩ = some u0 ∧ X.cell? ⟨w.heap.size, 1, none⟩ = some u1 ∧ X.cell? ⟨w.heap.size + 1, 0, none⟩ = some v0 ∧ X.cell? ⟨w.heap.size + 1, 1, none⟩ = some v1 ∧ X.frozen? ⟨w.heap.size, 0, none⟩ = false ∧ X.frozen? ⟨w.heap.size, 1, none⟩ = false ∧ X.frozen? ⟨w.heap.size + 1, 0, none⟩ = false ∧ X.frozen? ⟨w.heap.size + 1, 1, none⟩ = false) := by
  have a2 := h.l2.cell 0
  have a3 := h.l2.cell 1
  have a4 := h.l3.cell 0
  have a5 := h.l3.cell 1
  simp only [List.getElem?_toArray, List.getElem?_cons_zero, List.getElem?_cons_succ] at a2 a3 a4 a5
  exact ⟨a2, a3, a4, a5, h.l2.frozen 0, h.l2.frozen 1, h.l3.frozen 0, h.l3.frozen 1⟩
end

/-- two graphs and a depth come back, and old memory is as it was -/
def DrawnT (w : World) (e : Ending) (w' : World) : Prop :=
  ∃ (A1 : Option Addr) (c1 : Nat) (ms : List Nd) (r1 : Int) (A2 : Option Addr) (c2 : Nat) (ns : List Nd) (r2 d : Int), e = .returned (.tuple #[.agg #[.slice A1 ms.length c1, .int .i64 r1], .agg #[.slice A2 ns.length c2, .int .i64 r2], .int .i64 d]) ∧
    NdsAt w' w'.heap.size A1 ms ∧ NdsAt w' w'.heap.size A2 ns ∧ -1 ≤ d ∧ d ≤ 9 ∧ Below w.heap.size w w'

set_option maxRecDepth 100000 in
set_option maxHeartbeats 4000000 in
theorem drawEqualTo_any (A : Option Addr) (n c : Nat) (w : World) (h : BytesAt w w.heap.size A n) (hc : n ≤ c) (hn : n ≤ 9223372036854775807) :
    Calls Try.prog 4 #[.slice A n c] w (DrawnT w) := by
  have hB : Below w.heap.size w ((w.alloc (.cells #[.slice none 0 0, .int .i64 0] 25)).alloc (.cells #[.slice none 0 0, .int .i64 0] 25)) := ((Below.refl _ w).alloc (Nat.le_refl _) _).alloc (by simp) _
  have l2 := (Lies.new w #[.slice none 0 0, .int .i64 0] 25).alloc (.cells #[.slice none 0 0, .int .i64 0] 25)
  have l3 := Lies.new (w.alloc (.cells #[.slice none 0 0, .int .i64 0] 25)) #[.slice none 0 0, .int .i64 0] 25
  simp only [World.size_alloc] at l3
  have h2 := (h.later hB).more hB.size
  clear h
  go_enter Try.func4, Try.ntmps4
  go_wp2_with fail
  have hWs : Hid (((w.alloc (.cells #[.slice none 0 0, .int .i64 0] 25)).alloc (.cells #[.slice none 0 0, .int .i64 0] 25)).heap.size = w.heap.size + 1 + 1) := by show _ = _; simp
  generalize (w.alloc (.cells #[.slice none 0 0, .int .i64 0] 25)).alloc (.cells #[.slice none 0 0, .int .i64 0] 25) = W at hB l2 l3 h2 hWs ⊢
  refine (newReader_any A n c W h2 hc hn).mono ?_
  rintro e w1 ⟨rfl, ⟨n', c', hrd⟩, hb1⟩
  have hrl := hrd.box.lt
  have hws : w.heap.size + 1 < W.heap.size := by have := hWs.out; omega
  have l2a := l2.below hb1 (by omega)
  have l3a := l3.below hb1 (by omega)
  have hB1 := hB.trans (hb1.mono hB.size)
  clear l2 l3 h2 hB hb1
  go_wp2_with fail
  refine (alikeGraphs_any W.heap.size A n' c' 0 w1 hrd (by omega)).mono ?_
  rintro e w2 ⟨A1, c1, ms, r1, A2, c2, ns, r2, rfl, ⟨p2, hp2, hr2⟩, hG, hg1, hg2⟩
  have hs2 := hG.size
  have hbx : Below w2.heap.size w2 ((w2.alloc (.cells #[.slice A1 ms.length c1, .int .i64 r1] 25)).alloc (.cells #[.slice A2 ns.length c2, .int .i64 r2] 25)) := ((Below.refl _ _).alloc (Nat.le_refl _) _).alloc (by simp) _
  have l7 := Lies.new (w2.alloc (.cells #[.slice A1 ms.length c1, .int .i64 r1] 25)) #[.slice A2 ns.length c2, .int .i64 r2] 25
  simp only [World.size_alloc] at l7
  have hS : DtS w ((w2.alloc (.cells #[.slice A1 ms.length c1, .int .i64 r1] 25)).alloc (.cells #[.slice A2 ns.length c2, .int .i64 r2] 25)) W.heap.size w1.heap.size w2.heap.size (w2.heap.size + 1) A1 c1 ms r1 A2 c2 ns r2 (.slice none 0 0) (.int .i64 0) (.slice none 0 0) (.int .i64 0) :=
    ⟨(hG.below hB1 (by omega) hB1.size).trans (hbx.mono (by omega)), (hbx.block _ (by omega)).trans ((hG.block _ (by omega) (by omega)).trans l2a), (hbx.block _ (by omega)).trans ((hG.block _ (by omega) (by omega)).trans l3a), (Lies.new w2 _ _).alloc _, l7, hg1.later hbx, hg2.later hbx, by omega, hrl, hs2, by omega⟩
  have hrX := hr2.below hbx
  have HS := hide hS
  obtain ⟨e0, e1, e2, e3, f0, f1, f2, f3⟩ := hS.cells.out
  obtain ⟨x0, x1, x2, x3⟩ := hS.got.out
  have hb7 : w2.heap.size + 1 < ((w2.alloc (.cells #[.slice A1 ms.length c1, .int .i64 r1] 25)).alloc (.cells #[.slice A2 ns.length c2, .int .i64 r2] 25)).heap.size := hS.l7.lt
  have HrX := hide hrX
  clear hS hG hg1 hg2 hbx l7 l2a l3a hB1 hr2 hrd hrX
  go_upto_region 3 with fail
  generalize (w2.alloc (.cells #[.slice A1 ms.length c1, .int .i64 r1] 25)).alloc (.cells #[.slice A2 ns.length c2, .int .i64 r2] 25) = X at HS e0 e1 e2 e3 f0 f1 f2 f3 x0 x1 x2 x3 hb7 HrX ⊢
  generalize w2.heap.size = b6 at HS x0 x1 x2 x3 hb7 hs2 ⊢
  generalize hb7d : b6 + 1 = b7 at HS x2 x3 hb7 ⊢
  clear hb7d
  have hbA : Below X.heap.size X (X.drew.alloc (.cells #[.int .i64 3, .int .i64 2, .int .i64 1, .int .i64 0, .int .i64 5, .int .i64 (-1), .int .i64 9] 3)) := (Below.refl _ _).drew.alloc (by simp) _
  have lA := Lies.new X.drew #[.int .i64 3, .int .i64 2, .int .i64 1, .int .i64 0, .int .i64 5, .int .i64 (-1), .int .i64 9] 3
  have HSA := hide (HS.out.move (Grew.of_below (g := W.heap.size) hbA))
  have hrA := HrX.out.below hbA
  have hXr : X.heap.size ≠ W.heap.size := by have := HrX.out.box.lt; omega
  have HlA := hide lA
  have HrA := hide hrA
  clear hbA lA hrA HrX
  refine wp_region_held_drew (S := (fun w' => w'.cell? ⟨b6, 0, none⟩ = some (.slice A1 ms.length c1) ∧ w'.cell? ⟨b6, 1, none⟩ = some (.int .i64 r1) ∧ w'.cell? ⟨b7, 0, none⟩ = some (.slice A2 ns.length c2) ∧ w'.cell? ⟨b7, 1, none⟩ = some (.int .i64 r2))) (by kernel_rfl) (show DtS w X.drew _ _ _ _ _ _ _ _ _ _ _ _ _ _ _ _ from HS.out.move (Grew.of_below (g := W.heap.size) (Below.refl _ X).drew)).got.out (fun hHeld => ?_)
  refine wpAnyH_take (i := 0) (oi := { dst := some 15, op := _, type := _, pos := _, after := _, guard := _ }) (v := ?_) rfl (by kernel_rfl) (by kernel_rfl) (by kernel_rfl) (fun _ _ _ h => h) (Or.inl ⟨by rfl, ?_⟩) (by assumption) ?_
  rotate_left
  · (intro w hSw; (try dsimp only at hSw); go_simp; try with_reducible rfl)
  try simp only [Act.put, List.setIfInBounds_toArray, List.set_cons_zero, List.set_cons_succ]
  refine wpAnyH_take (i := 1) (oi := { dst := some 16, op := _, type := _, pos := _, after := _, guard := _ }) (v := ?_) rfl (by kernel_rfl) (by kernel_rfl) (by kernel_rfl) (fun _ _ _ h => h) (Or.inl ⟨by rfl, ?_⟩) (by assumption) ?_
  rotate_left
  · (intro w hSw; (try dsimp only at hSw); go_simp; try with_reducible rfl)
  try simp only [Act.put, List.setIfInBounds_toArray, List.set_cons_zero, List.set_cons_succ]
  refine wpAnyH_take (i := 2) (oi := { dst := some 17, op := _, type := _, pos := _, after := _, guard := _ }) (v := ?_) rfl (by kernel_rfl) (by kernel_rfl) (by kernel_rfl) (fun _ _ _ h => h) (Or.inl ⟨by rfl, ?_⟩) (by assumption) ?_
  rotate_left
  · (intro w hSw; (try dsimp only at hSw); go_simp; try with_reducible rfl)
  try simp only [Act.put, List.setIfInBounds_toArray, List.set_cons_zero, List.set_cons_succ]
  refine wpAnyH_ready (rs := [3]) (by kernel_rfl) (by simp) ?_
  refine AllReadyH.cons (o := { dst := some 18, op := _, type := _, pos := _, after := _, guard := _ }) rfl (fun K hK => ?_) AllReadyH.nil
  go_simp
  refine hK.out _ _ HSA.out.got.out (fun hH => ?_)
  clear hK K hHeld
  have hHeld := hH
  clear hH
  try simp only [Act.put, List.setIfInBounds_toArray, List.set_cons_zero, List.set_cons_succ]
  refine wpAnyH_ready (rs := [4]) (by kernel_rfl) (by simp) ?_
  refine AllReadyH.cons (o := { dst := some 19, op := _, type := _, pos := _, after := _, guard := _ }) rfl (fun K hK => ?_) AllReadyH.nil
  go_simp
  go_at_call 11
  refine (one_any W.heap.size A n' c' p2 X.heap.size 7 7 [3, 2, 1, 0, 5, -1, 9] _ HrA.out (by omega) rfl (by omega) (by omega) hXr (fun k z hz => ?_)).mono ?_
  · have hce := HlA.out.cell k
    refine Eq.trans hce ?_
    match k, hz with
    | 0, hz => simpa using hz
    | 1, hz => simpa using hz
    | 2, hz => simpa using hz
    | 3, hz => simpa using hz
    | 4, hz => simpa using hz
    | 5, hz => simpa using hz
    | 6, hz => simpa using hz
    | k + 7, hz => simp at hz
  rintro e y ⟨⟨d, hd, rfl⟩, hr3, ht3⟩
  have HSY := hide (HSA.out.move (Grew.of_turn ht3))
  have hd2 : -1 ≤ d ∧ d ≤ 9 := by (simp at hd; rcases hd with rfl | rfl | rfl | rfl | rfl | rfl | rfl <;> constructor <;> omega)
  obtain ⟨y0, y1, y2, y3, z0, z1, z2, z3⟩ := HSY.out.cells.out
  clear hr3 ht3 hd
  dsimp only
  refine hK.out _ _ HSY.out.got.out (fun hH => ?_)
  clear hK K hHeld
  have hHeld := hH
  clear hH
  try simp only [Act.put, List.setIfInBounds_toArray, List.set_cons_zero, List.set_cons_succ]
  refine wpAnyH_ready (rs := [5]) (by kernel_rfl) (by simp) ?_
  refine AllReadyH.cons (o := { dst := none, op := _, type := _, pos := _, after := _, guard := _ }) rfl (fun K hK => ?_) AllReadyH.nil
  go_simp
  refine hK.out _ _ (HSY.out.set (.slice A1 ms.length c1) (.int .i64 r1)).got.out (fun hH => ?_)
  clear hK K hHeld
  have hHeld := hH
  clear hH
  try simp only [Act.put, List.setIfInBounds_toArray, List.set_cons_zero, List.set_cons_succ]
  obtain ⟨_, _, q2_, q3_, _, _, q6_, q7_⟩ := (HSY.out.set (.slice A1 ms.length c1) (.int .i64 r1)).cells.out
  refine wpAnyH_ready (rs := [6]) (by kernel_rfl) (by simp) ?_
  refine AllReadyH.cons (o := { dst := none, op := _, type := _, pos := _, after := _, guard := _ }) rfl (fun K hK => ?_) AllReadyH.nil
  go_simp
  refine hK.out _ _ ((HSY.out.set (.slice A1 ms.length c1) (.int .i64 r1)).set3 (.slice A2 ns.length c2) (.int .i64 r2)).got.out (fun hH => ?_)
  clear hK K hHeld
  have hHeld := hH
  clear hH
  try simp only [Act.put, List.setIfInBounds_toArray, List.set_cons_zero, List.set_cons_succ]
  refine wpAnyH_ready (rs := [7]) (by kernel_rfl) (by simp) ?_
  refine AllReadyH.cons (o := { dst := some 4, op := _, type := _, pos := _, after := _, guard := _ }) rfl (fun K hK => ?_) AllReadyH.nil
  go_simp
  refine hK.out _ _ hHeld (fun hH => ?_)
  clear hK K hHeld
  have hHeld := hH
  clear hH
  try simp only [Act.put, List.setIfInBounds_toArray, List.set_cons_zero, List.set_cons_succ]
  refine wpAnyH_done (by kernel_rfl) ?_ _
  obtain ⟨q0, q1, q2, q3, _⟩ := ((HSY.out.set (.slice A1 ms.length c1) (.int .i64 r1)).set3 (.slice A2 ns.length c2) (.int .i64 r2)).cells.out
  have HR := hide (show DrawnT w (.returned (.tuple #[.agg #[.slice A1 ms.length c1, .int .i64 r1], .agg #[.slice A2 ns.length c2, .int .i64 r2], .int .i64 d])) _ from ⟨A1, c1, ms, r1, A2, c2, ns, r2, d, rfl, ((HSY.out.set (.slice A1 ms.length c1) (.int .i64 r1)).set3 (.slice A2 ns.length c2) (.int .i64 r2)).ga.sees.here, ((HSY.out.set (.slice A1 ms.length c1) (.int .i64 r1)).set3 (.slice A2 ns.length c2) (.int .i64 r2)).gb.sees.here, hd2.1, hd2.2, ((HSY.out.set (.slice A1 ms.length c1) (.int .i64 r1)).set3 (.slice A2 ns.length c2) (.int .i64 r2)).bel⟩)
  clear HS HSA HSY y0 y1 y2 y3 z0 z1 z2 z3 e0 e1 e2 e3 f0 f1 f2 f3 x0 x1 x2 x3 hHeld HlA HrA
  go_wp2
  refine bodyPost_ret (v := .tuple #[.agg #[.slice A1 ms.length c1, .int .i64 r1], .agg #[.slice A2 ns.length c2, .int .i64 r2], .int .i64 d]) (by simp [results, Try.results4, go_sem, q0, q1, q2, q3]) rfl ?_
  exact HR.out

end Go.Proofs.Ytkgnijbdbkopkab

namespace Go.Proofs.Ytkgnijbdbkopkab
open Go.RowKit
set_option linter.unusedVariables false
set_option linter.unusedSimpArgs false

set_option maxRecDepth 100000 in
set_option maxHeartbeats 4000000 in
theorem lawTD_any (A : Option Addr) (n c : Nat) (w : World) (h : BytesAt w w.heap.size A n) (hc : n ≤ c) (hn : n ≤ 9223372036854775807) :
    Calls Try.prog 3 #[.slice A n c] w fun e w' => e = .returned (.bool true) ∧ Below w.heap.size w w' := by
  by_cases hbig : 1048576 < n
  · have d : decide ((1048576 : Int) < (n : Int)) = true := by simp; omega
    go_enter Try.func3, Try.ntmps3
    go_wp2
    go_ret
    exact ⟨rfl, Below.refl _ _⟩
  · have d : decide ((1048576 : Int) < (n : Int)) = false := by simp; omega
    go_enter Try.func3, Try.ntmps3
    go_wp2_with fail
    refine (drawEqualTo_any A n c w h hc hn).mono ?_
    clear h d
    rintro e w1 ⟨A1, c1, ms, r1, A2, c2, ns, r2, d, rfl, hn1, hn2, hd1, hd9, hb1⟩
    have hbx : Below w1.heap.size w1 ((w1.alloc (.cells #[.slice A1 ms.length c1, .int .i64 r1] 25)).alloc (.cells #[.slice A2 ns.length c2, .int .i64 r2] 25)) := ((Below.refl _ _).alloc (Nat.le_refl _) _).alloc (by simp) _
    have l4 := Lies.new (w1.alloc (.cells #[.slice A1 ms.length c1, .int .i64 r1] 25)) #[.slice A2 ns.length c2, .int .i64 r2] 25
    simp only [World.size_alloc] at l4
    have hT : TwoL w ((w1.alloc (.cells #[.slice A1 ms.length c1, .int .i64 r1] 25)).alloc (.cells #[.slice A2 ns.length c2, .int .i64 r2] 25)) w1.heap.size (w1.heap.size + 1) A1 c1 ms r1 A2 c2 ns r2 :=
      ⟨hb1.trans (hbx.mono hb1.size), (Lies.new w1 _ _).alloc _, l4, hn1.later hbx (Nat.le_refl _), hn2.later hbx (Nat.le_refl _)⟩
    obtain ⟨e0, e1, e2, e3⟩ := hT.cells
    have HT := hide hT
    clear hT l4 hbx hn1 hn2 hb1
    go_upto_region 4 with fail
    generalize (w1.alloc (.cells #[.slice A1 ms.length c1, .int .i64 r1] 25)).alloc (.cells #[.slice A2 ns.length c2, .int .i64 r2] 25) = X at HT e0 e1 e2 e3 ⊢
    generalize hb4d : w1.heap.size + 1 = b4 at HT e2 e3 ⊢
    clear hb4d
    generalize w1.heap.size = b3 at HT e0 e1 ⊢
    have HC := implEqualTo_any A1 A2 ms ns c1 c2 r1 r2 d X HT.out.na HT.out.nb
    have HV : Hid (tf (EqToG ms r1 ns r2 d) = true → EqToG ms r1 ns r2 d) := hide (fun h => tf_yes h)
    generalize hVd : tf (EqToG ms r1 ns r2 d) = V at HC HV
    have HVd := hide hVd
    clear hVd
    go_wp2_with fail
    refine HC.mono ?_
    clear HC
    rintro e x1 ⟨rfl, hb⟩
    have HT1 := hide (HT.out.below hb)
    clear HT e0 e1 e2 e3 hb
    obtain ⟨e0, e1, e2, e3⟩ := HT1.out.cells
    have HC := specEqualTo_any A1 A2 ms ns c1 c2 r1 r2 d x1 HT1.out.na HT1.out.nb
    rw [HVd.out] at HC
    go_wp2_with fail
    refine HC.mono ?_
    clear HC
    rintro e x2 ⟨rfl, hb⟩
    have HT2 := hide (HT1.out.below hb)
    clear HT1 e0 e1 e2 e3 hb
    obtain ⟨e0, e1, e2, e3⟩ := HT2.out.cells
    cases V with
    | true =>
      have hE := HV.out rfl
      obtain ⟨hva, hvb, hd0, hd8, _⟩ := hE
      have Hva := hide hva
      have Hvb := hide hvb
      clear hva hvb HV
      have d0 : ¬ d < 0 := by omega
      have d8 : ¬ 8 < d := by omega
      generalize hDd : tf (EqDeepG ms r1 ns r2) = D
      have HDd := hide hDd
      clear hDd
      have HC := implValid_any A1 ms c1 r1 x2 HT2.out.na
      rw [tf_true Hva.out] at HC
      go_wp2_with fail
      refine HC.mono ?_
      clear HC
      rintro e x3 ⟨rfl, hb⟩
      have HT3 := hide (HT2.out.below hb)
      clear HT2 e0 e1 e2 e3 hb
      obtain ⟨e0, e1, e2, e3⟩ := HT3.out.cells
      have HC := implValid_any A2 ns c2 r2 x3 HT3.out.nb
      rw [tf_true Hvb.out] at HC
      go_wp2_with fail
      refine HC.mono ?_
      clear HC
      rintro e x4 ⟨rfl, hb⟩
      have HT4 := hide (HT3.out.below hb)
      clear HT3 e0 e1 e2 e3 hb
      obtain ⟨e0, e1, e2, e3⟩ := HT4.out.cells
      have HC := implEqualDeep_any A1 A2 ms ns c1 c2 r1 r2 x4 HT4.out.na HT4.out.nb
      rw [HDd.out] at HC
      go_wp2_with fail
      refine HC.mono ?_
      clear HC
      rintro e y1 ⟨rfl, hb⟩
      have HTy := hide (HT4.out.below hb)
      clear HT4 e0 e1 e2 e3 hb
      obtain ⟨e0, e1, e2, e3⟩ := HTy.out.cells
      by_cases q1 : ms.length ≤ 4
      · have q1i : (ms.length : Int) ≤ 4 := by omega
        by_cases q2 : ns.length ≤ 4
        · have q2i : (ns.length : Int) ≤ 4 := by omega
          have H8 : tf (EqToG ms r1 ns r2 8) = D := by rw [show EqToG ms r1 ns r2 8 = EqDeepG ms r1 ns r2 from propext (small_deep Hva.out Hvb.out q1 q2)]; exact HDd.out
          have HC := implEqualTo_any A1 A2 ms ns c1 c2 r1 r2 8 y1 HTy.out.na HTy.out.nb
          rw [H8] at HC
          clear H8
          cases D with
          | true =>
            go_wp2_with fail
            refine HC.mono ?_
            clear HC
            rintro e y2 ⟨rfl, hb⟩
            have HB := hide (HTy.out.below hb).bel
            clear HTy e0 e1 e2 e3 hb
            go_wp2
            go_ret
            exact ⟨rfl, HB.out⟩
          | false =>
            go_wp2_with fail
            refine HC.mono ?_
            clear HC
            rintro e y2 ⟨rfl, hb⟩
            have HB := hide (HTy.out.below hb).bel
            clear HTy e0 e1 e2 e3 hb
            go_wp2
            go_ret
            exact ⟨rfl, HB.out⟩
        · have q2i : ¬ (ns.length : Int) ≤ 4 := by omega
          have HB := hide HTy.out.bel
          cases D with
          | true =>
            go_wp2
            go_ret
            exact ⟨rfl, HB.out⟩
          | false =>
            go_wp2
            go_ret
            exact ⟨rfl, HB.out⟩
      · have q1i : ¬ (ms.length : Int) ≤ 4 := by omega
        have HB := hide HTy.out.bel
        cases D with
        | true =>
          go_wp2
          go_ret
          exact ⟨rfl, HB.out⟩
        | false =>
          go_wp2
          go_ret
          exact ⟨rfl, HB.out⟩
    | false =>
      clear HV
      by_cases hva : ValidG ms r1
      · have Hva := hide hva
        clear hva
        have HC := implValid_any A1 ms c1 r1 x2 HT2.out.na
        rw [tf_true Hva.out] at HC
        go_wp2_with fail
        refine HC.mono ?_
        clear HC
        rintro e x3 ⟨rfl, hb⟩
        have HT3 := hide (HT2.out.below hb)
        clear HT2 e0 e1 e2 e3 hb
        obtain ⟨e0, e1, e2, e3⟩ := HT3.out.cells
        by_cases hvb : ValidG ns r2
        · have Hvb := hide hvb
          clear hvb
          by_cases d0 : d < 0
          · skip
            have HC := implValid_any A2 ns c2 r2 x3 HT3.out.nb
            rw [tf_true Hvb.out] at HC
            go_wp2_with fail
            refine HC.mono ?_
            clear HC
            rintro e x4 ⟨rfl, hb⟩
            have HT4 := hide (HT3.out.below hb)
            clear HT3 e0 e1 e2 e3 hb
            obtain ⟨e0, e1, e2, e3⟩ := HT4.out.cells
            have HC := specEqualTo_any A1 A2 ms ns c1 c2 r1 r2 d x4 HT4.out.na HT4.out.nb
            rw [HVd.out] at HC
            go_wp2_with fail
            refine HC.mono ?_
            clear HC
            rintro e x9 ⟨rfl, hb⟩
            have HB := hide (HT4.out.below hb).bel
            clear HT4 e0 e1 e2 e3 hb
            go_wp2
            go_ret
            exact ⟨rfl, HB.out⟩
          · by_cases d8 : 8 < d
            · skip
              have HC := implValid_any A2 ns c2 r2 x3 HT3.out.nb
              rw [tf_true Hvb.out] at HC
              go_wp2_with fail
              refine HC.mono ?_
              clear HC
              rintro e x4 ⟨rfl, hb⟩
              have HT4 := hide (HT3.out.below hb)
              clear HT3 e0 e1 e2 e3 hb
              obtain ⟨e0, e1, e2, e3⟩ := HT4.out.cells
              have HC := specEqualTo_any A1 A2 ms ns c1 c2 r1 r2 d x4 HT4.out.na HT4.out.nb
              rw [HVd.out] at HC
              go_wp2_with fail
              refine HC.mono ?_
              clear HC
              rintro e x9 ⟨rfl, hb⟩
              have HB := hide (HT4.out.below hb).bel
              clear HT4 e0 e1 e2 e3 hb
              go_wp2
              go_ret
              exact ⟨rfl, HB.out⟩
            · have HDd : Hid (tf (EqDeepG ms r1 ns r2) = false) := hide (tf_false (fun h => by
                have h2 := deep_to (d := d) h (by omega) (by omega)
                have h3 := HVd.out
                rw [tf_true h2] at h3
                cases h3))
              obtain ⟨D, hD⟩ : ∃ D : Bool, D = false := ⟨_, rfl⟩
              rw [← hD] at HDd
              have HC := implValid_any A2 ns c2 r2 x3 HT3.out.nb
              rw [tf_true Hvb.out] at HC
              go_wp2_with fail
              refine HC.mono ?_
              clear HC
              rintro e x4 ⟨rfl, hb⟩
              have HT4 := hide (HT3.out.below hb)
              clear HT3 e0 e1 e2 e3 hb
              obtain ⟨e0, e1, e2, e3⟩ := HT4.out.cells
              have HC := implEqualDeep_any A1 A2 ms ns c1 c2 r1 r2 x4 HT4.out.na HT4.out.nb
              rw [HDd.out] at HC
              rw [hD] at HC
              go_wp2_with fail
              refine HC.mono ?_
              clear HC
              rintro e y1 ⟨rfl, hb⟩
              have HTy := hide (HT4.out.below hb)
              clear HT4 e0 e1 e2 e3 hb
              obtain ⟨e0, e1, e2, e3⟩ := HTy.out.cells
              by_cases q1 : ms.length ≤ 4
              · have q1i : (ms.length : Int) ≤ 4 := by omega
                by_cases q2 : ns.length ≤ 4
                · have q2i : (ns.length : Int) ≤ 4 := by omega
                  have H8 : tf (EqToG ms r1 ns r2 8) = D := by rw [show EqToG ms r1 ns r2 8 = EqDeepG ms r1 ns r2 from propext (small_deep Hva.out Hvb.out q1 q2)]; exact HDd.out
                  have HC := implEqualTo_any A1 A2 ms ns c1 c2 r1 r2 8 y1 HTy.out.na HTy.out.nb
                  rw [H8] at HC
                  clear H8
                  cases D with
                  | true => cases hD
                  | false =>
                    go_wp2_with fail
                    refine HC.mono ?_
                    clear HC
                    rintro e y2 ⟨rfl, hb⟩
                    have HB := hide (HTy.out.below hb).bel
                    clear HTy e0 e1 e2 e3 hb
                    go_wp2
                    go_ret
                    exact ⟨rfl, HB.out⟩
                · have q2i : ¬ (ns.length : Int) ≤ 4 := by omega
                  have HB := hide HTy.out.bel
                  cases D with
                  | true => cases hD
                  | false =>
                    go_wp2
                    go_ret
                    exact ⟨rfl, HB.out⟩
              · have q1i : ¬ (ms.length : Int) ≤ 4 := by omega
                have HB := hide HTy.out.bel
                cases D with
                | true => cases hD
                | false =>
                  go_wp2
                  go_ret
                  exact ⟨rfl, HB.out⟩
        · have Hvb := hide hvb
          clear hvb
          have HC := implValid_any A2 ns c2 r2 x3 HT3.out.nb
          rw [tf_false Hvb.out] at HC
          go_wp2_with fail
          refine HC.mono ?_
          clear HC
          rintro e x4 ⟨rfl, hb⟩
          have HT4 := hide (HT3.out.below hb)
          clear HT3 e0 e1 e2 e3 hb
          obtain ⟨e0, e1, e2, e3⟩ := HT4.out.cells
          have HC := specEqualTo_any A1 A2 ms ns c1 c2 r1 r2 d x4 HT4.out.na HT4.out.nb
          rw [HVd.out] at HC
          go_wp2_with fail
          refine HC.mono ?_
          clear HC
          rintro e x9 ⟨rfl, hb⟩
          have HB := hide (HT4.out.below hb).bel
          clear HT4 e0 e1 e2 e3 hb
          go_wp2
          go_ret
          exact ⟨rfl, HB.out⟩
      · have Hva := hide hva
        clear hva
        have HC := implValid_any A1 ms c1 r1 x2 HT2.out.na
        rw [tf_false Hva.out] at HC
        go_wp2_with fail
        refine HC.mono ?_
        clear HC
        rintro e x3 ⟨rfl, hb⟩
        have HT3 := hide (HT2.out.below hb)
        clear HT2 e0 e1 e2 e3 hb
        obtain ⟨e0, e1, e2, e3⟩ := HT3.out.cells
        have HC := specEqualTo_any A1 A2 ms ns c1 c2 r1 r2 d x3 HT3.out.na HT3.out.nb
        rw [HVd.out] at HC
        go_wp2_with fail
        refine HC.mono ?_
        clear HC
        rintro e x9 ⟨rfl, hb⟩
        have HB := hide (HT3.out.below hb).bel
        clear HT3 e0 e1 e2 e3 hb
        go_wp2
        go_ret
        exact ⟨rfl, HB.out⟩

end Go.Proofs.Ytkgnijbdbkopkab
