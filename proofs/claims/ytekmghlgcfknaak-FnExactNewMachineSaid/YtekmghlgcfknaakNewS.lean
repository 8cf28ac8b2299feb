/-
  The model's NewMachine: what it returns.
-/
import Derived.Test.YtekmghlgcfknaakNewM
namespace Go.Proofs.Ytekmghlgcfknaak
open Go.RowKit
set_option linter.unusedVariables false

theorem OwnMach.low {w : World} {L L' H : Nat} {A : Option Addr} {c : Nat} {ns : List Nd} {S : Option Addr} {cs : Nat} {ss : List Int} {M : Option Addr} {cm : Nat} {ms : List Int} (h : OwnMach w L H A c ns S cs ss M cm ms) (hL : L' ≤ L) : OwnMach w L' H A c ns S cs ss M cm ms := by
  obtain ⟨lo, hi, h1, h2, h3, h4⟩ := h.nodes
  exact ⟨⟨lo, hi, by omega, h2, h3, h4⟩, h.stack.mono hL, h.memo.mono hL, h.sH, h.mH⟩
theorem OwnMach.high {w : World} {L H H' : Nat} {A : Option Addr} {c : Nat} {ns : List Nd} {S : Option Addr} {cs : Nat} {ss : List Int} {M : Option Addr} {cm : Nat} {ms : List Int} (h : OwnMach w L H A c ns S cs ss M cm ms) (hH : H ≤ H') : OwnMach w L H' A c ns S cs ss M cm ms := by
  obtain ⟨lo, hi, h1, h2, h3, h4⟩ := h.nodes
  exact ⟨⟨lo, hi, h1, h2, by omega, h4⟩, h.stack, h.memo, fun b hb => by have := h.sH b hb; omega, fun b hb => ⟨by have := (h.mH b hb).1; omega, (h.mH b hb).2⟩⟩

/-- the world behind a store of a whole machine -/
def put4 (w : World) (g : Nat) (v0 v1 v2 v3 : Value) : World := (((w.setCell ⟨g, 0, none⟩ v0).setCell ⟨g, 1, none⟩ v1).setCell ⟨g, 2, none⟩ v2).setCell ⟨g, 3, none⟩ v3

theorem put4_block {w : World} {g b : Nat} {v0 v1 v2 v3 : Value} (h : b ≠ g) : (put4 w g v0 v1 v2 v3).heap[b]? = w.heap[b]? := by
  unfold put4
  rw [Below.heap_setCell _ _ _ _ h, Below.heap_setCell _ _ _ _ h, Below.heap_setCell _ _ _ _ h, Below.heap_setCell _ _ _ _ h]
theorem put4_size {w : World} {g : Nat} {v0 v1 v2 v3 : Value} : (put4 w g v0 v1 v2 v3).heap.size = w.heap.size := by unfold put4; simp
theorem put4_below {w w' : World} {B g : Nat} {v0 v1 v2 v3 : Value} (h : Below B w w') (hg : B ≤ g) : Below B w (put4 w' g v0 v1 v2 v3) := (((h.setCell (p := ⟨g, 0, none⟩) hg v0).setCell (p := ⟨g, 1, none⟩) hg v1).setCell (p := ⟨g, 2, none⟩) hg v2).setCell (p := ⟨g, 3, none⟩) hg v3

/-- what a store of a whole machine into a variable needs, cell by cell -/
structure St4 (w : World) (g : Nat) (a0 a1 a2 a3 v0 v1 v2 v3 : Value) : Prop where
  c0 : w.cell? ⟨g, 0, none⟩ = some a0
  f0 : w.frozen? ⟨g, 0, none⟩ = false
  c1 : (w.setCell ⟨g, 0, none⟩ v0).cell? ⟨g, 1, none⟩ = some a1
  f1 : (w.setCell ⟨g, 0, none⟩ v0).frozen? ⟨g, 1, none⟩ = false
  c2 : ((w.setCell ⟨g, 0, none⟩ v0).setCell ⟨g, 1, none⟩ v1).cell? ⟨g, 2, none⟩ = some a2
  f2 : ((w.setCell ⟨g, 0, none⟩ v0).setCell ⟨g, 1, none⟩ v1).frozen? ⟨g, 2, none⟩ = false
  c3 : (((w.setCell ⟨g, 0, none⟩ v0).setCell ⟨g, 1, none⟩ v1).setCell ⟨g, 2, none⟩ v2).cell? ⟨g, 3, none⟩ = some a3
  f3 : (((w.setCell ⟨g, 0, none⟩ v0).setCell ⟨g, 1, none⟩ v1).setCell ⟨g, 2, none⟩ v2).frozen? ⟨g, 3, none⟩ = false
  s0 : ((((w.setCell ⟨g, 0, none⟩ v0).setCell ⟨g, 1, none⟩ v1).setCell ⟨g, 2, none⟩ v2).setCell ⟨g, 3, none⟩ v3).cell? ⟨g, 0, none⟩ = some v0
  s1 : ((((w.setCell ⟨g, 0, none⟩ v0).setCell ⟨g, 1, none⟩ v1).setCell ⟨g, 2, none⟩ v2).setCell ⟨g, 3, none⟩ v3).cell? ⟨g, 1, none⟩ = some v1
  s2 : ((((w.setCell ⟨g, 0, none⟩ v0).setCell ⟨g, 1, none⟩ v1).setCell ⟨g, 2, none⟩ v2).setCell ⟨g, 3, none⟩ v3).cell? ⟨g, 2, none⟩ = some v2
  s3 : ((((w.setCell ⟨g, 0, none⟩ v0).setCell ⟨g, 1, none⟩ v1).setCell ⟨g, 2, none⟩ v2).setCell ⟨g, 3, none⟩ v3).cell? ⟨g, 3, none⟩ = some v3

theorem St4.of {w : World} {g : Nat} {a0 a1 a2 a3 : Value} {t : TypeId} (l : Lies w g #[a0, a1, a2, a3] t) (v0 v1 v2 v3 : Value) : St4 w g a0 a1 a2 a3 v0 v1 v2 v3 := by
  have l1 := l.set 0 v0
  have l2 := l1.set 1 v1
  have l3 := l2.set 2 v2
  have l4 := l3.set 3 v3
  simp only [List.setIfInBounds_toArray, List.set_cons_succ, List.set_cons_zero] at l1 l2 l3 l4
  refine ⟨by have := l.cell 0; simpa using this, l.frozen 0, by have := l1.cell 1; simpa using this, l1.frozen 1, by have := l2.cell 2; simpa using this, l2.frozen 2, by have := l3.cell 3; simpa using this, l3.frozen 3, ?_, ?_, ?_, ?_⟩
  · have := l4.cell 0; simpa using this
  · have := l4.cell 1; simpa using this
  · have := l4.cell 2; simpa using this
  · have := l4.cell 3; simpa using this

theorem OwnMach.put4 {w : World} {L H g : Nat} {A : Option Addr} {c : Nat} {ns : List Nd} {S : Option Addr} {cs : Nat} {ss : List Int} {M : Option Addr} {cm : Nat} {ms : List Int} (h : OwnMach w L H A c ns S cs ss M cm ms) (hg : g < L) (v0 v1 v2 v3 : Value) : OwnMach (put4 w g v0 v1 v2 v3) L H A c ns S cs ss M cm ms :=
  h.kept (fun b hb _ => put4_block (by omega))

set_option maxRecDepth 100000 in
set_option maxHeartbeats 2000000 in
theorem specNewMachine_zero (f : Int) (w : World) (hin : ¬ (0 ≤ f ∧ f ≤ 1)) :
    Calls Try.prog 4 #[.int .i64 f] w (GivesM w [] []) := by
  have hB : Below w.heap.size w (w.alloc (.cells #[.slice none 0 0, .slice none 0 0, .slice none 0 0, .bool false] 25)) := (Below.refl _ _).alloc (Nat.le_refl _) _
  have l0 := Lies.new w #[.slice none 0 0, .slice none 0 0, .slice none 0 0, .bool false] 25
  have hin' : f < 0 ∨ 1 < f := by omega
  go_enter Try.func4, Try.ntmps4
  go_wp2_with fail
  generalize w.alloc (.cells #[.slice none 0 0, .slice none 0 0, .slice none 0 0, .bool false] 25) = w1 at hB l0 ⊢
  refine (inRange_no f 0 1 _ hin').mono ?_
  rintro e w' ⟨rfl, rfl⟩
  obtain ⟨c0, f0, c1, f1, c2, f2, c3, f3, s0, s1, s2, s3⟩ := St4.of l0 (.slice none 0 0) (.slice none 0 0) (.slice none 0 0) (.bool false)
  clear l0 hin hin'
  go_wp2
  refine bodyPost_ret (v := machV none 0 0 none 0 0 none 0 0 false) (by simp [machV, results, Try.results4, go_sem, s0, s1, s2, s3]) rfl ?_
  exact GivesM.zero w _ (put4_below hB (Nat.le_refl _))

set_option maxRecDepth 100000 in
set_option maxHeartbeats 2000000 in
theorem specNewMachine_0 (w : World) :
    Calls Try.prog 4 #[.int .i64 0] w (GivesM w [] (List.replicate 20 (-1))) := by
  have hB : Below w.heap.size w (w.alloc (.cells #[.slice none 0 0, .slice none 0 0, .slice none 0 0, .bool false] 25)) := (Below.refl _ _).alloc (Nat.le_refl _) _
  have l0 := Lies.new w #[.slice none 0 0, .slice none 0 0, .slice none 0 0, .bool false] 25
  go_enter Try.func4, Try.ntmps4
  go_wp2_with fail
  refine (inRange_yes 0 0 1 _ (by omega) (by omega)).mono ?_
  rintro e w' ⟨rfl, rfl⟩
  go_wp2_with fail
  generalize w.alloc (.cells #[.slice none 0 0, .slice none 0 0, .slice none 0 0, .bool false] 25) = w1 at hB l0 ⊢
  refine (specNew_any w1).mono ?_
  rintro e w2 ⟨A, c, M, cm, rfl, hO, hb2⟩
  have l2 := l0.below hb2 l0.lt
  have hB2 := hB.trans (hb2.mono hB.size)
  have hw1 := l0.lt
  have hw2 := l2.lt
  clear l0 hB hb2
  simp only [machV, List.length_replicate, List.length_nil]
  have l3 := l2.alloc (.cells #[.slice A 0 c, .slice none 0 0, .slice M 20 cm, .bool false] 25)
  have l2a := l2.set 0 (.slice A 0 c)
  have l2b := l2a.set 1 (.slice none 0 0)
  have l2c := l2b.set 2 (.slice M 20 cm)
  have l2d := l2c.set 3 (.bool false)
  simp only [List.setIfInBounds_toArray, List.set_cons_succ, List.set_cons_zero] at l2a l2b l2c l2d
  have m1 := l2a.alloc (.cells #[.slice A 0 c, .slice none 0 0, .slice M 20 cm, .bool false] 25)
  have m2 := l2b.alloc (.cells #[.slice A 0 c, .slice none 0 0, .slice M 20 cm, .bool false] 25)
  have m3 := l2c.alloc (.cells #[.slice A 0 c, .slice none 0 0, .slice M 20 cm, .bool false] 25)
  have m4 := l2d.alloc (.cells #[.slice A 0 c, .slice none 0 0, .slice M 20 cm, .bool false] 25)
  have c0 := l3.cell 0
  have f0 := l3.frozen 0
  have c1 := m1.cell 1
  have f1 := m1.frozen 1
  have c2 := m2.cell 2
  have f2 := m2.frozen 2
  have c3 := m3.cell 3
  have f3 := m3.frozen 3
  have s0 := m4.cell 0
  have s1 := m4.cell 1
  have s2 := m4.cell 2
  have s3 := m4.cell 3
  simp only [List.getElem?_toArray, List.getElem?_cons_zero, List.getElem?_cons_succ] at c0 c1 c2 c3 s0 s1 s2 s3
  have hfin : Hid (OwnMach ((put4 w2 w.heap.size (.slice A 0 c) (.slice none 0 0) (.slice M 20 cm) (.bool false)).alloc (.cells #[.slice A 0 c, .slice none 0 0, .slice M 20 cm, .bool false] 25)) w.heap.size ((put4 w2 w.heap.size (.slice A 0 c) (.slice none 0 0) (.slice M 20 cm) (.bool false)).alloc (.cells #[.slice A 0 c, .slice none 0 0, .slice M 20 cm, .bool false] 25)).heap.size A c [] none 0 [] M cm (List.replicate 20 (-1))) := hide
    ((((hO.put4 hw1 _ _ _ _).below ((Below.refl _ _).alloc (Nat.le_refl _) _) (by rw [put4_size]; exact Nat.le_refl _)).low (by omega)).high (by rw [World.size_alloc, put4_size]; omega))
  have HB := hide ((put4_below (v0 := .slice A 0 c) (v1 := .slice none 0 0) (v2 := .slice M 20 cm) (v3 := .bool false) hB2 (Nat.le_refl w.heap.size)).alloc (by rw [put4_size]; omega) (.cells #[.slice A 0 c, .slice none 0 0, .slice M 20 cm, .bool false] 25))
  clear l2 l3 l2a l2b l2c l2d m1 m2 m3 m4 hO hB2
  go_wp2
  refine bodyPost_ret (v := machV A 0 c none 0 0 M 20 cm false) (by simp [machV, results, Try.results4, go_sem, s0, s1, s2, s3]) rfl ?_
  exact ⟨A, c, M, cm, rfl, hfin.out, HB.out⟩

set_option maxRecDepth 100000 in
set_option maxHeartbeats 4000000 in
theorem specNewMachine_1 (w : World) :
    Calls Try.prog 4 #[.int .i64 1] w (GivesM w [⟨0, 0, []⟩] (0 :: List.replicate 19 (-1))) := by
  have hB : Below w.heap.size w (w.alloc (.cells #[.slice none 0 0, .slice none 0 0, .slice none 0 0, .bool false] 25)) := (Below.refl _ _).alloc (Nat.le_refl _) _
  have l0 := Lies.new w #[.slice none 0 0, .slice none 0 0, .slice none 0 0, .bool false] 25
  go_enter Try.func4, Try.ntmps4
  go_wp2_with fail
  refine (inRange_yes 1 0 1 _ (by omega) (by omega)).mono ?_
  rintro e w' ⟨rfl, rfl⟩
  go_wp2_with fail
  generalize w.alloc (.cells #[.slice none 0 0, .slice none 0 0, .slice none 0 0, .bool false] 25) = w1 at hB l0 ⊢
  refine (specNew_nil w1).mono ?_
  rintro e w2 ⟨⟨A, c, M, cm, rfl, hO, hb2⟩, hA0⟩
  have hA : A = none ∧ c = 0 := by
    obtain ⟨M2, cm2, e2⟩ := hA0
    unfold machV at e2
    injection e2 with e2
    injection e2 with e2
    simp at e2
    exact ⟨e2.1.1, e2.1.2⟩
  have l2 := l0.below hb2 l0.lt
  have hB2 := hB.trans (hb2.mono hB.size)
  have hw1 := l0.lt
  have hw2 := l2.lt
  obtain ⟨gm, rfl⟩ : ∃ gm, M = some ⟨gm, 0, none⟩ := by
    rcases hO.memo.form with ⟨_, _, h3⟩ | ⟨g, h3, _⟩
    · cases h3
    · exact ⟨g, h3⟩
  obtain ⟨rfl, rfl⟩ : A = none ∧ c = 0 := hA
  have hgm1 := (hO.memo.blocks gm rfl).1
  have hgm2 := (hO.memo.blocks gm rfl).2
  clear l0 hB hb2
  simp only [machV, List.length_replicate, List.length_nil]
  have lb := Lies.new w2 #[.slice none 0 0, .slice none 0 0, .slice (some ⟨gm, 0, none⟩) 20 cm, .bool false] 25
  have ln := Lies.new (w2.alloc (.cells #[.slice none 0 0, .slice none 0 0, .slice (some ⟨gm, 0, none⟩) 20 cm, .bool false] 25)) #[.int .i64 0, .int .i64 0, .slice none 0 0] 33
  simp only [World.size_alloc] at ln
  have hmemo := hO.memo
  clear hO hA0
  have HM := hide hmemo
  clear hmemo
  go_wp2_with (at_builtin; refine append_nd1 rfl (.tmp 12) (.tmp 14) rfl (w2.heap.size + 1 + 1) rfl (w2.heap.size + 1) 0 0 33 rfl ln (by simp <;> omega) ?_; intro g cap w5 hg1 hg2 hR hgrow5 hge; clear hge
               have lb5 : Lies w5 w2.heap.size _ _ := (hgrow5.block _ (by simp; omega) (by simp)).trans (lb.alloc (.cells #[.int .i64 0, .int .i64 0, .slice none 0 0] 33))
               have lb6 := lb5.set 0 (.slice (some ⟨g, 0, none⟩) 1 cap)
               simp only [List.setIfInBounds_toArray, List.set_cons_zero] at lb6
               have hw5 : ∀ b, b < w2.heap.size → w5.heap[b]? = w2.heap[b]? := fun b hb => (hgrow5.block b (by simp; omega) (by simp)).trans ((Below.heap_alloc _ _ _ (by simp; omega)).trans (Below.heap_alloc _ _ _ hb))
               have hm5 := HM.out.of_blk (fun b hb => hw5 b (HM.out.blocks b hb).2)
               have hm6 := hm5.of_blk (w' := w5.setCell ⟨w2.heap.size, 0, none⟩ (.slice (some ⟨g, 0, none⟩) 1 cap)) (fun b hb => Below.heap_setCell _ _ _ _ (by show b ≠ w2.heap.size; have := (HM.out.blocks b hb).2; omega))
               have q0 : (w5.setCell ⟨w2.heap.size, 0, none⟩ (.slice (some ⟨g, 0, none⟩) 1 cap)).cell? ⟨gm, 0, none⟩ = some (.int .i64 (-1)) := by rw [hm6.own.cellAt 0 (by simp)]; rfl
               have q1 := hm6.own.frozenAt 0
               have lb7 := lb6.far (p := ⟨gm, 0, none⟩) (by show w2.heap.size ≠ gm; omega) (.int .i64 0)
               have lr5 : Lies w5 w.heap.size _ _ := (hw5 w.heap.size hw2).trans l2
               have lr7 := (lr5.far (p := ⟨w2.heap.size, 0, none⟩) (by show w.heap.size ≠ w2.heap.size; omega) (.slice (some ⟨g, 0, none⟩) 1 cap)).far (p := ⟨gm, 0, none⟩) (by show w.heap.size ≠ gm; omega) (.int .i64 0)
               obtain ⟨c0, f0, c1, f1, c2, f2, c3, f3, s0, s1, s2, s3⟩ := St4.of lr7 (.slice (some ⟨g, 0, none⟩) 1 cap) (.slice none 0 0) (.slice (some ⟨gm, 0, none⟩) 20 cm) (.bool false)
               have e0 := lb5.cell 0
               have e4 := lb5.frozen 0
               have b2 := lb6.cell 2
               have d0 := lb7.cell 0
               have d1 := lb7.cell 1
               have d2 := lb7.cell 2
               have d3 := lb7.cell 3
               simp only [List.getElem?_toArray, List.getElem?_cons_zero, List.getElem?_cons_succ] at e0 b2 d0 d1 d2 d3
               have hm7 : OwnI ((w5.setCell ⟨w2.heap.size, 0, none⟩ (.slice (some ⟨g, 0, none⟩) 1 cap)).setCell ⟨gm, 0, none⟩ (.int .i64 0)) w1.heap.size (some ⟨gm, 0, none⟩) cm (0 :: List.replicate 19 (-1)) := ⟨(hm6.own.stored 0 (.int .i64 0)).1⟩
               have HM7 := hide hm7
               have HR5 := hide hR
               have HG5 := hide hgrow5
               clear lb5 lb6 lb7 lr5 lr7 hm5 hm6 hm7 hR hgrow5 hw5)
  refine bodyPost_ret (v := machV (some ⟨g, 0, none⟩) 1 cap none 0 0 (some ⟨gm, 0, none⟩) 20 cm false) (by simp [machV, results, Try.results4, go_sem, s0, s1, s2, s3]) rfl ?_
  have hs5 := HG5.out.size
  simp only [World.size_alloc] at hs5
  have hB5 : Below w.heap.size w w5 := hB2.trans ⟨HG5.out.os, HG5.out.tape, HG5.out.output, by omega, fun b hb => (HG5.out.block b (by simp; omega) (by simp)).trans ((Below.heap_alloc _ _ _ (by simp; omega)).trans (Below.heap_alloc _ _ _ (by omega)))⟩
  have hB7 := (hB5.setCell (p := ⟨w2.heap.size, 0, none⟩) (by show w.heap.size ≤ w2.heap.size; omega) (.slice (some ⟨g, 0, none⟩) 1 cap)).setCell (p := ⟨gm, 0, none⟩) (by show w.heap.size ≤ gm; omega) (.int .i64 0)
  have hR7 := (HR5.out.kept (w' := w5.setCell ⟨w2.heap.size, 0, none⟩ (.slice (some ⟨g, 0, none⟩) 1 cap)) (fun b h1 _ => Below.heap_setCell _ _ _ _ (by show b ≠ w2.heap.size; omega))).kept (w' := (w5.setCell ⟨w2.heap.size, 0, none⟩ (.slice (some ⟨g, 0, none⟩) 1 cap)).setCell ⟨gm, 0, none⟩ (.int .i64 0)) (fun b h1 _ => Below.heap_setCell _ _ _ _ (by show b ≠ gm; omega))
  have hMach : OwnMach ((w5.setCell ⟨w2.heap.size, 0, none⟩ (.slice (some ⟨g, 0, none⟩) 1 cap)).setCell ⟨gm, 0, none⟩ (.int .i64 0)) w1.heap.size w5.heap.size (some ⟨g, 0, none⟩) cap [⟨0, 0, []⟩] none 0 [] (some ⟨gm, 0, none⟩) cm (0 :: List.replicate 19 (-1)) :=
    ⟨⟨g, g + 1, by omega, by omega, by omega, .inr ⟨g, rfl, hR7⟩, noBlock, fun b hb => .inl (by simp [blockOf] at hb; omega)⟩, OwnI.empty _ _, HM7.out, noBlock, fun b hb => ⟨by simp [blockOf] at hb; omega, by simp [blockOf]⟩⟩
  exact ⟨some ⟨g, 0, none⟩, cap, some ⟨gm, 0, none⟩, cm, rfl, ((hMach.put4 hw1 _ _ _ _).low (by omega)).high (by show _ ≤ (put4 _ _ _ _ _ _).heap.size; rw [put4_size]; simp), put4_below hB7 (Nat.le_refl _)⟩

theorem specNewMachine_any (f : Int) (w : World) :
    Calls Try.prog 4 #[.int .i64 f] w (GivesM w (newNs f) (newMs f)) := by
  by_cases h0 : f = 0
  · subst h0
    exact specNewMachine_0 w
  · by_cases h1 : f = 1
    · subst h1
      exact specNewMachine_1 w
    · have e1 : newNs f = [] := by unfold newNs; rw [if_neg h1]
      have e2 : newMs f = [] := by unfold newMs; rw [if_neg h0, if_neg h1]
      rw [e1, e2]
      exact specNewMachine_zero f w (by omega)

end Go.Proofs.Ytekmghlgcfknaak
