import Derived.Test.YtbihgafkmmcjlaaDoorPjAb
namespace Go.Proofs.YtbihgafkmmcjlaaDoor
open Go.RowKit
set_option linter.unusedVariables false
def Noded (rb : Nat) (A : Option Addr) (n c p : Nat) (w : World) (e : Ending) (w' : World) : Prop :=
  ∃ (kd v : Int) (p' : Nat), e = .returned (.agg #[.int .i64 kd, .int .i64 v, .slice none 0 0]) ∧ 0 ≤ kd ∧ kd ≤ 5 ∧ 0 ≤ v ∧ v ≤ 999 ∧ p' ≤ p + 3 ∧ Rd w' rb A n c p' ∧ Grew rb w w'
theorem lies_set3 {w : World} {b : Nat} {u0 u1 u2 v0 v1 v2 : Value} {t : TypeId} (h : Lies w b #[u0, u1, u2] t) : Lies (((w.setCell ⟨b, 0, none⟩ v0).setCell ⟨b, 1, none⟩ v1).setCell ⟨b, 2, none⟩ v2) b #[v0, v1, v2] t := by
  have := ((h.set 0 v0).set 1 v1).set 2 v2
  simpa using this
theorem grew_set3 {rb : Nat} {w0 w : World} {b : Nat} (h : Grew rb w0 w) (hb : w0.heap.size ≤ b) (v0 v1 v2 : Value) : Grew rb w0 (((w.setCell ⟨b, 0, none⟩ v0).setCell ⟨b, 1, none⟩ v1).setCell ⟨b, 2, none⟩ v2) :=
  ⟨h.os, h.tape, h.output, by simpa using h.size, fun k hk hn => by
    rw [Below.heap_setCell _ _ _ _ (by show k ≠ b; omega), Below.heap_setCell _ _ _ _ (by show k ≠ b; omega), Below.heap_setCell _ _ _ _ (by show k ≠ b; omega)]
    exact h.block k hk hn⟩
theorem Rd.set3 {w : World} {rb : Nat} {A : Option Addr} {n c p : Nat} (h : Rd w rb A n c p) {b : Nat} (hb : rb < b) (v0 v1 v2 : Value) : Rd (((w.setCell ⟨b, 0, none⟩ v0).setCell ⟨b, 1, none⟩ v1).setCell ⟨b, 2, none⟩ v2) rb A n c p := by
  have hbl : Below (rb + 1) w (((w.setCell ⟨b, 0, none⟩ v0).setCell ⟨b, 1, none⟩ v1).setCell ⟨b, 2, none⟩ v2) := ⟨rfl, rfl, rfl, by simp, fun k hk => by
    rw [Below.heap_setCell _ _ _ _ (by show k ≠ b; omega), Below.heap_setCell _ _ _ _ (by show k ≠ b; omega), Below.heap_setCell _ _ _ _ (by show k ≠ b; omega)]⟩
  exact ⟨h.box.below hbl (by omega), h.bytes.later (hbl.mono (by omega)), h.few⟩
set_option maxRecDepth 100000 in
set_option maxHeartbeats 4000000 in
theorem someNode_any (rb : Nat) (A : Option Addr) (n c p : Nat) (w : World) (h : Rd w rb A n c p) (hp : p < 900000) :
    Calls Tryd.prog 39 #[.pointer (some ⟨rb, 0, none⟩)] w (Noded rb A n c p w) := by
  have hlt := h.box.lt
  have hb0 : Below w.heap.size w (w.alloc (.cells #[.int .i64 0, .int .i64 0, .slice none 0 0] 73)) := (Below.refl _ _).alloc (Nat.le_refl _) _
  have h0 := h.below hb0
  have l0 := Lies.new w #[.int .i64 0, .int .i64 0, .slice none 0 0] 73
  clear h
  go_enter Tryd.func39, Tryd.ntmps39
  go_wp2_with fail
  generalize w.alloc (.cells #[.int .i64 0, .int .i64 0, .slice none 0 0] 73) = W at hb0 h0 l0 ⊢
  refine (pick_any rb A n c p 8 W h0 (by omega) (by omega)).mono ?_
  rintro e w1 ⟨⟨x, rfl, hx, _⟩, hr1, ht1⟩
  have hG1 : Grew rb w w1 := (Grew.of_below hb0).trans (Grew.of_turn ht1)
  have l1 := l0.grew (Grew.of_turn ht1) (by omega)
  have hx8 : (x : Int) < 8 := hx (by omega)
  have q0 := l1.cell 0
  have q1 := l1.cell 1
  have q2 := l1.cell 2
  have g0 := l1.frozen 0
  have g1 := l1.frozen 1
  have g2 := l1.frozen 2
  simp at q0 q1 q2
  clear hx ht1 h0 l0 hb0
  by_cases h2 : x = 2
  · subst h2
    have hl3 := lies_set3 (v0 := .int .i64 2) (v1 := .int .i64 0) (v2 := .slice none 0 0) l1
    have s0 := hl3.cell 0
    have s1 := hl3.cell 1
    have s2 := hl3.cell 2
    simp at s0 s1 s2
    have HF : Hid (Noded rb A n c p w (.returned (.agg #[.int .i64 2, .int .i64 0, .slice none 0 0])) (((w1.setCell ⟨w.heap.size, 0, none⟩ (.int .i64 2)).setCell ⟨w.heap.size, 1, none⟩ (.int .i64 0)).setCell ⟨w.heap.size, 2, none⟩ (.slice none 0 0))) :=
      ⟨2, 0, p + 1, rfl, by omega, by omega, by omega, by omega, by omega, hr1.set3 hlt _ _ _, grew_set3 hG1 (Nat.le_refl _) _ _ _⟩
    clear hl3 hG1 hr1
    go_wp2
    refine bodyPost_ret (v := .agg #[.int .i64 2, .int .i64 0, .slice none 0 0]) (by simp [results, Tryd.results39, go_sem, s0, s1, s2]) rfl ?_
    exact HF.out
  by_cases h3 : x = 3
  · subst h3
    have hl3 := lies_set3 (v0 := .int .i64 2) (v1 := .int .i64 0) (v2 := .slice none 0 0) l1
    have s0 := hl3.cell 0
    have s1 := hl3.cell 1
    have s2 := hl3.cell 2
    simp at s0 s1 s2
    have HF : Hid (Noded rb A n c p w (.returned (.agg #[.int .i64 2, .int .i64 0, .slice none 0 0])) (((w1.setCell ⟨w.heap.size, 0, none⟩ (.int .i64 2)).setCell ⟨w.heap.size, 1, none⟩ (.int .i64 0)).setCell ⟨w.heap.size, 2, none⟩ (.slice none 0 0))) :=
      ⟨2, 0, p + 1, rfl, by omega, by omega, by omega, by omega, by omega, hr1.set3 hlt _ _ _, grew_set3 hG1 (Nat.le_refl _) _ _ _⟩
    clear hl3 hG1 hr1
    go_wp2
    refine bodyPost_ret (v := .agg #[.int .i64 2, .int .i64 0, .slice none 0 0]) (by simp [results, Tryd.results39, go_sem, s0, s1, s2]) rfl ?_
    exact HF.out
  by_cases h4 : x = 4
  · subst h4
    have hl3 := lies_set3 (v0 := .int .i64 3) (v1 := .int .i64 0) (v2 := .slice none 0 0) l1
    have s0 := hl3.cell 0
    have s1 := hl3.cell 1
    have s2 := hl3.cell 2
    simp at s0 s1 s2
    have HF : Hid (Noded rb A n c p w (.returned (.agg #[.int .i64 3, .int .i64 0, .slice none 0 0])) (((w1.setCell ⟨w.heap.size, 0, none⟩ (.int .i64 3)).setCell ⟨w.heap.size, 1, none⟩ (.int .i64 0)).setCell ⟨w.heap.size, 2, none⟩ (.slice none 0 0))) :=
      ⟨3, 0, p + 1, rfl, by omega, by omega, by omega, by omega, by omega, hr1.set3 hlt _ _ _, grew_set3 hG1 (Nat.le_refl _) _ _ _⟩
    clear hl3 hG1 hr1
    go_wp2
    refine bodyPost_ret (v := .agg #[.int .i64 3, .int .i64 0, .slice none 0 0]) (by simp [results, Tryd.results39, go_sem, s0, s1, s2]) rfl ?_
    exact HF.out
  by_cases h5 : x = 5
  · subst h5
    have hl3 := lies_set3 (v0 := .int .i64 3) (v1 := .int .i64 0) (v2 := .slice none 0 0) l1
    have s0 := hl3.cell 0
    have s1 := hl3.cell 1
    have s2 := hl3.cell 2
    simp at s0 s1 s2
    have HF : Hid (Noded rb A n c p w (.returned (.agg #[.int .i64 3, .int .i64 0, .slice none 0 0])) (((w1.setCell ⟨w.heap.size, 0, none⟩ (.int .i64 3)).setCell ⟨w.heap.size, 1, none⟩ (.int .i64 0)).setCell ⟨w.heap.size, 2, none⟩ (.slice none 0 0))) :=
      ⟨3, 0, p + 1, rfl, by omega, by omega, by omega, by omega, by omega, hr1.set3 hlt _ _ _, grew_set3 hG1 (Nat.le_refl _) _ _ _⟩
    clear hl3 hG1 hr1
    go_wp2
    refine bodyPost_ret (v := .agg #[.int .i64 3, .int .i64 0, .slice none 0 0]) (by simp [results, Tryd.results39, go_sem, s0, s1, s2]) rfl ?_
    exact HF.out
  by_cases h6 : x = 6
  · subst h6
    have hl3 := lies_set3 (v0 := .int .i64 4) (v1 := .int .i64 0) (v2 := .slice none 0 0) l1
    have s0 := hl3.cell 0
    have s1 := hl3.cell 1
    have s2 := hl3.cell 2
    simp at s0 s1 s2
    have HF : Hid (Noded rb A n c p w (.returned (.agg #[.int .i64 4, .int .i64 0, .slice none 0 0])) (((w1.setCell ⟨w.heap.size, 0, none⟩ (.int .i64 4)).setCell ⟨w.heap.size, 1, none⟩ (.int .i64 0)).setCell ⟨w.heap.size, 2, none⟩ (.slice none 0 0))) :=
      ⟨4, 0, p + 1, rfl, by omega, by omega, by omega, by omega, by omega, hr1.set3 hlt _ _ _, grew_set3 hG1 (Nat.le_refl _) _ _ _⟩
    clear hl3 hG1 hr1
    go_wp2
    refine bodyPost_ret (v := .agg #[.int .i64 4, .int .i64 0, .slice none 0 0]) (by simp [results, Tryd.results39, go_sem, s0, s1, s2]) rfl ?_
    exact HF.out
  by_cases h1 : x = 1
  · subst h1
    clear q0 q1 q2 g0 g1 g2
    go_wp2_with fail
    refine (pick_any rb A n c (p + 1) 3 w1 hr1 (by omega) (by omega)).mono ?_
    rintro e w2 ⟨⟨y, rfl, hy, _⟩, hr2, ht2⟩
    have hy3 : (y : Int) < 3 := hy (by omega)
    have hG2 : Grew rb w w2 := hG1.trans (Grew.of_turn ht2)
    have l2 := l1.grew (Grew.of_turn ht2) (by omega)
    have q0 := l2.cell 0
    have q1 := l2.cell 1
    have q2 := l2.cell 2
    have g0 := l2.frozen 0
    have g1 := l2.frozen 1
    have g2 := l2.frozen 2
    simp at q0 q1 q2
    have hl3 := lies_set3 (v0 := .int .i64 1) (v1 := .int .i64 (y : Int)) (v2 := .slice none 0 0) l2
    have s0 := hl3.cell 0
    have s1 := hl3.cell 1
    have s2 := hl3.cell 2
    simp at s0 s1 s2
    have HF : Hid (Noded rb A n c p w (.returned (.agg #[.int .i64 1, .int .i64 (y : Int), .slice none 0 0])) (((w2.setCell ⟨w.heap.size, 0, none⟩ (.int .i64 1)).setCell ⟨w.heap.size, 1, none⟩ (.int .i64 (y : Int))).setCell ⟨w.heap.size, 2, none⟩ (.slice none 0 0))) :=
      ⟨1, y, p + 1 + 1, rfl, by omega, by omega, by omega, by omega, by omega, hr2.set3 hlt _ _ _, grew_set3 hG2 (Nat.le_refl _) _ _ _⟩
    clear hl3 hG1 hr1 hG2 hr2 ht2 hy l1
    go_wp2
    refine bodyPost_ret (v := .agg #[.int .i64 1, .int .i64 (y : Int), .slice none 0 0]) (by simp [results, Tryd.results39, go_sem, s0, s1, s2]) rfl ?_
    exact HF.out
  by_cases h7 : x = 7
  · subst h7
    clear q0 q1 q2 g0 g1 g2
    go_wp2_with fail
    refine (pick_any rb A n c (p + 1) 3 w1 hr1 (by omega) (by omega)).mono ?_
    rintro e w2 ⟨⟨y, rfl, hy, _⟩, hr2, ht2⟩
    have hy3 : (y : Int) < 3 := hy (by omega)
    have hG2 : Grew rb w w2 := hG1.trans (Grew.of_turn ht2)
    have l2 := l1.grew (Grew.of_turn ht2) (by omega)
    have q0 := l2.cell 0
    have q1 := l2.cell 1
    have q2 := l2.cell 2
    have g0 := l2.frozen 0
    have g1 := l2.frozen 1
    have g2 := l2.frozen 2
    simp at q0 q1 q2
    have hl3 := lies_set3 (v0 := .int .i64 5) (v1 := .int .i64 (y : Int)) (v2 := .slice none 0 0) l2
    have s0 := hl3.cell 0
    have s1 := hl3.cell 1
    have s2 := hl3.cell 2
    simp at s0 s1 s2
    have HF : Hid (Noded rb A n c p w (.returned (.agg #[.int .i64 5, .int .i64 (y : Int), .slice none 0 0])) (((w2.setCell ⟨w.heap.size, 0, none⟩ (.int .i64 5)).setCell ⟨w.heap.size, 1, none⟩ (.int .i64 (y : Int))).setCell ⟨w.heap.size, 2, none⟩ (.slice none 0 0))) :=
      ⟨5, y, p + 1 + 1, rfl, by omega, by omega, by omega, by omega, by omega, hr2.set3 hlt _ _ _, grew_set3 hG2 (Nat.le_refl _) _ _ _⟩
    clear hl3 hG1 hr1 hG2 hr2 ht2 hy l1
    go_wp2
    refine bodyPost_ret (v := .agg #[.int .i64 5, .int .i64 (y : Int), .slice none 0 0]) (by simp [results, Tryd.results39, go_sem, s0, s1, s2]) rfl ?_
    exact HF.out
  obtain rfl : x = 0 := by omega
  clear q0 q1 q2 g0 g1 g2
  go_wp2_with fail
  refine (pick_any rb A n c (p + 1) 250 w1 hr1 (by omega) (by omega)).mono ?_
  rintro e w2 ⟨⟨y, rfl, hy, _⟩, hr2, ht2⟩
  have hy3 : (y : Int) < 250 := hy (by omega)
  have hG2 : Grew rb w w2 := hG1.trans (Grew.of_turn ht2)
  have l2 := l1.grew (Grew.of_turn ht2) (by omega)
  have hbA : Below w2.heap.size w2 (w2.alloc (.cells #[.int .i64 5, .int .i64 127, .int .i64 128, .int .i64 999, .int .i64 (y : Int)] 3)) := (Below.refl _ _).alloc (Nat.le_refl _) _
  have lA := Lies.new w2 #[.int .i64 5, .int .i64 127, .int .i64 128, .int .i64 999, .int .i64 (y : Int)] 3
  have l3 := l2.below hbA l2.lt
  have hr3 := hr2.below hbA
  have hG3 := hG2.trans (Grew.of_below hbA)
  have hrlt := hr2.box.lt
  clear l1 l2 hr1 hr2 hG1 hG2 ht2 hy hbA
  go_wp2_with fail
  generalize w2.alloc (.cells #[.int .i64 5, .int .i64 127, .int .i64 128, .int .i64 999, .int .i64 (y : Int)] 3) = w3 at lA l3 hr3 hG3 ⊢
  refine (one_any rb A n c (p + 1 + 1) w2.heap.size 5 5 [5, 127, 128, 999, (y : Int)] w3 hr3 (by omega) rfl (by omega) (by omega) (by omega) (fun k z hz => by
    have := lA.cell k
    rw [this]
    match k, hz with
    | 0, hz => simpa using hz
    | 1, hz => simpa using hz
    | 2, hz => simpa using hz
    | 3, hz => simpa using hz
    | 4, hz => simpa using hz
    | k + 5, hz => simp at hz)).mono ?_
  rintro e w4 ⟨⟨z, hz, rfl⟩, hr4, ht4⟩
  have hz0 : 0 ≤ z ∧ z ≤ 999 := by
    simp at hz
    rcases hz with rfl | rfl | rfl | rfl | rfl <;> omega
  obtain ⟨hz1, hz2⟩ := hz0
  have hG4 : Grew rb w w4 := hG3.trans (Grew.of_turn ht4)
  have l4 := l3.grew (Grew.of_turn ht4) (by omega)
  have q0 := l4.cell 0
  have q1 := l4.cell 1
  have q2 := l4.cell 2
  have g0 := l4.frozen 0
  have g1 := l4.frozen 1
  have g2 := l4.frozen 2
  simp at q0 q1 q2
  have hl3 := lies_set3 (v0 := .int .i64 0) (v1 := .int .i64 z) (v2 := .slice none 0 0) l4
  have s0 := hl3.cell 0
  have s1 := hl3.cell 1
  have s2 := hl3.cell 2
  simp at s0 s1 s2
  have HF : Hid (Noded rb A n c p w (.returned (.agg #[.int .i64 0, .int .i64 z, .slice none 0 0])) (((w4.setCell ⟨w.heap.size, 0, none⟩ (.int .i64 0)).setCell ⟨w.heap.size, 1, none⟩ (.int .i64 z)).setCell ⟨w.heap.size, 2, none⟩ (.slice none 0 0))) :=
    ⟨0, z, p + 1 + 1 + 1, rfl, by omega, by omega, by omega, by omega, by omega, hr4.set3 hlt _ _ _, grew_set3 hG4 (Nat.le_refl _) _ _ _⟩
  clear hl3 hG3 hr3 hG4 hr4 ht4 hz lA l3
  go_wp2
  refine bodyPost_ret (v := .agg #[.int .i64 0, .int .i64 z, .slice none 0 0]) (by simp [results, Tryd.results39, go_sem, s0, s1, s2]) rfl ?_
  exact HF.out
end Go.Proofs.YtbihgafkmmcjlaaDoor
