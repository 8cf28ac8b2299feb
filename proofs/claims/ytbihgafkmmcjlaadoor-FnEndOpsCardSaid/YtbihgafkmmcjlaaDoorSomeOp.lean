import Derived.Test.YtbihgafkmmcjlaaDoorPjAb
import Derived.Deep.Cut
namespace Go.Proofs.YtbihgafkmmcjlaaDoor
open Go.RowKit
set_option linter.unusedVariables false
def SomeOpd (rb : Nat) (A : Option Addr) (n c p : Nat) (w : World) (e : Ending) (w' : World) : Prop :=
  ∃ (o : Od) (p' : Nat), OdOk o ∧ e = .returned (.agg #[.int .i64 o.code, .int .i64 o.arg]) ∧ p' ≤ p + 4 ∧ Rd w' rb A n c p' ∧ Grew rb w w'
theorem lies_set2 {w : World} {b : Nat} {u0 u1 v0 v1 : Value} {t : TypeId} (h : Lies w b #[u0, u1] t) : Lies ((w.setCell ⟨b, 0, none⟩ v0).setCell ⟨b, 1, none⟩ v1) b #[v0, v1] t := by
  have := (h.set 0 v0).set 1 v1
  simpa using this
theorem grew_set2 {rb : Nat} {w0 w : World} {b : Nat} (h : Grew rb w0 w) (hb : w0.heap.size ≤ b) (v0 v1 : Value) : Grew rb w0 ((w.setCell ⟨b, 0, none⟩ v0).setCell ⟨b, 1, none⟩ v1) :=
  ⟨h.os, h.tape, h.output, by simpa using h.size, fun k hk hn => by
    rw [Below.heap_setCell _ _ _ _ (by show k ≠ b; omega), Below.heap_setCell _ _ _ _ (by show k ≠ b; omega)]
    exact h.block k hk hn⟩
theorem Rd.far1 {w : World} {rb : Nat} {A : Option Addr} {n c p : Nat} (h : Rd w rb A n c p) {b o : Nat} (hb : rb < b) (v : Value) : Rd (w.setCell ⟨b, o, none⟩ v) rb A n c p := by
  have hbl : Below (rb + 1) w (w.setCell ⟨b, o, none⟩ v) := ⟨rfl, rfl, rfl, by simp, fun k hk => Below.heap_setCell _ _ _ _ (by show k ≠ b; omega)⟩
  exact ⟨h.box.below hbl (by omega), h.bytes.later (hbl.mono (by omega)), h.few⟩
theorem grew_set1 {rb : Nat} {w0 w : World} {b o : Nat} (h : Grew rb w0 w) (hb : w0.heap.size ≤ b) (v : Value) : Grew rb w0 (w.setCell ⟨b, o, none⟩ v) :=
  ⟨h.os, h.tape, h.output, by simpa using h.size, fun k hk hn => by
    rw [Below.heap_setCell _ _ _ _ (by show k ≠ b; omega)]
    exact h.block k hk hn⟩
theorem od_plain {x : Nat} (h1 : x < 20) (h : argMost (x : Int) < 0) : OdOk ⟨(x : Int), 0⟩ := ⟨by simp; omega, .inl ⟨h, rfl⟩⟩
theorem od_arg {x : Nat} {a : Int} (h1 : x < 20) (h : 0 ≤ argMost (x : Int)) (h2 : 0 ≤ a) (h3 : a ≤ argMost (x : Int)) : OdOk ⟨(x : Int), a⟩ := ⟨by simp; omega, .inr ⟨h, h2, h3⟩⟩
set_option maxRecDepth 100000 in
set_option maxHeartbeats 8000000 in
theorem someOp_any (rb : Nat) (A : Option Addr) (n c p : Nat) (w : World) (h : Rd w rb A n c p) (hp : p < 900000) :
    Calls Tryd.prog 23 #[.pointer (some ⟨rb, 0, none⟩)] w (SomeOpd rb A n c p w) := by
  have hlt := h.box.lt
  have hb0 : Below w.heap.size w (w.alloc (.cells #[.int .i64 0, .int .i64 0] 42)) := (Below.refl _ _).alloc (Nat.le_refl _) _
  have h0 := h.below hb0
  have l0 := Lies.new w #[.int .i64 0, .int .i64 0] 42
  clear h
  go_enter Tryd.func23, Tryd.ntmps23
  go_wp2_with fail
  have hzW : w.heap.size < (w.alloc (.cells #[.int .i64 0, .int .i64 0] 42)).heap.size := l0.lt
  generalize w.alloc (.cells #[.int .i64 0, .int .i64 0] 42) = W at hb0 h0 l0 hzW ⊢
  refine (pick_any rb A n c p 20 W h0 (by omega) (by omega)).mono ?_
  rintro e w1 ⟨⟨x, rfl, hx, _⟩, hr1, ht1⟩
  have hG1 : Grew rb w w1 := (Grew.of_below hb0).trans (Grew.of_turn ht1)
  have l1 := l0.grew (Grew.of_turn ht1) (by omega)
  have hx20 : (x : Int) < 20 := hx (by omega)
  have hz1 : w.heap.size < w1.heap.size := by rw [ht1.size]; exact hzW
  have hb2 : Below w1.heap.size w1 (w1.alloc (.cells #[.int .i64 (x : Int), .int .i64 0] 42)) := (Below.refl _ _).alloc (Nat.le_refl _) _
  have hr2 := hr1.below hb2
  have HG2 := hide (hG1.trans (Grew.of_below hb2))
  have l2 := l1.below hb2 l1.lt
  have k2 := Lies.new w1 #[.int .i64 (x : Int), .int .i64 0] 42
  have hrb1 : rb < w1.heap.size := hr1.box.lt
  clear hx hr1 ht1 hG1 l1 hb2 l0 h0 hb0
  go_upto_region 2 with fail
  generalize w1.alloc (.cells #[.int .i64 (x : Int), .int .i64 0] 42) = w2 at hr2 HG2 l2 k2 ⊢
  generalize w1.heap.size = b1 at hz1 k2 hrb1 ⊢
  have L2 := hide l2
  have HR2 := hide hr2
  have z0 := k2.cell 0
  have z1 := k2.cell 1
  have zf := k2.frozen 1
  simp at z0 z1
  clear l2 hr2
  have fin : ∀ (a : Int) (w5 : World) (p' : Nat), OdOk ⟨(x : Int), a⟩ → p' ≤ p + 4 → Rd w5 rb A n c p' → Grew rb w w5 → SomeOpd rb A n c p w (.returned (.agg #[.int .i64 (x : Int), .int .i64 a])) ((w5.setCell ⟨w.heap.size, 0, none⟩ (.int .i64 (x : Int))).setCell ⟨w.heap.size, 1, none⟩ (.int .i64 a)) :=
    fun a w5 p' ho hp' hr hg => ⟨⟨(x : Int), a⟩, p', ho, rfl, hp', (hr.far1 (by omega) _).far1 (by omega) _, grew_set2 hg (Nat.le_refl _) _ _⟩
  have Fin := hide fin
  clear fin
  have hx20n : x < 20 := by omega
  have hcs : (x = 2 ∨ x = 3 ∨ x = 4 ∨ x = 5 ∨ x = 6 ∨ x = 7 ∨ x = 8 ∨ x = 9 ∨ x = 10 ∨ x = 11 ∨ x = 12 ∨ x = 14 ∨ x = 17 ∨ x = 18 ∨ x = 19) ∨ (x = 1 ∨ x = 13 ∨ x = 15 ∨ x = 16) ∨ x = 0 := by omega
  rcases hcs with hcs | hcs | rfl
  · have hO := hide (od_plain hx20n (by rcases hcs with rfl | rfl | rfl | rfl | rfl | rfl | rfl | rfl | rfl | rfl | rfl | rfl | rfl | rfl | rfl <;> simp [argMost]))
    have n0 : ((x : Int) == 0) = false := by simp; omega
    have n1 : ((x : Int) == 1) = false := by simp; omega
    have n13 : ((x : Int) == 13) = false := by simp; omega
    have n15 : ((x : Int) == 15) = false := by simp; omega
    have n16 : ((x : Int) == 16) = false := by simp; omega
    clear hcs
    have q0 := L2.out.cell 0
    have q1 := L2.out.cell 1
    have g0 := L2.out.frozen 0
    have g1 := L2.out.frozen 1
    simp at q0 q1
    have hl3 := lies_set2 (v0 := .int .i64 (x : Int)) (v1 := .int .i64 0) L2.out
    have s0 := hl3.cell 0
    have s1 := hl3.cell 1
    simp at s0 s1
    have HF := hide (Fin.out 0 w2 (p + 1) hO.out (by omega) HR2.out HG2.out)
    clear hl3 k2
    go_wp2
    refine bodyPost_ret (v := .agg #[.int .i64 (x : Int), .int .i64 0]) (by simp [results, Tryd.results23, go_sem, s0, s1]) rfl ?_
    exact HF.out
  · rcases hcs with rfl | rfl | rfl | rfl
    · go_wp2_with fail
      clear z0 z1 zf
      refine (pick_any rb A n c (p + 1) 4 w2 HR2.out (by omega) (by omega)).mono ?_
      rintro e w3 ⟨⟨y, rfl, hy, _⟩, hr3, ht3⟩
      have hy4 : (y : Int) < 4 := hy (by omega)
      have HGW := hide (HG2.out.trans (Grew.of_turn ht3))
      have HRW := hide hr3
      have KW := hide (k2.grew (Grew.of_turn ht3) (by omega))
      have LW := hide (L2.out.grew (Grew.of_turn ht3) (by omega))
      have hO := hide (od_arg (a := (y : Int)) hx20n (by simp [argMost]) (by omega) (by simp [argMost]; omega))
      clear hr3 ht3 hy k2
      have k4 := KW.out.set 1 (.int .i64 (y : Int))
      have l4 := LW.out.far (p := ⟨b1, 1, none⟩) (by show w.heap.size ≠ b1; omega) (.int .i64 (y : Int))
      have HG4 := hide (grew_set1 (b := b1) (o := 1) HGW.out (by omega) (.int .i64 (y : Int)))
      have HR4 := hide (HRW.out.far1 (b := b1) (o := 1) (by omega) (.int .i64 (y : Int)))
      have c1 := KW.out.cell 1
      have c0 := KW.out.cell 0
      have cf := KW.out.frozen 1
      simp only [jD, jE, jF] at c0 c1
      go_upto_region 10 with fail
      clear c0 c1 cf
      generalize w3.setCell ⟨b1, 1, none⟩ (.int .i64 (y : Int)) = w6 at k4 l4 HG4 HR4 ⊢
      have z0 := k4.cell 0
      have z1 := k4.cell 1
      simp at z0 z1
      have q0 := l4.cell 0
      have q1 := l4.cell 1
      have g0 := l4.frozen 0
      have g1 := l4.frozen 1
      simp at q0 q1
      have hl3 := lies_set2 (v0 := .int .i64 ((1 : Nat) : Int)) (v1 := .int .i64 (y : Int)) l4
      have s0 := hl3.cell 0
      have s1 := hl3.cell 1
      simp at s0 s1
      have HF := hide (Fin.out (y : Int) w6 (p + 1 + 1) hO.out (by omega) HR4.out HG4.out)
      clear hl3 k4 l4
      go_wp2
      refine bodyPost_ret (v := .agg #[.int .i64 ((1 : Nat) : Int), .int .i64 (y : Int)]) (by simp [results, Tryd.results23, go_sem, s0, s1]) rfl ?_
      exact HF.out
    · go_wp2_with fail
      clear z0 z1 zf
      refine (pick_any rb A n c (p + 1) 4 w2 HR2.out (by omega) (by omega)).mono ?_
      rintro e w3 ⟨⟨y, rfl, hy, _⟩, hr3, ht3⟩
      have hy4 : (y : Int) < 4 := hy (by omega)
      have HGW := hide (HG2.out.trans (Grew.of_turn ht3))
      have HRW := hide hr3
      have KW := hide (k2.grew (Grew.of_turn ht3) (by omega))
      have LW := hide (L2.out.grew (Grew.of_turn ht3) (by omega))
      have hO := hide (od_arg (a := (y : Int)) hx20n (by simp [argMost]) (by omega) (by simp [argMost]; omega))
      clear hr3 ht3 hy k2
      have k4 := KW.out.set 1 (.int .i64 (y : Int))
      have l4 := LW.out.far (p := ⟨b1, 1, none⟩) (by show w.heap.size ≠ b1; omega) (.int .i64 (y : Int))
      have HG4 := hide (grew_set1 (b := b1) (o := 1) HGW.out (by omega) (.int .i64 (y : Int)))
      have HR4 := hide (HRW.out.far1 (b := b1) (o := 1) (by omega) (.int .i64 (y : Int)))
      have c1 := KW.out.cell 1
      have c0 := KW.out.cell 0
      have cf := KW.out.frozen 1
      simp only [jD, jE, jF] at c0 c1
      go_upto_region 10 with fail
      clear c0 c1 cf
      generalize w3.setCell ⟨b1, 1, none⟩ (.int .i64 (y : Int)) = w6 at k4 l4 HG4 HR4 ⊢
      have z0 := k4.cell 0
      have z1 := k4.cell 1
      simp at z0 z1
      have q0 := l4.cell 0
      have q1 := l4.cell 1
      have g0 := l4.frozen 0
      have g1 := l4.frozen 1
      simp at q0 q1
      have hl3 := lies_set2 (v0 := .int .i64 ((13 : Nat) : Int)) (v1 := .int .i64 (y : Int)) l4
      have s0 := hl3.cell 0
      have s1 := hl3.cell 1
      simp at s0 s1
      have HF := hide (Fin.out (y : Int) w6 (p + 1 + 1) hO.out (by omega) HR4.out HG4.out)
      clear hl3 k4 l4
      go_wp2
      refine bodyPost_ret (v := .agg #[.int .i64 ((13 : Nat) : Int), .int .i64 (y : Int)]) (by simp [results, Tryd.results23, go_sem, s0, s1]) rfl ?_
      exact HF.out
    · go_wp2_with fail
      clear z0 z1 zf
      refine (pick_any rb A n c (p + 1) 4 w2 HR2.out (by omega) (by omega)).mono ?_
      rintro e w3 ⟨⟨y, rfl, hy, _⟩, hr3, ht3⟩
      have hy4 : (y : Int) < 4 := hy (by omega)
      have HGW := hide (HG2.out.trans (Grew.of_turn ht3))
      have HRW := hide hr3
      have KW := hide (k2.grew (Grew.of_turn ht3) (by omega))
      have LW := hide (L2.out.grew (Grew.of_turn ht3) (by omega))
      have hO := hide (od_arg (a := (y : Int)) hx20n (by simp [argMost]) (by omega) (by simp [argMost]; omega))
      clear hr3 ht3 hy k2
      have k4 := KW.out.set 1 (.int .i64 (y : Int))
      have l4 := LW.out.far (p := ⟨b1, 1, none⟩) (by show w.heap.size ≠ b1; omega) (.int .i64 (y : Int))
      have HG4 := hide (grew_set1 (b := b1) (o := 1) HGW.out (by omega) (.int .i64 (y : Int)))
      have HR4 := hide (HRW.out.far1 (b := b1) (o := 1) (by omega) (.int .i64 (y : Int)))
      have c1 := KW.out.cell 1
      have c0 := KW.out.cell 0
      have cf := KW.out.frozen 1
      simp only [jD, jE, jF] at c0 c1
      go_upto_region 10 with fail
      clear c0 c1 cf
      generalize w3.setCell ⟨b1, 1, none⟩ (.int .i64 (y : Int)) = w6 at k4 l4 HG4 HR4 ⊢
      have z0 := k4.cell 0
      have z1 := k4.cell 1
      simp at z0 z1
      have q0 := l4.cell 0
      have q1 := l4.cell 1
      have g0 := l4.frozen 0
      have g1 := l4.frozen 1
      simp at q0 q1
      have hl3 := lies_set2 (v0 := .int .i64 ((15 : Nat) : Int)) (v1 := .int .i64 (y : Int)) l4
      have s0 := hl3.cell 0
      have s1 := hl3.cell 1
      simp at s0 s1
      have HF := hide (Fin.out (y : Int) w6 (p + 1 + 1) hO.out (by omega) HR4.out HG4.out)
      clear hl3 k4 l4
      go_wp2
      refine bodyPost_ret (v := .agg #[.int .i64 ((15 : Nat) : Int), .int .i64 (y : Int)]) (by simp [results, Tryd.results23, go_sem, s0, s1]) rfl ?_
      exact HF.out
    · go_wp2_with fail
      clear z0 z1 zf
      refine (pick_any rb A n c (p + 1) 4 w2 HR2.out (by omega) (by omega)).mono ?_
      rintro e w3 ⟨⟨y, rfl, hy, _⟩, hr3, ht3⟩
      have hy4 : (y : Int) < 4 := hy (by omega)
      have HGW := hide (HG2.out.trans (Grew.of_turn ht3))
      have HRW := hide hr3
      have KW := hide (k2.grew (Grew.of_turn ht3) (by omega))
      have LW := hide (L2.out.grew (Grew.of_turn ht3) (by omega))
      have hO := hide (od_arg (a := (y : Int)) hx20n (by simp [argMost]) (by omega) (by simp [argMost]; omega))
      clear hr3 ht3 hy k2
      have k4 := KW.out.set 1 (.int .i64 (y : Int))
      have l4 := LW.out.far (p := ⟨b1, 1, none⟩) (by show w.heap.size ≠ b1; omega) (.int .i64 (y : Int))
      have HG4 := hide (grew_set1 (b := b1) (o := 1) HGW.out (by omega) (.int .i64 (y : Int)))
      have HR4 := hide (HRW.out.far1 (b := b1) (o := 1) (by omega) (.int .i64 (y : Int)))
      have c1 := KW.out.cell 1
      have c0 := KW.out.cell 0
      have cf := KW.out.frozen 1
      simp only [jD, jE, jF] at c0 c1
      go_upto_region 10 with fail
      clear c0 c1 cf
      generalize w3.setCell ⟨b1, 1, none⟩ (.int .i64 (y : Int)) = w6 at k4 l4 HG4 HR4 ⊢
      have z0 := k4.cell 0
      have z1 := k4.cell 1
      simp at z0 z1
      have q0 := l4.cell 0
      have q1 := l4.cell 1
      have g0 := l4.frozen 0
      have g1 := l4.frozen 1
      simp at q0 q1
      have hl3 := lies_set2 (v0 := .int .i64 ((16 : Nat) : Int)) (v1 := .int .i64 (y : Int)) l4
      have s0 := hl3.cell 0
      have s1 := hl3.cell 1
      simp at s0 s1
      have HF := hide (Fin.out (y : Int) w6 (p + 1 + 1) hO.out (by omega) HR4.out HG4.out)
      clear hl3 k4 l4
      go_wp2
      refine bodyPost_ret (v := .agg #[.int .i64 ((16 : Nat) : Int), .int .i64 (y : Int)]) (by simp [results, Tryd.results23, go_sem, s0, s1]) rfl ?_
      exact HF.out
  · go_wp2_with fail
    clear z0 z1 zf
    refine (pick_any rb A n c (p + 1) 250 w2 HR2.out (by omega) (by omega)).mono ?_
    rintro e w3 ⟨⟨y, rfl, hy, _⟩, hr3, ht3⟩
    have hy4 : (y : Int) < 250 := hy (by omega)
    have hG3 := HG2.out.trans (Grew.of_turn ht3)
    have k3 := k2.grew (Grew.of_turn ht3) (by omega)
    have l3 := L2.out.grew (Grew.of_turn ht3) (by omega)
    have hb4 : Below w3.heap.size w3 (w3.alloc (.cells #[.int .i64 5, .int .i64 127, .int .i64 128, .int .i64 999, .int .i64 (y : Int)] 3)) := (Below.refl _ _).alloc (Nat.le_refl _) _
    have hr4 := hr3.below hb4
    have hz3 : b1 < w3.heap.size := k3.lt
    have hG4 := hG3.trans (Grew.of_below hb4)
    have k4 := k3.below hb4 k3.lt
    have l4 := l3.below hb4 l3.lt
    have nl := Lies.new w3 #[.int .i64 5, .int .i64 127, .int .i64 128, .int .i64 999, .int .i64 (y : Int)] 3
    have hrb3 : rb < w3.heap.size := hr3.box.lt
    clear hr3 ht3 hy k2 hb4 hG3 k3 l3
    go_wp2_with fail
    generalize w3.alloc (.cells #[.int .i64 5, .int .i64 127, .int .i64 128, .int .i64 999, .int .i64 (y : Int)] 3) = w4 at hr4 hG4 k4 l4 nl ⊢
    refine (one_any rb A n c (p + 1 + 1) w3.heap.size 5 5 [5, 127, 128, 999, (y : Int)] w4 hr4 (by omega) rfl (by omega) (by omega) (by omega) (fun j z hj => by
      rw [nl.cell]
      have hj5 : j < 5 := (List.getElem?_eq_some_iff.1 hj).1
      rcases (by omega : j = 0 ∨ j = 1 ∨ j = 2 ∨ j = 3 ∨ j = 4) with rfl | rfl | rfl | rfl | rfl <;> simp at hj ⊢ <;> exact hj)).mono ?_
    rintro e w5 ⟨⟨z, hz, rfl⟩, hr5, ht5⟩
    have hzb : 0 ≤ z ∧ z ≤ 999 := by simp at hz; omega
    have HGW := hide (hG4.trans (Grew.of_turn ht5))
    have HRW := hide hr5
    have KW := hide (k4.grew (Grew.of_turn ht5) (by omega))
    have LW := hide (l4.grew (Grew.of_turn ht5) (by omega))
    have hO := hide (od_arg (a := z) hx20n (by simp [argMost]) hzb.1 (by simp [argMost]; omega))
    clear hr5 ht5 hz hr4 hG4 k4 l4 nl
    have k4 := KW.out.set 1 (.int .i64 z)
    have l4 := LW.out.far (p := ⟨b1, 1, none⟩) (by show w.heap.size ≠ b1; omega) (.int .i64 z)
    have HG4 := hide (grew_set1 (b := b1) (o := 1) HGW.out (by omega) (.int .i64 z))
    have HR4 := hide (HRW.out.far1 (b := b1) (o := 1) (by omega) (.int .i64 z))
    have c1 := KW.out.cell 1
    have c0 := KW.out.cell 0
    have cf := KW.out.frozen 1
    simp only [jD, jE, jF] at c0 c1
    go_upto_region 10 with fail
    clear c0 c1 cf
    generalize w5.setCell ⟨b1, 1, none⟩ (.int .i64 z) = w6 at k4 l4 HG4 HR4 ⊢
    have z0 := k4.cell 0
    have z1 := k4.cell 1
    simp at z0 z1
    have q0 := l4.cell 0
    have q1 := l4.cell 1
    have g0 := l4.frozen 0
    have g1 := l4.frozen 1
    simp at q0 q1
    have hl3 := lies_set2 (v0 := .int .i64 ((0 : Nat) : Int)) (v1 := .int .i64 z) l4
    have s0 := hl3.cell 0
    have s1 := hl3.cell 1
    simp at s0 s1
    have HF := hide (Fin.out z w6 (p + 1 + 1 + 1) hO.out (by omega) HR4.out HG4.out)
    clear hl3 k4 l4
    go_wp2
    refine bodyPost_ret (v := .agg #[.int .i64 ((0 : Nat) : Int), .int .i64 z]) (by simp [results, Tryd.results23, go_sem, s0, s1]) rfl ?_
    exact HF.out
end Go.Proofs.YtbihgafkmmcjlaaDoor
