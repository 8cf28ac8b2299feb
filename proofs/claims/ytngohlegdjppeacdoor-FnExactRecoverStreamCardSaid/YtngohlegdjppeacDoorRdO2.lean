/-
  The model's readOp for codes that have an argument, and for all bytes: what it returns.
-/
import Derived.Test.YtngohlegdjppeacDoorRdO
import Derived.IntWalk
namespace Go.Proofs.YtngohlegdjppeacDoor
open Go.RowKit
set_option linter.unusedVariables false

set_option maxRecDepth 100000 in
set_option maxHeartbeats 2000000 in
theorem readOp_one (b0 off : Nat) (y : Int) (c : Nat) (w : World) (h : IntsAt w w.heap.size (some ⟨b0, off, none⟩) ([y])) (hb : ∀ x ∈ ([y]), 0 ≤ x ∧ x ≤ 255) (hl : ([y]).length ≤ 1000) (hneg : ¬ argMost y < 0) :
    Calls Tryd.prog 19 #[.slice (some ⟨b0, off, none⟩) ([y]).length c] w (GivesOpM w (fstO ([y]))) := by
  have hy := hb y (by simp)
  rw [fstO_one hy.1 hneg]
  obtain ⟨b1, off1, v0, e0, hbl0, hv0, _, hc0⟩ := h.at_ (k := 0) (by simp)
  injection e0 with e0
  injection e0 with ea0 eb0
  subst ea0 eb0
  obtain rfl : y = v0 := by simpa using hv0
  rw [Nat.add_zero] at hc0
  have l0 := Lies.new w #[.int .i64 0, .int .i64 0] 36
  have HB := hide ((Below.refl w.heap.size w).alloc (Nat.le_refl _) (.cells #[.int .i64 0, .int .i64 0] 36))
  have d0 := (HB.out.cell (p := ⟨b0, off, none⟩) hbl0).trans hc0
  have HN := hide hneg
  clear h hb hneg hv0 hc0
  rw [show ([y] : List Int).length = 1 from rfl]
  go_enter Tryd.func19, Tryd.ntmps19
  go_upto_region 1 with fail
  have hlW : w.heap.size < (w.alloc (.cells #[.int .i64 0, .int .i64 0] 36)).heap.size := l0.lt
  generalize w.alloc (.cells #[.int .i64 0, .int .i64 0] 36) = W at HB l0 hlW d0 ⊢
  go_upto_region 5 with fail
  obtain ⟨hB4, l04, l4, hgg⟩ := box_made HB.out l0 y
  have hWW := (Below.refl W.heap.size W).alloc (Nat.le_refl _) (.cells #[.int .i64 y, .int .i64 0] 36)
  have m0 := (hWW.cell (p := ⟨b0, off, none⟩) (Nat.lt_trans hbl0 hlW)).trans d0
  clear hWW d0
  generalize W.alloc (.cells #[.int .i64 y, .int .i64 0] 36) = W3 at hB4 l04 l4 m0 ⊢
  generalize W.heap.size = g4 at l4 hgg hlW ⊢
  have HB3 := hide hB4
  have z0 := l4.cell 0
  have z1 := l4.cell 1
  have zf := l4.frozen 1
  simp at z0 z1
  clear hB4 l0
  go_wp2_with fail
  refine (argOf_any y W3).mono ?_
  rintro e w' ⟨rfl, rfl⟩
  have dneg : decide (0 ≤ argMost y) = true := by have := HN.out; simp; omega
  have hm := argMost_range y
  generalize argMost y = M at dneg hm ⊢
  have f0 := l04.frozen 0
  have f1 := l04.frozen 1
  have x0 := l04.cell 0
  have x1 := l04.cell 1
  simp at x0 x1
  obtain ⟨s0, s1⟩ := lies2m l04 (.int .i64 0) (.int .i64 0)
  have HE := hide ((HB3.out.setCell (p := ⟨w.heap.size, 0, none⟩) (Nat.le_refl _) (.int .i64 0)).setCell (p := ⟨w.heap.size, 1, none⟩) (Nat.le_refl _) (.int .i64 0))
  go_wp2
  exact bodyPost_ret (v := .tuple #[.agg #[.int .i64 0, .int .i64 0], .int .i64 0]) (by simp [results, Tryd.results19, go_sem, s0, s1]) rfl ⟨rfl, HE.out⟩

set_option maxRecDepth 100000 in
set_option maxHeartbeats 2000000 in
theorem readOp_short (b0 off : Nat) (y a : Int) (t : List Int) (c : Nat) (w : World) (h : IntsAt w w.heap.size (some ⟨b0, off, none⟩) (y :: a :: t)) (hb : ∀ x ∈ (y :: a :: t), 0 ≤ x ∧ x ≤ 255) (hl : (y :: a :: t).length ≤ 1000) (hneg : ¬ argMost y < 0) (ha : a < 128) :
    Calls Tryd.prog 19 #[.slice (some ⟨b0, off, none⟩) (y :: a :: t).length c] w (GivesOpM w (fstO (y :: a :: t))) := by
  have hy := hb y (by simp)
  have hya := hb a (by simp)
  rw [fstO_short hy.1 hneg hya.1 ha]
  have da : decide (128 ≤ a) = false := by simp; omega
  obtain ⟨b1, off1, v0, e0, hbl0, hv0, _, hc0⟩ := h.at_ (k := 0) (by simp)
  injection e0 with e0
  injection e0 with ea0 eb0
  subst ea0 eb0
  obtain rfl : y = v0 := by simpa using hv0
  obtain ⟨b2, off2, v1, e1, hbl1, hv1, _, hc1⟩ := h.at_ (k := 1) (by simp)
  injection e1 with e1
  injection e1 with ea1 eb1
  subst ea1 eb1
  obtain rfl : a = v1 := by simpa using hv1
  rw [Nat.add_zero] at hc0
  have l0 := Lies.new w #[.int .i64 0, .int .i64 0] 36
  have HB := hide ((Below.refl w.heap.size w).alloc (Nat.le_refl _) (.cells #[.int .i64 0, .int .i64 0] 36))
  have d0 := (HB.out.cell (p := ⟨b0, off, none⟩) hbl0).trans hc0
  have d1 := (HB.out.cell (p := ⟨b0, off + 1, none⟩) hbl0).trans hc1
  have HN := hide hneg
  clear h hb hneg hv0 hc0 hv1 hc1
  have hlt : t.length + 2 ≤ 1000 := by simpa using hl
  have hlen : ((y :: a :: t) : List Int).length = t.length + 2 := by simp
  rw [hlen]
  clear hl hlen
  have hz1 : (((t.length + 2 : Nat) : Int) == 0) = false := by simp only [beq_eq_false_iff_ne, ne_eq]; omega
  have hz2 : (0 : Int) < ((t.length + 2 : Nat) : Int) := by omega
  have hz3 : (1 : Int) < ((t.length + 2 : Nat) : Int) := by omega
  have hz4 : ¬ ((t.length + 2 : Nat) : Int) < 2 := by omega
  go_enter Tryd.func19, Tryd.ntmps19
  go_upto_region 1 with fail
  have hlW : w.heap.size < (w.alloc (.cells #[.int .i64 0, .int .i64 0] 36)).heap.size := l0.lt
  generalize w.alloc (.cells #[.int .i64 0, .int .i64 0] 36) = W at HB l0 hlW d0 d1 ⊢
  go_upto_region 5 with fail
  obtain ⟨hB4, l04, l4, hgg⟩ := box_made HB.out l0 y
  have hWW := (Below.refl W.heap.size W).alloc (Nat.le_refl _) (.cells #[.int .i64 y, .int .i64 0] 36)
  have m0 := (hWW.cell (p := ⟨b0, off, none⟩) (Nat.lt_trans hbl0 hlW)).trans d0
  have m1 := (hWW.cell (p := ⟨b0, off + 1, none⟩) (Nat.lt_trans hbl0 hlW)).trans d1
  clear hWW d0 d1
  generalize W.alloc (.cells #[.int .i64 y, .int .i64 0] 36) = W3 at hB4 l04 l4 m0 m1 ⊢
  generalize W.heap.size = g4 at l4 hgg hlW ⊢
  have HB3 := hide hB4
  have z0 := l4.cell 0
  have z1 := l4.cell 1
  have zf := l4.frozen 1
  simp at z0 z1
  clear hB4 l0
  go_wp2_with fail
  refine (argOf_any y W3).mono ?_
  rintro e w' ⟨rfl, rfl⟩
  have dneg : decide (0 ≤ argMost y) = true := by have := HN.out; simp; omega
  have hm := argMost_range y
  generalize argMost y = M at dneg hm ⊢
  go_upto_region 10 with fail
  obtain ⟨hB4, l04', l4'⟩ := box_set HB3.out l04 l4 hgg a
  have hm1 : (W3.setCell ⟨g4, 1, none⟩ (.int .i64 a)).cell? ⟨b0, off + 1, none⟩ = some (.int .i64 a) := by
    rw [World.cell?_setCell_other]
    · exact m1
    · intro e; injection e with e; omega
  clear m0 m1 l04 l4 z0 z1 zf
  generalize W3.setCell ⟨g4, 1, none⟩ (.int .i64 a) = W4 at hB4 l04' l4' hm1 ⊢
  have HB4 := hide hB4
  have l04 := l04'
  have l4 := l4'
  clear l04' l4' hB4
  have z0 := l4.cell 0
  have z1 := l4.cell 1
  simp at z0 z1
  go_wp2_with fail
  by_cases hv : OdOk ⟨y, a⟩
  · have ht := hide (tf_true hv)
    have HV := hide hv
    obtain ⟨ln, hln⟩ : ∃ ln, ln = (encO ⟨y, a⟩).length := ⟨_, rfl⟩
    have Hln := hide hln
    have hl3 := (encO_len ⟨y, a⟩).2
    rw [← hln] at hl3
    clear hv hln
    refine (validOp_any ⟨y, a⟩ W4).mono ?_
    rintro e w5 ⟨rfl, hb5⟩
    rw [ht.out]
    have l05 := l04.below hb5 l04.lt
    have l45 := l4.below hb5 l4.lt
    have HB5 := hide (HB4.out.trans (hb5.mono HB4.out.size))
    clear hb5 l04 l4 z0 z1
    have z0 := l45.cell 0
    have z1 := l45.cell 1
    simp only [List.getElem?_toArray, List.getElem?_cons_zero, List.getElem?_cons_succ] at z0 z1
    go_wp2_with fail
    refine (bytesOf_any ⟨y, a⟩ w5 HV.out).mono ?_
    rintro e w6 ⟨A6, c6, rfl, _, _, hb6⟩
    rw [← Hln.out]
    have l06 := l05.below hb6 l05.lt
    have l46 := l45.below hb6 l45.lt
    have HB6 := hide (HB5.out.trans (hb6.mono HB5.out.size))
    clear hb6 l05 l45 z0 z1
    have z0 := l46.cell 0
    have z1 := l46.cell 1
    simp only [List.getElem?_toArray, List.getElem?_cons_zero, List.getElem?_cons_succ] at z0 z1
    by_cases hn : ln = 2
    · have HF := hide (lastO_yes (o := ⟨y, a⟩) (n := 2) HV.out (Hln.out.symm.trans hn))
      subst hn
      have f0 := l06.frozen 0
      have f1 := l06.frozen 1
      have x0 := l06.cell 0
      have x1 := l06.cell 1
      simp at x0 x1
      obtain ⟨s0, s1⟩ := lies2m l06 (.int .i64 y) (.int .i64 (a))
      have HE := hide ((HB6.out.setCell (p := ⟨w.heap.size, 0, none⟩) (Nat.le_refl _) (.int .i64 y)).setCell (p := ⟨w.heap.size, 1, none⟩) (Nat.le_refl _) (.int .i64 (a)))
      clear l06 l46
      go_wp2
      exact bodyPost_ret (v := .tuple #[.agg #[.int .i64 y, .int .i64 (a)], .int .i64 2]) (by simp [results, Tryd.results19, go_sem, s0, s1]) rfl ⟨by rw [HF.out]; try rfl, HE.out⟩
    · have HF := hide (lastO_no (o := ⟨y, a⟩) (n := 2) (fun h => hn (Hln.out.trans h.2)))
      have dn : ((ln : Int) != 2) = true := by simp; omega
      clear hn
      have f0 := l06.frozen 0
      have f1 := l06.frozen 1
      have x0 := l06.cell 0
      have x1 := l06.cell 1
      simp at x0 x1
      obtain ⟨s0, s1⟩ := lies2m l06 (.int .i64 0) (.int .i64 0)
      have HE := hide ((HB6.out.setCell (p := ⟨w.heap.size, 0, none⟩) (Nat.le_refl _) (.int .i64 0)).setCell (p := ⟨w.heap.size, 1, none⟩) (Nat.le_refl _) (.int .i64 0))
      go_wp2
      exact bodyPost_ret (v := .tuple #[.agg #[.int .i64 0, .int .i64 0], .int .i64 0]) (by simp [results, Tryd.results19, go_sem, s0, s1]) rfl ⟨by rw [HF.out]; try rfl, HE.out⟩
  · have ht := hide (tf_false hv)
    have HF := hide (lastO_no (o := ⟨y, a⟩) (n := 2) (fun h => hv h.1))
    clear hv
    refine (validOp_any ⟨y, a⟩ W4).mono ?_
    rintro e w5 ⟨rfl, hb5⟩
    rw [ht.out]
    have l05 := l04.below hb5 l04.lt
    have HB5 := hide (HB4.out.trans (hb5.mono HB4.out.size))
    clear hb5 l04 l4 z0 z1
    have f0 := l05.frozen 0
    have f1 := l05.frozen 1
    have x0 := l05.cell 0
    have x1 := l05.cell 1
    simp at x0 x1
    obtain ⟨s0, s1⟩ := lies2m l05 (.int .i64 0) (.int .i64 0)
    have HE := hide ((HB5.out.setCell (p := ⟨w.heap.size, 0, none⟩) (Nat.le_refl _) (.int .i64 0)).setCell (p := ⟨w.heap.size, 1, none⟩) (Nat.le_refl _) (.int .i64 0))
    go_wp2
    exact bodyPost_ret (v := .tuple #[.agg #[.int .i64 0, .int .i64 0], .int .i64 0]) (by simp [results, Tryd.results19, go_sem, s0, s1]) rfl ⟨by rw [HF.out]; try rfl, HE.out⟩

set_option maxRecDepth 100000 in
set_option maxHeartbeats 2000000 in
theorem readOp_cut (b0 off : Nat) (y a : Int) (c : Nat) (w : World) (h : IntsAt w w.heap.size (some ⟨b0, off, none⟩) ([y, a])) (hb : ∀ x ∈ ([y, a]), 0 ≤ x ∧ x ≤ 255) (hl : ([y, a]).length ≤ 1000) (hneg : ¬ argMost y < 0) (ha : ¬ a < 128) :
    Calls Tryd.prog 19 #[.slice (some ⟨b0, off, none⟩) ([y, a]).length c] w (GivesOpM w (fstO ([y, a]))) := by
  have hy := hb y (by simp)
  have hya := hb a (by simp)
  rw [fstO_cut hy.1 hneg ha]
  have da : decide (128 ≤ a) = true := by simp; omega
  obtain ⟨b1, off1, v0, e0, hbl0, hv0, _, hc0⟩ := h.at_ (k := 0) (by simp)
  injection e0 with e0
  injection e0 with ea0 eb0
  subst ea0 eb0
  obtain rfl : y = v0 := by simpa using hv0
  obtain ⟨b2, off2, v1, e1, hbl1, hv1, _, hc1⟩ := h.at_ (k := 1) (by simp)
  injection e1 with e1
  injection e1 with ea1 eb1
  subst ea1 eb1
  obtain rfl : a = v1 := by simpa using hv1
  rw [Nat.add_zero] at hc0
  have l0 := Lies.new w #[.int .i64 0, .int .i64 0] 36
  have HB := hide ((Below.refl w.heap.size w).alloc (Nat.le_refl _) (.cells #[.int .i64 0, .int .i64 0] 36))
  have d0 := (HB.out.cell (p := ⟨b0, off, none⟩) hbl0).trans hc0
  have d1 := (HB.out.cell (p := ⟨b0, off + 1, none⟩) hbl0).trans hc1
  have HN := hide hneg
  clear h hb hneg hv0 hc0 hv1 hc1
  rw [show ([y, a] : List Int).length = 2 from rfl]
  go_enter Tryd.func19, Tryd.ntmps19
  go_upto_region 1 with fail
  have hlW : w.heap.size < (w.alloc (.cells #[.int .i64 0, .int .i64 0] 36)).heap.size := l0.lt
  generalize w.alloc (.cells #[.int .i64 0, .int .i64 0] 36) = W at HB l0 hlW d0 d1 ⊢
  go_upto_region 5 with fail
  obtain ⟨hB4, l04, l4, hgg⟩ := box_made HB.out l0 y
  have hWW := (Below.refl W.heap.size W).alloc (Nat.le_refl _) (.cells #[.int .i64 y, .int .i64 0] 36)
  have m0 := (hWW.cell (p := ⟨b0, off, none⟩) (Nat.lt_trans hbl0 hlW)).trans d0
  have m1 := (hWW.cell (p := ⟨b0, off + 1, none⟩) (Nat.lt_trans hbl0 hlW)).trans d1
  clear hWW d0 d1
  generalize W.alloc (.cells #[.int .i64 y, .int .i64 0] 36) = W3 at hB4 l04 l4 m0 m1 ⊢
  generalize W.heap.size = g4 at l4 hgg hlW ⊢
  have HB3 := hide hB4
  have z0 := l4.cell 0
  have z1 := l4.cell 1
  have zf := l4.frozen 1
  simp at z0 z1
  clear hB4 l0
  go_wp2_with fail
  refine (argOf_any y W3).mono ?_
  rintro e w' ⟨rfl, rfl⟩
  have dneg : decide (0 ≤ argMost y) = true := by have := HN.out; simp; omega
  have hm := argMost_range y
  generalize argMost y = M at dneg hm ⊢
  go_upto_region 10 with fail
  obtain ⟨hB4, l04', l4'⟩ := box_set HB3.out l04 l4 hgg a
  have hm1 : (W3.setCell ⟨g4, 1, none⟩ (.int .i64 a)).cell? ⟨b0, off + 1, none⟩ = some (.int .i64 a) := by
    rw [World.cell?_setCell_other]
    · exact m1
    · intro e; injection e with e; omega
  clear m0 m1 l04 l4 z0 z1 zf
  generalize W3.setCell ⟨g4, 1, none⟩ (.int .i64 a) = W4 at hB4 l04' l4' hm1 ⊢
  have f0 := l04'.frozen 0
  have f1 := l04'.frozen 1
  have x0 := l04'.cell 0
  have x1 := l04'.cell 1
  simp at x0 x1
  obtain ⟨s0, s1⟩ := lies2m l04' (.int .i64 0) (.int .i64 0)
  have HE := hide ((hB4.setCell (p := ⟨w.heap.size, 0, none⟩) (Nat.le_refl _) (.int .i64 0)).setCell (p := ⟨w.heap.size, 1, none⟩) (Nat.le_refl _) (.int .i64 0))
  go_wp2
  exact bodyPost_ret (v := .tuple #[.agg #[.int .i64 0, .int .i64 0], .int .i64 0]) (by simp [results, Tryd.results19, go_sem, s0, s1]) rfl ⟨rfl, HE.out⟩

set_option maxRecDepth 100000 in
set_option maxHeartbeats 2000000 in
theorem readOp_long (b0 off : Nat) (y a b : Int) (t : List Int) (c : Nat) (w : World) (h : IntsAt w w.heap.size (some ⟨b0, off, none⟩) (y :: a :: b :: t)) (hb : ∀ x ∈ (y :: a :: b :: t), 0 ≤ x ∧ x ≤ 255) (hl : (y :: a :: b :: t).length ≤ 1000) (hneg : ¬ argMost y < 0) (ha : ¬ a < 128) :
    Calls Tryd.prog 19 #[.slice (some ⟨b0, off, none⟩) (y :: a :: b :: t).length c] w (GivesOpM w (fstO (y :: a :: b :: t))) := by
  have hy := hb y (by simp)
  have hya := hb a (by simp)
  have hyb := hb b (by simp)
  rw [fstO_long hy.1 hneg ha hya.2 hyb.1]
  have da : decide (128 ≤ a) = true := by simp; omega
  obtain ⟨b1, off1, v0, e0, hbl0, hv0, _, hc0⟩ := h.at_ (k := 0) (by simp)
  injection e0 with e0
  injection e0 with ea0 eb0
  subst ea0 eb0
  obtain rfl : y = v0 := by simpa using hv0
  obtain ⟨b2, off2, v1, e1, hbl1, hv1, _, hc1⟩ := h.at_ (k := 1) (by simp)
  injection e1 with e1
  injection e1 with ea1 eb1
  subst ea1 eb1
  obtain rfl : a = v1 := by simpa using hv1
  obtain ⟨b3, off3, v2, e2, hbl2, hv2, _, hc2⟩ := h.at_ (k := 2) (by simp)
  injection e2 with e2
  injection e2 with ea2 eb2
  subst ea2 eb2
  obtain rfl : b = v2 := by simpa using hv2
  rw [Nat.add_zero] at hc0
  have l0 := Lies.new w #[.int .i64 0, .int .i64 0] 36
  have HB := hide ((Below.refl w.heap.size w).alloc (Nat.le_refl _) (.cells #[.int .i64 0, .int .i64 0] 36))
  have d0 := (HB.out.cell (p := ⟨b0, off, none⟩) hbl0).trans hc0
  have d1 := (HB.out.cell (p := ⟨b0, off + 1, none⟩) hbl0).trans hc1
  have d2 := (HB.out.cell (p := ⟨b0, off + 2, none⟩) hbl0).trans hc2
  have HN := hide hneg
  clear h hb hneg hv0 hc0 hv1 hc1 hv2 hc2
  have hlt : t.length + 3 ≤ 1000 := by simpa using hl
  have hlen : ((y :: a :: b :: t) : List Int).length = t.length + 3 := by simp
  rw [hlen]
  clear hl hlen
  have hz1 : (((t.length + 3 : Nat) : Int) == 0) = false := by simp only [beq_eq_false_iff_ne, ne_eq]; omega
  have hz2 : (0 : Int) < ((t.length + 3 : Nat) : Int) := by omega
  have hz3 : (1 : Int) < ((t.length + 3 : Nat) : Int) := by omega
  have hz4 : ¬ ((t.length + 3 : Nat) : Int) < 2 := by omega
  have hz5 : (2 : Int) < ((t.length + 3 : Nat) : Int) := by omega
  have hz6 : ¬ ((t.length + 3 : Nat) : Int) < 3 := by omega
  go_enter Tryd.func19, Tryd.ntmps19
  go_upto_region 1 with fail
  have hlW : w.heap.size < (w.alloc (.cells #[.int .i64 0, .int .i64 0] 36)).heap.size := l0.lt
  generalize w.alloc (.cells #[.int .i64 0, .int .i64 0] 36) = W at HB l0 hlW d0 d1 d2 ⊢
  go_upto_region 5 with fail
  obtain ⟨hB4, l04, l4, hgg⟩ := box_made HB.out l0 y
  have hWW := (Below.refl W.heap.size W).alloc (Nat.le_refl _) (.cells #[.int .i64 y, .int .i64 0] 36)
  have m0 := (hWW.cell (p := ⟨b0, off, none⟩) (Nat.lt_trans hbl0 hlW)).trans d0
  have m1 := (hWW.cell (p := ⟨b0, off + 1, none⟩) (Nat.lt_trans hbl0 hlW)).trans d1
  have m2 := (hWW.cell (p := ⟨b0, off + 2, none⟩) (Nat.lt_trans hbl0 hlW)).trans d2
  clear hWW d0 d1 d2
  generalize W.alloc (.cells #[.int .i64 y, .int .i64 0] 36) = W3 at hB4 l04 l4 m0 m1 m2 ⊢
  generalize W.heap.size = g4 at l4 hgg hlW ⊢
  have HB3 := hide hB4
  have z0 := l4.cell 0
  have z1 := l4.cell 1
  have zf := l4.frozen 1
  simp at z0 z1
  clear hB4 l0
  go_wp2_with fail
  refine (argOf_any y W3).mono ?_
  rintro e w' ⟨rfl, rfl⟩
  have dneg : decide (0 ≤ argMost y) = true := by have := HN.out; simp; omega
  have hm := argMost_range y
  generalize argMost y = M at dneg hm ⊢
  go_upto_region 10 with fail
  obtain ⟨hB4, l04', l4'⟩ := box_set HB3.out l04 l4 hgg a
  have hm1 : (W3.setCell ⟨g4, 1, none⟩ (.int .i64 a)).cell? ⟨b0, off + 1, none⟩ = some (.int .i64 a) := by
    rw [World.cell?_setCell_other]
    · exact m1
    · intro e; injection e with e; omega
  have hm2 : (W3.setCell ⟨g4, 1, none⟩ (.int .i64 a)).cell? ⟨b0, off + 2, none⟩ = some (.int .i64 b) := by
    rw [World.cell?_setCell_other]
    · exact m2
    · intro e; injection e with e; omega
  clear m0 m1 m2 l04 l4 z0 z1 zf
  generalize W3.setCell ⟨g4, 1, none⟩ (.int .i64 a) = W5 at hB4 l04' l4' hm1 hm2 ⊢
  have z0 := l4'.cell 0
  have z1 := l4'.cell 1
  have z2 := l4'.frozen 1
  simp at z0 z1
  go_upto_region 13 with fail
  have hw1 : IntKind.i64.wrap (a - 128) = a - 128 := IntWalk.i64_in _ (by omega)
  have hw2 : IntKind.i64.wrap (128 * b) = 128 * b := IntWalk.i64_in _ (by omega)
  have hw3 : IntKind.i64.wrap (a - 128 + 128 * b) = a - 128 + 128 * b := IntWalk.i64_in _ (by omega)
  have hq1 : (1 : Int) < (t.length : Int) + 3 := by omega
  have hq2 : (2 : Int) < (t.length : Int) + 3 := by omega
  have HD6 := hide (show Below w.heap.size w W5.drew from hB4.drew)
  have l0d : Lies W5.drew w.heap.size #[.int .i64 0, .int .i64 0] 36 := l04'
  have l4d : Lies W5.drew g4 #[.int .i64 y, .int .i64 a] 36 := l4'
  clear hB4 l04' l4'
  go_still_tail 10, (by kernel_rfl)
  change wpList _ _ _ _ _ W5.drew
  clear hm1 hm2 z0 z1 z2 hw1 hw2 hw3 hq1 hq2
  generalize W5.drew = W6 at HD6 l0d l4d ⊢
  obtain ⟨hB6, l06', l46'⟩ := box_set HD6.out l0d l4d hgg (a - 128 + 128 * b)
  have hfd := l4d.frozen 1
  have hfc := l4d.cell 1
  simp only [List.getElem?_toArray, List.getElem?_cons_zero, List.getElem?_cons_succ] at hfc
  clear l0d l4d
  go_upto_region 14 with fail
  clear hfd hfc
  generalize W6.setCell ⟨g4, 1, none⟩ (.int .i64 (a - 128 + 128 * b)) = W4 at hB6 l06' l46' ⊢
  have HB4 := hide hB6
  have l04 := l06'
  have l4 := l46'
  clear l06' l46' hB6
  have z0 := l4.cell 0
  have z1 := l4.cell 1
  simp only [List.getElem?_toArray, List.getElem?_cons_zero, List.getElem?_cons_succ] at z0 z1
  go_wp2_with fail
  by_cases hv : OdOk ⟨y, a - 128 + 128 * b⟩
  · have ht := hide (tf_true hv)
    have HV := hide hv
    obtain ⟨ln, hln⟩ : ∃ ln, ln = (encO ⟨y, a - 128 + 128 * b⟩).length := ⟨_, rfl⟩
    have Hln := hide hln
    have hl3 := (encO_len ⟨y, a - 128 + 128 * b⟩).2
    rw [← hln] at hl3
    clear hv hln
    refine (validOp_any ⟨y, a - 128 + 128 * b⟩ W4).mono ?_
    rintro e w5 ⟨rfl, hb5⟩
    rw [ht.out]
    have l05 := l04.below hb5 l04.lt
    have l45 := l4.below hb5 l4.lt
    have HB5 := hide (HB4.out.trans (hb5.mono HB4.out.size))
    clear hb5 l04 l4 z0 z1
    have z0 := l45.cell 0
    have z1 := l45.cell 1
    simp only [List.getElem?_toArray, List.getElem?_cons_zero, List.getElem?_cons_succ] at z0 z1
    go_wp2_with fail
    refine (bytesOf_any ⟨y, a - 128 + 128 * b⟩ w5 HV.out).mono ?_
    rintro e w6 ⟨A6, c6, rfl, _, _, hb6⟩
    rw [← Hln.out]
    have l06 := l05.below hb6 l05.lt
    have l46 := l45.below hb6 l45.lt
    have HB6 := hide (HB5.out.trans (hb6.mono HB5.out.size))
    clear hb6 l05 l45 z0 z1
    have z0 := l46.cell 0
    have z1 := l46.cell 1
    simp only [List.getElem?_toArray, List.getElem?_cons_zero, List.getElem?_cons_succ] at z0 z1
    by_cases hn : ln = 3
    · have HF := hide (lastO_yes (o := ⟨y, a - 128 + 128 * b⟩) (n := 3) HV.out (Hln.out.symm.trans hn))
      subst hn
      have f0 := l06.frozen 0
      have f1 := l06.frozen 1
      have x0 := l06.cell 0
      have x1 := l06.cell 1
      simp at x0 x1
      obtain ⟨s0, s1⟩ := lies2m l06 (.int .i64 y) (.int .i64 (a - 128 + 128 * b))
      have HE := hide ((HB6.out.setCell (p := ⟨w.heap.size, 0, none⟩) (Nat.le_refl _) (.int .i64 y)).setCell (p := ⟨w.heap.size, 1, none⟩) (Nat.le_refl _) (.int .i64 (a - 128 + 128 * b)))
      clear l06 l46
      go_wp2
      exact bodyPost_ret (v := .tuple #[.agg #[.int .i64 y, .int .i64 (a - 128 + 128 * b)], .int .i64 3]) (by simp [results, Tryd.results19, go_sem, s0, s1]) rfl ⟨by rw [HF.out]; try rfl, HE.out⟩
    · have HF := hide (lastO_no (o := ⟨y, a - 128 + 128 * b⟩) (n := 3) (fun h => hn (Hln.out.trans h.2)))
      have dn : ((ln : Int) != 3) = true := by simp; omega
      clear hn
      have f0 := l06.frozen 0
      have f1 := l06.frozen 1
      have x0 := l06.cell 0
      have x1 := l06.cell 1
      simp at x0 x1
      obtain ⟨s0, s1⟩ := lies2m l06 (.int .i64 0) (.int .i64 0)
      have HE := hide ((HB6.out.setCell (p := ⟨w.heap.size, 0, none⟩) (Nat.le_refl _) (.int .i64 0)).setCell (p := ⟨w.heap.size, 1, none⟩) (Nat.le_refl _) (.int .i64 0))
      go_wp2
      exact bodyPost_ret (v := .tuple #[.agg #[.int .i64 0, .int .i64 0], .int .i64 0]) (by simp [results, Tryd.results19, go_sem, s0, s1]) rfl ⟨by rw [HF.out]; try rfl, HE.out⟩
  · have ht := hide (tf_false hv)
    have HF := hide (lastO_no (o := ⟨y, a - 128 + 128 * b⟩) (n := 3) (fun h => hv h.1))
    clear hv
    refine (validOp_any ⟨y, a - 128 + 128 * b⟩ W4).mono ?_
    rintro e w5 ⟨rfl, hb5⟩
    rw [ht.out]
    have l05 := l04.below hb5 l04.lt
    have HB5 := hide (HB4.out.trans (hb5.mono HB4.out.size))
    clear hb5 l04 l4 z0 z1
    have f0 := l05.frozen 0
    have f1 := l05.frozen 1
    have x0 := l05.cell 0
    have x1 := l05.cell 1
    simp at x0 x1
    obtain ⟨s0, s1⟩ := lies2m l05 (.int .i64 0) (.int .i64 0)
    have HE := hide ((HB5.out.setCell (p := ⟨w.heap.size, 0, none⟩) (Nat.le_refl _) (.int .i64 0)).setCell (p := ⟨w.heap.size, 1, none⟩) (Nat.le_refl _) (.int .i64 0))
    go_wp2
    exact bodyPost_ret (v := .tuple #[.agg #[.int .i64 0, .int .i64 0], .int .i64 0]) (by simp [results, Tryd.results19, go_sem, s0, s1]) rfl ⟨by rw [HF.out]; try rfl, HE.out⟩

end Go.Proofs.YtngohlegdjppeacDoor
