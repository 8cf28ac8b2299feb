/-
  The program's check by kinds: hasNeeded, where it looks at the stack.
-/
import Derived.Test.YtgjokdfjngpmcaaDoorPjAl
import Derived.Test.YtgjokdfjngpmcaaDoorPjAm
namespace Go.Proofs.YtgjokdfjngpmcaaDoor
open Go.RowKit
set_option linter.unusedVariables false

/-- what a call that only tells hands back -/
def HasGot (w : World) (b : Bool) (e : Ending) (w' : World) : Prop := e = .returned (.bool b) ∧ Below w.heap.size w w'

set_option maxRecDepth 100000 in
set_option maxHeartbeats 4000000 in
theorem hasNeeded_got (q base off : Nat) (p : ShPtr) (s : Shp) (c : Nat) (ar : Int) (m0 m1 m2 : Nat) (b : Bool) (w : World) (h : SbAt w base q off p s) (hs : s.Small) (hF : FormsAt w w.heap.size) (hN : NeedsAt w w.heap.size) (hc : c < 20) (ha : c = 16 → 0 ≤ ar ∧ ar < 20 ∧ 0 ≤ s.memo.getD ar.toNat 0)
    (hm0 : s.view0 (c : Int) &&& need0 (c : Int) = m0) (hm1 : s.view1 (c : Int) &&& need1 (c : Int) = m1) (hm2 : s.view2 (c : Int) &&& need2 (c : Int) = m2)
    (hb : (((m0 : Int) == (need0 (c : Int) : Int)) && (((m1 : Int) == (need1 (c : Int) : Int)) && ((m2 : Int) == (need2 (c : Int) : Int)))) = b) :
    Calls Tryd.prog 37 #[.pointer (some ⟨q, off, none⟩), .agg #[.int .i64 (c : Int), .int .i64 ar]] w (HasGot w b) := by
  have hB0 := (Below.refl w.heap.size w).alloc (Nat.le_refl _) (.cells #[.int .i64 (c : Int), .int .i64 ar] 38)
  have hB := hide hB0
  have hlo := hide (Lies.new w #[.int .i64 (c : Int), .int .i64 ar] 38)
  have H2 := hide (h.alloc (.cells #[.int .i64 (c : Int), .int .i64 ar] 38))
  have HF := hide (hF.later hB0 (Nat.le_refl _))
  have HN := hide (hN.later hB0 (Nat.le_refl _))
  have Hs := hide hs
  have HB := hide hb
  have hwW : w.heap.size < (w.alloc (.cells #[.int .i64 (c : Int), .int .i64 ar] 38)).heap.size := by simp
  have hi0 : (0 : Int) ≤ (c : Int) := by omega
  have hi1 : (c : Int) < 20 := by omega
  have HV : ∀ W, SbAt W base q off p s → Calls Tryd.prog 41 #[.pointer (some ⟨q, off, none⟩), .int .i64 (takesOf c)] W (GivesV W (s.view0 (c : Int)) (s.view1 (c : Int)) (s.view2 (c : Int))) := fun W hW => viewOf_code q base off p s c W hW hs hc
  have HW : ∀ W, Calls Tryd.prog 42 #[.agg #[.int .i64 (s.view0 (c : Int) : Int), .int .i64 (s.view1 (c : Int) : Int), .int .i64 (s.view2 (c : Int) : Int)], .agg #[.int .i64 (need0 (c : Int) : Int), .int .i64 (need1 (c : Int) : Int), .int .i64 (need2 (c : Int) : Int)]] W (GivesV W m0 m1 m2) := fun W => by
    rw [← hm0, ← hm1, ← hm2]
    exact within_any _ _ _ _ _ _ W (view_small _ _).1 (view_small _ _).2.1 (view_small _ _).2.2 (need_small _).1 (need_small _).2.1 (need_small _).2.2
  generalize s.view0 (c : Int) = v0 at HV HW hm0
  generalize s.view1 (c : Int) = v1 at HV HW hm1
  generalize s.view2 (c : Int) = v2 at HV HW hm2
  have hVH := hide HV
  have hWH := hide HW
  clear HV HW hm0 hm1 hm2 hb
  have hoff := h.lt
  by_cases h16 : c = 16
  · obtain ⟨ha0, ha1, ham⟩ := ha h16
    obtain ⟨j, rfl⟩ := Int.eq_ofNat_of_zero_le ha0
    have t16 : ((c : Int) == 16) = true := by simp; omega
    rw [Int.toNat_natCast] at ham
    have hml := hs.ok.ml
    obtain ⟨x, hx⟩ : ∃ x, s.memo[j]? = some x := ⟨_, List.getElem?_eq_getElem (by omega)⟩
    have hgd : s.memo.getD j 0 = x := by rw [List.getD_eq_getElem?_getD, hx]; rfl
    rw [hgd] at ham
    have hxn : (x == -1) = false := by simp; omega
    obtain ⟨gm, hM, hg1, hg2, hcm, hfm⟩ := H2.out.own.m.atJ hx
    obtain ⟨e0, e1, e2, e3, e4, f0, f1, f2, f3, f4⟩ := H2.out.c
    rw [hM] at e3
    have d0 := hlo.out.cell 0
    have d1 := hlo.out.cell 1
    simp only [List.getElem?_toArray, List.getElem?_cons_zero, List.getElem?_cons_succ] at d0 d1
    have hj1 : (j : Int) < (s.memo.length : Int) := by omega
    clear h hs hx hgd hml hM hF hN hB0 ha ham h16
    go_enter Tryd.func37, Tryd.ntmps37
    go_upto_region 1 with fail
    generalize w.alloc (.cells #[.int .i64 (c : Int), .int .i64 (j : Int)] 38) = W at hB hlo H2 HF HN hwW e0 e1 e2 e3 e4 f0 f1 f2 f3 f4 d0 d1 hcm hfm hg2 ⊢
    go_quiet (fail)
    have hDr := below_drewN (Below.refl W.heap.size W) nq
    have HB2 := hide (below_drewN hB.out nq)
    have hlo2 := hlo.out.below hDr hwW
    have HS2 := hide (H2.out.below hDr)
    have HF2 := hide (HF.out.later hDr (Nat.le_refl _))
    have HN2 := hide (HN.out.later hDr (Nat.le_refl _))
    clear hDr e0 e1 e2 e3 e4 f0 f1 f2 f3 f4 d0 d1 hcm hfm hg2 H2 HF HN hB hlo
    have hwV : w.heap.size < (W.drewN nq).heap.size := by simpa using hwW
    generalize W.drewN nq = V at HB2 hlo2 HS2 HF2 HN2 hwV ⊢
    have d0 := hlo2.cell 0
    have d1 := hlo2.cell 1
    simp only [List.getElem?_toArray, List.getElem?_cons_zero, List.getElem?_cons_succ] at d0 d1
    have hn0 := HN2.out.n0 c hc
    have hn1 := HN2.out.n1 c hc
    have hn2 := HN2.out.n2 c hc
    clear hlo2 hwW
    go_upto_region 4 with fail
    have l3 := Lies.new V #[.int .i64 (need0 (c : Int) : Int), .int .i64 (need1 (c : Int) : Int), .int .i64 (need2 (c : Int) : Int)] 68
    have hA := (Below.refl V.heap.size V).alloc (Nat.le_refl _) (.cells #[.int .i64 (need0 (c : Int) : Int), .int .i64 (need1 (c : Int) : Int), .int .i64 (need2 (c : Int) : Int)] 68)
    have d0a := (hA.cell (p := ⟨w.heap.size, 0, none⟩) hwV).trans d0
    have HS3 := hide (HS2.out.below hA)
    have hft := (HF2.out.later hA (Nat.le_refl _)).takes c hc
    have hfl := (HF2.out.later hA (Nat.le_refl _)).lt
    have HB3 := hide (HB2.out.trans (hA.mono (by omega)))
    have hVX : w.heap.size < (V.alloc (.cells #[.int .i64 (need0 (c : Int) : Int), .int .i64 (need1 (c : Int) : Int), .int .i64 (need2 (c : Int) : Int)] 68)).heap.size := by simp; omega
    clear hA d0 d1 hn0 hn1 hn2 HB2 HS2 HF2 HN2
    generalize V.alloc (.cells #[.int .i64 (need0 (c : Int) : Int), .int .i64 (need1 (c : Int) : Int), .int .i64 (need2 (c : Int) : Int)] 68) = X at l3 d0a HS3 hft hfl HB3 hVX ⊢
    have hnX := l3.lt
    have r0 := l3.cell 0
    have r1 := l3.cell 1
    have r2 := l3.cell 2
    simp only [List.getElem?_toArray, List.getElem?_cons_zero, List.getElem?_cons_succ] at r0 r1 r2
    clear l3
    generalize V.heap.size = nb at r0 r1 r2 hnX ⊢
    generalize takesOf c = tk at hft hVH
    generalize need0 (c : Int) = n0 at r0 hWH HB ⊢
    generalize need1 (c : Int) = n1 at r1 hWH HB ⊢
    generalize need2 (c : Int) = n2 at r2 hWH HB ⊢
    have hE : ∀ w' : World, (Op.equalIn 10000 68 (.agg #[.int .i64 (m0 : Int), .int .i64 (m1 : Int), .int .i64 (m2 : Int)]) (.agg #[.int .i64 (n0 : Int), .int .i64 (n1 : Int), .int .i64 (n2 : Int)])).run Tryd.prog w' = .ok b w' := fun w' => by rw [eqView, HB.out]
    go_region_held3 (fun w' => w'.cell? ⟨w.heap.size, 0, none⟩ = some (.int .i64 (c : Int)) ∧ w'.cell? ⟨0, c * 3, none⟩ = some (.int .i64 tk) ∧ w'.cell? ⟨nb, 0, none⟩ = some (.int .i64 (n0 : Int)) ∧ w'.cell? ⟨nb, 1, none⟩ = some (.int .i64 (n1 : Int)) ∧ w'.cell? ⟨nb, 2, none⟩ = some (.int .i64 (n2 : Int)))
      (first
        | (go_split_ands; refine ⟨?_, ?_, ?_, ?_, ?_⟩ <;> assumption))
      (first
        | (go_at_call 41; refine (hVH.out _ HS3.out.drew).mono ?_; rintro e w6 ⟨rfl, hb6⟩; have q0 := (hb6.cell (p := ⟨w.heap.size, 0, none⟩) hVX).trans d0a; have q1 := (hb6.cell (p := ⟨0, c * 3, none⟩) hfl).trans hft; have q2 := (hb6.cell (p := ⟨nb, 0, none⟩) hnX).trans r0; have q3 := (hb6.cell (p := ⟨nb, 1, none⟩) hnX).trans r1; have q4 := (hb6.cell (p := ⟨nb, 2, none⟩) hnX).trans r2)
        | (go_at_call 42; refine (hWH.out _).mono ?_; rintro e w7 ⟨rfl, hb7⟩; have y0 := (hb7.cell (p := ⟨w.heap.size, 0, none⟩) (Nat.lt_of_lt_of_le hVX hb6.size)).trans q0; have y1 := (hb7.cell (p := ⟨0, c * 3, none⟩) (Nat.lt_of_lt_of_le hfl hb6.size)).trans q1; have y2 := (hb7.cell (p := ⟨nb, 0, none⟩) (Nat.lt_of_lt_of_le hnX hb6.size)).trans q2; have y3 := (hb7.cell (p := ⟨nb, 1, none⟩) (Nat.lt_of_lt_of_le hnX hb6.size)).trans q3; have y4 := (hb7.cell (p := ⟨nb, 2, none⟩) (Nat.lt_of_lt_of_le hnX hb6.size)).trans q4))
    have HE := hide ((HB3.out.drew.trans (hb6.mono (by simp; omega))).trans (hb7.mono (by have := hb6.size; simp at this; omega)))
    clear hE hb6 hb7 q0 q1 q2 q3 q4 y0 y1 y2 y3 y4 r0 r1 r2 hft d0a
    go_wp2
    go_ret
    exact ⟨rfl, HE.out⟩
  · have t16 : ((c : Int) == 16) = false := by simp; omega
    obtain ⟨e0, e1, e2, e3, e4, f0, f1, f2, f3, f4⟩ := H2.out.c
    have d0 := hlo.out.cell 0
    have d1 := hlo.out.cell 1
    simp only [List.getElem?_toArray, List.getElem?_cons_zero, List.getElem?_cons_succ] at d0 d1
    clear h hs hF hN hB0 ha h16
    go_enter Tryd.func37, Tryd.ntmps37
    go_upto_region 1 with fail
    generalize w.alloc (.cells #[.int .i64 (c : Int), .int .i64 ar] 38) = W at hB hlo H2 HF HN hwW e0 e1 e2 e3 e4 f0 f1 f2 f3 f4 d0 d1 ⊢
    go_quiet (fail)
    have hDr := below_drewN (Below.refl W.heap.size W) nq
    have HB2 := hide (below_drewN hB.out nq)
    have hlo2 := hlo.out.below hDr hwW
    have HS2 := hide (H2.out.below hDr)
    have HF2 := hide (HF.out.later hDr (Nat.le_refl _))
    have HN2 := hide (HN.out.later hDr (Nat.le_refl _))
    clear hDr e0 e1 e2 e3 e4 f0 f1 f2 f3 f4 d0 d1 H2 HF HN hB hlo
    have hwV : w.heap.size < (W.drewN nq).heap.size := by simpa using hwW
    generalize W.drewN nq = V at HB2 hlo2 HS2 HF2 HN2 hwV ⊢
    have d0 := hlo2.cell 0
    have d1 := hlo2.cell 1
    simp only [List.getElem?_toArray, List.getElem?_cons_zero, List.getElem?_cons_succ] at d0 d1
    have hn0 := HN2.out.n0 c hc
    have hn1 := HN2.out.n1 c hc
    have hn2 := HN2.out.n2 c hc
    clear hlo2 hwW
    go_upto_region 4 with fail
    have l3 := Lies.new V #[.int .i64 (need0 (c : Int) : Int), .int .i64 (need1 (c : Int) : Int), .int .i64 (need2 (c : Int) : Int)] 68
    have hA := (Below.refl V.heap.size V).alloc (Nat.le_refl _) (.cells #[.int .i64 (need0 (c : Int) : Int), .int .i64 (need1 (c : Int) : Int), .int .i64 (need2 (c : Int) : Int)] 68)
    have d0a := (hA.cell (p := ⟨w.heap.size, 0, none⟩) hwV).trans d0
    have HS3 := hide (HS2.out.below hA)
    have hft := (HF2.out.later hA (Nat.le_refl _)).takes c hc
    have hfl := (HF2.out.later hA (Nat.le_refl _)).lt
    have HB3 := hide (HB2.out.trans (hA.mono (by omega)))
    have hVX : w.heap.size < (V.alloc (.cells #[.int .i64 (need0 (c : Int) : Int), .int .i64 (need1 (c : Int) : Int), .int .i64 (need2 (c : Int) : Int)] 68)).heap.size := by simp; omega
    clear hA d0 d1 hn0 hn1 hn2 HB2 HS2 HF2 HN2
    generalize V.alloc (.cells #[.int .i64 (need0 (c : Int) : Int), .int .i64 (need1 (c : Int) : Int), .int .i64 (need2 (c : Int) : Int)] 68) = X at l3 d0a HS3 hft hfl HB3 hVX ⊢
    have hnX := l3.lt
    have r0 := l3.cell 0
    have r1 := l3.cell 1
    have r2 := l3.cell 2
    simp only [List.getElem?_toArray, List.getElem?_cons_zero, List.getElem?_cons_succ] at r0 r1 r2
    clear l3
    generalize V.heap.size = nb at r0 r1 r2 hnX ⊢
    generalize takesOf c = tk at hft hVH
    generalize need0 (c : Int) = n0 at r0 hWH HB ⊢
    generalize need1 (c : Int) = n1 at r1 hWH HB ⊢
    generalize need2 (c : Int) = n2 at r2 hWH HB ⊢
    have hE : ∀ w' : World, (Op.equalIn 10000 68 (.agg #[.int .i64 (m0 : Int), .int .i64 (m1 : Int), .int .i64 (m2 : Int)]) (.agg #[.int .i64 (n0 : Int), .int .i64 (n1 : Int), .int .i64 (n2 : Int)])).run Tryd.prog w' = .ok b w' := fun w' => by rw [eqView, HB.out]
    go_region_held3 (fun w' => w'.cell? ⟨w.heap.size, 0, none⟩ = some (.int .i64 (c : Int)) ∧ w'.cell? ⟨0, c * 3, none⟩ = some (.int .i64 tk) ∧ w'.cell? ⟨nb, 0, none⟩ = some (.int .i64 (n0 : Int)) ∧ w'.cell? ⟨nb, 1, none⟩ = some (.int .i64 (n1 : Int)) ∧ w'.cell? ⟨nb, 2, none⟩ = some (.int .i64 (n2 : Int)))
      (first
        | (go_split_ands; refine ⟨?_, ?_, ?_, ?_, ?_⟩ <;> assumption))
      (first
        | (go_at_call 41; refine (hVH.out _ HS3.out.drew).mono ?_; rintro e w6 ⟨rfl, hb6⟩; have q0 := (hb6.cell (p := ⟨w.heap.size, 0, none⟩) hVX).trans d0a; have q1 := (hb6.cell (p := ⟨0, c * 3, none⟩) hfl).trans hft; have q2 := (hb6.cell (p := ⟨nb, 0, none⟩) hnX).trans r0; have q3 := (hb6.cell (p := ⟨nb, 1, none⟩) hnX).trans r1; have q4 := (hb6.cell (p := ⟨nb, 2, none⟩) hnX).trans r2)
        | (go_at_call 42; refine (hWH.out _).mono ?_; rintro e w7 ⟨rfl, hb7⟩; have y0 := (hb7.cell (p := ⟨w.heap.size, 0, none⟩) (Nat.lt_of_lt_of_le hVX hb6.size)).trans q0; have y1 := (hb7.cell (p := ⟨0, c * 3, none⟩) (Nat.lt_of_lt_of_le hfl hb6.size)).trans q1; have y2 := (hb7.cell (p := ⟨nb, 0, none⟩) (Nat.lt_of_lt_of_le hnX hb6.size)).trans q2; have y3 := (hb7.cell (p := ⟨nb, 1, none⟩) (Nat.lt_of_lt_of_le hnX hb6.size)).trans q3; have y4 := (hb7.cell (p := ⟨nb, 2, none⟩) (Nat.lt_of_lt_of_le hnX hb6.size)).trans q4))
    have HE := hide ((HB3.out.drew.trans (hb6.mono (by simp; omega))).trans (hb7.mono (by have := hb6.size; simp at this; omega)))
    clear hE hb6 hb7 q0 q1 q2 q3 q4 y0 y1 y2 y3 y4 r0 r1 r2 hft d0a
    go_wp2
    go_ret
    exact ⟨rfl, HE.out⟩

end Go.Proofs.YtgjokdfjngpmcaaDoor
