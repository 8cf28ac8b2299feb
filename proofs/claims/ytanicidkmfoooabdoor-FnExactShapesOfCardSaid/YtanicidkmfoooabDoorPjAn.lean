/-
  Lemmas, several texts in one: ChkI, ChkJ, ChkK.
-/
import Derived.Test.YtanicidkmfoooabDoorPjAm
namespace Go.Proofs.YtanicidkmfoooabDoor
open Go.RowKit
set_option linter.unusedVariables false

/-- what a call that only tells hands back -/
def HasGot (w : World) (b : Bool) (e : Ending) (w' : World) : Prop := e = .returned (.bool b) ∧ Below w.heap.size w w'

set_option maxRecDepth 100000 in
set_option maxHeartbeats 4000000 in
theorem hasNeeded_got (q base off : Nat) (p : ShPtr) (s : Shp) (c : Nat) (ar : Int) (m0 m1 m2 : Nat) (b : Bool) (w : World) (h : SbAt w base q off p s) (hs : s.Small) (hF : FormsAt w w.heap.size) (hN : NeedsAt w w.heap.size) (hc : c < 20) (ha : c = 16 → 0 ≤ ar ∧ ar < 20 ∧ 0 ≤ s.memo.getD ar.toNat 0)
    (hm0 : s.view0 (c : Int) &&& need0 (c : Int) = m0) (hm1 : s.view1 (c : Int) &&& need1 (c : Int) = m1) (hm2 : s.view2 (c : Int) &&& need2 (c : Int) = m2)
    (hb : (((m0 : Int) == (need0 (c : Int) : Int)) && (((m1 : Int) == (need1 (c : Int) : Int)) && ((m2 : Int) == (need2 (c : Int) : Int)))) = b) :
    Calls Tryd.prog 41 #[.pointer (some ⟨q, off, none⟩), .agg #[.int .i64 (c : Int), .int .i64 ar]] w (HasGot w b) := by
  have hB0 := (Below.refl w.heap.size w).alloc (Nat.le_refl _) (.cells #[.int .i64 (c : Int), .int .i64 ar] 39)
  have hB := hide hB0
  have hlo := hide (Lies.new w #[.int .i64 (c : Int), .int .i64 ar] 39)
  have H2 := hide (h.alloc (.cells #[.int .i64 (c : Int), .int .i64 ar] 39))
  have HF := hide (hF.later hB0 (Nat.le_refl _))
  have HN := hide (hN.later hB0 (Nat.le_refl _))
  have Hs := hide hs
  have HB := hide hb
  have hwW : w.heap.size < (w.alloc (.cells #[.int .i64 (c : Int), .int .i64 ar] 39)).heap.size := by simp
  have hi0 : (0 : Int) ≤ (c : Int) := by omega
  have hi1 : (c : Int) < 20 := by omega
  have HV : ∀ W, SbAt W base q off p s → Calls Tryd.prog 47 #[.pointer (some ⟨q, off, none⟩), .int .i64 (takesOf c)] W (GivesV W (s.view0 (c : Int)) (s.view1 (c : Int)) (s.view2 (c : Int))) := fun W hW => viewOf_code q base off p s c W hW hs hc
  have HW : ∀ W, Calls Tryd.prog 48 #[.agg #[.int .i64 (s.view0 (c : Int) : Int), .int .i64 (s.view1 (c : Int) : Int), .int .i64 (s.view2 (c : Int) : Int)], .agg #[.int .i64 (need0 (c : Int) : Int), .int .i64 (need1 (c : Int) : Int), .int .i64 (need2 (c : Int) : Int)]] W (GivesV W m0 m1 m2) := fun W => by
    rw [← hm0, ← hm1, ← hm2]
    exact within_any _ _ _ _ _ _ W (view_small _ _).1 (view_small _ _).2.1 (view_small _ _).2.2 (need_small _).1 (need_small _).2.1 (need_small _).2.2
  generalize s.view0 (c : Int) = v0 at HV HW hm0
  generalize s.view1 (c : Int) = v1 at HV HW hm1
  generalize s.view2 (c : Int) = v2 at HV HW hm2
  have hVH := hide HV
  have hWH := hide HW
  clear HV HW hm0 hm1 hm2 hb
  have hoff := h.lt
  by_cases h16 : c = 16
  · obtain ⟨ha0, ha1, ham⟩ := ha h16
    obtain ⟨j, rfl⟩ := Int.eq_ofNat_of_zero_le ha0
    have t16 : ((c : Int) == 16) = true := by simp; omega
    rw [Int.toNat_natCast] at ham
    have hml := hs.ok.ml
    obtain ⟨x, hx⟩ : ∃ x, s.memo[j]? = some x := ⟨_, List.getElem?_eq_getElem (by omega)⟩
    have hgd : s.memo.getD j 0 = x := by rw [List.getD_eq_getElem?_getD, hx]; rfl
    rw [hgd] at ham
    have hxn : (x == -1) = false := by simp; omega
    obtain ⟨gm, hM, hg1, hg2, hcm, hfm⟩ := H2.out.own.m.atJ hx
    obtain ⟨e0, e1, e2, e3, e4, f0, f1, f2, f3, f4⟩ := H2.out.c
    rw [hM] at e3
    have d0 := hlo.out.cell 0
    have d1 := hlo.out.cell 1
    simp only [List.getElem?_toArray, List.getElem?_cons_zero, List.getElem?_cons_succ] at d0 d1
    have hj1 : (j : Int) < (s.memo.length : Int) := by omega
    clear h hs hx hgd hml hM hF hN hB0 ha ham h16
    go_enter Tryd.func41, Tryd.ntmps41
    go_upto_region 1 with fail
    generalize w.alloc (.cells #[.int .i64 (c : Int), .int .i64 (j : Int)] 39) = W at hB hlo H2 HF HN hwW e0 e1 e2 e3 e4 f0 f1 f2 f3 f4 d0 d1 hcm hfm hg2 ⊢
    go_quiet (fail)
    have hDr := below_drewN (Below.refl W.heap.size W) nq
    have HB2 := hide (below_drewN hB.out nq)
    have hlo2 := hlo.out.below hDr hwW
    have HS2 := hide (H2.out.below hDr)
    have HF2 := hide (HF.out.later hDr (Nat.le_refl _))
    have HN2 := hide (HN.out.later hDr (Nat.le_refl _))
    clear hDr e0 e1 e2 e3 e4 f0 f1 f2 f3 f4 d0 d1 hcm hfm hg2 H2 HF HN hB hlo
    have hwV : w.heap.size < (W.drewN nq).heap.size := by simpa using hwW
    generalize W.drewN nq = V at HB2 hlo2 HS2 HF2 HN2 hwV ⊢
    have d0 := hlo2.cell 0
    have d1 := hlo2.cell 1
    simp only [List.getElem?_toArray, List.getElem?_cons_zero, List.getElem?_cons_succ] at d0 d1
    have hn0 := HN2.out.n0 c hc
    have hn1 := HN2.out.n1 c hc
    have hn2 := HN2.out.n2 c hc
    clear hlo2 hwW
    go_upto_region 4 with fail
    have l3 := Lies.new V #[.int .i64 (need0 (c : Int) : Int), .int .i64 (need1 (c : Int) : Int), .int .i64 (need2 (c : Int) : Int)] 72
    have hA := (Below.refl V.heap.size V).alloc (Nat.le_refl _) (.cells #[.int .i64 (need0 (c : Int) : Int), .int .i64 (need1 (c : Int) : Int), .int .i64 (need2 (c : Int) : Int)] 72)
    have d0a := (hA.cell (p := ⟨w.heap.size, 0, none⟩) hwV).trans d0
    have HS3 := hide (HS2.out.below hA)
    have hft := (HF2.out.later hA (Nat.le_refl _)).takes c hc
    have hfl := (HF2.out.later hA (Nat.le_refl _)).lt
    have HB3 := hide (HB2.out.trans (hA.mono (by omega)))
    have hVX : w.heap.size < (V.alloc (.cells #[.int .i64 (need0 (c : Int) : Int), .int .i64 (need1 (c : Int) : Int), .int .i64 (need2 (c : Int) : Int)] 72)).heap.size := by simp; omega
    clear hA d0 d1 hn0 hn1 hn2 HB2 HS2 HF2 HN2
    generalize V.alloc (.cells #[.int .i64 (need0 (c : Int) : Int), .int .i64 (need1 (c : Int) : Int), .int .i64 (need2 (c : Int) : Int)] 72) = X at l3 d0a HS3 hft hfl HB3 hVX ⊢
    have hnX := l3.lt
    have r0 := l3.cell 0
    have r1 := l3.cell 1
    have r2 := l3.cell 2
    simp only [List.getElem?_toArray, List.getElem?_cons_zero, List.getElem?_cons_succ] at r0 r1 r2
    clear l3
    generalize V.heap.size = nb at r0 r1 r2 hnX ⊢
    generalize takesOf c = tk at hft hVH
    generalize need0 (c : Int) = n0 at r0 hWH HB ⊢
    generalize need1 (c : Int) = n1 at r1 hWH HB ⊢
    generalize need2 (c : Int) = n2 at r2 hWH HB ⊢
    have hE : ∀ w' : World, (Op.equalIn 10000 72 (.agg #[.int .i64 (m0 : Int), .int .i64 (m1 : Int), .int .i64 (m2 : Int)]) (.agg #[.int .i64 (n0 : Int), .int .i64 (n1 : Int), .int .i64 (n2 : Int)])).run Tryd.prog w' = .ok b w' := fun w' => by rw [eqView, HB.out]
    go_region_held3 (fun w' => w'.cell? ⟨w.heap.size, 0, none⟩ = some (.int .i64 (c : Int)) ∧ w'.cell? ⟨0, c * 3, none⟩ = some (.int .i64 tk) ∧ w'.cell? ⟨nb, 0, none⟩ = some (.int .i64 (n0 : Int)) ∧ w'.cell? ⟨nb, 1, none⟩ = some (.int .i64 (n1 : Int)) ∧ w'.cell? ⟨nb, 2, none⟩ = some (.int .i64 (n2 : Int)))
      (first
        | (go_split_ands; refine ⟨?_, ?_, ?_, ?_, ?_⟩ <;> assumption))
      (first
        | (go_at_call 47; refine (hVH.out _ HS3.out.drew).mono ?_; rintro e w6 ⟨rfl, hb6⟩; have q0 := (hb6.cell (p := ⟨w.heap.size, 0, none⟩) hVX).trans d0a; have q1 := (hb6.cell (p := ⟨0, c * 3, none⟩) hfl).trans hft; have q2 := (hb6.cell (p := ⟨nb, 0, none⟩) hnX).trans r0; have q3 := (hb6.cell (p := ⟨nb, 1, none⟩) hnX).trans r1; have q4 := (hb6.cell (p := ⟨nb, 2, none⟩) hnX).trans r2)
        | (go_at_call 48; refine (hWH.out _).mono ?_; rintro e w7 ⟨rfl, hb7⟩; have y0 := (hb7.cell (p := ⟨w.heap.size, 0, none⟩) (Nat.lt_of_lt_of_le hVX hb6.size)).trans q0; have y1 := (hb7.cell (p := ⟨0, c * 3, none⟩) (Nat.lt_of_lt_of_le hfl hb6.size)).trans q1; have y2 := (hb7.cell (p := ⟨nb, 0, none⟩) (Nat.lt_of_lt_of_le hnX hb6.size)).trans q2; have y3 := (hb7.cell (p := ⟨nb, 1, none⟩) (Nat.lt_of_lt_of_le hnX hb6.size)).trans q3; have y4 := (hb7.cell (p := ⟨nb, 2, none⟩) (Nat.lt_of_lt_of_le hnX hb6.size)).trans q4))
    have HE := hide ((HB3.out.drew.trans (hb6.mono (by simp; omega))).trans (hb7.mono (by have := hb6.size; simp at this; omega)))
    clear hE hb6 hb7 q0 q1 q2 q3 q4 y0 y1 y2 y3 y4 r0 r1 r2 hft d0a
    go_wp2
    go_ret
    exact ⟨rfl, HE.out⟩
  · have t16 : ((c : Int) == 16) = false := by simp; omega
    obtain ⟨e0, e1, e2, e3, e4, f0, f1, f2, f3, f4⟩ := H2.out.c
    have d0 := hlo.out.cell 0
    have d1 := hlo.out.cell 1
    simp only [List.getElem?_toArray, List.getElem?_cons_zero, List.getElem?_cons_succ] at d0 d1
    clear h hs hF hN hB0 ha h16
    go_enter Tryd.func41, Tryd.ntmps41
    go_upto_region 1 with fail
    generalize w.alloc (.cells #[.int .i64 (c : Int), .int .i64 ar] 39) = W at hB hlo H2 HF HN hwW e0 e1 e2 e3 e4 f0 f1 f2 f3 f4 d0 d1 ⊢
    go_quiet (fail)
    have hDr := below_drewN (Below.refl W.heap.size W) nq
    have HB2 := hide (below_drewN hB.out nq)
    have hlo2 := hlo.out.below hDr hwW
    have HS2 := hide (H2.out.below hDr)
    have HF2 := hide (HF.out.later hDr (Nat.le_refl _))
    have HN2 := hide (HN.out.later hDr (Nat.le_refl _))
    clear hDr e0 e1 e2 e3 e4 f0 f1 f2 f3 f4 d0 d1 H2 HF HN hB hlo
    have hwV : w.heap.size < (W.drewN nq).heap.size := by simpa using hwW
    generalize W.drewN nq = V at HB2 hlo2 HS2 HF2 HN2 hwV ⊢
    have d0 := hlo2.cell 0
    have d1 := hlo2.cell 1
    simp only [List.getElem?_toArray, List.getElem?_cons_zero, List.getElem?_cons_succ] at d0 d1
    have hn0 := HN2.out.n0 c hc
    have hn1 := HN2.out.n1 c hc
    have hn2 := HN2.out.n2 c hc
    clear hlo2 hwW
    go_upto_region 4 with fail
    have l3 := Lies.new V #[.int .i64 (need0 (c : Int) : Int), .int .i64 (need1 (c : Int) : Int), .int .i64 (need2 (c : Int) : Int)] 72
    have hA := (Below.refl V.heap.size V).alloc (Nat.le_refl _) (.cells #[.int .i64 (need0 (c : Int) : Int), .int .i64 (need1 (c : Int) : Int), .int .i64 (need2 (c : Int) : Int)] 72)
    have d0a := (hA.cell (p := ⟨w.heap.size, 0, none⟩) hwV).trans d0
    have HS3 := hide (HS2.out.below hA)
    have hft := (HF2.out.later hA (Nat.le_refl _)).takes c hc
    have hfl := (HF2.out.later hA (Nat.le_refl _)).lt
    have HB3 := hide (HB2.out.trans (hA.mono (by omega)))
    have hVX : w.heap.size < (V.alloc (.cells #[.int .i64 (need0 (c : Int) : Int), .int .i64 (need1 (c : Int) : Int), .int .i64 (need2 (c : Int) : Int)] 72)).heap.size := by simp; omega
    clear hA d0 d1 hn0 hn1 hn2 HB2 HS2 HF2 HN2
    generalize V.alloc (.cells #[.int .i64 (need0 (c : Int) : Int), .int .i64 (need1 (c : Int) : Int), .int .i64 (need2 (c : Int) : Int)] 72) = X at l3 d0a HS3 hft hfl HB3 hVX ⊢
    have hnX := l3.lt
    have r0 := l3.cell 0
    have r1 := l3.cell 1
    have r2 := l3.cell 2
    simp only [List.getElem?_toArray, List.getElem?_cons_zero, List.getElem?_cons_succ] at r0 r1 r2
    clear l3
    generalize V.heap.size = nb at r0 r1 r2 hnX ⊢
    generalize takesOf c = tk at hft hVH
    generalize need0 (c : Int) = n0 at r0 hWH HB ⊢
    generalize need1 (c : Int) = n1 at r1 hWH HB ⊢
    generalize need2 (c : Int) = n2 at r2 hWH HB ⊢
    have hE : ∀ w' : World, (Op.equalIn 10000 72 (.agg #[.int .i64 (m0 : Int), .int .i64 (m1 : Int), .int .i64 (m2 : Int)]) (.agg #[.int .i64 (n0 : Int), .int .i64 (n1 : Int), .int .i64 (n2 : Int)])).run Tryd.prog w' = .ok b w' := fun w' => by rw [eqView, HB.out]
    go_region_held3 (fun w' => w'.cell? ⟨w.heap.size, 0, none⟩ = some (.int .i64 (c : Int)) ∧ w'.cell? ⟨0, c * 3, none⟩ = some (.int .i64 tk) ∧ w'.cell? ⟨nb, 0, none⟩ = some (.int .i64 (n0 : Int)) ∧ w'.cell? ⟨nb, 1, none⟩ = some (.int .i64 (n1 : Int)) ∧ w'.cell? ⟨nb, 2, none⟩ = some (.int .i64 (n2 : Int)))
      (first
        | (go_split_ands; refine ⟨?_, ?_, ?_, ?_, ?_⟩ <;> assumption))
      (first
        | (go_at_call 47; refine (hVH.out _ HS3.out.drew).mono ?_; rintro e w6 ⟨rfl, hb6⟩; have q0 := (hb6.cell (p := ⟨w.heap.size, 0, none⟩) hVX).trans d0a; have q1 := (hb6.cell (p := ⟨0, c * 3, none⟩) hfl).trans hft; have q2 := (hb6.cell (p := ⟨nb, 0, none⟩) hnX).trans r0; have q3 := (hb6.cell (p := ⟨nb, 1, none⟩) hnX).trans r1; have q4 := (hb6.cell (p := ⟨nb, 2, none⟩) hnX).trans r2)
        | (go_at_call 48; refine (hWH.out _).mono ?_; rintro e w7 ⟨rfl, hb7⟩; have y0 := (hb7.cell (p := ⟨w.heap.size, 0, none⟩) (Nat.lt_of_lt_of_le hVX hb6.size)).trans q0; have y1 := (hb7.cell (p := ⟨0, c * 3, none⟩) (Nat.lt_of_lt_of_le hfl hb6.size)).trans q1; have y2 := (hb7.cell (p := ⟨nb, 0, none⟩) (Nat.lt_of_lt_of_le hnX hb6.size)).trans q2; have y3 := (hb7.cell (p := ⟨nb, 1, none⟩) (Nat.lt_of_lt_of_le hnX hb6.size)).trans q3; have y4 := (hb7.cell (p := ⟨nb, 2, none⟩) (Nat.lt_of_lt_of_le hnX hb6.size)).trans q4))
    have HE := hide ((HB3.out.drew.trans (hb6.mono (by simp; omega))).trans (hb7.mono (by have := hb6.size; simp at this; omega)))
    clear hE hb6 hb7 q0 q1 q2 q3 q4 y0 y1 y2 y3 y4 r0 r1 r2 hft d0a
    go_wp2
    go_ret
    exact ⟨rfl, HE.out⟩

end Go.Proofs.YtanicidkmfoooabDoor

namespace Go.Proofs.YtanicidkmfoooabDoor
open Go.RowKit
set_option linter.unusedVariables false
set_option linter.unusedSimpArgs false

/-- what a possible order finds -/
theorem stepFree_facts {s t : Shp} {o : Od} (h : s.Ok) (hd : s.done = false) (ho : 0 ≤ o.code ∧ o.code ≤ 19) (he : stepFree s o = some t) :
    (takesN o.code = -1 → ∃ a, above s.stack = a + 1) ∧ (takesN o.code ≠ -1 → 0 ≤ takesN o.code ∧ takesN o.code ≤ s.stack.length) ∧ (o.code = 14 → 0 ≤ (s.took o.code).thing 0) ∧ (o.code = 15 → 0 < s.stack.length) := by
  obtain ⟨cd, ar⟩ := o
  simp only at ho he ⊢
  have hk0 := h.kindAt 0
  have hk1 := h.kindAt 1
  have l0 : ¬ s.kindAt 0 < 0 → 0 < s.stack.length := fun hn => Shp.kind_lt hn
  have l1 : ¬ s.kindAt 1 < 0 → 1 < s.stack.length := fun hn => Shp.kind_lt hn
  have hma : above s.stack ≠ 0 → ∃ a, above s.stack = a + 1 := fun hn => ⟨above s.stack - 1, by omega⟩
  have h20 : cd = 0 ∨ cd = 1 ∨ cd = 2 ∨ cd = 3 ∨ cd = 4 ∨ cd = 5 ∨ cd = 6 ∨ cd = 7 ∨ cd = 8 ∨ cd = 9 ∨ cd = 10 ∨ cd = 11 ∨ cd = 12 ∨ cd = 13 ∨ cd = 14 ∨ cd = 15 ∨ cd = 16 ∨ cd = 17 ∨ cd = 18 ∨ cd = 19 := by omega
  rcases h20 with rfl | rfl | rfl | rfl | rfl | rfl | rfl | rfl | rfl | rfl | rfl | rfl | rfl | rfl | rfl | rfl | rfl | rfl | rfl | rfl
  case inr.inr.inr.inr.inr.inr.inr.inr.inr.inr.inr.inr.inr.inr.inl =>
    have hh : ¬ s.kindAt 0 < 0 ∧ s.kindAt 1 = 5 := by
      simp [stepFree, newK, hd, IsMarkOp, takeStep] at he
      omega
    have hl := l1 (by omega)
    refine ⟨fun hh => by simp [takesN] at hh, fun _ => by simp [takesN]; omega, fun _ => ?_, fun hh => by omega⟩
    have hth : 0 ≤ s.thing 1 := by have := hk1.2.2; omega
    have hlc : (s.cutTo (s.stack.length - 1)).stack.length = s.stack.length - 1 := by unfold Shp.cutTo; simp
    have e : (s.took 14).thing 0 = s.thing 1 := by
      have e0 : s.took 14 = s.cutTo (s.stack.length - 1) := by unfold Shp.took; simp [takesN]
      rw [e0]
      unfold Shp.thing
      rw [hlc, if_pos (by omega), if_pos (by omega)]
      unfold Shp.cutTo
      rw [List.getD_eq_getElem?_getD, List.getD_eq_getElem?_getD, List.getElem?_take, if_pos (by omega)]
      congr 2
    rw [e]
    exact hth
  all_goals
    simp [stepFree, newK, hd, IsMarkOp, takeStep, markStep] at he
    refine ⟨fun hh => ?_, fun hh => ?_, fun hh => by clear hma; omega, fun hh => ?_⟩
    · first | (simp [takesN] at hh; done) | (exact hma (by omega)) | (exact hma he.1)
    · clear hma; first | (simp [takesN] at hh; done) | (simp [takesN]; done) | (simp [takesN]; omega) | (have hky := he.2.1.1; unfold KeyK at hky; simp [takesN]; omega)
    · clear hma; first | omega | (exact l0 (by omega))

theorem took_small {s : Shp} (h : s.Small) (c : Int) : (s.took c).Small := by
  unfold Shp.took
  have : ∀ n, (s.cutTo n).Small := fun n => ⟨h.k, by have := h.t; unfold Shp.cutTo; simp; omega, h.ok.cut n⟩
  split <;> exact this _

theorem take_code (q base off : Nat) (p : ShPtr) (s : Shp) (c : Nat) (w : World) (h : SbAt w base q off p s) (hs : s.Small) (hc : c < 20) (h1 : takesN (c : Int) = -1 → ∃ a, above s.stack = a + 1) (h2 : takesN (c : Int) ≠ -1 → 0 ≤ takesN (c : Int) ∧ takesN (c : Int) ≤ s.stack.length) :
    Calls Tryd.prog 42 #[.pointer (some ⟨q, off, none⟩), .int .i64 (takesOf c)] w (TurnsSb w base q off p (s.took (c : Int))) := by
  rw [takes_same c hc]
  unfold Shp.took
  by_cases ht : takesN (c : Int) = -1
  · rw [if_pos ht, ht]
    obtain ⟨a, ha⟩ := h1 ht
    rw [show above s.stack - 1 = a by omega]
    exact take_all q base off p s a w h hs ha
  · rw [if_neg ht]
    obtain ⟨h3, h4⟩ := h2 ht
    exact take_any q base off p s (takesN (c : Int)) _ w h hs (by omega) ht (by omega) h3

theorem act_code (q base off : Nat) (p : ShPtr) (s : Shp) (c : Nat) (ar : Int) (w : World) (h : SbAt w base q off p s) (hs : s.Small) (hbase : base ≤ w.heap.size) (hc : c < 20) (ha : c = 15 ∨ c = 16 → 0 ≤ ar ∧ ar < 20) (h14 : c = 14 → 0 ≤ s.thing 0) (h15 : c = 15 → 0 < s.stack.length) :
    Calls Tryd.prog 43 #[.pointer (some ⟨q, off, none⟩), .agg #[.int .i64 (c : Int), .int .i64 ar]] w (TurnsSb w base q off p (s.acted ⟨(c : Int), ar⟩)) := by
  match c, hc, ha, h14, h15 with
  | 0, _, _, _, _ => exact act_new q base off p s 0 ar 0 w h hs hbase (by unfold IsNewOp; omega)
  | 1, _, _, _, _ => exact act_new q base off p s 1 ar 1 w h hs hbase (by unfold IsNewOp; omega)
  | 2, _, _, _, _ => exact act_mark q base off p s ar w h hs hbase
  | 3, _, _, _, _ => exact act_new q base off p s 3 ar 2 w h hs hbase (by unfold IsNewOp; omega)
  | 4, _, _, _, _ => exact act_new q base off p s 4 ar 2 w h hs hbase (by unfold IsNewOp; omega)
  | 5, _, _, _, _ => exact act_new q base off p s 5 ar 2 w h hs hbase (by unfold IsNewOp; omega)
  | 6, _, _, _, _ => exact act_new q base off p s 6 ar 2 w h hs hbase (by unfold IsNewOp; omega)
  | 7, _, _, _, _ => exact act_new q base off p s 7 ar 3 w h hs hbase (by unfold IsNewOp; omega)
  | 8, _, _, _, _ => exact act_idle q base off p s 8 ar w h hs hbase (by unfold IsIdleOp; omega)
  | 9, _, _, _, _ => exact act_idle q base off p s 9 ar w h hs hbase (by unfold IsIdleOp; omega)
  | 10, _, _, _, _ => exact act_new q base off p s 10 ar 4 w h hs hbase (by unfold IsNewOp; omega)
  | 11, _, _, _, _ => exact act_idle q base off p s 11 ar w h hs hbase (by unfold IsIdleOp; omega)
  | 12, _, _, _, _ => exact act_idle q base off p s 12 ar w h hs hbase (by unfold IsIdleOp; omega)
  | 13, _, _, _, _ => exact act_new q base off p s 13 ar 5 w h hs hbase (by unfold IsNewOp; omega)
  | 14, _, _, h14, _ => exact act_state q base off p s ar w h hs hbase (h14 rfl)
  | 15, _, ha, _, h15 =>
    obtain ⟨h1, h2⟩ := ha (.inl rfl)
    obtain ⟨j, rfl⟩ := Int.eq_ofNat_of_zero_le h1
    exact act_put q base off p s j w h hs hbase (by omega) (h15 rfl)
  | 16, _, ha, _, _ =>
    obtain ⟨h1, h2⟩ := ha (.inr rfl)
    obtain ⟨j, rfl⟩ := Int.eq_ofNat_of_zero_le h1
    exact act_get q base off p s j w h hs hbase (by omega)
  | 17, _, _, _, _ => exact act_idle q base off p s 17 ar w h hs hbase (by unfold IsIdleOp; omega)
  | 18, _, _, _, _ => exact act_idle q base off p s 18 ar w h hs hbase (by unfold IsIdleOp; omega)
  | 19, _, _, _, _ => exact act_stop q base off p s ar w h hs hbase
  | n + 20, hc, _, _, _ => omega

end Go.Proofs.YtanicidkmfoooabDoor

namespace Go.Proofs.YtanicidkmfoooabDoor
open Go.RowKit
set_option linter.unusedVariables false

theorem bits_of (a b : Nat) (h : a = b) : ((a : Int) == (b : Int)) = true := by subst h; simp
theorem bits_ne (a b : Nat) (h : a ≠ b) : ((a : Int) == (b : Int)) = false := by simp; omega

theorem hasNeeded_any (q base off : Nat) (p : ShPtr) (s : Shp) (c : Nat) (ar : Int) (w : World) (h : SbAt w base q off p s) (hs : s.Small) (hF : FormsAt w w.heap.size) (hN : NeedsAt w w.heap.size) (hc : c < 20) (ha : c = 16 → 0 ≤ ar ∧ ar < 20) :
    Calls Tryd.prog 41 #[.pointer (some ⟨q, off, none⟩), .agg #[.int .i64 (c : Int), .int .i64 ar]] w (HasGot w (tf (s.Has ⟨(c : Int), ar⟩))) := by
  by_cases hm : c = 16 ∧ s.memo.getD ar.toNat 0 < 0
  · obtain ⟨rfl, hm⟩ := hm
    obtain ⟨h1, h2⟩ := ha rfl
    obtain ⟨j, rfl⟩ := Int.eq_ofNat_of_zero_le h1
    rw [Int.toNat_natCast] at hm
    have ht : tf (s.Has ⟨((16 : Nat) : Int), (j : Int)⟩) = false := tf_false fun hh => by
      have := hh.1 rfl
      simp only [Int.toNat_natCast] at this
      omega
    rw [ht]
    exact hasNeeded_no q base off p s j w h hs (by omega) hm
  · have hcase : c = 16 → 0 ≤ ar ∧ ar < 20 ∧ 0 ≤ s.memo.getD ar.toNat 0 := fun e => ⟨(ha e).1, (ha e).2, by
      by_cases hh : s.memo.getD ar.toNat 0 < 0
      · exact absurd ⟨e, hh⟩ hm
      · omega⟩
    refine hasNeeded_got q base off p s c ar _ _ _ _ w h hs hF hN hc hcase rfl rfl rfl ?_
    by_cases e0 : s.view0 (c : Int) &&& need0 (c : Int) = need0 (c : Int)
    · by_cases e1 : s.view1 (c : Int) &&& need1 (c : Int) = need1 (c : Int)
      · by_cases e2 : s.view2 (c : Int) &&& need2 (c : Int) = need2 (c : Int)
        · rw [bits_of _ _ e0, bits_of _ _ e1, bits_of _ _ e2, tf_true ⟨fun e => (hcase (by simp only at e; omega)).2.2, e0, e1, e2⟩]; rfl
        · rw [bits_ne _ _ e2, tf_false fun hh => e2 hh.2.2.2]; simp
      · rw [bits_ne _ _ e1, tf_false fun hh => e1 hh.2.2.1]; simp
    · rw [bits_ne _ _ e0, tf_false fun hh => e0 hh.2.1]; simp

set_option maxRecDepth 100000 in
set_option maxHeartbeats 4000000 in
theorem step_no (q base off : Nat) (p : ShPtr) (s : Shp) (c : Nat) (ar : Int) (w : World) (h : SbAt w base q off p s) (hs : s.Small) (hbase : base ≤ w.heap.size) (hF : FormsAt w w.heap.size) (hN : NeedsAt w w.heap.size) (hc : c < 20) (ha : c = 15 ∨ c = 16 → 0 ≤ ar ∧ ar < 20) (hr : stepFree s ⟨(c : Int), ar⟩ = none) :
    Calls Tryd.prog 31 #[.pointer (some ⟨q, off, none⟩), .agg #[.int .i64 (c : Int), .int .i64 ar]] w (StepsSb w base q off p false s) := by
  have hB0 := (Below.refl w.heap.size w).alloc (Nat.le_refl _) (.cells #[.int .i64 (c : Int), .int .i64 ar] 39)
  have hB := hide hB0
  have hlt := h.lt
  have lo := Lies.new w #[.int .i64 (c : Int), .int .i64 ar] 39
  have H2 := hide (h.alloc (.cells #[.int .i64 (c : Int), .int .i64 ar] 39))
  have HF := hide (hF.later hB0 (Nat.le_refl _))
  have HN := hide (hN.later hB0 (Nat.le_refl _))
  have Hs := hide hs
  obtain ⟨e0, e1, e2, e3, e4, f0, f1, f2, f3, f4⟩ := H2.out.c
  have d0 := lo.cell 0
  have d1 := lo.cell 1
  simp only [List.getElem?_toArray, List.getElem?_cons_zero, List.getElem?_cons_succ] at d0 d1
  by_cases hd : s.done = true
  · rw [hd] at e4
    clear h hs hF hN hB0 lo hr ha hd
    go_enter Tryd.func31, Tryd.ntmps31
    go_upto_region 1 with fail
    generalize w.alloc (.cells #[.int .i64 (c : Int), .int .i64 ar] 39) = W at hB H2 HF HN e0 e1 e2 e3 e4 f0 f1 f2 f3 f4 d0 d1 ⊢
    go_wp2
    go_ret
    exact ⟨rfl, p, H2.out, SbFr.of_below hB.out hlt⟩
  · have hdf : s.done = false := by cases hx : s.done <;> simp_all
    rw [hdf] at e4
    have HC := hasNeeded_any q base off p s c ar _ H2.out hs HF.out HN.out hc (fun e => ha (.inr e))
    have ht : tf (s.Has ⟨(c : Int), ar⟩) = false := tf_false fun hh => by
      have := (stepFree_has hs.ok hdf (o := ⟨(c : Int), ar⟩) (by simp only; omega) (fun e => by simp only at e ⊢; have := ha (.inr (by omega)); omega)).1 hh
      rw [hr] at this
      cases this
    rw [ht] at HC
    have HCC := hide HC
    clear h hs hF hN hB0 lo hr ha hd HC ht hdf
    go_enter Tryd.func31, Tryd.ntmps31
    go_upto_region 1 with fail
    generalize w.alloc (.cells #[.int .i64 (c : Int), .int .i64 ar] 39) = W at hB H2 HF HN HCC e0 e1 e2 e3 e4 f0 f1 f2 f3 f4 d0 d1 ⊢
    go_wp2_with fail
    refine HCC.out.mono ?_
    rintro e w' ⟨rfl, hb⟩
    have HX := hide (And.intro (H2.out.below hb) (hB.out.trans (hb.mono hB.out.size)))
    clear hb
    go_wp2
    go_ret
    exact ⟨rfl, p, HX.out.1, SbFr.of_below HX.out.2 hlt⟩

set_option maxRecDepth 100000 in
set_option maxHeartbeats 4000000 in
theorem step_yes (q base off : Nat) (p : ShPtr) (s t : Shp) (c : Nat) (ar : Int) (w : World) (h : SbAt w base q off p s) (hs : s.Small) (hbase : base ≤ w.heap.size) (hF : FormsAt w w.heap.size) (hN : NeedsAt w w.heap.size) (hc : c < 20) (ha : c = 15 ∨ c = 16 → 0 ≤ ar ∧ ar < 20) (hr : stepFree s ⟨(c : Int), ar⟩ = some t) :
    Calls Tryd.prog 31 #[.pointer (some ⟨q, off, none⟩), .agg #[.int .i64 (c : Int), .int .i64 ar]] w (StepsSb w base q off p true t) := by
  have hB0 := (Below.refl w.heap.size w).alloc (Nat.le_refl _) (.cells #[.int .i64 (c : Int), .int .i64 ar] 39)
  have hB := hide hB0
  have hlt := h.lt
  have hlo := hide (Lies.new w #[.int .i64 (c : Int), .int .i64 ar] 39)
  have H2 := hide (h.alloc (.cells #[.int .i64 (c : Int), .int .i64 ar] 39))
  have HF := hide (hF.later hB0 (Nat.le_refl _))
  have HN := hide (hN.later hB0 (Nat.le_refl _))
  have Hs := hide hs
  have hoffo := h.own.off (q := w.heap.size) (.inr (Nat.le_refl _))
  have hdf : s.done = false := by
    cases hx : s.done
    · rfl
    · simp [stepFree, hx] at hr
  obtain ⟨t1, t2, t3, t4⟩ := stepFree_facts hs.ok hdf (by simp only; omega) hr
  simp only at t1 t2 t3 t4
  have hHas : s.Has ⟨(c : Int), ar⟩ := by
    by_cases hh : s.Has ⟨(c : Int), ar⟩
    · exact hh
    · have := (stepFree_has hs.ok hdf (o := ⟨(c : Int), ar⟩) (by simp only; omega) (fun e => by simp only at e ⊢; have := ha (.inr (by omega)); omega)).2 hh
      rw [hr] at this
      cases this
  have htt : t = (s.took (c : Int)).acted ⟨(c : Int), ar⟩ := by
    have := (stepFree_has hs.ok hdf (o := ⟨(c : Int), ar⟩) (by simp only; omega) (fun e => by simp only at e ⊢; have := ha (.inr (by omega)); omega)).1 hHas
    rw [hr] at this
    exact Option.some.inj this
  have h15 : c = 15 → 0 < (s.took (c : Int)).stack.length := fun e => by
    subst e
    have : s.took ((15 : Nat) : Int) = s.cutTo (s.stack.length - 0) := by unfold Shp.took; simp [takesN]
    rw [this, Nat.sub_zero, Shp.cutTo_all]
    exact t4 rfl
  have HC := hasNeeded_any q base off p s c ar _ H2.out hs HF.out HN.out hc (fun e => ha (.inr e))
  rw [tf_true hHas] at HC
  have HCC := hide HC
  have HT : Hid (∀ W, SbAt W base q off p s → Calls Tryd.prog 42 #[.pointer (some ⟨q, off, none⟩), .int .i64 (takesOf c)] W (TurnsSb W base q off p (s.took (c : Int)))) := hide fun W hW => take_code q base off p s c W hW hs hc t1 t2
  have HA : Hid (∀ W p', base ≤ W.heap.size → SbAt W base q off p' (s.took (c : Int)) → Calls Tryd.prog 43 #[.pointer (some ⟨q, off, none⟩), .agg #[.int .i64 (c : Int), .int .i64 ar]] W (TurnsSb W base q off p' t)) := hide fun W p' hb hW => by
    rw [htt]
    exact act_code q base off p' (s.took (c : Int)) c ar W hW (took_small hs _) hb hc ha (fun e => t3 (by omega)) h15
  obtain ⟨e0, e1, e2, e3, e4, f0, f1, f2, f3, f4⟩ := H2.out.c
  have d0 := hlo.out.cell 0
  have d1 := hlo.out.cell 1
  simp only [List.getElem?_toArray, List.getElem?_cons_zero, List.getElem?_cons_succ] at d0 d1
  rw [hdf] at e4
  have hi0 : (0 : Int) ≤ (c : Int) := by omega
  have hi1 : (c : Int) < 20 := by omega
  have hbW : base ≤ (w.alloc (.cells #[.int .i64 (c : Int), .int .i64 ar] 39)).heap.size := by simp; omega
  have hwW : w.heap.size < (w.alloc (.cells #[.int .i64 (c : Int), .int .i64 ar] 39)).heap.size := by simp
  have hqo : w.heap.size ≠ q := by omega
  generalize s.took (c : Int) = s1 at HT HA
  clear h hs hF hN hB0 hr ha hdf t1 t2 t3 t4 hHas htt h15 HC
  go_enter Tryd.func31, Tryd.ntmps31
  go_upto_region 1 with fail
  generalize w.alloc (.cells #[.int .i64 (c : Int), .int .i64 ar] 39) = W at hB hlo H2 HF HN HCC hbW hwW e0 e1 e2 e3 e4 f0 f1 f2 f3 f4 d0 d1 ⊢
  go_wp2_with fail
  refine HCC.out.mono ?_
  rintro e w1 ⟨rfl, hb⟩
  have H3 := hide (H2.out.below hb)
  have HB3 := hide (hB.out.trans (hb.mono hB.out.size))
  have hlo3 := hlo.out.below hb hwW
  have hft := (HF.out.later hb (Nat.le_refl _)).takes c hc
  have hw1 : w.heap.size < w1.heap.size := Nat.lt_of_lt_of_le hwW hb.size
  have hb1 : base ≤ w1.heap.size := Nat.le_trans hbW hb.size
  have d0 := hlo3.cell 0
  have d1 := hlo3.cell 1
  simp only [List.getElem?_toArray, List.getElem?_cons_zero, List.getElem?_cons_succ] at d0 d1
  have Hlo3 := hide hlo3
  clear hb e0 e1 e2 e3 e4 f0 f1 f2 f3 f4 HCC H2 HF HN hB hlo hlo3
  go_wp2_with fail
  refine (HT.out _ H3.out).mono ?_
  rintro e w2 ⟨rfl, p2, hS2, hF2⟩
  have hblk := hF2.blk w.heap.size hw1 hqo hoffo
  have hlo4 : Lies w2 w.heap.size #[.int .i64 (c : Int), .int .i64 ar] 39 := hblk.trans Hlo3.out
  have d0 := hlo4.cell 0
  have d1 := hlo4.cell 1
  simp only [List.getElem?_toArray, List.getElem?_cons_zero, List.getElem?_cons_succ] at d0 d1
  have hb2 : base ≤ w2.heap.size := Nat.le_trans hb1 hF2.size
  have HF2 := hide hF2
  have HS2 := hide hS2
  clear hblk hlo4 hF2 hS2 hft HT H3
  go_wp2_with fail
  refine (HA.out _ p2 hb2 HS2.out).mono ?_
  rintro e w3 ⟨rfl, p3, hS3, hF3⟩
  have HE := hide (And.intro hS3 (((SbFr.of_below HB3.out hlt).trans HF2.out).trans hF3))
  clear hS3 hF3 HF2 HS2 HA
  go_wp2
  go_ret
  exact ⟨rfl, p3, HE.out.1, HE.out.2⟩

end Go.Proofs.YtanicidkmfoooabDoor
