/-
  Lemmas, several texts in one: ClS, ChkI, ChkJ.
-/
import Derived.Test.YtochdhibmmohfaaDoorPjAj
import Derived.Test.YtochdhibmmohfaaDoorPjAe
import Derived.Test.YtochdhibmmohfaaDoorOwn
import Derived.Deep.LoopGhost
import Derived.Test.YtochdhibmmohfaaDoorPjAn
namespace Go.Proofs.YtochdhibmmohfaaDoor
open Go.RowKit
set_option linter.unusedVariables false

theorem IntsAt.oneS (w : World) (n : Nat) (x : Int) (hx : In64 x) (h : w.heap.size = n) : IntsAt (w.alloc (.cells #[.int .i64 x] 3)) (n + 1) (some ⟨n, 0, none⟩) [x] := by
  have := IntsAt.one w x hx
  rwa [h] at this

set_option maxRecDepth 100000 in
set_option maxHeartbeats 2000000 in
theorem specClassesIn_any (A : Option Addr) (os : List Od) (c : Nat) (w : World) (h : OpsAt w w.heap.size A os) :
    Calls Tryd.prog 16 #[.slice A os.length c] w (GivesInts w (classesIn os)) := by
  have hl := h.len
  by_cases hok : OpsOk os
  · have ht := hide (tf_true hok)
    have hl3 := hok.1
    have HV := hide (show classesIn os = clsTo os 10 by unfold classesIn; rw [if_pos hok])
    rw [HV.out]
    clear hok HV
    go_enter Tryd.func16, Tryd.ntmps16
    go_wp2_with fail
    refine (specValidOps_any A os c w h).mono ?_
    rintro e w1 ⟨rfl, hb1⟩
    rw [ht.out]
    have HB1 := hide (hb1.alloc hb1.size (.cells #[] 3))
    have HO1 := hide ((OwnI.bare w1).mono hb1.size)
    clear hb1
    go_wp2_with fail
    generalize w1.alloc (.cells #[] 3) = W1 at HB1 HO1 ⊢
    generalize w1.heap.size = g1 at HO1 ⊢
    go_loopg [3, 4] 10 (fun gk ov iv wr => ∃ (k : Nat) (Ao : Option Addr) (co : Nat) (xs : List Int), k ≤ 10 ∧ gk = 10 - k ∧ iv = .int .i64 (k : Int) ∧ ov = .slice Ao xs.length co ∧ Hid (xs = clsTo os k) ∧ OwnI wr w.heap.size Ao co xs ∧ Below w.heap.size w wr)
    case atStart => exact ⟨0, _, 0, [], Nat.zero_le _, rfl, rfl, rfl, hide rfl, HO1.out, HB1.out⟩
    case round =>
      clear HB1 HO1
      obtain ⟨k, Ao, co, xs, hk, rfl, rfl, rfl, hxs, hO, hB⟩ := hrel
      have HO := hide hO
      have HB := hide hB
      have hxl : xs.length ≤ 10 := by rw [hxs.out]; exact Nat.le_trans (clsTo_len _ _) hk
      clear hO hB
      by_cases hlt : k < 10
      · have hlt2 : (k : Int) ≤ 9 := by omega
        go_wp2_with fail
        go_loopg [3, 5] os.length (fun gj ov jv wq => ∃ j : Nat, j ≤ os.length ∧ gj = os.length - j ∧ ov = .slice Ao xs.length co ∧ jv = .int .i64 (j : Int) ∧ wq = wr ∧ ∀ i, i < j → os[i]? ≠ some ⟨13, (k : Int)⟩)
        case atStart => exact ⟨0, Nat.zero_le _, rfl, rfl, rfl, rfl, fun i hi => absurd hi (by omega)⟩
        case round =>
          obtain ⟨j, hj, rfl, rfl, rfl, rfl, he0⟩ := hrel
          have he := hide he0
          clear he0
          by_cases hjl : j < os.length
          · obtain ⟨b, off, x, rfl, hbl, hx, hm, hc0, hc1⟩ := (h.below HB.out).at_ hjl
            have Hx := hide hx
            have Hm := hide hm
            clear hx hm
            obtain ⟨xc, xa⟩ := x
            simp only at hc0 hc1
            have hj0 : (0 : Int) ≤ (j : Int) := by omega
            have hj1 : (j : Int) < (os.length : Int) := by omega
            by_cases hcd : xc = 13
            · subst hcd
              by_cases har : xa = (k : Int)
              · subst har
                have t2 : ((k : Int) == (k : Int)) = true := by simp
                have HS := hide (clsTo_yes Hm.out)
                have hwz := HB.out.size
                clear he
                go_wp2_with (at_builtin; refine append_ints rfl (.tmp 35) (.tmp 37) rfl w.heap.size Ao co xs rfl (HO.out.alloc _) _ _ 1 [(k : Int)] rfl (fun e => by cases e) (IntsAt.oneS _ _ (k : Int) (by constructor <;> omega) rfl) (by simp <;> omega) (by simp <;> omega) ?_; intro zs A7 c7 w7 hz7 ho7 hg7 ha7; have HX := hide (And.intro ho7 (below_grown (HB.out.alloc hwz _) hg7 (by simp; omega) (fun q hq => (HO.out.blocks q hq).1))); have hzz := hide (show zs = clsTo os (k + 1) by rw [hz7.out, hxs.out, ← HS.out]); clear ho7 hg7 ha7 hz7)
                go_roundg (10 - (k + 1))
                case measure => omega
                case rel => exact ⟨k + 1, A7, c7, zs, by omega, rfl, by go_num, rfl, hzz, HX.out.1, HX.out.2⟩
              · have t2 : (xa == (k : Int)) = false := by simpa using har
                have He : Hid (∀ i, i < j + 1 → os[i]? ≠ some ⟨13, (k : Int)⟩) := hide (by
                  intro i hi hh
                  by_cases e : i = j
                  · subst e; rw [Hx.out] at hh; injection hh with hh; injection hh with _ hh; exact har hh
                  · exact he.out i (by omega) hh)
                clear he har
                go_wp2
                go_roundg (os.length - (j + 1))
                case measure => omega
                case rel => exact ⟨j + 1, by omega, rfl, rfl, by go_num, by first | rfl | trivial, He.out⟩
            · have t1 : (xc == 13) = false := by simpa using hcd
              have He : Hid (∀ i, i < j + 1 → os[i]? ≠ some ⟨13, (k : Int)⟩) := hide (by
                intro i hi hh
                by_cases e : i = j
                · subst e; rw [Hx.out] at hh; injection hh with hh; injection hh with hh _; exact hcd hh
                · exact he.out i (by omega) hh)
              clear he hcd
              go_wp2
              go_roundg (os.length - (j + 1))
              case measure => omega
              case rel => exact ⟨j + 1, by omega, rfl, rfl, by go_num, by first | rfl | trivial, He.out⟩
          · obtain rfl : j = os.length := by omega
            have HN : (⟨13, (k : Int)⟩ : Od) ∉ os := by
              intro hmem
              obtain ⟨i, hi, e⟩ := List.getElem_of_mem hmem
              exact he.out i hi (by rw [List.getElem?_eq_getElem hi, e])
            have hzz := hide (show xs = clsTo os (k + 1) by rw [hxs.out, clsTo_no HN])
            clear he HN
            go_wp2
            go_roundg (10 - (k + 1))
            case measure => omega
            case rel => exact ⟨k + 1, Ao, co, xs, by omega, rfl, by go_num, rfl, hzz, HO.out, HB.out⟩
      · obtain rfl : k = 10 := by omega
        rw [show ((10 : Nat) : Int) = 10 from rfl]
        go_wp2
        go_ret
        rw [← hxs.out]
        exact ⟨Ao, co, rfl, HO.out, HB.out⟩
  · have ht := hide (tf_false hok)
    have HV := hide (show classesIn os = [] by unfold classesIn; rw [if_neg hok])
    rw [HV.out]
    clear hok HV
    go_enter Tryd.func16, Tryd.ntmps16
    go_wp2_with fail
    refine (specValidOps_any A os c w h).mono ?_
    rintro e w1 ⟨rfl, hb1⟩
    rw [ht.out]
    go_wp2
    go_ret
    exact ⟨none, 0, rfl, OwnI.empty _ _, hb1⟩

end Go.Proofs.YtochdhibmmohfaaDoor

namespace Go.Proofs.YtochdhibmmohfaaDoor
open Go.RowKit
set_option linter.unusedVariables false

/-- what a call that only tells hands back -/
def HasGot (w : World) (b : Bool) (e : Ending) (w' : World) : Prop := e = .returned (.bool b) ∧ Below w.heap.size w w'

set_option maxRecDepth 100000 in
set_option maxHeartbeats 4000000 in
theorem hasNeeded_got (q base off : Nat) (p : ShPtr) (s : Shp) (c : Nat) (ar : Int) (m0 m1 m2 : Nat) (b : Bool) (w : World) (h : SbAt w base q off p s) (hs : s.Small) (hF : FormsAt w w.heap.size) (hN : NeedsAt w w.heap.size) (hc : c < 20) (ha : c = 16 → 0 ≤ ar ∧ ar < 20 ∧ 0 ≤ s.memo.getD ar.toNat 0)
    (hm0 : s.view0 (c : Int) &&& need0 (c : Int) = m0) (hm1 : s.view1 (c : Int) &&& need1 (c : Int) = m1) (hm2 : s.view2 (c : Int) &&& need2 (c : Int) = m2)
    (hb : (((m0 : Int) == (need0 (c : Int) : Int)) && (((m1 : Int) == (need1 (c : Int) : Int)) && ((m2 : Int) == (need2 (c : Int) : Int)))) = b) :
    Calls Tryd.prog 48 #[.pointer (some ⟨q, off, none⟩), .agg #[.int .i64 (c : Int), .int .i64 ar]] w (HasGot w b) := by
  have hB0 := (Below.refl w.heap.size w).alloc (Nat.le_refl _) (.cells #[.int .i64 (c : Int), .int .i64 ar] 44)
  have hB := hide hB0
  have hlo := hide (Lies.new w #[.int .i64 (c : Int), .int .i64 ar] 44)
  have H2 := hide (h.alloc (.cells #[.int .i64 (c : Int), .int .i64 ar] 44))
  have HF := hide (hF.later hB0 (Nat.le_refl _))
  have HN := hide (hN.later hB0 (Nat.le_refl _))
  have Hs := hide hs
  have HB := hide hb
  have hwW : w.heap.size < (w.alloc (.cells #[.int .i64 (c : Int), .int .i64 ar] 44)).heap.size := by simp
  have hi0 : (0 : Int) ≤ (c : Int) := by omega
  have hi1 : (c : Int) < 20 := by omega
  have HV : ∀ W, SbAt W base q off p s → Calls Tryd.prog 52 #[.pointer (some ⟨q, off, none⟩), .int .i64 (takesOf c)] W (GivesV W (s.view0 (c : Int)) (s.view1 (c : Int)) (s.view2 (c : Int))) := fun W hW => viewOf_code q base off p s c W hW hs hc
  have HW : ∀ W, Calls Tryd.prog 53 #[.agg #[.int .i64 (s.view0 (c : Int) : Int), .int .i64 (s.view1 (c : Int) : Int), .int .i64 (s.view2 (c : Int) : Int)], .agg #[.int .i64 (need0 (c : Int) : Int), .int .i64 (need1 (c : Int) : Int), .int .i64 (need2 (c : Int) : Int)]] W (GivesV W m0 m1 m2) := fun W => by
    rw [← hm0, ← hm1, ← hm2]
    exact within_any _ _ _ _ _ _ W (view_small _ _).1 (view_small _ _).2.1 (view_small _ _).2.2 (need_small _).1 (need_small _).2.1 (need_small _).2.2
  generalize s.view0 (c : Int) = v0 at HV HW hm0
  generalize s.view1 (c : Int) = v1 at HV HW hm1
  generalize s.view2 (c : Int) = v2 at HV HW hm2
  have hVH := hide HV
  have hWH := hide HW
  clear HV HW hm0 hm1 hm2 hb
  have hoff := h.lt
  by_cases h16 : c = 16
  · obtain ⟨ha0, ha1, ham⟩ := ha h16
    obtain ⟨j, rfl⟩ := Int.eq_ofNat_of_zero_le ha0
    have t16 : ((c : Int) == 16) = true := by simp; omega
    rw [Int.toNat_natCast] at ham
    have hml := hs.ok.ml
    obtain ⟨x, hx⟩ : ∃ x, s.memo[j]? = some x := ⟨_, List.getElem?_eq_getElem (by omega)⟩
    have hgd : s.memo.getD j 0 = x := by rw [List.getD_eq_getElem?_getD, hx]; rfl
    rw [hgd] at ham
    have hxn : (x == -1) = false := by simp; omega
    obtain ⟨gm, hM, hg1, hg2, hcm, hfm⟩ := H2.out.own.m.atJ hx
    obtain ⟨e0, e1, e2, e3, e4, f0, f1, f2, f3, f4⟩ := H2.out.c
    rw [hM] at e3
    have d0 := hlo.out.cell 0
    have d1 := hlo.out.cell 1
    simp only [List.getElem?_toArray, List.getElem?_cons_zero, List.getElem?_cons_succ] at d0 d1
    have hj1 : (j : Int) < (s.memo.length : Int) := by omega
    clear h hs hx hgd hml hM hF hN hB0 ha ham h16
    go_enter Tryd.func48, Tryd.ntmps48
    go_upto_region 1 with fail
    generalize w.alloc (.cells #[.int .i64 (c : Int), .int .i64 (j : Int)] 44) = W at hB hlo H2 HF HN hwW e0 e1 e2 e3 e4 f0 f1 f2 f3 f4 d0 d1 hcm hfm hg2 ⊢
    go_quiet (fail)
    have hDr := below_drewN (Below.refl W.heap.size W) nq
    have HB2 := hide (below_drewN hB.out nq)
    have hlo2 := hlo.out.below hDr hwW
    have HS2 := hide (H2.out.below hDr)
    have HF2 := hide (HF.out.later hDr (Nat.le_refl _))
    have HN2 := hide (HN.out.later hDr (Nat.le_refl _))
    clear hDr e0 e1 e2 e3 e4 f0 f1 f2 f3 f4 d0 d1 hcm hfm hg2 H2 HF HN hB hlo
    have hwV : w.heap.size < (W.drewN nq).heap.size := by simpa using hwW
    generalize W.drewN nq = V at HB2 hlo2 HS2 HF2 HN2 hwV ⊢
    have d0 := hlo2.cell 0
    have d1 := hlo2.cell 1
    simp only [List.getElem?_toArray, List.getElem?_cons_zero, List.getElem?_cons_succ] at d0 d1
    have hn0 := HN2.out.n0 c hc
    have hn1 := HN2.out.n1 c hc
    have hn2 := HN2.out.n2 c hc
    clear hlo2 hwW
    go_upto_region 4 with fail
    have l3 := Lies.new V #[.int .i64 (need0 (c : Int) : Int), .int .i64 (need1 (c : Int) : Int), .int .i64 (need2 (c : Int) : Int)] 78
    have hA := (Below.refl V.heap.size V).alloc (Nat.le_refl _) (.cells #[.int .i64 (need0 (c : Int) : Int), .int .i64 (need1 (c : Int) : Int), .int .i64 (need2 (c : Int) : Int)] 78)
    have d0a := (hA.cell (p := ⟨w.heap.size, 0, none⟩) hwV).trans d0
    have HS3 := hide (HS2.out.below hA)
    have hft := (HF2.out.later hA (Nat.le_refl _)).takes c hc
    have hfl := (HF2.out.later hA (Nat.le_refl _)).lt
    have HB3 := hide (HB2.out.trans (hA.mono (by omega)))
    have hVX : w.heap.size < (V.alloc (.cells #[.int .i64 (need0 (c : Int) : Int), .int .i64 (need1 (c : Int) : Int), .int .i64 (need2 (c : Int) : Int)] 78)).heap.size := by simp; omega
    clear hA d0 d1 hn0 hn1 hn2 HB2 HS2 HF2 HN2
    generalize V.alloc (.cells #[.int .i64 (need0 (c : Int) : Int), .int .i64 (need1 (c : Int) : Int), .int .i64 (need2 (c : Int) : Int)] 78) = X at l3 d0a HS3 hft hfl HB3 hVX ⊢
    have hnX := l3.lt
    have r0 := l3.cell 0
    have r1 := l3.cell 1
    have r2 := l3.cell 2
    simp only [List.getElem?_toArray, List.getElem?_cons_zero, List.getElem?_cons_succ] at r0 r1 r2
    clear l3
    generalize V.heap.size = nb at r0 r1 r2 hnX ⊢
    generalize takesOf c = tk at hft hVH
    generalize need0 (c : Int) = n0 at r0 hWH HB ⊢
    generalize need1 (c : Int) = n1 at r1 hWH HB ⊢
    generalize need2 (c : Int) = n2 at r2 hWH HB ⊢
    have hE : ∀ w' : World, (Op.equalIn 10000 78 (.agg #[.int .i64 (m0 : Int), .int .i64 (m1 : Int), .int .i64 (m2 : Int)]) (.agg #[.int .i64 (n0 : Int), .int .i64 (n1 : Int), .int .i64 (n2 : Int)])).run Tryd.prog w' = .ok b w' := fun w' => by rw [eqView, HB.out]
    go_region_held3 (fun w' => w'.cell? ⟨w.heap.size, 0, none⟩ = some (.int .i64 (c : Int)) ∧ w'.cell? ⟨0, c * 3, none⟩ = some (.int .i64 tk) ∧ w'.cell? ⟨nb, 0, none⟩ = some (.int .i64 (n0 : Int)) ∧ w'.cell? ⟨nb, 1, none⟩ = some (.int .i64 (n1 : Int)) ∧ w'.cell? ⟨nb, 2, none⟩ = some (.int .i64 (n2 : Int)))
      (first
        | (go_split_ands; refine ⟨?_, ?_, ?_, ?_, ?_⟩ <;> assumption))
      (first
        | (go_at_call 52; refine (hVH.out _ HS3.out.drew).mono ?_; rintro e w6 ⟨rfl, hb6⟩; have q0 := (hb6.cell (p := ⟨w.heap.size, 0, none⟩) hVX).trans d0a; have q1 := (hb6.cell (p := ⟨0, c * 3, none⟩) hfl).trans hft; have q2 := (hb6.cell (p := ⟨nb, 0, none⟩) hnX).trans r0; have q3 := (hb6.cell (p := ⟨nb, 1, none⟩) hnX).trans r1; have q4 := (hb6.cell (p := ⟨nb, 2, none⟩) hnX).trans r2)
        | (go_at_call 53; refine (hWH.out _).mono ?_; rintro e w7 ⟨rfl, hb7⟩; have y0 := (hb7.cell (p := ⟨w.heap.size, 0, none⟩) (Nat.lt_of_lt_of_le hVX hb6.size)).trans q0; have y1 := (hb7.cell (p := ⟨0, c * 3, none⟩) (Nat.lt_of_lt_of_le hfl hb6.size)).trans q1; have y2 := (hb7.cell (p := ⟨nb, 0, none⟩) (Nat.lt_of_lt_of_le hnX hb6.size)).trans q2; have y3 := (hb7.cell (p := ⟨nb, 1, none⟩) (Nat.lt_of_lt_of_le hnX hb6.size)).trans q3; have y4 := (hb7.cell (p := ⟨nb, 2, none⟩) (Nat.lt_of_lt_of_le hnX hb6.size)).trans q4))
    have HE := hide ((HB3.out.drew.trans (hb6.mono (by simp; omega))).trans (hb7.mono (by have := hb6.size; simp at this; omega)))
    clear hE hb6 hb7 q0 q1 q2 q3 q4 y0 y1 y2 y3 y4 r0 r1 r2 hft d0a
    go_wp2
    go_ret
    exact ⟨rfl, HE.out⟩
  · have t16 : ((c : Int) == 16) = false := by simp; omega
    obtain ⟨e0, e1, e2, e3, e4, f0, f1, f2, f3, f4⟩ := H2.out.c
    have d0 := hlo.out.cell 0
    have d1 := hlo.out.cell 1
    simp only [List.getElem?_toArray, List.getElem?_cons_zero, List.getElem?_cons_succ] at d0 d1
    clear h hs hF hN hB0 ha h16
    go_enter Tryd.func48, Tryd.ntmps48
    go_upto_region 1 with fail
    generalize w.alloc (.cells #[.int .i64 (c : Int), .int .i64 ar] 44) = W at hB hlo H2 HF HN hwW e0 e1 e2 e3 e4 f0 f1 f2 f3 f4 d0 d1 ⊢
    go_quiet (fail)
    have hDr := below_drewN (Below.refl W.heap.size W) nq
    have HB2 := hide (below_drewN hB.out nq)
    have hlo2 := hlo.out.below hDr hwW
    have HS2 := hide (H2.out.below hDr)
    have HF2 := hide (HF.out.later hDr (Nat.le_refl _))
    have HN2 := hide (HN.out.later hDr (Nat.le_refl _))
    clear hDr e0 e1 e2 e3 e4 f0 f1 f2 f3 f4 d0 d1 H2 HF HN hB hlo
    have hwV : w.heap.size < (W.drewN nq).heap.size := by simpa using hwW
    generalize W.drewN nq = V at HB2 hlo2 HS2 HF2 HN2 hwV ⊢
    have d0 := hlo2.cell 0
    have d1 := hlo2.cell 1
    simp only [List.getElem?_toArray, List.getElem?_cons_zero, List.getElem?_cons_succ] at d0 d1
    have hn0 := HN2.out.n0 c hc
    have hn1 := HN2.out.n1 c hc
    have hn2 := HN2.out.n2 c hc
    clear hlo2 hwW
    go_upto_region 4 with fail
    have l3 := Lies.new V #[.int .i64 (need0 (c : Int) : Int), .int .i64 (need1 (c : Int) : Int), .int .i64 (need2 (c : Int) : Int)] 78
    have hA := (Below.refl V.heap.size V).alloc (Nat.le_refl _) (.cells #[.int .i64 (need0 (c : Int) : Int), .int .i64 (need1 (c : Int) : Int), .int .i64 (need2 (c : Int) : Int)] 78)
    have d0a := (hA.cell (p := ⟨w.heap.size, 0, none⟩) hwV).trans d0
    have HS3 := hide (HS2.out.below hA)
    have hft := (HF2.out.later hA (Nat.le_refl _)).takes c hc
    have hfl := (HF2.out.later hA (Nat.le_refl _)).lt
    have HB3 := hide (HB2.out.trans (hA.mono (by omega)))
    have hVX : w.heap.size < (V.alloc (.cells #[.int .i64 (need0 (c : Int) : Int), .int .i64 (need1 (c : Int) : Int), .int .i64 (need2 (c : Int) : Int)] 78)).heap.size := by simp; omega
    clear hA d0 d1 hn0 hn1 hn2 HB2 HS2 HF2 HN2
    generalize V.alloc (.cells #[.int .i64 (need0 (c : Int) : Int), .int .i64 (need1 (c : Int) : Int), .int .i64 (need2 (c : Int) : Int)] 78) = X at l3 d0a HS3 hft hfl HB3 hVX ⊢
    have hnX := l3.lt
    have r0 := l3.cell 0
    have r1 := l3.cell 1
    have r2 := l3.cell 2
    simp only [List.getElem?_toArray, List.getElem?_cons_zero, List.getElem?_cons_succ] at r0 r1 r2
    clear l3
    generalize V.heap.size = nb at r0 r1 r2 hnX ⊢
    generalize takesOf c = tk at hft hVH
    generalize need0 (c : Int) = n0 at r0 hWH HB ⊢
    generalize need1 (c : Int) = n1 at r1 hWH HB ⊢
    generalize need2 (c : Int) = n2 at r2 hWH HB ⊢
    have hE : ∀ w' : World, (Op.equalIn 10000 78 (.agg #[.int .i64 (m0 : Int), .int .i64 (m1 : Int), .int .i64 (m2 : Int)]) (.agg #[.int .i64 (n0 : Int), .int .i64 (n1 : Int), .int .i64 (n2 : Int)])).run Tryd.prog w' = .ok b w' := fun w' => by rw [eqView, HB.out]
    go_region_held3 (fun w' => w'.cell? ⟨w.heap.size, 0, none⟩ = some (.int .i64 (c : Int)) ∧ w'.cell? ⟨0, c * 3, none⟩ = some (.int .i64 tk) ∧ w'.cell? ⟨nb, 0, none⟩ = some (.int .i64 (n0 : Int)) ∧ w'.cell? ⟨nb, 1, none⟩ = some (.int .i64 (n1 : Int)) ∧ w'.cell? ⟨nb, 2, none⟩ = some (.int .i64 (n2 : Int)))
      (first
        | (go_split_ands; refine ⟨?_, ?_, ?_, ?_, ?_⟩ <;> assumption))
      (first
        | (go_at_call 52; refine (hVH.out _ HS3.out.drew).mono ?_; rintro e w6 ⟨rfl, hb6⟩; have q0 := (hb6.cell (p := ⟨w.heap.size, 0, none⟩) hVX).trans d0a; have q1 := (hb6.cell (p := ⟨0, c * 3, none⟩) hfl).trans hft; have q2 := (hb6.cell (p := ⟨nb, 0, none⟩) hnX).trans r0; have q3 := (hb6.cell (p := ⟨nb, 1, none⟩) hnX).trans r1; have q4 := (hb6.cell (p := ⟨nb, 2, none⟩) hnX).trans r2)
        | (go_at_call 53; refine (hWH.out _).mono ?_; rintro e w7 ⟨rfl, hb7⟩; have y0 := (hb7.cell (p := ⟨w.heap.size, 0, none⟩) (Nat.lt_of_lt_of_le hVX hb6.size)).trans q0; have y1 := (hb7.cell (p := ⟨0, c * 3, none⟩) (Nat.lt_of_lt_of_le hfl hb6.size)).trans q1; have y2 := (hb7.cell (p := ⟨nb, 0, none⟩) (Nat.lt_of_lt_of_le hnX hb6.size)).trans q2; have y3 := (hb7.cell (p := ⟨nb, 1, none⟩) (Nat.lt_of_lt_of_le hnX hb6.size)).trans q3; have y4 := (hb7.cell (p := ⟨nb, 2, none⟩) (Nat.lt_of_lt_of_le hnX hb6.size)).trans q4))
    have HE := hide ((HB3.out.drew.trans (hb6.mono (by simp; omega))).trans (hb7.mono (by have := hb6.size; simp at this; omega)))
    clear hE hb6 hb7 q0 q1 q2 q3 q4 y0 y1 y2 y3 y4 r0 r1 r2 hft d0a
    go_wp2
    go_ret
    exact ⟨rfl, HE.out⟩

end Go.Proofs.YtochdhibmmohfaaDoor

namespace Go.Proofs.YtochdhibmmohfaaDoor
open Go.RowKit
set_option linter.unusedVariables false
set_option linter.unusedSimpArgs false

/-- what a possible order finds -/
theorem stepFree_facts {s t : Shp} {o : Od} (h : s.Ok) (hd : s.done = false) (ho : 0 ≤ o.code ∧ o.code ≤ 19) (he : stepFree s o = some t) :
    (takesN o.code = -1 → ∃ a, above s.stack = a + 1) ∧ (takesN o.code ≠ -1 → 0 ≤ takesN o.code ∧ takesN o.code ≤ s.stack.length) ∧ (o.code = 14 → 0 ≤ (s.took o.code).thing 0) ∧ (o.code = 15 → 0 < s.stack.length) := by
  obtain ⟨cd, ar⟩ := o
  simp only at ho he ⊢
  have hk0 := h.kindAt 0
  have hk1 := h.kindAt 1
  have l0 : ¬ s.kindAt 0 < 0 → 0 < s.stack.length := fun hn => Shp.kind_lt hn
  have l1 : ¬ s.kindAt 1 < 0 → 1 < s.stack.length := fun hn => Shp.kind_lt hn
  have hma : above s.stack ≠ 0 → ∃ a, above s.stack = a + 1 := fun hn => ⟨above s.stack - 1, by omega⟩
  have h20 : cd = 0 ∨ cd = 1 ∨ cd = 2 ∨ cd = 3 ∨ cd = 4 ∨ cd = 5 ∨ cd = 6 ∨ cd = 7 ∨ cd = 8 ∨ cd = 9 ∨ cd = 10 ∨ cd = 11 ∨ cd = 12 ∨ cd = 13 ∨ cd = 14 ∨ cd = 15 ∨ cd = 16 ∨ cd = 17 ∨ cd = 18 ∨ cd = 19 := by omega
  rcases h20 with rfl | rfl | rfl | rfl | rfl | rfl | rfl | rfl | rfl | rfl | rfl | rfl | rfl | rfl | rfl | rfl | rfl | rfl | rfl | rfl
  case inr.inr.inr.inr.inr.inr.inr.inr.inr.inr.inr.inr.inr.inr.inl =>
    have hh : ¬ s.kindAt 0 < 0 ∧ s.kindAt 1 = 5 := by
      simp [stepFree, newK, hd, IsMarkOp, takeStep] at he
      omega
    have hl := l1 (by omega)
    refine ⟨fun hh => by simp [takesN] at hh, fun _ => by simp [takesN]; omega, fun _ => ?_, fun hh => by omega⟩
    have hth : 0 ≤ s.thing 1 := by have := hk1.2.2; omega
    have hlc : (s.cutTo (s.stack.length - 1)).stack.length = s.stack.length - 1 := by unfold Shp.cutTo; simp
    have e : (s.took 14).thing 0 = s.thing 1 := by
      have e0 : s.took 14 = s.cutTo (s.stack.length - 1) := by unfold Shp.took; simp [takesN]
      rw [e0]
      unfold Shp.thing
      rw [hlc, if_pos (by omega), if_pos (by omega)]
      unfold Shp.cutTo
      rw [List.getD_eq_getElem?_getD, List.getD_eq_getElem?_getD, List.getElem?_take, if_pos (by omega)]
      congr 2
    rw [e]
    exact hth
  all_goals
    simp [stepFree, newK, hd, IsMarkOp, takeStep, markStep] at he
    refine ⟨fun hh => ?_, fun hh => ?_, fun hh => by clear hma; omega, fun hh => ?_⟩
    · first | (simp [takesN] at hh; done) | (exact hma (by omega)) | (exact hma he.1)
    · clear hma; first | (simp [takesN] at hh; done) | (simp [takesN]; done) | (simp [takesN]; omega) | (have hky := he.2.1.1; unfold KeyK at hky; simp [takesN]; omega)
    · clear hma; first | omega | (exact l0 (by omega))

theorem took_small {s : Shp} (h : s.Small) (c : Int) : (s.took c).Small := by
  unfold Shp.took
  have : ∀ n, (s.cutTo n).Small := fun n => ⟨h.k, by have := h.t; unfold Shp.cutTo; simp; omega, h.ok.cut n⟩
  split <;> exact this _

theorem take_code (q base off : Nat) (p : ShPtr) (s : Shp) (c : Nat) (w : World) (h : SbAt w base q off p s) (hs : s.Small) (hc : c < 20) (h1 : takesN (c : Int) = -1 → ∃ a, above s.stack = a + 1) (h2 : takesN (c : Int) ≠ -1 → 0 ≤ takesN (c : Int) ∧ takesN (c : Int) ≤ s.stack.length) :
    Calls Tryd.prog 49 #[.pointer (some ⟨q, off, none⟩), .int .i64 (takesOf c)] w (TurnsSb w base q off p (s.took (c : Int))) := by
  rw [takes_same c hc]
  unfold Shp.took
  by_cases ht : takesN (c : Int) = -1
  · rw [if_pos ht, ht]
    obtain ⟨a, ha⟩ := h1 ht
    rw [show above s.stack - 1 = a by omega]
    exact take_all q base off p s a w h hs ha
  · rw [if_neg ht]
    obtain ⟨h3, h4⟩ := h2 ht
    exact take_any q base off p s (takesN (c : Int)) _ w h hs (by omega) ht (by omega) h3

theorem act_code (q base off : Nat) (p : ShPtr) (s : Shp) (c : Nat) (ar : Int) (w : World) (h : SbAt w base q off p s) (hs : s.Small) (hbase : base ≤ w.heap.size) (hc : c < 20) (ha : c = 15 ∨ c = 16 → 0 ≤ ar ∧ ar < 20) (h14 : c = 14 → 0 ≤ s.thing 0) (h15 : c = 15 → 0 < s.stack.length) :
    Calls Tryd.prog 50 #[.pointer (some ⟨q, off, none⟩), .agg #[.int .i64 (c : Int), .int .i64 ar]] w (TurnsSb w base q off p (s.acted ⟨(c : Int), ar⟩)) := by
  match c, hc, ha, h14, h15 with
  | 0, _, _, _, _ => exact act_new q base off p s 0 ar 0 w h hs hbase (by unfold IsNewOp; omega)
  | 1, _, _, _, _ => exact act_new q base off p s 1 ar 1 w h hs hbase (by unfold IsNewOp; omega)
  | 2, _, _, _, _ => exact act_mark q base off p s ar w h hs hbase
  | 3, _, _, _, _ => exact act_new q base off p s 3 ar 2 w h hs hbase (by unfold IsNewOp; omega)
  | 4, _, _, _, _ => exact act_new q base off p s 4 ar 2 w h hs hbase (by unfold IsNewOp; omega)
  | 5, _, _, _, _ => exact act_new q base off p s 5 ar 2 w h hs hbase (by unfold IsNewOp; omega)
  | 6, _, _, _, _ => exact act_new q base off p s 6 ar 2 w h hs hbase (by unfold IsNewOp; omega)
  | 7, _, _, _, _ => exact act_new q base off p s 7 ar 3 w h hs hbase (by unfold IsNewOp; omega)
  | 8, _, _, _, _ => exact act_idle q base off p s 8 ar w h hs hbase (by unfold IsIdleOp; omega)
  | 9, _, _, _, _ => exact act_idle q base off p s 9 ar w h hs hbase (by unfold IsIdleOp; omega)
  | 10, _, _, _, _ => exact act_new q base off p s 10 ar 4 w h hs hbase (by unfold IsNewOp; omega)
  | 11, _, _, _, _ => exact act_idle q base off p s 11 ar w h hs hbase (by unfold IsIdleOp; omega)
  | 12, _, _, _, _ => exact act_idle q base off p s 12 ar w h hs hbase (by unfold IsIdleOp; omega)
  | 13, _, _, _, _ => exact act_new q base off p s 13 ar 5 w h hs hbase (by unfold IsNewOp; omega)
  | 14, _, _, h14, _ => exact act_state q base off p s ar w h hs hbase (h14 rfl)
  | 15, _, ha, _, h15 =>
    obtain ⟨h1, h2⟩ := ha (.inl rfl)
    obtain ⟨j, rfl⟩ := Int.eq_ofNat_of_zero_le h1
    exact act_put q base off p s j w h hs hbase (by omega) (h15 rfl)
  | 16, _, ha, _, _ =>
    obtain ⟨h1, h2⟩ := ha (.inr rfl)
    obtain ⟨j, rfl⟩ := Int.eq_ofNat_of_zero_le h1
    exact act_get q base off p s j w h hs hbase (by omega)
  | 17, _, _, _, _ => exact act_idle q base off p s 17 ar w h hs hbase (by unfold IsIdleOp; omega)
  | 18, _, _, _, _ => exact act_idle q base off p s 18 ar w h hs hbase (by unfold IsIdleOp; omega)
  | 19, _, _, _, _ => exact act_stop q base off p s ar w h hs hbase
  | n + 20, hc, _, _, _ => omega

end Go.Proofs.YtochdhibmmohfaaDoor
