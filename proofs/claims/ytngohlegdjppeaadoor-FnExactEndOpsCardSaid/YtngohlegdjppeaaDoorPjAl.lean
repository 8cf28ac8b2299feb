/-
  Lemmas, several texts in one: EndL, ChkI, EqO.
-/
import Derived.Test.YtngohlegdjppeaaDoorPjAc
import Derived.Test.YtngohlegdjppeaaDoorPjAj
import Derived.Test.YtngohlegdjppeaaDoorPjAk
import Derived.Test.YtngohlegdjppeaaDoorPjAe
import Derived.Test.YtngohlegdjppeaaDoorPjAf
import Derived.Test.YtngohlegdjppeaaDoorPjAa
import Derived.Deep.QuietTactic
import Derived.BigQuiet
import Derived.StillTailTactics
namespace Go.Proofs.YtngohlegdjppeaaDoor
set_option linter.unusedVariables false

open Classical in
/-- the next order that leads to the end -/
noncomputable def endOp (l : List Int) : Od := if ∃ x ∈ l, x < 0 then ⟨3, 0⟩ else if 1 < l.length then ⟨6, 0⟩ else if l.length = 0 then ⟨4, 0⟩ else ⟨19, 0⟩

theorem negs_marks (l : List Int) : ∀ k, k ≤ l.length → negs l k = marksIn (l.take k)
  | 0, _ => by simp [negs, marksIn]
  | k + 1, hk => by
    have hlt : k < l.length := by omega
    rw [negs, negs_marks l k (by omega), List.take_succ_eq_append_getElem hlt, marksIn_append, marksIn_one, List.getD_eq_getElem?_getD, List.getElem?_eq_getElem hlt]
    rfl
theorem negs_all (l : List Int) : negs l l.length = marksIn l := by rw [negs_marks l _ (Nat.le_refl _), List.take_length]

theorem marksIn_pos {l : List Int} : 0 < marksIn l ↔ ∃ x ∈ l, x < 0 := by
  unfold marksIn
  rw [List.length_pos_iff_exists_mem]
  constructor
  · rintro ⟨x, hx⟩
    rw [List.mem_filter] at hx
    exact ⟨x, hx.1, by simpa using hx.2⟩
  · rintro ⟨x, hx, h⟩
    exact ⟨x, List.mem_filter.2 ⟨hx, by simpa using h⟩⟩

theorem free_pos {a : List Int} (b : List Int) (h : ∀ x ∈ a, 0 ≤ x) : free (a ++ b) = a.length + free b := by
  induction a with
  | nil => simp
  | cons x a ih =>
    rw [List.cons_append, free, if_pos (h x (by simp)), ih (fun y hy => h y (by simp [hy])), List.length_cons]
    omega
theorem free_neg {a : List Int} (b : List Int) (h : ∃ x ∈ a, x < 0) : free (a ++ b) = free a := by
  induction a with
  | nil => obtain ⟨x, hx, _⟩ := h; cases hx
  | cons x a ih =>
    rw [List.cons_append, free, free]
    by_cases hx : 0 ≤ x
    · rw [if_pos hx, if_pos hx, ih]
      obtain ⟨y, hy, h2⟩ := h
      rcases List.mem_cons.1 hy with rfl | hy
      · omega
      · exact ⟨y, hy, h2⟩
    · rw [if_neg hx, if_neg hx]
theorem free_own {a : List Int} (h : ∀ x ∈ a, 0 ≤ x) : free a = a.length := by
  have := free_pos [] h
  simpa [free] using this

/-- how many things there are when all marks are closed -/
def things (l : List Int) : Nat := free l + (if 0 < marksIn l then 1 else 0)
theorem tailOps_is (l : List Int) : tailOps l = List.replicate (marksIn l) ⟨3, 0⟩ ++ List.replicate (things l - 1) ⟨6, 0⟩ ++ (if things l = 0 then [⟨4, 0⟩] else []) ++ [⟨19, 0⟩] := by
  unfold tailOps things
  rw [negs_all]

theorem no_marks {l : List Int} (h : ¬ ∃ x ∈ l, x < 0) : marksIn l = 0 ∧ things l = l.length ∧ ∀ x ∈ l, 0 ≤ x := by
  have h0 : ∀ x ∈ l, 0 ≤ x := fun x hx => by
    rcases Int.lt_or_le x 0 with h2 | h2
    · exact absurd ⟨x, hx, h2⟩ h
    · exact h2
  have hm := marksIn_free h0
  refine ⟨hm, ?_, h0⟩
  unfold things
  rw [hm, free_own h0, if_neg (by omega), Nat.add_zero]

/-- a mark is closed -/
theorem close_mark {l : List Int} {a : Nat} (h : above l = a + 1) {x : Int} (hx : 0 ≤ x) : marksIn l = marksIn (l.take a ++ [x]) + 1 ∧ things (l.take a ++ [x]) = things l := by
  have hm := marks_above h
  have h1 : marksIn (l.take a ++ [x]) = marksIn (l.take a) := by rw [marksIn_append, marksIn_one, if_neg (by omega), Nat.add_zero]
  refine ⟨by rw [h1, hm], ?_⟩
  have hle := above_le l
  have hlt : a < l.length := by omega
  have hmk := above_mark h
  have hsplit : l = l.take a ++ l.drop a := (List.take_append_drop a l).symm
  have hd : free (l.drop a) = 0 := by
    rw [List.drop_eq_getElem_cons hlt, free, if_neg]
    rw [List.getD_eq_getElem?_getD, List.getElem?_eq_getElem hlt] at hmk
    simp only [Option.getD_some] at hmk
    omega
  unfold things
  rw [h1, hm]
  by_cases hc : ∃ y ∈ l.take a, y < 0
  · rw [free_neg [x] hc, if_pos (marksIn_pos.2 hc), if_pos (by omega)]
    conv => { rhs; rw [hsplit] }
    rw [free_neg _ hc]
  · obtain ⟨h2, _, h4⟩ := no_marks hc
    rw [free_pos [x] h4, h2, if_neg (by omega), if_pos (by omega)]
    conv => { rhs; rw [hsplit] }
    rw [free_pos _ h4, hd]
    have : free [x] = 1 := by rw [free, if_pos hx]; rfl
    rw [this]

theorem tail_mark {l : List Int} {a : Nat} (h : above l = a + 1) {x : Int} (hx : 0 ≤ x) : tailOps l = ⟨3, 0⟩ :: tailOps (l.take a ++ [x]) := by
  obtain ⟨h1, h2⟩ := close_mark h hx
  rw [tailOps_is, tailOps_is, h1, h2, List.replicate_succ]
  rfl
theorem tail_two {l : List Int} (h : ¬ ∃ x ∈ l, x < 0) (h1 : 1 < l.length) {x : Int} (hx : 0 ≤ x) : tailOps l = ⟨6, 0⟩ :: tailOps (l.take (l.length - 2) ++ [x]) := by
  obtain ⟨m1, t1, p1⟩ := no_marks h
  have hn : ¬ ∃ y ∈ l.take (l.length - 2) ++ [x], y < 0 := by
    rintro ⟨y, hy, h2⟩
    rcases List.mem_append.1 hy with hy | hy
    · exact h ⟨y, List.mem_of_mem_take hy, h2⟩
    · simp at hy; omega
  obtain ⟨m2, t2, _⟩ := no_marks hn
  have hl : (l.take (l.length - 2) ++ [x]).length = l.length - 1 := by simp; omega
  rw [tailOps_is, tailOps_is, m1, m2, t1, t2, hl, if_neg (by omega), if_neg (by omega)]
  have e : l.length - 1 = (l.length - 1 - 1) + 1 := by omega
  conv => { lhs; rw [e, List.replicate_succ] }
  rfl
theorem tail_none {x : Int} (hx : 0 ≤ x) : tailOps [] = ⟨4, 0⟩ :: tailOps [x] := by
  have hn : ¬ ∃ y ∈ [x], y < 0 := by rintro ⟨y, hy, h2⟩; simp at hy; omega
  obtain ⟨m2, t2, _⟩ := no_marks hn
  have hn0 : ¬ ∃ y ∈ ([] : List Int), y < 0 := by rintro ⟨y, hy, h2⟩; cases hy
  obtain ⟨m1, t1, _⟩ := no_marks hn0
  rw [tailOps_is, tailOps_is, m1, m2, t1, t2]
  rfl
theorem tail_one {l : List Int} (h : ¬ ∃ x ∈ l, x < 0) (h1 : l.length = 1) : tailOps l = [⟨19, 0⟩] := by
  obtain ⟨m1, t1, _⟩ := no_marks h
  rw [tailOps_is, m1, t1, h1]
  rfl

end Go.Proofs.YtngohlegdjppeaaDoor

namespace Go.Proofs.YtngohlegdjppeaaDoor
open Go.RowKit
set_option linter.unusedVariables false

/-- what a call that only tells hands back -/
def HasGot (w : World) (b : Bool) (e : Ending) (w' : World) : Prop := e = .returned (.bool b) ∧ Below w.heap.size w w'

set_option maxRecDepth 100000 in
set_option maxHeartbeats 4000000 in
theorem hasNeeded_got (q base off : Nat) (p : ShPtr) (s : Shp) (c : Nat) (ar : Int) (m0 m1 m2 : Nat) (b : Bool) (w : World) (h : SbAt w base q off p s) (hs : s.Small) (hF : FormsAt w w.heap.size) (hN : NeedsAt w w.heap.size) (hc : c < 20) (ha : c = 16 → 0 ≤ ar ∧ ar < 20 ∧ 0 ≤ s.memo.getD ar.toNat 0)
    (hm0 : s.view0 (c : Int) &&& need0 (c : Int) = m0) (hm1 : s.view1 (c : Int) &&& need1 (c : Int) = m1) (hm2 : s.view2 (c : Int) &&& need2 (c : Int) = m2)
    (hb : (((m0 : Int) == (need0 (c : Int) : Int)) && (((m1 : Int) == (need1 (c : Int) : Int)) && ((m2 : Int) == (need2 (c : Int) : Int)))) = b) :
    Calls Tryd.prog 25 #[.pointer (some ⟨q, off, none⟩), .agg #[.int .i64 (c : Int), .int .i64 ar]] w (HasGot w b) := by
  have hB0 := (Below.refl w.heap.size w).alloc (Nat.le_refl _) (.cells #[.int .i64 (c : Int), .int .i64 ar] 39)
  have hB := hide hB0
  have hlo := hide (Lies.new w #[.int .i64 (c : Int), .int .i64 ar] 39)
  have H2 := hide (h.alloc (.cells #[.int .i64 (c : Int), .int .i64 ar] 39))
  have HF := hide (hF.later hB0 (Nat.le_refl _))
  have HN := hide (hN.later hB0 (Nat.le_refl _))
  have Hs := hide hs
  have HB := hide hb
  have hwW : w.heap.size < (w.alloc (.cells #[.int .i64 (c : Int), .int .i64 ar] 39)).heap.size := by simp
  have hi0 : (0 : Int) ≤ (c : Int) := by omega
  have hi1 : (c : Int) < 20 := by omega
  have HV : ∀ W, SbAt W base q off p s → Calls Tryd.prog 38 #[.pointer (some ⟨q, off, none⟩), .int .i64 (takesOf c)] W (GivesV W (s.view0 (c : Int)) (s.view1 (c : Int)) (s.view2 (c : Int))) := fun W hW => viewOf_code q base off p s c W hW hs hc
  have HW : ∀ W, Calls Tryd.prog 39 #[.agg #[.int .i64 (s.view0 (c : Int) : Int), .int .i64 (s.view1 (c : Int) : Int), .int .i64 (s.view2 (c : Int) : Int)], .agg #[.int .i64 (need0 (c : Int) : Int), .int .i64 (need1 (c : Int) : Int), .int .i64 (need2 (c : Int) : Int)]] W (GivesV W m0 m1 m2) := fun W => by
    rw [← hm0, ← hm1, ← hm2]
    exact within_any _ _ _ _ _ _ W (view_small _ _).1 (view_small _ _).2.1 (view_small _ _).2.2 (need_small _).1 (need_small _).2.1 (need_small _).2.2
  generalize s.view0 (c : Int) = v0 at HV HW hm0
  generalize s.view1 (c : Int) = v1 at HV HW hm1
  generalize s.view2 (c : Int) = v2 at HV HW hm2
  have hVH := hide HV
  have hWH := hide HW
  clear HV HW hm0 hm1 hm2 hb
  have hoff := h.lt
  by_cases h16 : c = 16
  · obtain ⟨ha0, ha1, ham⟩ := ha h16
    obtain ⟨j, rfl⟩ := Int.eq_ofNat_of_zero_le ha0
    have t16 : ((c : Int) == 16) = true := by simp; omega
    rw [Int.toNat_natCast] at ham
    have hml := hs.ok.ml
    obtain ⟨x, hx⟩ : ∃ x, s.memo[j]? = some x := ⟨_, List.getElem?_eq_getElem (by omega)⟩
    have hgd : s.memo.getD j 0 = x := by rw [List.getD_eq_getElem?_getD, hx]; rfl
    rw [hgd] at ham
    have hxn : (x == -1) = false := by simp; omega
    obtain ⟨gm, hM, hg1, hg2, hcm, hfm⟩ := H2.out.own.m.atJ hx
    obtain ⟨e0, e1, e2, e3, e4, f0, f1, f2, f3, f4⟩ := H2.out.c
    rw [hM] at e3
    have d0 := hlo.out.cell 0
    have d1 := hlo.out.cell 1
    simp only [List.getElem?_toArray, List.getElem?_cons_zero, List.getElem?_cons_succ] at d0 d1
    have hj1 : (j : Int) < (s.memo.length : Int) := by omega
    clear h hs hx hgd hml hM hF hN hB0 ha ham h16
    go_enter Tryd.func25, Tryd.ntmps25
    go_upto_region 1 with fail
    generalize w.alloc (.cells #[.int .i64 (c : Int), .int .i64 (j : Int)] 39) = W at hB hlo H2 HF HN hwW e0 e1 e2 e3 e4 f0 f1 f2 f3 f4 d0 d1 hcm hfm hg2 ⊢
    go_quiet (fail)
    have hDr := below_drewN (Below.refl W.heap.size W) nq
    have HB2 := hide (below_drewN hB.out nq)
    have hlo2 := hlo.out.below hDr hwW
    have HS2 := hide (H2.out.below hDr)
    have HF2 := hide (HF.out.later hDr (Nat.le_refl _))
    have HN2 := hide (HN.out.later hDr (Nat.le_refl _))
    clear hDr e0 e1 e2 e3 e4 f0 f1 f2 f3 f4 d0 d1 hcm hfm hg2 H2 HF HN hB hlo
    have hwV : w.heap.size < (W.drewN nq).heap.size := by simpa using hwW
    generalize W.drewN nq = V at HB2 hlo2 HS2 HF2 HN2 hwV ⊢
    have d0 := hlo2.cell 0
    have d1 := hlo2.cell 1
    simp only [List.getElem?_toArray, List.getElem?_cons_zero, List.getElem?_cons_succ] at d0 d1
    have hn0 := HN2.out.n0 c hc
    have hn1 := HN2.out.n1 c hc
    have hn2 := HN2.out.n2 c hc
    clear hlo2 hwW
    go_upto_region 4 with fail
    have l3 := Lies.new V #[.int .i64 (need0 (c : Int) : Int), .int .i64 (need1 (c : Int) : Int), .int .i64 (need2 (c : Int) : Int)] 65
    have hA := (Below.refl V.heap.size V).alloc (Nat.le_refl _) (.cells #[.int .i64 (need0 (c : Int) : Int), .int .i64 (need1 (c : Int) : Int), .int .i64 (need2 (c : Int) : Int)] 65)
    have d0a := (hA.cell (p := ⟨w.heap.size, 0, none⟩) hwV).trans d0
    have HS3 := hide (HS2.out.below hA)
    have hft := (HF2.out.later hA (Nat.le_refl _)).takes c hc
    have hfl := (HF2.out.later hA (Nat.le_refl _)).lt
    have HB3 := hide (HB2.out.trans (hA.mono (by omega)))
    have hVX : w.heap.size < (V.alloc (.cells #[.int .i64 (need0 (c : Int) : Int), .int .i64 (need1 (c : Int) : Int), .int .i64 (need2 (c : Int) : Int)] 65)).heap.size := by simp; omega
    clear hA d0 d1 hn0 hn1 hn2 HB2 HS2 HF2 HN2
    generalize V.alloc (.cells #[.int .i64 (need0 (c : Int) : Int), .int .i64 (need1 (c : Int) : Int), .int .i64 (need2 (c : Int) : Int)] 65) = X at l3 d0a HS3 hft hfl HB3 hVX ⊢
    have hnX := l3.lt
    have r0 := l3.cell 0
    have r1 := l3.cell 1
    have r2 := l3.cell 2
    simp only [List.getElem?_toArray, List.getElem?_cons_zero, List.getElem?_cons_succ] at r0 r1 r2
    clear l3
    generalize V.heap.size = nb at r0 r1 r2 hnX ⊢
    generalize takesOf c = tk at hft hVH
    generalize need0 (c : Int) = n0 at r0 hWH HB ⊢
    generalize need1 (c : Int) = n1 at r1 hWH HB ⊢
    generalize need2 (c : Int) = n2 at r2 hWH HB ⊢
    have hE : ∀ w' : World, (Op.equalIn 10000 65 (.agg #[.int .i64 (m0 : Int), .int .i64 (m1 : Int), .int .i64 (m2 : Int)]) (.agg #[.int .i64 (n0 : Int), .int .i64 (n1 : Int), .int .i64 (n2 : Int)])).run Tryd.prog w' = .ok b w' := fun w' => by rw [eqView, HB.out]
    go_region_held3 (fun w' => w'.cell? ⟨w.heap.size, 0, none⟩ = some (.int .i64 (c : Int)) ∧ w'.cell? ⟨0, c * 3, none⟩ = some (.int .i64 tk) ∧ w'.cell? ⟨nb, 0, none⟩ = some (.int .i64 (n0 : Int)) ∧ w'.cell? ⟨nb, 1, none⟩ = some (.int .i64 (n1 : Int)) ∧ w'.cell? ⟨nb, 2, none⟩ = some (.int .i64 (n2 : Int)))
      (first
        | (go_split_ands; refine ⟨?_, ?_, ?_, ?_, ?_⟩ <;> assumption))
      (first
        | (go_at_call 38; refine (hVH.out _ HS3.out.drew).mono ?_; rintro e w6 ⟨rfl, hb6⟩; have q0 := (hb6.cell (p := ⟨w.heap.size, 0, none⟩) hVX).trans d0a; have q1 := (hb6.cell (p := ⟨0, c * 3, none⟩) hfl).trans hft; have q2 := (hb6.cell (p := ⟨nb, 0, none⟩) hnX).trans r0; have q3 := (hb6.cell (p := ⟨nb, 1, none⟩) hnX).trans r1; have q4 := (hb6.cell (p := ⟨nb, 2, none⟩) hnX).trans r2)
        | (go_at_call 39; refine (hWH.out _).mono ?_; rintro e w7 ⟨rfl, hb7⟩; have y0 := (hb7.cell (p := ⟨w.heap.size, 0, none⟩) (Nat.lt_of_lt_of_le hVX hb6.size)).trans q0; have y1 := (hb7.cell (p := ⟨0, c * 3, none⟩) (Nat.lt_of_lt_of_le hfl hb6.size)).trans q1; have y2 := (hb7.cell (p := ⟨nb, 0, none⟩) (Nat.lt_of_lt_of_le hnX hb6.size)).trans q2; have y3 := (hb7.cell (p := ⟨nb, 1, none⟩) (Nat.lt_of_lt_of_le hnX hb6.size)).trans q3; have y4 := (hb7.cell (p := ⟨nb, 2, none⟩) (Nat.lt_of_lt_of_le hnX hb6.size)).trans q4))
    have HE := hide ((HB3.out.drew.trans (hb6.mono (by simp; omega))).trans (hb7.mono (by have := hb6.size; simp at this; omega)))
    clear hE hb6 hb7 q0 q1 q2 q3 q4 y0 y1 y2 y3 y4 r0 r1 r2 hft d0a
    go_wp2
    go_ret
    exact ⟨rfl, HE.out⟩
  · have t16 : ((c : Int) == 16) = false := by simp; omega
    obtain ⟨e0, e1, e2, e3, e4, f0, f1, f2, f3, f4⟩ := H2.out.c
    have d0 := hlo.out.cell 0
    have d1 := hlo.out.cell 1
    simp only [List.getElem?_toArray, List.getElem?_cons_zero, List.getElem?_cons_succ] at d0 d1
    clear h hs hF hN hB0 ha h16
    go_enter Tryd.func25, Tryd.ntmps25
    go_upto_region 1 with fail
    generalize w.alloc (.cells #[.int .i64 (c : Int), .int .i64 ar] 39) = W at hB hlo H2 HF HN hwW e0 e1 e2 e3 e4 f0 f1 f2 f3 f4 d0 d1 ⊢
    go_quiet (fail)
    have hDr := below_drewN (Below.refl W.heap.size W) nq
    have HB2 := hide (below_drewN hB.out nq)
    have hlo2 := hlo.out.below hDr hwW
    have HS2 := hide (H2.out.below hDr)
    have HF2 := hide (HF.out.later hDr (Nat.le_refl _))
    have HN2 := hide (HN.out.later hDr (Nat.le_refl _))
    clear hDr e0 e1 e2 e3 e4 f0 f1 f2 f3 f4 d0 d1 H2 HF HN hB hlo
    have hwV : w.heap.size < (W.drewN nq).heap.size := by simpa using hwW
    generalize W.drewN nq = V at HB2 hlo2 HS2 HF2 HN2 hwV ⊢
    have d0 := hlo2.cell 0
    have d1 := hlo2.cell 1
    simp only [List.getElem?_toArray, List.getElem?_cons_zero, List.getElem?_cons_succ] at d0 d1
    have hn0 := HN2.out.n0 c hc
    have hn1 := HN2.out.n1 c hc
    have hn2 := HN2.out.n2 c hc
    clear hlo2 hwW
    go_upto_region 4 with fail
    have l3 := Lies.new V #[.int .i64 (need0 (c : Int) : Int), .int .i64 (need1 (c : Int) : Int), .int .i64 (need2 (c : Int) : Int)] 65
    have hA := (Below.refl V.heap.size V).alloc (Nat.le_refl _) (.cells #[.int .i64 (need0 (c : Int) : Int), .int .i64 (need1 (c : Int) : Int), .int .i64 (need2 (c : Int) : Int)] 65)
    have d0a := (hA.cell (p := ⟨w.heap.size, 0, none⟩) hwV).trans d0
    have HS3 := hide (HS2.out.below hA)
    have hft := (HF2.out.later hA (Nat.le_refl _)).takes c hc
    have hfl := (HF2.out.later hA (Nat.le_refl _)).lt
    have HB3 := hide (HB2.out.trans (hA.mono (by omega)))
    have hVX : w.heap.size < (V.alloc (.cells #[.int .i64 (need0 (c : Int) : Int), .int .i64 (need1 (c : Int) : Int), .int .i64 (need2 (c : Int) : Int)] 65)).heap.size := by simp; omega
    clear hA d0 d1 hn0 hn1 hn2 HB2 HS2 HF2 HN2
    generalize V.alloc (.cells #[.int .i64 (need0 (c : Int) : Int), .int .i64 (need1 (c : Int) : Int), .int .i64 (need2 (c : Int) : Int)] 65) = X at l3 d0a HS3 hft hfl HB3 hVX ⊢
    have hnX := l3.lt
    have r0 := l3.cell 0
    have r1 := l3.cell 1
    have r2 := l3.cell 2
    simp only [List.getElem?_toArray, List.getElem?_cons_zero, List.getElem?_cons_succ] at r0 r1 r2
    clear l3
    generalize V.heap.size = nb at r0 r1 r2 hnX ⊢
    generalize takesOf c = tk at hft hVH
    generalize need0 (c : Int) = n0 at r0 hWH HB ⊢
    generalize need1 (c : Int) = n1 at r1 hWH HB ⊢
    generalize need2 (c : Int) = n2 at r2 hWH HB ⊢
    have hE : ∀ w' : World, (Op.equalIn 10000 65 (.agg #[.int .i64 (m0 : Int), .int .i64 (m1 : Int), .int .i64 (m2 : Int)]) (.agg #[.int .i64 (n0 : Int), .int .i64 (n1 : Int), .int .i64 (n2 : Int)])).run Tryd.prog w' = .ok b w' := fun w' => by rw [eqView, HB.out]
    go_region_held3 (fun w' => w'.cell? ⟨w.heap.size, 0, none⟩ = some (.int .i64 (c : Int)) ∧ w'.cell? ⟨0, c * 3, none⟩ = some (.int .i64 tk) ∧ w'.cell? ⟨nb, 0, none⟩ = some (.int .i64 (n0 : Int)) ∧ w'.cell? ⟨nb, 1, none⟩ = some (.int .i64 (n1 : Int)) ∧ w'.cell? ⟨nb, 2, none⟩ = some (.int .i64 (n2 : Int)))
      (first
        | (go_split_ands; refine ⟨?_, ?_, ?_, ?_, ?_⟩ <;> assumption))
      (first
        | (go_at_call 38; refine (hVH.out _ HS3.out.drew).mono ?_; rintro e w6 ⟨rfl, hb6⟩; have q0 := (hb6.cell (p := ⟨w.heap.size, 0, none⟩) hVX).trans d0a; have q1 := (hb6.cell (p := ⟨0, c * 3, none⟩) hfl).trans hft; have q2 := (hb6.cell (p := ⟨nb, 0, none⟩) hnX).trans r0; have q3 := (hb6.cell (p := ⟨nb, 1, none⟩) hnX).trans r1; have q4 := (hb6.cell (p := ⟨nb, 2, none⟩) hnX).trans r2)
        | (go_at_call 39; refine (hWH.out _).mono ?_; rintro e w7 ⟨rfl, hb7⟩; have y0 := (hb7.cell (p := ⟨w.heap.size, 0, none⟩) (Nat.lt_of_lt_of_le hVX hb6.size)).trans q0; have y1 := (hb7.cell (p := ⟨0, c * 3, none⟩) (Nat.lt_of_lt_of_le hfl hb6.size)).trans q1; have y2 := (hb7.cell (p := ⟨nb, 0, none⟩) (Nat.lt_of_lt_of_le hnX hb6.size)).trans q2; have y3 := (hb7.cell (p := ⟨nb, 1, none⟩) (Nat.lt_of_lt_of_le hnX hb6.size)).trans q3; have y4 := (hb7.cell (p := ⟨nb, 2, none⟩) (Nat.lt_of_lt_of_le hnX hb6.size)).trans q4))
    have HE := hide ((HB3.out.drew.trans (hb6.mono (by simp; omega))).trans (hb7.mono (by have := hb6.size; simp at this; omega)))
    clear hE hb6 hb7 q0 q1 q2 q3 q4 y0 y1 y2 y3 y4 r0 r1 r2 hft d0a
    go_wp2
    go_ret
    exact ⟨rfl, HE.out⟩

end Go.Proofs.YtngohlegdjppeaaDoor

namespace Go.Proofs.YtngohlegdjppeaaDoor
open Go.RowKit

theorem od_ne {m n : Od} (h : m.code ≠ n.code ∨ m.arg ≠ n.arg) : decide (m = n) = false := by
  simp only [decide_eq_false_iff_not]
  rintro rfl
  simp at h

theorem od_eq {m n : Od} (h1 : m.code = n.code) (h2 : m.arg = n.arg) : decide (m = n) = true := by
  cases m; cases n
  simp_all

set_option maxHeartbeats 1000000 in
theorem eqOp_any (m n : Od) (w : World) :
    Calls Tryd.prog 17 #[.agg #[.int .i64 m.code, .int .i64 m.arg], .agg #[.int .i64 n.code, .int .i64 n.arg]] w fun e w' =>
      e = .returned (.bool (decide (m = n))) ∧ Below w.heap.size w w' := by
  have hB : Below w.heap.size w ((w.alloc (.cells #[.int .i64 m.code, .int .i64 m.arg] 39)).alloc (.cells #[.int .i64 n.code, .int .i64 n.arg] 39)) :=
    ((Below.refl _ _).alloc (Nat.le_refl _) _).alloc (by simp) _
  by_cases h1 : m.code = n.code
  · have t1 : (m.code != n.code) = false := by simpa using h1
    by_cases h2 : m.arg = n.arg
    · have t2 : (m.arg != n.arg) = false := by simpa using h2
      have HF := hide (od_eq h1 h2)
      clear h1 h2
      go_enter Tryd.func17, Tryd.ntmps17
      go_wp2
      go_ret
      exact ⟨ret_bool HF.out.symm, hB⟩
    · have t2 : (m.arg != n.arg) = true := by simpa using h2
      have HF := hide (od_ne (.inr h2))
      clear h1 h2
      go_enter Tryd.func17, Tryd.ntmps17
      go_wp2
      go_ret
      exact ⟨ret_bool HF.out.symm, hB⟩
  · have t1 : (m.code != n.code) = true := by simpa using h1
    have HF := hide (od_ne (.inl h1))
    clear h1
    go_enter Tryd.func17, Tryd.ntmps17
    go_wp2
    go_ret
    exact ⟨ret_bool HF.out.symm, hB⟩

set_option maxRecDepth 100000 in
set_option maxHeartbeats 1000000 in
theorem eqOpS_any (A A' : Option Addr) (ms ns : List Od) (c c' : Nat) (w : World) (h : OpsAt w w.heap.size A ms) (h' : OpsAt w w.heap.size A' ns) :
    Calls Tryd.prog 8 #[.slice A ms.length c, .slice A' ns.length c'] w fun e w' => e = .returned (.bool (decide (ms = ns))) ∧ Below w.heap.size w w' := by
  have hl := h.len
  by_cases hne : ms.length = ns.length
  · have hb0 : ((ms.length : Int) != (ns.length : Int)) = false := by simp [hne]
    go_enter Tryd.func8, Tryd.ntmps8
    go_wp2_with fail
    go_loopw [5] (fun i wr => ∃ k : Nat, k ≤ ms.length ∧ i = .int .i64 k ∧ Below w.heap.size w wr ∧ ∀ j, j < k → ms[j]? = ns[j]?) (fun i _ => ms.length - (intOf i).toNat)
    case atStart => exact ⟨0, Nat.zero_le _, rfl, Below.refl _ _, fun j hj => absurd hj (by omega)⟩
    case round =>
      obtain ⟨k, hk, rfl, hb, he0⟩ := hrel
      have he := hide he0
      clear he0
      by_cases hlt : k < ms.length
      · obtain ⟨b, off, m, rfl, hbl, hx, _, hm0, hm1⟩ := (h.below hb).at_ hlt
        obtain ⟨b', off', n, rfl, hbl', hy, _, hn0, hn1⟩ := (h'.below hb).at_ (k := k) (by omega)
        have Hx := hide hx
        have Hy := hide hy
        clear hx hy
        have hk1 : (0 : Int) ≤ (k : Int) := by omega
        have hk2 : (k : Int) < (ms.length : Int) := by omega
        have hk3 : (k : Int) < (ns.length : Int) := by omega
        have Hne := hide hne
        clear hne
        have hb2 : Below w.heap.size w wr.drew := hb.drew
        go_wp2_with fail
        go_still_tail 8, (by kernel_rfl)
        change wpList _ _ _ _ _ wr.drew
        generalize wr.drew = w2 at hb2 ⊢
        go_wp2_with fail
        refine (eqOp_any m n w2).mono ?_
        rintro e w' ⟨rfl, hb3⟩
        have hb4 := hb2.trans (hb3.mono hb2.size)
        clear hb2 hb3
        by_cases hmn : m = n
        · subst hmn
          have t : decide (m = m) = true := by simp
          rw [t]
          clear t
          go_wp2
          go_roundw
          case rel => exact ⟨k + 1, by omega, by go_num, hb4, fun j hj => by
            by_cases e : j = k
            · subst e; rw [Hx.out, Hy.out]
            · exact he.out j (by omega)⟩
          case measure => simp [intOf]; omega
        · have t : decide (m = n) = false := by simpa using hmn
          rw [t]
          clear t
          have hF : decide (ms = ns) = false := by
            simp only [decide_eq_false_iff_not]
            intro e
            subst e
            have := Hx.out.symm.trans Hy.out
            injection this with this
            exact hmn this
          have HF := hide hF
          clear hF hmn
          go_wp2
          go_ret
          exact ⟨ret_bool HF.out.symm, hb4⟩
      · obtain rfl : k = ms.length := by omega
        have hF : decide (ms = ns) = true := by
          simp only [decide_eq_true_eq]
          exact eq_of_prefix hne rfl he.out
        have HF := hide hF
        clear hF hlt
        go_wp2
        go_ret
        exact ⟨ret_bool HF.out.symm, hb⟩
  · have hb1 : ((ms.length : Int) != (ns.length : Int)) = true := by simp; omega
    have hF : decide (ms = ns) = false := by
      simp only [decide_eq_false_iff_not]
      intro e
      exact hne (by rw [e])
    have HF := hide hF
    clear hF
    go_enter Tryd.func8, Tryd.ntmps8
    go_wp2
    go_ret
    exact ⟨ret_bool HF.out.symm, Below.refl _ _⟩

end Go.Proofs.YtngohlegdjppeaaDoor
