/-
  Lemmas, several texts in one: EndK, ChkJ.
-/
import Derived.Test.YtngohlegdjppeaaDoorPjAl
import Derived.Test.YtngohlegdjppeaaDoorPjAd
namespace Go.Proofs.YtngohlegdjppeaaDoor
set_option linter.unusedVariables false

theorem thing_free {s : Shp} (h : ∀ x ∈ s.stack, 0 ≤ x) {d : Nat} (hd : d < s.stack.length) : 0 ≤ s.thing d := by
  unfold Shp.thing
  rw [if_pos hd, List.getD_eq_getElem?_getD, List.getElem?_eq_getElem (by omega)]
  exact h _ (List.getElem_mem _)

theorem above_has {l : List Int} (h : ∃ x ∈ l, x < 0) : above l ≠ 0 := by
  intro h0
  obtain ⟨x, hx, hn⟩ := h
  obtain ⟨j, hj, e⟩ := List.getElem_of_mem hx
  have := above_free (l := l) (j := j) (by omega) hj
  rw [List.getD_eq_getElem?_getD, List.getElem?_eq_getElem hj] at this
  simp only [Option.getD_some] at this
  omega

/-- one order on the way to the end -/
theorem end_step {s : Shp} (h : s.Ok) (hd : s.done = false) : ∃ t, stepFree s (endOp s.stack) = some t ∧
    ((t.done = true ∧ tailOps s.stack = [endOp s.stack]) ∨ (t.done = false ∧ tailOps s.stack = endOp s.stack :: tailOps t.stack)) := by
  have hnd : ¬ s.done = true := by rw [hd]; decide
  by_cases hm : ∃ x ∈ s.stack, x < 0
  · have ha := above_has hm
    obtain ⟨a, haa⟩ : ∃ a, above s.stack = a + 1 := ⟨above s.stack - 1, by omega⟩
    have e : endOp s.stack = ⟨3, 0⟩ := by unfold endOp; rw [if_pos hm]
    rw [e]
    refine ⟨(s.cutTo (above s.stack - 1)).push 2, ?_, .inr ⟨hd, ?_⟩⟩
    · unfold stepFree
      rw [if_neg hnd, if_neg (by decide), if_neg (by decide), if_neg (by decide), if_pos (show IsMarkOp 3 from .inl rfl)]
      unfold markStep
      rw [if_neg ha, if_pos rfl]
    · rw [tail_mark haa (x := (s.kinds.length : Int)) (by omega), haa]
      rfl
  · obtain ⟨_, _, hp⟩ := no_marks hm
    by_cases h1 : 1 < s.stack.length
    · have e : endOp s.stack = ⟨6, 0⟩ := by unfold endOp; rw [if_neg hm, if_pos h1]
      rw [e]
      have k0 : ¬ s.kindAt 0 < 0 := fun hk => by have := (h.kindAt 0).2.2.1 hk; have := thing_free hp (d := 0) (by omega); omega
      have k1 : ¬ s.kindAt 1 < 0 := fun hk => by have := (h.kindAt 1).2.2.1 hk; have := thing_free hp (d := 1) (by omega); omega
      refine ⟨(s.cutTo (s.stack.length - 2)).push 2, ?_, .inr ⟨hd, ?_⟩⟩
      · unfold stepFree
        rw [if_neg hnd, if_neg (by decide), if_neg (by decide), if_neg (by decide), if_neg (by unfold IsMarkOp; decide)]
        unfold takeStep
        rw [if_neg k0, if_neg (by decide), if_pos rfl, if_neg k1]
      · rw [tail_two hm h1 (x := (s.kinds.length : Int)) (by omega)]
        rfl
    · by_cases h0 : s.stack.length = 0
      · have e : endOp s.stack = ⟨4, 0⟩ := by unfold endOp; rw [if_neg hm, if_neg h1, if_pos h0]
        rw [e]
        have hs : s.stack = [] := List.length_eq_zero_iff.1 h0
        refine ⟨s.push 2, ?_, .inr ⟨hd, ?_⟩⟩
        · unfold stepFree
          rw [if_neg hnd, if_pos (by decide)]
          rfl
        · have e2 : (s.push 2).stack = [(s.kinds.length : Int)] := by
            show s.stack ++ [(s.kinds.length : Int)] = _
            rw [hs]
            rfl
          rw [hs, e2]
          exact tail_none (by omega)
      · have h2 : s.stack.length = 1 := by omega
        have e : endOp s.stack = ⟨19, 0⟩ := by unfold endOp; rw [if_neg hm, if_neg h1, if_neg h0]
        rw [e]
        have k0 : ¬ s.kindAt 0 < 0 := fun hk => by have := (h.kindAt 0).2.2.1 hk; have := thing_free hp (d := 0) (by omega); omega
        refine ⟨{ s with done := true }, ?_, .inl ⟨rfl, tail_one hm h2⟩⟩
        unfold stepFree
        rw [if_neg hnd, if_neg (by decide), if_neg (by decide), if_neg (by decide), if_neg (by unfold IsMarkOp; decide)]
        unfold takeStep
        rw [if_neg k0, if_neg (by decide), if_neg (by decide), if_neg (by decide), if_neg (by decide), if_neg (by decide), if_neg (by decide), if_pos rfl, if_pos h2]

theorem endOp_ok (l : List Int) : OdOk (endOp l) := by
  unfold endOp
  split
  · exact od_fix (by omega) (by omega) (by simp [argMost])
  · split
    · exact od_fix (by omega) (by omega) (by simp [argMost])
    · split
      · exact od_fix (by omega) (by omega) (by simp [argMost])
      · exact od_fix (by omega) (by omega) (by simp [argMost])

/-- the ending can be run whole where it is not too long -/
theorem end_run : ∀ (m : Nat) {s : Shp} (h : s.Ok) (hd : s.done = false) {K : Nat} (hk : s.kinds.length ≤ K) (ht : s.stack.length ≤ K) (hm : (tailOps s.stack).length = m) (hl : K + m ≤ 300), (runShp s (tailOps s.stack)).2 = m
  | 0, s, h, hd, K, hk, ht, hm, hl => by
    obtain ⟨t, _, hh⟩ := end_step h hd
    rcases hh with ⟨_, e⟩ | ⟨_, e⟩ <;> rw [e] at hm <;> simp at hm
  | m + 1, s, h, hd, K, hk, ht, hm, hl => by
    obtain ⟨t, h1, hh⟩ := end_step h hd
    obtain ⟨o1, o2, o3, _⟩ := stepFree_ok h h1 (endOp_ok _).get
    have hst : stepShp s (endOp s.stack) = some t := by
      unfold stepShp
      rw [h1, Option.filter_some, if_pos (by simp only [decide_eq_true_eq]; exact ⟨by omega, by omega⟩)]
    rcases hh with ⟨_, e⟩ | ⟨hd2, e⟩
    · rw [e] at hm ⊢
      rw [runShp_go hst, runShp_end]
      simpa using hm
    · rw [e] at hm ⊢
      rw [runShp_go hst]
      have := end_run m (s := t) o1 hd2 (K := K + 1) (by omega) (by omega) (by simpa using hm) (by omega)
      show (runShp t (tailOps t.stack)).2 + 1 = m + 1
      rw [this]

theorem run_app {s : Shp} {a b : List Od} (h : (runShp s a).2 = a.length) : (runShp s (a ++ b)).2 = a.length + (runShp (runShp s a).1 b).2 := by
  induction a generalizing s with
  | nil => rw [List.nil_append, runShp_end]; simp
  | cons o a ih =>
    cases hst : stepShp s o with
    | none => rw [runShp_stop hst] at h; simp at h
    | some t =>
      rw [runShp_go hst] at h
      rw [List.cons_append, runShp_go hst, runShp_go hst]
      simp only [List.length_cons] at h ⊢
      rw [ih (s := t) (by omega)]
      omega

/-- what was done alone does the same -/
theorem run_pre {os : List Od} : ∀ {s : Shp}, runShp s (os.take (runShp s os).2) = runShp s os := by
  induction os with
  | nil => intro s; rfl
  | cons o os ih =>
    intro s
    cases hst : stepShp s o with
    | none => rw [runShp_stop hst, List.take_zero, runShp_end]
    | some t => rw [runShp_go hst, List.take_succ_cons, runShp_go hst, ih]

theorem run_few {os : List Od} : ∀ {s : Shp}, s.Ok → (∀ o ∈ os, OdOk o) → (runShp s os).1.Ok ∧ (runShp s os).1.kinds.length ≤ s.kinds.length + (runShp s os).2 ∧ (runShp s os).1.stack.length ≤ s.stack.length + (runShp s os).2 := by
  induction os with
  | nil => intro s h _; exact ⟨h, Nat.le_refl _, Nat.le_refl _⟩
  | cons o os ih =>
    intro s h ho
    cases hst : stepShp s o with
    | none => rw [runShp_stop hst]; exact ⟨h, Nat.le_refl _, Nat.le_refl _⟩
    | some t =>
      obtain ⟨o1, o2, o3, _⟩ := stepFree_ok h (stepShp_some hst).1 (ho o (by simp)).get
      rw [runShp_go hst]
      obtain ⟨q1, q2, q3⟩ := ih (s := t) o1 (fun x hx => ho x (by simp [hx]))
      exact ⟨q1, by show (runShp t os).1.kinds.length ≤ s.kinds.length + ((runShp t os).2 + 1); omega, by show (runShp t os).1.stack.length ≤ s.stack.length + ((runShp t os).2 + 1); omega⟩

/-- EndOps by its loop: the orders of the ending, if they are not too many -/
theorem end_of {os : List Od} (hok : OpsOk os) : endOf os = if (runShp Shp.new os).1.done = true then some [] else if (runShp Shp.new os).2 + (tailOps (runShp Shp.new os).1.stack).length ≤ 300 then some (tailOps (runShp Shp.new os).1.stack) else none := by
  unfold endOf
  rw [if_pos hok]
  by_cases hd : (runShp Shp.new os).1.done = true
  · rw [if_pos hd, if_pos hd]
  · rw [if_neg hd, if_neg hd]
    obtain ⟨q1, q2, q3⟩ := run_few (s := Shp.new) (os := os) Shp.new_ok hok.2
    have q2 : (runShp Shp.new os).1.kinds.length ≤ (runShp Shp.new os).2 := by simpa [Shp.new] using q2
    have q3 : (runShp Shp.new os).1.stack.length ≤ (runShp Shp.new os).2 := by simpa [Shp.new] using q3
    have hn := run_le hok.2
    have hlt : (os.take (runShp Shp.new os).2).length = (runShp Shp.new os).2 := by simp; omega
    have hpre := run_pre (os := os) (s := Shp.new)
    have hd2 : (runShp Shp.new os).1.done = false := by simpa using hd
    generalize hR : runShp Shp.new os = R at *
    by_cases hl : R.2 + (tailOps R.1.stack).length ≤ 300
    · rw [if_pos hl, if_pos]
      refine ⟨⟨by rw [List.length_append, hlt]; exact hl, fun o ho => ?_⟩, ?_⟩
      · rcases List.mem_append.1 ho with ho | ho
        · exact hok.2 o (List.mem_of_mem_take ho)
        · exact tailOps_mem _ o ho
      · rw [run_app (by rw [hpre, hlt]), hpre, end_run _ q1 hd2 q2 q3 rfl hl, List.length_append]
    · rw [if_neg hl, if_neg]
      intro hh
      have := hh.1.1
      rw [List.length_append, hlt] at this
      omega

theorem end_bad {os : List Od} (h : ¬ OpsOk os) : endOf os = none := by unfold endOf; rw [if_neg h]

end Go.Proofs.YtngohlegdjppeaaDoor

namespace Go.Proofs.YtngohlegdjppeaaDoor
open Go.RowKit
set_option linter.unusedVariables false
set_option linter.unusedSimpArgs false

/-- what a possible order finds -/
theorem stepFree_facts {s t : Shp} {o : Od} (h : s.Ok) (hd : s.done = false) (ho : 0 ≤ o.code ∧ o.code ≤ 19) (he : stepFree s o = some t) :
    (takesN o.code = -1 → ∃ a, above s.stack = a + 1) ∧ (takesN o.code ≠ -1 → 0 ≤ takesN o.code ∧ takesN o.code ≤ s.stack.length) ∧ (o.code = 14 → 0 ≤ (s.took o.code).thing 0) ∧ (o.code = 15 → 0 < s.stack.length) := by
  obtain ⟨cd, ar⟩ := o
  simp only at ho he ⊢
  have hk0 := h.kindAt 0
  have hk1 := h.kindAt 1
  have l0 : ¬ s.kindAt 0 < 0 → 0 < s.stack.length := fun hn => Shp.kind_lt hn
  have l1 : ¬ s.kindAt 1 < 0 → 1 < s.stack.length := fun hn => Shp.kind_lt hn
  have hma : above s.stack ≠ 0 → ∃ a, above s.stack = a + 1 := fun hn => ⟨above s.stack - 1, by omega⟩
  have h20 : cd = 0 ∨ cd = 1 ∨ cd = 2 ∨ cd = 3 ∨ cd = 4 ∨ cd = 5 ∨ cd = 6 ∨ cd = 7 ∨ cd = 8 ∨ cd = 9 ∨ cd = 10 ∨ cd = 11 ∨ cd = 12 ∨ cd = 13 ∨ cd = 14 ∨ cd = 15 ∨ cd = 16 ∨ cd = 17 ∨ cd = 18 ∨ cd = 19 := by omega
  rcases h20 with rfl | rfl | rfl | rfl | rfl | rfl | rfl | rfl | rfl | rfl | rfl | rfl | rfl | rfl | rfl | rfl | rfl | rfl | rfl | rfl
  case inr.inr.inr.inr.inr.inr.inr.inr.inr.inr.inr.inr.inr.inr.inl =>
    have hh : ¬ s.kindAt 0 < 0 ∧ s.kindAt 1 = 5 := by
      simp [stepFree, newK, hd, IsMarkOp, takeStep] at he
      omega
    have hl := l1 (by omega)
    refine ⟨fun hh => by simp [takesN] at hh, fun _ => by simp [takesN]; omega, fun _ => ?_, fun hh => by omega⟩
    have hth : 0 ≤ s.thing 1 := by have := hk1.2.2; omega
    have hlc : (s.cutTo (s.stack.length - 1)).stack.length = s.stack.length - 1 := by unfold Shp.cutTo; simp
    have e : (s.took 14).thing 0 = s.thing 1 := by
      have e0 : s.took 14 = s.cutTo (s.stack.length - 1) := by unfold Shp.took; simp [takesN]
      rw [e0]
      unfold Shp.thing
      rw [hlc, if_pos (by omega), if_pos (by omega)]
      unfold Shp.cutTo
      rw [List.getD_eq_getElem?_getD, List.getD_eq_getElem?_getD, List.getElem?_take, if_pos (by omega)]
      congr 2
    rw [e]
    exact hth
  all_goals
    simp [stepFree, newK, hd, IsMarkOp, takeStep, markStep] at he
    refine ⟨fun hh => ?_, fun hh => ?_, fun hh => by clear hma; omega, fun hh => ?_⟩
    · first | (simp [takesN] at hh; done) | (exact hma (by omega)) | (exact hma he.1)
    · clear hma; first | (simp [takesN] at hh; done) | (simp [takesN]; done) | (simp [takesN]; omega) | (have hky := he.2.1.1; unfold KeyK at hky; simp [takesN]; omega)
    · clear hma; first | omega | (exact l0 (by omega))

theorem took_small {s : Shp} (h : s.Small) (c : Int) : (s.took c).Small := by
  unfold Shp.took
  have : ∀ n, (s.cutTo n).Small := fun n => ⟨h.k, by have := h.t; unfold Shp.cutTo; simp; omega, h.ok.cut n⟩
  split <;> exact this _

theorem take_code (q base off : Nat) (p : ShPtr) (s : Shp) (c : Nat) (w : World) (h : SbAt w base q off p s) (hs : s.Small) (hc : c < 20) (h1 : takesN (c : Int) = -1 → ∃ a, above s.stack = a + 1) (h2 : takesN (c : Int) ≠ -1 → 0 ≤ takesN (c : Int) ∧ takesN (c : Int) ≤ s.stack.length) :
    Calls Tryd.prog 26 #[.pointer (some ⟨q, off, none⟩), .int .i64 (takesOf c)] w (TurnsSb w base q off p (s.took (c : Int))) := by
  rw [takes_same c hc]
  unfold Shp.took
  by_cases ht : takesN (c : Int) = -1
  · rw [if_pos ht, ht]
    obtain ⟨a, ha⟩ := h1 ht
    rw [show above s.stack - 1 = a by omega]
    exact take_all q base off p s a w h hs ha
  · rw [if_neg ht]
    obtain ⟨h3, h4⟩ := h2 ht
    exact take_any q base off p s (takesN (c : Int)) _ w h hs (by omega) ht (by omega) h3

theorem act_code (q base off : Nat) (p : ShPtr) (s : Shp) (c : Nat) (ar : Int) (w : World) (h : SbAt w base q off p s) (hs : s.Small) (hbase : base ≤ w.heap.size) (hc : c < 20) (ha : c = 15 ∨ c = 16 → 0 ≤ ar ∧ ar < 20) (h14 : c = 14 → 0 ≤ s.thing 0) (h15 : c = 15 → 0 < s.stack.length) :
    Calls Tryd.prog 27 #[.pointer (some ⟨q, off, none⟩), .agg #[.int .i64 (c : Int), .int .i64 ar]] w (TurnsSb w base q off p (s.acted ⟨(c : Int), ar⟩)) := by
  match c, hc, ha, h14, h15 with
  | 0, _, _, _, _ => exact act_new q base off p s 0 ar 0 w h hs hbase (by unfold IsNewOp; omega)
  | 1, _, _, _, _ => exact act_new q base off p s 1 ar 1 w h hs hbase (by unfold IsNewOp; omega)
  | 2, _, _, _, _ => exact act_mark q base off p s ar w h hs hbase
  | 3, _, _, _, _ => exact act_new q base off p s 3 ar 2 w h hs hbase (by unfold IsNewOp; omega)
  | 4, _, _, _, _ => exact act_new q base off p s 4 ar 2 w h hs hbase (by unfold IsNewOp; omega)
  | 5, _, _, _, _ => exact act_new q base off p s 5 ar 2 w h hs hbase (by unfold IsNewOp; omega)
  | 6, _, _, _, _ => exact act_new q base off p s 6 ar 2 w h hs hbase (by unfold IsNewOp; omega)
  | 7, _, _, _, _ => exact act_new q base off p s 7 ar 3 w h hs hbase (by unfold IsNewOp; omega)
  | 8, _, _, _, _ => exact act_idle q base off p s 8 ar w h hs hbase (by unfold IsIdleOp; omega)
  | 9, _, _, _, _ => exact act_idle q base off p s 9 ar w h hs hbase (by unfold IsIdleOp; omega)
  | 10, _, _, _, _ => exact act_new q base off p s 10 ar 4 w h hs hbase (by unfold IsNewOp; omega)
  | 11, _, _, _, _ => exact act_idle q base off p s 11 ar w h hs hbase (by unfold IsIdleOp; omega)
  | 12, _, _, _, _ => exact act_idle q base off p s 12 ar w h hs hbase (by unfold IsIdleOp; omega)
  | 13, _, _, _, _ => exact act_new q base off p s 13 ar 5 w h hs hbase (by unfold IsNewOp; omega)
  | 14, _, _, h14, _ => exact act_state q base off p s ar w h hs hbase (h14 rfl)
  | 15, _, ha, _, h15 =>
    obtain ⟨h1, h2⟩ := ha (.inl rfl)
    obtain ⟨j, rfl⟩ := Int.eq_ofNat_of_zero_le h1
    exact act_put q base off p s j w h hs hbase (by omega) (h15 rfl)
  | 16, _, ha, _, _ =>
    obtain ⟨h1, h2⟩ := ha (.inr rfl)
    obtain ⟨j, rfl⟩ := Int.eq_ofNat_of_zero_le h1
    exact act_get q base off p s j w h hs hbase (by omega)
  | 17, _, _, _, _ => exact act_idle q base off p s 17 ar w h hs hbase (by unfold IsIdleOp; omega)
  | 18, _, _, _, _ => exact act_idle q base off p s 18 ar w h hs hbase (by unfold IsIdleOp; omega)
  | 19, _, _, _, _ => exact act_stop q base off p s ar w h hs hbase
  | n + 20, hc, _, _, _ => omega

end Go.Proofs.YtngohlegdjppeaaDoor
