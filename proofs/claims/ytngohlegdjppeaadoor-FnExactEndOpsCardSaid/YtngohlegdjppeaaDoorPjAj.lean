/-
  Lemmas, several texts in one: OwnOO, MkL, ImplO.
-/
import Derived.Test.YtngohlegdjppeaaDoorPjAi
import Derived.Maps.AppendAt
import Derived.Laws.AppendOwnNone
import Derived.Test.YtngohlegdjppeaaDoorPjAh
import Derived.Test.YtngohlegdjppeaaDoorChkM
import Derived.Test.YtngohlegdjppeaaDoorPjAf
import Derived.Test.YtngohlegdjppeaaDoorPjAa
import Derived.Deep.QuietTactic
import Derived.BigQuiet
namespace Go.Proofs.YtngohlegdjppeaaDoor
open Go.RowKit
set_option linter.unusedVariables false

theorem opVals_one (os : List Od) : ∀ u ∈ opVals os, u.oneCell' = true := by
  intro u hu
  obtain ⟨o, _, hu⟩ := List.mem_flatMap.1 hu
  simp at hu
  rcases hu with rfl | rfl <;> rfl

theorem opVals_append (os ps : List Od) : opVals (os ++ ps) = opVals os ++ opVals ps := by simp [opVals]

theorem OpsAt.vals {w : World} {B b off : Nat} {os : List Od} (h : OpsAt w B (some ⟨b, off, none⟩) os) : ∀ j u, (opVals os)[j]? = some u → w.cell? ⟨b, off + j, none⟩ = some u := by
  intro j u hu
  have hj : j < os.length * 2 := by have := (List.getElem?_eq_some_iff.1 hu).1; rwa [opVals_len] at this
  have hk : j / 2 < os.length := by omega
  obtain ⟨b', off', o, e, _, ho, _, hc0, hc1⟩ := h.at_ hk
  injection e with e
  injection e with e1 e2
  subst e1 e2
  rcases Nat.mod_two_eq_zero_or_one j with hm | hm
  · have ej : j = j / 2 * 2 := by omega
    have := opVals_code ho
    rw [← ej] at this hc0
    rw [this] at hu
    injection hu with hu
    rw [← hu]
    exact hc0
  · have ej : j = j / 2 * 2 + 1 := by omega
    have := opVals_arg ho
    rw [← ej] at this
    rw [Nat.add_assoc, ← ej] at hc1
    rw [this] at hu
    injection hu with hu
    rw [← hu]
    exact hc1

/-- append(s, t...) where s is the call's own and t is any slice of orders that reads as ys -/
theorem append_ops {w : World} {ops : Array Oper} {rest : List Oper} {o : Oper} {a : Act} {Q : Exit → Act → World → Prop} (hgd : o.guard = none) (s x : Operand)
    (ho : o.op = .call { callee := .builtin .append, args := #[s, x], argTypes := #[24, 24] })
    (base : Nat) (A : Option Addr) (c : Nat) (xs : List Od) (hs : a.eval s = .slice A xs.length c) (hown : OwnO w base A c xs)
    (B : Nat) (A2 : Option Addr) (c2 : Nat) (ys : List Od) (hx : a.eval x = .slice A2 ys.length c2) (hnil : A2 = none → c2 = 0) (hr : OpsAt w B A2 ys)
    (hsum : xs.length + ys.length ≤ 8388608) (hbase : base ≤ w.heap.size)
    (h : ∀ (zs : List Od) (A' : Option Addr) (c' : Nat) (w' : World), Hid (zs = xs ++ ys) → OwnO w' base A' c' zs → w.grownBy w' (blockOf A) → (blockOf A' = blockOf A ∨ blockOf A' = some w.heap.size) →
      wpList Tryd.prog ops Q rest (a.put o.dst (.slice A' zs.length c')) w') : wpList Tryd.prog ops Q (o :: rest) a w := by
  obtain ⟨i0, hi, hz0, hz1, hz2⟩ := info_parts infoOp
  have hempty : A2 = none → ys = [] := by
    intro e
    cases ys with
    | nil => rfl
    | cons y ys =>
      obtain ⟨b, off, e2, _⟩ := hr.row (by simp)
      rw [e] at e2; cases e2
  rcases A2 with _ | ad
  · obtain rfl := hnil rfl
    obtain rfl := hempty rfl
    exact wpList_append_own_none hgd s x 24 ho base 39 i0 2 Tryd.underlying24 hi _ _ _ hs hown.own hx
      (h xs A c w (by simp [Hid]) hown (World.grownBy.refl w _) (.inl rfl))
  · have hcells : ∀ j u, (opVals ys)[j]? = some u → w.cell? (ad.add j) = some u := by
      intro j u hu
      have hy : ys ≠ [] := by intro e; subst e; simp [opVals] at hu
      obtain ⟨b, off, e2, _⟩ := hr.row hy
      obtain rfl : ad = ⟨b, off, none⟩ := Option.some.inj e2
      have hadd : (⟨b, off, none⟩ : Addr).add j = ⟨b, off + j, none⟩ := by
        unfold Addr.add
        split
        · rename_i h0; subst h0; rfl
        · rfl
      rw [hadd]
      exact hr.vals j u hu
    refine wpList_append_own_at w hgd s x 24 ho base 39 i0 _ 2 16 Tryd.underlying24 hi hz0 hz1 hz2 rfl (by omega) _ _ _ hs hown.own ad ys.length c2 (opVals ys) hx (by rw [opVals_len]) hcells (opVals_one ys)
      (by unfold maxLen; omega) (by omega) hbase ?_
    intro v' w' h2 h3 _ h5
    have hlen : xs.length + ys.length = (xs ++ ys).length := by simp
    rw [ownBlock_slice] at h3 h5
    rw [← opVals_append, hlen] at h2
    rcases h2.2 with ⟨rfl, h6⟩ | ⟨g, cap, cur, rfl, _⟩
    · have hzs : xs ++ ys = [] := List.eq_nil_of_length_eq_zero h6
      have := h (xs ++ ys) none 0 w' (by simp [Hid]) ⟨by rw [h6] at h2 ⊢; exact h2⟩ h3 (by simpa [blockOf, Value.ownBlock] using h5)
      rw [h6] at this
      exact this
    · exact h (xs ++ ys) _ _ w' (by simp [Hid]) ⟨h2⟩ h3 (by simpa [ownBlock_slice] using h5)

theorem OpsAt.upto {w : World} {B : Nat} {A : Option Addr} {os : List Od} (h : OpsAt w B A os) (n : Nat) : OpsAt w B A (os.take n) := by
  refine ⟨fun hx => ?_, fun x hx => h.wf x (List.mem_of_mem_take hx), Nat.le_trans (by simp; omega) h.len⟩
  obtain ⟨b, off, e, hlt, hc⟩ := h.row (by intro e; subst e; simp at hx)
  refine ⟨b, off, e, hlt, fun j x hj => hc j x ?_⟩
  rw [List.getElem?_take] at hj
  split at hj
  · exact hj
  · cases hj

end Go.Proofs.YtngohlegdjppeaaDoor

namespace Go.Proofs.YtngohlegdjppeaaDoor
set_option linter.unusedVariables false
set_option linter.unusedSimpArgs false

theorem marksIn_append (a b : List Int) : marksIn (a ++ b) = marksIn a + marksIn b := by simp [marksIn]
theorem marksIn_free {l : List Int} (h : ∀ x ∈ l, 0 ≤ x) : marksIn l = 0 := by
  unfold marksIn
  rw [List.length_eq_zero_iff, List.filter_eq_nil_iff]
  intro x hx
  have := h x hx
  simp
  omega
theorem marksIn_one (x : Int) : marksIn [x] = if x < 0 then 1 else 0 := by
  unfold marksIn
  by_cases h : x < 0 <;> simp [h]

theorem marks_above {l : List Int} {a : Nat} (h : above l = a + 1) : marksIn l = marksIn (l.take a) + 1 := by
  have hle := above_le l
  have hm := above_mark h
  have hlt : a < l.length := by omega
  have e : l = l.take a ++ ([l[a]] ++ l.drop (a + 1)) := by
    rw [List.singleton_append, ← List.drop_eq_getElem_cons hlt, List.take_append_drop]
  have hg : l.getD a 0 = l[a] := by rw [List.getD_eq_getElem?_getD, List.getElem?_eq_getElem hlt]; rfl
  have hf : marksIn (l.drop (a + 1)) = 0 := marksIn_free fun x hx => by
    obtain ⟨i, hi, he⟩ := List.getElem_of_mem hx
    rw [List.length_drop] at hi
    have := above_free (l := l) (j := a + 1 + i) (by omega) (by omega)
    rw [List.getElem_drop] at he
    rw [List.getD_eq_getElem?_getD, List.getElem?_eq_getElem (by omega)] at this
    simp only [Option.getD_some, he] at this
    exact this
  conv => { lhs; rw [e] }
  rw [marksIn_append, marksIn_append, marksIn_one, hf, if_pos (by rw [← hg]; exact hm)]

theorem marks_pop {l : List Int} (h0 : 0 < l.length) (h : 0 ≤ l.getD (l.length - 1) 0) : marksIn (l.take (l.length - 1)) = marksIn l := by
  have hlt : l.length - 1 < l.length := by omega
  have e : l = l.take (l.length - 1) ++ [l[l.length - 1]] := by
    have h2 : l.take (l.length - 1 + 1) = l := List.take_of_length_le (by omega)
    conv => { lhs; rw [← h2] }
    rw [List.take_succ_eq_append_getElem hlt]
  have hg : l.getD (l.length - 1) 0 = l[l.length - 1] := by rw [List.getD_eq_getElem?_getD, List.getElem?_eq_getElem hlt]; rfl
  conv => { rhs; rw [e] }
  rw [marksIn_append, marksIn_one, if_neg (by rw [← hg]; omega), Nat.add_zero]

theorem marks_cut1 {s : Shp} (h : s.Ok) (h0 : ¬ s.kindAt 0 < 0) : marksIn (s.cutTo (s.stack.length - 1)).stack = marksIn s.stack := by
  have hl := Shp.kind_lt h0
  have hk := (h.kindAt 0).2.2
  have ht : 0 ≤ s.thing 0 := by omega
  unfold Shp.thing at ht
  rw [if_pos hl] at ht
  exact marks_pop hl ht

theorem marks_cut2 {s : Shp} (h : s.Ok) (h0 : ¬ s.kindAt 0 < 0) (h1 : ¬ s.kindAt 1 < 0) : marksIn (s.cutTo (s.stack.length - 2)).stack = marksIn s.stack := by
  have hl := Shp.kind_lt h1
  have hk := (h.kindAt 1).2.2
  have ht : 0 ≤ s.thing 1 := by omega
  unfold Shp.thing at ht
  rw [if_pos hl] at ht
  rw [← marks_cut1 h h0]
  unfold Shp.cutTo
  have hlen : (s.stack.take (s.stack.length - 1)).length = s.stack.length - 1 := by simp
  have e : s.stack.take (s.stack.length - 2) = (s.stack.take (s.stack.length - 1)).take ((s.stack.take (s.stack.length - 1)).length - 1) := by
    rw [hlen, List.take_take]
    congr 1
    omega
  show marksIn (s.stack.take (s.stack.length - 2)) = marksIn (s.stack.take (s.stack.length - 1))
  rw [e]
  refine marks_pop (by omega) ?_
  rw [hlen, List.getD_eq_getElem?_getD, List.getElem?_take, if_pos (by omega), ← List.getD_eq_getElem?_getD]
  have e2 : s.stack.length - 1 - 1 = s.stack.length - 1 - 1 := rfl
  exact ht

theorem marks_push (s : Shp) (k : Int) : marksIn (s.push k).stack = marksIn s.stack := by
  unfold Shp.push
  show marksIn (s.stack ++ [(s.kinds.length : Int)]) = _
  rw [marksIn_append, marksIn_one, if_neg (by omega), Nat.add_zero]

/-- by how much an order changes the number of marks -/
def dMark (c : Int) : Int := if c = 2 then 1 else if c = 3 ∨ c = 9 ∨ c = 12 ∨ c = 18 then -1 else 0

theorem marks_step {s t : Shp} {o : Od} (h : s.Ok) (he : stepFree s o = some t) (ha : o.code = 16 → o.arg.toNat < 20) : (marksIn t.stack : Int) = (marksIn s.stack : Int) + dMark o.code ∧ (t.done = true → marksIn t.stack = 0) := by
  have hd : s.done = false := by
    cases hx : s.done
    · rfl
    · simp [stepFree, hx] at he
  unfold stepFree at he
  rw [if_neg (by rw [hd]; simp)] at he
  split at he
  · next h0 =>
    cases he
    have hdm : dMark o.code = 0 := by
      unfold dMark newK at *
      have : ¬ o.code = 2 ∧ ¬ (o.code = 3 ∨ o.code = 9 ∨ o.code = 12 ∨ o.code = 18) := by
        repeat' split at h0
        all_goals omega
      rw [if_neg this.1, if_neg this.2]
    rw [marks_push, hdm]
    exact ⟨by omega, fun hh => by have : s.done = true := hh; rw [hd] at this; cases this⟩
  split at he
  · next h2 =>
    cases he
    have hdm : dMark o.code = 1 := by unfold dMark; rw [if_pos h2]
    rw [hdm]
    refine ⟨?_, fun hh => by have : s.done = true := hh; rw [hd] at this; cases this⟩
    show ((marksIn (s.stack ++ [-1]) : Nat) : Int) = _
    rw [marksIn_append, marksIn_one, if_pos (by omega)]
    omega
  next h2 =>
  split at he
  · next h16 =>
    split at he
    · cases he
    · next hm =>
      cases he
      have hdm : dMark o.code = 0 := by unfold dMark; rw [h16]; rfl
      rw [hdm]
      refine ⟨?_, fun hh => by have : s.done = true := hh; rw [hd] at this; cases this⟩
      show ((marksIn (s.stack ++ [s.memo.getD o.arg.toNat 0]) : Nat) : Int) = _
      rw [marksIn_append, marksIn_one, if_neg hm]
      omega
  split at he
  · next hmk =>
    have hdm : dMark o.code = -1 := by unfold dMark; rw [if_neg h2]; exact if_pos hmk
    rw [hdm]
    unfold markStep at he
    split at he
    · cases he
    next ha0 =>
    obtain ⟨a, haa⟩ : ∃ a, above s.stack = a + 1 := ⟨above s.stack - 1, by omega⟩
    have hma := marks_above haa
    have hcut : marksIn (s.cutTo (above s.stack - 1)).stack + 1 = marksIn s.stack := by
      rw [haa, hma]
      rfl
    have hdn : (s.cutTo (above s.stack - 1)).done = false := hd
    repeat' split at he
    all_goals first
      | (cases he; done)
      | (cases he; exact ⟨by rw [marks_push]; omega, fun hh => by have : (s.cutTo (above s.stack - 1)).done = true := hh; rw [hdn] at this; cases this⟩)
      | (cases he; exact ⟨by omega, fun hh => by rw [hdn] at hh; cases hh⟩)
  · next hnm =>
    have hdm : dMark o.code = 0 := by unfold dMark; rw [if_neg h2]; exact if_neg hnm
    rw [hdm]
    unfold takeStep at he
    split at he
    · cases he
    next hk0 =>
    have h1 := marks_cut1 h hk0
    have hnd : ∀ {u : Shp}, u.done = s.done → u.done = true → marksIn u.stack = 0 := fun hu hh => by rw [hu, hd] at hh; cases hh
    split at he
    · cases he; exact ⟨by rw [marks_push, h1]; omega, hnd rfl⟩
    split at he
    · split at he
      · cases he
      · next hk1 =>
        cases he
        exact ⟨by rw [marks_push, marks_cut2 h hk0 hk1]; omega, hnd rfl⟩
    split at he
    · split at he
      · cases he; exact ⟨by rw [h1]; omega, hnd rfl⟩
      · cases he
    split at he
    · split at he
      · next hky =>
        cases he
        have hk1 : ¬ s.kindAt 1 < 0 := by have := hky.1; unfold KeyK at this; omega
        exact ⟨by rw [marks_cut2 h hk0 hk1]; omega, hnd rfl⟩
      · cases he
    split at he
    · split at he
      · cases he
        refine ⟨?_, hnd rfl⟩
        show ((marksIn (s.cutTo (s.stack.length - 1)).stack : Nat) : Int) = _
        rw [h1]
        omega
      · cases he
    split at he
    · cases he
      refine ⟨?_, hnd rfl⟩
      show ((marksIn s.stack : Nat) : Int) = _
      omega
    split at he
    · split at he
      · next hl1 =>
        cases he
        refine ⟨by show ((marksIn s.stack : Nat) : Int) = _; omega, fun _ => ?_⟩
        show marksIn s.stack = 0
        rw [← h1]
        unfold Shp.cutTo
        rw [hl1]
        simp [marksIn]
      · cases he
    · cases he; exact ⟨by rw [h1]; omega, hnd rfl⟩

/-- a run that has come to k can be told back -/
theorem run_back {s : Shp} {os : List Od} (h : s.Ok) (ho : ∀ o ∈ os, OdOk o) : ∀ k, k < (runShp s os).2 → ∃ o, os[k]? = some o ∧ (runShp s (os.take k)).1.Ok ∧ stepFree (runShp s (os.take k)).1 o = some (runShp s (os.take (k + 1))).1 := by
  induction os generalizing s with
  | nil => intro k hk; rw [runShp_end] at hk; simp at hk
  | cons o os ih =>
    intro k hk
    cases hst : stepShp s o with
    | none => rw [runShp_stop hst] at hk; simp at hk
    | some t =>
      rw [runShp_go hst] at hk
      simp only at hk
      have hok := ho o (by simp)
      have htk := (stepShp_ok h hst hok.get).1
      cases k with
      | zero =>
        refine ⟨o, rfl, h, ?_⟩
        rw [List.take_zero, List.take_succ_cons, List.take_zero, runShp_end, runShp_go hst, runShp_end]
        exact (stepShp_some hst).1
      | succ k =>
        obtain ⟨o2, h1, h2, h3⟩ := ih htk (fun x hx => ho x (by simp [hx])) k (by omega)
        refine ⟨o2, by simpa using h1, ?_, ?_⟩
        · rw [List.take_succ_cons, runShp_go hst]; exact h2
        · rw [List.take_succ_cons, List.take_succ_cons, runShp_go hst, runShp_go hst]
          exact h3

theorem stk_zero (os : List Od) : stk os 0 = [] := rfl

/-- two of MarksOf next to each other -/
theorem marks_next {os : List Od} (h : OpsOk os) {k : Nat} (hk : k < (runShp Shp.new os).2) : ∃ o, os[k]? = some o ∧ ((marksIn (stk os (k + 1)) : Nat) : Int) = ((marksIn (stk os k) : Nat) : Int) + dMark o.code := by
  obtain ⟨o, h1, h2, h3⟩ := run_back Shp.new_ok h.2 k hk
  exact ⟨o, h1, (marks_step h2 h3 (h.2 o (List.mem_of_getElem? h1)).get).1⟩

theorem done_marks {s : Shp} {os : List Od} (h : s.Ok) (hd : s.done = true → marksIn s.stack = 0) (ho : ∀ o ∈ os, OdOk o) : (runShp s os).1.done = true → marksIn (runShp s os).1.stack = 0 := by
  induction os generalizing s with
  | nil => exact hd
  | cons o os ih =>
    cases hst : stepShp s o with
    | none => rw [runShp_stop hst]; exact hd
    | some t =>
      rw [runShp_go hst]
      have hok := ho o (by simp)
      exact ih (stepShp_ok h hst hok.get).1 (marks_step h (stepShp_some hst).1 hok.get).2 (fun x hx => ho x (by simp [hx]))

/-- a whole program leaves no marks -/
theorem whole_marks {os : List Od} (h : Whole os) : marksIn (stk os (runShp Shp.new os).2) = 0 := by
  have := done_marks (s := Shp.new) (os := os) Shp.new_ok (fun hh => by simp [Shp.new] at hh) h.1.2 h.2.2
  unfold stk
  rw [h.2.1, List.take_length]
  exact this

end Go.Proofs.YtngohlegdjppeaaDoor

namespace Go.Proofs.YtngohlegdjppeaaDoor
open Go.RowKit
set_option linter.unusedVariables false

set_option maxRecDepth 100000 in
set_option maxHeartbeats 1000000 in
theorem implValidOps_any (A : Option Addr) (os : List Od) (c : Nat) (w : World) (h : OpsAt w w.heap.size A os) (hF : FormsAt w w.heap.size) :
    Calls Tryd.prog 35 #[.slice A os.length c] w fun e w' => e = .returned (.bool (tf (OpsOk os))) ∧ Below w.heap.size w w' := by
  have hl := h.len
  by_cases h3 : os.length ≤ 300
  · have t3 : decide ((300 : Int) < (os.length : Int)) = false := by simp; omega
    go_enter Tryd.func35, Tryd.ntmps35
    go_wp2_with fail
    go_loopw [10] (fun i wr => ∃ k : Nat, k ≤ os.length ∧ i = .int .i64 k ∧ Below w.heap.size w wr ∧ ∀ j x, j < k → os[j]? = some x → OdOk x) (fun i _ => os.length - (intOf i).toNat)
    case atStart => exact ⟨0, Nat.zero_le _, rfl, Below.refl _ _, fun j _ hj => absurd hj (by omega)⟩
    case round =>
      obtain ⟨k, hk, rfl, hb, he0⟩ := hrel
      have he := hide he0
      clear he0
      by_cases hlt : k < os.length
      · obtain ⟨b, off, x, rfl, hbl, hx, hmem, hc0, hc1⟩ := (h.below hb).at_ hlt
        have Hx := hide hx
        clear hx
        have hFr := hF.below hb
        have hb2 : Below w.heap.size w (wr.alloc (.cells #[.int .i64 x.code, .int .i64 x.arg] 39)) := hb.alloc hb.size _
        have lx := Lies.new wr #[.int .i64 x.code, .int .i64 x.arg] 39
        have hF2 := hF.below hb2
        clear hFr
        go_wp2_with fail
        generalize wr.alloc (.cells #[.int .i64 x.code, .int .i64 x.arg] 39) = w2 at hb2 lx hF2 ⊢
        have x0 := lx.cell 0
        have x1 := lx.cell 1
        simp at x0 x1
        by_cases hc : 0 ≤ x.code ∧ x.code ≤ 19
        · have u1 := upB_yes hc
          obtain ⟨m, hm⟩ := Int.eq_ofNat_of_zero_le hc.1
          have hm19 : m < 20 := by omega
          have harg := hF2.arg m hm19
          have hi1 : (0 : Int) ≤ x.code := hc.1
          have hi2 : x.code < 20 := by omega
          have hmn : x.code.toNat = m := by omega
          rw [← hm, ← hmn] at harg
          by_cases ha : 0 ≤ x.arg ∧ x.arg ≤ argTop x.code
          · have u2 := upB_yes ha
            have He : Hid (∀ j y, j < k + 1 → os[j]? = some y → OdOk y) := by
              intro j y hj hy
              by_cases e : j = k
              · subst e
                obtain rfl := Option.some.inj (Hx.out.symm.trans hy)
                exact (OdOk.iff _).2 ⟨hc, ha⟩
              · exact he.out j y (by omega) hy
            generalize argTop x.code = T at harg u2
            clear he hmem hm hmn ha hc hF2 lx
            go_quiet ((go_at_call 44; exact Calls.quiet_of_same (isUpTo_q _ _ _)))
            go_wp2
            go_roundw
            case rel => exact ⟨k + 1, by omega, by go_num, below_drewN hb2 _, He.out⟩
            case measure => simp [intOf]; omega
          · have u2 := upB_no ha
            have HF := hide (show tf (OpsOk os) = false from tf_false fun hall => ha ((OdOk.iff _).1 (hall.2 x hmem)).2)
            generalize argTop x.code = T at harg u2
            clear he hmem hm hmn ha hc hF2 lx
            go_quiet ((go_at_call 44; exact Calls.quiet_of_same (isUpTo_q _ _ _)))
            go_wp2
            go_ret
            exact ⟨ret_bool HF.out.symm, below_drewN hb2 _⟩
        · have u1 := upB_no hc
          have HF := hide (show tf (OpsOk os) = false from tf_false fun hall => hc (hall.2 x hmem).1)
          clear he hmem hc hF2 lx
          go_quiet ((go_at_call 44; exact Calls.quiet_of_same (isUpTo_q _ _ _)))
          go_wp2
          go_ret
          exact ⟨ret_bool HF.out.symm, below_drewN hb2 _⟩
      · obtain rfl : k = os.length := by omega
        have HF := hide (show tf (OpsOk os) = true from tf_true ⟨h3, fun x hx => by
          obtain ⟨j, hj, rfl⟩ := List.getElem_of_mem hx
          exact he.out j _ hj (List.getElem?_eq_getElem hj)⟩)
        clear hlt
        go_wp2
        go_ret
        exact ⟨ret_bool HF.out.symm, hb⟩
  · have t3 : decide ((300 : Int) < (os.length : Int)) = true := by simp; omega
    have HF := hide (show tf (OpsOk os) = false from tf_false fun hh => h3 hh.1)
    clear h3
    go_enter Tryd.func35, Tryd.ntmps35
    go_wp2
    go_ret
    exact ⟨ret_bool HF.out.symm, Below.refl _ _⟩

end Go.Proofs.YtngohlegdjppeaaDoor
