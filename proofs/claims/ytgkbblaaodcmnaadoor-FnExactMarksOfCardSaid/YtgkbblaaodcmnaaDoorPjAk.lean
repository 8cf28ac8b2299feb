/-
  Lemmas, several texts in one: ChkF, CutM.
-/
import Derived.Test.YtgkbblaaodcmnaaDoorPjAi
import Derived.Test.YtgkbblaaodcmnaaDoorPjAa
namespace Go.Proofs.YtgkbblaaodcmnaaDoor
open Go.RowKit
set_option linter.unusedVariables false

theorem TurnsSb.behind {w W : World} {base q off : Nat} {p : ShPtr} {t : Shp} {e : Ending} {w' : World} (hb : Below w.heap.size w W) (hq : q < w.heap.size) (h : TurnsSb W base q off p t e w') : TurnsSb w base q off p t e w' := by
  obtain ⟨he, p', h1, h2⟩ := h
  exact ⟨he, p', h1, (SbFr.of_below hb hq).trans h2⟩
theorem TurnsSb.mk' {w W w' : World} {base q off : Nat} {p p' : ShPtr} {s t : Shp} (hb : Below w.heap.size w W) (hq : q < w.heap.size) (h : SbAt w' base q off p' t ∧ SbFr W w' q off p p') : TurnsSb w base q off p t (.returned (.tuple #[])) w' :=
  ⟨rfl, p', h.1, (SbFr.of_below hb hq).trans h.2⟩

/-- the codes of orders that push a new thing, and its kind -/
def IsNewOp (c k : Int) : Prop := (c = 0 ∧ k = 0) ∨ (c = 1 ∧ k = 1) ∨ (c = 3 ∧ k = 2) ∨ (c = 4 ∧ k = 2) ∨ (c = 5 ∧ k = 2) ∨ (c = 6 ∧ k = 2) ∨ (c = 7 ∧ k = 3) ∨ (c = 10 ∧ k = 4) ∨ (c = 13 ∧ k = 5)
/-- the codes of orders that do nothing but take -/
def IsIdleOp (c : Int) : Prop := c = 8 ∨ c = 9 ∨ c = 11 ∨ c = 12 ∨ c = 17 ∨ c = 18

set_option maxRecDepth 100000 in
set_option maxHeartbeats 4000000 in
theorem act_new (q base off : Nat) (p : ShPtr) (s : Shp) (cd ar k : Int) (w : World) (h : SbAt w base q off p s) (hs : s.Small) (hbase : base ≤ w.heap.size) (hc : IsNewOp cd k) :
    Calls Tryd.prog 37 #[.pointer (some ⟨q, off, none⟩), .agg #[.int .i64 cd, .int .i64 ar]] w (TurnsSb w base q off p (s.push k)) := by
  have htl := hs.t
  have hlt := h.lt
  have hk : In64 k := by constructor <;> (rcases hc with h | h | h | h | h | h | h | h | h <;> omega)
  have hB := hide ((Below.refl w.heap.size w).alloc (Nat.le_refl _) (.cells #[.int .i64 cd, .int .i64 ar] 40))
  have lo := Lies.new w #[.int .i64 cd, .int .i64 ar] 40
  have h2 := h.alloc (.cells #[.int .i64 cd, .int .i64 ar] 40)
  have HC := hide (pushNew_any q base off p s k _ h2 hs (by simp; omega) hk)
  obtain ⟨e0, e1, e2, e3, e4, f0, f1, f2, f3, f4⟩ := h2.c
  have d0 := lo.cell 0
  have d1 := lo.cell 1
  simp only [List.getElem?_toArray, List.getElem?_cons_zero, List.getElem?_cons_succ] at d0 d1
  clear h hs h2 lo hk
  rcases hc with ⟨rfl, rfl⟩ | ⟨rfl, rfl⟩ | ⟨rfl, rfl⟩ | ⟨rfl, rfl⟩ | ⟨rfl, rfl⟩ | ⟨rfl, rfl⟩ | ⟨rfl, rfl⟩ | ⟨rfl, rfl⟩ | ⟨rfl, rfl⟩
  all_goals
    go_enter Tryd.func37, Tryd.ntmps37
    go_upto_region 1 with fail
    generalize w.alloc (.cells #[.int .i64 _, .int .i64 ar] 40) = W at hB HC e0 e1 e2 e3 e4 f0 f1 f2 f3 f4 d0 d1 ⊢
    go_wp2_with fail
    refine HC.out.mono ?_
    clear HC
    rintro e w' hE
    have hE2 := hE.behind hB.out hlt
    obtain ⟨rfl, hE3⟩ := hE
    have HE := hide hE2
    clear hE2 hE3
    go_wp2
    go_end0
    exact HE.out

set_option maxRecDepth 100000 in
set_option maxHeartbeats 4000000 in
theorem act_idle (q base off : Nat) (p : ShPtr) (s : Shp) (cd ar : Int) (w : World) (h : SbAt w base q off p s) (hs : s.Small) (hbase : base ≤ w.heap.size) (hc : IsIdleOp cd) :
    Calls Tryd.prog 37 #[.pointer (some ⟨q, off, none⟩), .agg #[.int .i64 cd, .int .i64 ar]] w (TurnsSb w base q off p s) := by
  have htl := hs.t
  have hlt := h.lt
  have hB := hide ((Below.refl w.heap.size w).alloc (Nat.le_refl _) (.cells #[.int .i64 cd, .int .i64 ar] 40))
  have lo := Lies.new w #[.int .i64 cd, .int .i64 ar] 40
  have h2 := h.alloc (.cells #[.int .i64 cd, .int .i64 ar] 40)
  have H2 := hide h2
  obtain ⟨e0, e1, e2, e3, e4, f0, f1, f2, f3, f4⟩ := h2.c
  have d0 := lo.cell 0
  have d1 := lo.cell 1
  simp only [List.getElem?_toArray, List.getElem?_cons_zero, List.getElem?_cons_succ] at d0 d1
  clear h hs h2 lo
  rcases hc with rfl | rfl | rfl | rfl | rfl | rfl
  all_goals
    go_enter Tryd.func37, Tryd.ntmps37
    go_upto_region 1 with fail
    generalize w.alloc (.cells #[.int .i64 _, .int .i64 ar] 40) = W at hB H2 e0 e1 e2 e3 e4 f0 f1 f2 f3 f4 d0 d1 ⊢
    go_wp2
    go_end0
    exact TurnsSb.mk' (s := s) hB.out hlt ⟨H2.out, SbFr.refl _ _ _ _⟩

set_option maxRecDepth 100000 in
set_option maxHeartbeats 4000000 in
theorem act_stop (q base off : Nat) (p : ShPtr) (s : Shp) (ar : Int) (w : World) (h : SbAt w base q off p s) (hs : s.Small) (hbase : base ≤ w.heap.size) :
    Calls Tryd.prog 37 #[.pointer (some ⟨q, off, none⟩), .agg #[.int .i64 19, .int .i64 ar]] w (TurnsSb w base q off p { s with done := true }) := by
  have htl := hs.t
  have hlt := h.lt
  have hB := hide ((Below.refl w.heap.size w).alloc (Nat.le_refl _) (.cells #[.int .i64 19, .int .i64 ar] 40))
  have lo := Lies.new w #[.int .i64 19, .int .i64 ar] 40
  have h2 := h.alloc (.cells #[.int .i64 19, .int .i64 ar] 40)
  have H2 := hide h2
  obtain ⟨e0, e1, e2, e3, e4, f0, f1, f2, f3, f4⟩ := h2.c
  have d0 := lo.cell 0
  have d1 := lo.cell 1
  simp only [List.getElem?_toArray, List.getElem?_cons_zero, List.getElem?_cons_succ] at d0 d1
  clear h hs h2 lo
  go_enter Tryd.func37, Tryd.ntmps37
  go_upto_region 1 with fail
  generalize w.alloc (.cells #[.int .i64 19, .int .i64 ar] 40) = W at hB H2 e0 e1 e2 e3 e4 f0 f1 f2 f3 f4 d0 d1 ⊢
  go_wp2
  go_end0
  exact TurnsSb.mk' (s := s) hB.out hlt H2.out.stop

end Go.Proofs.YtgkbblaaodcmnaaDoor

namespace Go.Proofs.YtgkbblaaodcmnaaDoor
set_option linter.unusedVariables false

open Classical in
/-- what CutOps returns -/
noncomputable def cutOf (os : List Od) : List Od := if OpsOk os then os.take (runShp Shp.new os).2 else []
theorem cutOf_ok {os : List Od} (h : OpsOk os) : cutOf os = os.take (runShp Shp.new os).2 := by unfold cutOf; rw [if_pos h]
theorem cutOf_no {os : List Od} (h : ¬ OpsOk os) : cutOf os = [] := by unfold cutOf; rw [if_neg h]

theorem runNew_le {os : List Od} (h : ∀ o ∈ os, OdOk o) : (runShp Shp.new os).1.Ok ∧ (runShp Shp.new os).1.Fits ∧ (runShp Shp.new os).2 ≤ os.length :=
  runShp_ok Shp.new_ok ⟨by simp [Shp.new], by simp [Shp.new]⟩ (fun o ho => (h o ho).get)

theorem cutOf_few {os : List Od} : (cutOf os).length ≤ 300 := by
  by_cases h : OpsOk os
  · rw [cutOf_ok h]
    have := h.1
    simp only [List.length_take]
    omega
  · rw [cutOf_no h]; simp
theorem cutOf_mem {os : List Od} : ∀ o ∈ cutOf os, OdOk o := by
  by_cases h : OpsOk os
  · rw [cutOf_ok h]
    exact fun o ho => h.2 o (List.mem_of_mem_take ho)
  · rw [cutOf_no h]; intro o ho; cases ho

/-- how many marks are among the first k things of a stack -/
def negs (l : List Int) : Nat → Nat
  | 0 => 0
  | k + 1 => negs l k + (if l.getD k 0 < 0 then 1 else 0)
theorem negs_le (l : List Int) (k : Nat) : negs l k ≤ k := by
  induction k with
  | zero => exact Nat.le_refl _
  | succ k ih => unfold negs; split <;> omega

/-- how many things lie below the first mark -/
def free : List Int → Nat
  | [] => 0
  | x :: l => if 0 ≤ x then free l + 1 else 0
theorem free_le (l : List Int) : free l ≤ l.length := by
  induction l with
  | nil => exact Nat.le_refl _
  | cons x l ih => unfold free; split <;> simp only [List.length_cons] <;> omega
theorem free_at {l : List Int} {k : Nat} (h : k < free l) : 0 ≤ l.getD k 0 := by
  induction l generalizing k with
  | nil => simp [free] at h
  | cons x l ih =>
    unfold free at h
    split at h
    · cases k with
      | zero => simpa
      | succ k => simpa using ih (k := k) (by omega)
    · omega
theorem free_stop {l : List Int} (h : free l < l.length) : l.getD (free l) 0 < 0 := by
  induction l with
  | nil => simp at h
  | cons x l ih =>
    unfold free at h ⊢
    split
    · next hx =>
      rw [if_pos hx] at h
      simpa using ih (by simpa using h)
    · next hx => simp; omega

/-- the orders that end a program behind which things lie on the stack -/
def tailOps (l : List Int) : List Od :=
  List.replicate (negs l l.length) ⟨3, 0⟩ ++ List.replicate (free l + (if 0 < negs l l.length then 1 else 0) - 1) ⟨6, 0⟩ ++
    (if free l + (if 0 < negs l l.length then 1 else 0) = 0 then [⟨4, 0⟩] else []) ++ [⟨19, 0⟩]

theorem od_fix {c : Int} (h0 : 0 ≤ c) (h1 : c ≤ 19) (h : argMost c < 0) : OdOk ⟨c, 0⟩ := ⟨⟨h0, h1⟩, .inl ⟨h, rfl⟩⟩

theorem od_64 {o : Od} (h : OdOk o) : (-9223372036854775808 ≤ o.code ∧ o.code ≤ 9223372036854775807) ∧ (-9223372036854775808 ≤ o.arg ∧ o.arg ≤ 9223372036854775807) := by
  obtain ⟨h1, h2⟩ := h
  have := argMost_range o.code
  constructor <;> constructor <;> omega

theorem tailOps_mem (l : List Int) : ∀ o ∈ tailOps l, OdOk o := by
  have h3 : OdOk ⟨3, 0⟩ := od_fix (by omega) (by omega) (by simp [argMost])
  have h6 : OdOk ⟨6, 0⟩ := od_fix (by omega) (by omega) (by simp [argMost])
  have h4 : OdOk ⟨4, 0⟩ := od_fix (by omega) (by omega) (by simp [argMost])
  have h19 : OdOk ⟨19, 0⟩ := od_fix (by omega) (by omega) (by simp [argMost])
  intro o ho
  unfold tailOps at ho
  rcases List.mem_append.1 ho with ho | ho
  · rcases List.mem_append.1 ho with ho | ho
    · rcases List.mem_append.1 ho with ho | ho
      · rw [List.eq_of_mem_replicate ho]; exact h3
      · rw [List.eq_of_mem_replicate ho]; exact h6
    · by_cases hc : free l + (if 0 < negs l l.length then 1 else 0) = 0
      · rw [if_pos hc] at ho
        rw [List.mem_singleton.1 ho]; exact h4
      · rw [if_neg hc] at ho; cases ho
  · rw [List.mem_singleton.1 ho]; exact h19

theorem tail_a {st : List Int} {m k : Nat} (hm : m = negs st st.length) (hk : k = free st) (h0 : 0 < m) : tailOps st = (List.replicate m ⟨3, 0⟩ ++ List.replicate (k + 1 - 1) ⟨6, 0⟩) ++ [⟨19, 0⟩] := by
  unfold tailOps
  rw [← hm, ← hk, if_pos h0, if_neg (by omega), List.append_nil]
theorem tail_b {st : List Int} {m k : Nat} (hm : m = negs st st.length) (hk : k = free st) (h0 : ¬ 0 < m) (hk0 : ¬ k = 0) : tailOps st = (List.replicate m ⟨3, 0⟩ ++ List.replicate (k - 1) ⟨6, 0⟩) ++ [⟨19, 0⟩] := by
  unfold tailOps
  rw [← hm, ← hk, if_neg h0, if_neg (by omega), List.append_nil, Nat.add_zero]
theorem tail_c {st : List Int} {m : Nat} (hm : m = negs st st.length) (hk : 0 = free st) (h0 : ¬ 0 < m) : tailOps st = (List.replicate m ⟨3, 0⟩ ++ List.replicate (0 - 1) ⟨6, 0⟩ ++ [⟨4, 0⟩]) ++ [⟨19, 0⟩] := by
  unfold tailOps
  rw [← hm, ← hk, if_neg h0, if_pos (by omega), Nat.add_zero]

theorem tailOps_len (l : List Int) : (tailOps l).length ≤ 2 * l.length + 3 := by
  have h1 := negs_le l l.length
  have h2 := free_le l
  unfold tailOps
  simp only [List.length_append, List.length_replicate]
  split <;> split <;> simp <;> omega

open Classical in
/-- what EndOps returns -/
noncomputable def endOf (os : List Od) : Option (List Od) :=
  if OpsOk os then
    if (runShp Shp.new os).1.done = true then some []
    else if OpsOk (os.take (runShp Shp.new os).2 ++ tailOps (runShp Shp.new os).1.stack) ∧ (runShp Shp.new (os.take (runShp Shp.new os).2 ++ tailOps (runShp Shp.new os).1.stack)).2 = (os.take (runShp Shp.new os).2 ++ tailOps (runShp Shp.new os).1.stack).length then some (tailOps (runShp Shp.new os).1.stack)
    else none
  else none

end Go.Proofs.YtgkbblaaodcmnaaDoor
