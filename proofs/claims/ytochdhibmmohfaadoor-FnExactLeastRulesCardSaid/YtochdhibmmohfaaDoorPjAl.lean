/-
  Lemmas, several texts in one: CutM, ChkF, ChkD.
-/
import Derived.Test.YtochdhibmmohfaaDoorPjAb
import Derived.Test.YtochdhibmmohfaaDoorPjAg
import Derived.Test.YtochdhibmmohfaaDoorPjAh
import Derived.Laws.Bits64
namespace Go.Proofs.YtochdhibmmohfaaDoor
set_option linter.unusedVariables false

open Classical in
/-- what CutOps returns -/
noncomputable def cutOf (os : List Od) : List Od := if OpsOk os then os.take (runShp Shp.new os).2 else []
theorem cutOf_ok {os : List Od} (h : OpsOk os) : cutOf os = os.take (runShp Shp.new os).2 := by unfold cutOf; rw [if_pos h]
theorem cutOf_no {os : List Od} (h : ¬ OpsOk os) : cutOf os = [] := by unfold cutOf; rw [if_neg h]

theorem runNew_le {os : List Od} (h : ∀ o ∈ os, OdOk o) : (runShp Shp.new os).1.Ok ∧ (runShp Shp.new os).1.Fits ∧ (runShp Shp.new os).2 ≤ os.length :=
  runShp_ok Shp.new_ok ⟨by simp [Shp.new], by simp [Shp.new]⟩ (fun o ho => (h o ho).get)

theorem cutOf_few {os : List Od} : (cutOf os).length ≤ 300 := by
  by_cases h : OpsOk os
  · rw [cutOf_ok h]
    have := h.1
    simp only [List.length_take]
    omega
  · rw [cutOf_no h]; simp
theorem cutOf_mem {os : List Od} : ∀ o ∈ cutOf os, OdOk o := by
  by_cases h : OpsOk os
  · rw [cutOf_ok h]
    exact fun o ho => h.2 o (List.mem_of_mem_take ho)
  · rw [cutOf_no h]; intro o ho; cases ho

/-- how many marks are among the first k things of a stack -/
def negs (l : List Int) : Nat → Nat
  | 0 => 0
  | k + 1 => negs l k + (if l.getD k 0 < 0 then 1 else 0)
theorem negs_le (l : List Int) (k : Nat) : negs l k ≤ k := by
  induction k with
  | zero => exact Nat.le_refl _
  | succ k ih => unfold negs; split <;> omega

/-- how many things lie below the first mark -/
def free : List Int → Nat
  | [] => 0
  | x :: l => if 0 ≤ x then free l + 1 else 0
theorem free_le (l : List Int) : free l ≤ l.length := by
  induction l with
  | nil => exact Nat.le_refl _
  | cons x l ih => unfold free; split <;> simp only [List.length_cons] <;> omega
theorem free_at {l : List Int} {k : Nat} (h : k < free l) : 0 ≤ l.getD k 0 := by
  induction l generalizing k with
  | nil => simp [free] at h
  | cons x l ih =>
    unfold free at h
    split at h
    · cases k with
      | zero => simpa
      | succ k => simpa using ih (k := k) (by omega)
    · omega
theorem free_stop {l : List Int} (h : free l < l.length) : l.getD (free l) 0 < 0 := by
  induction l with
  | nil => simp at h
  | cons x l ih =>
    unfold free at h ⊢
    split
    · next hx =>
      rw [if_pos hx] at h
      simpa using ih (by simpa using h)
    · next hx => simp; omega

/-- the orders that end a program behind which things lie on the stack -/
def tailOps (l : List Int) : List Od :=
  List.replicate (negs l l.length) ⟨3, 0⟩ ++ List.replicate (free l + (if 0 < negs l l.length then 1 else 0) - 1) ⟨6, 0⟩ ++
    (if free l + (if 0 < negs l l.length then 1 else 0) = 0 then [⟨4, 0⟩] else []) ++ [⟨19, 0⟩]

theorem od_fix {c : Int} (h0 : 0 ≤ c) (h1 : c ≤ 19) (h : argMost c < 0) : OdOk ⟨c, 0⟩ := ⟨⟨h0, h1⟩, .inl ⟨h, rfl⟩⟩

theorem od_64 {o : Od} (h : OdOk o) : (-9223372036854775808 ≤ o.code ∧ o.code ≤ 9223372036854775807) ∧ (-9223372036854775808 ≤ o.arg ∧ o.arg ≤ 9223372036854775807) := by
  obtain ⟨h1, h2⟩ := h
  have := argMost_range o.code
  constructor <;> constructor <;> omega

theorem tailOps_mem (l : List Int) : ∀ o ∈ tailOps l, OdOk o := by
  have h3 : OdOk ⟨3, 0⟩ := od_fix (by omega) (by omega) (by simp [argMost])
  have h6 : OdOk ⟨6, 0⟩ := od_fix (by omega) (by omega) (by simp [argMost])
  have h4 : OdOk ⟨4, 0⟩ := od_fix (by omega) (by omega) (by simp [argMost])
  have h19 : OdOk ⟨19, 0⟩ := od_fix (by omega) (by omega) (by simp [argMost])
  intro o ho
  unfold tailOps at ho
  rcases List.mem_append.1 ho with ho | ho
  · rcases List.mem_append.1 ho with ho | ho
    · rcases List.mem_append.1 ho with ho | ho
      · rw [List.eq_of_mem_replicate ho]; exact h3
      · rw [List.eq_of_mem_replicate ho]; exact h6
    · by_cases hc : free l + (if 0 < negs l l.length then 1 else 0) = 0
      · rw [if_pos hc] at ho
        rw [List.mem_singleton.1 ho]; exact h4
      · rw [if_neg hc] at ho; cases ho
  · rw [List.mem_singleton.1 ho]; exact h19

theorem tail_a {st : List Int} {m k : Nat} (hm : m = negs st st.length) (hk : k = free st) (h0 : 0 < m) : tailOps st = (List.replicate m ⟨3, 0⟩ ++ List.replicate (k + 1 - 1) ⟨6, 0⟩) ++ [⟨19, 0⟩] := by
  unfold tailOps
  rw [← hm, ← hk, if_pos h0, if_neg (by omega), List.append_nil]
theorem tail_b {st : List Int} {m k : Nat} (hm : m = negs st st.length) (hk : k = free st) (h0 : ¬ 0 < m) (hk0 : ¬ k = 0) : tailOps st = (List.replicate m ⟨3, 0⟩ ++ List.replicate (k - 1) ⟨6, 0⟩) ++ [⟨19, 0⟩] := by
  unfold tailOps
  rw [← hm, ← hk, if_neg h0, if_neg (by omega), List.append_nil, Nat.add_zero]
theorem tail_c {st : List Int} {m : Nat} (hm : m = negs st st.length) (hk : 0 = free st) (h0 : ¬ 0 < m) : tailOps st = (List.replicate m ⟨3, 0⟩ ++ List.replicate (0 - 1) ⟨6, 0⟩ ++ [⟨4, 0⟩]) ++ [⟨19, 0⟩] := by
  unfold tailOps
  rw [← hm, ← hk, if_neg h0, if_pos (by omega), Nat.add_zero]

theorem tailOps_len (l : List Int) : (tailOps l).length ≤ 2 * l.length + 3 := by
  have h1 := negs_le l l.length
  have h2 := free_le l
  unfold tailOps
  simp only [List.length_append, List.length_replicate]
  split <;> split <;> simp <;> omega

open Classical in
/-- what EndOps returns -/
noncomputable def endOf (os : List Od) : Option (List Od) :=
  if OpsOk os then
    if (runShp Shp.new os).1.done = true then some []
    else if OpsOk (os.take (runShp Shp.new os).2 ++ tailOps (runShp Shp.new os).1.stack) ∧ (runShp Shp.new (os.take (runShp Shp.new os).2 ++ tailOps (runShp Shp.new os).1.stack)).2 = (os.take (runShp Shp.new os).2 ++ tailOps (runShp Shp.new os).1.stack).length then some (tailOps (runShp Shp.new os).1.stack)
    else none
  else none

end Go.Proofs.YtochdhibmmohfaaDoor

namespace Go.Proofs.YtochdhibmmohfaaDoor
open Go.RowKit
set_option linter.unusedVariables false

theorem TurnsSb.behind {w W : World} {base q off : Nat} {p : ShPtr} {t : Shp} {e : Ending} {w' : World} (hb : Below w.heap.size w W) (hq : q < w.heap.size) (h : TurnsSb W base q off p t e w') : TurnsSb w base q off p t e w' := by
  obtain ⟨he, p', h1, h2⟩ := h
  exact ⟨he, p', h1, (SbFr.of_below hb hq).trans h2⟩
theorem TurnsSb.mk' {w W w' : World} {base q off : Nat} {p p' : ShPtr} {s t : Shp} (hb : Below w.heap.size w W) (hq : q < w.heap.size) (h : SbAt w' base q off p' t ∧ SbFr W w' q off p p') : TurnsSb w base q off p t (.returned (.tuple #[])) w' :=
  ⟨rfl, p', h.1, (SbFr.of_below hb hq).trans h.2⟩

/-- the codes of orders that push a new thing, and its kind -/
def IsNewOp (c k : Int) : Prop := (c = 0 ∧ k = 0) ∨ (c = 1 ∧ k = 1) ∨ (c = 3 ∧ k = 2) ∨ (c = 4 ∧ k = 2) ∨ (c = 5 ∧ k = 2) ∨ (c = 6 ∧ k = 2) ∨ (c = 7 ∧ k = 3) ∨ (c = 10 ∧ k = 4) ∨ (c = 13 ∧ k = 5)
/-- the codes of orders that do nothing but take -/
def IsIdleOp (c : Int) : Prop := c = 8 ∨ c = 9 ∨ c = 11 ∨ c = 12 ∨ c = 17 ∨ c = 18

set_option maxRecDepth 100000 in
set_option maxHeartbeats 4000000 in
theorem act_new (q base off : Nat) (p : ShPtr) (s : Shp) (cd ar k : Int) (w : World) (h : SbAt w base q off p s) (hs : s.Small) (hbase : base ≤ w.heap.size) (hc : IsNewOp cd k) :
    Calls Tryd.prog 50 #[.pointer (some ⟨q, off, none⟩), .agg #[.int .i64 cd, .int .i64 ar]] w (TurnsSb w base q off p (s.push k)) := by
  have htl := hs.t
  have hlt := h.lt
  have hk : In64 k := by constructor <;> (rcases hc with h | h | h | h | h | h | h | h | h <;> omega)
  have hB := hide ((Below.refl w.heap.size w).alloc (Nat.le_refl _) (.cells #[.int .i64 cd, .int .i64 ar] 44))
  have lo := Lies.new w #[.int .i64 cd, .int .i64 ar] 44
  have h2 := h.alloc (.cells #[.int .i64 cd, .int .i64 ar] 44)
  have HC := hide (pushNew_any q base off p s k _ h2 hs (by simp; omega) hk)
  obtain ⟨e0, e1, e2, e3, e4, f0, f1, f2, f3, f4⟩ := h2.c
  have d0 := lo.cell 0
  have d1 := lo.cell 1
  simp only [List.getElem?_toArray, List.getElem?_cons_zero, List.getElem?_cons_succ] at d0 d1
  clear h hs h2 lo hk
  rcases hc with ⟨rfl, rfl⟩ | ⟨rfl, rfl⟩ | ⟨rfl, rfl⟩ | ⟨rfl, rfl⟩ | ⟨rfl, rfl⟩ | ⟨rfl, rfl⟩ | ⟨rfl, rfl⟩ | ⟨rfl, rfl⟩ | ⟨rfl, rfl⟩
  all_goals
    go_enter Tryd.func50, Tryd.ntmps50
    go_upto_region 1 with fail
    generalize w.alloc (.cells #[.int .i64 _, .int .i64 ar] 44) = W at hB HC e0 e1 e2 e3 e4 f0 f1 f2 f3 f4 d0 d1 ⊢
    go_wp2_with fail
    refine HC.out.mono ?_
    clear HC
    rintro e w' hE
    have hE2 := hE.behind hB.out hlt
    obtain ⟨rfl, hE3⟩ := hE
    have HE := hide hE2
    clear hE2 hE3
    go_wp2
    go_end0
    exact HE.out

set_option maxRecDepth 100000 in
set_option maxHeartbeats 4000000 in
theorem act_idle (q base off : Nat) (p : ShPtr) (s : Shp) (cd ar : Int) (w : World) (h : SbAt w base q off p s) (hs : s.Small) (hbase : base ≤ w.heap.size) (hc : IsIdleOp cd) :
    Calls Tryd.prog 50 #[.pointer (some ⟨q, off, none⟩), .agg #[.int .i64 cd, .int .i64 ar]] w (TurnsSb w base q off p s) := by
  have htl := hs.t
  have hlt := h.lt
  have hB := hide ((Below.refl w.heap.size w).alloc (Nat.le_refl _) (.cells #[.int .i64 cd, .int .i64 ar] 44))
  have lo := Lies.new w #[.int .i64 cd, .int .i64 ar] 44
  have h2 := h.alloc (.cells #[.int .i64 cd, .int .i64 ar] 44)
  have H2 := hide h2
  obtain ⟨e0, e1, e2, e3, e4, f0, f1, f2, f3, f4⟩ := h2.c
  have d0 := lo.cell 0
  have d1 := lo.cell 1
  simp only [List.getElem?_toArray, List.getElem?_cons_zero, List.getElem?_cons_succ] at d0 d1
  clear h hs h2 lo
  rcases hc with rfl | rfl | rfl | rfl | rfl | rfl
  all_goals
    go_enter Tryd.func50, Tryd.ntmps50
    go_upto_region 1 with fail
    generalize w.alloc (.cells #[.int .i64 _, .int .i64 ar] 44) = W at hB H2 e0 e1 e2 e3 e4 f0 f1 f2 f3 f4 d0 d1 ⊢
    go_wp2
    go_end0
    exact TurnsSb.mk' (s := s) hB.out hlt ⟨H2.out, SbFr.refl _ _ _ _⟩

set_option maxRecDepth 100000 in
set_option maxHeartbeats 4000000 in
theorem act_stop (q base off : Nat) (p : ShPtr) (s : Shp) (ar : Int) (w : World) (h : SbAt w base q off p s) (hs : s.Small) (hbase : base ≤ w.heap.size) :
    Calls Tryd.prog 50 #[.pointer (some ⟨q, off, none⟩), .agg #[.int .i64 19, .int .i64 ar]] w (TurnsSb w base q off p { s with done := true }) := by
  have htl := hs.t
  have hlt := h.lt
  have hB := hide ((Below.refl w.heap.size w).alloc (Nat.le_refl _) (.cells #[.int .i64 19, .int .i64 ar] 44))
  have lo := Lies.new w #[.int .i64 19, .int .i64 ar] 44
  have h2 := h.alloc (.cells #[.int .i64 19, .int .i64 ar] 44)
  have H2 := hide h2
  obtain ⟨e0, e1, e2, e3, e4, f0, f1, f2, f3, f4⟩ := h2.c
  have d0 := lo.cell 0
  have d1 := lo.cell 1
  simp only [List.getElem?_toArray, List.getElem?_cons_zero, List.getElem?_cons_succ] at d0 d1
  clear h hs h2 lo
  go_enter Tryd.func50, Tryd.ntmps50
  go_upto_region 1 with fail
  generalize w.alloc (.cells #[.int .i64 19, .int .i64 ar] 44) = W at hB H2 e0 e1 e2 e3 e4 f0 f1 f2 f3 f4 d0 d1 ⊢
  go_wp2
  go_end0
  exact TurnsSb.mk' (s := s) hB.out hlt H2.out.stop

end Go.Proofs.YtochdhibmmohfaaDoor

namespace Go.Proofs.YtochdhibmmohfaaDoor
open Go.RowKit
set_option linter.unusedVariables false

theorem and_i64 (a b : Nat) (ha : a < 1000) : bits .and .i64 (a : Int) (b % 1000 : Nat) = ((a &&& (b % 1000) : Nat) : Int) := by
  have hb : b % 1000 < 1000 := Nat.mod_lt _ (by omega)
  have hx : a &&& (b % 1000) ≤ a := Nat.and_le_left
  have h1 : (BitVec.ofInt 64 (a : Int)).toNat = a := by
    rw [BitVec.ofInt_natCast, BitVec.toNat_ofNat]; exact Nat.mod_eq_of_lt (by omega)
  have h2 : (BitVec.ofInt 64 ((b % 1000 : Nat) : Int)).toNat = b % 1000 := by
    rw [BitVec.ofInt_natCast, BitVec.toNat_ofNat]; exact Nat.mod_eq_of_lt (by omega)
  show IntKind.i64.wrap ((BitVec.ofInt 64 (a : Int) &&& BitVec.ofInt 64 ((b % 1000 : Nat) : Int)).toNat : Int) = _
  rw [BitVec.toNat_and, h1, h2, IntKind.wrap_i64]
  omega
theorem and_small {a b : Nat} (ha : a < 1000) (hb : b < 1000) : bits .and .i64 (a : Int) (b : Int) = ((a &&& b : Nat) : Int) := by
  have := and_i64 a b ha
  rwa [Nat.mod_eq_of_lt hb] at this

set_option maxRecDepth 100000 in
set_option maxHeartbeats 4000000 in
theorem within_any (v0 v1 v2 n0 n1 n2 : Nat) (w : World) (hv0 : v0 < 1000) (hv1 : v1 < 1000) (hv2 : v2 < 1000) (hn0 : n0 < 1000) (hn1 : n1 < 1000) (hn2 : n2 < 1000) :
    Calls Tryd.prog 53 #[.agg #[.int .i64 (v0 : Int), .int .i64 (v1 : Int), .int .i64 (v2 : Int)], .agg #[.int .i64 (n0 : Int), .int .i64 (n1 : Int), .int .i64 (n2 : Int)]] w (GivesV w (v0 &&& n0) (v1 &&& n1) (v2 &&& n2)) := by
  have a0 := and_small hv0 hn0
  have a1 := and_small hv1 hn1
  have a2 := and_small hv2 hn2
  have hB : Below w.heap.size w (((w.alloc (.cells #[.int .i64 (v0 : Int), .int .i64 (v1 : Int), .int .i64 (v2 : Int)] 78)).alloc (.cells #[.int .i64 (n0 : Int), .int .i64 (n1 : Int), .int .i64 (n2 : Int)] 78)).alloc (.cells #[.int .i64 0, .int .i64 0, .int .i64 0] 78)) := (((Below.refl _ _).alloc (Nat.le_refl _) _).alloc (by simp) _).alloc (by simp; omega) _
  have l1 := ((Lies.new w #[.int .i64 (v0 : Int), .int .i64 (v1 : Int), .int .i64 (v2 : Int)] 78).alloc (.cells #[.int .i64 (n0 : Int), .int .i64 (n1 : Int), .int .i64 (n2 : Int)] 78)).alloc (.cells #[.int .i64 0, .int .i64 0, .int .i64 0] 78)
  have l2 := (Lies.new (w.alloc (.cells #[.int .i64 (v0 : Int), .int .i64 (v1 : Int), .int .i64 (v2 : Int)] 78)) #[.int .i64 (n0 : Int), .int .i64 (n1 : Int), .int .i64 (n2 : Int)] 78).alloc (.cells #[.int .i64 0, .int .i64 0, .int .i64 0] 78)
  have l3 := Lies.new ((w.alloc (.cells #[.int .i64 (v0 : Int), .int .i64 (v1 : Int), .int .i64 (v2 : Int)] 78)).alloc (.cells #[.int .i64 (n0 : Int), .int .i64 (n1 : Int), .int .i64 (n2 : Int)] 78)) #[.int .i64 0, .int .i64 0, .int .i64 0] 78
  simp only [World.size_alloc] at l2 l3
  have A0 := hide a0
  have A1 := hide a1
  have A2 := hide a2
  have HB := hide hB
  clear hB a0 a1 a2 hv0 hv1 hv2 hn0 hn1 hn2
  generalize hk0 : v0 &&& n0 = k0 at A0 ⊢
  generalize hk1 : v1 &&& n1 = k1 at A1 ⊢
  generalize hk2 : v2 &&& n2 = k2 at A2 ⊢
  clear hk0 hk1 hk2
  go_enter Tryd.func53, Tryd.ntmps53
  go_upto_region 1 with fail
  generalize ((w.alloc (.cells #[.int .i64 (v0 : Int), .int .i64 (v1 : Int), .int .i64 (v2 : Int)] 78)).alloc (.cells #[.int .i64 (n0 : Int), .int .i64 (n1 : Int), .int .i64 (n2 : Int)] 78)).alloc (.cells #[.int .i64 0, .int .i64 0, .int .i64 0] 78) = W at l1 l2 l3 HB ⊢
  go_wp2_with fail
  go_loopw [6] (fun iv wr => ∃ (k : Nat) (x0 x1 x2 : Int), iv = .int .i64 (k : Int) ∧ k ≤ 3 ∧ Lies wr w.heap.size #[.int .i64 x0, .int .i64 x1, .int .i64 x2] 78 ∧ Lies wr (w.heap.size + 1) #[.int .i64 (n0 : Int), .int .i64 (n1 : Int), .int .i64 (n2 : Int)] 78 ∧ Lies wr (w.heap.size + 1 + 1) #[.int .i64 0, .int .i64 0, .int .i64 0] 78 ∧ Below w.heap.size w wr ∧ x0 = (if 0 < k then (k0 : Int) else v0) ∧ x1 = (if 1 < k then (k1 : Int) else v1) ∧ x2 = (if 2 < k then (k2 : Int) else v2)) (fun iv _ => 3 - (intOf iv).toNat)
  case atStart => exact ⟨0, v0, v1, v2, rfl, by omega, l1, l2, l3, HB.out, by simp, by simp, by simp⟩
  case round =>
    obtain ⟨k, x0, x1, x2, rfl, hk, l1, l2, l3, hB, hx0, hx1, hx2⟩ := hrel
    have HBr := hide hB
    have p0 := l1.cell 0
    have p1 := l1.cell 1
    have p2 := l1.cell 2
    have q0 := l2.cell 0
    have q1 := l2.cell 1
    have q2 := l2.cell 2
    have f0 := l1.frozen 0
    have f1 := l1.frozen 1
    have f2 := l1.frozen 2
    simp only [List.getElem?_toArray, List.getElem?_cons_zero, List.getElem?_cons_succ] at p0 p1 p2 q0 q1 q2
    match k, hk with
    | 0, _ =>
      simp at hx0 hx1 hx2
      subst hx0 hx1 hx2
      have aa := A0.out
      have m1 : Lies wr.drew w.heap.size _ _ := l1
      have pd := p0
      have fd := f0
      have HL1 := hide (l1.set 0 (.int .i64 (k0 : Int)))
      have HL2 := hide l2
      have HL3 := hide l3
      clear l1 l2 l3 hB
      rw [show ((0 : Nat) : Int) = 0 from rfl]
      go_wp2_with fail
      go_still_tail 8, (by kernel_rfl)
      change wpList _ _ _ _ _ wr.drew
      have pd' : wr.drew.cell? ⟨w.heap.size, 0, none⟩ = some (.int .i64 (v0 : Int)) := pd
      have fd' : wr.drew.frozen? ⟨w.heap.size, 0, none⟩ = false := fd
      have HL1' : Hid (Lies (wr.drew.setCell ⟨w.heap.size, 0, none⟩ (.int .i64 (k0 : Int))) w.heap.size _ _) := HL1
      have HL2' : Hid (Lies (wr.drew.setCell ⟨w.heap.size, 0, none⟩ (.int .i64 (k0 : Int))) (w.heap.size + 1) _ _) := hide (Lies.far (w := wr.drew) HL2.out (by show w.heap.size + 1 ≠ w.heap.size; omega) _)
      have HL3' : Hid (Lies (wr.drew.setCell ⟨w.heap.size, 0, none⟩ (.int .i64 (k0 : Int))) (w.heap.size + 1 + 1) _ _) := hide (Lies.far (w := wr.drew) HL3.out (by show w.heap.size + 1 + 1 ≠ w.heap.size; omega) _)
      have HB' := hide ((HBr.out.drew).setCell (p := ⟨w.heap.size, 0, none⟩) (Nat.le_refl _) (.int .i64 (k0 : Int)))
      clear HL1 HL2 HL3 HBr m1 p0 p1 p2 q0 q1 q2 f0 f1 f2 pd fd
      generalize wr.drew = w2 at pd' fd' HL1' HL2' HL3' HB' ⊢
      go_wp2
      go_roundw
      case rel => exact ⟨0 + 1, _, _, _, by go_num, by omega, by have h := HL1'.out; simp only [List.setIfInBounds_toArray, List.set_cons_zero] at h; exact h, HL2'.out, HL3'.out, HB'.out, by simp, by simp, by simp⟩
      case measure => simp [intOf]
    | 1, _ =>
      simp at hx0 hx1 hx2
      subst hx0 hx1 hx2
      have aa := A1.out
      have m1 : Lies wr.drew w.heap.size _ _ := l1
      have pd := p1
      have fd := f1
      have HL1 := hide (l1.set 1 (.int .i64 (k1 : Int)))
      have HL2 := hide l2
      have HL3 := hide l3
      clear l1 l2 l3 hB
      rw [show ((1 : Nat) : Int) = 1 from rfl]
      go_wp2_with fail
      go_still_tail 8, (by kernel_rfl)
      change wpList _ _ _ _ _ wr.drew
      have pd' : wr.drew.cell? ⟨w.heap.size, 1, none⟩ = some (.int .i64 (v1 : Int)) := pd
      have fd' : wr.drew.frozen? ⟨w.heap.size, 1, none⟩ = false := fd
      have HL1' : Hid (Lies (wr.drew.setCell ⟨w.heap.size, 1, none⟩ (.int .i64 (k1 : Int))) w.heap.size _ _) := HL1
      have HL2' : Hid (Lies (wr.drew.setCell ⟨w.heap.size, 1, none⟩ (.int .i64 (k1 : Int))) (w.heap.size + 1) _ _) := hide (Lies.far (w := wr.drew) HL2.out (by show w.heap.size + 1 ≠ w.heap.size; omega) _)
      have HL3' : Hid (Lies (wr.drew.setCell ⟨w.heap.size, 1, none⟩ (.int .i64 (k1 : Int))) (w.heap.size + 1 + 1) _ _) := hide (Lies.far (w := wr.drew) HL3.out (by show w.heap.size + 1 + 1 ≠ w.heap.size; omega) _)
      have HB' := hide ((HBr.out.drew).setCell (p := ⟨w.heap.size, 1, none⟩) (Nat.le_refl _) (.int .i64 (k1 : Int)))
      clear HL1 HL2 HL3 HBr m1 p0 p1 p2 q0 q1 q2 f0 f1 f2 pd fd
      generalize wr.drew = w2 at pd' fd' HL1' HL2' HL3' HB' ⊢
      go_wp2
      go_roundw
      case rel => exact ⟨1 + 1, _, _, _, by go_num, by omega, by have h := HL1'.out; simp only [List.setIfInBounds_toArray, List.set_cons_zero, List.set_cons_succ] at h; exact h, HL2'.out, HL3'.out, HB'.out, by simp, by simp, by simp⟩
      case measure => simp [intOf]
    | 2, _ =>
      simp at hx0 hx1 hx2
      subst hx0 hx1 hx2
      have aa := A2.out
      have m1 : Lies wr.drew w.heap.size _ _ := l1
      have pd := p2
      have fd := f2
      have HL1 := hide (l1.set 2 (.int .i64 (k2 : Int)))
      have HL2 := hide l2
      have HL3 := hide l3
      clear l1 l2 l3 hB
      rw [show ((2 : Nat) : Int) = 2 from rfl]
      go_wp2_with fail
      go_still_tail 8, (by kernel_rfl)
      change wpList _ _ _ _ _ wr.drew
      have pd' : wr.drew.cell? ⟨w.heap.size, 2, none⟩ = some (.int .i64 (v2 : Int)) := pd
      have fd' : wr.drew.frozen? ⟨w.heap.size, 2, none⟩ = false := fd
      have HL1' : Hid (Lies (wr.drew.setCell ⟨w.heap.size, 2, none⟩ (.int .i64 (k2 : Int))) w.heap.size _ _) := HL1
      have HL2' : Hid (Lies (wr.drew.setCell ⟨w.heap.size, 2, none⟩ (.int .i64 (k2 : Int))) (w.heap.size + 1) _ _) := hide (Lies.far (w := wr.drew) HL2.out (by show w.heap.size + 1 ≠ w.heap.size; omega) _)
      have HL3' : Hid (Lies (wr.drew.setCell ⟨w.heap.size, 2, none⟩ (.int .i64 (k2 : Int))) (w.heap.size + 1 + 1) _ _) := hide (Lies.far (w := wr.drew) HL3.out (by show w.heap.size + 1 + 1 ≠ w.heap.size; omega) _)
      have HB' := hide ((HBr.out.drew).setCell (p := ⟨w.heap.size, 2, none⟩) (Nat.le_refl _) (.int .i64 (k2 : Int)))
      clear HL1 HL2 HL3 HBr m1 p0 p1 p2 q0 q1 q2 f0 f1 f2 pd fd
      generalize wr.drew = w2 at pd' fd' HL1' HL2' HL3' HB' ⊢
      go_wp2
      go_roundw
      case rel => exact ⟨2 + 1, _, _, _, by go_num, by omega, by have h := HL1'.out; simp only [List.setIfInBounds_toArray, List.set_cons_zero, List.set_cons_succ] at h; exact h, HL2'.out, HL3'.out, HB'.out, by simp, by simp, by simp⟩
      case measure => simp [intOf]
    | 3, _ =>
      simp at hx0 hx1 hx2
      subst hx0 hx1 hx2
      have lf := lies3_set l3 (.int .i64 (k0 : Int)) (.int .i64 (k1 : Int)) (.int .i64 (k2 : Int))
      have s0 := lf.cell 0
      have s1 := lf.cell 1
      have s2 := lf.cell 2
      have r0 := l3.cell 0
      have r1 := l3.cell 1
      have r2 := l3.cell 2
      have g0 := l3.frozen 0
      have g1 := l3.frozen 1
      have g2 := l3.frozen 2
      simp only [List.getElem?_toArray, List.getElem?_cons_zero, List.getElem?_cons_succ] at s0 s1 s2 r0 r1 r2
      have HB2 := hide (((HBr.out.setCell (p := ⟨w.heap.size + 1 + 1, 0, none⟩) (by show w.heap.size ≤ w.heap.size + 1 + 1; omega) (.int .i64 (k0 : Int))).setCell (p := ⟨w.heap.size + 1 + 1, 1, none⟩) (by show w.heap.size ≤ w.heap.size + 1 + 1; omega) (.int .i64 (k1 : Int))).setCell (p := ⟨w.heap.size + 1 + 1, 2, none⟩) (by show w.heap.size ≤ w.heap.size + 1 + 1; omega) (.int .i64 (k2 : Int)))
      clear l1 l2 l3 lf hB HBr
      rw [show ((3 : Nat) : Int) = 3 from rfl]
      go_wp2
      refine bodyPost_ret (v := .agg #[.int .i64 (k0 : Int), .int .i64 (k1 : Int), .int .i64 (k2 : Int)]) (by simp [results, Tryd.results53, go_sem, s0, s1, s2]) rfl ?_
      exact ⟨rfl, HB2.out⟩

end Go.Proofs.YtochdhibmmohfaaDoor
