/-
  Lemmas, several texts in one: LrM, CutM, SpecO, Dif, Con.
-/
import Derived.Test.YtochdhibmmohfabPjAe
import Derived.Test.YtochdhibmmohfabOwn
import Derived.Test.YtochdhibmmohfabPjAh
import Derived.Test.YtochdhibmmohfabPjAd
import Derived.Test.YtochdhibmmohfabPjAc
import Derived.Test.YtochdhibmmohfabSetI
import Derived.Test.YtochdhibmmohfabPjAf
import Derived.Deep.LoopGhost
namespace Go.Proofs.Ytochdhibmmohfab
open Go.RowKit
set_option linter.unusedVariables false

/-- the greatest of numbers, 0 without any -/
def maxL (L : List Int) : Int := L.foldl max 0
theorem maxL_snoc (L : List Int) (x : Int) : maxL (L ++ [x]) = max (maxL L) x := by simp [maxL]
theorem maxL_take {L : List Int} {k : Nat} {x : Int} (h : L[k]? = some x) : maxL (L.take (k + 1)) = if maxL (L.take k) < x then x else maxL (L.take k) := by
  rw [List.take_add_one, h]
  have := maxL_snoc (L.take k) x
  simp only [Option.toList_some]
  rw [this]
  split <;> omega
theorem maxL_64 {L : List Int} (h : ∀ x ∈ L, In64 x) : In64 (maxL L) := by
  unfold maxL
  have : ∀ (L : List Int) (z : Int), In64 z → (∀ x ∈ L, In64 x) → In64 (L.foldl max z) := by
    intro L
    induction L with
    | nil => intro z hz _; exact hz
    | cons y L ih =>
      intro z hz hL
      refine ih _ ?_ (fun x hx => hL x (List.mem_cons_of_mem _ hx))
      have hy := hL y (by simp)
      obtain ⟨z1, z2⟩ := hz
      obtain ⟨y1, y2⟩ := hy
      constructor <;> omega
  exact this L 0 (by constructor <;> omega) h

/-- the program is valid, and all of it is possible -/
def LrOk (os : List Od) : Prop := OpsOk os ∧ (runShp Shp.new os).2 = os.length
noncomputable def leastRu (os : List Od) : Ru := ⟨os.length, (runShp Shp.new os).1.kinds.length, maxL (depthsOf os), classesIn os⟩
open Classical in
noncomputable def lrOf (os : List Od) : Ru := if LrOk os then leastRu os else ⟨0, 0, 0, []⟩
theorem lr_yes {os : List Od} (h : LrOk os) : lrOf os = leastRu os := by unfold lrOf; rw [if_pos h]
theorem lr_no {os : List Od} (h : ¬ LrOk os) : lrOf os = ⟨0, 0, 0, []⟩ := by unfold lrOf; rw [if_neg h]

/-- the least rules come back, their classes in memory of the call's own -/
def GivesLr (w : World) (os : List Od) (e : Ending) (w' : World) : Prop :=
  ∃ A c, e = .returned (.tuple #[ruVal (lrOf os) A c, .bool (tf (LrOk os))]) ∧ OwnI w' w.heap.size A c (lrOf os).cls ∧ Below w.heap.size w w'

theorem run_kinds_few {os : List Od} (h : OpsOk os) : (runShp Shp.new os).1.kinds.length ≤ 1000000 := by
  have := (runShp_ok (s := Shp.new) (os := os) Shp.new_ok ⟨by simp [Shp.new], by simp [Shp.new]⟩ (fun o ho => (h.2 o ho).get)).2.1.1
  omega

def zero4 : Array Value := #[.int .i64 0, .int .i64 0, .int .i64 0, .slice none 0 0]

/-- the world behind a store of four cells -/
def set4 (w : World) (q : Nat) (v0 v1 v2 v3 : Value) : World := (((w.setCell ⟨q, 0, none⟩ v0).setCell ⟨q, 1, none⟩ v1).setCell ⟨q, 2, none⟩ v2).setCell ⟨q, 3, none⟩ v3

/-- all that a store of four cells wants and gives -/
structure Put4 (w : World) (q : Nat) (u0 u1 u2 u3 v0 v1 v2 v3 : Value) : Prop where
  r0 : w.cell? ⟨q, 0, none⟩ = some u0
  r1 : w.cell? ⟨q, 1, none⟩ = some u1
  r2 : w.cell? ⟨q, 2, none⟩ = some u2
  r3 : w.cell? ⟨q, 3, none⟩ = some u3
  f0 : w.frozen? ⟨q, 0, none⟩ = false
  f1 : w.frozen? ⟨q, 1, none⟩ = false
  f2 : w.frozen? ⟨q, 2, none⟩ = false
  f3 : w.frozen? ⟨q, 3, none⟩ = false
  s0 : ((((w.setCell ⟨q, 0, none⟩ v0).setCell ⟨q, 1, none⟩ v1).setCell ⟨q, 2, none⟩ v2).setCell ⟨q, 3, none⟩ v3).cell? ⟨q, 0, none⟩ = some v0
  s1 : ((((w.setCell ⟨q, 0, none⟩ v0).setCell ⟨q, 1, none⟩ v1).setCell ⟨q, 2, none⟩ v2).setCell ⟨q, 3, none⟩ v3).cell? ⟨q, 1, none⟩ = some v1
  s2 : ((((w.setCell ⟨q, 0, none⟩ v0).setCell ⟨q, 1, none⟩ v1).setCell ⟨q, 2, none⟩ v2).setCell ⟨q, 3, none⟩ v3).cell? ⟨q, 2, none⟩ = some v2
  s3 : ((((w.setCell ⟨q, 0, none⟩ v0).setCell ⟨q, 1, none⟩ v1).setCell ⟨q, 2, none⟩ v2).setCell ⟨q, 3, none⟩ v3).cell? ⟨q, 3, none⟩ = some v3

theorem Lies.put4 {w : World} {q : Nat} {u0 u1 u2 u3 : Value} {t : TypeId} (h : Lies w q #[u0, u1, u2, u3] t) (v0 v1 v2 v3 : Value) : Put4 w q u0 u1 u2 u3 v0 v1 v2 v3 ∧ Lies ((((w.setCell ⟨q, 0, none⟩ v0).setCell ⟨q, 1, none⟩ v1).setCell ⟨q, 2, none⟩ v2).setCell ⟨q, 3, none⟩ v3) q #[v0, v1, v2, v3] t := by
  have l := (((h.set 0 v0).set 1 v1).set 2 v2).set 3 v3
  simp only [List.setIfInBounds_toArray, List.set_cons_succ, List.set_cons_zero] at l
  have r0 := h.cell 0
  have r1 := h.cell 1
  have r2 := h.cell 2
  have r3 := h.cell 3
  have s0 := l.cell 0
  have s1 := l.cell 1
  have s2 := l.cell 2
  have s3 := l.cell 3
  simp only [List.getElem?_toArray, List.getElem?_cons_zero, List.getElem?_cons_succ] at r0 r1 r2 r3 s0 s1 s2 s3
  exact ⟨⟨r0, r1, r2, r3, h.frozen 0, h.frozen 1, h.frozen 2, h.frozen 3, s0, s1, s2, s3⟩, l⟩

theorem put4_block {w : World} {q k : Nat} {v0 v1 v2 v3 : Value} (hk : k ≠ q) : ((((w.setCell ⟨q, 0, none⟩ v0).setCell ⟨q, 1, none⟩ v1).setCell ⟨q, 2, none⟩ v2).setCell ⟨q, 3, none⟩ v3).heap[k]? = w.heap[k]? := by
  rw [Below.heap_setCell _ _ _ _ (by show k ≠ q; exact hk), Below.heap_setCell _ _ _ _ (by show k ≠ q; exact hk), Below.heap_setCell _ _ _ _ (by show k ≠ q; exact hk), Below.heap_setCell _ _ _ _ (by show k ≠ q; exact hk)]
theorem put4_below {w w' : World} {B q : Nat} {v0 v1 v2 v3 : Value} (h : Below B w w') (hq : B ≤ q) : Below B w ((((w'.setCell ⟨q, 0, none⟩ v0).setCell ⟨q, 1, none⟩ v1).setCell ⟨q, 2, none⟩ v2).setCell ⟨q, 3, none⟩ v3) :=
  (((h.setCell (p := ⟨q, 0, none⟩) hq v0).setCell (p := ⟨q, 1, none⟩) hq v1).setCell (p := ⟨q, 2, none⟩) hq v2).setCell (p := ⟨q, 3, none⟩) hq v3

/-- old cells for others -/
theorem OwnI.put4 {w : World} {base q A c} {xs : List Int} (h : OwnI w base A c xs) (hq : q < base) (v0 v1 v2 v3 : Value) : OwnI ((((w.setCell ⟨q, 0, none⟩ v0).setCell ⟨q, 1, none⟩ v1).setCell ⟨q, 2, none⟩ v2).setCell ⟨q, 3, none⟩ v3) base A c xs := by
  refine ⟨h.own.1, ?_⟩
  have hb := h.blocks
  rcases h.own.2 with h2 | ⟨g, cap, cur, hv, hg, hh, r⟩
  · exact .inl h2
  · exact .inr ⟨g, cap, cur, hv, hg, (put4_block (by omega)).trans hh, r⟩

end Go.Proofs.Ytochdhibmmohfab

namespace Go.Proofs.Ytochdhibmmohfab
set_option linter.unusedVariables false

open Classical in
/-- what CutOps returns -/
noncomputable def cutOf (os : List Od) : List Od := if OpsOk os then os.take (runShp Shp.new os).2 else []
theorem cutOf_ok {os : List Od} (h : OpsOk os) : cutOf os = os.take (runShp Shp.new os).2 := by unfold cutOf; rw [if_pos h]
theorem cutOf_no {os : List Od} (h : ¬ OpsOk os) : cutOf os = [] := by unfold cutOf; rw [if_neg h]

theorem runNew_le {os : List Od} (h : ∀ o ∈ os, OdOk o) : (runShp Shp.new os).1.Ok ∧ (runShp Shp.new os).1.Fits ∧ (runShp Shp.new os).2 ≤ os.length :=
  runShp_ok Shp.new_ok ⟨by simp [Shp.new], by simp [Shp.new]⟩ (fun o ho => (h o ho).get)

theorem cutOf_few {os : List Od} : (cutOf os).length ≤ 300 := by
  by_cases h : OpsOk os
  · rw [cutOf_ok h]
    have := h.1
    simp only [List.length_take]
    omega
  · rw [cutOf_no h]; simp
theorem cutOf_mem {os : List Od} : ∀ o ∈ cutOf os, OdOk o := by
  by_cases h : OpsOk os
  · rw [cutOf_ok h]
    exact fun o ho => h.2 o (List.mem_of_mem_take ho)
  · rw [cutOf_no h]; intro o ho; cases ho

/-- how many marks are among the first k things of a stack -/
def negs (l : List Int) : Nat → Nat
  | 0 => 0
  | k + 1 => negs l k + (if l.getD k 0 < 0 then 1 else 0)
theorem negs_le (l : List Int) (k : Nat) : negs l k ≤ k := by
  induction k with
  | zero => exact Nat.le_refl _
  | succ k ih => unfold negs; split <;> omega

/-- how many things lie below the first mark -/
def free : List Int → Nat
  | [] => 0
  | x :: l => if 0 ≤ x then free l + 1 else 0
theorem free_le (l : List Int) : free l ≤ l.length := by
  induction l with
  | nil => exact Nat.le_refl _
  | cons x l ih => unfold free; split <;> simp only [List.length_cons] <;> omega
theorem free_at {l : List Int} {k : Nat} (h : k < free l) : 0 ≤ l.getD k 0 := by
  induction l generalizing k with
  | nil => simp [free] at h
  | cons x l ih =>
    unfold free at h
    split at h
    · cases k with
      | zero => simpa
      | succ k => simpa using ih (k := k) (by omega)
    · omega
theorem free_stop {l : List Int} (h : free l < l.length) : l.getD (free l) 0 < 0 := by
  induction l with
  | nil => simp at h
  | cons x l ih =>
    unfold free at h ⊢
    split
    · next hx =>
      rw [if_pos hx] at h
      simpa using ih (by simpa using h)
    · next hx => simp; omega

/-- the orders that end a program behind which things lie on the stack -/
def tailOps (l : List Int) : List Od :=
  List.replicate (negs l l.length) ⟨3, 0⟩ ++ List.replicate (free l + (if 0 < negs l l.length then 1 else 0) - 1) ⟨6, 0⟩ ++
    (if free l + (if 0 < negs l l.length then 1 else 0) = 0 then [⟨4, 0⟩] else []) ++ [⟨19, 0⟩]

theorem od_fix {c : Int} (h0 : 0 ≤ c) (h1 : c ≤ 19) (h : argMost c < 0) : OdOk ⟨c, 0⟩ := ⟨⟨h0, h1⟩, .inl ⟨h, rfl⟩⟩

theorem od_64 {o : Od} (h : OdOk o) : (-9223372036854775808 ≤ o.code ∧ o.code ≤ 9223372036854775807) ∧ (-9223372036854775808 ≤ o.arg ∧ o.arg ≤ 9223372036854775807) := by
  obtain ⟨h1, h2⟩ := h
  have := argMost_range o.code
  constructor <;> constructor <;> omega

theorem tailOps_mem (l : List Int) : ∀ o ∈ tailOps l, OdOk o := by
  have h3 : OdOk ⟨3, 0⟩ := od_fix (by omega) (by omega) (by simp [argMost])
  have h6 : OdOk ⟨6, 0⟩ := od_fix (by omega) (by omega) (by simp [argMost])
  have h4 : OdOk ⟨4, 0⟩ := od_fix (by omega) (by omega) (by simp [argMost])
  have h19 : OdOk ⟨19, 0⟩ := od_fix (by omega) (by omega) (by simp [argMost])
  intro o ho
  unfold tailOps at ho
  rcases List.mem_append.1 ho with ho | ho
  · rcases List.mem_append.1 ho with ho | ho
    · rcases List.mem_append.1 ho with ho | ho
      · rw [List.eq_of_mem_replicate ho]; exact h3
      · rw [List.eq_of_mem_replicate ho]; exact h6
    · by_cases hc : free l + (if 0 < negs l l.length then 1 else 0) = 0
      · rw [if_pos hc] at ho
        rw [List.mem_singleton.1 ho]; exact h4
      · rw [if_neg hc] at ho; cases ho
  · rw [List.mem_singleton.1 ho]; exact h19

theorem tail_a {st : List Int} {m k : Nat} (hm : m = negs st st.length) (hk : k = free st) (h0 : 0 < m) : tailOps st = (List.replicate m ⟨3, 0⟩ ++ List.replicate (k + 1 - 1) ⟨6, 0⟩) ++ [⟨19, 0⟩] := by
  unfold tailOps
  rw [← hm, ← hk, if_pos h0, if_neg (by omega), List.append_nil]
theorem tail_b {st : List Int} {m k : Nat} (hm : m = negs st st.length) (hk : k = free st) (h0 : ¬ 0 < m) (hk0 : ¬ k = 0) : tailOps st = (List.replicate m ⟨3, 0⟩ ++ List.replicate (k - 1) ⟨6, 0⟩) ++ [⟨19, 0⟩] := by
  unfold tailOps
  rw [← hm, ← hk, if_neg h0, if_neg (by omega), List.append_nil, Nat.add_zero]
theorem tail_c {st : List Int} {m : Nat} (hm : m = negs st st.length) (hk : 0 = free st) (h0 : ¬ 0 < m) : tailOps st = (List.replicate m ⟨3, 0⟩ ++ List.replicate (0 - 1) ⟨6, 0⟩ ++ [⟨4, 0⟩]) ++ [⟨19, 0⟩] := by
  unfold tailOps
  rw [← hm, ← hk, if_neg h0, if_pos (by omega), Nat.add_zero]

theorem tailOps_len (l : List Int) : (tailOps l).length ≤ 2 * l.length + 3 := by
  have h1 := negs_le l l.length
  have h2 := free_le l
  unfold tailOps
  simp only [List.length_append, List.length_replicate]
  split <;> split <;> simp <;> omega

open Classical in
/-- what EndOps returns -/
noncomputable def endOf (os : List Od) : Option (List Od) :=
  if OpsOk os then
    if (runShp Shp.new os).1.done = true then some []
    else if OpsOk (os.take (runShp Shp.new os).2 ++ tailOps (runShp Shp.new os).1.stack) ∧ (runShp Shp.new (os.take (runShp Shp.new os).2 ++ tailOps (runShp Shp.new os).1.stack)).2 = (os.take (runShp Shp.new os).2 ++ tailOps (runShp Shp.new os).1.stack).length then some (tailOps (runShp Shp.new os).1.stack)
    else none
  else none

end Go.Proofs.Ytochdhibmmohfab

namespace Go.Proofs.Ytochdhibmmohfab
open Go.RowKit
set_option linter.unusedVariables false

set_option maxHeartbeats 1000000 in
theorem specValidOps_any (A : Option Addr) (os : List Od) (c : Nat) (w : World) (h : OpsAt w w.heap.size A os) :
    Calls Try.prog 37 #[.slice A os.length c] w fun e w' => e = .returned (.bool (tf (OpsOk os))) ∧ Below w.heap.size w w' := by
  have hl := h.len
  go_enter Try.func37, Try.ntmps37
  go_wp2_with fail
  go_loopw [3] (fun i wr => ∃ k : Nat, k ≤ os.length ∧ i = .int .i64 k ∧ Below w.heap.size w wr ∧ ∀ j x, j < k → os[j]? = some x → OdOk x) (fun i _ => os.length - (intOf i).toNat)
  case atStart => exact ⟨0, Nat.zero_le _, rfl, Below.refl _ _, fun j _ hj => absurd hj (by omega)⟩
  case round =>
    obtain ⟨k, hk, rfl, hb, he0⟩ := hrel
    have he := hide he0
    clear he0
    by_cases hlt : k < os.length
    · obtain ⟨b, off, x, rfl, hbl, hx, hmem, hc0, hc1⟩ := (h.below hb).at_ hlt
      have Hx := hide hx
      clear hx
      by_cases hin : OdOk x
      · have He : Hid (∀ j y, j < k + 1 → os[j]? = some y → OdOk y) := by
          intro j y hj hy
          by_cases e : j = k
          · subst e
            have := Hx.out.symm.trans hy
            injection this with this
            subst this
            exact hin
          · exact he.out j y (by omega) hy
        have ht := hide (show tf (OdOk x) = true from tf_true hin)
        clear he hmem hin
        go_wp2_with fail
        refine (validOp_any x _).mono ?_
        rintro e w' ⟨rfl, hb2⟩
        rw [ht.out]
        go_wp2
        go_roundw
        case rel => exact ⟨k + 1, by omega, by go_num, hb.trans (hb2.mono hb.size), He.out⟩
        case measure => simp [intOf]; omega
      · have HF := hide (show tf (OpsOk os) = false from tf_false fun hall => hin (hall.2 x hmem))
        have ht := hide (show tf (OdOk x) = false from tf_false hin)
        clear he hmem hin
        go_wp2_with fail
        refine (validOp_any x _).mono ?_
        rintro e w' ⟨rfl, hb2⟩
        rw [ht.out]
        go_wp2
        go_ret
        exact ⟨ret_bool HF.out.symm, hb.trans (hb2.mono hb.size)⟩
    · obtain rfl : k = os.length := by omega
      have hall : ∀ x ∈ os, OdOk x := fun x hx => by
        obtain ⟨j, hj, rfl⟩ := List.getElem_of_mem hx
        exact he.out j _ hj (List.getElem?_eq_getElem hj)
      by_cases h3 : os.length ≤ 300
      · have HF := hide (show tf (OpsOk os) = true from tf_true ⟨h3, hall⟩)
        have d : decide ((os.length : Int) ≤ 300) = true := by simp; omega
        clear hlt hall
        go_wp2
        go_ret
        exact ⟨ret_bool HF.out.symm, hb⟩
      · have HF := hide (show tf (OpsOk os) = false from tf_false fun hh => h3 hh.1)
        have d : decide ((os.length : Int) ≤ 300) = false := by simp; omega
        clear hlt hall
        go_wp2
        go_ret
        exact ⟨ret_bool HF.out.symm, hb⟩

end Go.Proofs.Ytochdhibmmohfab

namespace Go.Proofs.Ytochdhibmmohfab
open Go.RowKit Go.Maps
set_option linter.unusedVariables false

/-- the memory of areDifferent: the set grows -/
structure DifS (w wr : World) (os : List Int) (m : Int) (k : Nat) : Prop where
  bel : Below w.heap.size w wr
  set : ∃ mp As cs, SetI wr w.heap.size (w.heap.size + 1) mp As cs (os.take k)
  size : w.heap.size + 1 ≤ wr.heap.size
  rng : ∀ x ∈ os.take k, 0 ≤ x ∧ x ≤ m
  nd : (os.take k).Nodup

theorem DifS.step {w wr w' : World} {os : List Int} {m : Int} {k : Nat} {x : Int} (h : DifS w wr os m k) (hx : os[k]? = some x) (hb : But (w.heap.size + 1) w.heap.size wr w') (hs : ∃ mp As cs, SetI w' w.heap.size (w.heap.size + 1) mp As cs (os.take k ++ [x]))
    (hr : 0 ≤ x ∧ x ≤ m) (hno : x ∉ os.take k) : DifS w w' os m (k + 1) := by
  have e : os.take (k + 1) = os.take k ++ [x] := by rw [List.take_add_one, hx]; rfl
  refine ⟨hb.below h.bel (Nat.le_refl _) (by omega), by rw [e]; exact hs, Nat.le_trans h.size hb.size, fun y hy => ?_, ?_⟩
  · rw [e] at hy
    rcases List.mem_append.1 hy with hy | hy
    · exact h.rng y hy
    · simp at hy; subst hy; exact hr
  · rw [e, List.nodup_append]
    exact ⟨h.nd, by simp, fun a ha b hb => by simp at hb; subst hb; intro e; subst e; exact hno ha⟩

set_option maxHeartbeats 1000000 in
theorem areDifferent_any (A : Option Addr) (os : List Int) (c : Nat) (m : Int) (w : World) (h : IntsAt w w.heap.size A os) (hl : os.length ≤ 1048576) :
    Calls Try.prog 27 #[.slice A os.length c, .int .i64 m] w fun e w' => e = .returned (.bool (tf (Diff os m))) ∧ Below w.heap.size w w' := by
  have hS0 : DifS w (w.alloc (.cells #[.map none, .slice none 0 0] 74)) os m 0 :=
    ⟨(Below.refl _ _).alloc (Nat.le_refl _) _, ⟨none, none, 0, SetI.start (Lies.new w _ _) (by omega)⟩, by simp, fun x hx => by simp at hx, by simp⟩
  have HS0 := hide hS0
  have H := hide h
  clear hS0 h
  go_enter Try.func27, Try.ntmps27
  go_wp2_with fail
  generalize w.alloc (.cells #[.map none, .slice none 0 0] 74) = W at HS0 ⊢
  go_loopg [10] os.length (fun gk iv wr => ∃ k : Nat, k ≤ os.length ∧ gk = os.length - k ∧ iv = .int .i64 (k : Int) ∧ DifS w wr os m k)
  case atStart => exact ⟨0, Nat.zero_le _, rfl, rfl, HS0.out⟩
  case round =>
    clear HS0
    obtain ⟨k, hk, rfl, rfl, hS⟩ := hrel
    by_cases hlt : k < os.length
    · obtain ⟨b, off, x, rfl, hbl, hx, hm, hc⟩ := (H.out.below hS.bel).at_ hlt
      obtain ⟨mp, As, cs, hset⟩ := hS.set
      have hx64 := hide (H.out.wf x hm)
      have HX := hide hx
      have HSet := hide hset
      have HS := hide hS
      have HM := hide hm
      have hq1 : (0 : Int) ≤ (k : Int) := by omega
      have hq2 : (k : Int) < (os.length : Int) := by omega
      clear hx hset hS hm hbl
      by_cases hr : 0 ≤ x ∧ x ≤ m
      · by_cases hin : x ∈ os.take k
        · have HF := hide (show tf (Diff os m) = false from tf_false (fun ho => by
            obtain ⟨j, hj, e⟩ := List.getElem_of_mem hin
            have hj2 : j < k ∧ j < os.length := by simp at hj; omega
            rw [List.getElem_take] at e
            obtain ⟨hk2, e2⟩ := List.getElem?_eq_some_iff.1 HX.out
            have := (List.getElem_inj ho.nd).1 (e.trans e2.symm)
            omega))
          have HIn := hide hin
          obtain ⟨hr1, hr2⟩ := hr
          clear hin
          go_wp2_with fail
          refine (isUpTo_yes x m wr hr1 hr2).mono ?_
          rintro e w' ⟨rfl, rfl⟩
          go_wp2_with fail
          refine (addI_seen _ _ mp As cs (os.take k) x _ HSet.out hx64.out HIn.out).mono ?_
          rintro e w' ⟨rfl, rfl⟩
          have HB := hide HS.out.bel
          clear HSet HS HIn
          go_wp2
          go_ret
          exact ⟨ret_bool HF.out.symm, HB.out⟩
        · have HNo := hide hin
          obtain ⟨hr1, hr2⟩ := hr
          clear hin
          go_wp2_with fail
          refine (isUpTo_yes x m wr hr1 hr2).mono ?_
          rintro e w' ⟨rfl, rfl⟩
          go_wp2_with fail
          refine (addI_new _ _ mp cs As (os.take k) x _ HSet.out hx64.out HS.out.size HNo.out (by simp; omega)).mono ?_
          rintro e w' ⟨rfl, hs', hbut⟩
          have HN := hide (HS.out.step HX.out hbut hs' ⟨hr1, hr2⟩ HNo.out)
          clear hs' hbut HSet HS HNo hc
          go_wp2
          go_roundg (os.length - (k + 1))
          case measure => omega
          case rel => exact ⟨k + 1, by omega, rfl, by go_num, HN.out⟩
      · have HF := hide (show tf (Diff os m) = false from tf_false (fun ho => hr (ho.rng x HM.out)))
        have HB := hide HS.out.bel
        clear HSet
        go_wp2_with fail
        refine (isUpTo_no x m wr (by omega)).mono ?_
        rintro e w' ⟨rfl, rfl⟩
        clear hr
        go_wp2
        go_ret
        exact ⟨ret_bool HF.out.symm, HB.out⟩
    · obtain rfl : k = os.length := by omega
      have HF := hide (show tf (Diff os m) = true from tf_true ⟨by have := hS.rng; rwa [List.take_length] at this, by have := hS.nd; rwa [List.take_length] at this⟩)
      have HB := hide hS.bel
      clear hS hlt
      go_wp2
      go_ret
      exact ⟨ret_bool HF.out.symm, HB.out⟩

end Go.Proofs.Ytochdhibmmohfab

namespace Go.Proofs.Ytochdhibmmohfab
open Go.RowKit
set_option linter.unusedVariables false

set_option maxHeartbeats 1000000 in
theorem indexI_any (A : Option Addr) (xs : List Int) (c : Nat) (n : Int) (w : World) (h : IntsAt w w.heap.size A xs) :
    Calls Try.prog 28 #[.slice A xs.length c, .int .i64 n] w fun e w' => e = .returned (.int .i64 (place xs n)) ∧ w = w' := by
  have hl := h.len
  go_enter Try.func28, Try.ntmps28
  go_wp2_with fail
  go_loop [8] (fun i => ∃ k : Nat, k ≤ xs.length ∧ i = .int .i64 k ∧ ∀ j, j < k → xs[j]? ≠ some n) (fun i => xs.length - (intOf i).toNat)
  case atStart => exact ⟨0, Nat.zero_le _, rfl, fun j hj => absurd hj (by omega)⟩
  case round =>
    obtain ⟨k, hk, rfl, he0⟩ := hrel
    have he := hide he0
    clear he0
    by_cases hlt : k < xs.length
    · obtain ⟨b, off, x, rfl, hbl, hx, _, hc⟩ := h.at_ hlt
      have Hx := hide hx
      clear hx
      by_cases hxn : n = x
      · subst hxn
        have HF := hide (place_at Hx.out he.out)
        go_wp2
        go_ret
        exact ⟨ret_int HF.out.symm, rfl⟩
      · have t : (n == x) = false := by simpa using hxn
        have he2 : ∀ j, j < k + 1 → xs[j]? ≠ some n := by
          intro j hj
          by_cases e : j = k
          · subst e; rw [Hx.out]; intro e; injection e with e; exact hxn e.symm
          · exact he.out j (by omega)
        have He := hide he2
        clear he2 he hxn
        go_wp2
        go_round
        case rel => exact ⟨k + 1, by omega, by go_num, He.out⟩
        case measure => simp [intOf]; omega
    · obtain rfl : k = xs.length := by omega
      have HF := hide (place_none he.out)
      clear hlt
      go_wp2
      go_ret
      exact ⟨ret_int HF.out.symm, rfl⟩

set_option maxHeartbeats 400000 in
theorem containsI_any (A : Option Addr) (xs : List Int) (c : Nat) (n : Int) (w : World) (h : IntsAt w w.heap.size A xs) :
    Calls Try.prog 12 #[.slice A xs.length c, .int .i64 n] w fun e w' => e = .returned (.bool (tf (n ∈ xs))) ∧ w = w' := by
  go_enter Try.func12, Try.ntmps12
  go_wp2_with fail
  refine (indexI_any A xs c n w h).mono ?_
  rintro e w' ⟨rfl, rfl⟩
  by_cases hin : n ∈ xs
  · have hp := place_lt hin
    have HF := hide (tf_true hin)
    have hd : decide (0 ≤ place xs n) = true := by simp; omega
    generalize place xs n = pl at hp hd ⊢
    clear hin
    go_wp2
    go_ret
    exact ⟨ret_bool HF.out.symm, rfl⟩
  · have HF := hide (tf_false hin)
    rw [place_neg hin]
    clear hin
    go_wp2
    go_ret
    exact ⟨ret_bool HF.out.symm, rfl⟩

end Go.Proofs.Ytochdhibmmohfab
