/-
  Lemmas, several texts in one: RuM, DpM, LrM, SpecO, NewSh, DpW, Keep, HeldI.
-/
import Derived.Test.YtochdhibmmohfaaDoorPjAf
import Derived.Test.YtochdhibmmohfaaDoorPjAa
import Derived.Test.YtochdhibmmohfaaDoorPjAe
import Derived.Test.YtochdhibmmohfaaDoorPjAb
import Derived.Test.YtochdhibmmohfaaDoorOwn
import Derived.Test.YtochdhibmmohfaaDoorPjAh
import Derived.Test.YtochdhibmmohfaaDoorPjAi
import Derived.Test.YtochdhibmmohfaaDoorSb
namespace Go.Proofs.YtochdhibmmohfaaDoor
open Go.RowKit

/-- the rules of a reader -/
structure Ru where
  steps : Int
  nodes : Int
  deep : Int
  cls : List Int
  deriving DecidableEq

/-- valid rules -/
structure RuOk (r : Ru) : Prop where
  s : 0 ≤ r.steps ∧ r.steps ≤ 300
  n : 0 ≤ r.nodes ∧ r.nodes ≤ 300
  d : 0 ≤ r.deep ∧ r.deep ≤ 300
  c : Diff r.cls 9

def ruCells (r : Ru) (A : Option Addr) (c : Nat) : Array Value := #[.int .i64 r.steps, .int .i64 r.nodes, .int .i64 r.deep, .slice A r.cls.length c]
def ruVal (r : Ru) (A : Option Addr) (c : Nat) : Value := .agg (ruCells r A c)

/-- rules that can be read -/
structure RuAt (w : World) (B : Nat) (A : Option Addr) (r : Ru) : Prop where
  c : IntsAt w B A r.cls
  s : In64 r.steps
  n : In64 r.nodes
  d : In64 r.deep

theorem RuAt.below {w w' : World} {B : Nat} {A : Option Addr} {r : Ru} (h : RuAt w B A r) (hb : Below B w w') : RuAt w' B A r := ⟨h.c.below hb, h.s, h.n, h.d⟩
theorem RuAt.more {w : World} {B B' : Nat} {A : Option Addr} {r : Ru} (h : RuAt w B A r) (hB : B ≤ B') : RuAt w B' A r := ⟨h.c.more hB, h.s, h.n, h.d⟩
theorem RuAt.later {w w' : World} {B : Nat} {A : Option Addr} {r : Ru} (h : RuAt w B A r) (hb : Below B w w') (hB : B ≤ w.heap.size) : RuAt w' w'.heap.size A r := (h.below hb).more (Nat.le_trans hB hb.size)

end Go.Proofs.YtochdhibmmohfaaDoor

namespace Go.Proofs.YtochdhibmmohfaaDoor
set_option linter.unusedVariables false

/-- how many marks a stack has -/
def marksIn (l : List Int) : Nat := (l.filter fun x => decide (x < 0)).length

/-- what is told of the stack after each of the first n orders -/
noncomputable def toldOf (f : List Int → Nat) (os : List Od) (n : Nat) : List Int := (List.range n).map fun j => ((f (stk os (j + 1)) : Nat) : Int)

theorem toldOf_len (f : List Int → Nat) (os : List Od) (n : Nat) : (toldOf f os n).length = n := by simp [toldOf]
theorem toldOf_succ (f : List Int → Nat) (os : List Od) (n : Nat) : toldOf f os (n + 1) = toldOf f os n ++ [((f (stk os (n + 1)) : Nat) : Int)] := by
  unfold toldOf
  rw [List.range_succ, List.map_append]
  rfl

open Classical in
/-- how many things are on the stack after each order -/
noncomputable def depthsOf (os : List Od) : List Int := if OpsOk os then toldOf List.length os (runShp Shp.new os).2 else []
open Classical in
/-- how many marks are on the stack after each order -/
noncomputable def marksOf (os : List Od) : List Int := if OpsOk os then toldOf marksIn os (runShp Shp.new os).2 else []

theorem stk_le {os : List Od} (h : ∀ o ∈ os, OdOk o) (j : Nat) : (stk os j).length ≤ 300 :=
  (runShp_ok (s := Shp.new) (os := os.take j) Shp.new_ok ⟨by simp [Shp.new], by simp [Shp.new]⟩ (fun o ho => (h o (List.mem_of_mem_take ho)).get)).2.1.2
theorem stk_ok {os : List Od} (h : ∀ o ∈ os, OdOk o) (j : Nat) : (runShp Shp.new (os.take j)).1.Ok :=
  (runShp_ok (s := Shp.new) (os := os.take j) Shp.new_ok ⟨by simp [Shp.new], by simp [Shp.new]⟩ (fun o ho => (h o (List.mem_of_mem_take ho)).get)).1
theorem marksIn_le (l : List Int) : marksIn l ≤ l.length := List.length_filter_le _ _
theorem run_le {os : List Od} (h : ∀ o ∈ os, OdOk o) : (runShp Shp.new os).2 ≤ os.length :=
  (runShp_ok (s := Shp.new) (os := os) Shp.new_ok ⟨by simp [Shp.new], by simp [Shp.new]⟩ (fun o ho => (h o ho).get)).2.2

theorem toldOf_64 {f : List Int → Nat} (hf : ∀ l, f l ≤ l.length) {os : List Od} (h : ∀ o ∈ os, OdOk o) (n : Nat) : ∀ x ∈ toldOf f os n, In64 x := by
  intro x hx
  unfold toldOf at hx
  obtain ⟨j, _, rfl⟩ := List.mem_map.1 hx
  have h1 := hf (stk os (j + 1))
  have h2 := stk_le h (j + 1)
  constructor <;> omega

theorem depthsOf_few {os : List Od} : (depthsOf os).length ≤ 300 := by
  unfold depthsOf
  split
  · next h => rw [toldOf_len]; exact Nat.le_trans (run_le h.2) h.1
  · simp
theorem depthsOf_64 {os : List Od} : ∀ x ∈ depthsOf os, In64 x := by
  unfold depthsOf
  split
  · next h => exact toldOf_64 (fun l => Nat.le_refl _) h.2 _
  · intro x hx; simp at hx
theorem marksOf_few {os : List Od} : (marksOf os).length ≤ 300 := by
  unfold marksOf
  split
  · next h => rw [toldOf_len]; exact Nat.le_trans (run_le h.2) h.1
  · simp
theorem marksOf_64 {os : List Od} : ∀ x ∈ marksOf os, In64 x := by
  unfold marksOf
  split
  · next h => exact toldOf_64 marksIn_le h.2 _
  · intro x hx; simp at hx

end Go.Proofs.YtochdhibmmohfaaDoor

namespace Go.Proofs.YtochdhibmmohfaaDoor
open Go.RowKit
set_option linter.unusedVariables false

/-- the greatest of numbers, 0 without any -/
def maxL (L : List Int) : Int := L.foldl max 0
theorem maxL_snoc (L : List Int) (x : Int) : maxL (L ++ [x]) = max (maxL L) x := by simp [maxL]
theorem maxL_take {L : List Int} {k : Nat} {x : Int} (h : L[k]? = some x) : maxL (L.take (k + 1)) = if maxL (L.take k) < x then x else maxL (L.take k) := by
  rw [List.take_add_one, h]
  have := maxL_snoc (L.take k) x
  simp only [Option.toList_some]
  rw [this]
  split <;> omega
theorem maxL_64 {L : List Int} (h : ∀ x ∈ L, In64 x) : In64 (maxL L) := by
  unfold maxL
  have : ∀ (L : List Int) (z : Int), In64 z → (∀ x ∈ L, In64 x) → In64 (L.foldl max z) := by
    intro L
    induction L with
    | nil => intro z hz _; exact hz
    | cons y L ih =>
      intro z hz hL
      refine ih _ ?_ (fun x hx => hL x (List.mem_cons_of_mem _ hx))
      have hy := hL y (by simp)
      obtain ⟨z1, z2⟩ := hz
      obtain ⟨y1, y2⟩ := hy
      constructor <;> omega
  exact this L 0 (by constructor <;> omega) h

/-- the program is valid, and all of it is possible -/
def LrOk (os : List Od) : Prop := OpsOk os ∧ (runShp Shp.new os).2 = os.length
noncomputable def leastRu (os : List Od) : Ru := ⟨os.length, (runShp Shp.new os).1.kinds.length, maxL (depthsOf os), classesIn os⟩
open Classical in
noncomputable def lrOf (os : List Od) : Ru := if LrOk os then leastRu os else ⟨0, 0, 0, []⟩
theorem lr_yes {os : List Od} (h : LrOk os) : lrOf os = leastRu os := by unfold lrOf; rw [if_pos h]
theorem lr_no {os : List Od} (h : ¬ LrOk os) : lrOf os = ⟨0, 0, 0, []⟩ := by unfold lrOf; rw [if_neg h]

/-- the least rules come back, their classes in memory of the call's own -/
def GivesLr (w : World) (os : List Od) (e : Ending) (w' : World) : Prop :=
  ∃ A c, e = .returned (.tuple #[ruVal (lrOf os) A c, .bool (tf (LrOk os))]) ∧ OwnI w' w.heap.size A c (lrOf os).cls ∧ Below w.heap.size w w'

theorem run_kinds_few {os : List Od} (h : OpsOk os) : (runShp Shp.new os).1.kinds.length ≤ 1000000 := by
  have := (runShp_ok (s := Shp.new) (os := os) Shp.new_ok ⟨by simp [Shp.new], by simp [Shp.new]⟩ (fun o ho => (h.2 o ho).get)).2.1.1
  omega

def zero4 : Array Value := #[.int .i64 0, .int .i64 0, .int .i64 0, .slice none 0 0]

/-- the world behind a store of four cells -/
def set4 (w : World) (q : Nat) (v0 v1 v2 v3 : Value) : World := (((w.setCell ⟨q, 0, none⟩ v0).setCell ⟨q, 1, none⟩ v1).setCell ⟨q, 2, none⟩ v2).setCell ⟨q, 3, none⟩ v3

/-- all that a store of four cells wants and gives -/
structure Put4 (w : World) (q : Nat) (u0 u1 u2 u3 v0 v1 v2 v3 : Value) : Prop where
  r0 : w.cell? ⟨q, 0, none⟩ = some u0
  r1 : w.cell? ⟨q, 1, none⟩ = some u1
  r2 : w.cell? ⟨q, 2, none⟩ = some u2
  r3 : w.cell? ⟨q, 3, none⟩ = some u3
  f0 : w.frozen? ⟨q, 0, none⟩ = false
  f1 : w.frozen? ⟨q, 1, none⟩ = false
  f2 : w.frozen? ⟨q, 2, none⟩ = false
  f3 : w.frozen? ⟨q, 3, none⟩ = false
  s0 : ((((w.setCell ⟨q, 0, none⟩ v0).setCell ⟨q, 1, none⟩ v1).setCell ⟨q, 2, none⟩ v2).setCell ⟨q, 3, none⟩ v3).cell? ⟨q, 0, none⟩ = some v0
  s1 : ((((w.setCell ⟨q, 0, none⟩ v0).setCell ⟨q, 1, none⟩ v1).setCell ⟨q, 2, none⟩ v2).setCell ⟨q, 3, none⟩ v3).cell? ⟨q, 1, none⟩ = some v1
  s2 : ((((w.setCell ⟨q, 0, none⟩ v0).setCell ⟨q, 1, none⟩ v1).setCell ⟨q, 2, none⟩ v2).setCell ⟨q, 3, none⟩ v3).cell? ⟨q, 2, none⟩ = some v2
  s3 : ((((w.setCell ⟨q, 0, none⟩ v0).setCell ⟨q, 1, none⟩ v1).setCell ⟨q, 2, none⟩ v2).setCell ⟨q, 3, none⟩ v3).cell? ⟨q, 3, none⟩ = some v3

theorem Lies.put4 {w : World} {q : Nat} {u0 u1 u2 u3 : Value} {t : TypeId} (h : Lies w q #[u0, u1, u2, u3] t) (v0 v1 v2 v3 : Value) : Put4 w q u0 u1 u2 u3 v0 v1 v2 v3 ∧ Lies ((((w.setCell ⟨q, 0, none⟩ v0).setCell ⟨q, 1, none⟩ v1).setCell ⟨q, 2, none⟩ v2).setCell ⟨q, 3, none⟩ v3) q #[v0, v1, v2, v3] t := by
  have l := (((h.set 0 v0).set 1 v1).set 2 v2).set 3 v3
  simp only [List.setIfInBounds_toArray, List.set_cons_succ, List.set_cons_zero] at l
  have r0 := h.cell 0
  have r1 := h.cell 1
  have r2 := h.cell 2
  have r3 := h.cell 3
  have s0 := l.cell 0
  have s1 := l.cell 1
  have s2 := l.cell 2
  have s3 := l.cell 3
  simp only [List.getElem?_toArray, List.getElem?_cons_zero, List.getElem?_cons_succ] at r0 r1 r2 r3 s0 s1 s2 s3
  exact ⟨⟨r0, r1, r2, r3, h.frozen 0, h.frozen 1, h.frozen 2, h.frozen 3, s0, s1, s2, s3⟩, l⟩

theorem put4_block {w : World} {q k : Nat} {v0 v1 v2 v3 : Value} (hk : k ≠ q) : ((((w.setCell ⟨q, 0, none⟩ v0).setCell ⟨q, 1, none⟩ v1).setCell ⟨q, 2, none⟩ v2).setCell ⟨q, 3, none⟩ v3).heap[k]? = w.heap[k]? := by
  rw [Below.heap_setCell _ _ _ _ (by show k ≠ q; exact hk), Below.heap_setCell _ _ _ _ (by show k ≠ q; exact hk), Below.heap_setCell _ _ _ _ (by show k ≠ q; exact hk), Below.heap_setCell _ _ _ _ (by show k ≠ q; exact hk)]
theorem put4_below {w w' : World} {B q : Nat} {v0 v1 v2 v3 : Value} (h : Below B w w') (hq : B ≤ q) : Below B w ((((w'.setCell ⟨q, 0, none⟩ v0).setCell ⟨q, 1, none⟩ v1).setCell ⟨q, 2, none⟩ v2).setCell ⟨q, 3, none⟩ v3) :=
  (((h.setCell (p := ⟨q, 0, none⟩) hq v0).setCell (p := ⟨q, 1, none⟩) hq v1).setCell (p := ⟨q, 2, none⟩) hq v2).setCell (p := ⟨q, 3, none⟩) hq v3

/-- old cells for others -/
theorem OwnI.put4 {w : World} {base q A c} {xs : List Int} (h : OwnI w base A c xs) (hq : q < base) (v0 v1 v2 v3 : Value) : OwnI ((((w.setCell ⟨q, 0, none⟩ v0).setCell ⟨q, 1, none⟩ v1).setCell ⟨q, 2, none⟩ v2).setCell ⟨q, 3, none⟩ v3) base A c xs := by
  refine ⟨h.own.1, ?_⟩
  have hb := h.blocks
  rcases h.own.2 with h2 | ⟨g, cap, cur, hv, hg, hh, r⟩
  · exact .inl h2
  · exact .inr ⟨g, cap, cur, hv, hg, (put4_block (by omega)).trans hh, r⟩

end Go.Proofs.YtochdhibmmohfaaDoor

namespace Go.Proofs.YtochdhibmmohfaaDoor
open Go.RowKit
set_option linter.unusedVariables false

set_option maxHeartbeats 1000000 in
theorem specValidOps_any (A : Option Addr) (os : List Od) (c : Nat) (w : World) (h : OpsAt w w.heap.size A os) :
    Calls Tryd.prog 13 #[.slice A os.length c] w fun e w' => e = .returned (.bool (tf (OpsOk os))) ∧ Below w.heap.size w w' := by
  have hl := h.len
  go_enter Tryd.func13, Tryd.ntmps13
  go_wp2_with fail
  go_loopw [3] (fun i wr => ∃ k : Nat, k ≤ os.length ∧ i = .int .i64 k ∧ Below w.heap.size w wr ∧ ∀ j x, j < k → os[j]? = some x → OdOk x) (fun i _ => os.length - (intOf i).toNat)
  case atStart => exact ⟨0, Nat.zero_le _, rfl, Below.refl _ _, fun j _ hj => absurd hj (by omega)⟩
  case round =>
    obtain ⟨k, hk, rfl, hb, he0⟩ := hrel
    have he := hide he0
    clear he0
    by_cases hlt : k < os.length
    · obtain ⟨b, off, x, rfl, hbl, hx, hmem, hc0, hc1⟩ := (h.below hb).at_ hlt
      have Hx := hide hx
      clear hx
      by_cases hin : OdOk x
      · have He : Hid (∀ j y, j < k + 1 → os[j]? = some y → OdOk y) := by
          intro j y hj hy
          by_cases e : j = k
          · subst e
            have := Hx.out.symm.trans hy
            injection this with this
            subst this
            exact hin
          · exact he.out j y (by omega) hy
        have ht := hide (show tf (OdOk x) = true from tf_true hin)
        clear he hmem hin
        go_wp2_with fail
        refine (validOp_any x _).mono ?_
        rintro e w' ⟨rfl, hb2⟩
        rw [ht.out]
        go_wp2
        go_roundw
        case rel => exact ⟨k + 1, by omega, by go_num, hb.trans (hb2.mono hb.size), He.out⟩
        case measure => simp [intOf]; omega
      · have HF := hide (show tf (OpsOk os) = false from tf_false fun hall => hin (hall.2 x hmem))
        have ht := hide (show tf (OdOk x) = false from tf_false hin)
        clear he hmem hin
        go_wp2_with fail
        refine (validOp_any x _).mono ?_
        rintro e w' ⟨rfl, hb2⟩
        rw [ht.out]
        go_wp2
        go_ret
        exact ⟨ret_bool HF.out.symm, hb.trans (hb2.mono hb.size)⟩
    · obtain rfl : k = os.length := by omega
      have hall : ∀ x ∈ os, OdOk x := fun x hx => by
        obtain ⟨j, hj, rfl⟩ := List.getElem_of_mem hx
        exact he.out j _ hj (List.getElem?_eq_getElem hj)
      by_cases h3 : os.length ≤ 300
      · have HF := hide (show tf (OpsOk os) = true from tf_true ⟨h3, hall⟩)
        have d : decide ((os.length : Int) ≤ 300) = true := by simp; omega
        clear hlt hall
        go_wp2
        go_ret
        exact ⟨ret_bool HF.out.symm, hb⟩
      · have HF := hide (show tf (OpsOk os) = false from tf_false fun hh => h3 hh.1)
        have d : decide ((os.length : Int) ≤ 300) = false := by simp; omega
        clear hlt hall
        go_wp2
        go_ret
        exact ⟨ret_bool HF.out.symm, hb⟩

end Go.Proofs.YtochdhibmmohfaaDoor

namespace Go.Proofs.YtochdhibmmohfaaDoor
open Go.RowKit
set_option linter.unusedVariables false

set_option maxRecDepth 100000 in
set_option maxHeartbeats 1000000 in
theorem implNewShapes_any (w : World) : Calls Tryd.prog 41 #[] w (GivesSh w w.heap.size Shp.new) := by
  obtain ⟨R, hR⟩ : ∃ R, R = List.replicate 20 (-1 : Int) := ⟨_, rfl⟩
  rw [show Shp.new = ⟨[], [], [], R, false⟩ from by rw [hR]; rfl]
  have HR := hide hR
  clear hR
  have hB0 := (Below.refl w.heap.size w).alloc (Nat.le_refl _) (.cells zero5 39)
  have L0 := Lies.new w zero5 39
  have HB0 := hide hB0
  have HL0 := hide L0
  clear hB0 L0
  go_enter Tryd.func41, Tryd.ntmps41
  go_upto_region 1 with fail
  unfold zero5 at HB0 HL0
  generalize w.alloc (.cells #[.slice none 0 0, .slice none 0 0, .slice none 0 0, .slice none 0 0, .bool false] 39) = W at HB0 HL0 ⊢
  have hlt := HL0.out.lt
  have HC := hide (repeat_20 W.heap.size (-1) 1 (W.alloc (.cells #[.int .i64 (-1)] 3)) (by simp) (by simp) (by constructor <;> omega))
  have HA := hide ((Below.refl W.heap.size W).alloc (Nat.le_refl _) (.cells #[.int .i64 (-1)] 3))
  have hz : (W.alloc (.cells #[.int .i64 (-1)] 3)).heap.size = W.heap.size + 1 := by simp
  rw [← HR.out] at HC
  generalize hV : W.alloc (.cells #[.int .i64 (-1)] 3) = V at HC HA hz
  have HV := hide hV
  clear hV
  go_wp2_with (go_at_call 47; rw [HV.out]; refine HC.out.mono ?_; rintro e w2 ⟨A, c, rfl, ho, hb⟩; have hS := (show Lies w2 w.heap.size #[.slice none 0 0, .slice none 0 0, .slice none 0 0, .slice none 0 0, .bool false] 39 from (Lies.below (HL0.out.below HA.out hlt) hb (by omega))); obtain ⟨⟨r0, r1, r2, r3, r4, f0, f1, f2, f3, f4, s0, s1, s2, s3, s4⟩, hlf⟩ := Lies.set5 hS (.slice none 0 0) (.slice none 0 0) (.slice none 0 0) (.slice A R.length c) (.bool false); have HS := hide hS; clear hS; have HO := hide (And.intro ho hb); clear ho hb hlf)
  refine bodyPost_ret (v := shVal ⟨none, 0, none, 0, none, 0, A, c⟩ ⟨[], [], [], R, false⟩) (by simp [shVal, shCells, results, Tryd.results41, go_sem, s0, s1, s2, s3, s4]) rfl ?_
  obtain ⟨ho, hb⟩ := HO.out
  have hbw : Below w.heap.size w w2 := (HB0.out.trans (HA.out.mono (by omega))).trans (hb.mono (by omega))
  have hoff : ShPtr.Off ⟨none, 0, none, 0, none, 0, A, c⟩ w.heap.size := ⟨by simp [blockOf], by simp [blockOf], by simp [blockOf], fun e => by have := ho.blocks w.heap.size e; omega⟩
  refine ⟨⟨none, 0, none, 0, none, 0, A, c⟩, rfl, ?_, set5_below hbw (Nat.le_refl _)⟩
  refine ShOwn.set5 ⟨OwnI.empty _ _, OwnB.empty _ _, OwnI.empty _ _, ho.mono (by omega), ?_, ?_, ?_, ?_, ?_, ?_⟩ hoff <;> simp [blockOf]

end Go.Proofs.YtochdhibmmohfaaDoor

namespace Go.Proofs.YtochdhibmmohfaaDoor
open Go.RowKit
set_option linter.unusedVariables false

/-- the numbers that are collected lie behind the captured variable in block bc -/
def Coll (base bc : Nat) (f : List Int → Nat) (os : List Od) (k : Nat) (D : Nat → Prop) (W : World) : Prop :=
  ∃ A c, Lies W bc #[.slice A k c] 24 ∧ OwnI W base A c (toldOf f os k) ∧ blockOf A ≠ some bc ∧ (∀ b, D b ↔ b = bc ∨ blockOf A = some b)

theorem Coll.watcher (base bc : Nat) (f : List Int → Nat) (os : List Od) (g : Nat) (caps : Array Value) : Watcher g caps os (Coll base bc f os) := by
  refine ⟨fun k D W W' hJ hb hz => ?_, fun k D W hJ b hb => ?_⟩
  · obtain ⟨A, c, h1, h2, h3, h4⟩ := hJ
    exact ⟨A, c, (hb bc ((h4 bc).2 (.inl rfl))).trans h1, h2.ofB (fun g hg => hb g ((h4 g).2 (.inr hg))), h3, h4⟩
  · obtain ⟨A, c, h1, h2, h3, h4⟩ := hJ
    rcases (h4 b).1 hb with rfl | hA
    · exact h1.lt
    · exact (h2.blocks b hA).2

/-- one number more is put behind them -/
theorem Coll.next {base bc k : Nat} {f : List Int → Nat} {os : List Od} {D : Nat → Prop} {W w1 : World} {A A' : Option Addr} {c c' : Nat} {zs : List Int} {lit : Obj} (hl : Lies W bc #[.slice A k c] 24) (hA : blockOf A ≠ some bc) (hD : ∀ b, D b ↔ b = bc ∨ blockOf A = some b)
    (hz : zs = toldOf f os (k + 1)) (ho : OwnI w1 base A' c' zs) (hg : (W.alloc lit).grownBy w1 (blockOf A)) (hat : blockOf A' = blockOf A ∨ blockOf A' = some (W.alloc lit).heap.size) :
    Watched W (k + 1) D (Coll base bc f os) (.returned (.tuple #[])) (w1.setCell ⟨bc, 0, none⟩ (.slice A' zs.length c')) := by
  have hlt := hl.lt
  have hlen : zs.length = k + 1 := by rw [hz, toldOf_len]
  have hA' : blockOf A' ≠ some bc := by
    rcases hat with h | h
    · rw [h]; exact hA
    · rw [h]; intro e; injection e with e; simp at e; omega
  have hb1 : w1.heap[bc]? = W.heap[bc]? := by rw [hg.block bc (by simp; omega) (fun e => hA e.symm), Below.heap_alloc _ _ _ hlt]
  have hl1 : Lies w1 bc #[.slice A k c] 24 := hb1.trans hl
  have hl2 := hl1.set 0 (.slice A' zs.length c')
  have hs := hg.size
  simp at hs
  refine ⟨rfl, fun b => b = bc ∨ blockOf A' = some b, ⟨A', c', ?_, ?_, hA', fun b => Iff.rfl⟩, fun b hb hD' => ?_, ⟨?_, ?_, ?_, by simp; omega, fun b hb hnD => ?_⟩⟩
  · rw [← hlen]
    simpa using hl2
  · rw [← hz]
    exact ho.ofB fun g hgA => Below.heap_setCell _ _ _ _ (by show g ≠ bc; intro e; subst e; exact hA' hgA)
  · rcases hD' with rfl | h
    · exact (hD _).2 (.inl rfl)
    · rcases hat with h2 | h2
      · exact (hD b).2 (.inr (h2 ▸ h))
      · rw [h2] at h; injection h with h; simp at h; omega
  · exact hg.os
  · exact hg.tape
  · exact hg.output
  · have h1 : b ≠ bc := fun e => hnD ((hD b).2 (.inl e))
    have h2 : blockOf A ≠ some b := fun e => hnD ((hD b).2 (.inr e))
    rw [Below.heap_setCell _ _ _ _ (by show b ≠ bc; exact h1), hg.block b (by simp; omega) (fun e => h2 e.symm), Below.heap_alloc _ _ _ hb]

end Go.Proofs.YtochdhibmmohfaaDoor

namespace Go.Proofs.YtochdhibmmohfaaDoor
open Go.RowKit
set_option linter.unusedVariables false

/-- the blocks from lo on and below hi are in b as they are in a -/
structure Keeps (lo hi : Nat) (a b : World) : Prop where
  os : b.os = a.os
  tape : b.tape = a.tape
  output : b.output = a.output
  size : a.heap.size ≤ b.heap.size
  top : hi ≤ a.heap.size
  block : ∀ q, lo ≤ q → q < hi → b.heap[q]? = a.heap[q]?

theorem Keeps.refl (lo hi : Nat) (a : World) (h : hi ≤ a.heap.size) : Keeps lo hi a a := ⟨rfl, rfl, rfl, Nat.le_refl _, h, fun _ _ _ => rfl⟩
theorem Keeps.at_ (lo : Nat) (a : World) : Keeps lo a.heap.size a a := Keeps.refl _ _ _ (Nat.le_refl _)
theorem Keeps.step {lo hi : Nat} {a b c : World} (h : Keeps lo hi a b) (hb : Below b.heap.size b c) : Keeps lo hi a c :=
  ⟨hb.os.trans h.os, hb.tape.trans h.tape, hb.output.trans h.output, Nat.le_trans h.size hb.size, h.top, fun q h1 h2 => (hb.block q (by have := h.size; have := h.top; omega)).trans (h.block q h1 h2)⟩
theorem Keeps.only {lo hi l u : Nat} {a b c : World} (h : Keeps lo hi a b) (ho : Only l u b c) (hd : hi ≤ l ∨ u ≤ lo) : Keeps lo hi a c :=
  ⟨ho.os.trans h.os, ho.tape.trans h.tape, ho.output.trans h.output, by rw [ho.size]; exact h.size, h.top, fun q h1 h2 => (ho.block q (by omega)).trans (h.block q h1 h2)⟩
theorem Keeps.save {lo hi l u : Nat} {a b c : World} (h : Keeps lo hi a b) (ho : Save l u b c) (hd : hi ≤ l ∨ u ≤ lo) : Keeps lo hi a c :=
  ⟨ho.os.trans h.os, ho.tape.trans h.tape, ho.output.trans h.output, Nat.le_trans h.size ho.size, h.top, fun q h1 h2 => (ho.block q (by have := h.size; have := h.top; omega) (by omega)).trans (h.block q h1 h2)⟩
theorem Keeps.mono {lo hi lo' hi' : Nat} {a b : World} (h : Keeps lo hi a b) (h1 : lo ≤ lo') (h2 : hi' ≤ hi) : Keeps lo' hi' a b :=
  ⟨h.os, h.tape, h.output, h.size, Nat.le_trans h2 h.top, fun q h3 h4 => h.block q (by omega) (by omega)⟩
theorem Keeps.bel {hi : Nat} {a b : World} (h : Keeps 0 hi a b) : Below hi a b := ⟨h.os, h.tape, h.output, h.size, fun q hq => h.block q (Nat.zero_le _) hq⟩
theorem Lies.keep {lo hi g : Nat} {a b : World} {cs : Array Value} {t : TypeId} (h : Lies a g cs t) (k : Keeps lo hi a b) (h1 : lo ≤ g) (h2 : g < hi) : Lies b g cs t := (k.block g h1 h2).trans h
theorem OwnI.keepK {lo hi base : Nat} {a b : World} {A : Option Addr} {c : Nat} {xs : List Int} (h : OwnI a base A c xs) (k : Keeps lo hi a b) (h1 : lo ≤ base) (h2 : hi = a.heap.size) : OwnI b base A c xs := by
  have hbl := h.blocks
  refine ⟨h.own.1, ?_⟩
  rcases h.own.2 with h3 | ⟨g, cap, cur, hv, hg, hh, r⟩
  · exact .inl h3
  · refine .inr ⟨g, cap, cur, hv, hg, ?_, r⟩
    injection hv with hv _ _
    have := hbl g (by rw [hv]; rfl)
    exact (k.block g (by omega) (by omega)).trans hh
theorem rowIs_keep {lo hi g n : Nat} {a b : World} {t : TypeId} {f : Nat → Value} (h : a.rowIs g t n f) (k : Keeps lo hi a b) (h1 : lo ≤ g) (h2 : g < hi) : b.rowIs g t n f := h.of_block (k.block g h1 h2)

end Go.Proofs.YtochdhibmmohfaaDoor

namespace Go.Proofs.YtochdhibmmohfaaDoor
open Go.RowKit
set_option linter.unusedVariables false

set_option maxHeartbeats 1000000 in
theorem heldIntS_any (A : Option Addr) (n c : Nat) (k0 : Int) (w : World) (h : IntsAt w w.heap.size A (marks k0 n)) (hk0 : 0 ≤ k0) (hk1 : k0 ≤ 4611686018427387904) (hn : n ≤ 1048576) :
    Calls Tryd.prog 24 #[.slice A n c, .int .i64 k0] w fun e w' => e = .returned (.int .i64 (k0 + n)) ∧ w = w' := by
  go_enter Tryd.func24, Tryd.ntmps24
  go_wp2_with fail
  go_loop [1, 5] (fun kv iv => ∃ j : Nat, j ≤ n ∧ iv = .int .i64 j ∧ kv = .int .i64 (k0 + (j : Int))) (fun _ iv => n - (intOf iv).toNat)
  case atStart => exact ⟨0, Nat.zero_le _, rfl, by go_num⟩
  case round =>
    obtain ⟨j, hj, rfl, rfl⟩ := hrel
    by_cases hlt : j < n
    · obtain ⟨b, off, x, rfl, hbl, hx, _, hc⟩ := h.at_ (k := j) (by rw [marks_len]; exact hlt)
      rw [marks_at hlt] at hx
      obtain rfl : k0 + (j : Int) = x := Option.some.inj hx
      have t : ((k0 + (j : Int)) != (k0 + (j : Int))) = false := by simp
      have hk2 : k0 + (j : Int) ≤ 9223372036854775806 := by omega
      clear hx
      go_wp2
      go_round
      case rel => exact ⟨j + 1, by omega, by go_num, by go_num⟩
      case measure => simp [intOf]; omega
    · obtain rfl : j = n := by omega
      clear hlt
      go_wp2
      go_ret
      exact ⟨rfl, rfl⟩

end Go.Proofs.YtochdhibmmohfaaDoor
