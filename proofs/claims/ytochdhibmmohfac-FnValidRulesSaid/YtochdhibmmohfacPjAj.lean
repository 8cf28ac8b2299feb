/-
  Lemmas, several texts in one: DpM, LrM, ShpUa.
-/
import Derived.Test.YtochdhibmmohfacPjAi
import Derived.Test.YtochdhibmmohfacPjAc
import Derived.Test.YtochdhibmmohfacPjAe
import Derived.Test.YtochdhibmmohfacOwn
import Derived.Test.YtochdhibmmohfacPjAd
import Derived.Test.YtochdhibmmohfacShpT
import Derived.Test.YtochdhibmmohfacPjAh
import Derived.Test.YtochdhibmmohfacShpN
import Derived.Test.YtochdhibmmohfacPjAg
import Derived.Deep.QuietTactic
import Derived.Deep.RegionLaw
import Derived.Deep.RegionHeld
import Derived.Deep.Cut
import Derived.BigQuiet
namespace Go.Proofs.Ytochdhibmmohfac
set_option linter.unusedVariables false

/-- how many marks a stack has -/
def marksIn (l : List Int) : Nat := (l.filter fun x => decide (x < 0)).length

/-- what is told of the stack after each of the first n orders -/
noncomputable def toldOf (f : List Int → Nat) (os : List Od) (n : Nat) : List Int := (List.range n).map fun j => ((f (stk os (j + 1)) : Nat) : Int)

theorem toldOf_len (f : List Int → Nat) (os : List Od) (n : Nat) : (toldOf f os n).length = n := by simp [toldOf]
theorem toldOf_succ (f : List Int → Nat) (os : List Od) (n : Nat) : toldOf f os (n + 1) = toldOf f os n ++ [((f (stk os (n + 1)) : Nat) : Int)] := by
  unfold toldOf
  rw [List.range_succ, List.map_append]
  rfl

open Classical in
/-- how many things are on the stack after each order -/
noncomputable def depthsOf (os : List Od) : List Int := if OpsOk os then toldOf List.length os (runShp Shp.new os).2 else []
open Classical in
/-- how many marks are on the stack after each order -/
noncomputable def marksOf (os : List Od) : List Int := if OpsOk os then toldOf marksIn os (runShp Shp.new os).2 else []

theorem stk_le {os : List Od} (h : ∀ o ∈ os, OdOk o) (j : Nat) : (stk os j).length ≤ 300 :=
  (runShp_ok (s := Shp.new) (os := os.take j) Shp.new_ok ⟨by simp [Shp.new], by simp [Shp.new]⟩ (fun o ho => (h o (List.mem_of_mem_take ho)).get)).2.1.2
theorem stk_ok {os : List Od} (h : ∀ o ∈ os, OdOk o) (j : Nat) : (runShp Shp.new (os.take j)).1.Ok :=
  (runShp_ok (s := Shp.new) (os := os.take j) Shp.new_ok ⟨by simp [Shp.new], by simp [Shp.new]⟩ (fun o ho => (h o (List.mem_of_mem_take ho)).get)).1
theorem marksIn_le (l : List Int) : marksIn l ≤ l.length := List.length_filter_le _ _
theorem run_le {os : List Od} (h : ∀ o ∈ os, OdOk o) : (runShp Shp.new os).2 ≤ os.length :=
  (runShp_ok (s := Shp.new) (os := os) Shp.new_ok ⟨by simp [Shp.new], by simp [Shp.new]⟩ (fun o ho => (h o ho).get)).2.2

theorem toldOf_64 {f : List Int → Nat} (hf : ∀ l, f l ≤ l.length) {os : List Od} (h : ∀ o ∈ os, OdOk o) (n : Nat) : ∀ x ∈ toldOf f os n, In64 x := by
  intro x hx
  unfold toldOf at hx
  obtain ⟨j, _, rfl⟩ := List.mem_map.1 hx
  have h1 := hf (stk os (j + 1))
  have h2 := stk_le h (j + 1)
  constructor <;> omega

theorem depthsOf_few {os : List Od} : (depthsOf os).length ≤ 300 := by
  unfold depthsOf
  split
  · next h => rw [toldOf_len]; exact Nat.le_trans (run_le h.2) h.1
  · simp
theorem depthsOf_64 {os : List Od} : ∀ x ∈ depthsOf os, In64 x := by
  unfold depthsOf
  split
  · next h => exact toldOf_64 (fun l => Nat.le_refl _) h.2 _
  · intro x hx; simp at hx
theorem marksOf_few {os : List Od} : (marksOf os).length ≤ 300 := by
  unfold marksOf
  split
  · next h => rw [toldOf_len]; exact Nat.le_trans (run_le h.2) h.1
  · simp
theorem marksOf_64 {os : List Od} : ∀ x ∈ marksOf os, In64 x := by
  unfold marksOf
  split
  · next h => exact toldOf_64 marksIn_le h.2 _
  · intro x hx; simp at hx

end Go.Proofs.Ytochdhibmmohfac

namespace Go.Proofs.Ytochdhibmmohfac
open Go.RowKit
set_option linter.unusedVariables false

/-- the greatest of numbers, 0 without any -/
def maxL (L : List Int) : Int := L.foldl max 0
theorem maxL_snoc (L : List Int) (x : Int) : maxL (L ++ [x]) = max (maxL L) x := by simp [maxL]
theorem maxL_take {L : List Int} {k : Nat} {x : Int} (h : L[k]? = some x) : maxL (L.take (k + 1)) = if maxL (L.take k) < x then x else maxL (L.take k) := by
  rw [List.take_add_one, h]
  have := maxL_snoc (L.take k) x
  simp only [Option.toList_some]
  rw [this]
  split <;> omega
theorem maxL_64 {L : List Int} (h : ∀ x ∈ L, In64 x) : In64 (maxL L) := by
  unfold maxL
  have : ∀ (L : List Int) (z : Int), In64 z → (∀ x ∈ L, In64 x) → In64 (L.foldl max z) := by
    intro L
    induction L with
    | nil => intro z hz _; exact hz
    | cons y L ih =>
      intro z hz hL
      refine ih _ ?_ (fun x hx => hL x (List.mem_cons_of_mem _ hx))
      have hy := hL y (by simp)
      obtain ⟨z1, z2⟩ := hz
      obtain ⟨y1, y2⟩ := hy
      constructor <;> omega
  exact this L 0 (by constructor <;> omega) h

/-- the program is valid, and all of it is possible -/
def LrOk (os : List Od) : Prop := OpsOk os ∧ (runShp Shp.new os).2 = os.length
noncomputable def leastRu (os : List Od) : Ru := ⟨os.length, (runShp Shp.new os).1.kinds.length, maxL (depthsOf os), classesIn os⟩
open Classical in
noncomputable def lrOf (os : List Od) : Ru := if LrOk os then leastRu os else ⟨0, 0, 0, []⟩
theorem lr_yes {os : List Od} (h : LrOk os) : lrOf os = leastRu os := by unfold lrOf; rw [if_pos h]
theorem lr_no {os : List Od} (h : ¬ LrOk os) : lrOf os = ⟨0, 0, 0, []⟩ := by unfold lrOf; rw [if_neg h]

/-- the least rules come back, their classes in memory of the call's own -/
def GivesLr (w : World) (os : List Od) (e : Ending) (w' : World) : Prop :=
  ∃ A c, e = .returned (.tuple #[ruVal (lrOf os) A c, .bool (tf (LrOk os))]) ∧ OwnI w' w.heap.size A c (lrOf os).cls ∧ Below w.heap.size w w'

theorem run_kinds_few {os : List Od} (h : OpsOk os) : (runShp Shp.new os).1.kinds.length ≤ 1000000 := by
  have := (runShp_ok (s := Shp.new) (os := os) Shp.new_ok ⟨by simp [Shp.new], by simp [Shp.new]⟩ (fun o ho => (h.2 o ho).get)).2.1.1
  omega

def zero4 : Array Value := #[.int .i64 0, .int .i64 0, .int .i64 0, .slice none 0 0]

/-- the world behind a store of four cells -/
def set4 (w : World) (q : Nat) (v0 v1 v2 v3 : Value) : World := (((w.setCell ⟨q, 0, none⟩ v0).setCell ⟨q, 1, none⟩ v1).setCell ⟨q, 2, none⟩ v2).setCell ⟨q, 3, none⟩ v3

/-- all that a store of four cells wants and gives -/
structure Put4 (w : World) (q : Nat) (u0 u1 u2 u3 v0 v1 v2 v3 : Value) : Prop where
  r0 : w.cell? ⟨q, 0, none⟩ = some u0
  r1 : w.cell? ⟨q, 1, none⟩ = some u1
  r2 : w.cell? ⟨q, 2, none⟩ = some u2
  r3 : w.cell? ⟨q, 3, none⟩ = some u3
  f0 : w.frozen? ⟨q, 0, none⟩ = false
  f1 : w.frozen? ⟨q, 1, none⟩ = false
  f2 : w.frozen? ⟨q, 2, none⟩ = false
  f3 : w.frozen? ⟨q, 3, none⟩ = false
  s0 : ((((w.setCell ⟨q, 0, none⟩ v0).setCell ⟨q, 1, none⟩ v1).setCell ⟨q, 2, none⟩ v2).setCell ⟨q, 3, none⟩ v3).cell? ⟨q, 0, none⟩ = some v0
  s1 : ((((w.setCell ⟨q, 0, none⟩ v0).setCell ⟨q, 1, none⟩ v1).setCell ⟨q, 2, none⟩ v2).setCell ⟨q, 3, none⟩ v3).cell? ⟨q, 1, none⟩ = some v1
  s2 : ((((w.setCell ⟨q, 0, none⟩ v0).setCell ⟨q, 1, none⟩ v1).setCell ⟨q, 2, none⟩ v2).setCell ⟨q, 3, none⟩ v3).cell? ⟨q, 2, none⟩ = some v2
  s3 : ((((w.setCell ⟨q, 0, none⟩ v0).setCell ⟨q, 1, none⟩ v1).setCell ⟨q, 2, none⟩ v2).setCell ⟨q, 3, none⟩ v3).cell? ⟨q, 3, none⟩ = some v3

theorem Lies.put4 {w : World} {q : Nat} {u0 u1 u2 u3 : Value} {t : TypeId} (h : Lies w q #[u0, u1, u2, u3] t) (v0 v1 v2 v3 : Value) : Put4 w q u0 u1 u2 u3 v0 v1 v2 v3 ∧ Lies ((((w.setCell ⟨q, 0, none⟩ v0).setCell ⟨q, 1, none⟩ v1).setCell ⟨q, 2, none⟩ v2).setCell ⟨q, 3, none⟩ v3) q #[v0, v1, v2, v3] t := by
  have l := (((h.set 0 v0).set 1 v1).set 2 v2).set 3 v3
  simp only [List.setIfInBounds_toArray, List.set_cons_succ, List.set_cons_zero] at l
  have r0 := h.cell 0
  have r1 := h.cell 1
  have r2 := h.cell 2
  have r3 := h.cell 3
  have s0 := l.cell 0
  have s1 := l.cell 1
  have s2 := l.cell 2
  have s3 := l.cell 3
  simp only [List.getElem?_toArray, List.getElem?_cons_zero, List.getElem?_cons_succ] at r0 r1 r2 r3 s0 s1 s2 s3
  exact ⟨⟨r0, r1, r2, r3, h.frozen 0, h.frozen 1, h.frozen 2, h.frozen 3, s0, s1, s2, s3⟩, l⟩

theorem put4_block {w : World} {q k : Nat} {v0 v1 v2 v3 : Value} (hk : k ≠ q) : ((((w.setCell ⟨q, 0, none⟩ v0).setCell ⟨q, 1, none⟩ v1).setCell ⟨q, 2, none⟩ v2).setCell ⟨q, 3, none⟩ v3).heap[k]? = w.heap[k]? := by
  rw [Below.heap_setCell _ _ _ _ (by show k ≠ q; exact hk), Below.heap_setCell _ _ _ _ (by show k ≠ q; exact hk), Below.heap_setCell _ _ _ _ (by show k ≠ q; exact hk), Below.heap_setCell _ _ _ _ (by show k ≠ q; exact hk)]
theorem put4_below {w w' : World} {B q : Nat} {v0 v1 v2 v3 : Value} (h : Below B w w') (hq : B ≤ q) : Below B w ((((w'.setCell ⟨q, 0, none⟩ v0).setCell ⟨q, 1, none⟩ v1).setCell ⟨q, 2, none⟩ v2).setCell ⟨q, 3, none⟩ v3) :=
  (((h.setCell (p := ⟨q, 0, none⟩) hq v0).setCell (p := ⟨q, 1, none⟩) hq v1).setCell (p := ⟨q, 2, none⟩) hq v2).setCell (p := ⟨q, 3, none⟩) hq v3

/-- old cells for others -/
theorem OwnI.put4 {w : World} {base q A c} {xs : List Int} (h : OwnI w base A c xs) (hq : q < base) (v0 v1 v2 v3 : Value) : OwnI ((((w.setCell ⟨q, 0, none⟩ v0).setCell ⟨q, 1, none⟩ v1).setCell ⟨q, 2, none⟩ v2).setCell ⟨q, 3, none⟩ v3) base A c xs := by
  refine ⟨h.own.1, ?_⟩
  have hb := h.blocks
  rcases h.own.2 with h2 | ⟨g, cap, cur, hv, hg, hh, r⟩
  · exact .inl h2
  · exact .inr ⟨g, cap, cur, hv, hg, (put4_block (by omega)).trans hh, r⟩

end Go.Proofs.Ytochdhibmmohfac

namespace Go.Proofs.Ytochdhibmmohfac
open Go.RowKit
set_option linter.unusedVariables false
set_option linter.unusedSimpArgs false
set_option maxRecDepth 100000 in
set_option maxHeartbeats 4000000 in
theorem stepShapes_done (p : ShPtr) (s : Shp) (cd ar : Int) (hd : s.done = true) (base : Nat) (w : World) (h : ShOwn w base p s) (hbase : base ≤ w.heap.size) (hs : s.Small) :
    Calls Try.prog 19 #[shVal p s, .agg #[.int .i64 cd, .int .i64 ar]] w (TriesSh w p base (stepShp s ⟨cd, ar⟩)) := by
  obtain ⟨K, c1, F, c2, S, c3, M, c4⟩ := p
  have hS := ShSt.enter3 h hbase (.cells #[.int .i64 cd, .int .i64 ar] 49)
  have lo : Lies (((w.alloc (.cells (shCells ⟨K, c1, F, c2, S, c3, M, c4⟩ s) 46)).alloc (.cells #[.int .i64 cd, .int .i64 ar] 49)).alloc (.cells zero5 46)) (w.heap.size + 1) #[.int .i64 cd, .int .i64 ar] 49 := by
    have := (Lies.new (w.alloc (.cells (shCells ⟨K, c1, F, c2, S, c3, M, c4⟩ s) 46)) #[.int .i64 cd, .int .i64 ar] 49).alloc (.cells zero5 46)
    simpa using this
  have hst := hs.t
  have hkl := hs.k
  have Hs := hide hs
  have Hd := hide hd
  have hoffo := h.off (q := w.heap.size + 1) (.inr (by omega))
  clear h hs hd
  unfold shVal
  unfold shCells zero5 at *
  dsimp only at hS lo ⊢
  go_enter Try.func19, Try.ntmps19
  go_upto_region 1 with fail
  generalize ((w.alloc (.cells #[.slice K s.kinds.length c1, .slice F s.full.length c2, .slice S s.stack.length c3, .slice M s.memo.length c4, .bool s.done] 46)).alloc (.cells #[.int .i64 cd, .int .i64 ar] 49)).alloc (.cells #[.slice none 0 0, .slice none 0 0, .slice none 0 0, .slice none 0 0, .bool false] 46) = W at hS lo ⊢
  obtain ⟨e0, e1, e2, e3, e4⟩ := hS.bx.cells
  dsimp only at e0 e1 e2 e3 e4
  have d0 := lo.cell 0
  have d1 := lo.cell 1
  simp only [List.getElem?_toArray, List.getElem?_cons_zero, List.getElem?_cons_succ] at d0 d1
  have hd := Hd.out
  rw [hd] at e4
  have HN := hide (show stepShp s ⟨cd, ar⟩ = none from stepShp_none (by unfold stepFree; rw [if_pos hd]))
  obtain ⟨_, hs5, _, hbel, hfr⟩ := hS.ret
  obtain ⟨r0, r1, r2, r3, r4, f0, f1, f2, f3, f4, s0, s1, s2, s3, s4⟩ := hs5
  have HR := hide (And.intro hbel hfr)
  clear hbel hfr hS d0 d1 lo
  dsimp only at r0 r1 r2 r3 r4 s0 s1 s2 s3 s4
  rw [hd] at s0 s1 s2 s3 s4 HR
  go_wp2
  refine bodyPost_ret (v := .tuple #[shVal ⟨K, c1, F, c2, S, c3, M, c4⟩ s, .bool false]) (by simp [shVal, shCells, hd, results, Try.results19, go_sem, s0, s1, s2, s3, s4]) rfl ?_
  exact ⟨_, _, _, rfl, HR.out.1, HR.out.2, fun t ht => by (rw [HN.out] at ht; cases ht), fun _ => rfl⟩
end Go.Proofs.Ytochdhibmmohfac
