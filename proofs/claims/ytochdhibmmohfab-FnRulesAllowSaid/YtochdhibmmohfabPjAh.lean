/-
  Lemmas, several texts in one: DpM, ShpUa, VOp.
-/
import Derived.Test.YtochdhibmmohfabPjAg
import Derived.Test.YtochdhibmmohfabPjAc
import Derived.Test.YtochdhibmmohfabShpT
import Derived.Test.YtochdhibmmohfabPjAe
import Derived.Test.YtochdhibmmohfabShpN
import Derived.Test.YtochdhibmmohfabPjAd
import Derived.Deep.QuietTactic
import Derived.Deep.RegionLaw
import Derived.Deep.RegionHeld
import Derived.Deep.Cut
import Derived.BigQuiet
namespace Go.Proofs.Ytochdhibmmohfab
set_option linter.unusedVariables false

/-- how many marks a stack has -/
def marksIn (l : List Int) : Nat := (l.filter fun x => decide (x < 0)).length

/-- what is told of the stack after each of the first n orders -/
noncomputable def toldOf (f : List Int → Nat) (os : List Od) (n : Nat) : List Int := (List.range n).map fun j => ((f (stk os (j + 1)) : Nat) : Int)

theorem toldOf_len (f : List Int → Nat) (os : List Od) (n : Nat) : (toldOf f os n).length = n := by simp [toldOf]
theorem toldOf_succ (f : List Int → Nat) (os : List Od) (n : Nat) : toldOf f os (n + 1) = toldOf f os n ++ [((f (stk os (n + 1)) : Nat) : Int)] := by
  unfold toldOf
  rw [List.range_succ, List.map_append]
  rfl

open Classical in
/-- how many things are on the stack after each order -/
noncomputable def depthsOf (os : List Od) : List Int := if OpsOk os then toldOf List.length os (runShp Shp.new os).2 else []
open Classical in
/-- how many marks are on the stack after each order -/
noncomputable def marksOf (os : List Od) : List Int := if OpsOk os then toldOf marksIn os (runShp Shp.new os).2 else []

theorem stk_le {os : List Od} (h : ∀ o ∈ os, OdOk o) (j : Nat) : (stk os j).length ≤ 300 :=
  (runShp_ok (s := Shp.new) (os := os.take j) Shp.new_ok ⟨by simp [Shp.new], by simp [Shp.new]⟩ (fun o ho => (h o (List.mem_of_mem_take ho)).get)).2.1.2
theorem stk_ok {os : List Od} (h : ∀ o ∈ os, OdOk o) (j : Nat) : (runShp Shp.new (os.take j)).1.Ok :=
  (runShp_ok (s := Shp.new) (os := os.take j) Shp.new_ok ⟨by simp [Shp.new], by simp [Shp.new]⟩ (fun o ho => (h o (List.mem_of_mem_take ho)).get)).1
theorem marksIn_le (l : List Int) : marksIn l ≤ l.length := List.length_filter_le _ _
theorem run_le {os : List Od} (h : ∀ o ∈ os, OdOk o) : (runShp Shp.new os).2 ≤ os.length :=
  (runShp_ok (s := Shp.new) (os := os) Shp.new_ok ⟨by simp [Shp.new], by simp [Shp.new]⟩ (fun o ho => (h o ho).get)).2.2

theorem toldOf_64 {f : List Int → Nat} (hf : ∀ l, f l ≤ l.length) {os : List Od} (h : ∀ o ∈ os, OdOk o) (n : Nat) : ∀ x ∈ toldOf f os n, In64 x := by
  intro x hx
  unfold toldOf at hx
  obtain ⟨j, _, rfl⟩ := List.mem_map.1 hx
  have h1 := hf (stk os (j + 1))
  have h2 := stk_le h (j + 1)
  constructor <;> omega

theorem depthsOf_few {os : List Od} : (depthsOf os).length ≤ 300 := by
  unfold depthsOf
  split
  · next h => rw [toldOf_len]; exact Nat.le_trans (run_le h.2) h.1
  · simp
theorem depthsOf_64 {os : List Od} : ∀ x ∈ depthsOf os, In64 x := by
  unfold depthsOf
  split
  · next h => exact toldOf_64 (fun l => Nat.le_refl _) h.2 _
  · intro x hx; simp at hx
theorem marksOf_few {os : List Od} : (marksOf os).length ≤ 300 := by
  unfold marksOf
  split
  · next h => rw [toldOf_len]; exact Nat.le_trans (run_le h.2) h.1
  · simp
theorem marksOf_64 {os : List Od} : ∀ x ∈ marksOf os, In64 x := by
  unfold marksOf
  split
  · next h => exact toldOf_64 marksIn_le h.2 _
  · intro x hx; simp at hx

end Go.Proofs.Ytochdhibmmohfab

namespace Go.Proofs.Ytochdhibmmohfab
open Go.RowKit
set_option linter.unusedVariables false
set_option linter.unusedSimpArgs false
set_option maxRecDepth 100000 in
set_option maxHeartbeats 4000000 in
theorem stepShapes_done (p : ShPtr) (s : Shp) (cd ar : Int) (hd : s.done = true) (base : Nat) (w : World) (h : ShOwn w base p s) (hbase : base ≤ w.heap.size) (hs : s.Small) :
    Calls Try.prog 20 #[shVal p s, .agg #[.int .i64 cd, .int .i64 ar]] w (TriesSh w p base (stepShp s ⟨cd, ar⟩)) := by
  obtain ⟨K, c1, F, c2, S, c3, M, c4⟩ := p
  have hS := ShSt.enter3 h hbase (.cells #[.int .i64 cd, .int .i64 ar] 48)
  have lo : Lies (((w.alloc (.cells (shCells ⟨K, c1, F, c2, S, c3, M, c4⟩ s) 44)).alloc (.cells #[.int .i64 cd, .int .i64 ar] 48)).alloc (.cells zero5 44)) (w.heap.size + 1) #[.int .i64 cd, .int .i64 ar] 48 := by
    have := (Lies.new (w.alloc (.cells (shCells ⟨K, c1, F, c2, S, c3, M, c4⟩ s) 44)) #[.int .i64 cd, .int .i64 ar] 48).alloc (.cells zero5 44)
    simpa using this
  have hst := hs.t
  have hkl := hs.k
  have Hs := hide hs
  have Hd := hide hd
  have hoffo := h.off (q := w.heap.size + 1) (.inr (by omega))
  clear h hs hd
  unfold shVal
  unfold shCells zero5 at *
  dsimp only at hS lo ⊢
  go_enter Try.func20, Try.ntmps20
  go_upto_region 1 with fail
  generalize ((w.alloc (.cells #[.slice K s.kinds.length c1, .slice F s.full.length c2, .slice S s.stack.length c3, .slice M s.memo.length c4, .bool s.done] 44)).alloc (.cells #[.int .i64 cd, .int .i64 ar] 48)).alloc (.cells #[.slice none 0 0, .slice none 0 0, .slice none 0 0, .slice none 0 0, .bool false] 44) = W at hS lo ⊢
  obtain ⟨e0, e1, e2, e3, e4⟩ := hS.bx.cells
  dsimp only at e0 e1 e2 e3 e4
  have d0 := lo.cell 0
  have d1 := lo.cell 1
  simp only [List.getElem?_toArray, List.getElem?_cons_zero, List.getElem?_cons_succ] at d0 d1
  have hd := Hd.out
  rw [hd] at e4
  have HN := hide (show stepShp s ⟨cd, ar⟩ = none from stepShp_none (by unfold stepFree; rw [if_pos hd]))
  obtain ⟨_, hs5, _, hbel, hfr⟩ := hS.ret
  obtain ⟨r0, r1, r2, r3, r4, f0, f1, f2, f3, f4, s0, s1, s2, s3, s4⟩ := hs5
  have HR := hide (And.intro hbel hfr)
  clear hbel hfr hS d0 d1 lo
  dsimp only at r0 r1 r2 r3 r4 s0 s1 s2 s3 s4
  rw [hd] at s0 s1 s2 s3 s4 HR
  go_wp2
  refine bodyPost_ret (v := .tuple #[shVal ⟨K, c1, F, c2, S, c3, M, c4⟩ s, .bool false]) (by simp [shVal, shCells, hd, results, Try.results20, go_sem, s0, s1, s2, s3, s4]) rfl ?_
  exact ⟨_, _, _, rfl, HR.out.1, HR.out.2, fun t ht => by (rw [HN.out] at ht; cases ht), fun _ => rfl⟩
end Go.Proofs.Ytochdhibmmohfab

namespace Go.Proofs.Ytochdhibmmohfab
open Go.RowKit
set_option linter.unusedVariables false

set_option maxHeartbeats 1000000 in
theorem argOf_any (c : Int) (w : World) :
    Calls Try.prog 46 #[.int .i64 c] w fun e w' => e = .returned (.int .i64 (argMost c)) ∧ w = w' := by
  by_cases h0 : c = 0
  · subst h0
    go_enter Try.func46, Try.ntmps46
    go_wp2
    go_ret
    exact ⟨rfl, rfl⟩
  · by_cases h1 : c = 1
    · subst h1
      go_enter Try.func46, Try.ntmps46
      go_wp2
      go_ret
      exact ⟨rfl, rfl⟩
    · by_cases h13 : c = 13
      · subst h13
        go_enter Try.func46, Try.ntmps46
        go_wp2
        go_ret
        exact ⟨rfl, rfl⟩
      · by_cases h15 : c = 15
        · subst h15
          go_enter Try.func46, Try.ntmps46
          go_wp2
          go_ret
          exact ⟨rfl, rfl⟩
        · by_cases h16 : c = 16
          · subst h16
            go_enter Try.func46, Try.ntmps46
            go_wp2
            go_ret
            exact ⟨rfl, rfl⟩
          · have HF := hide (show argMost c = -1 by unfold argMost; simp [h0, h1, h13, h15, h16])
            have t0 : (c == 0) = false := by simpa using h0
            have t1 : (c == 1) = false := by simpa using h1
            have t2 : (c == 13) = false := by simpa using h13
            have t3 : (c == 15) = false := by simpa using h15
            have t4 : (c == 16) = false := by simpa using h16
            clear h0 h1 h13 h15 h16
            go_enter Try.func46, Try.ntmps46
            go_wp2
            go_ret
            exact ⟨ret_int HF.out.symm, rfl⟩

set_option maxHeartbeats 1000000 in
theorem validOp_any (o : Od) (w : World) :
    Calls Try.prog 44 #[.agg #[.int .i64 o.code, .int .i64 o.arg]] w fun e w' => e = .returned (.bool (tf (OdOk o))) ∧ Below w.heap.size w w' := by
  have hB : Below w.heap.size w (w.alloc (.cells #[.int .i64 o.code, .int .i64 o.arg] 48)) := (Below.refl _ _).alloc (Nat.le_refl _) _
  have l1 := Lies.new w #[.int .i64 o.code, .int .i64 o.arg] 48
  have hm := argMost_range o.code
  by_cases hc : 0 ≤ o.code ∧ o.code ≤ 19
  · by_cases hneg : argMost o.code < 0
    · by_cases ha : o.arg = 0
      · have HF := hide (show tf (OdOk o) = true from tf_true ⟨hc, .inl ⟨hneg, ha⟩⟩)
        have t : (o.arg == 0) = true := by simpa using ha
        obtain ⟨hc1, hc2⟩ := hc
        clear ha
        go_enter Try.func44, Try.ntmps44
        go_wp2_with fail
        refine (argOf_any o.code _).mono ?_
        rintro e w' ⟨rfl, rfl⟩
        generalize argMost o.code = M at hneg hm ⊢
        have d : decide (M < 0) = true := by simpa using hneg
        go_wp2_with fail
        refine (inRange_yes o.code 0 19 _ hc1 hc2).mono ?_
        rintro e w' ⟨rfl, rfl⟩
        go_wp2
        go_ret
        exact ⟨ret_bool HF.out.symm, hB⟩
      · have HF := hide (show tf (OdOk o) = false from tf_false fun h => by rcases h.2 with h | h; exact ha h.2; omega)
        have t : (o.arg == 0) = false := by simpa using ha
        obtain ⟨hc1, hc2⟩ := hc
        clear ha
        go_enter Try.func44, Try.ntmps44
        go_wp2_with fail
        refine (argOf_any o.code _).mono ?_
        rintro e w' ⟨rfl, rfl⟩
        generalize argMost o.code = M at hneg hm ⊢
        have d : decide (M < 0) = true := by simpa using hneg
        have d2 : decide (0 ≤ M) = false := by simpa using hneg
        go_wp2_with fail
        refine (inRange_yes o.code 0 19 _ hc1 hc2).mono ?_
        rintro e w' ⟨rfl, rfl⟩
        go_wp2
        go_ret
        exact ⟨ret_bool HF.out.symm, hB⟩
    · by_cases ha : 0 ≤ o.arg ∧ o.arg ≤ argMost o.code
      · have HF := hide (show tf (OdOk o) = true from tf_true ⟨hc, .inr ⟨by omega, ha⟩⟩)
        obtain ⟨hc1, hc2⟩ := hc
        obtain ⟨ha1, ha2⟩ := ha
        go_enter Try.func44, Try.ntmps44
        go_wp2_with fail
        refine (argOf_any o.code _).mono ?_
        rintro e w' ⟨rfl, rfl⟩
        generalize argMost o.code = M at hneg hm ha2 ⊢
        have d : decide (M < 0) = false := by simpa using hneg
        have d2 : decide (0 ≤ M) = true := by simpa using hneg
        go_wp2_with fail
        refine (inRange_yes o.code 0 19 _ hc1 hc2).mono ?_
        rintro e w' ⟨rfl, rfl⟩
        go_wp2_with fail
        refine (inRange_yes o.arg 0 M _ ha1 ha2).mono ?_
        rintro e w' ⟨rfl, rfl⟩
        go_wp2
        go_ret
        exact ⟨ret_bool HF.out.symm, hB⟩
      · have HF := hide (show tf (OdOk o) = false from tf_false fun h => by rcases h.2 with h | h; omega; exact ha h.2)
        obtain ⟨hc1, hc2⟩ := hc
        have ha' : o.arg < 0 ∨ argMost o.code < o.arg := by omega
        clear ha
        go_enter Try.func44, Try.ntmps44
        go_wp2_with fail
        refine (argOf_any o.code _).mono ?_
        rintro e w' ⟨rfl, rfl⟩
        generalize argMost o.code = M at hneg hm ha' ⊢
        have d : decide (M < 0) = false := by simpa using hneg
        have d2 : decide (0 ≤ M) = true := by simpa using hneg
        go_wp2_with fail
        refine (inRange_yes o.code 0 19 _ hc1 hc2).mono ?_
        rintro e w' ⟨rfl, rfl⟩
        go_wp2_with fail
        refine (inRange_no o.arg 0 M _ ha').mono ?_
        rintro e w' ⟨rfl, rfl⟩
        clear ha'
        go_wp2
        go_ret
        exact ⟨ret_bool HF.out.symm, hB⟩
  · have HF := hide (show tf (OdOk o) = false from tf_false fun h => hc h.1)
    have hc' : o.code < 0 ∨ 19 < o.code := by omega
    clear hc
    go_enter Try.func44, Try.ntmps44
    go_wp2_with fail
    refine (argOf_any o.code _).mono ?_
    rintro e w' ⟨rfl, rfl⟩
    generalize argMost o.code = M at hm ⊢
    go_wp2_with fail
    refine (inRange_no o.code 0 19 _ hc').mono ?_
    rintro e w' ⟨rfl, rfl⟩
    clear hc'
    go_wp2
    go_ret
    exact ⟨ret_bool HF.out.symm, hB⟩

end Go.Proofs.Ytochdhibmmohfab
