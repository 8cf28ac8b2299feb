/-
  Lemmas, several texts in one: TabL, Rep, UpTo, SzO, MarkI.
-/
import Derived.Test.YtochdhibmmohfaaDoorPjAc
import Derived.Test.YtochdhibmmohfaaDoorPjAf
import Derived.Test.YtochdhibmmohfaaDoorPjAe
import Derived.Laws.CopyOwn
import Derived.Laws.OwnMore
import Derived.Deep.RegionLaw
import Derived.Deep.LoopGhost
import Derived.Deep.Cut
import Derived.Test.YtochdhibmmohfaaDoorPjAa
namespace Go.Proofs.YtochdhibmmohfaaDoor
open Go.ChangeShapes Go.WideShapes Go.ChangeAt Go.WideElems Go.RowKit
set_option linter.unusedVariables false

theorem tables_of_laid {W : World} (h : laidMetH Tryd.prog [("loop.example/graphcode/impl.forms", Rows.laid_loop_example_graphcode_impl_forms), ("loop.example/graphcode/impl.needs", Rows.laid_loop_example_graphcode_impl_needs)] W) : FormsAt W W.heap.size ∧ NeedsAt W W.heap.size := by
  rw [MakeChecks.laidMetH_plain _ _ _ (by kernel_rfl)] at h
  obtain ⟨ps, ⟨g0, t0, cs0, f0, p0, q0, hg0, ht0, hv0, hd0, ⟨g1, t1, cs1, f1, p1, q1, hg1, ht1, hv1, hd1, _⟩, _⟩, _⟩ := h
  obtain rfl := Option.some.inj (gForms.symm.trans hg0)
  obtain rfl := Option.some.inj (tForms.symm.trans ht0)
  obtain rfl := Option.some.inj (gNeeds.symm.trans hg1)
  obtain rfl := Option.some.inj (tNeeds.symm.trans ht1)
  exact ⟨forms_of_var hv0 (formCells hd0 formsD_laid), needs_of_var hv1 (needCells hd1 needsD_laid)⟩

end Go.Proofs.YtochdhibmmohfaaDoor

namespace Go.Proofs.YtochdhibmmohfaaDoor
open Go.RowKit
set_option linter.unusedVariables false

set_option maxRecDepth 100000 in
set_option maxHeartbeats 1000000 in
theorem mul64_one (w : World) : Calls Tryd.prog 57 #[.int .u64 1, .int .u64 20] w fun e w' => e = .returned (.tuple #[.int .u64 0, .int .u64 20]) ∧ w = w' := by
  go_enter Tryd.func57, Tryd.ntmps57
  go_wp2
  go_ret2
  exact ⟨rfl, rfl⟩

set_option maxRecDepth 100000 in
set_option maxHeartbeats 1000000 in
theorem mul_one' (w : World) : Calls Tryd.prog 51 #[.int .u64 1, .int .u64 20] w fun e w' => e = .returned (.tuple #[.int .u64 0, .int .u64 20]) ∧ w = w' := by
  go_enter Tryd.func51, Tryd.ntmps51
  go_wp2_with (go_at_call 57; refine (mul64_one _).mono ?_; rintro e w' ⟨rfl, rfl⟩)
  go_ret2
  exact ⟨rfl, rfl⟩

/-- k numbers x, and zeros behind them -/
def rowL (x : Int) (k : Nat) : List Value := List.replicate k (.int .i64 x) ++ List.replicate (20 - k) (.int .i64 0)
theorem rowL_len (x : Int) {k : Nat} (h : k ≤ 20) : (rowL x k).length = 20 := by unfold rowL; simp; omega
theorem rowL_splice (x : Int) {k m : Nat} (h : k + m ≤ 20) : splice (rowL x k) k (List.replicate m (.int .i64 x)) = rowL x (k + m) := by
  unfold splice rowL
  rw [List.take_left' (by simp), List.length_replicate, List.drop_append, List.drop_eq_nil_of_le (by simp), List.nil_append, List.length_replicate, List.drop_replicate, ← List.append_assoc, List.replicate_append_replicate]
  congr 2
  omega
theorem rowL_at (x : Int) {k j : Nat} (h : j < k) : (rowL x k)[j]? = some (.int .i64 x) := by
  unfold rowL
  rw [List.getElem?_append_left (by simpa using h), List.getElem?_replicate, if_pos h]

theorem made20 (x : Int) : madeCells (Value.int .i64 0).cells (20 * 1) = (rowL x 0).toArray := by
  apply Array.ext'
  rw [show (Value.int .i64 0).cells = #[.int .i64 0] from rfl, toList_madeCells_one]
  rfl

theorem LieL.cell {w : World} {g : Nat} {L : List Value} {t : TypeId} (h : w.heap[g]? = some (.cells L.toArray t (0, 0))) {j : Nat} {v : Value} (hj : L[j]? = some v) : w.cell? ⟨g, j, none⟩ = some v := by
  have := Lies.cell h j
  rw [this]
  simpa using hj

theorem rowL_src {w : World} {g k m : Nat} {x : Int} {t : TypeId} (h : w.heap[g]? = some (.cells (rowL x k).toArray t (0, 0))) (hm : m ≤ k) : ∀ j v, (List.replicate m (Value.int .i64 x))[j]? = some v → w.drew.cell? ((⟨g, 0, none⟩ : Addr).add j) = some v := by
  intro j v hv
  rw [List.getElem?_replicate] at hv
  split at hv
  · next hj =>
    have hadd : (⟨g, 0, none⟩ : Addr).add j = ⟨g, j, none⟩ := by
      unfold Addr.add
      split
      · rename_i h0; subst h0; rfl
      · simp
    rw [hadd]
    rw [← hv]
    exact LieL.cell (w := w) h (rowL_at x (by omega))
  · cases hv

set_option maxRecDepth 100000 in
set_option maxHeartbeats 1000000 in
theorem repeat_20 (b : Nat) (x : Int) (c : Nat) (w : World) (hb : b < w.heap.size) (hx : w.cell? ⟨b, 0, none⟩ = some (.int .i64 x)) (hx64 : In64 x) :
    Calls Tryd.prog 47 #[.slice (some ⟨b, 0, none⟩) 1 c, .int .i64 20] w (GivesInts w (List.replicate 20 x)) := by
  obtain ⟨R, hR⟩ : ∃ R, R = List.replicate 20 x := ⟨_, rfl⟩
  rw [← hR]
  have HR := hide hR
  clear hR
  have hmk : ∀ w' : World, (Instr.makeSlice 24 (.int .i64 20) (.int .i64 20)).run Tryd.prog w' = .ok (.slice (some ⟨w'.heap.size, 0, none⟩) 20 20) (w'.alloc (.cells (rowL x 0).toArray 3)) := fun w' =>
    (run_make_rows 24 3 (.int .i64 0) 1 8 Tryd.underlying24 infoI .i64 .i64 20 (by omega) (by omega) w').trans (by rw [made20 x])
  go_enter Tryd.func47, Tryd.ntmps47
  go_upto_region 7 with (go_at_call 51; refine (mul_one' _).mono ?_; rintro e w' ⟨rfl, rfl⟩)
  have hlie : (w.alloc (.cells (rowL x 0).toArray 3)).heap[w.heap.size]? = some (.cells (rowL x 0).toArray 3 (0, 0)) := heap_alloc_new w _
  have hB0 := (Below.refl w.heap.size w).alloc (Nat.le_refl _) (.cells (rowL x 0).toArray 3)
  have hx2 := (hB0.cell (p := ⟨b, 0, none⟩) hb).trans hx
  have HL0 := hide hlie
  have HB0 := hide hB0
  clear hlie hB0 hmk
  generalize w.alloc (.cells (rowL x 0).toArray 3) = W at HL0 HB0 hx2 ⊢
  generalize hG : w.heap.size = g at HL0 ⊢
  have HG := hide hG
  clear hG hx
  have hc1 : ∀ j v, [Value.int .i64 x][j]? = some v → W.cell? ((⟨b, 0, none⟩ : Addr).add j) = some v := by
    intro j v hv
    match j, hv with
    | 0, hv =>
      simp at hv
      subst hv
      exact hx2
  have hc2 : 0 + [Value.int .i64 x].length ≤ (rowL x 0).length := by rw [rowL_len x (by omega)]; simp
  have hc3 : ∀ v ∈ [Value.int .i64 x], v.oneCell' = true := by intro v hv; simp at hv; subst hv; rfl
  have HC1 := hide hc1
  have HC3 := hide hc3
  clear hc1 hc3
  go_upto_region 8 with (with_reducible refine wpList_copy_splice rfl (.tmp 31) (.tmp 32) 24 24 rfl 3 Tryd.underlying24 (by kernel_rfl) (some ⟨g, 0, none⟩) (some ⟨b, 0, none⟩) 20 20 1 c rfl rfl g 0 (rowL x 0) 3 HL0.out [.int .i64 x] rfl (fun _ => ⟨rfl, _, rfl, HC1.out⟩) hc2 HC3.out w.heap.size w HB0.out (by rw [HG.out]; exact Nat.le_refl _) ?_; intro w2 hL2 hB2)
  have HL2 := hide (show w2.heap[g]? = some (.cells (rowL x 1).toArray 3 (0, 0)) from by
    have h := hL2.out
    rw [show splice (rowL x 0) 0 [Value.int .i64 x] = rowL x (0 + 1) from rowL_splice x (k := 0) (m := 1) (by omega)] at h
    exact h)
  clear hL2 HL0 HB0 hc2 HC1 HC3 hx2
  have HB2 := hide hB2
  clear hB2
  go_wp2_with fail
  go_loopg [8] 19 (fun gk nv wr => ∃ k : Nat, 1 ≤ k ∧ k ≤ 20 ∧ gk = 20 - k ∧ nv = .int .i64 (k : Int) ∧ wr.heap[g]? = some (.cells (rowL x k).toArray 3 (0, 0)) ∧ Below w.heap.size w wr)
  case atStart => exact ⟨1, by omega, by omega, by omega, by go_num, HL2.out, HB2.out⟩
  case round =>
    clear HL2 HB2
    obtain ⟨k, hk1, hk2, rfl, rfl, hL, hB⟩ := hrel
    have HL := hide hL
    have HB := hide hB
    clear hL hB
    by_cases hlt : k < 20
    · have hlt2 : (k : Int) < 20 := by omega
      have hk0 : (0 : Int) ≤ (k : Int) := by omega
      have hle2 : (k : Int) ≤ 20 := by omega
      have hn20 : ¬ k = 20 := by omega
      have hn20' : ¬ 20 = k := by omega
      obtain ⟨d, hd⟩ : ∃ d, 20 - k = d := ⟨_, rfl⟩
      obtain ⟨m, hm⟩ : ∃ m, min k d = m := ⟨_, rfl⟩
      have Hm := hide hm
      have hm1 : 1 ≤ m := by omega
      have hm2 : m ≤ k := by omega
      have hm3 : m ≤ d := by omega
      clear hm
      have hkd1 : k + d ≤ 20 := by omega
      have hkd2 : 20 ≤ k + d := by omega
      have hwr : IntKind.i64.wrap ((k : Int) + (m : Int)) = (k : Int) + (m : Int) := by rw [IntKind.wrap_i64]; omega
      go_wp2_with fail
      go_region_law (first
        | (refine step_copy_splice (by rfl) (.tmp 41) (.tmp 44) 24 24 (by rfl) 3 Tryd.underlying24 (by kernel_rfl) (some ⟨g, k, none⟩) (some ⟨g, 0, none⟩) d d k 20 (by simp [Act.eval, Act.put]) (by simp [Act.eval, Act.put]) g k (rowL x k) 3 HL.out (List.replicate m (.int .i64 x)) (by rw [List.length_replicate]; exact Hm.out.symm) (fun _ => ⟨rfl, _, rfl, rowL_src HL.out hm2⟩) (by rw [rowL_len x (by omega)]; simp; omega) (by intro v hv; rw [List.eq_of_mem_replicate hv]; rfl) w.heap.size w HB.out.drew (by rw [HG.out]; exact Nat.le_refl _) ?_; intro w3 hL3 hB3))
      all_goals
        have HL3 := hide (show w3.heap[g]? = some (.cells (rowL x (k + m)).toArray 3 (0, 0)) from by
          have h := hL3.out
          rw [rowL_splice x (by omega)] at h
          exact h)
        have HB3 := hide hB3
        clear hL3 hB3 hd hwr
        go_wp2
        go_roundg (20 - (k + m))
        case measure => omega
        case rel => exact ⟨k + m, by omega, by omega, rfl, by go_num, HL3.out, HB3.out⟩
    · obtain rfl : k = 20 := by omega
      rw [show ((20 : Nat) : Int) = 20 from rfl]
      go_wp2
      go_ret
      rw [HR.out]
      exact ⟨some ⟨g, 0, none⟩, 20, rfl, ⟨⟨by simp, .inr ⟨g, 20, (rowL x 20).toArray, rfl, by rw [HG.out]; exact Nat.le_refl _, HL.out, by simp, by unfold maxLen; omega, by simp [rowL], by simp [rowL]⟩⟩⟩, HB.out⟩

end Go.Proofs.YtochdhibmmohfaaDoor

namespace Go.Proofs.YtochdhibmmohfaaDoor
open Go.RowKit

theorem isUpTo_yes (n hi : Int) (w : World) (h1 : 0 ≤ n) (h2 : n ≤ hi) :
    Calls Tryd.prog 43 #[.int .i64 n, .int .i64 hi] w fun e w' => e = .returned (.bool true) ∧ w = w' := by
  have d1 : decide (0 ≤ n) = true := by simpa using h1
  have d2 : decide (n ≤ hi) = true := by simpa using h2
  go_enter Tryd.func43, Tryd.ntmps43
  go_wp2
  go_ret
  exact ⟨rfl, rfl⟩

theorem isUpTo_no (n hi : Int) (w : World) (h : n < 0 ∨ hi < n) :
    Calls Tryd.prog 43 #[.int .i64 n, .int .i64 hi] w fun e w' => e = .returned (.bool false) ∧ w = w' := by
  by_cases h1 : 0 ≤ n
  · have h2 : ¬ n ≤ hi := by omega
    have d1 : decide (0 ≤ n) = true := by simpa using h1
    have d2 : decide (n ≤ hi) = false := by simpa using h2
    clear h
    go_enter Tryd.func43, Tryd.ntmps43
    go_wp2
    go_ret
    exact ⟨rfl, rfl⟩
  · have d1 : decide (0 ≤ n) = false := by simpa using h1
    clear h
    go_enter Tryd.func43, Tryd.ntmps43
    go_wp2
    go_ret
    exact ⟨rfl, rfl⟩

/-- whether a number is in 0..hi -/
def upB (n hi : Int) : Bool := decide (0 ≤ n ∧ n ≤ hi)
theorem upB_yes {n hi : Int} (h : 0 ≤ n ∧ n ≤ hi) : upB n hi = true := by unfold upB; simpa using h
theorem upB_no {n hi : Int} (h : ¬ (0 ≤ n ∧ n ≤ hi)) : upB n hi = false := by unfold upB; simpa using h

/-- the same for a region that only reads -/
theorem isUpTo_q (n hi : Int) (w : World) :
    Calls Tryd.prog 43 #[.int .i64 n, .int .i64 hi] w fun e w' => e = .returned (.bool (upB n hi)) ∧ w' = w := by
  by_cases h : 0 ≤ n ∧ n ≤ hi
  · rw [upB_yes h]
    exact (isUpTo_yes n hi w h.1 h.2).mono fun e w' ⟨a, b⟩ => ⟨a, b.symm⟩
  · rw [upB_no h]
    exact (isUpTo_no n hi w (by omega)).mono fun e w' ⟨a, b⟩ => ⟨a, b.symm⟩

end Go.Proofs.YtochdhibmmohfaaDoor

namespace Go.Proofs.YtochdhibmmohfaaDoor
open Go.RowKit

set_option maxHeartbeats 400000 in
theorem szOpS_any (A : Option Addr) (n c : Nat) (left : Int) (w : World) (h0 : 0 ≤ left) (h1 : left ≤ 1048576) (hn : n ≤ 9223372036854775807) :
    Calls Tryd.prog 4 #[.slice A n c, .int .i64 left] w fun e w' => e = .returned (.int .i64 (szI n left)) ∧ w = w' := by
  by_cases h : left - n < 0
  · have hs : Hid (szI n left = -1) := by unfold szI; rw [if_pos h]; rfl
    go_enter Tryd.func4, Tryd.ntmps4
    go_wp2
    go_ret
    exact ⟨ret_int hs.out.symm, rfl⟩
  · have hs : Hid (szI n left = left - n) := by unfold szI; rw [if_neg h]; rfl
    go_enter Tryd.func4, Tryd.ntmps4
    go_wp2
    go_ret
    exact ⟨ret_int hs.out.symm, rfl⟩

end Go.Proofs.YtochdhibmmohfaaDoor

namespace Go.Proofs.YtochdhibmmohfaaDoor
open Go.RowKit
set_option linter.unusedVariables false

set_option maxHeartbeats 1000000 in
theorem markIntS_row (g t0 : Nat) (n c : Nat) (f : Nat → Value) (k0 : Int) (w : World) (hrow : w.rowIs g t0 n f) (m : Nat) (hm : m ≤ n) (hk0 : 0 ≤ k0) (hk1 : k0 ≤ 4611686018427387904) (hn : m ≤ 1048576) :
    Calls Tryd.prog 23 #[.slice (some ⟨g, 0, none⟩) m c, .int .i64 k0] w fun e w' => e = .returned (.int .i64 (k0 + m)) ∧
      w'.rowIs g t0 n (fun i => if i < m then .int .i64 (k0 + (i : Int)) else f i) ∧ Only g (g + 1) w w' := by
  go_enter Tryd.func23, Tryd.ntmps23
  go_wp2_with fail
  go_loopw [1, 5] (fun kv iv wr => ∃ j : Nat, j ≤ m ∧ iv = .int .i64 j ∧ kv = .int .i64 (k0 + (j : Int)) ∧ wr.rowIs g t0 n (fun i => if i < j then .int .i64 (k0 + (i : Int)) else f i) ∧ Only g (g + 1) w wr) (fun _ iv _ => m - (intOf iv).toNat)
  case atStart => exact ⟨0, Nat.zero_le _, rfl, by go_num, hrow.congr (fun i _ => by simp), Only.refl _ _ _⟩
  case round =>
    obtain ⟨j, hj, rfl, rfl, hr, ho⟩ := hrel
    clear hrow
    by_cases hlt : j < m
    · have c1 := hr.cell (i := j) (by omega)
      have c2 := hr.frozen j
      simp at c1
      have hset := hr.set j (.int .i64 (k0 + (j : Int)))
      have hos := ho.setCell (p := ⟨g, j, none⟩) (Nat.le_refl _) (Nat.lt_succ_self _) (.int .i64 (k0 + (j : Int)))
      have HR := hide hset
      have HO := hide hos
      clear hr ho hset hos
      have hk2 : k0 + (j : Int) ≤ 9223372036854775806 := by omega
      go_wp2
      go_roundw
      case rel => exact ⟨j + 1, by omega, by go_num, by go_num, HR.out.congr (fun i _ => by
        by_cases e : i = j
        · subst e; rw [if_pos rfl, if_pos (by omega)]
        · rw [if_neg e]
          by_cases e2 : i < j
          · rw [if_pos e2, if_pos (by omega)]
          · rw [if_neg e2, if_neg (by omega)]), HO.out⟩
      case measure => simp [intOf]; omega
    · obtain rfl : j = m := by omega
      clear hlt
      have HR := hide hr
      clear hr
      go_wp2
      go_ret
      exact ⟨rfl, HR.out, ho⟩

set_option maxHeartbeats 400000 in
theorem markIntS_nil (c : Nat) (k0 : Int) (w : World) :
    Calls Tryd.prog 23 #[.slice none 0 c, .int .i64 k0] w fun e w' => e = .returned (.int .i64 k0) ∧ w = w' := by
  go_enter Tryd.func23, Tryd.ntmps23
  go_wp2_with fail
  refine wp_loop_rounds 1 ?_
  rw [rounds_succ]
  go_wp2
  go_ret
  exact ⟨rfl, rfl⟩

/-- markIntS of an owned slice -/
theorem markIntS_own (base : Nat) (A : Option Addr) (c : Nat) (xs : List Int) (k0 : Int) (w : World) (h : OwnI w base A c xs) (hk0 : 0 ≤ k0) (hk1 : k0 ≤ 1048576) (hn : xs.length ≤ 1048576) :
    Calls Tryd.prog 23 #[.slice A xs.length c, .int .i64 k0] w fun e w' => e = .returned (.int .i64 (k0 + xs.length)) ∧ OwnI w' base A c (marks k0 xs.length) ∧
      (∀ lo hi, (∀ g, blockOf A = some g → lo ≤ g ∧ g < hi) → Only lo hi w w') := by
  rcases h.form with ⟨rfl, rfl, rfl⟩ | ⟨g, rfl, hb, hg⟩
  · refine (markIntS_nil 0 k0 w).mono fun e w' ⟨he, hw⟩ => ?_
    subst hw
    exact ⟨by rw [he]; simp, OwnI.empty _ _, fun lo hi _ => Only.refl _ _ _⟩
  · obtain ⟨cap, f, hrow, hle, hm, rfl, hbg⟩ := h.row
    refine (markIntS_row g 3 c c f k0 w hrow xs.length hle hk0 (by omega) hn).mono fun e w' ⟨he, hr, ho⟩ => ?_
    refine ⟨he, OwnI.of_row hr (by rw [marks_len]; exact hle) hm hbg (fun i x hx => ?_), fun lo hi hgb => ?_⟩
    · have hi : i < xs.length := by have := (List.getElem?_eq_some_iff.1 hx).1; rw [marks_len] at this; exact this
      rw [marks_at hi] at hx
      injection hx with hx
      rw [if_pos hi, hx]
    · have := hgb g rfl
      exact ho.mono this.1 (by omega)

end Go.Proofs.YtochdhibmmohfaaDoor
