/-
  Lemmas, several texts in one: TabL, ChkC, ImplO, WatB, SzO.
-/
import Derived.Test.YtgkbblaaodcmnaaDoorPjAg
import Derived.Test.YtgkbblaaodcmnaaDoorPjAh
import Derived.Deep.RegionHeld3
import Derived.StillTailTactics
import Derived.Test.YtgkbblaaodcmnaaDoorPjAd
import Derived.Test.YtgkbblaaodcmnaaDoorPjAa
import Derived.Deep.QuietTactic
import Derived.BigQuiet
import Derived.Test.YtgkbblaaodcmnaaDoorShpR
import Derived.Deep.Cut
import Derived.Test.YtgkbblaaodcmnaaDoorPjAb
namespace Go.Proofs.YtgkbblaaodcmnaaDoor
open Go.ChangeShapes Go.WideShapes Go.ChangeAt Go.WideElems Go.RowKit
set_option linter.unusedVariables false

theorem tables_of_laid {W : World} (h : laidMetH Tryd.prog [("loop.example/graphcode/impl.forms", Rows.laid_loop_example_graphcode_impl_forms), ("loop.example/graphcode/impl.needs", Rows.laid_loop_example_graphcode_impl_needs)] W) : FormsAt W W.heap.size ∧ NeedsAt W W.heap.size := by
  rw [MakeChecks.laidMetH_plain _ _ _ (by kernel_rfl)] at h
  obtain ⟨ps, ⟨g0, t0, cs0, f0, p0, q0, hg0, ht0, hv0, hd0, ⟨g1, t1, cs1, f1, p1, q1, hg1, ht1, hv1, hd1, _⟩, _⟩, _⟩ := h
  obtain rfl := Option.some.inj (gForms.symm.trans hg0)
  obtain rfl := Option.some.inj (tForms.symm.trans ht0)
  obtain rfl := Option.some.inj (gNeeds.symm.trans hg1)
  obtain rfl := Option.some.inj (tNeeds.symm.trans ht1)
  exact ⟨forms_of_var hv0 (formCells hd0 formsD_laid), needs_of_var hv1 (needCells hd1 needsD_laid)⟩

end Go.Proofs.YtgkbblaaodcmnaaDoor

namespace Go.Proofs.YtgkbblaaodcmnaaDoor
open Go.RowKit
set_option linter.unusedVariables false

/-- three numbers come back -/
def GivesV (w : World) (v0 v1 v2 : Nat) (e : Ending) (w' : World) : Prop := e = .returned (.agg #[.int .i64 (v0 : Int), .int .i64 (v1 : Int), .int .i64 (v2 : Int)]) ∧ Below w.heap.size w w'

theorem lies3_set {w : World} {g : Nat} {u0 u1 u2 : Value} {t : TypeId} (h : Lies w g #[u0, u1, u2] t) (v0 v1 v2 : Value) : Lies (((w.setCell ⟨g, 0, none⟩ v0).setCell ⟨g, 1, none⟩ v1).setCell ⟨g, 2, none⟩ v2) g #[v0, v1, v2] t := by
  have := ((h.set 0 v0).set 1 v1).set 2 v2
  simpa using this

set_option maxRecDepth 100000 in
set_option maxHeartbeats 4000000 in
theorem viewOf_all (q base off : Nat) (p : ShPtr) (s : Shp) (v0 v1 v2 : Nat) (w : World) (h : SbAt w base q off p s) (hs : s.Small) (h0 : s.useAt ((above s.stack : Int) - 2) = v0) (h1 : s.useAt ((above s.stack : Int) - 1) = v1) (h2 : s.useFrom (above s.stack) = v2) :
    Calls Tryd.prog 41 #[.pointer (some ⟨q, off, none⟩), .int .i64 (-1)] w (GivesV w v0 v1 v2) := by
  have hB : Below w.heap.size w (w.alloc (.cells #[.int .i64 0, .int .i64 0, .int .i64 0] 70)) := (Below.refl _ _).alloc (Nat.le_refl _) _
  have l1 := Lies.new w #[.int .i64 0, .int .i64 0, .int .i64 0] 70
  have hb := h.alloc (.cells #[.int .i64 0, .int .i64 0, .int .i64 0] 70)
  have hal := above_le s.stack
  have hst := hs.t
  have hfree : ∀ j, above s.stack ≤ j → j < s.stack.length → 0 ≤ s.stack.getD j 0 := fun j h1 h2 => above_free h1 h2
  have hok := hs.ok.st
  have H2 := hide h2
  have Hs := hide hs
  have HB := hide hB
  have hat := (hb.own.at_ hs).t
  have c0 := useAt_q q base off p s ((above s.stack : Int) - 2) v0 _ hb hs (by omega) (by omega) h0
  have c1 := useAt_q q base off p s ((above s.stack : Int) - 1) v1 _ hb hs (by omega) (by omega) h1
  have c2 := useFrom_any q base off p s (above s.stack) _ hb hs hal hfree
  have cm := aboveMark_any p.S s.stack p.c3 _ hat (fun x hx => (hok x hx).1)
  rw [h2] at c2
  obtain ⟨e0, e1, e2, e3, e4, _, _, _, _, _⟩ := hb.c
  have C0 := hide c0
  have C1 := hide c1
  have C2 := hide c2
  have CM := hide cm
  clear c0 c1 c2 cm hat hfree hok h hs hb hB h0 h1 h2 H2
  generalize above s.stack = a at hal C0 C1 C2 CM
  go_enter Tryd.func41, Tryd.ntmps41
  go_upto_region 1 with fail
  generalize w.alloc (.cells #[.int .i64 0, .int .i64 0, .int .i64 0] 70) = W at l1 e0 e1 e2 e3 e4 C0 C1 C2 CM HB ⊢
  go_wp2_with fail
  refine CM.out.mono ?_
  rintro e w' ⟨rfl, rfl⟩
  go_wp2_with fail
  refine C0.out.mono ?_
  rintro e w' ⟨rfl, rfl⟩
  go_wp2_with fail
  refine C1.out.mono ?_
  rintro e w' ⟨rfl, rfl⟩
  go_wp2_with fail
  refine C2.out.mono ?_
  rintro e w' ⟨rfl, rfl⟩
  have l2 := lies3_set l1 (.int .i64 (v0 : Int)) (.int .i64 (v1 : Int)) (.int .i64 (v2 : Int))
  have s0 := l2.cell 0
  have s1 := l2.cell 1
  have s2 := l2.cell 2
  have r0 := l1.cell 0
  have r1 := l1.cell 1
  have r2 := l1.cell 2
  have f0 := l1.frozen 0
  have f1 := l1.frozen 1
  have f2 := l1.frozen 2
  simp only [List.getElem?_toArray, List.getElem?_cons_zero, List.getElem?_cons_succ] at s0 s1 s2 r0 r1 r2
  have HB2 := hide (((HB.out.setCell (p := ⟨w.heap.size, 0, none⟩) (Nat.le_refl _) (.int .i64 (v0 : Int))).setCell (p := ⟨w.heap.size, 1, none⟩) (Nat.le_refl _) (.int .i64 (v1 : Int))).setCell (p := ⟨w.heap.size, 2, none⟩) (Nat.le_refl _) (.int .i64 (v2 : Int)))
  clear l1 l2 C0 C1 C2 CM
  go_wp2
  refine bodyPost_ret (v := .agg #[.int .i64 (v0 : Int), .int .i64 (v1 : Int), .int .i64 (v2 : Int)]) (by simp [results, Tryd.results41, go_sem, s0, s1, s2]) rfl ?_
  exact ⟨rfl, HB2.out⟩

set_option maxRecDepth 100000 in
set_option maxHeartbeats 4000000 in
theorem viewOf_top (q base off : Nat) (p : ShPtr) (s : Shp) (t : Int) (v0 v1 v2 : Nat) (w : World) (h : SbAt w base q off p s) (hs : s.Small) (ht : t ≠ -1) (h0 : s.useAt ((s.stack.length : Int) - 1 - 2) = v0) (h1 : s.useAt ((s.stack.length : Int) - 1 - 1) = v1) (h2 : s.useAt ((s.stack.length : Int) - 1) = v2) :
    Calls Tryd.prog 41 #[.pointer (some ⟨q, off, none⟩), .int .i64 t] w (GivesV w v0 v1 v2) := by
  have hB : Below w.heap.size w (w.alloc (.cells #[.int .i64 0, .int .i64 0, .int .i64 0] 70)) := (Below.refl _ _).alloc (Nat.le_refl _) _
  have l1 := Lies.new w #[.int .i64 0, .int .i64 0, .int .i64 0] 70
  have hb := h.alloc (.cells #[.int .i64 0, .int .i64 0, .int .i64 0] 70)
  have hst := hs.t
  have HB := hide hB
  have c0 := useAt_q q base off p s ((s.stack.length : Int) - 1 - 2) v0 _ hb hs (by omega) (by omega) h0
  have c1 := useAt_q q base off p s ((s.stack.length : Int) - 1 - 1) v1 _ hb hs (by omega) (by omega) h1
  have c2 := useAt_q q base off p s ((s.stack.length : Int) - 1) v2 _ hb hs (by omega) (by omega) h2
  obtain ⟨e0, e1, e2, e3, e4, _, _, _, _, _⟩ := hb.c
  have C0 := hide c0
  have C1 := hide c1
  have C2 := hide c2
  have htn : (t == -1) = false := by simpa using ht
  clear c0 c1 c2 h hs hb hB h0 h1 h2
  go_enter Tryd.func41, Tryd.ntmps41
  go_upto_region 1 with fail
  generalize w.alloc (.cells #[.int .i64 0, .int .i64 0, .int .i64 0] 70) = W at l1 e0 e1 e2 e3 e4 C0 C1 C2 HB ⊢
  go_wp2_with fail
  refine C0.out.mono ?_
  rintro e w' ⟨rfl, rfl⟩
  go_wp2_with fail
  refine C1.out.mono ?_
  rintro e w' ⟨rfl, rfl⟩
  go_wp2_with fail
  refine C2.out.mono ?_
  rintro e w' ⟨rfl, rfl⟩
  have l2 := lies3_set l1 (.int .i64 (v0 : Int)) (.int .i64 (v1 : Int)) (.int .i64 (v2 : Int))
  have s0 := l2.cell 0
  have s1 := l2.cell 1
  have s2 := l2.cell 2
  have r0 := l1.cell 0
  have r1 := l1.cell 1
  have r2 := l1.cell 2
  have f0 := l1.frozen 0
  have f1 := l1.frozen 1
  have f2 := l1.frozen 2
  simp only [List.getElem?_toArray, List.getElem?_cons_zero, List.getElem?_cons_succ] at s0 s1 s2 r0 r1 r2
  have HB2 := hide (((HB.out.setCell (p := ⟨w.heap.size, 0, none⟩) (Nat.le_refl _) (.int .i64 (v0 : Int))).setCell (p := ⟨w.heap.size, 1, none⟩) (Nat.le_refl _) (.int .i64 (v1 : Int))).setCell (p := ⟨w.heap.size, 2, none⟩) (Nat.le_refl _) (.int .i64 (v2 : Int)))
  clear l1 l2 C0 C1 C2
  go_wp2
  refine bodyPost_ret (v := .agg #[.int .i64 (v0 : Int), .int .i64 (v1 : Int), .int .i64 (v2 : Int)]) (by simp [results, Tryd.results41, go_sem, s0, s1, s2]) rfl ?_
  exact ⟨rfl, HB2.out⟩

end Go.Proofs.YtgkbblaaodcmnaaDoor

namespace Go.Proofs.YtgkbblaaodcmnaaDoor
open Go.RowKit
set_option linter.unusedVariables false

set_option maxRecDepth 100000 in
set_option maxHeartbeats 1000000 in
theorem implValidOps_any (A : Option Addr) (os : List Od) (c : Nat) (w : World) (h : OpsAt w w.heap.size A os) (hF : FormsAt w w.heap.size) :
    Calls Tryd.prog 23 #[.slice A os.length c] w fun e w' => e = .returned (.bool (tf (OpsOk os))) ∧ Below w.heap.size w w' := by
  have hl := h.len
  by_cases h3 : os.length ≤ 300
  · have t3 : decide ((300 : Int) < (os.length : Int)) = false := by simp; omega
    go_enter Tryd.func23, Tryd.ntmps23
    go_wp2_with fail
    go_loopw [10] (fun i wr => ∃ k : Nat, k ≤ os.length ∧ i = .int .i64 k ∧ Below w.heap.size w wr ∧ ∀ j x, j < k → os[j]? = some x → OdOk x) (fun i _ => os.length - (intOf i).toNat)
    case atStart => exact ⟨0, Nat.zero_le _, rfl, Below.refl _ _, fun j _ hj => absurd hj (by omega)⟩
    case round =>
      obtain ⟨k, hk, rfl, hb, he0⟩ := hrel
      have he := hide he0
      clear he0
      by_cases hlt : k < os.length
      · obtain ⟨b, off, x, rfl, hbl, hx, hmem, hc0, hc1⟩ := (h.below hb).at_ hlt
        have Hx := hide hx
        clear hx
        have hFr := hF.below hb
        have hb2 : Below w.heap.size w (wr.alloc (.cells #[.int .i64 x.code, .int .i64 x.arg] 40)) := hb.alloc hb.size _
        have lx := Lies.new wr #[.int .i64 x.code, .int .i64 x.arg] 40
        have hF2 := hF.below hb2
        clear hFr
        go_wp2_with fail
        generalize wr.alloc (.cells #[.int .i64 x.code, .int .i64 x.arg] 40) = w2 at hb2 lx hF2 ⊢
        have x0 := lx.cell 0
        have x1 := lx.cell 1
        simp at x0 x1
        by_cases hc : 0 ≤ x.code ∧ x.code ≤ 19
        · have u1 := upB_yes hc
          obtain ⟨m, hm⟩ := Int.eq_ofNat_of_zero_le hc.1
          have hm19 : m < 20 := by omega
          have harg := hF2.arg m hm19
          have hi1 : (0 : Int) ≤ x.code := hc.1
          have hi2 : x.code < 20 := by omega
          have hmn : x.code.toNat = m := by omega
          rw [← hm, ← hmn] at harg
          by_cases ha : 0 ≤ x.arg ∧ x.arg ≤ argTop x.code
          · have u2 := upB_yes ha
            have He : Hid (∀ j y, j < k + 1 → os[j]? = some y → OdOk y) := by
              intro j y hj hy
              by_cases e : j = k
              · subst e
                obtain rfl := Option.some.inj (Hx.out.symm.trans hy)
                exact (OdOk.iff _).2 ⟨hc, ha⟩
              · exact he.out j y (by omega) hy
            generalize argTop x.code = T at harg u2
            clear he hmem hm hmn ha hc hF2 lx
            go_quiet ((go_at_call 33; exact Calls.quiet_of_same (isUpTo_q _ _ _)))
            go_wp2
            go_roundw
            case rel => exact ⟨k + 1, by omega, by go_num, below_drewN hb2 _, He.out⟩
            case measure => simp [intOf]; omega
          · have u2 := upB_no ha
            have HF := hide (show tf (OpsOk os) = false from tf_false fun hall => ha ((OdOk.iff _).1 (hall.2 x hmem)).2)
            generalize argTop x.code = T at harg u2
            clear he hmem hm hmn ha hc hF2 lx
            go_quiet ((go_at_call 33; exact Calls.quiet_of_same (isUpTo_q _ _ _)))
            go_wp2
            go_ret
            exact ⟨ret_bool HF.out.symm, below_drewN hb2 _⟩
        · have u1 := upB_no hc
          have HF := hide (show tf (OpsOk os) = false from tf_false fun hall => hc (hall.2 x hmem).1)
          clear he hmem hc hF2 lx
          go_quiet ((go_at_call 33; exact Calls.quiet_of_same (isUpTo_q _ _ _)))
          go_wp2
          go_ret
          exact ⟨ret_bool HF.out.symm, below_drewN hb2 _⟩
      · obtain rfl : k = os.length := by omega
        have HF := hide (show tf (OpsOk os) = true from tf_true ⟨h3, fun x hx => by
          obtain ⟨j, hj, rfl⟩ := List.getElem_of_mem hx
          exact he.out j _ hj (List.getElem?_eq_getElem hj)⟩)
        clear hlt
        go_wp2
        go_ret
        exact ⟨ret_bool HF.out.symm, hb⟩
  · have t3 : decide ((300 : Int) < (os.length : Int)) = true := by simp; omega
    have HF := hide (show tf (OpsOk os) = false from tf_false fun hh => h3 hh.1)
    clear h3
    go_enter Tryd.func23, Tryd.ntmps23
    go_wp2
    go_ret
    exact ⟨ret_bool HF.out.symm, Below.refl _ _⟩

end Go.Proofs.YtgkbblaaodcmnaaDoor

namespace Go.Proofs.YtgkbblaaodcmnaaDoor
open Go.RowKit
set_option linter.unusedVariables false

/-- no valid program -/
def GivesNoRun (w : World) (e : Ending) (w' : World) : Prop := e = .returned (.tuple #[shVal ShPtr.nil Shp.zero, .int .i64 (-1)]) ∧ Below w.heap.size w w'

set_option maxRecDepth 100000 in
set_option maxHeartbeats 1000000 in
theorem watched_bad (A : Option Addr) (os : List Od) (c : Nat) (v : Value) (w : World) (h : OpsAt w w.heap.size A os) (hF : FormsAt w w.heap.size) (hok : ¬ OpsOk os) :
    Calls Tryd.prog 16 #[.slice A os.length c, v] w (GivesNoRun w) := by
  have hB0 := (Below.refl w.heap.size w).alloc (Nat.le_refl _) (.cells zero5 36)
  have HB0 := hide hB0
  have L0 := hide (Lies.new w zero5 36)
  have HV := hide (implValidOps_any A os c _ (h.later hB0 (Nat.le_refl _)) (hF.later hB0 (Nat.le_refl _)))
  have Ht := hide (show tf (OpsOk os) = false from tf_false hok)
  clear hok hB0
  go_enter Tryd.func16, Tryd.ntmps16
  go_upto_region 1 with fail
  unfold zero5 at HB0 L0 HV
  have hlt := L0.out.lt
  generalize w.alloc (.cells #[.slice none 0 0, .slice none 0 0, .slice none 0 0, .slice none 0 0, .bool false] 36) = W at HB0 L0 HV hlt ⊢
  go_wp2_with fail
  refine HV.out.mono ?_
  rw [Ht.out]
  rintro e w2 ⟨rfl, hb⟩
  have hS := Lies.below L0.out hb hlt
  obtain ⟨⟨r0, r1, r2, r3, r4, f0, f1, f2, f3, f4, s0, s1, s2, s3, s4⟩, _⟩ := Lies.set5 hS (.slice none 0 0) (.slice none 0 0) (.slice none 0 0) (.slice none 0 0) (.bool false)
  have HB := hide (set5_below (v0 := .slice none 0 0) (v1 := .slice none 0 0) (v2 := .slice none 0 0) (v3 := .slice none 0 0) (v4 := .bool false) (HB0.out.trans (hb.mono HB0.out.size)) (Nat.le_refl _))
  clear hS hb HB0 L0 HV
  go_wp2
  refine bodyPost_ret (v := .tuple #[shVal ShPtr.nil Shp.zero, .int .i64 (-1)]) (by simp [shVal, shCells, ShPtr.nil, Shp.zero, results, Tryd.results16, go_sem, s0, s1, s2, s3, s4]) rfl ?_
  exact ⟨rfl, HB.out⟩

end Go.Proofs.YtgkbblaaodcmnaaDoor

namespace Go.Proofs.YtgkbblaaodcmnaaDoor
open Go.RowKit

set_option maxHeartbeats 400000 in
theorem szOpS_any (A : Option Addr) (n c : Nat) (left : Int) (w : World) (h0 : 0 ≤ left) (h1 : left ≤ 1048576) (hn : n ≤ 9223372036854775807) :
    Calls Tryd.prog 4 #[.slice A n c, .int .i64 left] w fun e w' => e = .returned (.int .i64 (szI n left)) ∧ w = w' := by
  by_cases h : left - n < 0
  · have hs : Hid (szI n left = -1) := by unfold szI; rw [if_pos h]; rfl
    go_enter Tryd.func4, Tryd.ntmps4
    go_wp2
    go_ret
    exact ⟨ret_int hs.out.symm, rfl⟩
  · have hs : Hid (szI n left = left - n) := by unfold szI; rw [if_neg h]; rfl
    go_enter Tryd.func4, Tryd.ntmps4
    go_wp2
    go_ret
    exact ⟨ret_int hs.out.symm, rfl⟩

end Go.Proofs.YtgkbblaaodcmnaaDoor
