/-
  Lemmas, several texts in one: InfoO, NeedsL, DifM, FbM, InR, ChkA, EqO, MarkO.
-/
import Derived.Test.YtochdhibmmohfaaDoorPjAa
import Derived.Test.YtochdhibmmohfaaDoorPjAe
import Derived.Test.YtochdhibmmohfaaDoorRows
import Derived.ProofKit
import Derived.LaidMore
import Derived.OpenShut
import Derived.ChangeVars
import Derived.Stop.Joined
import Derived.Test.YtochdhibmmohfaaDoorPjAb
import Derived.Test.YtochdhibmmohfaaDoorChkM
import Derived.Test.YtochdhibmmohfaaDoorSb
import Derived.Deep.Cut
import Derived.Deep.LoopGhost
import Derived.Deep.QuietTactic
import Derived.BigQuiet
import Derived.StillTailTactics
namespace Go.Proofs.YtochdhibmmohfaaDoor

theorem infoOp : (Tryd.prog.info? 44).map (fun i => (i.zero, i.size, i.bytes)) = some (some (.agg #[.int .i64 0, .int .i64 0]), 2, 16) := by kernel_rfl

end Go.Proofs.YtochdhibmmohfaaDoor

namespace Go.Proofs.YtochdhibmmohfaaDoor
open Go.ChangeShapes Go.WideShapes Go.ChangeAt Go.WideElems Go.RowKit
set_option linter.unusedVariables false

theorem gNeeds : Tryd.prog.globalNamed "loop.example/graphcode/impl.needs" = some 1 := by kernel_rfl
theorem tNeeds : (Tryd.prog.globals[1]?).map (·.type) = some 79 := by kernel_rfl
theorem cView : Tryd.prog.cellsOf 78 = 3 := by kernel_rfl
theorem cNeeds : Tryd.prog.cellsOf 79 = 60 := by kernel_rfl
theorem cViewI : Tryd.prog.cellsOf 3 = 1 := by kernel_rfl

/-- what the table reads as -/
def needsD {H : Type} : DataW H := .agg ((List.range 20).map fun (c : Nat) => .agg [.lit (.int .i64 (need0 (c : Int) : Int)), .lit (.int .i64 (need1 (c : Int) : Int)), .lit (.int .i64 (need2 (c : Int) : Int))])

theorem needsD_laid {H : Type} : (Rows.laid_loop_example_graphcode_impl_needs : DataW H) = needsD := rfl

theorem list3n {α : Type} (l : List α) (h : l.length = 3) : ∃ a b c, l = [a, b, c] := by
  match l, h with
  | [a, b, c], _ => exact ⟨a, b, c, rfl⟩

set_option maxRecDepth 100000 in
theorem needCells {H : Type} {enc : TypeId × Value → H} {W : World} {base : Nat} {spare : Nat → Bool} {held : Bool} {fuel : Nat} {cs : List Value} {y : DataW H × List MemPlace} (h : DataW.trod enc Tryd.prog W base spare held fuel 79 cs = some y) (hy : y.1 = needsD) :
    ∀ c : Nat, c < 20 → cs[c * 3]? = some (.int .i64 (need0 (c : Int) : Int)) ∧ cs[c * 3 + 1]? = some (.int .i64 (need1 (c : Int) : Int)) ∧ cs[c * 3 + 2]? = some (.int .i64 (need2 (c : Int) : Int)) := by
  intro c hc
  obtain ⟨xs, m1, rfl, rfl, hlen, hn, hel⟩ := DataW.trod_array Tryd.underlying79 h
  rw [cNeeds] at hlen
  have h1 := hel c hc
  rw [cView] at h1
  have hxs : ∃ x, xs[c]? = some x := ⟨_, List.getElem?_eq_getElem (by omega)⟩
  obtain ⟨x, hx⟩ := hxs
  rw [hx] at h1
  have hd : x.1 = .agg [.lit (.int .i64 (need0 (c : Int) : Int)), .lit (.int .i64 (need1 (c : Int) : Int)), .lit (.int .i64 (need2 (c : Int) : Int))] := by
    simp only [needsD, DataW.agg.injEq] at hy
    have := congrArg (fun l => l[c]?) hy
    simp [hx, hc] at this
    exact this
  obtain ⟨ys, m2, rfl, rfl, hcl, hyl, hf⟩ := DataW.trod_array Tryd.underlying78 h1
  obtain ⟨v0, v1, v2, hv⟩ := list3n _ (hcl.trans cView)
  rw [hv] at hf
  have h0 := hf 0 (by omega)
  have h2 := hf 1 (by omega)
  have h3 := hf 2 (by omega)
  rw [cViewI] at h0 h2 h3
  simp only [Nat.mul_one] at h0 h2 h3
  simp only [List.drop_zero, List.drop_succ_cons, List.take_succ_cons, List.take_zero] at h0 h2 h3
  obtain ⟨z0, z1, z2, rfl⟩ := list3n ys hyl
  obtain ⟨a, ha, ha2, _⟩ := DataW.trod_int Tryd.underlying3 (show DataW.trod enc Tryd.prog W base spare held m2 3 [v0] = some z0 from h0)
  obtain ⟨b, hb, hb2, _⟩ := DataW.trod_int Tryd.underlying3 (show DataW.trod enc Tryd.prog W base spare held m2 3 [v1] = some z1 from h2)
  obtain ⟨d, hd3, hd2, _⟩ := DataW.trod_int Tryd.underlying3 (show DataW.trod enc Tryd.prog W base spare held m2 3 [v2] = some z2 from h3)
  simp at ha hb hd3
  subst ha
  subst hb
  subst hd3
  simp [ha2, hb2, hd2] at hd
  obtain ⟨rfl, rfl, rfl⟩ := hd
  have g0 : ((cs.drop (c * 3)).take 3)[0]? = some (.int .i64 (need0 (c : Int) : Int)) := by rw [hv]; rfl
  have g1 : ((cs.drop (c * 3)).take 3)[1]? = some (.int .i64 (need1 (c : Int) : Int)) := by rw [hv]; rfl
  have g2 : ((cs.drop (c * 3)).take 3)[2]? = some (.int .i64 (need2 (c : Int) : Int)) := by rw [hv]; rfl
  rw [List.getElem?_take_of_lt (by omega), List.getElem?_drop] at g0 g1 g2
  exact ⟨g0, g1, g2⟩

theorem needs_of_var {W : World} {cs : Array Value} (hvar : W.var? Tryd.prog "loop.example/graphcode/impl.needs" = some cs) (h : ∀ c : Nat, c < 20 → cs.toList[c * 3]? = some (.int .i64 (need0 (c : Int) : Int)) ∧ cs.toList[c * 3 + 1]? = some (.int .i64 (need1 (c : Int) : Int)) ∧ cs.toList[c * 3 + 2]? = some (.int .i64 (need2 (c : Int) : Int))) :
    NeedsAt W W.heap.size := by
  have hc : ∀ i, W.cell? ⟨1, i, none⟩ = cs[i]? := World.var?_cell gNeeds hvar
  have h0 := (h 0 (by omega)).1
  refine ⟨World.block_lt_of_cell? (u := .int .i64 (need0 (0 : Nat) : Int)) W ⟨1, 0, none⟩ ?_, fun c hcl => ?_, fun c hcl => ?_, fun c hcl => ?_⟩
  · rw [hc, ← Array.getElem?_toList]; exact h0
  · rw [hc, ← Array.getElem?_toList]; exact (h c hcl).1
  · rw [hc, ← Array.getElem?_toList]; exact (h c hcl).2.1
  · rw [hc, ← Array.getElem?_toList]; exact (h c hcl).2.2

theorem needs_of_laid {W : World} (h : laidMetH Tryd.prog [("loop.example/graphcode/impl.needs", Rows.laid_loop_example_graphcode_impl_needs)] W) : NeedsAt W W.heap.size := by
  rw [MakeChecks.laidMetH_plain _ _ _ (by kernel_rfl)] at h
  obtain ⟨ps, ⟨g0, t0, cs0, f0, p0, q0, hg0, ht0, hv0, hd0, _⟩, _⟩ := h
  obtain rfl := Option.some.inj (gNeeds.symm.trans hg0)
  obtain rfl := Option.some.inj (tNeeds.symm.trans ht0)
  exact needs_of_var hv0 (needCells hd0 needsD_laid)

end Go.Proofs.YtochdhibmmohfaaDoor

namespace Go.Proofs.YtochdhibmmohfaaDoor

/-- different numbers in 0..m -/
structure Diff (xs : List Int) (m : Int) : Prop where
  rng : ∀ x ∈ xs, 0 ≤ x ∧ x ≤ m
  nd : xs.Nodup

end Go.Proofs.YtochdhibmmohfaaDoor

namespace Go.Proofs.YtochdhibmmohfaaDoor
set_option linter.unusedVariables false

open Classical in
/-- the first order that is not possible -/
noncomputable def firstBad (os : List Od) : Int := if OpsOk os then (if (runShp Shp.new os).2 = os.length then -1 else ((runShp Shp.new os).2 : Int)) else -2

/-- a whole program -/
def Whole (os : List Od) : Prop := OpsOk os ∧ (runShp Shp.new os).2 = os.length ∧ (runShp Shp.new os).1.done = true

end Go.Proofs.YtochdhibmmohfaaDoor

namespace Go.Proofs.YtochdhibmmohfaaDoor
open Go.RowKit

theorem inRange_yes (n lo hi : Int) (w : World) (h1 : lo ≤ n) (h2 : n ≤ hi) :
    Calls Tryd.prog 35 #[.int .i64 n, .int .i64 lo, .int .i64 hi] w fun e w' => e = .returned (.bool true) ∧ w = w' := by
  have d1 : decide (lo ≤ n) = true := by simpa using h1
  have d2 : decide (n ≤ hi) = true := by simpa using h2
  go_enter Tryd.func35, Tryd.ntmps35
  go_wp2
  go_ret
  exact ⟨rfl, rfl⟩

theorem inRange_no (n lo hi : Int) (w : World) (h : n < lo ∨ hi < n) :
    Calls Tryd.prog 35 #[.int .i64 n, .int .i64 lo, .int .i64 hi] w fun e w' => e = .returned (.bool false) ∧ w = w' := by
  by_cases h1 : lo ≤ n
  · have h2 : ¬ n ≤ hi := by omega
    have d1 : decide (lo ≤ n) = true := by simpa using h1
    have d2 : decide (n ≤ hi) = false := by simpa using h2
    clear h
    go_enter Tryd.func35, Tryd.ntmps35
    go_wp2
    go_ret
    exact ⟨rfl, rfl⟩
  · have d1 : decide (lo ≤ n) = false := by simpa using h1
    clear h
    go_enter Tryd.func35, Tryd.ntmps35
    go_wp2
    go_ret
    exact ⟨rfl, rfl⟩

end Go.Proofs.YtochdhibmmohfaaDoor

namespace Go.Proofs.YtochdhibmmohfaaDoor
open Go.RowKit
set_option linter.unusedVariables false

set_option maxHeartbeats 1000000 in
theorem aboveMark_any (A : Option Addr) (xs : List Int) (c : Nat) (w : World) (h : IntsAt w w.heap.size A xs) (hm : ∀ x ∈ xs, -1 ≤ x) :
    Calls Tryd.prog 54 #[.slice A xs.length c] w fun e w' => e = .returned (.int .i64 (above xs : Int)) ∧ w' = w := by
  have hl := h.len
  have Hm := hide hm
  clear hm
  go_enter Tryd.func54, Tryd.ntmps54
  go_wp2_with fail
  go_loop [3] (fun v => ∃ k : Nat, k ≤ xs.length ∧ v = .int .i64 (k : Int) ∧ aboveTo xs k = above xs) (fun v => (intOf v).toNat)
  case atStart => exact ⟨xs.length, Nat.le_refl _, rfl, rfl⟩
  case round =>
    obtain ⟨k, hk, rfl, ha⟩ := hrel
    have Ha := hide ha
    clear ha
    cases k with
    | zero =>
      go_wp2
      go_ret
      exact ⟨by have := Ha.out; unfold aboveTo at this; rw [← this] <;> rfl, rfl⟩
    | succ k =>
      obtain ⟨b, off, x, rfl, hbl, hx, hmem, hcx⟩ := h.at_ (k := k) (by omega)
      have hge := Hm.out x hmem
      have hg : xs.getD k 0 = x := by rw [List.getD_eq_getElem?_getD, hx]; rfl
      have h0 : (0 : Int) < ((k + 1 : Nat) : Int) := by omega
      have e1 : ((k + 1 : Nat) : Int) - 1 = (k : Int) := by omega
      have h1 : (0 : Int) ≤ (k : Int) := by omega
      have h2 : (k : Int) < (xs.length : Int) := by omega
      clear hx hmem
      by_cases hx0 : x < 0
      · obtain rfl : x = -1 := by omega
        have HR := hide (show above xs = k + 1 from by rw [← Ha.out]; unfold aboveTo; rw [hg, if_pos (by omega)])
        clear hg
        go_wp2
        go_ret
        exact ⟨by rw [HR.out] <;> rfl, rfl⟩
      · have hn : (x != -1) = true := by simp <;> omega
        have HR := hide (show aboveTo xs k = above xs from by rw [← Ha.out]; conv => { rhs; unfold aboveTo }; rw [hg, if_neg hx0])
        clear hg
        go_wp2
        go_round
        case rel => exact ⟨k, by omega, rfl, HR.out⟩
        case measure => simp [intOf] <;> omega

set_option maxRecDepth 100000 in
set_option maxHeartbeats 4000000 in
theorem useAt_any (q base off : Nat) (p : ShPtr) (s : Shp) (a : Int) (w : World) (h : SbAt w base q off p s) (hs : s.Small) (ha : a < (s.stack.length : Int)) (ha0 : -1000 ≤ a) :
    Calls Tryd.prog 58 #[.pointer (some ⟨q, off, none⟩), .int .i64 a] w fun e w' => e = .returned (.int .i64 (s.useAt a : Int)) ∧ w' = w := by
  have hat := h.own.at_ hs
  obtain ⟨e0, e1, e2, e3, e4, _, _, _, _, _⟩ := h.c
  have hok := hs.ok
  by_cases hneg : a < 0
  · have HR := hide (show s.useAt a = 64 by unfold Shp.useAt; rw [if_pos hneg])
    clear h hs hat
    go_enter Tryd.func58, Tryd.ntmps58
    go_wp2
    go_ret
    exact ⟨by rw [HR.out] <;> rfl, rfl⟩
  · obtain ⟨i, rfl⟩ := Int.eq_ofNat_of_zero_le (show 0 ≤ a by omega)
    obtain ⟨b, off, x, hS, hbl, hx, hmem, hcx⟩ := hat.t.at_ (k := i) (by omega)
    obtain ⟨hx1, hx2⟩ := hok.st x hmem
    have hu : s.useAt (i : Int) = s.useOf x := by
      unfold Shp.useAt
      rw [if_neg hneg, Int.toNat_natCast, List.getD_eq_getElem?_getD, hx]; rfl
    have h1 : (0 : Int) ≤ (i : Int) := by omega
    rw [hS] at e2
    by_cases hx0 : x < 0
    · obtain rfl : x = -1 := by omega
      have HR := hide (show s.useAt (i : Int) = 32 by rw [hu]; rfl)
      clear h hs hat hu hmem hx
      go_enter Tryd.func58, Tryd.ntmps58
      go_wp2
      go_ret
      exact ⟨by rw [HR.out] <;> rfl, rfl⟩
    · obtain ⟨j, rfl⟩ := Int.eq_ofNat_of_zero_le (show 0 ≤ x by omega)
      have hjk : j < s.kinds.length := by omega
      obtain ⟨bk, ok, kd, hK, _, hkx, hkm, hck⟩ := hat.k.at_ hjk
      obtain ⟨bf, of, f, hF, _, hfx, _, hcf⟩ := hat.f.at_ (k := j) (by rw [hok.fl]; exact hjk)
      have hkk := hok.kk kd hkm
      have hu2 : s.useAt (i : Int) = useBits kd f := by
        rw [hu]
        unfold Shp.useOf
        rw [if_neg hx0, Int.toNat_natCast, List.getD_eq_getElem?_getD, hkx, List.getD_eq_getElem?_getD, hfx]; rfl
      have hn : ((j : Int) == -1) = false := by simp <;> omega
      have h2 : (0 : Int) ≤ (j : Int) := by omega
      have h3 : (j : Int) < (s.kinds.length : Int) := by omega
      have h4 : (j : Int) < (s.full.length : Int) := by rw [hok.fl]; exact h3
      rw [hK] at e0
      rw [hF] at e1
      have HU := hide hu2
      clear h hs hat hu hu2 hmem hx hkx hkm hfx hok
      have h6 : kd = 0 ∨ kd = 1 ∨ kd = 2 ∨ kd = 3 ∨ kd = 4 ∨ kd = 5 := by omega
      rcases h6 with rfl | rfl | rfl | rfl | rfl | rfl
      all_goals
        cases f <;>
        (go_enter Tryd.func58, Tryd.ntmps58
         go_wp2
         go_ret
         exact ⟨by rw [HU.out] <;> rfl, rfl⟩)

theorem useAt_q (q base off : Nat) (p : ShPtr) (s : Shp) (a : Int) (u : Nat) (w : World) (h : SbAt w base q off p s) (hs : s.Small) (ha : a < (s.stack.length : Int)) (ha0 : -1000 ≤ a) (hu : s.useAt a = u) :
    Calls Tryd.prog 58 #[.pointer (some ⟨q, off, none⟩), .int .i64 a] w fun e w' => e = .returned (.int .i64 (u : Int)) ∧ w' = w := by
  rw [← hu]
  exact useAt_any q base off p s a w h hs ha ha0

end Go.Proofs.YtochdhibmmohfaaDoor

namespace Go.Proofs.YtochdhibmmohfaaDoor
open Go.RowKit

theorem od_ne {m n : Od} (h : m.code ≠ n.code ∨ m.arg ≠ n.arg) : decide (m = n) = false := by
  simp only [decide_eq_false_iff_not]
  rintro rfl
  simp at h

theorem od_eq {m n : Od} (h1 : m.code = n.code) (h2 : m.arg = n.arg) : decide (m = n) = true := by
  cases m; cases n
  simp_all

set_option maxHeartbeats 1000000 in
theorem eqOp_any (m n : Od) (w : World) :
    Calls Tryd.prog 22 #[.agg #[.int .i64 m.code, .int .i64 m.arg], .agg #[.int .i64 n.code, .int .i64 n.arg]] w fun e w' =>
      e = .returned (.bool (decide (m = n))) ∧ Below w.heap.size w w' := by
  have hB : Below w.heap.size w ((w.alloc (.cells #[.int .i64 m.code, .int .i64 m.arg] 44)).alloc (.cells #[.int .i64 n.code, .int .i64 n.arg] 44)) :=
    ((Below.refl _ _).alloc (Nat.le_refl _) _).alloc (by simp) _
  by_cases h1 : m.code = n.code
  · have t1 : (m.code != n.code) = false := by simpa using h1
    by_cases h2 : m.arg = n.arg
    · have t2 : (m.arg != n.arg) = false := by simpa using h2
      have HF := hide (od_eq h1 h2)
      clear h1 h2
      go_enter Tryd.func22, Tryd.ntmps22
      go_wp2
      go_ret
      exact ⟨ret_bool HF.out.symm, hB⟩
    · have t2 : (m.arg != n.arg) = true := by simpa using h2
      have HF := hide (od_ne (.inr h2))
      clear h1 h2
      go_enter Tryd.func22, Tryd.ntmps22
      go_wp2
      go_ret
      exact ⟨ret_bool HF.out.symm, hB⟩
  · have t1 : (m.code != n.code) = true := by simpa using h1
    have HF := hide (od_ne (.inl h1))
    clear h1
    go_enter Tryd.func22, Tryd.ntmps22
    go_wp2
    go_ret
    exact ⟨ret_bool HF.out.symm, hB⟩

set_option maxRecDepth 100000 in
set_option maxHeartbeats 1000000 in
theorem eqOpS_any (A A' : Option Addr) (ms ns : List Od) (c c' : Nat) (w : World) (h : OpsAt w w.heap.size A ms) (h' : OpsAt w w.heap.size A' ns) :
    Calls Tryd.prog 9 #[.slice A ms.length c, .slice A' ns.length c'] w fun e w' => e = .returned (.bool (decide (ms = ns))) ∧ Below w.heap.size w w' := by
  have hl := h.len
  by_cases hne : ms.length = ns.length
  · have hb0 : ((ms.length : Int) != (ns.length : Int)) = false := by simp [hne]
    go_enter Tryd.func9, Tryd.ntmps9
    go_wp2_with fail
    go_loopw [5] (fun i wr => ∃ k : Nat, k ≤ ms.length ∧ i = .int .i64 k ∧ Below w.heap.size w wr ∧ ∀ j, j < k → ms[j]? = ns[j]?) (fun i _ => ms.length - (intOf i).toNat)
    case atStart => exact ⟨0, Nat.zero_le _, rfl, Below.refl _ _, fun j hj => absurd hj (by omega)⟩
    case round =>
      obtain ⟨k, hk, rfl, hb, he0⟩ := hrel
      have he := hide he0
      clear he0
      by_cases hlt : k < ms.length
      · obtain ⟨b, off, m, rfl, hbl, hx, _, hm0, hm1⟩ := (h.below hb).at_ hlt
        obtain ⟨b', off', n, rfl, hbl', hy, _, hn0, hn1⟩ := (h'.below hb).at_ (k := k) (by omega)
        have Hx := hide hx
        have Hy := hide hy
        clear hx hy
        have hk1 : (0 : Int) ≤ (k : Int) := by omega
        have hk2 : (k : Int) < (ms.length : Int) := by omega
        have hk3 : (k : Int) < (ns.length : Int) := by omega
        have Hne := hide hne
        clear hne
        have hb2 : Below w.heap.size w wr.drew := hb.drew
        go_wp2_with fail
        go_still_tail 8, (by kernel_rfl)
        change wpList _ _ _ _ _ wr.drew
        generalize wr.drew = w2 at hb2 ⊢
        go_wp2_with fail
        refine (eqOp_any m n w2).mono ?_
        rintro e w' ⟨rfl, hb3⟩
        have hb4 := hb2.trans (hb3.mono hb2.size)
        clear hb2 hb3
        by_cases hmn : m = n
        · subst hmn
          have t : decide (m = m) = true := by simp
          rw [t]
          clear t
          go_wp2
          go_roundw
          case rel => exact ⟨k + 1, by omega, by go_num, hb4, fun j hj => by
            by_cases e : j = k
            · subst e; rw [Hx.out, Hy.out]
            · exact he.out j (by omega)⟩
          case measure => simp [intOf]; omega
        · have t : decide (m = n) = false := by simpa using hmn
          rw [t]
          clear t
          have hF : decide (ms = ns) = false := by
            simp only [decide_eq_false_iff_not]
            intro e
            subst e
            have := Hx.out.symm.trans Hy.out
            injection this with this
            exact hmn this
          have HF := hide hF
          clear hF hmn
          go_wp2
          go_ret
          exact ⟨ret_bool HF.out.symm, hb4⟩
      · obtain rfl : k = ms.length := by omega
        have hF : decide (ms = ns) = true := by
          simp only [decide_eq_true_eq]
          exact eq_of_prefix hne rfl he.out
        have HF := hide hF
        clear hF hlt
        go_wp2
        go_ret
        exact ⟨ret_bool HF.out.symm, hb⟩
  · have hb1 : ((ms.length : Int) != (ns.length : Int)) = true := by simp; omega
    have hF : decide (ms = ns) = false := by
      simp only [decide_eq_false_iff_not]
      intro e
      exact hne (by rw [e])
    have HF := hide hF
    clear hF
    go_enter Tryd.func9, Tryd.ntmps9
    go_wp2
    go_ret
    exact ⟨ret_bool HF.out.symm, Below.refl _ _⟩

end Go.Proofs.YtochdhibmmohfaaDoor

namespace Go.Proofs.YtochdhibmmohfaaDoor
open Go.RowKit
set_option linter.unusedVariables false

set_option maxHeartbeats 1000000 in
theorem markOpS_row (g t0 : Nat) (n c : Nat) (f : Nat → Value) (k0 : Int) (w : World) (hrow : w.rowIs g t0 (n * 2) f) (m : Nat) (hm : m ≤ n) (hk0 : 0 ≤ k0) (hk1 : k0 ≤ 1048576) (hn : m ≤ 1048576) :
    Calls Tryd.prog 10 #[.slice (some ⟨g, 0, none⟩) m c, .int .i64 k0] w fun e w' => e = .returned (.int .i64 (k0 + 2 * (m : Int))) ∧
      w'.rowIs g t0 (n * 2) (fun i => if i < 2 * m then .int .i64 (k0 + (i : Int)) else f i) ∧ Only g (g + 1) w w' := by
  go_enter Tryd.func10, Tryd.ntmps10
  go_wp2_with fail
  go_loopw [1, 5] (fun kv iv wr => ∃ j : Nat, j ≤ m ∧ iv = .int .i64 j ∧ kv = .int .i64 (k0 + 2 * (j : Int)) ∧ wr.rowIs g t0 (n * 2) (fun i => if i < 2 * j then .int .i64 (k0 + (i : Int)) else f i) ∧ Only g (g + 1) w wr) (fun _ iv _ => m - (intOf iv).toNat)
  case atStart => exact ⟨0, Nat.zero_le _, rfl, by go_num, hrow.congr (fun i _ => by simp), Only.refl _ _ _⟩
  case round =>
    obtain ⟨j, hj, rfl, rfl, hr, ho⟩ := hrel
    clear hrow
    by_cases hlt : j < m
    · have c1 := hr.cell (i := j * 2) (by omega)
      have c2 := hr.frozen (j * 2)
      have c3 := hr.cell (i := j * 2 + 1) (by omega)
      have c4 := hr.frozen (j * 2 + 1)
      have hset := (hr.set (j * 2) (.int .i64 (k0 + 2 * (j : Int)))).set (j * 2 + 1) (.int .i64 (k0 + 2 * (j : Int) + 1))
      have hos := (ho.setCell (p := ⟨g, j * 2, none⟩) (Nat.le_refl _) (Nat.lt_succ_self _) (.int .i64 (k0 + 2 * (j : Int)))).setCell (p := ⟨g, j * 2 + 1, none⟩) (Nat.le_refl _) (Nat.lt_succ_self _) (.int .i64 (k0 + 2 * (j : Int) + 1))
      have HR := hide hset
      have HO := hide hos
      clear hr ho hset hos
      have hk2 : k0 + 2 * (j : Int) ≤ 9223372036854775800 := by omega
      have hk3 : 0 ≤ k0 + 2 * (j : Int) := by omega
      go_wp2
      go_roundw
      case rel => exact ⟨j + 1, by omega, by go_num, by go_num, HR.out.congr (fun i _ => by
        by_cases e : i = j * 2 + 1
        · subst e; rw [if_pos rfl, if_pos (by omega)]; congr 1; omega
        · rw [if_neg e]
          by_cases e1 : i = j * 2
          · subst e1; rw [if_pos rfl, if_pos (by omega)]; congr 1; omega
          · rw [if_neg e1]
            by_cases e2 : i < 2 * j
            · rw [if_pos e2, if_pos (by omega)]
            · rw [if_neg e2, if_neg (by omega)]), HO.out⟩
      case measure => simp [intOf]; omega
    · obtain rfl : j = m := by omega
      clear hlt
      have HR := hide hr
      clear hr
      go_wp2
      go_ret
      exact ⟨rfl, HR.out, ho⟩

end Go.Proofs.YtochdhibmmohfaaDoor
