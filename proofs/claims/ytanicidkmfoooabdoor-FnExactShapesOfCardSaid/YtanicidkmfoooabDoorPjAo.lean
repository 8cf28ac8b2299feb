/-
  Lemmas, several texts in one: NeedsL, EqO.
-/
import Derived.Test.YtanicidkmfoooabDoorPjAl
import Derived.Test.YtanicidkmfoooabDoorRows
import Derived.ProofKit
import Derived.LaidMore
import Derived.OpenShut
import Derived.ChangeVars
import Derived.Stop.Joined
import Derived.Test.YtanicidkmfoooabDoorPjAi
import Derived.Test.YtanicidkmfoooabDoorPjAb
import Derived.Deep.QuietTactic
import Derived.BigQuiet
import Derived.StillTailTactics
namespace Go.Proofs.YtanicidkmfoooabDoor
open Go.ChangeShapes Go.WideShapes Go.ChangeAt Go.WideElems Go.RowKit
set_option linter.unusedVariables false

theorem gNeeds : Tryd.prog.globalNamed "loop.example/graphcode/impl.needs" = some 1 := by kernel_rfl
theorem tNeeds : (Tryd.prog.globals[1]?).map (·.type) = some 73 := by kernel_rfl
theorem cView : Tryd.prog.cellsOf 72 = 3 := by kernel_rfl
theorem cNeeds : Tryd.prog.cellsOf 73 = 60 := by kernel_rfl
theorem cViewI : Tryd.prog.cellsOf 3 = 1 := by kernel_rfl

/-- what the table reads as -/
def needsD {H : Type} : DataW H := .agg ((List.range 20).map fun (c : Nat) => .agg [.lit (.int .i64 (need0 (c : Int) : Int)), .lit (.int .i64 (need1 (c : Int) : Int)), .lit (.int .i64 (need2 (c : Int) : Int))])

theorem needsD_laid {H : Type} : (Rows.laid_loop_example_graphcode_impl_needs : DataW H) = needsD := rfl

theorem list3n {α : Type} (l : List α) (h : l.length = 3) : ∃ a b c, l = [a, b, c] := by
  match l, h with
  | [a, b, c], _ => exact ⟨a, b, c, rfl⟩

set_option maxRecDepth 100000 in
theorem needCells {H : Type} {enc : TypeId × Value → H} {W : World} {base : Nat} {spare : Nat → Bool} {held : Bool} {fuel : Nat} {cs : List Value} {y : DataW H × List MemPlace} (h : DataW.trod enc Tryd.prog W base spare held fuel 73 cs = some y) (hy : y.1 = needsD) :
    ∀ c : Nat, c < 20 → cs[c * 3]? = some (.int .i64 (need0 (c : Int) : Int)) ∧ cs[c * 3 + 1]? = some (.int .i64 (need1 (c : Int) : Int)) ∧ cs[c * 3 + 2]? = some (.int .i64 (need2 (c : Int) : Int)) := by
  intro c hc
  obtain ⟨xs, m1, rfl, rfl, hlen, hn, hel⟩ := DataW.trod_array Tryd.underlying73 h
  rw [cNeeds] at hlen
  have h1 := hel c hc
  rw [cView] at h1
  have hxs : ∃ x, xs[c]? = some x := ⟨_, List.getElem?_eq_getElem (by omega)⟩
  obtain ⟨x, hx⟩ := hxs
  rw [hx] at h1
  have hd : x.1 = .agg [.lit (.int .i64 (need0 (c : Int) : Int)), .lit (.int .i64 (need1 (c : Int) : Int)), .lit (.int .i64 (need2 (c : Int) : Int))] := by
    simp only [needsD, DataW.agg.injEq] at hy
    have := congrArg (fun l => l[c]?) hy
    simp [hx, hc] at this
    exact this
  obtain ⟨ys, m2, rfl, rfl, hcl, hyl, hf⟩ := DataW.trod_array Tryd.underlying72 h1
  obtain ⟨v0, v1, v2, hv⟩ := list3n _ (hcl.trans cView)
  rw [hv] at hf
  have h0 := hf 0 (by omega)
  have h2 := hf 1 (by omega)
  have h3 := hf 2 (by omega)
  rw [cViewI] at h0 h2 h3
  simp only [Nat.mul_one] at h0 h2 h3
  simp only [List.drop_zero, List.drop_succ_cons, List.take_succ_cons, List.take_zero] at h0 h2 h3
  obtain ⟨z0, z1, z2, rfl⟩ := list3n ys hyl
  obtain ⟨a, ha, ha2, _⟩ := DataW.trod_int Tryd.underlying3 (show DataW.trod enc Tryd.prog W base spare held m2 3 [v0] = some z0 from h0)
  obtain ⟨b, hb, hb2, _⟩ := DataW.trod_int Tryd.underlying3 (show DataW.trod enc Tryd.prog W base spare held m2 3 [v1] = some z1 from h2)
  obtain ⟨d, hd3, hd2, _⟩ := DataW.trod_int Tryd.underlying3 (show DataW.trod enc Tryd.prog W base spare held m2 3 [v2] = some z2 from h3)
  simp at ha hb hd3
  subst ha
  subst hb
  subst hd3
  simp [ha2, hb2, hd2] at hd
  obtain ⟨rfl, rfl, rfl⟩ := hd
  have g0 : ((cs.drop (c * 3)).take 3)[0]? = some (.int .i64 (need0 (c : Int) : Int)) := by rw [hv]; rfl
  have g1 : ((cs.drop (c * 3)).take 3)[1]? = some (.int .i64 (need1 (c : Int) : Int)) := by rw [hv]; rfl
  have g2 : ((cs.drop (c * 3)).take 3)[2]? = some (.int .i64 (need2 (c : Int) : Int)) := by rw [hv]; rfl
  rw [List.getElem?_take_of_lt (by omega), List.getElem?_drop] at g0 g1 g2
  exact ⟨g0, g1, g2⟩

theorem needs_of_var {W : World} {cs : Array Value} (hvar : W.var? Tryd.prog "loop.example/graphcode/impl.needs" = some cs) (h : ∀ c : Nat, c < 20 → cs.toList[c * 3]? = some (.int .i64 (need0 (c : Int) : Int)) ∧ cs.toList[c * 3 + 1]? = some (.int .i64 (need1 (c : Int) : Int)) ∧ cs.toList[c * 3 + 2]? = some (.int .i64 (need2 (c : Int) : Int))) :
    NeedsAt W W.heap.size := by
  have hc : ∀ i, W.cell? ⟨1, i, none⟩ = cs[i]? := World.var?_cell gNeeds hvar
  have h0 := (h 0 (by omega)).1
  refine ⟨World.block_lt_of_cell? (u := .int .i64 (need0 (0 : Nat) : Int)) W ⟨1, 0, none⟩ ?_, fun c hcl => ?_, fun c hcl => ?_, fun c hcl => ?_⟩
  · rw [hc, ← Array.getElem?_toList]; exact h0
  · rw [hc, ← Array.getElem?_toList]; exact (h c hcl).1
  · rw [hc, ← Array.getElem?_toList]; exact (h c hcl).2.1
  · rw [hc, ← Array.getElem?_toList]; exact (h c hcl).2.2

theorem needs_of_laid {W : World} (h : laidMetH Tryd.prog [("loop.example/graphcode/impl.needs", Rows.laid_loop_example_graphcode_impl_needs)] W) : NeedsAt W W.heap.size := by
  rw [MakeChecks.laidMetH_plain _ _ _ (by kernel_rfl)] at h
  obtain ⟨ps, ⟨g0, t0, cs0, f0, p0, q0, hg0, ht0, hv0, hd0, _⟩, _⟩ := h
  obtain rfl := Option.some.inj (gNeeds.symm.trans hg0)
  obtain rfl := Option.some.inj (tNeeds.symm.trans ht0)
  exact needs_of_var hv0 (needCells hd0 needsD_laid)

end Go.Proofs.YtanicidkmfoooabDoor

namespace Go.Proofs.YtanicidkmfoooabDoor
open Go.RowKit

theorem od_ne {m n : Od} (h : m.code ≠ n.code ∨ m.arg ≠ n.arg) : decide (m = n) = false := by
  simp only [decide_eq_false_iff_not]
  rintro rfl
  simp at h

theorem od_eq {m n : Od} (h1 : m.code = n.code) (h2 : m.arg = n.arg) : decide (m = n) = true := by
  cases m; cases n
  simp_all

set_option maxHeartbeats 1000000 in
theorem eqOp_any (m n : Od) (w : World) :
    Calls Tryd.prog 20 #[.agg #[.int .i64 m.code, .int .i64 m.arg], .agg #[.int .i64 n.code, .int .i64 n.arg]] w fun e w' =>
      e = .returned (.bool (decide (m = n))) ∧ Below w.heap.size w w' := by
  have hB : Below w.heap.size w ((w.alloc (.cells #[.int .i64 m.code, .int .i64 m.arg] 39)).alloc (.cells #[.int .i64 n.code, .int .i64 n.arg] 39)) :=
    ((Below.refl _ _).alloc (Nat.le_refl _) _).alloc (by simp) _
  by_cases h1 : m.code = n.code
  · have t1 : (m.code != n.code) = false := by simpa using h1
    by_cases h2 : m.arg = n.arg
    · have t2 : (m.arg != n.arg) = false := by simpa using h2
      have HF := hide (od_eq h1 h2)
      clear h1 h2
      go_enter Tryd.func20, Tryd.ntmps20
      go_wp2
      go_ret
      exact ⟨ret_bool HF.out.symm, hB⟩
    · have t2 : (m.arg != n.arg) = true := by simpa using h2
      have HF := hide (od_ne (.inr h2))
      clear h1 h2
      go_enter Tryd.func20, Tryd.ntmps20
      go_wp2
      go_ret
      exact ⟨ret_bool HF.out.symm, hB⟩
  · have t1 : (m.code != n.code) = true := by simpa using h1
    have HF := hide (od_ne (.inl h1))
    clear h1
    go_enter Tryd.func20, Tryd.ntmps20
    go_wp2
    go_ret
    exact ⟨ret_bool HF.out.symm, hB⟩

set_option maxRecDepth 100000 in
set_option maxHeartbeats 1000000 in
theorem eqOpS_any (A A' : Option Addr) (ms ns : List Od) (c c' : Nat) (w : World) (h : OpsAt w w.heap.size A ms) (h' : OpsAt w w.heap.size A' ns) :
    Calls Tryd.prog 9 #[.slice A ms.length c, .slice A' ns.length c'] w fun e w' => e = .returned (.bool (decide (ms = ns))) ∧ Below w.heap.size w w' := by
  have hl := h.len
  by_cases hne : ms.length = ns.length
  · have hb0 : ((ms.length : Int) != (ns.length : Int)) = false := by simp [hne]
    go_enter Tryd.func9, Tryd.ntmps9
    go_wp2_with fail
    go_loopw [5] (fun i wr => ∃ k : Nat, k ≤ ms.length ∧ i = .int .i64 k ∧ Below w.heap.size w wr ∧ ∀ j, j < k → ms[j]? = ns[j]?) (fun i _ => ms.length - (intOf i).toNat)
    case atStart => exact ⟨0, Nat.zero_le _, rfl, Below.refl _ _, fun j hj => absurd hj (by omega)⟩
    case round =>
      obtain ⟨k, hk, rfl, hb, he0⟩ := hrel
      have he := hide he0
      clear he0
      by_cases hlt : k < ms.length
      · obtain ⟨b, off, m, rfl, hbl, hx, _, hm0, hm1⟩ := (h.below hb).at_ hlt
        obtain ⟨b', off', n, rfl, hbl', hy, _, hn0, hn1⟩ := (h'.below hb).at_ (k := k) (by omega)
        have Hx := hide hx
        have Hy := hide hy
        clear hx hy
        have hk1 : (0 : Int) ≤ (k : Int) := by omega
        have hk2 : (k : Int) < (ms.length : Int) := by omega
        have hk3 : (k : Int) < (ns.length : Int) := by omega
        have Hne := hide hne
        clear hne
        have hb2 : Below w.heap.size w wr.drew := hb.drew
        go_wp2_with fail
        go_still_tail 8, (by kernel_rfl)
        change wpList _ _ _ _ _ wr.drew
        generalize wr.drew = w2 at hb2 ⊢
        go_wp2_with fail
        refine (eqOp_any m n w2).mono ?_
        rintro e w' ⟨rfl, hb3⟩
        have hb4 := hb2.trans (hb3.mono hb2.size)
        clear hb2 hb3
        by_cases hmn : m = n
        · subst hmn
          have t : decide (m = m) = true := by simp
          rw [t]
          clear t
          go_wp2
          go_roundw
          case rel => exact ⟨k + 1, by omega, by go_num, hb4, fun j hj => by
            by_cases e : j = k
            · subst e; rw [Hx.out, Hy.out]
            · exact he.out j (by omega)⟩
          case measure => simp [intOf]; omega
        · have t : decide (m = n) = false := by simpa using hmn
          rw [t]
          clear t
          have hF : decide (ms = ns) = false := by
            simp only [decide_eq_false_iff_not]
            intro e
            subst e
            have := Hx.out.symm.trans Hy.out
            injection this with this
            exact hmn this
          have HF := hide hF
          clear hF hmn
          go_wp2
          go_ret
          exact ⟨ret_bool HF.out.symm, hb4⟩
      · obtain rfl : k = ms.length := by omega
        have hF : decide (ms = ns) = true := by
          simp only [decide_eq_true_eq]
          exact eq_of_prefix hne rfl he.out
        have HF := hide hF
        clear hF hlt
        go_wp2
        go_ret
        exact ⟨ret_bool HF.out.symm, hb⟩
  · have hb1 : ((ms.length : Int) != (ns.length : Int)) = true := by simp; omega
    have hF : decide (ms = ns) = false := by
      simp only [decide_eq_false_iff_not]
      intro e
      exact hne (by rw [e])
    have HF := hide hF
    clear hF
    go_enter Tryd.func9, Tryd.ntmps9
    go_wp2
    go_ret
    exact ⟨ret_bool HF.out.symm, Below.refl _ _⟩

end Go.Proofs.YtanicidkmfoooabDoor
