/-
  Lemmas, several texts in one: FormsL, TabL, EqV, SubO, EqO, MarkOO.
-/
import Derived.Test.YtgjokdfjngpmcaaDoorPjAc
import Derived.Test.YtgjokdfjngpmcaaDoorRows
import Derived.ProofKit
import Derived.LaidMore
import Derived.OpenShut
import Derived.ChangeVars
import Derived.Stop.Joined
import Derived.Test.YtgjokdfjngpmcaaDoorPjAl
import Derived.Test.YtgjokdfjngpmcaaDoorChkD
import Derived.ChangeKeysEq
import Derived.Test.YtgjokdfjngpmcaaDoorPjAa
import Derived.Test.YtgjokdfjngpmcaaDoorPjAe
import Derived.Deep.QuietTactic
import Derived.BigQuiet
import Derived.StillTailTactics
import Derived.Test.YtgjokdfjngpmcaaDoorPjAg
import Derived.Test.YtgjokdfjngpmcaaDoorPjAf
namespace Go.Proofs.YtgjokdfjngpmcaaDoor
open Go.ChangeShapes Go.WideShapes Go.ChangeAt Go.WideElems Go.RowKit
set_option linter.unusedVariables false

theorem gForms : Tryd.prog.globalNamed "loop.example/graphcode/impl.forms" = some 0 := by kernel_rfl
theorem tForms : (Tryd.prog.globals[0]?).map (·.type) = some 59 := by kernel_rfl
theorem cForm : Tryd.prog.cellsOf 58 = 3 := by kernel_rfl
theorem cForms : Tryd.prog.cellsOf 59 = 60 := by kernel_rfl
theorem cFormI : Tryd.prog.cellsOf 3 = 1 := by kernel_rfl

/-- what the table reads as -/
def formsD {H : Type} : DataW H := .agg ((List.range 20).map fun (c : Nat) => .agg [.lit (.int .i64 (takesOf c)), .lit (.int .i64 (pushesOf c)), .lit (.int .i64 (argTop c))])

theorem formsD_laid {H : Type} : (Rows.laid_loop_example_graphcode_impl_forms : DataW H) = formsD := rfl

theorem list3f {α : Type} (l : List α) (h : l.length = 3) : ∃ a b c, l = [a, b, c] := by
  match l, h with
  | [a, b, c], _ => exact ⟨a, b, c, rfl⟩

theorem formCells {H : Type} {enc : TypeId × Value → H} {W : World} {base : Nat} {spare : Nat → Bool} {held : Bool} {fuel : Nat} {cs : List Value} {y : DataW H × List MemPlace} (h : DataW.trod enc Tryd.prog W base spare held fuel 59 cs = some y) (hy : y.1 = formsD) :
    ∀ c : Nat, c < 20 → cs[c * 3]? = some (.int .i64 (takesOf c)) ∧ cs[c * 3 + 1]? = some (.int .i64 (pushesOf c)) ∧ cs[c * 3 + 2]? = some (.int .i64 (argTop c)) := by
  intro c hc
  obtain ⟨xs, m1, rfl, rfl, hlen, hn, hel⟩ := DataW.trod_array Tryd.underlying59 h
  rw [cForms] at hlen
  have h1 := hel c hc
  rw [cForm] at h1
  have hxs : ∃ x, xs[c]? = some x := ⟨_, List.getElem?_eq_getElem (by omega)⟩
  obtain ⟨x, hx⟩ := hxs
  rw [hx] at h1
  have hd : x.1 = .agg [.lit (.int .i64 (takesOf c)), .lit (.int .i64 (pushesOf c)), .lit (.int .i64 (argTop c))] := by
    simp only [formsD, DataW.agg.injEq] at hy
    have := congrArg (fun l => l[c]?) hy
    simp [hx, hc] at this
    exact this
  obtain ⟨ys, m2, _, rfl, hcl, hyl, hf⟩ := DataW.trod_struct Tryd.underlying58 h1
  obtain ⟨v0, v1, v2, hv⟩ := list3f _ (hcl.trans cForm)
  rw [hv] at hf
  have h0 : DataW.trod enc Tryd.prog W base spare held m2 3 (([v0, v1, v2].drop 0).take (Tryd.prog.cellsOf 3)) = ys[0]? := hf 0 _ rfl
  have h2 : DataW.trod enc Tryd.prog W base spare held m2 3 (([v0, v1, v2].drop 1).take (Tryd.prog.cellsOf 3)) = ys[1]? := hf 1 _ rfl
  have h3 : DataW.trod enc Tryd.prog W base spare held m2 3 (([v0, v1, v2].drop 2).take (Tryd.prog.cellsOf 3)) = ys[2]? := hf 2 _ rfl
  rw [cFormI] at h0 h2 h3
  simp only [List.drop_zero, List.drop_succ_cons, List.take_succ_cons, List.take_zero] at h0 h2 h3
  obtain ⟨z0, z1, z2, rfl⟩ := list3f ys hyl
  obtain ⟨a, ha, ha2, _⟩ := DataW.trod_int Tryd.underlying3 (show DataW.trod enc Tryd.prog W base spare held m2 3 [v0] = some z0 from h0)
  obtain ⟨b, hb, hb2, _⟩ := DataW.trod_int Tryd.underlying3 (show DataW.trod enc Tryd.prog W base spare held m2 3 [v1] = some z1 from h2)
  obtain ⟨d, hd3, hd2, _⟩ := DataW.trod_int Tryd.underlying3 (show DataW.trod enc Tryd.prog W base spare held m2 3 [v2] = some z2 from h3)
  simp at ha hb hd3
  subst ha
  subst hb
  subst hd3
  simp [ha2, hb2, hd2] at hd
  obtain ⟨rfl, rfl, rfl⟩ := hd
  have g0 : ((cs.drop (c * 3)).take 3)[0]? = some (.int .i64 (takesOf c)) := by rw [hv]; rfl
  have g1 : ((cs.drop (c * 3)).take 3)[1]? = some (.int .i64 (pushesOf c)) := by rw [hv]; rfl
  have g2 : ((cs.drop (c * 3)).take 3)[2]? = some (.int .i64 (argTop c)) := by rw [hv]; rfl
  rw [List.getElem?_take_of_lt (by omega), List.getElem?_drop] at g0 g1 g2
  exact ⟨g0, g1, g2⟩

theorem forms_of_var {W : World} {cs : Array Value} (hvar : W.var? Tryd.prog "loop.example/graphcode/impl.forms" = some cs) (h : ∀ c : Nat, c < 20 → cs.toList[c * 3]? = some (.int .i64 (takesOf c)) ∧ cs.toList[c * 3 + 1]? = some (.int .i64 (pushesOf c)) ∧ cs.toList[c * 3 + 2]? = some (.int .i64 (argTop c))) :
    FormsAt W W.heap.size := by
  have hc : ∀ i, W.cell? ⟨0, i, none⟩ = cs[i]? := World.var?_cell gForms hvar
  have h0 := (h 0 (by omega)).1
  refine ⟨World.block_lt_of_cell? (u := .int .i64 (takesOf 0)) W ⟨0, 0, none⟩ ?_, fun c hcl => ?_, fun c hcl => ?_, fun c hcl => ?_⟩
  · rw [hc, ← Array.getElem?_toList]; exact h0
  · rw [hc, ← Array.getElem?_toList]; exact (h c hcl).1
  · rw [hc, ← Array.getElem?_toList]; exact (h c hcl).2.1
  · rw [hc, ← Array.getElem?_toList]; exact (h c hcl).2.2

theorem forms_of_laid {W : World} (h : laidMetH Tryd.prog [("loop.example/graphcode/impl.forms", Rows.laid_loop_example_graphcode_impl_forms)] W) : FormsAt W W.heap.size := by
  rw [MakeChecks.laidMetH_plain _ _ _ (by kernel_rfl)] at h
  obtain ⟨ps, ⟨g0, t0, cs0, f0, p0, q0, hg0, ht0, hv0, hd0, _⟩, _⟩ := h
  obtain rfl := Option.some.inj (gForms.symm.trans hg0)
  obtain rfl := Option.some.inj (tForms.symm.trans ht0)
  exact forms_of_var hv0 (formCells hd0 formsD_laid)

end Go.Proofs.YtgjokdfjngpmcaaDoor

namespace Go.Proofs.YtgjokdfjngpmcaaDoor
open Go.ChangeShapes Go.WideShapes Go.ChangeAt Go.WideElems Go.RowKit
set_option linter.unusedVariables false

theorem tables_of_laid {W : World} (h : laidMetH Tryd.prog [("loop.example/graphcode/impl.forms", Rows.laid_loop_example_graphcode_impl_forms), ("loop.example/graphcode/impl.needs", Rows.laid_loop_example_graphcode_impl_needs)] W) : FormsAt W W.heap.size ∧ NeedsAt W W.heap.size := by
  rw [MakeChecks.laidMetH_plain _ _ _ (by kernel_rfl)] at h
  obtain ⟨ps, ⟨g0, t0, cs0, f0, p0, q0, hg0, ht0, hv0, hd0, ⟨g1, t1, cs1, f1, p1, q1, hg1, ht1, hv1, hd1, _⟩, _⟩, _⟩ := h
  obtain rfl := Option.some.inj (gForms.symm.trans hg0)
  obtain rfl := Option.some.inj (tForms.symm.trans ht0)
  obtain rfl := Option.some.inj (gNeeds.symm.trans hg1)
  obtain rfl := Option.some.inj (tNeeds.symm.trans ht1)
  exact ⟨forms_of_var hv0 (formCells hd0 formsD_laid), needs_of_var hv1 (needCells hd1 needsD_laid)⟩

end Go.Proofs.YtgjokdfjngpmcaaDoor

namespace Go.Proofs.YtgjokdfjngpmcaaDoor
open Go.RowKit

theorem eqView_d (d : Nat) (m0 m1 m2 n0 n1 n2 : Int) (w : World) : (Op.equalIn (d + 1 + 1) 68 (.agg #[.int .i64 m0, .int .i64 m1, .int .i64 m2]) (.agg #[.int .i64 n0, .int .i64 n1, .int .i64 n2])).run Tryd.prog w = .ok ((m0 == n0) && ((m1 == n1) && (m2 == n2))) w := by
  obtain ⟨i0, hi, hz0, hz1, hz2⟩ := info_parts infoI
  have hI := fun a b => run_equalIn_int (P := Tryd.prog) w d 3 .i64 .i64 a b Tryd.underlying3
  rw [Op.equalIn]
  simp only [Sem.run_bind, run_underlying Tryd.underlying68, Result.andThen_ok]
  have hsz : (sizeOf 3).run Tryd.prog w = .ok 1 w := by simp [sizeOf, typeInfo, hi, hz1]
  have hpl : Tryd.prog.plainKey 3 = true := by kernel_rfl
  rw [hsz]
  simp only [Result.andThen_ok, Nat.mul_one]
  have p0 := run_part_plain (P := Tryd.prog) w hpl (xs := #[.int .i64 m0, .int .i64 m1, .int .i64 m2]) (off := 0) (v := .int .i64 m0) rfl
  have p1 := run_part_plain (P := Tryd.prog) w hpl (xs := #[.int .i64 m0, .int .i64 m1, .int .i64 m2]) (off := 1) (v := .int .i64 m1) rfl
  have p2 := run_part_plain (P := Tryd.prog) w hpl (xs := #[.int .i64 m0, .int .i64 m1, .int .i64 m2]) (off := 2) (v := .int .i64 m2) rfl
  have q0 := run_part_plain (P := Tryd.prog) w hpl (xs := #[.int .i64 n0, .int .i64 n1, .int .i64 n2]) (off := 0) (v := .int .i64 n0) rfl
  have q1 := run_part_plain (P := Tryd.prog) w hpl (xs := #[.int .i64 n0, .int .i64 n1, .int .i64 n2]) (off := 1) (v := .int .i64 n1) rfl
  have q2 := run_part_plain (P := Tryd.prog) w hpl (xs := #[.int .i64 n0, .int .i64 n1, .int .i64 n2]) (off := 2) (v := .int .i64 n2) rfl
  have hr : List.range' 0 3 1 = [0, 1, 2] := rfl
  cases h0 : (m0 == n0) <;> cases h1 : (m1 == n1) <;> cases h2 : (m2 == n2) <;>
    simp [Std.Legacy.Range.forIn_eq_forIn_range', Std.Legacy.Range.size, hr, p0, p1, p2, q0, q1, q2, hI, h0, h1, h2, Result.andThen_ok]

theorem eqView (m0 m1 m2 n0 n1 n2 : Int) (w : World) : (Op.equalIn 10000 68 (.agg #[.int .i64 m0, .int .i64 m1, .int .i64 m2]) (.agg #[.int .i64 n0, .int .i64 n1, .int .i64 n2])).run Tryd.prog w = .ok ((m0 == n0) && ((m1 == n1) && (m2 == n2))) w :=
  eqView_d 9998 m0 m1 m2 n0 n1 n2 w

end Go.Proofs.YtgjokdfjngpmcaaDoor

namespace Go.Proofs.YtgjokdfjngpmcaaDoor
open Go.RowKit

theorem OpsAt.begin {w : World} {B : Nat} {A : Option Addr} {os : List Od} (h : OpsAt w B A os) (n : Nat) : OpsAt w B A (os.take n) := by
  refine ⟨fun hx => ?_, fun x hx => h.wf x (List.mem_of_mem_take hx), Nat.le_trans (by simp; omega) h.len⟩
  obtain ⟨b, off, e, hlt, hc⟩ := h.row (by intro e; subst e; simp at hx)
  refine ⟨b, off, e, hlt, fun j x hj => hc j x ?_⟩
  rw [List.getElem?_take] at hj
  split at hj
  · exact hj
  · cases hj

theorem OpsAt.behind {w : World} {B b off : Nat} {os : List Od} (h : OpsAt w B (some ⟨b, off, none⟩) os) (k : Nat) : OpsAt w B (some ⟨b, off + k * 2, none⟩) (os.drop k) := by
  refine ⟨fun hx => ?_, fun x hx => h.wf x (List.mem_of_mem_drop hx), Nat.le_trans (by simp) h.len⟩
  obtain ⟨b', off', e, hlt, hc⟩ := h.row (by intro e; subst e; simp at hx)
  injection e with e
  injection e with e1 e2
  subst e1 e2
  refine ⟨b, off + k * 2, rfl, hlt, fun j x hj => ?_⟩
  rw [List.getElem?_drop] at hj
  have := hc (k + j) x hj
  have e : off + (k + j) * 2 = off + k * 2 + j * 2 := by omega
  rwa [e] at this

end Go.Proofs.YtgjokdfjngpmcaaDoor

namespace Go.Proofs.YtgjokdfjngpmcaaDoor
open Go.RowKit

theorem od_ne {m n : Od} (h : m.code ≠ n.code ∨ m.arg ≠ n.arg) : decide (m = n) = false := by
  simp only [decide_eq_false_iff_not]
  rintro rfl
  simp at h

theorem od_eq {m n : Od} (h1 : m.code = n.code) (h2 : m.arg = n.arg) : decide (m = n) = true := by
  cases m; cases n
  simp_all

set_option maxHeartbeats 1000000 in
theorem eqOp_any (m n : Od) (w : World) :
    Calls Tryd.prog 16 #[.agg #[.int .i64 m.code, .int .i64 m.arg], .agg #[.int .i64 n.code, .int .i64 n.arg]] w fun e w' =>
      e = .returned (.bool (decide (m = n))) ∧ Below w.heap.size w w' := by
  have hB : Below w.heap.size w ((w.alloc (.cells #[.int .i64 m.code, .int .i64 m.arg] 38)).alloc (.cells #[.int .i64 n.code, .int .i64 n.arg] 38)) :=
    ((Below.refl _ _).alloc (Nat.le_refl _) _).alloc (by simp) _
  by_cases h1 : m.code = n.code
  · have t1 : (m.code != n.code) = false := by simpa using h1
    by_cases h2 : m.arg = n.arg
    · have t2 : (m.arg != n.arg) = false := by simpa using h2
      have HF := hide (od_eq h1 h2)
      clear h1 h2
      go_enter Tryd.func16, Tryd.ntmps16
      go_wp2
      go_ret
      exact ⟨ret_bool HF.out.symm, hB⟩
    · have t2 : (m.arg != n.arg) = true := by simpa using h2
      have HF := hide (od_ne (.inr h2))
      clear h1 h2
      go_enter Tryd.func16, Tryd.ntmps16
      go_wp2
      go_ret
      exact ⟨ret_bool HF.out.symm, hB⟩
  · have t1 : (m.code != n.code) = true := by simpa using h1
    have HF := hide (od_ne (.inl h1))
    clear h1
    go_enter Tryd.func16, Tryd.ntmps16
    go_wp2
    go_ret
    exact ⟨ret_bool HF.out.symm, hB⟩

set_option maxRecDepth 100000 in
set_option maxHeartbeats 1000000 in
theorem eqOpS_any (A A' : Option Addr) (ms ns : List Od) (c c' : Nat) (w : World) (h : OpsAt w w.heap.size A ms) (h' : OpsAt w w.heap.size A' ns) :
    Calls Tryd.prog 8 #[.slice A ms.length c, .slice A' ns.length c'] w fun e w' => e = .returned (.bool (decide (ms = ns))) ∧ Below w.heap.size w w' := by
  have hl := h.len
  by_cases hne : ms.length = ns.length
  · have hb0 : ((ms.length : Int) != (ns.length : Int)) = false := by simp [hne]
    go_enter Tryd.func8, Tryd.ntmps8
    go_wp2_with fail
    go_loopw [5] (fun i wr => ∃ k : Nat, k ≤ ms.length ∧ i = .int .i64 k ∧ Below w.heap.size w wr ∧ ∀ j, j < k → ms[j]? = ns[j]?) (fun i _ => ms.length - (intOf i).toNat)
    case atStart => exact ⟨0, Nat.zero_le _, rfl, Below.refl _ _, fun j hj => absurd hj (by omega)⟩
    case round =>
      obtain ⟨k, hk, rfl, hb, he0⟩ := hrel
      have he := hide he0
      clear he0
      by_cases hlt : k < ms.length
      · obtain ⟨b, off, m, rfl, hbl, hx, _, hm0, hm1⟩ := (h.below hb).at_ hlt
        obtain ⟨b', off', n, rfl, hbl', hy, _, hn0, hn1⟩ := (h'.below hb).at_ (k := k) (by omega)
        have Hx := hide hx
        have Hy := hide hy
        clear hx hy
        have hk1 : (0 : Int) ≤ (k : Int) := by omega
        have hk2 : (k : Int) < (ms.length : Int) := by omega
        have hk3 : (k : Int) < (ns.length : Int) := by omega
        have Hne := hide hne
        clear hne
        have hb2 : Below w.heap.size w wr.drew := hb.drew
        go_wp2_with fail
        go_still_tail 8, (by kernel_rfl)
        change wpList _ _ _ _ _ wr.drew
        generalize wr.drew = w2 at hb2 ⊢
        go_wp2_with fail
        refine (eqOp_any m n w2).mono ?_
        rintro e w' ⟨rfl, hb3⟩
        have hb4 := hb2.trans (hb3.mono hb2.size)
        clear hb2 hb3
        by_cases hmn : m = n
        · subst hmn
          have t : decide (m = m) = true := by simp
          rw [t]
          clear t
          go_wp2
          go_roundw
          case rel => exact ⟨k + 1, by omega, by go_num, hb4, fun j hj => by
            by_cases e : j = k
            · subst e; rw [Hx.out, Hy.out]
            · exact he.out j (by omega)⟩
          case measure => simp [intOf]; omega
        · have t : decide (m = n) = false := by simpa using hmn
          rw [t]
          clear t
          have hF : decide (ms = ns) = false := by
            simp only [decide_eq_false_iff_not]
            intro e
            subst e
            have := Hx.out.symm.trans Hy.out
            injection this with this
            exact hmn this
          have HF := hide hF
          clear hF hmn
          go_wp2
          go_ret
          exact ⟨ret_bool HF.out.symm, hb4⟩
      · obtain rfl : k = ms.length := by omega
        have hF : decide (ms = ns) = true := by
          simp only [decide_eq_true_eq]
          exact eq_of_prefix hne rfl he.out
        have HF := hide hF
        clear hF hlt
        go_wp2
        go_ret
        exact ⟨ret_bool HF.out.symm, hb⟩
  · have hb1 : ((ms.length : Int) != (ns.length : Int)) = true := by simp; omega
    have hF : decide (ms = ns) = false := by
      simp only [decide_eq_false_iff_not]
      intro e
      exact hne (by rw [e])
    have HF := hide hF
    clear hF
    go_enter Tryd.func8, Tryd.ntmps8
    go_wp2
    go_ret
    exact ⟨ret_bool HF.out.symm, Below.refl _ _⟩

end Go.Proofs.YtgjokdfjngpmcaaDoor

namespace Go.Proofs.YtgjokdfjngpmcaaDoor
open Go.RowKit
set_option linter.unusedVariables false

/-- orders that are marked from k on -/
def marksO (k : Int) (n : Nat) : List Od := (List.range n).map fun (i : Nat) => ⟨k + 2 * (i : Int), k + 2 * (i : Int) + 1⟩

theorem marksO_len (k : Int) (n : Nat) : (marksO k n).length = n := by simp [marksO]
theorem marksO_at {k : Int} {n j : Nat} (h : j < n) : (marksO k n)[j]? = some ⟨k + 2 * (j : Int), k + 2 * (j : Int) + 1⟩ := by
  simp [marksO, h]
theorem marksO_64 {k : Int} {n : Nat} (h0 : 0 ≤ k) (h1 : k ≤ 1048576) (hn : n ≤ 1048576) : ∀ o ∈ marksO k n, In64 o.code ∧ In64 o.arg := by
  intro o ho
  obtain ⟨j, hj, rfl⟩ := List.mem_map.1 ho
  have := List.mem_range.1 hj
  refine ⟨⟨?_, ?_⟩, ⟨?_, ?_⟩⟩ <;> simp <;> omega

theorem marksO_vals {k : Int} {n i : Nat} (h : i < n * 2) : (opVals (marksO k n))[i]? = some (.int .i64 (k + (i : Int))) := by
  obtain ⟨j, hj⟩ : ∃ j, i = j * 2 ∨ i = j * 2 + 1 := ⟨i / 2, by omega⟩
  rcases hj with rfl | rfl
  · rw [opVals_code (marksO_at (by omega))]
    congr 2
    show k + 2 * (j : Int) = k + ((j * 2 : Nat) : Int)
    omega
  · rw [opVals_arg (marksO_at (by omega))]
    congr 2
    show k + 2 * (j : Int) + 1 = k + ((j * 2 + 1 : Nat) : Int)
    omega

set_option maxHeartbeats 400000 in
theorem markOpS_nil (c : Nat) (k0 : Int) (w : World) :
    Calls Tryd.prog 9 #[.slice none 0 c, .int .i64 k0] w fun e w' => e = .returned (.int .i64 k0) ∧ w = w' := by
  go_enter Tryd.func9, Tryd.ntmps9
  go_wp2_with fail
  refine wp_loop_rounds 1 ?_
  rw [rounds_succ]
  go_wp2
  go_ret
  exact ⟨rfl, rfl⟩

theorem markOpS_own (base : Nat) (A : Option Addr) (c : Nat) (os : List Od) (k0 : Int) (w : World) (h : OwnO w base A c os) (hk0 : 0 ≤ k0) (hk1 : k0 ≤ 1048576) (hn : os.length ≤ 1048576) :
    Calls Tryd.prog 9 #[.slice A os.length c, .int .i64 k0] w fun e w' => e = .returned (.int .i64 (k0 + 2 * (os.length : Int))) ∧ OwnO w' base A c (marksO k0 os.length) ∧
      (∀ lo hi, (∀ g, blockOf A = some g → lo ≤ g ∧ g < hi) → Only lo hi w w') := by
  rcases h.form with ⟨rfl, rfl, rfl⟩ | ⟨g, rfl, hb, hg⟩
  · refine (markOpS_nil 0 k0 w).mono fun e w' ⟨he, hw⟩ => ?_
    subst hw
    exact ⟨by rw [he]; simp, OwnO.empty _ _, fun lo hi _ => Only.refl _ _ _⟩
  · obtain ⟨cap, f, hrow, hle, hm, rfl, hbg⟩ := h.row
    refine (markOpS_row g 38 c c f k0 w hrow os.length hle hk0 hk1 hn).mono fun e w' ⟨he, hr, ho⟩ => ?_
    refine ⟨he, OwnO.of_row hr (by rw [marksO_len]; exact hle) hm hbg (fun i hi => ?_), fun lo hi hgb => ?_⟩
    · rw [marksO_len] at hi
      rw [marksO_vals hi, if_pos (by omega)]
    · have := hgb g rfl
      exact ho.mono this.1 (by omega)

set_option maxHeartbeats 1000000 in
theorem heldOpS_any (A : Option Addr) (n c : Nat) (k0 : Int) (w : World) (h : OpsAt w w.heap.size A (marksO k0 n)) (hk0 : 0 ≤ k0) (hk1 : k0 ≤ 1048576) (hn : n ≤ 1048576) :
    Calls Tryd.prog 10 #[.slice A n c, .int .i64 k0] w fun e w' => e = .returned (.int .i64 (k0 + 2 * (n : Int))) ∧ w = w' := by
  go_enter Tryd.func10, Tryd.ntmps10
  go_wp2_with fail
  go_loop [1, 5] (fun kv iv => ∃ j : Nat, j ≤ n ∧ iv = .int .i64 j ∧ kv = .int .i64 (k0 + 2 * (j : Int))) (fun _ iv => n - (intOf iv).toNat)
  case atStart => exact ⟨0, Nat.zero_le _, rfl, by go_num⟩
  case round =>
    obtain ⟨j, hj, rfl, rfl⟩ := hrel
    by_cases hlt : j < n
    · obtain ⟨b, off, x, rfl, hbl, hx, _, hc, hc1⟩ := h.at_ (k := j) (by rw [marksO_len]; exact hlt)
      rw [marksO_at hlt] at hx
      obtain rfl := Option.some.inj hx
      simp only at hc hc1
      have t : ((k0 + 2 * (j : Int)) != (k0 + 2 * (j : Int))) = false := by simp
      have t1 : ((k0 + 2 * (j : Int) + 1) != (k0 + 2 * (j : Int) + 1)) = false := by simp
      have hk2 : k0 + 2 * (j : Int) ≤ 9223372036854775800 := by omega
      have hk3 : 0 ≤ k0 + 2 * (j : Int) := by omega
      clear hx
      go_wp2
      go_round
      case rel => exact ⟨j + 1, by omega, by go_num, by go_num⟩
      case measure => simp [intOf]; omega
    · obtain rfl : j = n := by omega
      clear hlt
      go_wp2
      go_ret
      exact ⟨rfl, rfl⟩

end Go.Proofs.YtgjokdfjngpmcaaDoor
