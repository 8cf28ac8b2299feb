/-
  Lemmas, several texts in one: FormsL, ImplO.
-/
import Derived.Test.YtanicidkmfoooabDoorPjAd
import Derived.Test.YtanicidkmfoooabDoorRows
import Derived.ProofKit
import Derived.LaidMore
import Derived.OpenShut
import Derived.ChangeVars
import Derived.Stop.Joined
import Derived.Test.YtanicidkmfoooabDoorPjAb
import Derived.Test.YtanicidkmfoooabDoorPjAe
import Derived.Deep.QuietTactic
import Derived.BigQuiet
namespace Go.Proofs.YtanicidkmfoooabDoor
open Go.ChangeShapes Go.WideShapes Go.ChangeAt Go.WideElems Go.RowKit
set_option linter.unusedVariables false

theorem gForms : Tryd.prog.globalNamed "loop.example/graphcode/impl.forms" = some 0 := by kernel_rfl
theorem tForms : (Tryd.prog.globals[0]?).map (·.type) = some 62 := by kernel_rfl
theorem cForm : Tryd.prog.cellsOf 61 = 3 := by kernel_rfl
theorem cForms : Tryd.prog.cellsOf 62 = 60 := by kernel_rfl
theorem cFormI : Tryd.prog.cellsOf 3 = 1 := by kernel_rfl

/-- what the table reads as -/
def formsD {H : Type} : DataW H := .agg ((List.range 20).map fun (c : Nat) => .agg [.lit (.int .i64 (takesOf c)), .lit (.int .i64 (pushesOf c)), .lit (.int .i64 (argTop c))])

theorem formsD_laid {H : Type} : (Rows.laid_loop_example_graphcode_impl_forms : DataW H) = formsD := rfl

theorem list3f {α : Type} (l : List α) (h : l.length = 3) : ∃ a b c, l = [a, b, c] := by
  match l, h with
  | [a, b, c], _ => exact ⟨a, b, c, rfl⟩

theorem formCells {H : Type} {enc : TypeId × Value → H} {W : World} {base : Nat} {spare : Nat → Bool} {held : Bool} {fuel : Nat} {cs : List Value} {y : DataW H × List MemPlace} (h : DataW.trod enc Tryd.prog W base spare held fuel 62 cs = some y) (hy : y.1 = formsD) :
    ∀ c : Nat, c < 20 → cs[c * 3]? = some (.int .i64 (takesOf c)) ∧ cs[c * 3 + 1]? = some (.int .i64 (pushesOf c)) ∧ cs[c * 3 + 2]? = some (.int .i64 (argTop c)) := by
  intro c hc
  obtain ⟨xs, m1, rfl, rfl, hlen, hn, hel⟩ := DataW.trod_array Tryd.underlying62 h
  rw [cForms] at hlen
  have h1 := hel c hc
  rw [cForm] at h1
  have hxs : ∃ x, xs[c]? = some x := ⟨_, List.getElem?_eq_getElem (by omega)⟩
  obtain ⟨x, hx⟩ := hxs
  rw [hx] at h1
  have hd : x.1 = .agg [.lit (.int .i64 (takesOf c)), .lit (.int .i64 (pushesOf c)), .lit (.int .i64 (argTop c))] := by
    simp only [formsD, DataW.agg.injEq] at hy
    have := congrArg (fun l => l[c]?) hy
    simp [hx, hc] at this
    exact this
  obtain ⟨ys, m2, _, rfl, hcl, hyl, hf⟩ := DataW.trod_struct Tryd.underlying61 h1
  obtain ⟨v0, v1, v2, hv⟩ := list3f _ (hcl.trans cForm)
  rw [hv] at hf
  have h0 : DataW.trod enc Tryd.prog W base spare held m2 3 (([v0, v1, v2].drop 0).take (Tryd.prog.cellsOf 3)) = ys[0]? := hf 0 _ rfl
  have h2 : DataW.trod enc Tryd.prog W base spare held m2 3 (([v0, v1, v2].drop 1).take (Tryd.prog.cellsOf 3)) = ys[1]? := hf 1 _ rfl
  have h3 : DataW.trod enc Tryd.prog W base spare held m2 3 (([v0, v1, v2].drop 2).take (Tryd.prog.cellsOf 3)) = ys[2]? := hf 2 _ rfl
  rw [cFormI] at h0 h2 h3
  simp only [List.drop_zero, List.drop_succ_cons, List.take_succ_cons, List.take_zero] at h0 h2 h3
  obtain ⟨z0, z1, z2, rfl⟩ := list3f ys hyl
  obtain ⟨a, ha, ha2, _⟩ := DataW.trod_int Tryd.underlying3 (show DataW.trod enc Tryd.prog W base spare held m2 3 [v0] = some z0 from h0)
  obtain ⟨b, hb, hb2, _⟩ := DataW.trod_int Tryd.underlying3 (show DataW.trod enc Tryd.prog W base spare held m2 3 [v1] = some z1 from h2)
  obtain ⟨d, hd3, hd2, _⟩ := DataW.trod_int Tryd.underlying3 (show DataW.trod enc Tryd.prog W base spare held m2 3 [v2] = some z2 from h3)
  simp at ha hb hd3
  subst ha
  subst hb
  subst hd3
  simp [ha2, hb2, hd2] at hd
  obtain ⟨rfl, rfl, rfl⟩ := hd
  have g0 : ((cs.drop (c * 3)).take 3)[0]? = some (.int .i64 (takesOf c)) := by rw [hv]; rfl
  have g1 : ((cs.drop (c * 3)).take 3)[1]? = some (.int .i64 (pushesOf c)) := by rw [hv]; rfl
  have g2 : ((cs.drop (c * 3)).take 3)[2]? = some (.int .i64 (argTop c)) := by rw [hv]; rfl
  rw [List.getElem?_take_of_lt (by omega), List.getElem?_drop] at g0 g1 g2
  exact ⟨g0, g1, g2⟩

theorem forms_of_var {W : World} {cs : Array Value} (hvar : W.var? Tryd.prog "loop.example/graphcode/impl.forms" = some cs) (h : ∀ c : Nat, c < 20 → cs.toList[c * 3]? = some (.int .i64 (takesOf c)) ∧ cs.toList[c * 3 + 1]? = some (.int .i64 (pushesOf c)) ∧ cs.toList[c * 3 + 2]? = some (.int .i64 (argTop c))) :
    FormsAt W W.heap.size := by
  have hc : ∀ i, W.cell? ⟨0, i, none⟩ = cs[i]? := World.var?_cell gForms hvar
  have h0 := (h 0 (by omega)).1
  refine ⟨World.block_lt_of_cell? (u := .int .i64 (takesOf 0)) W ⟨0, 0, none⟩ ?_, fun c hcl => ?_, fun c hcl => ?_, fun c hcl => ?_⟩
  · rw [hc, ← Array.getElem?_toList]; exact h0
  · rw [hc, ← Array.getElem?_toList]; exact (h c hcl).1
  · rw [hc, ← Array.getElem?_toList]; exact (h c hcl).2.1
  · rw [hc, ← Array.getElem?_toList]; exact (h c hcl).2.2

theorem forms_of_laid {W : World} (h : laidMetH Tryd.prog [("loop.example/graphcode/impl.forms", Rows.laid_loop_example_graphcode_impl_forms)] W) : FormsAt W W.heap.size := by
  rw [MakeChecks.laidMetH_plain _ _ _ (by kernel_rfl)] at h
  obtain ⟨ps, ⟨g0, t0, cs0, f0, p0, q0, hg0, ht0, hv0, hd0, _⟩, _⟩ := h
  obtain rfl := Option.some.inj (gForms.symm.trans hg0)
  obtain rfl := Option.some.inj (tForms.symm.trans ht0)
  exact forms_of_var hv0 (formCells hd0 formsD_laid)

end Go.Proofs.YtanicidkmfoooabDoor

namespace Go.Proofs.YtanicidkmfoooabDoor
open Go.RowKit
set_option linter.unusedVariables false

set_option maxRecDepth 100000 in
set_option maxHeartbeats 1000000 in
theorem implValidOps_any (A : Option Addr) (os : List Od) (c : Nat) (w : World) (h : OpsAt w w.heap.size A os) (hF : FormsAt w w.heap.size) :
    Calls Tryd.prog 29 #[.slice A os.length c] w fun e w' => e = .returned (.bool (tf (OpsOk os))) ∧ Below w.heap.size w w' := by
  have hl := h.len
  by_cases h3 : os.length ≤ 300
  · have t3 : decide ((300 : Int) < (os.length : Int)) = false := by simp; omega
    go_enter Tryd.func29, Tryd.ntmps29
    go_wp2_with fail
    go_loopw [10] (fun i wr => ∃ k : Nat, k ≤ os.length ∧ i = .int .i64 k ∧ Below w.heap.size w wr ∧ ∀ j x, j < k → os[j]? = some x → OdOk x) (fun i _ => os.length - (intOf i).toNat)
    case atStart => exact ⟨0, Nat.zero_le _, rfl, Below.refl _ _, fun j _ hj => absurd hj (by omega)⟩
    case round =>
      obtain ⟨k, hk, rfl, hb, he0⟩ := hrel
      have he := hide he0
      clear he0
      by_cases hlt : k < os.length
      · obtain ⟨b, off, x, rfl, hbl, hx, hmem, hc0, hc1⟩ := (h.below hb).at_ hlt
        have Hx := hide hx
        clear hx
        have hFr := hF.below hb
        have hb2 : Below w.heap.size w (wr.alloc (.cells #[.int .i64 x.code, .int .i64 x.arg] 39)) := hb.alloc hb.size _
        have lx := Lies.new wr #[.int .i64 x.code, .int .i64 x.arg] 39
        have hF2 := hF.below hb2
        clear hFr
        go_wp2_with fail
        generalize wr.alloc (.cells #[.int .i64 x.code, .int .i64 x.arg] 39) = w2 at hb2 lx hF2 ⊢
        have x0 := lx.cell 0
        have x1 := lx.cell 1
        simp at x0 x1
        by_cases hc : 0 ≤ x.code ∧ x.code ≤ 19
        · have u1 := upB_yes hc
          obtain ⟨m, hm⟩ := Int.eq_ofNat_of_zero_le hc.1
          have hm19 : m < 20 := by omega
          have harg := hF2.arg m hm19
          have hi1 : (0 : Int) ≤ x.code := hc.1
          have hi2 : x.code < 20 := by omega
          have hmn : x.code.toNat = m := by omega
          rw [← hm, ← hmn] at harg
          by_cases ha : 0 ≤ x.arg ∧ x.arg ≤ argTop x.code
          · have u2 := upB_yes ha
            have He : Hid (∀ j y, j < k + 1 → os[j]? = some y → OdOk y) := by
              intro j y hj hy
              by_cases e : j = k
              · subst e
                obtain rfl := Option.some.inj (Hx.out.symm.trans hy)
                exact (OdOk.iff _).2 ⟨hc, ha⟩
              · exact he.out j y (by omega) hy
            generalize argTop x.code = T at harg u2
            clear he hmem hm hmn ha hc hF2 lx
            go_quiet ((go_at_call 39; exact Calls.quiet_of_same (isUpTo_q _ _ _)))
            go_wp2
            go_roundw
            case rel => exact ⟨k + 1, by omega, by go_num, below_drewN hb2 _, He.out⟩
            case measure => simp [intOf]; omega
          · have u2 := upB_no ha
            have HF := hide (show tf (OpsOk os) = false from tf_false fun hall => ha ((OdOk.iff _).1 (hall.2 x hmem)).2)
            generalize argTop x.code = T at harg u2
            clear he hmem hm hmn ha hc hF2 lx
            go_quiet ((go_at_call 39; exact Calls.quiet_of_same (isUpTo_q _ _ _)))
            go_wp2
            go_ret
            exact ⟨ret_bool HF.out.symm, below_drewN hb2 _⟩
        · have u1 := upB_no hc
          have HF := hide (show tf (OpsOk os) = false from tf_false fun hall => hc (hall.2 x hmem).1)
          clear he hmem hc hF2 lx
          go_quiet ((go_at_call 39; exact Calls.quiet_of_same (isUpTo_q _ _ _)))
          go_wp2
          go_ret
          exact ⟨ret_bool HF.out.symm, below_drewN hb2 _⟩
      · obtain rfl : k = os.length := by omega
        have HF := hide (show tf (OpsOk os) = true from tf_true ⟨h3, fun x hx => by
          obtain ⟨j, hj, rfl⟩ := List.getElem_of_mem hx
          exact he.out j _ hj (List.getElem?_eq_getElem hj)⟩)
        clear hlt
        go_wp2
        go_ret
        exact ⟨ret_bool HF.out.symm, hb⟩
  · have t3 : decide ((300 : Int) < (os.length : Int)) = true := by simp; omega
    have HF := hide (show tf (OpsOk os) = false from tf_false fun hh => h3 hh.1)
    clear h3
    go_enter Tryd.func29, Tryd.ntmps29
    go_wp2
    go_ret
    exact ⟨ret_bool HF.out.symm, Below.refl _ _⟩

end Go.Proofs.YtanicidkmfoooabDoor
