/-
  FnExactValidRules: for all rules, whatever memory holds it, the call returns true and the argument reads afterwards as it read before. No conditions.
-/
import Derived.Test.YtaolnnjcpnhghabRows
import Derived.Test.YtaolnnjcpnhghabReadI
import Derived.ProofKit
import Derived.OpenShut
import Derived.ShutString
import Derived.ChangeOld
import Derived.Deep.Slices
import Derived.Deep.Fields
import Derived.Lib.SmallJoins
import Derived.Test.YtaolnnjcpnhghabExVR
namespace Go.Proofs.Ytaolnnjcpnhghab.exVR
open Go.Proofs.Ytaolnnjcpnhghab
open Go.ChangeShapes Go.WideShapes Go.ChangeAt Go.RowKit
set_option linter.unusedVariables false
theorem readCellsRu : Try.prog.cellsOf 24 = 4 := by kernel_rfl
set_option maxRecDepth 100000 in
theorem lifted (os : Os) (started : os.Started) (H : Type) (enc : TypeId × Value → H) :
    ReturnsInHanded {} Try.checked os 3 .any (Rows.fnExactValidRulesSpec.pre6 enc Try.prog Try.f3 Rows.fnExactValidRulesRow.domain false) (Rows.fnExactValidRulesSpec.post enc Try.prog Try.f3 false true false false) := by
  refine returnsInHanded_of_change (C := Try.checked) readOwn started (by kernel_rfl) Try.func3
    (ChangeSpec.witness6 (enc := enc) (C := Try.checked) false ⟨#[], #[.agg #[.int .i64 0, .int .i64 0, .int .i64 0, .slice none 0 0]], []⟩ 8 (by kernel_rfl) (by kernel_rfl) (by kernel_rfl) (by kernel_rfl)) ?_
  intro W base args ds gs before hval0 hW hcnd _
  have hval : ∀ (j : Nat) t v, Try.f3.params[j]? = some t → args[j]? = some v → Value.okWide Try.prog W .any base t v := hval0
  have hW' := hW
  obtain ⟨p, q, hA0, hV, rfl, hfz, hnd⟩ := hW
  have hA : DataW.TrodAll enc Try.prog W 0 (fun _ => true) true Try.f3.params.toList args.toList ds p := hA0
  rw [Try.params3] at hA hval
  obtain ⟨v0, vs0, d0, ds0, p0, q0, hargs, rfl, rfl, h0, r0⟩ := trodAll_cons hA
  obtain ⟨rfl, rfl, rfl⟩ := trodAll_nil r0
  obtain rfl : args = #[v0] := by cases args; simp_all
  obtain ⟨rfl, rfl⟩ := trodVars_none hV
  have k0 := h0
  have lt0 : ∀ x ∈ p0, x.block < W.heap.size := by obtain ⟨m, hm⟩ := k0; exact DataW.trod_lt m _ _ _ hm
  obtain ⟨s0, s1, s2, s3, y0, y1, y2, y3, m, rfl, hd0, _, g0, g1, g2, g3⟩ := Go.Joins.open_agg4 Try.underlying24 (by kernel_rfl) readCellsRu (hval 0 24 v0 rfl rfl) h0
  obtain ⟨r0, e0, _, hw0⟩ := DataW.trod_int Try.underlying3 g0
  obtain ⟨r1, e1, _, hw1⟩ := DataW.trod_int Try.underlying3 g1
  obtain ⟨r2, e2, _, hw2⟩ := DataW.trod_int Try.underlying3 g2
  obtain ⟨A, xs, c, rfl, hr, _⟩ := read_ints g3
  obtain rfl : s0 = .int .i64 r0 := by simpa using e0
  obtain rfl : s1 = .int .i64 r1 := by simpa using e1
  obtain rfl : s2 = .int .i64 r2 := by simpa using e2
  clear hA0 hval0
  refine (exVR_any A ⟨r0, r1, r2, xs⟩ c W ⟨hr, bounds_i64 hw0, bounds_i64 hw1, bounds_i64 hw2⟩).mono fun e W' ⟨he, bel⟩ => ?_
  subst he
  exact ⟨_, rfl, _, _, _, [], _, [], hW', trodAll_mk1 (shut_bool Try.underlying4 _), (trodAll_cons_mk (Below.trod readLaid (by kernel_rfl) (of_decide_eq_true (by kernel_rfl)) k0 bel lt0) trodAll_mk0), rfl, bel.frame _, fun h => by cases h⟩
theorem over : Rows.fnExactValidRulesRow.holds Try.pinned (OpenSpec.ofChange Rows.fnExactValidRulesSpec) :=
  OpenClaim.holds_of_wide 3 Try.f3 rfl rfl rfl rfl rfl rfl rfl ⟨rfl, rfl, rfl, rfl, rfl⟩ rfl rfl rfl rfl rfl (by kernel_rfl) Try.func3 (by kernel_rfl)
    (of_decide_eq_true (by kernel_rfl)) (by unfold Func.isWrapper; first | (rw [if_pos (by decide +kernel)]; kernel_rfl) | (rw [if_neg (by decide +kernel)]; exact ⟨rfl, rfl⟩))
    (fun os started H enc _ => lifted os started H enc)
theorem proved : Rows.FnExactValidRulesSaid := over
#print axioms proved
end Go.Proofs.Ytaolnnjcpnhghab.exVR
