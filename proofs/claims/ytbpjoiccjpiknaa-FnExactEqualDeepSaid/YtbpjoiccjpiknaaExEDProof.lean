/-
  FnExactEqualDeep: for every two graphs, whatever memory holds them, the call returns true and the arguments read afterwards as they read before. No conditions.
-/
import Derived.Test.YtbpjoiccjpiknaaRows
import Derived.Test.YtbpjoiccjpiknaaPjAc
import Derived.Test.YtbpjoiccjpiknaaExED
namespace Go.Proofs.Ytbpjoiccjpiknaa.exED
open Go.Proofs.Ytbpjoiccjpiknaa
open Go.ChangeShapes Go.WideShapes Go.ChangeAt Go.RowKit
set_option linter.unusedVariables false

set_option maxRecDepth 100000 in
theorem lifted (os : Os) (started : os.Started) (H : Type) (enc : TypeId × Value → H) :
    ReturnsInHanded {} Try.checked os 3 .any (Rows.fnExactEqualDeepSpec.pre6 enc Try.prog Try.f3 Rows.fnExactEqualDeepRow.domain false) (Rows.fnExactEqualDeepSpec.post enc Try.prog Try.f3 false true false false) := by
  refine returnsInHanded_of_change (C := Try.checked) readOwn started (by kernel_rfl) Try.func3
    (ChangeSpec.witness6 (enc := enc) (C := Try.checked) false ⟨#[], #[.agg #[.slice none 0 0, .int .i64 0], .agg #[.slice none 0 0, .int .i64 0]], []⟩ 8 (by kernel_rfl) (by kernel_rfl) (by kernel_rfl) (by kernel_rfl)) ?_
  intro W base args ds gs before hval0 hW hcnd _
  have hval : ∀ (j : Nat) t v, Try.f3.params[j]? = some t → args[j]? = some v → Value.okWide Try.prog W .any base t v := hval0
  have hW' := hW
  obtain ⟨p, q, hA0, hV, rfl, hfz, hnd⟩ := hW
  have hA : DataW.TrodAll enc Try.prog W 0 (fun _ => true) true Try.f3.params.toList args.toList ds p := hA0
  rw [Try.params3] at hA hval
  obtain ⟨v0, vs0, d0, ds0, p0, q0, hargs, rfl, rfl, h0, r0⟩ := trodAll_cons hA
  obtain ⟨v1, vs1, d1, ds1, p1, q1, hargs1, rfl, rfl, h1, r1⟩ := trodAll_cons r0
  obtain ⟨rfl, rfl, rfl⟩ := trodAll_nil r1
  obtain rfl : args = #[v0, v1] := by cases args; simp_all
  obtain ⟨rfl, rfl⟩ := trodVars_none hV
  have k0 := h0
  have k1 := h1
  have lt0 : ∀ x ∈ p0, x.block < W.heap.size := by obtain ⟨m, hm⟩ := k0; exact DataW.trod_lt m _ _ _ hm
  have lt1 : ∀ x ∈ p1, x.block < W.heap.size := by obtain ⟨m, hm⟩ := k1; exact DataW.trod_lt m _ _ _ hm
  obtain ⟨s0, s1, y0, y1, m, rfl, hd0, _, g0, g1⟩ := Go.Joins.open_agg2 Try.underlying24 (by kernel_rfl) readCellsG (hval 0 24 v0 rfl rfl) h0
  obtain ⟨A, ns, c, rfl, hr, _⟩ := read_nodes g0
  obtain ⟨r, hs1, _, hwr⟩ := DataW.trod_int Try.underlying3 g1
  obtain rfl : s1 = .int .i64 r := by simpa using hs1
  obtain ⟨s2, s3, y2, y3, m2, rfl, hd2, _, g2, g3⟩ := Go.Joins.open_agg2 Try.underlying24 (by kernel_rfl) readCellsG (hval 1 24 v1 rfl rfl) h1
  obtain ⟨A', ms, c', rfl, hq, _⟩ := read_nodes g2
  obtain ⟨s, hs3, _, hws⟩ := DataW.trod_int Try.underlying3 g3
  obtain rfl : s3 = .int .i64 s := by simpa using hs3
  clear hA0 hval0
  refine (exED_any A A' ns ms c c' r s W hr hq).mono fun e W' ⟨he, bel⟩ => ?_
  subst he
  exact ⟨_, rfl, _, _, _, [], _, [], hW', trodAll_mk1 (shut_bool Try.underlying4 _), (trodAll_cons_mk (Below.trod readLaid (by kernel_rfl) (of_decide_eq_true (by kernel_rfl)) k0 bel lt0) (trodAll_cons_mk (Below.trod readLaid (by kernel_rfl) (of_decide_eq_true (by kernel_rfl)) k1 bel lt1) trodAll_mk0)), rfl, bel.frame _, fun h => by cases h⟩

theorem over : Rows.fnExactEqualDeepRow.holds Try.pinned (OpenSpec.ofChange Rows.fnExactEqualDeepSpec) :=
  OpenClaim.holds_of_wide 3 Try.f3 rfl rfl rfl rfl rfl rfl rfl ⟨rfl, rfl, rfl, rfl, rfl⟩ rfl rfl rfl rfl rfl (by kernel_rfl) Try.func3 (by kernel_rfl)
    (of_decide_eq_true (by kernel_rfl)) (by unfold Func.isWrapper; first | (rw [if_pos (by decide +kernel)]; kernel_rfl) | (rw [if_neg (by decide +kernel)]; exact ⟨rfl, rfl⟩))
    (fun os started H enc _ => lifted os started H enc)

theorem proved : Rows.FnExactEqualDeepSaid := over
#print axioms proved
end Go.Proofs.Ytbpjoiccjpiknaa.exED
