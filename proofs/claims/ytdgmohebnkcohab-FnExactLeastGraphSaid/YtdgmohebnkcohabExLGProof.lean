/-
  FnExactLeastGraph: for every graph, whatever memory holds it, the call returns true and the argument reads afterwards as it read before. No conditions.
-/
import Derived.Test.YtdgmohebnkcohabRows
import Derived.Test.YtdgmohebnkcohabPjAl
import Derived.Test.YtdgmohebnkcohabExLG
namespace Go.Proofs.Ytdgmohebnkcohab.exLG
open Go.Proofs.Ytdgmohebnkcohab
open Go.ChangeShapes Go.WideShapes Go.ChangeAt Go.RowKit
set_option linter.unusedVariables false

set_option maxRecDepth 100000 in
theorem lifted (os : Os) (started : os.Started) (H : Type) (enc : TypeId × Value → H) :
    ReturnsInHanded {} Try.checked os 3 .any (Rows.fnExactLeastGraphSpec.pre6 enc Try.prog Try.f3 Rows.fnExactLeastGraphRow.domain false) (Rows.fnExactLeastGraphSpec.post enc Try.prog Try.f3 false true false false) := by
  refine returnsInHanded_of_change (C := Try.checked) readOwn started (by kernel_rfl) Try.func3
    (ChangeSpec.witness6 (enc := enc) (C := Try.checked) false ⟨#[], #[.agg #[.slice none 0 0, .int .i64 0]], []⟩ 8 (by kernel_rfl) (by kernel_rfl) (by kernel_rfl) (by kernel_rfl)) ?_
  intro W base args ds gs before hval0 hW hcnd _
  have hval : ∀ (j : Nat) t v, Try.f3.params[j]? = some t → args[j]? = some v → Value.okWide Try.prog W .any base t v := hval0
  have hW' := hW
  obtain ⟨p, q, hA0, hV, rfl, hfz, hnd⟩ := hW
  have hA : DataW.TrodAll enc Try.prog W 0 (fun _ => true) true Try.f3.params.toList args.toList ds p := hA0
  rw [Try.params3] at hA hval
  obtain ⟨v0, vs0, d0, ds0, p0, q0, hargs, rfl, rfl, h0, r0⟩ := trodAll_cons hA
  obtain ⟨rfl, rfl, rfl⟩ := trodAll_nil r0
  obtain rfl : args = #[v0] := by cases args; simp_all
  obtain ⟨rfl, rfl⟩ := trodVars_none hV
  have k0 := h0
  have lt0 : ∀ x ∈ p0, x.block < W.heap.size := by obtain ⟨m, hm⟩ := k0; exact DataW.trod_lt m _ _ _ hm
  obtain ⟨s0, s1, y0, y1, m, rfl, hd0, _, g0, g1⟩ := Go.Joins.open_agg2 Try.underlying24 (by kernel_rfl) readCellsG (hval 0 24 v0 rfl rfl) h0
  obtain ⟨A, ns, c, rfl, hr, _⟩ := read_nodes g0
  obtain ⟨r, hs1, _, hwr⟩ := DataW.trod_int Try.underlying3 g1
  obtain rfl : s1 = .int .i64 r := by simpa using hs1
  clear hA0 hval0
  refine (exLG_any A ns c r W hr).mono fun e W' ⟨he, bel⟩ => ?_
  subst he
  exact ⟨_, rfl, _, _, _, [], _, [], hW', trodAll_mk1 (shut_bool Try.underlying4 _), (trodAll_cons_mk (Below.trod readLaid (by kernel_rfl) (of_decide_eq_true (by kernel_rfl)) k0 bel lt0) trodAll_mk0), rfl, bel.frame _, fun h => by cases h⟩

theorem over : Rows.fnExactLeastGraphRow.holds Try.pinned (OpenSpec.ofChange Rows.fnExactLeastGraphSpec) :=
  OpenClaim.holds_of_wide 3 Try.f3 rfl rfl rfl rfl rfl rfl rfl ⟨rfl, rfl, rfl, rfl, rfl⟩ rfl rfl rfl rfl rfl (by kernel_rfl) Try.func3 (by kernel_rfl)
    (of_decide_eq_true (by kernel_rfl)) (by unfold Func.isWrapper; first | (rw [if_pos (by decide +kernel)]; kernel_rfl) | (rw [if_neg (by decide +kernel)]; exact ⟨rfl, rfl⟩))
    (fun os started H enc _ => lifted os started H enc)

theorem proved : Rows.FnExactLeastGraphSaid := over
#print axioms proved
end Go.Proofs.Ytdgmohebnkcohab.exLG
