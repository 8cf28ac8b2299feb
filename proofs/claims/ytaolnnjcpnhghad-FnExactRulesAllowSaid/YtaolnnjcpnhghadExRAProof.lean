/-
  FnExactRulesAllow: for every two rules, whatever memory holds them, the call returns true and the arguments read afterwards as they read before. No conditions.
-/
import Derived.Test.YtaolnnjcpnhghadRows
import Derived.Test.YtaolnnjcpnhghadReadI
import Derived.ProofKit
import Derived.OpenShut
import Derived.ShutString
import Derived.ChangeOld
import Derived.Deep.Slices
import Derived.Deep.Fields
import Derived.Lib.SmallJoins
import Derived.Test.YtaolnnjcpnhghadExRA
namespace Go.Proofs.Ytaolnnjcpnhghad.exRA
open Go.Proofs.Ytaolnnjcpnhghad
open Go.ChangeShapes Go.WideShapes Go.ChangeAt Go.RowKit
set_option linter.unusedVariables false
theorem readCellsRu : Try.prog.cellsOf 24 = 4 := by kernel_rfl
set_option maxRecDepth 100000 in
theorem lifted (os : Os) (started : os.Started) (H : Type) (enc : TypeId × Value → H) :
    ReturnsInHanded {} Try.checked os 3 .any (Rows.fnExactRulesAllowSpec.pre6 enc Try.prog Try.f3 Rows.fnExactRulesAllowRow.domain false) (Rows.fnExactRulesAllowSpec.post enc Try.prog Try.f3 false true false false) := by
  refine returnsInHanded_of_change (C := Try.checked) readOwn started (by kernel_rfl) Try.func3
    (ChangeSpec.witness6 (enc := enc) (C := Try.checked) false ⟨#[], #[.agg #[.int .i64 0, .int .i64 0, .int .i64 0, .slice none 0 0], .agg #[.int .i64 0, .int .i64 0, .int .i64 0, .slice none 0 0]], []⟩ 8 (by kernel_rfl) (by kernel_rfl) (by kernel_rfl) (by kernel_rfl)) ?_
  intro W base args ds gs before hval0 hW hcnd _
  have hval : ∀ (j : Nat) t v, Try.f3.params[j]? = some t → args[j]? = some v → Value.okWide Try.prog W .any base t v := hval0
  have hW' := hW
  obtain ⟨p, q, hA0, hV, rfl, hfz, hnd⟩ := hW
  have hA : DataW.TrodAll enc Try.prog W 0 (fun _ => true) true Try.f3.params.toList args.toList ds p := hA0
  rw [Try.params3] at hA hval
  obtain ⟨v0, vs0, d0, ds0, p0, q0, hargs, rfl, rfl, h0, r0⟩ := trodAll_cons hA
  obtain ⟨v1, vs1, d1, ds1, p1, q1, hargs1, rfl, rfl, h1, r1⟩ := trodAll_cons r0
  obtain ⟨rfl, rfl, rfl⟩ := trodAll_nil r1
  obtain rfl : args = #[v0, v1] := by cases args; simp_all
  obtain ⟨rfl, rfl⟩ := trodVars_none hV
  have k0 := h0
  have k1 := h1
  have lt0 : ∀ x ∈ p0, x.block < W.heap.size := by obtain ⟨m, hm⟩ := k0; exact DataW.trod_lt m _ _ _ hm
  have lt1 : ∀ x ∈ p1, x.block < W.heap.size := by obtain ⟨m, hm⟩ := k1; exact DataW.trod_lt m _ _ _ hm
  obtain ⟨s0, s1, s2, s3, sy0, sy1, sy2, sy3, sm, rfl, shd0, _, sg0, sg1, sg2, sg3⟩ := Go.Joins.open_agg4 Try.underlying24 (by kernel_rfl) readCellsRu (hval 0 24 v0 rfl rfl) h0
  obtain ⟨r0, re0, _, rw0⟩ := DataW.trod_int Try.underlying3 sg0
  obtain ⟨r1, re1, _, rw1⟩ := DataW.trod_int Try.underlying3 sg1
  obtain ⟨r2, re2, _, rw2⟩ := DataW.trod_int Try.underlying3 sg2
  obtain ⟨A, xs, c, rfl, hr, _⟩ := read_ints sg3
  obtain rfl : s0 = .int .i64 r0 := by simpa using re0
  obtain rfl : s1 = .int .i64 r1 := by simpa using re1
  obtain rfl : s2 = .int .i64 r2 := by simpa using re2
  obtain ⟨t0, t1, t2, t3, ty0, ty1, ty2, ty3, tm, rfl, thd0, _, tg0, tg1, tg2, tg3⟩ := Go.Joins.open_agg4 Try.underlying24 (by kernel_rfl) readCellsRu (hval 1 24 v1 rfl rfl) h1
  obtain ⟨u0, ue0, _, uw0⟩ := DataW.trod_int Try.underlying3 tg0
  obtain ⟨u1, ue1, _, uw1⟩ := DataW.trod_int Try.underlying3 tg1
  obtain ⟨u2, ue2, _, uw2⟩ := DataW.trod_int Try.underlying3 tg2
  obtain ⟨A', ys, c', rfl, hq, _⟩ := read_ints tg3
  obtain rfl : t0 = .int .i64 u0 := by simpa using ue0
  obtain rfl : t1 = .int .i64 u1 := by simpa using ue1
  obtain rfl : t2 = .int .i64 u2 := by simpa using ue2
  clear hA0 hval0
  refine (exRA_any A A' ⟨r0, r1, r2, xs⟩ ⟨u0, u1, u2, ys⟩ c c' W ⟨hr, bounds_i64 rw0, bounds_i64 rw1, bounds_i64 rw2⟩ ⟨hq, bounds_i64 uw0, bounds_i64 uw1, bounds_i64 uw2⟩).mono fun e W' ⟨he, bel⟩ => ?_
  subst he
  exact ⟨_, rfl, _, _, _, [], _, [], hW', trodAll_mk1 (shut_bool Try.underlying4 _), (trodAll_cons_mk (Below.trod readLaid (by kernel_rfl) (of_decide_eq_true (by kernel_rfl)) k0 bel lt0) (trodAll_cons_mk (Below.trod readLaid (by kernel_rfl) (of_decide_eq_true (by kernel_rfl)) k1 bel lt1) trodAll_mk0)), rfl, bel.frame _, fun h => by cases h⟩
theorem over : Rows.fnExactRulesAllowRow.holds Try.pinned (OpenSpec.ofChange Rows.fnExactRulesAllowSpec) :=
  OpenClaim.holds_of_wide 3 Try.f3 rfl rfl rfl rfl rfl rfl rfl ⟨rfl, rfl, rfl, rfl, rfl⟩ rfl rfl rfl rfl rfl (by kernel_rfl) Try.func3 (by kernel_rfl)
    (of_decide_eq_true (by kernel_rfl)) (by unfold Func.isWrapper; first | (rw [if_pos (by decide +kernel)]; kernel_rfl) | (rw [if_neg (by decide +kernel)]; exact ⟨rfl, rfl⟩))
    (fun os started H enc _ => lifted os started H enc)
theorem proved : Rows.FnExactRulesAllowSaid := over
#print axioms proved
end Go.Proofs.Ytaolnnjcpnhghad.exRA
