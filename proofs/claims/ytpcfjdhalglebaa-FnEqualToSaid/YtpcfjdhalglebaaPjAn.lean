/-
  Lemmas, several texts in one: RowE, SigM, AlkA, MrgN, ShcN, EqnM.
-/
import Derived.Test.YtpcfjdhalglebaaPjAj
import Derived.Deep.RegionLaw
import Derived.Deep.AppendLies
import Derived.Test.YtpcfjdhalglebaaPjAg
import Derived.Test.YtpcfjdhalglebaaMem
import Derived.Deep.LoopGhost
import Derived.Deep.RegionHeld3
import Derived.Deep.QuietTactic
import Derived.BigQuiet
import Derived.Test.YtpcfjdhalglebaaPjAl
import Derived.Test.YtpcfjdhalglebaaPjAk
set_option linter.unusedVariables false
namespace Go.Proofs.Ytpcfjdhalglebaa
open Go.RowKit

/-- append of one node whose kids lie apart from all before -/
theorem step_append_ndD {w : World} {ops : Array Oper} {o : Oper} {a : Act} {K : Act → World → Prop} {Q : Exit → Act → World → Prop} {E : Prop} (hgd : o.guard = none) (s x : Operand)
    (ho : o.op = .call { callee := .builtin .append, args := #[s, x], argTypes := #[23, 23] })
    (base bnd bnd' : Nat) (An : Option Addr) (cn : Nat) (ns : List Nd) (hs : a.eval s = .slice An ns.length cn) (hrow : RowD w base bnd An cn ns) (b : Nat) (n : Nd) (Ak : Option Addr) (ck : Nat) (t : TypeId) (hx : a.eval x = .slice (some ⟨b, 0, none⟩) 1 1)
    (hr : w.heap[b]? = some (.cells #[.int .i64 n.kind, .int .i64 n.value, .slice Ak n.kids.length ck] t (0, 0))) (hown : OwnI w base Ak ck n.kids) (hbase : base ≤ w.heap.size) (hn : ns.length ≤ 1000)
    (hk : ∀ q, blockOf Ak = some q → bnd ≤ q ∧ q < bnd') (hbb : bnd ≤ bnd')
    (h : ∀ (A' : Option Addr) (c' : Nat) (w' : World), RowD w' base bnd' A' c' (ns ++ [n]) → w.grownBy w' (blockOf An) →
      K (a.put o.dst (.slice A' (ns.length + 1) c')) w') :
    if Region.wanted o (yielded ops a.tmps) = true then Oper.wp Try.prog o a w K Q else E := by
  obtain ⟨i0, hi, hz0, hz1, hz2⟩ := info_parts infoNdA
  obtain ⟨cs, h1, hcs, hap, hun⟩ := hrow.row
  have hlen := h1.1
  refine step_append_lies w hgd s x 23 ho base 50 i0 _ 3 40 Try.underlying23 hi hz0 hz1 hz2 rfl (by omega) _ ns.length cs hs h1 ⟨b, 0, none⟩ 1 1 [.int .i64 n.kind, .int .i64 n.value, .slice Ak n.kids.length ck] hx (by simp) (World.news_of_block hr) (by
      intro u hu
      simp at hu
      rcases hu with rfl | rfl | rfl <;> rfl)
    (by omega) (by unfold maxLen; omega) (by omega) hbase w.heap.size rfl ?_
  intro g cap w' h2 h3 _ _
  rw [ownBlock_slice] at h3
  have h2' := h2
  have hold : ∀ i, i < ns.length → (cs ++ [.int .i64 n.kind, .int .i64 n.value, .slice Ak n.kids.length ck])[i * 3 + 2]? = cs[i * 3 + 2]? := fun i hi2 => List.getElem?_append_left (by omega)
  have hnew : (cs ++ [.int .i64 n.kind, .int .i64 n.value, .slice Ak n.kids.length ck])[ns.length * 3 + 2]? = some (.slice Ak n.kids.length ck) := by
    rw [List.getElem?_append_right (by omega), hlen]
    simp
  have hll : (ns ++ [n]).length = ns.length + 1 := by simp
  refine h (some ⟨g, 0, none⟩) cap w' ⟨⟨_, by simpa using h2', fun j m hj => ?_, fun i j A1 A2 n1 n2 c1 c2 hij hj d1 d2 q hq1 hq2 => ?_, fun i A1 n1 c1 hi2 d1 q hq1 => ?_⟩⟩ h3
  · have hkeep : ∀ (A1 : Option Addr) (c1 : Nat) (ks : List Int), OwnI w base A1 c1 ks → OwnI w' base A1 c1 ks := fun A1 c1 ks ho => ho.kept h3 (by
      cases hA : blockOf A1 with
      | none => exact .inl rfl
      | some q => exact .inr (fun e => node_int_ne h1 ho.own q e.symm hA))
    rw [List.getElem?_append] at hj
    split at hj
    next hlt =>
      obtain ⟨A1, c1, a1, a2, a3, a4⟩ := hcs j m hj
      exact ⟨A1, c1, by rw [List.getElem?_append_left (by omega)]; exact a1, by rw [List.getElem?_append_left (by omega)]; exact a2, by rw [List.getElem?_append_left (by omega)]; exact a3, hkeep _ _ _ a4⟩
    next hlt =>
      have hjl := (List.getElem?_eq_some_iff.1 hj).1
      simp at hjl
      obtain rfl : j = ns.length := by omega
      simp at hj
      subst hj
      refine ⟨Ak, ck, ?_, ?_, ?_, hkeep _ _ _ hown⟩
      · rw [List.getElem?_append_right (by omega), hlen]; simp
      · rw [List.getElem?_append_right (by omega), hlen]; simp
      · exact hnew
  · rw [hll] at hj
    rw [hold i (by omega)] at d1
    rcases Nat.lt_or_ge j ns.length with h7 | h7
    · rw [hold j h7] at d2
      exact hap i j A1 A2 n1 n2 c1 c2 hij h7 d1 d2 q hq1 hq2
    · obtain rfl : j = ns.length := by omega
      rw [hnew] at d2
      injection d2 with d2
      injection d2 with d2 _ _
      subst d2
      have e1 := hun i A1 n1 c1 (by omega) d1 q hq1
      have e2 := (hk q hq2).1
      omega
  · rw [hll] at hi2
    rcases Nat.lt_or_ge i ns.length with h7 | h7
    · rw [hold i h7] at d1
      have := hun i A1 n1 c1 h7 d1 q hq1
      omega
    · obtain rfl : i = ns.length := by omega
      rw [hnew] at d1
      injection d1 with d1
      injection d1 with d1 _ _
      subst d1
      exact (hk q hq1).2


end Go.Proofs.Ytpcfjdhalglebaa

namespace Go.Proofs.Ytpcfjdhalglebaa
open Go.RowKit
set_option linter.unusedVariables false

/-- nodes that look alike without their kids -/
def Alike (m n : Nd) : Prop := m.kind = n.kind ∧ m.value = n.value ∧ m.kids.length = n.kids.length

theorem sig_alike {cl : List Int} {n m : Nd} (ha : Alike n m) (h : ∀ (j : Nat) (x y : Int), n.kids[j]? = some x → m.kids[j]? = some y → look cl x = look cl y) : sigOf cl n = sigOf cl m := by
  unfold sigOf
  rw [ha.1, ha.2.1]
  congr 2
  apply List.ext_getElem?
  intro j
  rw [List.getElem?_map, List.getElem?_map]
  have hlen := ha.2.2
  by_cases hj : j < n.kids.length
  · have hx : n.kids[j]? = some n.kids[j] := List.getElem?_eq_getElem hj
    have hy : m.kids[j]? = some m.kids[j] := List.getElem?_eq_getElem (by have := ha.2.2; omega)
    rw [hx, hy]
    simp only [Option.map_some]
    rw [h j _ _ hx hy]
  · rw [List.getElem?_eq_none (by omega), List.getElem?_eq_none (by have := ha.2.2; omega)]

theorem alike_sig {cl : List Int} {n m : Nd} (h : sigOf cl n = sigOf cl m) : Alike n m ∧ ∀ (j : Nat) (x y : Int), n.kids[j]? = some x → m.kids[j]? = some y → look cl x = look cl y := by
  unfold sigOf at h
  simp only [Prod.mk.injEq] at h
  obtain ⟨h1, h2, h3⟩ := h
  refine ⟨⟨h1, h2, by have := congrArg List.length h3; simpa using this⟩, fun j x y hx hy => ?_⟩
  have := congrArg (fun l => l[j]?) h3
  simp only [List.getElem?_map, hx, hy, Option.map_some] at this
  injection this

theorem look_in {cl : List Int} {x : Int} (h0 : 0 ≤ x) (h1 : x < cl.length) : cl[x.toNat]? = some (look cl x) := by
  obtain ⟨i, rfl⟩ := Int.eq_ofNat_of_zero_le h0
  have : cl[i]? = some cl[i] := List.getElem?_eq_getElem (by omega)
  rw [look_at this, Int.toNat_natCast, this]

end Go.Proofs.Ytpcfjdhalglebaa

namespace Go.Proofs.Ytpcfjdhalglebaa
open Go.RowKit
set_option linter.unusedVariables false

set_option maxHeartbeats 400000 in
theorem alike_any (A A' : Option Addr) (c c' : Nat) (m n : Nd) (w : World) :
    Calls Try.prog 37 #[.agg #[.int .i64 m.kind, .int .i64 m.value, .slice A m.kids.length c], .agg #[.int .i64 n.kind, .int .i64 n.value, .slice A' n.kids.length c']] w fun e w' => e = .returned (.bool (tf (Alike m n))) ∧ Below w.heap.size w w' := by
  by_cases h0 : m.kind = n.kind
  · by_cases h1 : m.value = n.value
    · by_cases h2 : m.kids.length = n.kids.length
      · have HF := hide (show tf (Alike m n) = true from tf_true ⟨h0, h1, h2⟩)
        have t : (m.kind == n.kind) = true := by simpa using h0
        have t1 : (m.value == n.value) = true := by simpa using h1
        have t2 : ((m.kids.length : Int) == (n.kids.length : Int)) = true := beq_iff_eq.2 (by omega)
        clear h0 h1 h2
        go_enter Try.func37, Try.ntmps37
        go_wp2
        go_ret
        exact ⟨ret_bool HF.out.symm, ((Below.refl _ _).alloc (Nat.le_refl _) _).alloc (by simp) _⟩
      · have HF := hide (show tf (Alike m n) = false from tf_false (fun h => h2 h.2.2))
        have t : (m.kind == n.kind) = true := by simpa using h0
        have t1 : (m.value == n.value) = true := by simpa using h1
        have t2 : ((m.kids.length : Int) == (n.kids.length : Int)) = false := beq_eq_false_iff_ne.2 (by omega)
        clear h0 h1 h2
        go_enter Try.func37, Try.ntmps37
        go_wp2
        go_ret
        exact ⟨ret_bool HF.out.symm, ((Below.refl _ _).alloc (Nat.le_refl _) _).alloc (by simp) _⟩
    · have HF := hide (show tf (Alike m n) = false from tf_false (fun h => h1 h.2.1))
      have t : (m.kind == n.kind) = true := by simpa using h0
      have t1 : (m.value == n.value) = false := by simpa using h1
      clear h0 h1
      go_enter Try.func37, Try.ntmps37
      go_wp2
      go_ret
      exact ⟨ret_bool HF.out.symm, ((Below.refl _ _).alloc (Nat.le_refl _) _).alloc (by simp) _⟩
  · have HF := hide (show tf (Alike m n) = false from tf_false (fun h => h0 h.1))
    have t : (m.kind == n.kind) = false := by simpa using h0
    clear h0
    go_enter Try.func37, Try.ntmps37
    go_wp2
    go_ret
    exact ⟨ret_bool HF.out.symm, ((Below.refl _ _).alloc (Nat.le_refl _) _).alloc (by simp) _⟩

end Go.Proofs.Ytpcfjdhalglebaa

namespace Go.Proofs.Ytpcfjdhalglebaa
open Go.RowKit
set_option linter.unusedVariables false

theorem replNs_smallN {ns : List Nd} {r : Int} (h : ValidG ns r) (cl : List Int) : SmallN (replNs ns cl) := by
  have hf := h.few
  refine ⟨by rw [replNs_len]; omega, fun n hn => ?_⟩
  obtain ⟨m, hm, rfl⟩ := List.mem_map.1 hn
  have := (h.nodes m hm).few
  simp [replNd]
  omega

theorem mrgN_smallN (ns : List Nd) (r : Int) : SmallN (mrgN ns r) := by
  by_cases h : ValidG ns r
  · rw [mrgN_yes h]; exact replNs_smallN h _
  · rw [mrgN_no h]; exact ⟨by simp, fun n hn => by simp at hn⟩

theorem mrgN_wf {ns : List Nd} (r : Int) (hw : WfN ns) : WfN (mrgN ns r) := by
  by_cases h : ValidG ns r
  · rw [mrgN_yes h]
    intro n hn
    obtain ⟨m, hm, rfl⟩ := List.mem_map.1 hn
    obtain ⟨a1, a2, a3, a4⟩ := hw m hm
    refine ⟨a1, a2, fun x hx => ?_, by simpa [replNd] using a4⟩
    obtain ⟨k, hk, rfl⟩ := List.mem_map.1 (show x ∈ m.kids.map (look (txtCl ns)) from hx)
    have h2 := (h.nodes m hm).inn k hk
    exact txtCl_64 (by have := h.few; omega) _ (look_mem h2.1 (by rw [txtCl_len]; omega))
  · rw [mrgN_no h]
    intro n hn
    simp at hn

end Go.Proofs.Ytpcfjdhalglebaa

namespace Go.Proofs.Ytpcfjdhalglebaa
open Go.RowKit
set_option linter.unusedVariables false

theorem rootNd_mem {ns : List Nd} {r : Int} (hv : ValidG ns r) : rootNd ns r ∈ ns := by
  obtain ⟨i, rfl⟩ := Int.eq_ofNat_of_zero_le hv.root0
  have hi : i < ns.length := by have := hv.root; omega
  rw [rootNd_at (List.getElem?_eq_getElem hi)]
  exact List.getElem_mem hi

theorem shalN_smallN (ns : List Nd) (r : Int) : SmallN (shalN ns r) := by
  by_cases h : ValidG ns r ∧ ns.length ≠ 12
  · rw [shalN_yes h.1 h.2]
    have hf := h.1.few
    refine ⟨by simp; omega, fun n hn => ?_⟩
    have hm : n ∈ ns := by
      rcases List.mem_append.1 hn with h2 | h2
      · exact h2
      · rw [List.mem_singleton.1 h2]
        exact rootNd_mem h.1
    have := (h.1.nodes n hm).few
    omega
  · rw [shalN_no h]
    exact ⟨by simp, fun n hn => by simp at hn⟩

theorem shalN_wf {ns : List Nd} (r : Int) (hw : WfN ns) : WfN (shalN ns r) := by
  by_cases h : ValidG ns r ∧ ns.length ≠ 12
  · rw [shalN_yes h.1 h.2]
    intro n hn
    refine hw n ?_
    rcases List.mem_append.1 hn with h2 | h2
    · exact h2
    · rw [List.mem_singleton.1 h2]
      exact rootNd_mem h.1
  · rw [shalN_no h]
    exact fun n hn => by simp at hn

end Go.Proofs.Ytpcfjdhalglebaa

namespace Go.Proofs.Ytpcfjdhalglebaa
open Go.RowKit Go.Maps
set_option linter.unusedVariables false

/-- nodes of two graphs that are equal up to a depth -/
def EqN (ns ms : List Nd) (d : Nat) (x y : Int) : Prop := look (clsN (joinNs ns ms) d) x = look (clsN (joinNs ns ms) d) ((ns.length : Int) + y)

theorem eqN_zero (ns ms : List Nd) (x y : Int) : EqN ns ms 0 x y := by
  unfold EqN
  rw [look_zero, look_zero]

theorem eqN_step {ns ms : List Nd} {i j : Nat} {n m : Nd} (hn : ns[i]? = some n) (hm : ms[j]? = some m) (d : Nat) :
    EqN ns ms (d + 1) (i : Int) (j : Int) ↔ Alike n m ∧ ∀ (p : Nat) (a b : Int), n.kids[p]? = some a → m.kids[p]? = some b → EqN ns ms d a b := by
  have hil := (List.getElem?_eq_some_iff.1 hn).1
  have h1 : (joinNs ns ms)[i]? = some n := by
    unfold joinNs
    rw [List.getElem?_append_left hil]; exact hn
  have h2 : (joinNs ns ms)[ns.length + j]? = some (shiftNd ns.length m) := by
    unfold joinNs
    rw [List.getElem?_append_right (by omega), show ns.length + j - ns.length = j by omega, List.getElem?_map, hm]
    rfl
  have h3 := finer_eq (cl := clsN (joinNs ns ms) d) h1 h2
  rw [Int.natCast_add] at h3
  refine Iff.trans h3 ⟨fun h => ?_, fun h => ?_⟩
  · obtain ⟨⟨a1, a2, a3⟩, h5⟩ := alike_sig h
    refine ⟨⟨a1, a2, by simpa [shiftNd] using a3⟩, fun p a b ha hb => h5 p a ((ns.length : Int) + b) ha (by unfold shiftNd; rw [List.getElem?_map, hb]; rfl)⟩
  · obtain ⟨⟨a1, a2, a3⟩, h5⟩ := h
    refine sig_alike ⟨a1, a2, by simpa [shiftNd] using a3⟩ (fun p a b ha hb => ?_)
    unfold shiftNd at hb
    rw [List.getElem?_map] at hb
    obtain ⟨b', hb', rfl⟩ := Option.map_eq_some_iff.1 hb
    exact h5 p a b' ha hb'

end Go.Proofs.Ytpcfjdhalglebaa
