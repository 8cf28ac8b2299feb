/-
  Lemmas, several texts in one: ReadB, RowE, ClsO, ClaD.
-/
import Derived.Test.YtcblcmdfeoijpaaPjAc
import Derived.Test.YtcblcmdfeoijpaaRows
import Derived.ProofKit
import Derived.OpenShut
import Derived.ShutString
import Derived.ChangeOld
import Derived.Deep.Slices
import Derived.Deep.Fields
import Derived.Lib.SmallJoins
import Derived.Test.YtcblcmdfeoijpaaRowD
import Derived.Deep.RegionLaw
import Derived.Deep.AppendLies
import Derived.Test.YtcblcmdfeoijpaaEqvM
import Derived.Test.YtcblcmdfeoijpaaSpecE
import Derived.Test.YtcblcmdfeoijpaaClaI
namespace Go.Proofs.Ytcblcmdfeoijpaa
open Go.ChangeShapes Go.WideShapes Go.ChangeAt Go.RowKit Go.Deep
set_option linter.unusedVariables false

theorem readCellsB : Try.prog.cellsOf 5 = 1 := by kernel_rfl
theorem readOwnB : ownKnob Try.prog.godebug = none := by kernel_rfl
theorem readLaidB : laidOutB Try.prog = true := by kernel_rfl

theorem addr_add_b (b off j : Nat) : (⟨b, off, none⟩ : Addr).add j = ⟨b, off + j, none⟩ := by
  unfold Addr.add
  split
  · rename_i h0; subst h0; rfl
  · rfl

/-- a slice of bytes that came in -/
theorem read_bytes {H : Type} {enc : TypeId × Value → H} {w : World} {base : Nat} {spare : Nat → Bool} {held : Bool} {m : Nat} {v : Value} {y : DataW H × List MemPlace} (h : DataW.trod enc Try.prog w base spare held m 22 [v] = some y) :
    ∃ (A : Option Addr) (n c : Nat), v = .slice A n c ∧ BytesAt w w.heap.size A n ∧ n ≤ c ∧ n ≤ 9223372036854775807 := by
  rcases open_ints Try.underlying22 Try.underlying5 readCellsB h with ⟨hcs, _⟩ | ⟨a, len, cap, zs, hcs, _, hl, hm, hz, _, hcell, hwz⟩
  · simp at hcs
    subst hcs
    exact ⟨none, 0, 0, rfl, fun k hk => absurd hk (by omega), Nat.le_refl _, by omega⟩
  · simp at hcs
    subst hcs
    have hzl : len ≤ zs.length := by rw [hz]; split <;> omega
    refine ⟨some a, len, cap, rfl, fun k hk => ?_, hl, by unfold maxLen at hm; omega⟩
    have hz0 := hcell 0 (by omega)
    have hc0 := hcell k (by omega)
    obtain ⟨b, off, sp⟩ := a
    have hsp : sp = none := by simpa [Addr.add] using World.cell?_spot hz0
    subst hsp
    rw [addr_add_b] at hc0
    have hb := range_u8 hwz k
    rw [List.getD_eq_getElem?_getD] at hc0
    obtain ⟨x, hx⟩ := Int.eq_ofNat_of_zero_le hb.1
    refine ⟨b, off, x, rfl, World.block_lt_of_cell? w _ hc0, ?_, by omega⟩
    rw [hc0, hx]

end Go.Proofs.Ytcblcmdfeoijpaa

set_option linter.unusedVariables false
namespace Go.Proofs.Ytcblcmdfeoijpaa
open Go.RowKit

/-- append of one node whose kids lie apart from all before -/
theorem step_append_ndD {w : World} {ops : Array Oper} {o : Oper} {a : Act} {K : Act → World → Prop} {Q : Exit → Act → World → Prop} {E : Prop} (hgd : o.guard = none) (s x : Operand)
    (ho : o.op = .call { callee := .builtin .append, args := #[s, x], argTypes := #[23, 23] })
    (base bnd bnd' : Nat) (An : Option Addr) (cn : Nat) (ns : List Nd) (hs : a.eval s = .slice An ns.length cn) (hrow : RowD w base bnd An cn ns) (b : Nat) (n : Nd) (Ak : Option Addr) (ck : Nat) (t : TypeId) (hx : a.eval x = .slice (some ⟨b, 0, none⟩) 1 1)
    (hr : w.heap[b]? = some (.cells #[.int .i64 n.kind, .int .i64 n.value, .slice Ak n.kids.length ck] t (0, 0))) (hown : OwnI w base Ak ck n.kids) (hbase : base ≤ w.heap.size) (hn : ns.length ≤ 1000)
    (hk : ∀ q, blockOf Ak = some q → bnd ≤ q ∧ q < bnd') (hbb : bnd ≤ bnd')
    (h : ∀ (A' : Option Addr) (c' : Nat) (w' : World), RowD w' base bnd' A' c' (ns ++ [n]) → w.grownBy w' (blockOf An) →
      K (a.put o.dst (.slice A' (ns.length + 1) c')) w') :
    if Region.wanted o (yielded ops a.tmps) = true then Oper.wp Try.prog o a w K Q else E := by
  obtain ⟨i0, hi, hz0, hz1, hz2⟩ := info_parts infoNdA
  obtain ⟨cs, h1, hcs, hap, hun⟩ := hrow.row
  have hlen := h1.1
  refine step_append_lies w hgd s x 23 ho base 32 i0 _ 3 40 Try.underlying23 hi hz0 hz1 hz2 rfl (by omega) _ ns.length cs hs h1 ⟨b, 0, none⟩ 1 1 [.int .i64 n.kind, .int .i64 n.value, .slice Ak n.kids.length ck] hx (by simp) (World.news_of_block hr) (by
      intro u hu
      simp at hu
      rcases hu with rfl | rfl | rfl <;> rfl)
    (by omega) (by unfold maxLen; omega) (by omega) hbase w.heap.size rfl ?_
  intro g cap w' h2 h3 _ _
  rw [ownBlock_slice] at h3
  have h2' := h2
  have hold : ∀ i, i < ns.length → (cs ++ [.int .i64 n.kind, .int .i64 n.value, .slice Ak n.kids.length ck])[i * 3 + 2]? = cs[i * 3 + 2]? := fun i hi2 => List.getElem?_append_left (by omega)
  have hnew : (cs ++ [.int .i64 n.kind, .int .i64 n.value, .slice Ak n.kids.length ck])[ns.length * 3 + 2]? = some (.slice Ak n.kids.length ck) := by
    rw [List.getElem?_append_right (by omega), hlen]
    simp
  have hll : (ns ++ [n]).length = ns.length + 1 := by simp
  refine h (some ⟨g, 0, none⟩) cap w' ⟨⟨_, by simpa using h2', fun j m hj => ?_, fun i j A1 A2 n1 n2 c1 c2 hij hj d1 d2 q hq1 hq2 => ?_, fun i A1 n1 c1 hi2 d1 q hq1 => ?_⟩⟩ h3
  · have hkeep : ∀ (A1 : Option Addr) (c1 : Nat) (ks : List Int), OwnI w base A1 c1 ks → OwnI w' base A1 c1 ks := fun A1 c1 ks ho => ho.kept h3 (by
      cases hA : blockOf A1 with
      | none => exact .inl rfl
      | some q => exact .inr (fun e => node_int_ne h1 ho.own q e.symm hA))
    rw [List.getElem?_append] at hj
    split at hj
    next hlt =>
      obtain ⟨A1, c1, a1, a2, a3, a4⟩ := hcs j m hj
      exact ⟨A1, c1, by rw [List.getElem?_append_left (by omega)]; exact a1, by rw [List.getElem?_append_left (by omega)]; exact a2, by rw [List.getElem?_append_left (by omega)]; exact a3, hkeep _ _ _ a4⟩
    next hlt =>
      have hjl := (List.getElem?_eq_some_iff.1 hj).1
      simp at hjl
      obtain rfl : j = ns.length := by omega
      simp at hj
      subst hj
      refine ⟨Ak, ck, ?_, ?_, ?_, hkeep _ _ _ hown⟩
      · rw [List.getElem?_append_right (by omega), hlen]; simp
      · rw [List.getElem?_append_right (by omega), hlen]; simp
      · exact hnew
  · rw [hll] at hj
    rw [hold i (by omega)] at d1
    rcases Nat.lt_or_ge j ns.length with h7 | h7
    · rw [hold j h7] at d2
      exact hap i j A1 A2 n1 n2 c1 c2 hij h7 d1 d2 q hq1 hq2
    · obtain rfl : j = ns.length := by omega
      rw [hnew] at d2
      injection d2 with d2
      injection d2 with d2 _ _
      subst d2
      have e1 := hun i A1 n1 c1 (by omega) d1 q hq1
      have e2 := (hk q hq2).1
      omega
  · rw [hll] at hi2
    rcases Nat.lt_or_ge i ns.length with h7 | h7
    · rw [hold i h7] at d1
      have := hun i A1 n1 c1 h7 d1 q hq1
      omega
    · obtain rfl : i = ns.length := by omega
      rw [hnew] at d1
      injection d1 with d1
      injection d1 with d1 _ _
      subst d1
      exact (hk q hq1).2


end Go.Proofs.Ytcblcmdfeoijpaa

namespace Go.Proofs.Ytcblcmdfeoijpaa
open Go.RowKit Go.Maps
set_option linter.unusedVariables false

open Classical in
/-- the class of each node of a valid graph; nothing for another one -/
noncomputable def clsOf (ns : List Nd) (r : Int) : List Int := if ValidG ns r then clsN ns ns.length else []
theorem cls_yes {ns : List Nd} {r : Int} (h : ValidG ns r) : clsOf ns r = clsN ns ns.length := by unfold clsOf; rw [if_pos h]
theorem cls_no {ns : List Nd} {r : Int} (h : ¬ ValidG ns r) : clsOf ns r = [] := by unfold clsOf; rw [if_neg h]
theorem validG_kids {ns : List Nd} {r : Int} (h : ValidG ns r) : KidsIn ns := fun n hn => (h.nodes n hn).inn
theorem clsOf_few {ns : List Nd} {r : Int} : (clsOf ns r).length ≤ 12 := by
  by_cases h : ValidG ns r
  · rw [cls_yes h, clsN_len]; exact h.few
  · rw [cls_no h]; simp
theorem clsOf_64 {ns : List Nd} {r : Int} : ∀ x ∈ clsOf ns r, In64 x := by
  by_cases h : ValidG ns r
  · rw [cls_yes h]
    intro x hx
    have := clsN_in ns _ x hx
    have := h.few
    constructor <;> omega
  · rw [cls_no h]; simp

end Go.Proofs.Ytcblcmdfeoijpaa

namespace Go.Proofs.Ytcblcmdfeoijpaa
open Go.RowKit Go.Maps
set_option linter.unusedVariables false

set_option maxHeartbeats 1000000 in
theorem deepClasses_any (A : Option Addr) (ns : List Nd) (c : Nat) (w : World) (hr : NdsAt w w.heap.size A ns) (hK : KidsIn ns) (hn : ns.length ≤ 1000) (hc : ns.length ≤ c) :
    Calls Try.prog 24 #[.slice A ns.length c] w (GivesInts w (clsN ns ns.length)) := by
  have HC := hide (classesUpTo_any A ns c ns.length w hr hK hn hn hc)
  clear hr hK
  generalize clsN ns ns.length = R at HC ⊢
  go_enter Try.func24, Try.ntmps24
  go_wp2_with fail
  refine HC.out.mono ?_
  rintro e w2 ⟨Ag, cg, rfl, ho, hb⟩
  have H := hide (And.intro ho hb)
  clear ho hb
  go_wp2
  go_ret
  exact ⟨Ag, cg, rfl, H.out.1, H.out.2⟩

end Go.Proofs.Ytcblcmdfeoijpaa
