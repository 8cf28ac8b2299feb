/-
  Lemmas, several texts in one: ClsO, ClaD, RowE, ToI.
-/
import Derived.Test.YtbpjoiccjpiknaaEqvM
import Derived.Test.YtbpjoiccjpiknaaSpecE
import Derived.Test.YtbpjoiccjpiknaaClaI
import Derived.Test.YtbpjoiccjpiknaaRowD
import Derived.Deep.RegionLaw
import Derived.Deep.AppendLies
import Derived.Test.YtbpjoiccjpiknaaPjAc
import Derived.Test.YtbpjoiccjpiknaaPjAa
namespace Go.Proofs.Ytbpjoiccjpiknaa
open Go.RowKit Go.Maps
set_option linter.unusedVariables false

open Classical in
/-- the class of each node of a valid graph; nothing for another one -/
noncomputable def clsOf (ns : List Nd) (r : Int) : List Int := if ValidG ns r then clsN ns ns.length else []
theorem cls_yes {ns : List Nd} {r : Int} (h : ValidG ns r) : clsOf ns r = clsN ns ns.length := by unfold clsOf; rw [if_pos h]
theorem cls_no {ns : List Nd} {r : Int} (h : ¬ ValidG ns r) : clsOf ns r = [] := by unfold clsOf; rw [if_neg h]
theorem validG_kids {ns : List Nd} {r : Int} (h : ValidG ns r) : KidsIn ns := fun n hn => (h.nodes n hn).inn
theorem clsOf_few {ns : List Nd} {r : Int} : (clsOf ns r).length ≤ 12 := by
  by_cases h : ValidG ns r
  · rw [cls_yes h, clsN_len]; exact h.few
  · rw [cls_no h]; simp
theorem clsOf_64 {ns : List Nd} {r : Int} : ∀ x ∈ clsOf ns r, In64 x := by
  by_cases h : ValidG ns r
  · rw [cls_yes h]
    intro x hx
    have := clsN_in ns _ x hx
    have := h.few
    constructor <;> omega
  · rw [cls_no h]; simp

end Go.Proofs.Ytbpjoiccjpiknaa

namespace Go.Proofs.Ytbpjoiccjpiknaa
open Go.RowKit Go.Maps
set_option linter.unusedVariables false

set_option maxHeartbeats 1000000 in
theorem deepClasses_any (A : Option Addr) (ns : List Nd) (c : Nat) (w : World) (hr : NdsAt w w.heap.size A ns) (hK : KidsIn ns) (hn : ns.length ≤ 1000) (hc : ns.length ≤ c) :
    Calls Try.prog 15 #[.slice A ns.length c] w (GivesInts w (clsN ns ns.length)) := by
  have HC := hide (classesUpTo_any A ns c ns.length w hr hK hn hn hc)
  clear hr hK
  generalize clsN ns ns.length = R at HC ⊢
  go_enter Try.func15, Try.ntmps15
  go_wp2_with fail
  refine HC.out.mono ?_
  rintro e w2 ⟨Ag, cg, rfl, ho, hb⟩
  have H := hide (And.intro ho hb)
  clear ho hb
  go_wp2
  go_ret
  exact ⟨Ag, cg, rfl, H.out.1, H.out.2⟩

end Go.Proofs.Ytbpjoiccjpiknaa

set_option linter.unusedVariables false
namespace Go.Proofs.Ytbpjoiccjpiknaa
open Go.RowKit

/-- append of one node whose kids lie apart from all before -/
theorem step_append_ndD {w : World} {ops : Array Oper} {o : Oper} {a : Act} {K : Act → World → Prop} {Q : Exit → Act → World → Prop} {E : Prop} (hgd : o.guard = none) (s x : Operand)
    (ho : o.op = .call { callee := .builtin .append, args := #[s, x], argTypes := #[27, 27] })
    (base bnd bnd' : Nat) (An : Option Addr) (cn : Nat) (ns : List Nd) (hs : a.eval s = .slice An ns.length cn) (hrow : RowD w base bnd An cn ns) (b : Nat) (n : Nd) (Ak : Option Addr) (ck : Nat) (t : TypeId) (hx : a.eval x = .slice (some ⟨b, 0, none⟩) 1 1)
    (hr : w.heap[b]? = some (.cells #[.int .i64 n.kind, .int .i64 n.value, .slice Ak n.kids.length ck] t (0, 0))) (hown : OwnI w base Ak ck n.kids) (hbase : base ≤ w.heap.size) (hn : ns.length ≤ 1000)
    (hk : ∀ q, blockOf Ak = some q → bnd ≤ q ∧ q < bnd') (hbb : bnd ≤ bnd')
    (h : ∀ (A' : Option Addr) (c' : Nat) (w' : World), RowD w' base bnd' A' c' (ns ++ [n]) → w.grownBy w' (blockOf An) →
      K (a.put o.dst (.slice A' (ns.length + 1) c')) w') :
    if Region.wanted o (yielded ops a.tmps) = true then Oper.wp Try.prog o a w K Q else E := by
  obtain ⟨i0, hi, hz0, hz1, hz2⟩ := info_parts infoNdA
  obtain ⟨cs, h1, hcs, hap, hun⟩ := hrow.row
  have hlen := h1.1
  refine step_append_lies w hgd s x 27 ho base 47 i0 _ 3 40 Try.underlying27 hi hz0 hz1 hz2 rfl (by omega) _ ns.length cs hs h1 ⟨b, 0, none⟩ 1 1 [.int .i64 n.kind, .int .i64 n.value, .slice Ak n.kids.length ck] hx (by simp) (World.news_of_block hr) (by
      intro u hu
      simp at hu
      rcases hu with rfl | rfl | rfl <;> rfl)
    (by omega) (by unfold maxLen; omega) (by omega) hbase w.heap.size rfl ?_
  intro g cap w' h2 h3 _ _
  rw [ownBlock_slice] at h3
  have h2' := h2
  have hold : ∀ i, i < ns.length → (cs ++ [.int .i64 n.kind, .int .i64 n.value, .slice Ak n.kids.length ck])[i * 3 + 2]? = cs[i * 3 + 2]? := fun i hi2 => List.getElem?_append_left (by omega)
  have hnew : (cs ++ [.int .i64 n.kind, .int .i64 n.value, .slice Ak n.kids.length ck])[ns.length * 3 + 2]? = some (.slice Ak n.kids.length ck) := by
    rw [List.getElem?_append_right (by omega), hlen]
    simp
  have hll : (ns ++ [n]).length = ns.length + 1 := by simp
  refine h (some ⟨g, 0, none⟩) cap w' ⟨⟨_, by simpa using h2', fun j m hj => ?_, fun i j A1 A2 n1 n2 c1 c2 hij hj d1 d2 q hq1 hq2 => ?_, fun i A1 n1 c1 hi2 d1 q hq1 => ?_⟩⟩ h3
  · have hkeep : ∀ (A1 : Option Addr) (c1 : Nat) (ks : List Int), OwnI w base A1 c1 ks → OwnI w' base A1 c1 ks := fun A1 c1 ks ho => ho.kept h3 (by
      cases hA : blockOf A1 with
      | none => exact .inl rfl
      | some q => exact .inr (fun e => node_int_ne h1 ho.own q e.symm hA))
    rw [List.getElem?_append] at hj
    split at hj
    next hlt =>
      obtain ⟨A1, c1, a1, a2, a3, a4⟩ := hcs j m hj
      exact ⟨A1, c1, by rw [List.getElem?_append_left (by omega)]; exact a1, by rw [List.getElem?_append_left (by omega)]; exact a2, by rw [List.getElem?_append_left (by omega)]; exact a3, hkeep _ _ _ a4⟩
    next hlt =>
      have hjl := (List.getElem?_eq_some_iff.1 hj).1
      simp at hjl
      obtain rfl : j = ns.length := by omega
      simp at hj
      subst hj
      refine ⟨Ak, ck, ?_, ?_, ?_, hkeep _ _ _ hown⟩
      · rw [List.getElem?_append_right (by omega), hlen]; simp
      · rw [List.getElem?_append_right (by omega), hlen]; simp
      · exact hnew
  · rw [hll] at hj
    rw [hold i (by omega)] at d1
    rcases Nat.lt_or_ge j ns.length with h7 | h7
    · rw [hold j h7] at d2
      exact hap i j A1 A2 n1 n2 c1 c2 hij h7 d1 d2 q hq1 hq2
    · obtain rfl : j = ns.length := by omega
      rw [hnew] at d2
      injection d2 with d2
      injection d2 with d2 _ _
      subst d2
      have e1 := hun i A1 n1 c1 (by omega) d1 q hq1
      have e2 := (hk q hq2).1
      omega
  · rw [hll] at hi2
    rcases Nat.lt_or_ge i ns.length with h7 | h7
    · rw [hold i h7] at d1
      have := hun i A1 n1 c1 h7 d1 q hq1
      omega
    · obtain rfl : i = ns.length := by omega
      rw [hnew] at d1
      injection d1 with d1
      injection d1 with d1 _ _
      subst d1
      exact (hk q hq1).2


end Go.Proofs.Ytbpjoiccjpiknaa

namespace Go.Proofs.Ytbpjoiccjpiknaa
open Go.RowKit

set_option maxHeartbeats 1000000 in
theorem toIntS_any (A : Option Addr) (xs : List Int) (c : Nat) (w : World) (h : IntsAt w w.heap.size A xs) (hs : xs.length ≤ 1048576) :
    Calls Try.prog 41 #[.slice A xs.length c] w fun e w' => e = .returned (.slice (some ⟨w.heap.size, 0, none⟩) xs.length xs.length) ∧
      w'.rowIs w.heap.size 3 xs.length (intCell xs) ∧ Below w.heap.size w w' := by
  have hmk := run_make_row' (P := Try.prog) 36 3 (.int .i64 0) 8 Try.underlying36 infoInt rfl .i64 .i64 xs.length (by omega) (by omega)
  have hrow0 := World.rowIs_made w (.int .i64 0) xs.length 3
  go_enter Try.func41, Try.ntmps41
  go_wp2_with fail
  clear hmk
  go_loopw [4] (fun i wr => ∃ k : Nat, k ≤ xs.length ∧ i = .int .i64 k ∧ Below w.heap.size w wr ∧ wr.rowIs w.heap.size 3 xs.length (fun j => if j < k then intCell xs j else .int .i64 0)) (fun i _ => xs.length - (intOf i).toNat)
  case atStart => exact ⟨0, Nat.zero_le _, rfl, (Below.refl _ _).alloc (Nat.le_refl _) _, hrow0.congr (fun i _ => by simp)⟩
  case round =>
    obtain ⟨k, hk, rfl, hb, hrow⟩ := hrel
    clear hrow0
    by_cases hlt : k < xs.length
    · obtain ⟨b, off, x, rfl, hbl, hx, _, hc⟩ := (h.below hb).at_ hlt
      have Hx := hide hx
      clear hx
      have hc2 := hrow.cell hlt
      have hf2 := hrow.frozen k
      have hnext := hrow.set k (.int .i64 x)
      have hb2 := hb.setCell (p := ⟨w.heap.size, k, none⟩) (Nat.le_refl _) (.int .i64 x)
      clear hrow hb
      go_wp2
      go_roundw
      case rel => exact ⟨k + 1, by omega, by go_num, hb2, hnext.congr (fun i _ => by
        by_cases e : i = k
        · subst e; rw [if_pos rfl, if_pos (by omega), intCell_at Hx.out]
        · rw [if_neg e]
          by_cases e2 : i < k
          · rw [if_pos e2, if_pos (by omega)]
          · rw [if_neg e2, if_neg (by omega)])⟩
      case measure => simp [intOf]; omega
    · obtain rfl : k = xs.length := by omega
      clear hlt
      go_wp2
      go_ret
      exact ⟨rfl, hrow.congr (fun i hi => by rw [if_pos hi]), hb⟩

end Go.Proofs.Ytbpjoiccjpiknaa
