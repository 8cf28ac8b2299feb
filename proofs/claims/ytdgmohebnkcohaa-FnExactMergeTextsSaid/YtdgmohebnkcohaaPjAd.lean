/-
  Lemmas, several texts in one: RowE, KeyI, Keys.
-/
import Derived.Test.YtdgmohebnkcohaaRowD
import Derived.Deep.RegionLaw
import Derived.Deep.AppendLies
import Derived.Test.YtdgmohebnkcohaaPjAa
import Derived.DeepKeys4
import Derived.Maps.OwnSet
import Derived.WalkSpells
import Derived.StillTailTactics
import Derived.Deep.QuietTactic
import Derived.BigQuiet
set_option linter.unusedVariables false
namespace Go.Proofs.Ytdgmohebnkcohaa
open Go.RowKit

/-- append of one node whose kids lie apart from all before -/
theorem step_append_ndD {w : World} {ops : Array Oper} {o : Oper} {a : Act} {K : Act → World → Prop} {Q : Exit → Act → World → Prop} {E : Prop} (hgd : o.guard = none) (s x : Operand)
    (ho : o.op = .call { callee := .builtin .append, args := #[s, x], argTypes := #[26, 26] })
    (base bnd bnd' : Nat) (An : Option Addr) (cn : Nat) (ns : List Nd) (hs : a.eval s = .slice An ns.length cn) (hrow : RowD w base bnd An cn ns) (b : Nat) (n : Nd) (Ak : Option Addr) (ck : Nat) (t : TypeId) (hx : a.eval x = .slice (some ⟨b, 0, none⟩) 1 1)
    (hr : w.heap[b]? = some (.cells #[.int .i64 n.kind, .int .i64 n.value, .slice Ak n.kids.length ck] t (0, 0))) (hown : OwnI w base Ak ck n.kids) (hbase : base ≤ w.heap.size) (hn : ns.length ≤ 1000)
    (hk : ∀ q, blockOf Ak = some q → bnd ≤ q ∧ q < bnd') (hbb : bnd ≤ bnd')
    (h : ∀ (A' : Option Addr) (c' : Nat) (w' : World), RowD w' base bnd' A' c' (ns ++ [n]) → w.grownBy w' (blockOf An) →
      K (a.put o.dst (.slice A' (ns.length + 1) c')) w') :
    if Region.wanted o (yielded ops a.tmps) = true then Oper.wp Try.prog o a w K Q else E := by
  obtain ⟨i0, hi, hz0, hz1, hz2⟩ := info_parts infoNdA
  obtain ⟨cs, h1, hcs, hap, hun⟩ := hrow.row
  have hlen := h1.1
  refine step_append_lies w hgd s x 26 ho base 38 i0 _ 3 40 Try.underlying26 hi hz0 hz1 hz2 rfl (by omega) _ ns.length cs hs h1 ⟨b, 0, none⟩ 1 1 [.int .i64 n.kind, .int .i64 n.value, .slice Ak n.kids.length ck] hx (by simp) (World.news_of_block hr) (by
      intro u hu
      simp at hu
      rcases hu with rfl | rfl | rfl <;> rfl)
    (by omega) (by unfold maxLen; omega) (by omega) hbase w.heap.size rfl ?_
  intro g cap w' h2 h3 _ _
  rw [ownBlock_slice] at h3
  have h2' := h2
  have hold : ∀ i, i < ns.length → (cs ++ [.int .i64 n.kind, .int .i64 n.value, .slice Ak n.kids.length ck])[i * 3 + 2]? = cs[i * 3 + 2]? := fun i hi2 => List.getElem?_append_left (by omega)
  have hnew : (cs ++ [.int .i64 n.kind, .int .i64 n.value, .slice Ak n.kids.length ck])[ns.length * 3 + 2]? = some (.slice Ak n.kids.length ck) := by
    rw [List.getElem?_append_right (by omega), hlen]
    simp
  have hll : (ns ++ [n]).length = ns.length + 1 := by simp
  refine h (some ⟨g, 0, none⟩) cap w' ⟨⟨_, by simpa using h2', fun j m hj => ?_, fun i j A1 A2 n1 n2 c1 c2 hij hj d1 d2 q hq1 hq2 => ?_, fun i A1 n1 c1 hi2 d1 q hq1 => ?_⟩⟩ h3
  · have hkeep : ∀ (A1 : Option Addr) (c1 : Nat) (ks : List Int), OwnI w base A1 c1 ks → OwnI w' base A1 c1 ks := fun A1 c1 ks ho => ho.kept h3 (by
      cases hA : blockOf A1 with
      | none => exact .inl rfl
      | some q => exact .inr (fun e => node_int_ne h1 ho.own q e.symm hA))
    rw [List.getElem?_append] at hj
    split at hj
    next hlt =>
      obtain ⟨A1, c1, a1, a2, a3, a4⟩ := hcs j m hj
      exact ⟨A1, c1, by rw [List.getElem?_append_left (by omega)]; exact a1, by rw [List.getElem?_append_left (by omega)]; exact a2, by rw [List.getElem?_append_left (by omega)]; exact a3, hkeep _ _ _ a4⟩
    next hlt =>
      have hjl := (List.getElem?_eq_some_iff.1 hj).1
      simp at hjl
      obtain rfl : j = ns.length := by omega
      simp at hj
      subst hj
      refine ⟨Ak, ck, ?_, ?_, ?_, hkeep _ _ _ hown⟩
      · rw [List.getElem?_append_right (by omega), hlen]; simp
      · rw [List.getElem?_append_right (by omega), hlen]; simp
      · exact hnew
  · rw [hll] at hj
    rw [hold i (by omega)] at d1
    rcases Nat.lt_or_ge j ns.length with h7 | h7
    · rw [hold j h7] at d2
      exact hap i j A1 A2 n1 n2 c1 c2 hij h7 d1 d2 q hq1 hq2
    · obtain rfl : j = ns.length := by omega
      rw [hnew] at d2
      injection d2 with d2
      injection d2 with d2 _ _
      subst d2
      have e1 := hun i A1 n1 c1 (by omega) d1 q hq1
      have e2 := (hk q hq2).1
      omega
  · rw [hll] at hi2
    rcases Nat.lt_or_ge i ns.length with h7 | h7
    · rw [hold i h7] at d1
      have := hun i A1 n1 c1 h7 d1 q hq1
      omega
    · obtain rfl : i = ns.length := by omega
      rw [hnew] at d1
      injection d1 with d1
      injection d1 with d1 _ _
      subst d1
      exact (hk q hq1).2


end Go.Proofs.Ytdgmohebnkcohaa

namespace Go.Proofs.Ytdgmohebnkcohaa
open Go.RowKit Go.Maps

theorem laidOutP : laidOutB Try.prog = true := by kernel_rfl
theorem cellsI : Try.prog.cellsOf 3 = 1 := by kernel_rfl
theorem lawI : Keyed Try.prog 3 := int_keyed Try.underlying3
theorem wf_of_in64 {x : Int} (h : In64 x) : (Lit.int .i64 x).wf = true := WalkArith.wf_i64 h
theorem keyOf_i {x : Int} (h : In64 x) : keyOf Try.prog 3 (.int .i64 x) = some (.int .i64 x) := keyOf_int_mk Try.underlying3 (wf_of_in64 h)
theorem zeroI (w : World) : (zeroValue 3).run Try.prog w = .ok (.int .i64 0) w := by kernel_rfl

/-- but for block g nothing below base has turned -/
structure But (base g : Nat) (w w' : World) : Prop where
  os : w'.os = w.os
  tape : w'.tape = w.tape
  output : w'.output = w.output
  size : w.heap.size ≤ w'.heap.size
  block : ∀ k, k < base → k ≠ g → w'.heap[k]? = w.heap[k]?

theorem But.below {base g B : Nat} {w0 w w' : World} (h : But base g w w') (hb : Below B w0 w) (hg : B ≤ g) (hB : B ≤ base) : Below B w0 w' :=
  hb.trans ⟨h.os, h.tape, h.output, h.size, fun k hk => h.block k (by omega) (by omega)⟩

theorem But.trans {base g : Nat} {a b c : World} (h : But base g a b) (k : But base g b c) : But base g a c :=
  ⟨k.os.trans h.os, k.tape.trans h.tape, k.output.trans h.output, Nat.le_trans h.size k.size, fun j hj hjg => (k.block j hj hjg).trans (h.block j hj hjg)⟩

theorem But.of_below {base g : Nat} {w w' : World} (h : Below w.heap.size w w') (hb : base ≤ w.heap.size) : But base g w w' :=
  ⟨h.os, h.tape, h.output, h.size, fun j hj _ => h.block j (by omega)⟩

end Go.Proofs.Ytdgmohebnkcohaa

namespace Go.Proofs.Ytdgmohebnkcohaa
open Go.RowKit Go.Maps

theorem rowK : 70 < Try.prog.types.size := of_decide_eq_true (by kernel_rfl)
theorem lawK : Keyed Try.prog 70 := Keyed.of_law (deep_law_laid laidOutP (m := 2) (by omega) rowK (by kernel_rfl) (by kernel_rfl))
theorem typeK : Try.prog.keyType 70 = true := by kernel_rfl
theorem cellsK : Try.prog.cellsOf 70 = 2 := by kernel_rfl

def keyLit (k v : Int) : Lit := .string (keyBytes [.int .i64 k, .int .i64 v])

theorem size_succ : ∃ m, Try.prog.types.size + 1 = m + 3 := ⟨Try.prog.types.size - 2, by have := rowK; omega⟩

theorem lits_int {x : Int} (h : In64 x) (m : Nat) : Try.prog.keyLits (m + 1) 3 [.int .i64 x] = some [.int .i64 x] := by
  unfold Program.keyLits
  simp only [Try.underlying3]
  rw [if_pos ⟨trivial, wf_of_in64 h⟩]

theorem lits_key {k v : Int} (hk : In64 k) (hv : In64 v) (m : Nat) : Try.prog.keyLits (m + 2) 70 [.int .i64 k, .int .i64 v] = some [.int .i64 k, .int .i64 v] := by
  unfold Program.keyLits
  simp only [Try.underlying70]
  rw [if_pos ⟨cellsK.symm, by decide +kernel⟩]
  simp [cellsI, lits_int hk, lits_int hv]

theorem keyOf_key {k v : Int} (hk : In64 k) (hv : In64 v) : keyOf Try.prog 70 (.agg #[.int .i64 k, .int .i64 v]) = some (keyLit k v) := by
  have hf : (Value.agg #[.int .i64 k, .int .i64 v]).formed Try.prog 70 = true := by
    unfold Value.formed
    simp only [Try.underlying70, cellsK]
    rfl
  obtain ⟨m, hm⟩ := size_succ
  unfold keyOf
  simp only [Try.underlying70, typeK, hf, Bool.and_self, if_true, hm]
  rw [show (Value.agg #[.int .i64 k, .int .i64 v]).cells.toList = [.int .i64 k, .int .i64 v] from rfl, lits_key hk hv (m + 1)]
  rfl

theorem keyLit_inj {k v k' v' : Int} (hk : In64 k) (hv : In64 v) (hk' : In64 k') (hv' : In64 v') (h : keyLit k v = keyLit k' v') : k = k' ∧ v = v' := by
  have h1 := keyOf_key hk hv
  rw [h] at h1
  have := lawK.inj h1 (keyOf_key hk' hv')
  simp at this
  exact this

end Go.Proofs.Ytdgmohebnkcohaa
