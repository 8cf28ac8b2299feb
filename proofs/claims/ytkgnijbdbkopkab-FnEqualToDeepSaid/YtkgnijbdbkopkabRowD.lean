/-
  Rows of nodes with kids whose blocks are all apart. No function of the program is walked here.
-/
import Derived.Test.YtkgnijbdbkopkabPjAh
import Derived.Test.YtkgnijbdbkopkabPjAd
namespace Go.Proofs.Ytkgnijbdbkopkab
open Go.RowKit
set_option linter.unusedVariables false

/-- the kids of the first n nodes lie in blocks that are apart -/
def ApartN (cs : List Value) (n : Nat) : Prop :=
  ∀ (i j : Nat) (A1 A2 : Option Addr) (n1 n2 c1 c2 : Nat), i < j → j < n → cs[i * 3 + 2]? = some (.slice A1 n1 c1) → cs[j * 3 + 2]? = some (.slice A2 n2 c2) → ∀ b, blockOf A1 = some b → blockOf A2 ≠ some b
/-- .. and below a block -/
def UnderN (cs : List Value) (n bnd : Nat) : Prop :=
  ∀ (i : Nat) (A1 : Option Addr) (n1 c1 : Nat), i < n → cs[i * 3 + 2]? = some (.slice A1 n1 c1) → ∀ b, blockOf A1 = some b → b < bnd

structure RowD (w : World) (base bnd : Nat) (A : Option Addr) (c : Nat) (ns : List Nd) : Prop where
  row : ∃ cs, w.ownsRow base 45 3 (.slice A ns.length c) ns.length cs ∧ (∀ j n, ns[j]? = some n → CellsN w base cs j n) ∧ ApartN cs ns.length ∧ UnderN cs ns.length bnd

theorem RowD.rowN {w : World} {base bnd : Nat} {A : Option Addr} {c : Nat} {ns : List Nd} (h : RowD w base bnd A c ns) : RowN w base A c ns := by
  obtain ⟨cs, h1, h2, _⟩ := h.row
  exact ⟨⟨cs, h1, h2⟩⟩

/-- memory that keeps the row and its kids keeps this -/
theorem RowD.ofBlk {w w' : World} {base bnd : Nat} {A : Option Addr} {c : Nat} {ns : List Nd} (h : RowD w base bnd A c ns) (hA : ∀ b, base ≤ b → b < w.heap.size → w'.heap[b]? = w.heap[b]?) : RowD w' base bnd A c ns := by
  obtain ⟨cs, h1, h2, h3, h4⟩ := h.row
  have hb := h.rowN.blocks
  refine ⟨⟨cs, ⟨h1.1, ?_⟩, fun j n hj => ?_, h3, h4⟩⟩
  · rcases h1.2 with h5 | ⟨g, cap, cur, hv, hg, hh, r⟩
    · exact .inl h5
    · refine .inr ⟨g, cap, cur, hv, hg, (hA g hg ?_).trans hh, r⟩
      injection hv with hv _ _
      exact (hb g (by rw [hv]; rfl)).2
  · obtain ⟨A1, c1, a1, a2, a3, a4⟩ := h2 j n hj
    exact ⟨A1, c1, a1, a2, a3, a4.of_blk (fun b hb' => hA b (a4.blocks b hb').1 (a4.blocks b hb').2)⟩

theorem RowD.below {w w' : World} {base bnd : Nat} {A : Option Addr} {c : Nat} {ns : List Nd} (h : RowD w base bnd A c ns) (hb : Below w.heap.size w w') : RowD w' base bnd A c ns :=
  h.ofBlk fun b _ hlt => hb.block b hlt

theorem RowD.own {w : World} {base bnd : Nat} {A : Option Addr} {c : Nat} {ns : List Nd} (h : RowD w base bnd A c ns) (hbnd : bnd ≤ w.heap.size) : OwnNs w base w.heap.size A c ns := by
  obtain ⟨cs, h1, h2, h3, h4⟩ := h.row
  have hb := h.rowN.blocks
  rcases h1.2 with ⟨hv, hn⟩ | ⟨g, cap, cur, hv, hg, hh, hle, hcap, hsz, htk⟩
  · injection hv with e1 _ e3
    exact .inl ⟨e1, e3, List.length_eq_zero_iff.1 hn⟩
  · injection hv with e1 _ e3
    subst e1
    subst e3
    have hsome : ∀ i, i < c * 3 → cur[i]? = some ((cur[i]?).getD (.int .i64 0)) := fun i hi => by
      have h9 : cur[i]? = some cur[i] := Array.getElem?_eq_getElem (by omega)
      rw [h9]
      rfl
    have hrow : w.rowIs g 45 (c * 3) (fun i => (cur[i]?).getD (.int .i64 0)) := ⟨cur, hh, hsz, hsome⟩
    have hat : ∀ i, i < ns.length * 3 → w.cell? ⟨g, i, none⟩ = cs[i]? := fun i hi => by
      rw [hrow.cell (by omega), ← htk, List.getElem?_take_of_lt hi, Array.getElem?_toList, ← hsome i (by omega)]
    refine .inr ⟨g, rfl, ⟨_, hrow⟩, hle, hg, (hb g rfl).2, fun j n hj => ?_, ?_⟩
    · have hjl := (List.getElem?_eq_some_iff.1 hj).1
      obtain ⟨A1, c1, a1, a2, a3, a4⟩ := h2 j n hj
      exact ⟨(hat _ (by omega)).trans a1, (hat _ (by omega)).trans a2, A1, c1, (hat _ (by omega)).trans a3, a4, fun b hb' => ⟨by have := h4 j A1 _ c1 hjl a3 b hb'; omega, fun e => node_int_ne h1 a4.own g rfl (by rw [← e]; exact hb')⟩⟩
    · intro i j A1 A2 n1 n2 c1 c2 hij hi hj d1 d2 b hb1 hb2
      rw [hat _ (by omega)] at d1 d2
      rcases Nat.lt_or_gt_of_ne hij with h5 | h5
      · exact h3 i j A1 A2 n1 n2 c1 c2 h5 hj d1 d2 b hb1 hb2
      · exact h3 j i A2 A1 n2 n1 c2 c1 h5 hi d2 d1 b hb2 hb1

theorem RowD.one {w : World} {base g bnd : Nat} (h : Lies w g #[.int .i64 0, .int .i64 1, .slice none 0 0] 45) (hb : base ≤ g) : RowD w base bnd (some ⟨g, 0, none⟩) 1 [⟨0, 1, []⟩] := by
  refine ⟨⟨[.int .i64 0, .int .i64 1, .slice none 0 0], ⟨by simp, .inr ⟨g, 1, _, rfl, hb, h, by simp, by unfold maxLen; omega, by simp, by simp⟩⟩, fun j n hj => ?_, fun i j A1 A2 n1 n2 c1 c2 hij hj => ?_, fun i A1 n1 c1 hi hc b hb' => ?_⟩⟩
  · match j, hj with
    | 0, hj =>
      simp at hj
      subst hj
      exact ⟨none, 0, rfl, rfl, rfl, OwnI.empty _ _⟩
    | j + 1, hj => simp at hj
  · simp at hj
    omega
  · simp at hi
    subst hi
    simp at hc
    obtain ⟨rfl, _, _⟩ := hc
    cases hb'

/-- append of one node whose kids lie apart from all before -/
theorem append_ndD {w : World} {ops : Array Oper} {rest : List Oper} {o : Oper} {a : Act} {Q : Exit → Act → World → Prop} (hgd : o.guard = none) (s x : Operand)
    (ho : o.op = .call { callee := .builtin .append, args := #[s, x], argTypes := #[23, 23] })
    (base bnd bnd' : Nat) (An : Option Addr) (cn : Nat) (ns : List Nd) (hs : a.eval s = .slice An ns.length cn) (hrow : RowD w base bnd An cn ns) (b : Nat) (n : Nd) (Ak : Option Addr) (ck : Nat) (t : TypeId) (hx : a.eval x = .slice (some ⟨b, 0, none⟩) 1 1)
    (hr : w.heap[b]? = some (.cells #[.int .i64 n.kind, .int .i64 n.value, .slice Ak n.kids.length ck] t (0, 0))) (hown : OwnI w base Ak ck n.kids) (hbase : base ≤ w.heap.size) (hn : ns.length ≤ 1000)
    (hk : ∀ q, blockOf Ak = some q → bnd ≤ q ∧ q < bnd') (hbb : bnd ≤ bnd')
    (h : ∀ (A' : Option Addr) (c' : Nat) (w' : World), RowD w' base bnd' A' c' (ns ++ [n]) → w.grownBy w' (blockOf An) →
      wpList Try.prog ops Q rest (a.put o.dst (.slice A' (ns.length + 1) c')) w') : wpList Try.prog ops Q (o :: rest) a w := by
  obtain ⟨i0, hi, hz0, hz1, hz2⟩ := info_parts infoNdA
  obtain ⟨cs, h1, hcs, hap, hun⟩ := hrow.row
  have hlen := h1.1
  refine wpList_append_own_at w hgd s x 23 ho base 45 i0 _ 3 40 Try.underlying23 hi hz0 hz1 hz2 rfl (by omega) _ ns.length cs hs h1 ⟨b, 0, none⟩ 1 1 [.int .i64 n.kind, .int .i64 n.value, .slice Ak n.kids.length ck] hx (by simp) (World.news_of_block hr) (by
      intro u hu
      simp at hu
      rcases hu with rfl | rfl | rfl <;> rfl)
    (by unfold maxLen; omega) (by omega) hbase ?_
  intro v' w' h2 h3 _ h5
  rw [ownBlock_slice] at h3
  have h2' := h2
  rcases h2.2 with ⟨_, h6⟩ | ⟨g, cap, cur, rfl, hg, hh, r⟩
  · omega
  · have hold : ∀ i, i < ns.length → (cs ++ [.int .i64 n.kind, .int .i64 n.value, .slice Ak n.kids.length ck])[i * 3 + 2]? = cs[i * 3 + 2]? := fun i hi2 => List.getElem?_append_left (by omega)
    have hnew : (cs ++ [.int .i64 n.kind, .int .i64 n.value, .slice Ak n.kids.length ck])[ns.length * 3 + 2]? = some (.slice Ak n.kids.length ck) := by
      rw [List.getElem?_append_right (by omega), hlen]
      simp
    have hll : (ns ++ [n]).length = ns.length + 1 := by simp
    refine h (some ⟨g, 0, none⟩) cap w' ⟨⟨_, by simpa using h2', fun j m hj => ?_, fun i j A1 A2 n1 n2 c1 c2 hij hj d1 d2 q hq1 hq2 => ?_, fun i A1 n1 c1 hi2 d1 q hq1 => ?_⟩⟩ h3
    · have hkeep : ∀ (A1 : Option Addr) (c1 : Nat) (ks : List Int), OwnI w base A1 c1 ks → OwnI w' base A1 c1 ks := fun A1 c1 ks ho => ho.kept h3 (by
        cases hA : blockOf A1 with
        | none => exact .inl rfl
        | some q => exact .inr (fun e => node_int_ne h1 ho.own q e.symm hA))
      rw [List.getElem?_append] at hj
      split at hj
      next hlt =>
        obtain ⟨A1, c1, a1, a2, a3, a4⟩ := hcs j m hj
        exact ⟨A1, c1, by rw [List.getElem?_append_left (by omega)]; exact a1, by rw [List.getElem?_append_left (by omega)]; exact a2, by rw [List.getElem?_append_left (by omega)]; exact a3, hkeep _ _ _ a4⟩
      next hlt =>
        have hjl := (List.getElem?_eq_some_iff.1 hj).1
        simp at hjl
        obtain rfl : j = ns.length := by omega
        simp at hj
        subst hj
        refine ⟨Ak, ck, ?_, ?_, ?_, hkeep _ _ _ hown⟩
        · rw [List.getElem?_append_right (by omega), hlen]; simp
        · rw [List.getElem?_append_right (by omega), hlen]; simp
        · exact hnew
    · rw [hll] at hj
      rw [hold i (by omega)] at d1
      rcases Nat.lt_or_ge j ns.length with h7 | h7
      · rw [hold j h7] at d2
        exact hap i j A1 A2 n1 n2 c1 c2 hij h7 d1 d2 q hq1 hq2
      · obtain rfl : j = ns.length := by omega
        rw [hnew] at d2
        injection d2 with d2
        injection d2 with d2 _ _
        subst d2
        have e1 := hun i A1 n1 c1 (by omega) d1 q hq1
        have e2 := (hk q hq2).1
        omega
    · rw [hll] at hi2
      rcases Nat.lt_or_ge i ns.length with h7 | h7
      · rw [hold i h7] at d1
        have := hun i A1 n1 c1 h7 d1 q hq1
        omega
      · obtain rfl : i = ns.length := by omega
        rw [hnew] at d1
        injection d1 with d1
        injection d1 with d1 _ _
        subst d1
        exact (hk q hq1).2

end Go.Proofs.Ytkgnijbdbkopkab
