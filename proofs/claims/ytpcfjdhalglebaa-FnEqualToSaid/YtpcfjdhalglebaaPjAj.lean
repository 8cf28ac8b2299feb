/-
  Lemmas, several texts in one: RowD, AlkI.
-/
import Derived.Test.YtpcfjdhalglebaaPjAi
import Derived.Test.YtpcfjdhalglebaaPjAe
import Derived.Test.YtpcfjdhalglebaaPjAg
import Derived.Test.YtpcfjdhalglebaaMem
import Derived.Deep.LoopGhost
import Derived.Deep.QuietTactic
import Derived.Deep.Cut
import Derived.BigQuiet
namespace Go.Proofs.Ytpcfjdhalglebaa
open Go.RowKit
set_option linter.unusedVariables false

/-- the kids of the first n nodes lie in blocks that are apart -/
def ApartN (cs : List Value) (n : Nat) : Prop :=
  ∀ (i j : Nat) (A1 A2 : Option Addr) (n1 n2 c1 c2 : Nat), i < j → j < n → cs[i * 3 + 2]? = some (.slice A1 n1 c1) → cs[j * 3 + 2]? = some (.slice A2 n2 c2) → ∀ b, blockOf A1 = some b → blockOf A2 ≠ some b
/-- .. and below a block -/
def UnderN (cs : List Value) (n bnd : Nat) : Prop :=
  ∀ (i : Nat) (A1 : Option Addr) (n1 c1 : Nat), i < n → cs[i * 3 + 2]? = some (.slice A1 n1 c1) → ∀ b, blockOf A1 = some b → b < bnd

structure RowD (w : World) (base bnd : Nat) (A : Option Addr) (c : Nat) (ns : List Nd) : Prop where
  row : ∃ cs, w.ownsRow base 50 3 (.slice A ns.length c) ns.length cs ∧ (∀ j n, ns[j]? = some n → CellsN w base cs j n) ∧ ApartN cs ns.length ∧ UnderN cs ns.length bnd

theorem RowD.rowN {w : World} {base bnd : Nat} {A : Option Addr} {c : Nat} {ns : List Nd} (h : RowD w base bnd A c ns) : RowN w base A c ns := by
  obtain ⟨cs, h1, h2, _⟩ := h.row
  exact ⟨⟨cs, h1, h2⟩⟩

/-- memory that keeps the row and its kids keeps this -/
theorem RowD.ofBlk {w w' : World} {base bnd : Nat} {A : Option Addr} {c : Nat} {ns : List Nd} (h : RowD w base bnd A c ns) (hA : ∀ b, base ≤ b → b < w.heap.size → w'.heap[b]? = w.heap[b]?) : RowD w' base bnd A c ns := by
  obtain ⟨cs, h1, h2, h3, h4⟩ := h.row
  have hb := h.rowN.blocks
  refine ⟨⟨cs, ⟨h1.1, ?_⟩, fun j n hj => ?_, h3, h4⟩⟩
  · rcases h1.2 with h5 | ⟨g, cap, cur, hv, hg, hh, r⟩
    · exact .inl h5
    · refine .inr ⟨g, cap, cur, hv, hg, (hA g hg ?_).trans hh, r⟩
      injection hv with hv _ _
      exact (hb g (by rw [hv]; rfl)).2
  · obtain ⟨A1, c1, a1, a2, a3, a4⟩ := h2 j n hj
    exact ⟨A1, c1, a1, a2, a3, a4.of_blk (fun b hb' => hA b (a4.blocks b hb').1 (a4.blocks b hb').2)⟩

theorem RowD.below {w w' : World} {base bnd : Nat} {A : Option Addr} {c : Nat} {ns : List Nd} (h : RowD w base bnd A c ns) (hb : Below w.heap.size w w') : RowD w' base bnd A c ns :=
  h.ofBlk fun b _ hlt => hb.block b hlt

theorem RowD.own {w : World} {base bnd : Nat} {A : Option Addr} {c : Nat} {ns : List Nd} (h : RowD w base bnd A c ns) (hbnd : bnd ≤ w.heap.size) : OwnNs w base w.heap.size A c ns := by
  obtain ⟨cs, h1, h2, h3, h4⟩ := h.row
  have hb := h.rowN.blocks
  rcases h1.2 with ⟨hv, hn⟩ | ⟨g, cap, cur, hv, hg, hh, hle, hcap, hsz, htk⟩
  · injection hv with e1 _ e3
    exact .inl ⟨e1, e3, List.length_eq_zero_iff.1 hn⟩
  · injection hv with e1 _ e3
    subst e1
    subst e3
    have hsome : ∀ i, i < c * 3 → cur[i]? = some ((cur[i]?).getD (.int .i64 0)) := fun i hi => by
      have h9 : cur[i]? = some cur[i] := Array.getElem?_eq_getElem (by omega)
      rw [h9]
      rfl
    have hrow : w.rowIs g 50 (c * 3) (fun i => (cur[i]?).getD (.int .i64 0)) := ⟨cur, hh, hsz, hsome⟩
    have hat : ∀ i, i < ns.length * 3 → w.cell? ⟨g, i, none⟩ = cs[i]? := fun i hi => by
      rw [hrow.cell (by omega), ← htk, List.getElem?_take_of_lt hi, Array.getElem?_toList, ← hsome i (by omega)]
    refine .inr ⟨g, rfl, ⟨_, hrow⟩, hle, hg, (hb g rfl).2, fun j n hj => ?_, ?_⟩
    · have hjl := (List.getElem?_eq_some_iff.1 hj).1
      obtain ⟨A1, c1, a1, a2, a3, a4⟩ := h2 j n hj
      exact ⟨(hat _ (by omega)).trans a1, (hat _ (by omega)).trans a2, A1, c1, (hat _ (by omega)).trans a3, a4, fun b hb' => ⟨by have := h4 j A1 _ c1 hjl a3 b hb'; omega, fun e => node_int_ne h1 a4.own g rfl (by rw [← e]; exact hb')⟩⟩
    · intro i j A1 A2 n1 n2 c1 c2 hij hi hj d1 d2 b hb1 hb2
      rw [hat _ (by omega)] at d1 d2
      rcases Nat.lt_or_gt_of_ne hij with h5 | h5
      · exact h3 i j A1 A2 n1 n2 c1 c2 h5 hj d1 d2 b hb1 hb2
      · exact h3 j i A2 A1 n2 n1 c2 c1 h5 hi d2 d1 b hb2 hb1

theorem RowD.one {w : World} {base g bnd : Nat} (h : Lies w g #[.int .i64 0, .int .i64 1, .slice none 0 0] 50) (hb : base ≤ g) : RowD w base bnd (some ⟨g, 0, none⟩) 1 [⟨0, 1, []⟩] := by
  refine ⟨⟨[.int .i64 0, .int .i64 1, .slice none 0 0], ⟨by simp, .inr ⟨g, 1, _, rfl, hb, h, by simp, by unfold maxLen; omega, by simp, by simp⟩⟩, fun j n hj => ?_, fun i j A1 A2 n1 n2 c1 c2 hij hj => ?_, fun i A1 n1 c1 hi hc b hb' => ?_⟩⟩
  · match j, hj with
    | 0, hj =>
      simp at hj
      subst hj
      exact ⟨none, 0, rfl, rfl, rfl, OwnI.empty _ _⟩
    | j + 1, hj => simp at hj
  · simp at hj
    omega
  · simp at hi
    subst hi
    simp at hc
    obtain ⟨rfl, _, _⟩ := hc
    cases hb'

/-- append of one node whose kids lie apart from all before -/
theorem append_ndD {w : World} {ops : Array Oper} {rest : List Oper} {o : Oper} {a : Act} {Q : Exit → Act → World → Prop} (hgd : o.guard = none) (s x : Operand)
    (ho : o.op = .call { callee := .builtin .append, args := #[s, x], argTypes := #[23, 23] })
    (base bnd bnd' : Nat) (An : Option Addr) (cn : Nat) (ns : List Nd) (hs : a.eval s = .slice An ns.length cn) (hrow : RowD w base bnd An cn ns) (b : Nat) (n : Nd) (Ak : Option Addr) (ck : Nat) (t : TypeId) (hx : a.eval x = .slice (some ⟨b, 0, none⟩) 1 1)
    (hr : w.heap[b]? = some (.cells #[.int .i64 n.kind, .int .i64 n.value, .slice Ak n.kids.length ck] t (0, 0))) (hown : OwnI w base Ak ck n.kids) (hbase : base ≤ w.heap.size) (hn : ns.length ≤ 1000)
    (hk : ∀ q, blockOf Ak = some q → bnd ≤ q ∧ q < bnd') (hbb : bnd ≤ bnd')
    (h : ∀ (A' : Option Addr) (c' : Nat) (w' : World), RowD w' base bnd' A' c' (ns ++ [n]) → w.grownBy w' (blockOf An) →
      wpList Try.prog ops Q rest (a.put o.dst (.slice A' (ns.length + 1) c')) w') : wpList Try.prog ops Q (o :: rest) a w := by
  obtain ⟨i0, hi, hz0, hz1, hz2⟩ := info_parts infoNdA
  obtain ⟨cs, h1, hcs, hap, hun⟩ := hrow.row
  have hlen := h1.1
  refine wpList_append_own_at w hgd s x 23 ho base 50 i0 _ 3 40 Try.underlying23 hi hz0 hz1 hz2 rfl (by omega) _ ns.length cs hs h1 ⟨b, 0, none⟩ 1 1 [.int .i64 n.kind, .int .i64 n.value, .slice Ak n.kids.length ck] hx (by simp) (World.news_of_block hr) (by
      intro u hu
      simp at hu
      rcases hu with rfl | rfl | rfl <;> rfl)
    (by unfold maxLen; omega) (by omega) hbase ?_
  intro v' w' h2 h3 _ h5
  rw [ownBlock_slice] at h3
  have h2' := h2
  rcases h2.2 with ⟨_, h6⟩ | ⟨g, cap, cur, rfl, hg, hh, r⟩
  · omega
  · have hold : ∀ i, i < ns.length → (cs ++ [.int .i64 n.kind, .int .i64 n.value, .slice Ak n.kids.length ck])[i * 3 + 2]? = cs[i * 3 + 2]? := fun i hi2 => List.getElem?_append_left (by omega)
    have hnew : (cs ++ [.int .i64 n.kind, .int .i64 n.value, .slice Ak n.kids.length ck])[ns.length * 3 + 2]? = some (.slice Ak n.kids.length ck) := by
      rw [List.getElem?_append_right (by omega), hlen]
      simp
    have hll : (ns ++ [n]).length = ns.length + 1 := by simp
    refine h (some ⟨g, 0, none⟩) cap w' ⟨⟨_, by simpa using h2', fun j m hj => ?_, fun i j A1 A2 n1 n2 c1 c2 hij hj d1 d2 q hq1 hq2 => ?_, fun i A1 n1 c1 hi2 d1 q hq1 => ?_⟩⟩ h3
    · have hkeep : ∀ (A1 : Option Addr) (c1 : Nat) (ks : List Int), OwnI w base A1 c1 ks → OwnI w' base A1 c1 ks := fun A1 c1 ks ho => ho.kept h3 (by
        cases hA : blockOf A1 with
        | none => exact .inl rfl
        | some q => exact .inr (fun e => node_int_ne h1 ho.own q e.symm hA))
      rw [List.getElem?_append] at hj
      split at hj
      next hlt =>
        obtain ⟨A1, c1, a1, a2, a3, a4⟩ := hcs j m hj
        exact ⟨A1, c1, by rw [List.getElem?_append_left (by omega)]; exact a1, by rw [List.getElem?_append_left (by omega)]; exact a2, by rw [List.getElem?_append_left (by omega)]; exact a3, hkeep _ _ _ a4⟩
      next hlt =>
        have hjl := (List.getElem?_eq_some_iff.1 hj).1
        simp at hjl
        obtain rfl : j = ns.length := by omega
        simp at hj
        subst hj
        refine ⟨Ak, ck, ?_, ?_, ?_, hkeep _ _ _ hown⟩
        · rw [List.getElem?_append_right (by omega), hlen]; simp
        · rw [List.getElem?_append_right (by omega), hlen]; simp
        · exact hnew
    · rw [hll] at hj
      rw [hold i (by omega)] at d1
      rcases Nat.lt_or_ge j ns.length with h7 | h7
      · rw [hold j h7] at d2
        exact hap i j A1 A2 n1 n2 c1 c2 hij h7 d1 d2 q hq1 hq2
      · obtain rfl : j = ns.length := by omega
        rw [hnew] at d2
        injection d2 with d2
        injection d2 with d2 _ _
        subst d2
        have e1 := hun i A1 n1 c1 (by omega) d1 q hq1
        have e2 := (hk q hq2).1
        omega
    · rw [hll] at hi2
      rcases Nat.lt_or_ge i ns.length with h7 | h7
      · rw [hold i h7] at d1
        have := hun i A1 n1 c1 h7 d1 q hq1
        omega
      · obtain rfl : i = ns.length := by omega
        rw [hnew] at d1
        injection d1 with d1
        injection d1 with d1 _ _
        subst d1
        exact (hk q hq1).2

end Go.Proofs.Ytpcfjdhalglebaa

namespace Go.Proofs.Ytpcfjdhalglebaa
open Go.RowKit
set_option linter.unusedVariables false

theorem look_cell {w : World} {b o : Nat} {cl : List Int} {x : Int} (h : IntsAt w w.heap.size (some ⟨b, o, none⟩) cl) (h0 : 0 ≤ x) (h1 : x < cl.length) : ∃ i : Nat, x = (i : Int) ∧ w.cell? ⟨b, o + i, none⟩ = some (.int .i64 (look cl x)) := by
  obtain ⟨i, rfl⟩ := Int.eq_ofNat_of_zero_le h0
  obtain ⟨b', o', u, e1, _, hu, _, hc⟩ := h.at_ (k := i) (by omega)
  injection e1 with e1
  injection e1 with e2 e3
  subst e2 e3
  exact ⟨i, rfl, by rw [look_at hu]; exact hc⟩

set_option maxHeartbeats 1000000 in
theorem oneClass_any (bc : Nat) (Ac : Option Addr) (cl : List Int) (cc : Nat) (x y : Int) (w : World) (hb : w.cell? ⟨bc, 0, none⟩ = some (.slice Ac cl.length cc)) (hC : IntsAt w w.heap.size Ac cl) (hx : 0 ≤ x ∧ x < cl.length) (hy : 0 ≤ y ∧ y < cl.length) :
    Calls Try.prog 49 #[.int .i64 x, .int .i64 y, .pointer (some ⟨bc, 0, none⟩)] w fun e w' => e = .returned (.bool (tf (look cl x = look cl y))) ∧ Below w.heap.size w w' := by
  obtain ⟨b, o, z, rfl, _⟩ := hC.at_ (k := 0) (by omega)
  obtain ⟨i, rfl, hi⟩ := look_cell hC hx.1 hx.2
  obtain ⟨j, rfl, hj⟩ := look_cell hC hy.1 hy.2
  have x0 := hx.1
  have x1 := hx.2
  have y0 := hy.1
  have y1 := hy.2
  clear hx hy hC
  generalize look cl (i : Int) = u at hi ⊢
  generalize look cl (j : Int) = v at hj ⊢
  by_cases huv : u = v
  · have HF := hide (show tf (u = v) = true from tf_true huv)
    have t : (u == v) = true := by simpa using huv
    clear huv
    go_enter Try.func49, Try.ntmps49
    go_wp2_with fail
    go_quiet (fail)
    go_wp2
    go_ret
    exact ⟨ret_bool HF.out.symm, below_drewN (Below.refl _ _) _⟩
  · have HF := hide (show tf (u = v) = false from tf_false huv)
    have t : (u == v) = false := by simpa using huv
    clear huv
    go_enter Try.func49, Try.ntmps49
    go_wp2_with fail
    go_quiet (fail)
    go_wp2
    go_ret
    exact ⟨ret_bool HF.out.symm, below_drewN (Below.refl _ _) _⟩

theorem map_eq_iff {f : Int → Int} {xs ys : List Int} (hl : xs.length = ys.length) : xs.map f = ys.map f ↔ ∀ (j : Nat) (x y : Int), xs[j]? = some x → ys[j]? = some y → f x = f y := by
  constructor
  · intro h j x y hx hy
    have := congrArg (fun l => l[j]?) h
    simp only [List.getElem?_map, hx, hy, Option.map_some] at this
    injection this
  · intro h
    apply List.ext_getElem?
    intro j
    rw [List.getElem?_map, List.getElem?_map]
    by_cases hj : j < xs.length
    · have hx : xs[j]? = some xs[j] := List.getElem?_eq_getElem hj
      have hy : ys[j]? = some ys[j] := List.getElem?_eq_getElem (by omega)
      rw [hx, hy]
      simp only [Option.map_some]
      rw [h j _ _ hx hy]
    · rw [List.getElem?_eq_none (by omega), List.getElem?_eq_none (by omega)]

set_option maxRecDepth 100000 in
set_option maxHeartbeats 1000000 in
theorem equalFunc_any (bc : Nat) (Ac : Option Addr) (cl : List Int) (cc : Nat) (A A' : Option Addr) (xs ys : List Int) (c c' : Nat) (w : World) (hb : w.cell? ⟨bc, 0, none⟩ = some (.slice Ac cl.length cc)) (hbc : bc < w.heap.size) (hC : IntsAt w w.heap.size Ac cl)
    (h : IntsAt w w.heap.size A xs) (h' : IntsAt w w.heap.size A' ys) (hx : ∀ x ∈ xs, 0 ≤ x ∧ x < cl.length) (hy : ∀ x ∈ ys, 0 ≤ x ∧ x < cl.length) :
    Calls Try.prog 50 #[.slice A xs.length c, .slice A' ys.length c', .func (.func 49) #[] #[.pointer (some ⟨bc, 0, none⟩)]] w fun e w' => e = .returned (.bool (tf (xs.map (look cl) = ys.map (look cl)))) ∧ Below w.heap.size w w' := by
  have hl := h.len
  have Hb := hide hb
  have HC := hide hC
  have H := hide h
  have H' := hide h'
  have HX := hide hx
  have HY := hide hy
  clear hb hC h h' hx hy
  by_cases hne : xs.length = ys.length
  · have hb0 : ((xs.length : Int) != (ys.length : Int)) = false := by simp [hne]
    have HM := hide (map_eq_iff (f := look cl) hne)
    have Hne := hide hne
    clear hne
    go_enter Try.func50, Try.ntmps50
    go_wp2_with fail
    go_loopg [7, 8, 9, 17] xs.length (fun gk _ _ _ i wr => ∃ k : Nat, k ≤ xs.length ∧ gk = xs.length - k ∧ i = .int .i64 k ∧ Below w.heap.size w wr ∧ ∀ (j : Nat) (x y : Int), j < k → xs[j]? = some x → ys[j]? = some y → look cl x = look cl y)
    case atStart => exact ⟨0, Nat.zero_le _, rfl, rfl, Below.refl _ _, fun j x y hj => absurd hj (by omega)⟩
    case round =>
      obtain ⟨k, hk, rfl, rfl, hb, he0⟩ := hrel
      have he := hide he0
      have HB := hide hb
      clear he0 hb
      by_cases hlt : k < xs.length
      · obtain ⟨b, off, x, rfl, hbl, hx, hxm, hcx⟩ := (H.out.below HB.out).at_ hlt
        obtain ⟨b', off', y, rfl, hbl', hy, hym, hcy⟩ := (H'.out.below HB.out).at_ (k := k) (by have := Hne.out; omega)
        have Hx := hide hx
        have Hy := hide hy
        have hk1 : (0 : Int) ≤ (k : Int) := by omega
        have hk2 : (k : Int) < (xs.length : Int) := by omega
        have hk3 : (k : Int) < (ys.length : Int) := by have := Hne.out; omega
        have hcall := oneClass_any bc Ac cl cc x y wr ((HB.out.cell (p := ⟨bc, 0, none⟩) hbc).trans Hb.out) (HC.out.later HB.out (Nat.le_refl _)) (HX.out x hxm) (HY.out y hym)
        have Hcall := hide hcall
        clear hx hy hxm hym hcall hbl hbl'
        by_cases hxy : look cl x = look cl y
        · have HXY := hide hxy
          rw [tf_true hxy] at Hcall
          clear hxy
          go_wp2_with fail
          refine Hcall.out.mono ?_
          rintro e w2 ⟨rfl, hb2⟩
          have HB2 := hide (HB.out.trans (hb2.mono HB.out.size))
          clear hb2 Hcall hcx hcy
          go_wp2
          go_roundg (xs.length - (k + 1))
          case measure => omega
          case rel => exact ⟨k + 1, by omega, rfl, by go_num, HB2.out, fun j a b hj ha hb => by
            by_cases e : j = k
            · subst e
              rw [Hx.out] at ha
              rw [Hy.out] at hb
              injection ha with ha
              injection hb with hb
              rw [← ha, ← hb]
              exact HXY.out
            · exact he.out j a b (by omega) ha hb⟩
        · have HF := hide (show tf (xs.map (look cl) = ys.map (look cl)) = false from tf_false fun h => hxy (HM.out.1 h k x y Hx.out Hy.out))
          rw [tf_false hxy] at Hcall
          clear hxy
          go_wp2_with fail
          refine Hcall.out.mono ?_
          rintro e w2 ⟨rfl, hb2⟩
          have HB2 := hide (HB.out.trans (hb2.mono HB.out.size))
          clear hb2 Hcall hcx hcy
          go_wp2
          go_ret
          exact ⟨ret_bool HF.out.symm, HB2.out⟩
      · obtain rfl : k = xs.length := by omega
        have HF := hide (show tf (xs.map (look cl) = ys.map (look cl)) = true from tf_true (HM.out.2 fun j x y hx hy => he.out j x y (List.getElem?_eq_some_iff.1 hx).1 hx hy))
        have hk3 : decide ((xs.length : Int) < (xs.length : Int)) = false := by simp
        go_wp2
        go_ret
        exact ⟨ret_bool HF.out.symm, HB.out⟩
  · have hb0 : ((xs.length : Int) != (ys.length : Int)) = true := bne_iff_ne.2 (by omega)
    have HF := hide (show tf (xs.map (look cl) = ys.map (look cl)) = false from tf_false fun h => hne (by have := congrArg List.length h; simpa using this))
    clear hne
    go_enter Try.func50, Try.ntmps50
    go_wp2
    go_ret
    exact ⟨ret_bool HF.out.symm, Below.refl _ _⟩

set_option maxRecDepth 100000 in
set_option maxHeartbeats 1000000 in
theorem areAlike_any (A A' : Option Addr) (m n : Nd) (c c' : Nat) (Ac : Option Addr) (cl : List Int) (cc : Nat) (w : World) (hC : IntsAt w w.heap.size Ac cl) (hm : IntsAt w w.heap.size A m.kids) (hn : IntsAt w w.heap.size A' n.kids) (hx : ∀ x ∈ m.kids, 0 ≤ x ∧ x < cl.length) (hy : ∀ x ∈ n.kids, 0 ≤ x ∧ x < cl.length) :
    Calls Try.prog 29 #[.agg #[.int .i64 m.kind, .int .i64 m.value, .slice A m.kids.length c], .agg #[.int .i64 n.kind, .int .i64 n.value, .slice A' n.kids.length c'], .slice Ac cl.length cc] w fun e w' => e = .returned (.bool (tf (sigOf cl m = sigOf cl n))) ∧ Below w.heap.size w w' := by
  have hB : Below w.heap.size w (((w.alloc (.cells #[.int .i64 m.kind, .int .i64 m.value, .slice A m.kids.length c] 50)).alloc (.cells #[.int .i64 n.kind, .int .i64 n.value, .slice A' n.kids.length c'] 50)).alloc (.cells #[.slice Ac cl.length cc] 35)) := (((Below.refl _ _).alloc (Nat.le_refl _) _).alloc (by simp) _).alloc (by simp; omega) _
  have l1 := ((Lies.new w #[.int .i64 m.kind, .int .i64 m.value, .slice A m.kids.length c] 50).alloc (.cells #[.int .i64 n.kind, .int .i64 n.value, .slice A' n.kids.length c'] 50)).alloc (.cells #[.slice Ac cl.length cc] 35)
  have l2 := (Lies.new (w.alloc (.cells #[.int .i64 m.kind, .int .i64 m.value, .slice A m.kids.length c] 50)) #[.int .i64 n.kind, .int .i64 n.value, .slice A' n.kids.length c'] 50).alloc (.cells #[.slice Ac cl.length cc] 35)
  have l3 := Lies.new ((w.alloc (.cells #[.int .i64 m.kind, .int .i64 m.value, .slice A m.kids.length c] 50)).alloc (.cells #[.int .i64 n.kind, .int .i64 n.value, .slice A' n.kids.length c'] 50)) #[.slice Ac cl.length cc] 35
  simp only [World.size_alloc] at l2 l3
  have HC := hide (hC.later hB (Nat.le_refl _))
  have Hm := hide (hm.later hB (Nat.le_refl _))
  have Hn := hide (hn.later hB (Nat.le_refl _))
  have HX := hide hx
  have HY := hide hy
  clear hC hm hn hx hy
  go_enter Try.func29, Try.ntmps29
  go_upto_region 1 with fail
  generalize ((w.alloc (.cells #[.int .i64 m.kind, .int .i64 m.value, .slice A m.kids.length c] 50)).alloc (.cells #[.int .i64 n.kind, .int .i64 n.value, .slice A' n.kids.length c'] 50)).alloc (.cells #[.slice Ac cl.length cc] 35) = W at hB l1 l2 l3 HC Hm Hn ⊢
  have a0 := l1.cell 0
  have a1 := l1.cell 1
  have a2 := l1.cell 2
  have b0 := l2.cell 0
  have b1 := l2.cell 1
  have b2 := l2.cell 2
  have c0 := l3.cell 0
  simp only [List.getElem?_toArray, List.getElem?_cons_zero, List.getElem?_cons_succ] at a0 a1 a2 b0 b1 b2 c0
  have HB := hide hB
  have hl3 := l3.lt
  clear l1 l2 l3 hB
  by_cases h0 : m.kind = n.kind
  · have t0 : (m.kind == n.kind) = true := by simpa using h0
    by_cases h1 : m.value = n.value
    · have t1 : (m.value == n.value) = true := by simpa using h1
      have HF := hide (show tf (sigOf cl m = sigOf cl n) = tf (m.kids.map (look cl) = n.kids.map (look cl)) from tf_congr (by unfold sigOf; simp [h0, h1]))
      clear h0 h1
      go_wp2_with fail
      refine (equalFunc_any (w.heap.size + 1 + 1) Ac cl cc A A' m.kids n.kids c c' W c0 hl3 HC.out Hm.out Hn.out HX.out HY.out).mono ?_
      rintro e w2 ⟨rfl, hb2⟩
      have HB2 := hide (HB.out.trans (hb2.mono HB.out.size))
      clear hb2 a0 a1 a2 b0 b1 b2 c0
      go_wp2
      go_ret
      exact ⟨ret_bool HF.out.symm, HB2.out⟩
    · have t1 : (m.value == n.value) = false := by simpa using h1
      have HF := hide (show tf (sigOf cl m = sigOf cl n) = false from tf_false fun h => h1 (by unfold sigOf at h; simp only [Prod.mk.injEq] at h; exact h.2.1))
      clear h0 h1
      go_wp2
      go_ret
      exact ⟨ret_bool HF.out.symm, HB.out⟩
  · have t0 : (m.kind == n.kind) = false := by simpa using h0
    have HF := hide (show tf (sigOf cl m = sigOf cl n) = false from tf_false fun h => h0 (by unfold sigOf at h; simp only [Prod.mk.injEq] at h; exact h.1))
    clear h0
    go_wp2
    go_ret
    exact ⟨ret_bool HF.out.symm, HB.out⟩

end Go.Proofs.Ytpcfjdhalglebaa
