/-
  Lemmas, several texts in one: RowD, RewI, PickG.
-/
import Derived.Test.YthgklkpfmjgeoaaPjAh
import Derived.Test.YthgklkpfmjgeoaaPjAb
import Derived.Deep.Cut
import Derived.Test.YthgklkpfmjgeoaaPjAe
import Derived.Test.YthgklkpfmjgeoaaPjAa
import Derived.Test.YthgklkpfmjgeoaaPjAi
import Derived.Deep.LoopGhost
namespace Go.Proofs.Ythgklkpfmjgeoaa
open Go.RowKit
set_option linter.unusedVariables false

/-- the kids of the first n nodes lie in blocks that are apart -/
def ApartN (cs : List Value) (n : Nat) : Prop :=
  ∀ (i j : Nat) (A1 A2 : Option Addr) (n1 n2 c1 c2 : Nat), i < j → j < n → cs[i * 3 + 2]? = some (.slice A1 n1 c1) → cs[j * 3 + 2]? = some (.slice A2 n2 c2) → ∀ b, blockOf A1 = some b → blockOf A2 ≠ some b
/-- .. and below a block -/
def UnderN (cs : List Value) (n bnd : Nat) : Prop :=
  ∀ (i : Nat) (A1 : Option Addr) (n1 c1 : Nat), i < n → cs[i * 3 + 2]? = some (.slice A1 n1 c1) → ∀ b, blockOf A1 = some b → b < bnd

structure RowD (w : World) (base bnd : Nat) (A : Option Addr) (c : Nat) (ns : List Nd) : Prop where
  row : ∃ cs, w.ownsRow base 43 3 (.slice A ns.length c) ns.length cs ∧ (∀ j n, ns[j]? = some n → CellsN w base cs j n) ∧ ApartN cs ns.length ∧ UnderN cs ns.length bnd

theorem RowD.rowN {w : World} {base bnd : Nat} {A : Option Addr} {c : Nat} {ns : List Nd} (h : RowD w base bnd A c ns) : RowN w base A c ns := by
  obtain ⟨cs, h1, h2, _⟩ := h.row
  exact ⟨⟨cs, h1, h2⟩⟩

/-- memory that keeps the row and its kids keeps this -/
theorem RowD.ofBlk {w w' : World} {base bnd : Nat} {A : Option Addr} {c : Nat} {ns : List Nd} (h : RowD w base bnd A c ns) (hA : ∀ b, base ≤ b → b < w.heap.size → w'.heap[b]? = w.heap[b]?) : RowD w' base bnd A c ns := by
  obtain ⟨cs, h1, h2, h3, h4⟩ := h.row
  have hb := h.rowN.blocks
  refine ⟨⟨cs, ⟨h1.1, ?_⟩, fun j n hj => ?_, h3, h4⟩⟩
  · rcases h1.2 with h5 | ⟨g, cap, cur, hv, hg, hh, r⟩
    · exact .inl h5
    · refine .inr ⟨g, cap, cur, hv, hg, (hA g hg ?_).trans hh, r⟩
      injection hv with hv _ _
      exact (hb g (by rw [hv]; rfl)).2
  · obtain ⟨A1, c1, a1, a2, a3, a4⟩ := h2 j n hj
    exact ⟨A1, c1, a1, a2, a3, a4.of_blk (fun b hb' => hA b (a4.blocks b hb').1 (a4.blocks b hb').2)⟩

theorem RowD.below {w w' : World} {base bnd : Nat} {A : Option Addr} {c : Nat} {ns : List Nd} (h : RowD w base bnd A c ns) (hb : Below w.heap.size w w') : RowD w' base bnd A c ns :=
  h.ofBlk fun b _ hlt => hb.block b hlt

theorem RowD.own {w : World} {base bnd : Nat} {A : Option Addr} {c : Nat} {ns : List Nd} (h : RowD w base bnd A c ns) (hbnd : bnd ≤ w.heap.size) : OwnNs w base w.heap.size A c ns := by
  obtain ⟨cs, h1, h2, h3, h4⟩ := h.row
  have hb := h.rowN.blocks
  rcases h1.2 with ⟨hv, hn⟩ | ⟨g, cap, cur, hv, hg, hh, hle, hcap, hsz, htk⟩
  · injection hv with e1 _ e3
    exact .inl ⟨e1, e3, List.length_eq_zero_iff.1 hn⟩
  · injection hv with e1 _ e3
    subst e1
    subst e3
    have hsome : ∀ i, i < c * 3 → cur[i]? = some ((cur[i]?).getD (.int .i64 0)) := fun i hi => by
      have h9 : cur[i]? = some cur[i] := Array.getElem?_eq_getElem (by omega)
      rw [h9]
      rfl
    have hrow : w.rowIs g 43 (c * 3) (fun i => (cur[i]?).getD (.int .i64 0)) := ⟨cur, hh, hsz, hsome⟩
    have hat : ∀ i, i < ns.length * 3 → w.cell? ⟨g, i, none⟩ = cs[i]? := fun i hi => by
      rw [hrow.cell (by omega), ← htk, List.getElem?_take_of_lt hi, Array.getElem?_toList, ← hsome i (by omega)]
    refine .inr ⟨g, rfl, ⟨_, hrow⟩, hle, hg, (hb g rfl).2, fun j n hj => ?_, ?_⟩
    · have hjl := (List.getElem?_eq_some_iff.1 hj).1
      obtain ⟨A1, c1, a1, a2, a3, a4⟩ := h2 j n hj
      exact ⟨(hat _ (by omega)).trans a1, (hat _ (by omega)).trans a2, A1, c1, (hat _ (by omega)).trans a3, a4, fun b hb' => ⟨by have := h4 j A1 _ c1 hjl a3 b hb'; omega, fun e => node_int_ne h1 a4.own g rfl (by rw [← e]; exact hb')⟩⟩
    · intro i j A1 A2 n1 n2 c1 c2 hij hi hj d1 d2 b hb1 hb2
      rw [hat _ (by omega)] at d1 d2
      rcases Nat.lt_or_gt_of_ne hij with h5 | h5
      · exact h3 i j A1 A2 n1 n2 c1 c2 h5 hj d1 d2 b hb1 hb2
      · exact h3 j i A2 A1 n2 n1 c2 c1 h5 hi d2 d1 b hb2 hb1

theorem RowD.one {w : World} {base g bnd : Nat} (h : Lies w g #[.int .i64 0, .int .i64 1, .slice none 0 0] 43) (hb : base ≤ g) : RowD w base bnd (some ⟨g, 0, none⟩) 1 [⟨0, 1, []⟩] := by
  refine ⟨⟨[.int .i64 0, .int .i64 1, .slice none 0 0], ⟨by simp, .inr ⟨g, 1, _, rfl, hb, h, by simp, by unfold maxLen; omega, by simp, by simp⟩⟩, fun j n hj => ?_, fun i j A1 A2 n1 n2 c1 c2 hij hj => ?_, fun i A1 n1 c1 hi hc b hb' => ?_⟩⟩
  · match j, hj with
    | 0, hj =>
      simp at hj
      subst hj
      exact ⟨none, 0, rfl, rfl, rfl, OwnI.empty _ _⟩
    | j + 1, hj => simp at hj
  · simp at hj
    omega
  · simp at hi
    subst hi
    simp at hc
    obtain ⟨rfl, _, _⟩ := hc
    cases hb'

/-- append of one node whose kids lie apart from all before -/
theorem append_ndD {w : World} {ops : Array Oper} {rest : List Oper} {o : Oper} {a : Act} {Q : Exit → Act → World → Prop} (hgd : o.guard = none) (s x : Operand)
    (ho : o.op = .call { callee := .builtin .append, args := #[s, x], argTypes := #[23, 23] })
    (base bnd bnd' : Nat) (An : Option Addr) (cn : Nat) (ns : List Nd) (hs : a.eval s = .slice An ns.length cn) (hrow : RowD w base bnd An cn ns) (b : Nat) (n : Nd) (Ak : Option Addr) (ck : Nat) (t : TypeId) (hx : a.eval x = .slice (some ⟨b, 0, none⟩) 1 1)
    (hr : w.heap[b]? = some (.cells #[.int .i64 n.kind, .int .i64 n.value, .slice Ak n.kids.length ck] t (0, 0))) (hown : OwnI w base Ak ck n.kids) (hbase : base ≤ w.heap.size) (hn : ns.length ≤ 1000)
    (hk : ∀ q, blockOf Ak = some q → bnd ≤ q ∧ q < bnd') (hbb : bnd ≤ bnd')
    (h : ∀ (A' : Option Addr) (c' : Nat) (w' : World), RowD w' base bnd' A' c' (ns ++ [n]) → w.grownBy w' (blockOf An) →
      wpList Try.prog ops Q rest (a.put o.dst (.slice A' (ns.length + 1) c')) w') : wpList Try.prog ops Q (o :: rest) a w := by
  obtain ⟨i0, hi, hz0, hz1, hz2⟩ := info_parts infoNdA
  obtain ⟨cs, h1, hcs, hap, hun⟩ := hrow.row
  have hlen := h1.1
  refine wpList_append_own_at w hgd s x 23 ho base 43 i0 _ 3 40 Try.underlying23 hi hz0 hz1 hz2 rfl (by omega) _ ns.length cs hs h1 ⟨b, 0, none⟩ 1 1 [.int .i64 n.kind, .int .i64 n.value, .slice Ak n.kids.length ck] hx (by simp) (World.news_of_block hr) (by
      intro u hu
      simp at hu
      rcases hu with rfl | rfl | rfl <;> rfl)
    (by unfold maxLen; omega) (by omega) hbase ?_
  intro v' w' h2 h3 _ h5
  rw [ownBlock_slice] at h3
  have h2' := h2
  rcases h2.2 with ⟨_, h6⟩ | ⟨g, cap, cur, rfl, hg, hh, r⟩
  · omega
  · have hold : ∀ i, i < ns.length → (cs ++ [.int .i64 n.kind, .int .i64 n.value, .slice Ak n.kids.length ck])[i * 3 + 2]? = cs[i * 3 + 2]? := fun i hi2 => List.getElem?_append_left (by omega)
    have hnew : (cs ++ [.int .i64 n.kind, .int .i64 n.value, .slice Ak n.kids.length ck])[ns.length * 3 + 2]? = some (.slice Ak n.kids.length ck) := by
      rw [List.getElem?_append_right (by omega), hlen]
      simp
    have hll : (ns ++ [n]).length = ns.length + 1 := by simp
    refine h (some ⟨g, 0, none⟩) cap w' ⟨⟨_, by simpa using h2', fun j m hj => ?_, fun i j A1 A2 n1 n2 c1 c2 hij hj d1 d2 q hq1 hq2 => ?_, fun i A1 n1 c1 hi2 d1 q hq1 => ?_⟩⟩ h3
    · have hkeep : ∀ (A1 : Option Addr) (c1 : Nat) (ks : List Int), OwnI w base A1 c1 ks → OwnI w' base A1 c1 ks := fun A1 c1 ks ho => ho.kept h3 (by
        cases hA : blockOf A1 with
        | none => exact .inl rfl
        | some q => exact .inr (fun e => node_int_ne h1 ho.own q e.symm hA))
      rw [List.getElem?_append] at hj
      split at hj
      next hlt =>
        obtain ⟨A1, c1, a1, a2, a3, a4⟩ := hcs j m hj
        exact ⟨A1, c1, by rw [List.getElem?_append_left (by omega)]; exact a1, by rw [List.getElem?_append_left (by omega)]; exact a2, by rw [List.getElem?_append_left (by omega)]; exact a3, hkeep _ _ _ a4⟩
      next hlt =>
        have hjl := (List.getElem?_eq_some_iff.1 hj).1
        simp at hjl
        obtain rfl : j = ns.length := by omega
        simp at hj
        subst hj
        refine ⟨Ak, ck, ?_, ?_, ?_, hkeep _ _ _ hown⟩
        · rw [List.getElem?_append_right (by omega), hlen]; simp
        · rw [List.getElem?_append_right (by omega), hlen]; simp
        · exact hnew
    · rw [hll] at hj
      rw [hold i (by omega)] at d1
      rcases Nat.lt_or_ge j ns.length with h7 | h7
      · rw [hold j h7] at d2
        exact hap i j A1 A2 n1 n2 c1 c2 hij h7 d1 d2 q hq1 hq2
      · obtain rfl : j = ns.length := by omega
        rw [hnew] at d2
        injection d2 with d2
        injection d2 with d2 _ _
        subst d2
        have e1 := hun i A1 n1 c1 (by omega) d1 q hq1
        have e2 := (hk q hq2).1
        omega
    · rw [hll] at hi2
      rcases Nat.lt_or_ge i ns.length with h7 | h7
      · rw [hold i h7] at d1
        have := hun i A1 n1 c1 h7 d1 q hq1
        omega
      · obtain rfl : i = ns.length := by omega
        rw [hnew] at d1
        injection d1 with d1
        injection d1 with d1 _ _
        subst d1
        exact (hk q hq1).2

end Go.Proofs.Ythgklkpfmjgeoaa

namespace Go.Proofs.Ythgklkpfmjgeoaa
open Go.RowKit
set_option linter.unusedVariables false

set_option maxRecDepth 100000 in
set_option maxHeartbeats 2000000 in
theorem rewired_any (F : Nat) (binds caps : Array Value) (g : Int → Int) (n : Nd) (A : Option Addr) (c : Nat) (w : World) (hI : IntsAt w w.heap.size A n.kids) (hk : n.kids.length ≤ 1000) (h64 : ∀ k ∈ n.kids, In64 (g k))
    (hent : ∀ (args : Array Value) (W : World), (callFunc F args).run Try.prog W = .ok (.enter F args) W)
    (hcall : ∀ (k : Int) (W : World), Below w.heap.size w W → k ∈ n.kids → Calls Try.prog F (binds ++ #[.int .i64 k] ++ caps) W fun e w' => e = .returned (.int .i64 (g k)) ∧ W = w') :
    Calls Try.prog 37 #[.agg #[.int .i64 n.kind, .int .i64 n.value, .slice A n.kids.length c], .func (.func F) binds caps] w (GivesNd w n.kind n.value (n.kids.map g)) := by
  have hB : Below w.heap.size w ((w.alloc (.cells #[.int .i64 n.kind, .int .i64 n.value, .slice A n.kids.length c] 43)).alloc (.cells #[.int .i64 0, .int .i64 0, .slice none 0 0] 43)) := ((Below.refl _ _).alloc (Nat.le_refl _) _).alloc (by simp) _
  have l1 := (Lies.new w #[.int .i64 n.kind, .int .i64 n.value, .slice A n.kids.length c] 43).alloc (.cells #[.int .i64 0, .int .i64 0, .slice none 0 0] 43)
  have l2 := Lies.new (w.alloc (.cells #[.int .i64 n.kind, .int .i64 n.value, .slice A n.kids.length c] 43)) #[.int .i64 0, .int .i64 0, .slice none 0 0] 43
  simp only [World.size_alloc] at l2
  have HC := hide hcall
  have H64 := hide h64
  have HI := hide hI
  clear hcall h64 hI
  go_enter Try.func37, Try.ntmps37
  go_upto_region 2 with fail
  generalize (w.alloc (.cells #[.int .i64 n.kind, .int .i64 n.value, .slice A n.kids.length c] 43)).alloc (.cells #[.int .i64 0, .int .i64 0, .slice none 0 0] 43) = W at hB l1 l2 ⊢
  have HL1 := hide l1
  have HL2 := hide l2
  have HB := hide hB
  have hW1 : w.heap.size < W.heap.size := l1.lt
  have hW2 : w.heap.size + 1 < W.heap.size := l2.lt
  have q2 := l1.cell 2
  simp at q2
  clear l1 l2 hB
  go_wp2_with fail
  go_loopw [5, 11] (fun sv jv wr => ∃ (j : Nat) (Ak : Option Addr) (ck : Nat) (ks : List Int), j ≤ n.kids.length ∧ sv = .slice Ak ks.length ck ∧ jv = .int .i64 (j : Int) ∧ Hid (ks = (n.kids.take j).map g) ∧ OwnI wr W.heap.size Ak ck ks ∧ Below W.heap.size W wr) (fun _ jv _ => n.kids.length - (intOf jv).toNat)
  case atStart => exact ⟨0, none, 0, [], Nat.zero_le _, rfl, rfl, hide rfl, OwnI.empty _ _, Below.refl _ _⟩
  case round =>
    clear q2
    obtain ⟨j, Ak, ck, ks, hj, rfl, rfl, hks, hown, hb⟩ := hrel
    have hksl : ks.length ≤ 1000 := by rw [hks.out]; simp; omega
    have hsz := hb.size
    have Hown := hide hown
    have Hb := hide hb
    clear hown hb
    by_cases hlj : j < n.kids.length
    · obtain ⟨b, off, y, rfl, hbl, hy, hym, hcy⟩ := (HI.out.below (HB.out.trans (Hb.out.mono HB.out.size))).at_ hlj
      have HY := hide hy
      have hp64 := H64.out y hym
      have HCy := hide (HC.out y wr (HB.out.trans (Hb.out.mono HB.out.size)) hym)
      have hj1 : (0 : Int) ≤ (j : Int) := by omega
      have hj2 : (j : Int) < (n.kids.length : Int) := by omega
      clear hy hym hbl
      generalize hq : g y = q at hp64 HCy
      have Hq := hide hq
      clear hq
      go_wp2_with fail
      refine HCy.out.mono ?_
      rintro e w' ⟨rfl, rfl⟩
      clear HCy hcy
      go_wp2_with (at_builtin; refine append_ints rfl (.tmp 15) (.tmp 19) rfl W.heap.size Ak ck ks rfl (Hown.out.alloc _) (wr.heap.size + 1) _ 1 [q] rfl (fun e => by cases e) (IntsAt.one wr q hp64) (by simp <;> omega) (by simp <;> omega) ?_; intro zs A3 c3 w5 hz hown5 hg5 _)
      go_roundw
      case rel => exact ⟨j + 1, A3, c3, zs, by omega, rfl, by go_num, hide (by rw [hz.out, hks.out, List.take_add_one, HY.out, ← Hq.out]; simp), hown5, below_grown (Hb.out.alloc hsz _) hg5 (by simp; omega) (fun q hq => (Hown.out.blocks q hq).1)⟩
      case measure => simp [intOf]; omega
    · obtain rfl : j = n.kids.length := by omega
      rw [List.take_length] at hks
      have l3 := HL1.out.below Hb.out hW1
      have m0 := l3.cell 0
      have m1 := l3.cell 1
      simp at m0 m1
      have l4 := HL2.out.below Hb.out hW2
      have l5 := ((l4.set 0 (.int .i64 n.kind)).set 1 (.int .i64 n.value)).set 2 (.slice Ak ks.length ck)
      simp only [List.setIfInBounds_toArray, List.set_cons_succ, List.set_cons_zero] at l5
      have s0 := l5.cell 0
      have s1 := l5.cell 1
      have s2 := l5.cell 2
      have p0 := l4.cell 0
      have p1 := l4.cell 1
      have p2 := l4.cell 2
      have f0 := l4.frozen 0
      have f1 := l4.frozen 1
      have f2 := l4.frozen 2
      simp only [List.getElem?_toArray, List.getElem?_cons_zero, List.getElem?_cons_succ] at s0 s1 s2 p0 p1 p2
      have HF := hide (show OwnI (((wr.setCell ⟨w.heap.size + 1, 0, none⟩ (.int .i64 n.kind)).setCell ⟨w.heap.size + 1, 1, none⟩ (.int .i64 n.value)).setCell ⟨w.heap.size + 1, 2, none⟩ (.slice Ak ks.length ck)) W.heap.size Ak ck ks from Hown.out.of_blk (fun b hb => by
        have := (Hown.out.blocks b hb).1
        rw [Below.heap_setCell _ _ _ _ (by show b ≠ w.heap.size + 1; omega), Below.heap_setCell _ _ _ _ (by show b ≠ w.heap.size + 1; omega), Below.heap_setCell _ _ _ _ (by show b ≠ w.heap.size + 1; omega)]))
      have HBF := hide ((((HB.out.trans (Hb.out.mono HB.out.size)).setCell (p := ⟨w.heap.size + 1, 0, none⟩) (by show w.heap.size ≤ w.heap.size + 1; omega) (.int .i64 n.kind)).setCell (p := ⟨w.heap.size + 1, 1, none⟩) (by show w.heap.size ≤ w.heap.size + 1; omega) (.int .i64 n.value)).setCell (p := ⟨w.heap.size + 1, 2, none⟩) (by show w.heap.size ≤ w.heap.size + 1; omega) (.slice Ak ks.length ck))
      clear l3 l4 l5 hlj
      go_wp2
      refine bodyPost_ret (v := .agg #[.int .i64 n.kind, .int .i64 n.value, .slice Ak ks.length ck]) (by simp [results, Try.results37, go_sem, s0, s1, s2]) rfl ?_
      have e1 : n.kids.map g = ks := hks.out.symm
      rw [e1]
      exact ⟨Ak, ck, rfl, HF.out.mono (by omega), HBF.out⟩

end Go.Proofs.Ythgklkpfmjgeoaa

namespace Go.Proofs.Ythgklkpfmjgeoaa
open Go.RowKit Go.Maps
set_option linter.unusedVariables false

theorem makeNodesP (n : Nat) (hn : n ≤ 1000) : ∀ w : World, (Instr.makeSlice 23 (.int .i64 (n : Int)) (.int .i64 (n : Int))).run Try.prog w = .ok (.slice (some ⟨w.heap.size, 0, none⟩) n n) (w.alloc (.cells (madeCells (Value.agg #[.int .i64 0, .int .i64 0, .slice none 0 0]).cells (n * 3)) 43)) :=
  run_make_rows (P := Try.prog) 23 43 (.agg #[.int .i64 0, .int .i64 0, .slice none 0 0]) 3 40 Try.underlying23 infoNdA .i64 .i64 n (by omega) (by omega)

/-- the memory of the first loop: the set grows -/
structure PgA (w wr : World) (A : Option Addr) (c : Nat) (ns : List Nd) (r : Int) (A2 : Option Addr) (L : List Int) (k : Nat) : Prop where
  bel : Below w.heap.size w wr
  lG : Lies wr w.heap.size #[.slice A ns.length c, .int .i64 r] 25
  lR : Lies wr (w.heap.size + 1) #[.slice none 0 0, .int .i64 0] 25
  set : ∃ m As cs, SetI wr (w.heap.size + 1 + 1) (w.heap.size + 1 + 1 + 1) m As cs (L.take k)
  size : w.heap.size + 1 + 1 + 1 ≤ wr.heap.size

theorem PgA.step {w wr w' : World} {A : Option Addr} {c : Nat} {ns : List Nd} {r : Int} {A2 : Option Addr} {L : List Int} {k : Nat} {x : Int} (h : PgA w wr A c ns r A2 L k) (hx : L[k]? = some x) (hb : But (w.heap.size + 1 + 1 + 1) (w.heap.size + 1 + 1) wr w')
    (hs : ∃ m As cs, SetI w' (w.heap.size + 1 + 1) (w.heap.size + 1 + 1 + 1) m As cs (L.take k ++ [x])) : PgA w w' A c ns r A2 L (k + 1) := by
  refine ⟨hb.below h.bel (by omega) (by omega), (hb.block _ (by omega) (by omega)).trans h.lG, (hb.block _ (by omega) (by omega)).trans h.lR, ?_, Nat.le_trans h.size hb.size⟩
  rw [List.take_add_one, hx]
  exact hs

/-- the memory of the second loop: the nodes grow -/
structure PgB (X0 wr : World) (ns : List Nd) (L : List Int) (k : Nat) : Prop where
  bel : Below X0.heap.size X0 wr
  row : OwnRow wr X0.heap.size wr.heap.size X0.heap.size L.length ((pickNs ns L).take k)

theorem PgB.start (X0 : World) (ns : List Nd) (L : List Int) : PgB X0 (X0.alloc (.cells (madeCells #[.int .i64 0, .int .i64 0, .slice none 0 0] (L.length * 3)) 43)) ns L 0 := by
  refine ⟨(Below.refl _ _).alloc (Nat.le_refl _) _, ?_⟩
  have hrow : (X0.alloc (.cells (madeCells #[.int .i64 0, .int .i64 0, .slice none 0 0] (L.length * 3)) 43)).rowIs X0.heap.size 43 (L.length * 3) (fun i => ((madeCells #[.int .i64 0, .int .i64 0, .slice none 0 0] (L.length * 3))[i]?).getD undef) :=
    ⟨_, Lies.new X0 _ _, size_madeCells _ _, fun i hi => by
      show (madeCells #[.int .i64 0, .int .i64 0, .slice none 0 0] (L.length * 3))[i]? = some (((madeCells #[.int .i64 0, .int .i64 0, .slice none 0 0] (L.length * 3))[i]?).getD undef)
      rw [Array.getElem?_eq_getElem (by rw [size_madeCells]; exact hi)]
      rfl⟩
  have := (OwnRow.zero hrow).high (hi2 := (X0.alloc (.cells (madeCells #[.int .i64 0, .int .i64 0, .slice none 0 0] (L.length * 3)) 43)).heap.size) (by simp)
  simpa using this

theorem PgB.step {X0 wr w2 wi : World} {ns : List Nd} {L : List Int} {k i c : Nat} {n : Nd} {Ak : Option Addr} {ks : List Int} (h : PgB X0 wr ns L k) (hk : L[k]? = some (i : Int)) (hn : ns[i]? = some n) (h2 : Below wr.heap.size wr w2) (hi : Below w2.heap.size w2 wi)
    (hown : OwnI wi w2.heap.size Ak c ks) (hks : ks = n.kids.map (place L)) : PgB X0 (setN wi X0.heap.size k (.int .i64 n.kind) (.int .i64 n.value) (.slice Ak ks.length c)) ns L (k + 1) := by
  have hkl := (List.getElem?_eq_some_iff.1 hk).1
  have hb := h2.trans (hi.mono h2.size)
  have hlen : ((pickNs ns L).take k).length = k := by simp [pickNs_len]; omega
  refine ⟨setN_below (h.bel.trans (hb.mono h.bel.size)) (Nat.le_refl _), ?_⟩
  have hr : OwnRow wi X0.heap.size wr.heap.size X0.heap.size L.length ((pickNs ns L).take k) := h.row.kept (fun b _ hb' => hb.block b hb')
  have := hr.snoc (n := ⟨n.kind, n.value, n.kids.map (place L)⟩) (hi2 := wi.heap.size) (c := c) (A := Ak) (by omega) (by rw [← hks]; exact hown.lowB h2.size) (by have := hb.size; omega) (fun b hb' => (hown.blocks b hb').2)
  rw [hlen] at this
  rw [pickNs_take hk hn, setN_size, hks]
  exact this

set_option maxHeartbeats 1000000 in
theorem implPicked_any (A : Option Addr) (ns : List Nd) (c : Nat) (r : Int) (A2 : Option Addr) (L : List Int) (c2 : Nat) (w : World) (hr : NdsAt w w.heap.size A ns) (hL : IntsAt w w.heap.size A2 L) (hp : Pickable ns r L) :
    Calls Try.prog 50 #[.agg #[.slice A ns.length c, .int .i64 r], .slice A2 L.length c2] w (GivesG w (pickNs ns L) (place L r)) := by
  have hfew := hp.few
  have HP := hide hp
  have hB3 : Below w.heap.size w (((w.alloc (.cells #[.slice A ns.length c, .int .i64 r] 25)).alloc (.cells #[.slice none 0 0, .int .i64 0] 25)).alloc (.cells #[.map none, .slice none 0 0] 87)) := (((Below.refl _ _).alloc (Nat.le_refl _) _).alloc (by simp) _).alloc (by simp; omega) _
  have lG := ((Lies.new w #[.slice A ns.length c, .int .i64 r] 25).alloc (.cells #[.slice none 0 0, .int .i64 0] 25)).alloc (.cells #[.map none, .slice none 0 0] 87)
  have lR := (Lies.new (w.alloc (.cells #[.slice A ns.length c, .int .i64 r] 25)) #[.slice none 0 0, .int .i64 0] 25).alloc (.cells #[.map none, .slice none 0 0] 87)
  have lS := Lies.new ((w.alloc (.cells #[.slice A ns.length c, .int .i64 r] 25)).alloc (.cells #[.slice none 0 0, .int .i64 0] 25)) #[.map none, .slice none 0 0] 87
  simp only [World.size_alloc] at lR lS
  have hS0 : PgA w (((w.alloc (.cells #[.slice A ns.length c, .int .i64 r] 25)).alloc (.cells #[.slice none 0 0, .int .i64 0] 25)).alloc (.cells #[.map none, .slice none 0 0] 87)) A c ns r A2 L 0 :=
    ⟨hB3, lG, lR, ⟨none, none, 0, SetI.start lS (by omega)⟩, by simp⟩
  have HS0 := hide hS0
  have HR := hide hr
  have HL := hide hL
  clear hp hS0 lG lR lS hB3 hr hL
  go_enter Try.func50, Try.ntmps50
  go_wp2_with fail
  generalize (((w.alloc (.cells #[.slice A ns.length c, .int .i64 r] 25)).alloc (.cells #[.slice none 0 0, .int .i64 0] 25)).alloc (.cells #[.map none, .slice none 0 0] 87)) = W at HS0 ⊢
  go_loopg [13] L.length (fun gk iv wr => ∃ k : Nat, k ≤ L.length ∧ gk = L.length - k ∧ iv = .int .i64 (k : Int) ∧ PgA w wr A c ns r A2 L k)
  case atStart => exact ⟨0, Nat.zero_le _, rfl, rfl, HS0.out⟩
  case round =>
    clear HS0
    obtain ⟨k, hk, rfl, rfl, hS⟩ := hrel
    by_cases hlt : k < L.length
    · obtain ⟨b, off, x, rfl, hbl, hx, hm, hc⟩ := (HL.out.below hS.bel).at_ hlt
      obtain ⟨m, As, cs, hset⟩ := hS.set
      have hx64 := hide (HL.out.wf x hm)
      have hno : x ∉ L.take k := by
        intro hm2
        obtain ⟨j, hj, e⟩ := List.getElem_of_mem hm2
        have hj2 : j < k ∧ j < L.length := by simp at hj; omega
        rw [List.getElem_take] at e
        obtain ⟨hk2, e2⟩ := List.getElem?_eq_some_iff.1 hx
        have := (List.getElem_inj HP.out.nodup).1 (e.trans e2.symm)
        omega
      have HX := hide hx
      have HSet := hide hset
      have HNo := hide hno
      have HS := hide hS
      clear hx hset hno hS hm hbl
      go_wp2_with fail
      refine (addI_new _ _ m cs As (L.take k) x wr HSet.out hx64.out HS.out.size HNo.out (by simp; omega)).mono ?_
      rintro e w' ⟨rfl, hs', hbut⟩
      have HN := hide (HS.out.step HX.out hbut hs')
      clear hs' hbut HSet HS HNo HX hx64 hc
      go_wp2
      go_roundg (L.length - (k + 1))
      case measure => omega
      case rel => exact ⟨k + 1, by omega, rfl, by go_num, HN.out⟩
    · obtain rfl : k = L.length := by omega
      have hmk := makeNodesP L.length (by omega)
      have HS := hide hS
      clear hS hlt
      obtain ⟨X0, hX0⟩ : ∃ X, X = wr := ⟨_, rfl⟩
      subst hX0
      have HB0 := hide (PgB.start X0 ns L)
      obtain ⟨m, As, cs, hset⟩ := HS.out.set
      rw [List.take_length] at hset
      have HSet := hide hset
      clear hset
      go_wp2_with fail
      clear hmk
      generalize hX1 : X0.alloc (.cells (madeCells #[.int .i64 0, .int .i64 0, .slice none 0 0] (L.length * 3)) 43) = X1 at HB0 ⊢
      clear hX1
      go_loopg [25] L.length (fun gk iv wi => ∃ k : Nat, k ≤ L.length ∧ gk = L.length - k ∧ iv = .int .i64 (k : Int) ∧ PgB X0 wi ns L k)
      case atStart => exact ⟨0, Nat.zero_le _, rfl, rfl, HB0.out⟩
      case round =>
        clear HB0
        obtain ⟨W, hW⟩ : ∃ X, X = wr := ⟨_, rfl⟩
        subst hW
        obtain ⟨k, hk, rfl, rfl, hS2⟩ := hrel
        have lG := HS.out.lG.below hS2.bel (by have := HS.out.size; omega)
        have g0 := lG.cell 0
        have g1 := lG.cell 1
        simp at g0 g1
        by_cases hlt : k < L.length
        · have hBW := HS.out.bel.trans (hS2.bel.mono HS.out.bel.size)
          obtain ⟨b, off, x, rfl, hbl, hx, hm, hc⟩ := (HL.out.below hBW).at_ hlt
          obtain ⟨hx0, hx1⟩ := HP.out.range x hm
          obtain ⟨i, rfl⟩ := Int.eq_ofNat_of_zero_le hx0
          have hil : i < ns.length := by omega
          obtain ⟨b', off', n, rfl, hbl', hn, _, hnd⟩ := (HR.out.below hBW).at_ hil
          obtain ⟨A1, c1, k2, hki, _⟩ := hnd.kids
          have k0 := hnd.kind
          have k1 := hnd.value
          obtain ⟨hk1000, hkin⟩ := HP.out.closed i n hm hn
          have HX := hide hx
          have HN := hide hn
          have HKin := hide hkin
          have HS2 := hide hS2
          have hi3 : (0 : Int) ≤ (i : Int) := by omega
          have hi4 : (i : Int) < (ns.length : Int) := by omega
          have HRW := hide (rewired_any 70 #[.pointer (some ⟨w.heap.size + 1 + 1, 0, none⟩)] #[] (place L) n A1 c1 W (hki.later (Below.refl _ _) hBW.size) hk1000 (fun k _ => place_in64 (L := L) (by omega) k) (fun _ _ => by kernel_rfl)
            (fun y W' hb hy => numI_any _ _ m As cs L y W' (HSet.out.below (HS2.out.bel.trans (hb.mono HS2.out.bel.size))) (hki.wf y hy) (hkin y hy)))
          clear hx hm hn hkin hnd hki hS2 lG hx0 hx1 hbl hbl' hBW g1
          go_wp2_with fail
          refine HRW.out.mono ?_
          clear HRW
          rintro e wi ⟨Ak, ck, rfl, hown, hbi⟩
          obtain ⟨f, hf⟩ := HS2.out.row.row
          have hfw : wi.rowIs X0.heap.size 43 (L.length * 3) f := hf.of_block (hbi.block _ (by have := hf.lt; omega))
          have q0 := World.rowIs.cell hfw (i := k * 3) (by omega)
          have q1 := World.rowIs.cell hfw (i := k * 3 + 1) (by omega)
          have q2 := World.rowIs.cell hfw (i := k * 3 + 2) (by omega)
          have p0 := World.rowIs.frozen hfw (k * 3)
          have p1 := World.rowIs.frozen hfw (k * 3 + 1)
          have p2 := World.rowIs.frozen hfw (k * 3 + 2)
          have hBs := HS2.out.step HX.out HN.out (Below.refl _ _) hbi hown rfl
          simp only [List.length_map] at hBs
          have HB := hide hBs
          clear hBs
          have hk1 : (k : Int) < (L.length : Int) := by omega
          clear hown hbi hf hfw hc k2 k0 k1 g0
          go_wp2_with fail
          go_roundg (L.length - (k + 1))
          case measure => omega
          case rel => exact ⟨k + 1, by omega, rfl, by go_num, HB.out⟩
        · obtain rfl : k = L.length := by omega
          have hszX := HS.out.size
          have Hr := hide HP.out.root
          have Hr64 := hide (HL.out.wf r HP.out.root)
          have HSetW := hide (HSet.out.below hS2.bel)
          have lR := HS.out.lR.below hS2.bel (by omega)
          have l5 := (lR.set 0 (.slice (some ⟨X0.heap.size, 0, none⟩) L.length L.length)).set 1 (.int .i64 (place L r))
          simp only [List.setIfInBounds_toArray, List.set_cons_succ, List.set_cons_zero] at l5
          have s0 := l5.cell 0
          have s1 := l5.cell 1
          have q0 := lR.cell 0
          have q1 := lR.cell 1
          have q2 := lR.frozen 0
          have q3 := lR.frozen 1
          simp only [List.getElem?_toArray, List.getElem?_cons_zero, List.getElem?_cons_succ] at s0 s1 q0 q1
          have hrow : OwnRow ((W.setCell ⟨w.heap.size + 1, 0, none⟩ (.slice (some ⟨X0.heap.size, 0, none⟩) L.length L.length)).setCell ⟨w.heap.size + 1, 1, none⟩ (.int .i64 (place L r))) w.heap.size W.heap.size X0.heap.size L.length (pickNs ns L) := by
            have := hS2.row.low (lo2 := w.heap.size) (by omega)
            rw [List.take_of_length_le (by rw [pickNs_len]; exact Nat.le_refl _)] at this
            have h2 : OwnRow W X0.heap.size W.heap.size X0.heap.size L.length (pickNs ns L) := by
              have h3 := hS2.row
              rw [List.take_of_length_le (by rw [pickNs_len]; exact Nat.le_refl _)] at h3
              exact h3
            exact (h2.kept (fun b hb _ => (Below.heap_setCell _ _ _ _ (by show b ≠ w.heap.size + 1; omega)).trans (Below.heap_setCell _ _ _ _ (by show b ≠ w.heap.size + 1; omega)))).low (by omega)
          have HROW := hide hrow
          have HBL := hide (((HS.out.bel.trans (hS2.bel.mono HS.out.bel.size)).setCell (p := ⟨w.heap.size + 1, 0, none⟩) (by show w.heap.size ≤ w.heap.size + 1; omega) (.slice (some ⟨X0.heap.size, 0, none⟩) L.length L.length)).setCell (p := ⟨w.heap.size + 1, 1, none⟩) (by show w.heap.size ≤ w.heap.size + 1; omega) (.int .i64 (place L r)))
          have Hlen := hide (pickNs_len ns L)
          clear hrow hS2 lR l5 lG hlt hszX g0
          go_wp2_with fail
          refine (numI_any _ _ m As cs L r W HSetW.out Hr64.out Hr.out).mono ?_
          rintro e w' ⟨rfl, rfl⟩
          go_wp2
          refine bodyPost_ret (v := .agg #[.slice (some ⟨X0.heap.size, 0, none⟩) L.length L.length, .int .i64 (place L r)]) (by simp [results, Try.results50, go_sem, s0, s1]) rfl ?_
          exact ⟨some ⟨X0.heap.size, 0, none⟩, L.length, by rw [Hlen.out], .inr ⟨_, rfl, by simpa using HROW.out⟩, HBL.out⟩

end Go.Proofs.Ythgklkpfmjgeoaa
