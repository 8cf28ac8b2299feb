/-
  Lemmas, several texts in one: RowN, PickM, CodOI.
-/
import Derived.Test.YtigelbilfddhgaaOwnNB
import Derived.Deep.AppendLies
import Derived.Test.YtigelbilfddhgaaPickG
import Derived.Test.YtigelbilfddhgaaIso
import Derived.Test.YtigelbilfddhgaaCodF
import Derived.Test.YtigelbilfddhgaaImplD
namespace Go.Proofs.Ytigelbilfddhgaa
open Go.RowKit
set_option linter.unusedVariables false

/-- the three cells of a node in a list of cells; the kids lie in a row of their own -/
def CellsN (w : World) (base : Nat) (cs : List Value) (j : Nat) (n : Nd) : Prop :=
  ∃ (A : Option Addr) (c : Nat), cs[j * 3]? = some (.int .i64 n.kind) ∧ cs[j * 3 + 1]? = some (.int .i64 n.value) ∧ cs[j * 3 + 2]? = some (.slice A n.kids.length c) ∧ OwnI w base A c n.kids

/-- the slice (A, length of ns, c) is a row of the call's own that reads as ns -/
structure RowN (w : World) (base : Nat) (A : Option Addr) (c : Nat) (ns : List Nd) : Prop where
  row : ∃ cs, w.ownsRow base 41 3 (.slice A ns.length c) ns.length cs ∧ ∀ j n, ns[j]? = some n → CellsN w base cs j n

theorem RowN.nil (w : World) (base : Nat) : RowN w base none 0 [] := ⟨⟨[], World.ownsRow_nil _ _ _ _, fun j n h => by simp at h⟩⟩

theorem RowN.blocks {w : World} {base : Nat} {A : Option Addr} {c : Nat} {ns : List Nd} (h : RowN w base A c ns) : ∀ b, blockOf A = some b → base ≤ b ∧ b < w.heap.size := by
  obtain ⟨cs, h1, _⟩ := h.row
  exact fun b hb => World.ownsRow.lt h1 b (by rw [ownBlock_slice]; exact hb)

/-- a row of nodes and a row of ints are not the same block -/
theorem node_int_ne {w : World} {base base' n k size : Nat} {A A' : Option Addr} {c c' : Nat} {xs ys : List Value} (h : w.ownsRow base 41 3 (.slice A n c) n xs) (h' : w.ownsRow base' 3 size (.slice A' k c') k ys) : ∀ b, blockOf A = some b → blockOf A' ≠ some b := by
  intro b hb hb'
  rcases h.2 with ⟨h1, _⟩ | ⟨g, cap, cur, hv, _, hh, _⟩
  · injection h1 with h1 _ _
    rw [h1] at hb; cases hb
  · rcases h'.2 with ⟨h1', _⟩ | ⟨g', cap', cur', hv', _, hh', _⟩
    · injection h1' with h1' _ _
      rw [h1'] at hb'; cases hb'
    · injection hv with hv _ _
      injection hv' with hv' _ _
      subst hv hv'
      simp [blockOf] at hb hb'
      subst hb hb'
      rw [hh] at hh'
      injection hh' with hh'
      injection hh' with _ e _
      exact absurd e (by decide)

theorem RowN.below {w w' : World} {base : Nat} {A : Option Addr} {c : Nat} {ns : List Nd} (h : RowN w base A c ns) (hb : Below w.heap.size w w') : RowN w' base A c ns := by
  obtain ⟨cs, h1, h2⟩ := h.row
  refine ⟨⟨cs, h1.kept (grownBy_of_below hb) (by rw [ownBlock_slice]; cases blockOf A <;> simp), fun j n hj => ?_⟩⟩
  obtain ⟨A1, c1, a1, a2, a3, a4⟩ := h2 j n hj
  exact ⟨A1, c1, a1, a2, a3, a4.below hb⟩

theorem RowN.nds {w : World} {base : Nat} {A : Option Addr} {c : Nat} {ns : List Nd} (h : RowN w base A c ns) (hwf : WfN ns) (hl : ns.length ≤ 9223372036854775807) : NdsAt w w.heap.size A ns := by
  obtain ⟨cs, h1, h2⟩ := h.row
  refine ⟨fun hx => ?_, hl⟩
  rcases h1.2 with ⟨_, h3⟩ | ⟨g, cap, cur, hv, _, hh, _⟩
  · exact absurd (List.eq_nil_of_length_eq_zero h3) hx
  · injection hv with hv _ hc
    subst hv hc
    refine ⟨g, 0, rfl, lt_of_block hh, fun j n hj => ?_⟩
    have hjl := (List.getElem?_eq_some_iff.1 hj).1
    obtain ⟨A1, c1, a1, a2, a3, a4⟩ := h2 j n hj
    obtain ⟨w1, w2, w3, w4⟩ := hwf n (List.mem_of_getElem? hj)
    rw [Nat.zero_add]
    exact ⟨(h1.cellAt _ (by omega)).trans a1, (h1.cellAt _ (by omega)).trans a2, ⟨A1, c1, (h1.cellAt _ (by omega)).trans a3, a4.ints w3 w4, a4.nil⟩, w1, w2⟩

/-- append of one node with kids -/
theorem append_ndK {w : World} {ops : Array Oper} {rest : List Oper} {o : Oper} {a : Act} {Q : Exit → Act → World → Prop} (hgd : o.guard = none) (s x : Operand)
    (ho : o.op = .call { callee := .builtin .append, args := #[s, x], argTypes := #[23, 23] })
    (base : Nat) (An : Option Addr) (cn : Nat) (ns : List Nd) (hs : a.eval s = .slice An ns.length cn) (hrow : RowN w base An cn ns) (b : Nat) (n : Nd) (Ak : Option Addr) (ck : Nat) (t : TypeId) (hx : a.eval x = .slice (some ⟨b, 0, none⟩) 1 1)
    (hr : w.heap[b]? = some (.cells #[.int .i64 n.kind, .int .i64 n.value, .slice Ak n.kids.length ck] t (0, 0))) (hown : OwnI w base Ak ck n.kids) (hbase : base ≤ w.heap.size) (hn : ns.length ≤ 1000)
    (h : ∀ (A' : Option Addr) (c' : Nat) (w' : World), RowN w' base A' c' (ns ++ [n]) → w.grownBy w' (blockOf An) →
      wpList Try.prog ops Q rest (a.put o.dst (.slice A' (ns.length + 1) c')) w') : wpList Try.prog ops Q (o :: rest) a w := by
  obtain ⟨i0, hi, hz0, hz1, hz2⟩ := info_parts infoNdA
  obtain ⟨cs, h1, hcs⟩ := hrow.row
  have hlen := h1.1
  refine wpList_append_own_at w hgd s x 23 ho base 41 i0 _ 3 40 Try.underlying23 hi hz0 hz1 hz2 rfl (by omega) _ ns.length cs hs h1 ⟨b, 0, none⟩ 1 1 [.int .i64 n.kind, .int .i64 n.value, .slice Ak n.kids.length ck] hx (by simp) (World.news_of_block hr) (by
      intro u hu
      simp at hu
      rcases hu with rfl | rfl | rfl <;> rfl)
    (by unfold maxLen; omega) (by omega) hbase ?_
  intro v' w' h2 h3 _ h5
  rw [ownBlock_slice] at h3
  have h2' := h2
  rcases h2.2 with ⟨_, h6⟩ | ⟨g, cap, cur, rfl, hg, hh, r⟩
  · omega
  · refine h (some ⟨g, 0, none⟩) cap w' ⟨⟨_, by simpa using h2', fun j m hj => ?_⟩⟩ h3
    have hkeep : ∀ (A1 : Option Addr) (c1 : Nat) (ks : List Int), OwnI w base A1 c1 ks → OwnI w' base A1 c1 ks := fun A1 c1 ks ho => ho.kept h3 (by
      cases hA : blockOf A1 with
      | none => exact .inl rfl
      | some q => exact .inr (fun e => node_int_ne h1 ho.own q e.symm hA))
    rw [List.getElem?_append] at hj
    split at hj
    next hlt =>
      obtain ⟨A1, c1, a1, a2, a3, a4⟩ := hcs j m hj
      exact ⟨A1, c1, by rw [List.getElem?_append_left (by omega)]; exact a1, by rw [List.getElem?_append_left (by omega)]; exact a2, by rw [List.getElem?_append_left (by omega)]; exact a3, hkeep _ _ _ a4⟩
    next hlt =>
      have hjl := (List.getElem?_eq_some_iff.1 hj).1
      simp at hjl
      obtain rfl : j = ns.length := by omega
      simp at hj
      subst hj
      refine ⟨Ak, ck, ?_, ?_, ?_, hkeep _ _ _ hown⟩
      · rw [List.getElem?_append_right (by omega), hlen]; simp
      · rw [List.getElem?_append_right (by omega), hlen]; simp
      · rw [List.getElem?_append_right (by omega), hlen]; simp

end Go.Proofs.Ytigelbilfddhgaa

namespace Go.Proofs.Ytigelbilfddhgaa
open Go.RowKit
set_option linter.unusedVariables false

theorem pick_at {ns : List Nd} {L : List Int} {j i : Nat} {n : Nd} (hj : L[j]? = some (i : Int)) (hn : ns[i]? = some n) : (pickNs ns L)[j]? = some ⟨n.kind, n.value, n.kids.map (place L)⟩ := by
  unfold pickNs
  rw [List.getElem?_map, hj]
  simp [pickN_at hn]

theorem place_inj {L : List Int} {x y : Int} (hx : x ∈ L) (hy : y ∈ L) (h : place L x = place L y) : x = y := by
  rw [place_pos hx, place_pos hy] at h
  have h1 : L.idxOf x = L.idxOf y := by omega
  have h2 := List.getElem_idxOf (List.idxOf_lt_length_of_mem hx)
  have h3 := List.getElem_idxOf (List.idxOf_lt_length_of_mem hy)
  rw [← h2, ← h3]
  congr 1

theorem place_get {L : List Int} (hn : L.Nodup) {j : Nat} {x : Int} (hj : L[j]? = some x) : place L x = (j : Int) := by
  refine place_at hj (fun i hi e => ?_)
  obtain ⟨h1, h2⟩ := List.getElem?_eq_some_iff.1 hj
  obtain ⟨h3, h4⟩ := List.getElem?_eq_some_iff.1 e
  have := (List.getElem_inj hn).1 (h4.trans h2.symm)
  omega

theorem iso_pick {ns : List Nd} {r : Int} {L : List Int} (hp : Pickable ns r L) : Iso ns (pickNs ns L) (fun x => x ∈ L) (place L) := by
  refine ⟨hp.range, fun x hx => ?_, fun x y hx hy => place_inj hx hy, fun i n hi hn => ?_, fun i n hi hn => (hp.closed i n hi hn).2⟩
  · have := place_lt hx
    rw [pickNs_len]
    exact this
  · rw [place_pos hi, Int.toNat_natCast]
    refine pick_at ?_ hn
    have h := List.idxOf_lt_length_of_mem hi
    rw [List.getElem?_eq_getElem h, List.getElem_idxOf h]

theorem pick_onto {ns : List Nd} {r : Int} {L : List Int} (hp : Pickable ns r L) : ∀ j : Nat, j < (pickNs ns L).length → ∃ x, x ∈ L ∧ place L x = (j : Int) := by
  intro j hj
  rw [pickNs_len] at hj
  exact ⟨L[j], List.getElem_mem hj, place_get hp.nodup (List.getElem?_eq_getElem hj)⟩

theorem pick_valid {ns : List Nd} {r : Int} {L : List Int} (hv : ValidG ns r) (hp : Pickable ns r L) : ValidG (pickNs ns L) (place L r) :=
  (iso_pick hp).valid hv hp.root (pick_onto hp) (by rw [pickNs_len]; exact hp.few)

theorem pick_wf {ns : List Nd} {r : Int} {L : List Int} (hv : ValidG ns r) (hp : Pickable ns r L) : Wf (pickNs ns L) := by
  have hw := pick_valid hv hp
  intro n hn
  have hok := hw.nodes n hn
  have hk := hok.kind
  unfold KindOk at hk
  have h6 := hok.few
  have hf := hw.few
  refine ⟨?_, ?_, fun x hx => ?_, by omega⟩
  · constructor <;> omega
  · constructor <;> omega
  · have := hok.inn x hx
    constructor <;> omega

theorem pick_code {ns : List Nd} {r : Int} {L : List Int} (hv : ValidG ns r) (hp : Pickable ns r L) : codeOf (pickNs ns L) (place L r) = codeOf ns r := by
  have hw := pick_valid hv hp
  unfold codeOf
  rw [if_pos hv, if_pos hw]
  refine (iso_pick hp).code hv hw (pick_wf hv hp) hp.root ?_
  rw [pickNs_len]
  exact nodup_le _ _ hp.nodup hp.range

end Go.Proofs.Ytigelbilfddhgaa

namespace Go.Proofs.Ytigelbilfddhgaa
open Go.RowKit Go.Maps
set_option linter.unusedVariables false

set_option maxHeartbeats 1000000 in
theorem implCodeOf_any (A : Option Addr) (ns : List Nd) (c : Nat) (r : Int) (w : World) (hr : NdsAt w w.heap.size A ns) :
    Calls Try.prog 19 #[.agg #[.slice A ns.length c, .int .i64 r]] w (GivesInts w (codeOf ns r)) := by
  have hB : Below w.heap.size w (w.alloc (.cells #[.slice A ns.length c, .int .i64 r] 25)) := (Below.refl _ _).alloc (Nat.le_refl _) _
  have l1 := Lies.new w #[.slice A ns.length c, .int .i64 r] 25
  have hr2 := hr.later hB (Nat.le_refl _)
  have hwf := hide hr.wf
  clear hr
  by_cases hv : ValidG ns r
  · obtain ⟨i, rfl⟩ := Int.eq_ofNat_of_zero_le hv.root0
    have hg := hide (codG_of_valid hv hwf.out)
    have h12 := hv.few
    have hi : i < ns.length := by have := hv.root; omega
    have HV := hide hv
    have he : Hid (codeOf ns i = (cod ns (ns.length + 1) i ([], [])).1) := by show _ = _; unfold codeOf; rw [if_pos hv]
    clear hv
    go_enter Try.func19, Try.ntmps19
    go_wp2_with fail
    generalize w.alloc (.cells #[.slice A ns.length c, .int .i64 (i : Int)] 25) = W at hB l1 hr2 ⊢
    refine (implValid_any A ns c i W hr2).mono ?_
    rintro e w1 ⟨rfl, hb1⟩
    rw [tf_true HV.out]
    have l2 := l1.below hb1 l1.lt
    have hr3 := hr2.later hb1 (Nat.le_refl _)
    have hB1 := hB.trans (hb1.mono hB.size)
    have e0 := l2.cell 0
    have e1 := l2.cell 1
    simp at e0 e1
    have hi64 : In64 (i : Int) := by constructor <;> omega
    have hb0 : Below w1.heap.size w1 (w1.alloc (.cells #[.int .i64 (i : Int)] 3)) := (Below.refl _ _).alloc (Nat.le_refl _) _
    have hB1 := hB1.trans (hb0.mono hB1.size)
    have HN := hide (hr3.later hb0 (Nat.le_refl _))
    have h1R := (IntsAt.one w1 (i : Int) hi64).more (show w1.heap.size + 1 ≤ (w1.alloc (.cells #[.int .i64 (i : Int)] 3)).heap.size by simp)
    have H1R := hide h1R
    clear l1 hr2 hb1 hB hr3 h1R hb0
    go_wp2_with fail
    refine (codeFroms_any ns 6 hg.out (by omega) A c (some ⟨w1.heap.size, 0, none⟩) 1 [(i : Int)] (by simp; omega) _ HN.out H1R.out (fun x hx => by simp at hx; subst hx; omega)).mono ?_
    rw [codL_one]
    rintro e w2 ⟨Ao, co, rfl, hown, hb2⟩
    have Hfin : Hid (GivesInts w (codeOf ns i) (.returned (.slice Ao (cod ns (ns.length + 1) i ([], [])).1.length co)) w2) := by
      show GivesInts _ _ _ _
      rw [he.out]
      exact ⟨Ao, co, rfl, hown.mono hB1.size, hB1.trans (hb2.mono hB1.size)⟩
    clear hown hb2 e0 e1
    go_wp2
    go_ret
    exact Hfin.out
  · have HV := hide hv
    clear hv
    go_enter Try.func19, Try.ntmps19
    go_wp2_with fail
    refine (implValid_any A ns c r _ hr2).mono ?_
    rintro e w1 ⟨rfl, hb1⟩
    rw [tf_false HV.out]
    have hB1 := hB.trans (hb1.mono hB.size)
    clear hb1 hB hr2
    go_wp2
    go_ret
    unfold codeOf
    rw [if_neg HV.out]
    exact ⟨none, 0, rfl, OwnI.empty _ _, hB1⟩

end Go.Proofs.Ytigelbilfddhgaa
