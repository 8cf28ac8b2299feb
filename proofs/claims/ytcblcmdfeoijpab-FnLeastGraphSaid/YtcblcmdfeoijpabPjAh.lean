/-
  Lemmas, several texts in one: OwnNB, NumI, GivNd, RowN, ClnA, EqI, JoiM, Cod.
-/
import Derived.Test.YtcblcmdfeoijpabPjAc
import Derived.Test.YtcblcmdfeoijpabPjAd
import Derived.Test.YtcblcmdfeoijpabSetI
import Derived.Maps.OwnOps
import Derived.Test.YtcblcmdfeoijpabPjAa
import Derived.Deep.AppendLies
import Derived.Deep.LoopGhost
import Derived.Test.YtcblcmdfeoijpabMem
import Derived.Test.YtcblcmdfeoijpabPjAb
namespace Go.Proofs.Ytcblcmdfeoijpab
open Go.RowKit
set_option linter.unusedVariables false

/-- the world behind a store to the node j -/
def setN (w : World) (g j : Nat) (v0 v1 v2 : Value) : World := ((w.setCell ⟨g, j * 3, none⟩ v0).setCell ⟨g, j * 3 + 1, none⟩ v1).setCell ⟨g, j * 3 + 2, none⟩ v2

theorem setN_block {w : World} {g j k : Nat} {v0 v1 v2 : Value} (hk : k ≠ g) : (setN w g j v0 v1 v2).heap[k]? = w.heap[k]? := by
  unfold setN
  rw [Below.heap_setCell _ _ _ _ (by show k ≠ g; exact hk), Below.heap_setCell _ _ _ _ (by show k ≠ g; exact hk), Below.heap_setCell _ _ _ _ (by show k ≠ g; exact hk)]
theorem setN_size {w : World} {g j : Nat} {v0 v1 v2 : Value} : (setN w g j v0 v1 v2).heap.size = w.heap.size := by unfold setN; simp
theorem setN_far {w : World} {g j q : Nat} {v0 v1 v2 : Value} (hq : q < j * 3 ∨ j * 3 + 2 < q) : (setN w g j v0 v1 v2).cell? ⟨g, q, none⟩ = w.cell? ⟨g, q, none⟩ := by
  unfold setN
  rw [World.cell?_setCell_other, World.cell?_setCell_other, World.cell?_setCell_other] <;> (intro e; injection e with _ e; omega)
theorem setN_row {w : World} {g j n : Nat} {t : TypeId} {f : Nat → Value} (h : w.rowIs g t n f) (v0 v1 v2 : Value) : ∃ f', (setN w g j v0 v1 v2).rowIs g t n f' := ⟨_, ((h.set _ _).set _ _).set _ _⟩
theorem setN_at {w : World} {g j n : Nat} {t : TypeId} {f : Nat → Value} (h : w.rowIs g t n f) (hn : j * 3 + 2 < n) (v0 v1 v2 : Value) : (setN w g j v0 v1 v2).cell? ⟨g, j * 3, none⟩ = some v0 ∧ (setN w g j v0 v1 v2).cell? ⟨g, j * 3 + 1, none⟩ = some v1 ∧ (setN w g j v0 v1 v2).cell? ⟨g, j * 3 + 2, none⟩ = some v2 := by
  have hr := ((h.set (j * 3) v0).set (j * 3 + 1) v1).set (j * 3 + 2) v2
  unfold setN
  refine ⟨?_, ?_, ?_⟩
  · have := hr.cell (i := j * 3) (by omega)
    simpa using this
  · have := hr.cell (i := j * 3 + 1) (by omega)
    simpa using this
  · have := hr.cell (i := j * 3 + 2) (by omega)
    simpa using this
theorem setN_below {w w' : World} {B g j : Nat} {v0 v1 v2 : Value} (h : Below B w w') (hg : B ≤ g) : Below B w (setN w' g j v0 v1 v2) :=
  ((h.setCell (p := ⟨g, j * 3, none⟩) hg v0).setCell (p := ⟨g, j * 3 + 1, none⟩) hg v1).setCell (p := ⟨g, j * 3 + 2, none⟩) hg v2

theorem OwnI.lowB {w : World} {base base' : Nat} {A : Option Addr} {c : Nat} {xs : List Int} (h : OwnI w base A c xs) (hb : base' ≤ base) : OwnI w base' A c xs := by
  refine ⟨h.own.1, ?_⟩
  rcases h.own.2 with h2 | ⟨g, cap, cur, hv, hg, r⟩
  · exact .inl h2
  · exact .inr ⟨g, cap, cur, hv, by omega, r⟩

/-- a node is written behind the others; its kids' row is new -/
theorem OwnRow.snoc {w : World} {lo hi hi2 g cap c : Nat} {A : Option Addr} {ns : List Nd} {n : Nd} (h : OwnRow w lo hi g cap ns) (hcap : ns.length < cap) (hown : OwnI w hi A c n.kids) (h2 : hi ≤ hi2) (hA : ∀ b, blockOf A = some b → b < hi2) :
    OwnRow (setN w g ns.length (.int .i64 n.kind) (.int .i64 n.value) (.slice A n.kids.length c)) lo hi2 g cap (ns ++ [n]) := by
  obtain ⟨f, hf⟩ := h.row
  have hlo := h.hlo
  have hhi := h.hhi
  have hat := setN_at (j := ns.length) hf (by omega) (.int .i64 n.kind) (.int .i64 n.value) (.slice A n.kids.length c)
  have hAb : ∀ b, blockOf A = some b → hi ≤ b := fun b hb => (hown.blocks b hb).1
  have hgA : ∀ b, blockOf A = some b → b ≠ g := fun b hb => by have := hAb b hb; omega
  have hown2 : OwnI (setN w g ns.length (.int .i64 n.kind) (.int .i64 n.value) (.slice A n.kids.length c)) lo A c n.kids := (hown.of_blk (fun b hb => setN_block (hgA b hb))).lowB (by omega)
  refine ⟨setN_row hf _ _ _, by simp; omega, hlo, by omega, fun j m hj => ?_, fun i j A1 A2 k1 k2 c1 c2 hij hi' hj' e1 e2 b hb => ?_⟩
  · rw [List.getElem?_append] at hj
    split at hj
    next hlt =>
      have hn := h.nd j m hj
      obtain ⟨A1, c1, h1, h3, h4⟩ := hn.kids
      exact ⟨(setN_far (by omega)).trans hn.kind, (setN_far (by omega)).trans hn.value, ⟨A1, c1, (setN_far (by omega)).trans h1, h3.of_blk (fun b hb => setN_block (h4 b hb).2), fun b hb => ⟨by have := (h4 b hb).1; omega, (h4 b hb).2⟩⟩⟩
    next hlt =>
      have hjl := (List.getElem?_eq_some_iff.1 hj).1
      simp at hjl
      obtain rfl : j = ns.length := by omega
      simp at hj
      subst hj
      exact ⟨hat.1, hat.2.1, ⟨A, c, hat.2.2, hown2, fun b hb => ⟨hA b hb, hgA b hb⟩⟩⟩
  · simp at hi' hj'
    by_cases ei : i = ns.length
    · subst ei
      rw [hat.2.2] at e1
      injection e1 with e1
      injection e1 with e1 _ _
      subst e1
      have hj2 : j < ns.length := by omega
      rw [setN_far (by omega)] at e2
      intro e3
      obtain ⟨A3, c3, g1, _, g3⟩ := (h.nd j _ (List.getElem?_eq_getElem hj2)).kids
      rw [e2] at g1
      injection g1 with g1
      injection g1 with g1 _ _
      subst g1
      have := (g3 b e3).1
      have := hAb b hb
      omega
    · have hi2' : i < ns.length := by omega
      rw [setN_far (by omega)] at e1
      obtain ⟨A3, c3, g1, _, g3⟩ := (h.nd i _ (List.getElem?_eq_getElem hi2')).kids
      have e1' := e1
      rw [e1'] at g1
      injection g1 with g1
      injection g1 with g1 _ _
      subst g1
      by_cases ej : j = ns.length
      · subst ej
        rw [hat.2.2] at e2
        injection e2 with e2
        injection e2 with e2 _ _
        subst e2
        intro e3
        have := (g3 b hb).1
        have := hAb b e3
        omega
      · rw [setN_far (by omega)] at e2
        exact h.dis i j A1 A2 k1 k2 c1 c2 hij hi2' (by omega) e1 e2 b hb

/-- a row may be said to reach further up -/
theorem OwnRow.high {w : World} {lo hi hi2 g cap : Nat} {ns : List Nd} (h : OwnRow w lo hi g cap ns) (h2 : hi ≤ hi2) : OwnRow w lo hi2 g cap ns :=
  ⟨h.row, h.le, h.hlo, by have := h.hhi; omega, fun j n hj => by
    have hn := h.nd j n hj
    obtain ⟨A, c, h1, h3, h4⟩ := hn.kids
    exact ⟨hn.kind, hn.value, ⟨A, c, h1, h3, fun b hb => ⟨by have := (h4 b hb).1; omega, (h4 b hb).2⟩⟩⟩, h.dis⟩

theorem OwnRow.low {w : World} {lo lo2 hi g cap : Nat} {ns : List Nd} (h : OwnRow w lo hi g cap ns) (h2 : lo2 ≤ lo) : OwnRow w lo2 hi g cap ns :=
  ⟨h.row, h.le, by have := h.hlo; omega, h.hhi, fun j n hj => by
    have hn := h.nd j n hj
    obtain ⟨A, c, h1, h3, h4⟩ := hn.kids
    exact ⟨hn.kind, hn.value, ⟨A, c, h1, h3.lowB h2, h4⟩⟩, h.dis⟩

/-- the node x of ns, its kids by their places in L -/
def pickN (ns : List Nd) (L : List Int) (x : Int) : Nd := match ns[x.toNat]? with | some n => ⟨n.kind, n.value, n.kids.map (place L)⟩ | none => ⟨0, 0, []⟩

theorem pickN_at {ns : List Nd} {L : List Int} {i : Nat} {n : Nd} (h : ns[i]? = some n) : pickN ns L (i : Int) = ⟨n.kind, n.value, n.kids.map (place L)⟩ := by
  unfold pickN
  rw [Int.toNat_natCast, h]

/-- the nodes of L, in its order -/
def pickNs (ns : List Nd) (L : List Int) : List Nd := L.map (pickN ns L)

theorem pickNs_len (ns : List Nd) (L : List Int) : (pickNs ns L).length = L.length := by simp [pickNs]

theorem pickNs_take {ns : List Nd} {L : List Int} {k i : Nat} {n : Nd} (hk : L[k]? = some (i : Int)) (h : ns[i]? = some n) : (pickNs ns L).take (k + 1) = (pickNs ns L).take k ++ [⟨n.kind, n.value, n.kids.map (place L)⟩] := by
  have : (pickNs ns L)[k]? = some ⟨n.kind, n.value, n.kids.map (place L)⟩ := by
    unfold pickNs
    rw [List.getElem?_map, hk]
    simp [pickN_at h]
  rw [List.take_add_one, this]
  rfl

theorem place_in64 {L : List Int} (hl : L.length ≤ 1000) (x : Int) : In64 (place L x) := by
  by_cases h : x ∈ L
  · rw [place_pos h]
    have := List.idxOf_lt_length_of_mem h
    constructor <;> omega
  · rw [place_neg h]
    constructor <;> omega

/-- a graph of the call's own comes back -/
def GivesG (w : World) (ms : List Nd) (r : Int) (e : Ending) (w' : World) : Prop :=
  ∃ A c, e = .returned (.agg #[.slice A ms.length c, .int .i64 r]) ∧ OwnNs w' w.heap.size w'.heap.size A c ms ∧ Below w.heap.size w w'

end Go.Proofs.Ytcblcmdfeoijpab

namespace Go.Proofs.Ytcblcmdfeoijpab
open Go.RowKit Go.Maps
set_option linter.unusedVariables false

theorem place_idx {L : List Int} {x : Int} (h : x ∈ L) : (L.idxOf x : Int) = place L x := (place_pos h).symm

set_option maxHeartbeats 1000000 in
theorem numI_any (g base : Nat) (m : Option Nat) (A : Option Addr) (c : Nat) (L : List Int) (x : Int) (w : World) (h : SetI w g base m A c L) (hx : In64 x) (hin : x ∈ L) :
    Calls Try.prog 53 #[.pointer (some ⟨g, 0, none⟩), .int .i64 x] w fun e w' => e = .returned (.int .i64 (place L x)) ∧ w = w' := by
  obtain ⟨hbox, _, hmap, hlt, _⟩ := h
  rcases hmap with ⟨rfl, rfl⟩ | ⟨b, n, D, rfl, hb, hown, hn, hhas, hat⟩
  · cases hin
  · have b0 := hbox.cell 0
    simp at b0
    have hat1 := hat x hin
    have HP := hide (place_idx hin)
    clear hbox hhas hat hin
    go_enter Try.func53, Try.ntmps53
    go_wp2_with (at_lookup; refine wpList_lookup_own_int _ rfl _ _ 65 rfl 3 3 .i64 lawI Try.underlying65 Try.underlying3 (zeroI _) b n _ rfl hown _ _ rfl (keyOf_i hx) ?_; intro cc hat2 hwc)
    go_ret
    rw [hat1] at hat2
    injection hat2 with hat2
    injection hat2 with _ hat2
    exact ⟨ret_int (by rw [← HP.out, ← hat2]), rfl⟩

end Go.Proofs.Ytcblcmdfeoijpab

namespace Go.Proofs.Ytcblcmdfeoijpab
open Go.RowKit
set_option linter.unusedVariables false

/-- a node, its kids in memory of the call's own -/
def GivesNd (w : World) (k v : Int) (ks : List Int) (e : Ending) (w' : World) : Prop := ∃ A c, e = .returned (.agg #[.int .i64 k, .int .i64 v, .slice A ks.length c]) ∧ OwnI w' w.heap.size A c ks ∧ Below w.heap.size w w'

end Go.Proofs.Ytcblcmdfeoijpab

namespace Go.Proofs.Ytcblcmdfeoijpab
open Go.RowKit
set_option linter.unusedVariables false

/-- the three cells of a node in a list of cells; the kids lie in a row of their own -/
def CellsN (w : World) (base : Nat) (cs : List Value) (j : Nat) (n : Nd) : Prop :=
  ∃ (A : Option Addr) (c : Nat), cs[j * 3]? = some (.int .i64 n.kind) ∧ cs[j * 3 + 1]? = some (.int .i64 n.value) ∧ cs[j * 3 + 2]? = some (.slice A n.kids.length c) ∧ OwnI w base A c n.kids

/-- the slice (A, length of ns, c) is a row of the call's own that reads as ns -/
structure RowN (w : World) (base : Nat) (A : Option Addr) (c : Nat) (ns : List Nd) : Prop where
  row : ∃ cs, w.ownsRow base 41 3 (.slice A ns.length c) ns.length cs ∧ ∀ j n, ns[j]? = some n → CellsN w base cs j n

theorem RowN.nil (w : World) (base : Nat) : RowN w base none 0 [] := ⟨⟨[], World.ownsRow_nil _ _ _ _, fun j n h => by simp at h⟩⟩

theorem RowN.blocks {w : World} {base : Nat} {A : Option Addr} {c : Nat} {ns : List Nd} (h : RowN w base A c ns) : ∀ b, blockOf A = some b → base ≤ b ∧ b < w.heap.size := by
  obtain ⟨cs, h1, _⟩ := h.row
  exact fun b hb => World.ownsRow.lt h1 b (by rw [ownBlock_slice]; exact hb)

/-- a row of nodes and a row of ints are not the same block -/
theorem node_int_ne {w : World} {base base' n k size : Nat} {A A' : Option Addr} {c c' : Nat} {xs ys : List Value} (h : w.ownsRow base 41 3 (.slice A n c) n xs) (h' : w.ownsRow base' 3 size (.slice A' k c') k ys) : ∀ b, blockOf A = some b → blockOf A' ≠ some b := by
  intro b hb hb'
  rcases h.2 with ⟨h1, _⟩ | ⟨g, cap, cur, hv, _, hh, _⟩
  · injection h1 with h1 _ _
    rw [h1] at hb; cases hb
  · rcases h'.2 with ⟨h1', _⟩ | ⟨g', cap', cur', hv', _, hh', _⟩
    · injection h1' with h1' _ _
      rw [h1'] at hb'; cases hb'
    · injection hv with hv _ _
      injection hv' with hv' _ _
      subst hv hv'
      simp [blockOf] at hb hb'
      subst hb hb'
      rw [hh] at hh'
      injection hh' with hh'
      injection hh' with _ e _
      exact absurd e (by decide)

theorem RowN.below {w w' : World} {base : Nat} {A : Option Addr} {c : Nat} {ns : List Nd} (h : RowN w base A c ns) (hb : Below w.heap.size w w') : RowN w' base A c ns := by
  obtain ⟨cs, h1, h2⟩ := h.row
  refine ⟨⟨cs, h1.kept (grownBy_of_below hb) (by rw [ownBlock_slice]; cases blockOf A <;> simp), fun j n hj => ?_⟩⟩
  obtain ⟨A1, c1, a1, a2, a3, a4⟩ := h2 j n hj
  exact ⟨A1, c1, a1, a2, a3, a4.below hb⟩

theorem RowN.nds {w : World} {base : Nat} {A : Option Addr} {c : Nat} {ns : List Nd} (h : RowN w base A c ns) (hwf : WfN ns) (hl : ns.length ≤ 9223372036854775807) : NdsAt w w.heap.size A ns := by
  obtain ⟨cs, h1, h2⟩ := h.row
  refine ⟨fun hx => ?_, hl⟩
  rcases h1.2 with ⟨_, h3⟩ | ⟨g, cap, cur, hv, _, hh, _⟩
  · exact absurd (List.eq_nil_of_length_eq_zero h3) hx
  · injection hv with hv _ hc
    subst hv hc
    refine ⟨g, 0, rfl, lt_of_block hh, fun j n hj => ?_⟩
    have hjl := (List.getElem?_eq_some_iff.1 hj).1
    obtain ⟨A1, c1, a1, a2, a3, a4⟩ := h2 j n hj
    obtain ⟨w1, w2, w3, w4⟩ := hwf n (List.mem_of_getElem? hj)
    rw [Nat.zero_add]
    exact ⟨(h1.cellAt _ (by omega)).trans a1, (h1.cellAt _ (by omega)).trans a2, ⟨A1, c1, (h1.cellAt _ (by omega)).trans a3, a4.ints w3 w4, a4.nil⟩, w1, w2⟩

/-- append of one node with kids -/
theorem append_ndK {w : World} {ops : Array Oper} {rest : List Oper} {o : Oper} {a : Act} {Q : Exit → Act → World → Prop} (hgd : o.guard = none) (s x : Operand)
    (ho : o.op = .call { callee := .builtin .append, args := #[s, x], argTypes := #[23, 23] })
    (base : Nat) (An : Option Addr) (cn : Nat) (ns : List Nd) (hs : a.eval s = .slice An ns.length cn) (hrow : RowN w base An cn ns) (b : Nat) (n : Nd) (Ak : Option Addr) (ck : Nat) (t : TypeId) (hx : a.eval x = .slice (some ⟨b, 0, none⟩) 1 1)
    (hr : w.heap[b]? = some (.cells #[.int .i64 n.kind, .int .i64 n.value, .slice Ak n.kids.length ck] t (0, 0))) (hown : OwnI w base Ak ck n.kids) (hbase : base ≤ w.heap.size) (hn : ns.length ≤ 1000)
    (h : ∀ (A' : Option Addr) (c' : Nat) (w' : World), RowN w' base A' c' (ns ++ [n]) → w.grownBy w' (blockOf An) →
      wpList Try.prog ops Q rest (a.put o.dst (.slice A' (ns.length + 1) c')) w') : wpList Try.prog ops Q (o :: rest) a w := by
  obtain ⟨i0, hi, hz0, hz1, hz2⟩ := info_parts infoNdA
  obtain ⟨cs, h1, hcs⟩ := hrow.row
  have hlen := h1.1
  refine wpList_append_own_at w hgd s x 23 ho base 41 i0 _ 3 40 Try.underlying23 hi hz0 hz1 hz2 rfl (by omega) _ ns.length cs hs h1 ⟨b, 0, none⟩ 1 1 [.int .i64 n.kind, .int .i64 n.value, .slice Ak n.kids.length ck] hx (by simp) (World.news_of_block hr) (by
      intro u hu
      simp at hu
      rcases hu with rfl | rfl | rfl <;> rfl)
    (by unfold maxLen; omega) (by omega) hbase ?_
  intro v' w' h2 h3 _ h5
  rw [ownBlock_slice] at h3
  have h2' := h2
  rcases h2.2 with ⟨_, h6⟩ | ⟨g, cap, cur, rfl, hg, hh, r⟩
  · omega
  · refine h (some ⟨g, 0, none⟩) cap w' ⟨⟨_, by simpa using h2', fun j m hj => ?_⟩⟩ h3
    have hkeep : ∀ (A1 : Option Addr) (c1 : Nat) (ks : List Int), OwnI w base A1 c1 ks → OwnI w' base A1 c1 ks := fun A1 c1 ks ho => ho.kept h3 (by
      cases hA : blockOf A1 with
      | none => exact .inl rfl
      | some q => exact .inr (fun e => node_int_ne h1 ho.own q e.symm hA))
    rw [List.getElem?_append] at hj
    split at hj
    next hlt =>
      obtain ⟨A1, c1, a1, a2, a3, a4⟩ := hcs j m hj
      exact ⟨A1, c1, by rw [List.getElem?_append_left (by omega)]; exact a1, by rw [List.getElem?_append_left (by omega)]; exact a2, by rw [List.getElem?_append_left (by omega)]; exact a3, hkeep _ _ _ a4⟩
    next hlt =>
      have hjl := (List.getElem?_eq_some_iff.1 hj).1
      simp at hjl
      obtain rfl : j = ns.length := by omega
      simp at hj
      subst hj
      refine ⟨Ak, ck, ?_, ?_, ?_, hkeep _ _ _ hown⟩
      · rw [List.getElem?_append_right (by omega), hlen]; simp
      · rw [List.getElem?_append_right (by omega), hlen]; simp
      · rw [List.getElem?_append_right (by omega), hlen]; simp

end Go.Proofs.Ytcblcmdfeoijpab

namespace Go.Proofs.Ytcblcmdfeoijpab
open Go.RowKit Go.Maps
set_option linter.unusedVariables false

theorem makeNodesC (n : Nat) (hn : n ≤ 1000) : ∀ w : World, (Instr.makeSlice 23 (.int .i64 (n : Int)) (.int .i64 (n : Int))).run Try.prog w = .ok (.slice (some ⟨w.heap.size, 0, none⟩) n n) (w.alloc (.cells (madeCells (Value.agg #[.int .i64 0, .int .i64 0, .slice none 0 0]).cells (n * 3)) 41)) :=
  run_make_rows (P := Try.prog) 23 41 (.agg #[.int .i64 0, .int .i64 0, .slice none 0 0]) 3 40 Try.underlying23 infoNdA .i64 .i64 n (by omega) (by omega)

/-- the answer: a row of the call's own that holds the nodes -/
def GivesNs (w : World) (ns : List Nd) (e : Ending) (w' : World) : Prop :=
  ∃ g, e = .returned (.slice (some ⟨g, 0, none⟩) ns.length ns.length) ∧ OwnRow w' w.heap.size w'.heap.size g ns.length ns ∧ Below w.heap.size w w'

structure ClA (w wr : World) (ns : List Nd) (k : Nat) : Prop where
  bel : Below w.heap.size w wr
  row : OwnRow wr w.heap.size wr.heap.size w.heap.size ns.length (ns.take k)

theorem ClA.start (w : World) (ns : List Nd) : ClA w (w.alloc (.cells (madeCells #[.int .i64 0, .int .i64 0, .slice none 0 0] (ns.length * 3)) 41)) ns 0 := by
  refine ⟨(Below.refl _ _).alloc (Nat.le_refl _) _, ?_⟩
  have hrow : (w.alloc (.cells (madeCells #[.int .i64 0, .int .i64 0, .slice none 0 0] (ns.length * 3)) 41)).rowIs w.heap.size 41 (ns.length * 3) (fun i => ((madeCells #[.int .i64 0, .int .i64 0, .slice none 0 0] (ns.length * 3))[i]?).getD undef) :=
    ⟨_, Lies.new w _ _, size_madeCells _ _, fun i hi => by
      show (madeCells #[.int .i64 0, .int .i64 0, .slice none 0 0] (ns.length * 3))[i]? = some (((madeCells #[.int .i64 0, .int .i64 0, .slice none 0 0] (ns.length * 3))[i]?).getD undef)
      rw [Array.getElem?_eq_getElem (by rw [size_madeCells]; exact hi)]
      rfl⟩
  have := (OwnRow.zero hrow).high (hi2 := (w.alloc (.cells (madeCells #[.int .i64 0, .int .i64 0, .slice none 0 0] (ns.length * 3)) 41)).heap.size) (by simp)
  simpa using this

theorem ClA.step {w wr w2 wi : World} {ns : List Nd} {k c : Nat} {n : Nd} {Ak : Option Addr} (h : ClA w wr ns k) (hn : ns[k]? = some n) (h2 : Below wr.heap.size wr w2) (hi : Below w2.heap.size w2 wi)
    (hown : OwnI wi w2.heap.size Ak c n.kids) : ClA w (setN wi w.heap.size k (.int .i64 n.kind) (.int .i64 n.value) (.slice Ak n.kids.length c)) ns (k + 1) := by
  have hkl := (List.getElem?_eq_some_iff.1 hn).1
  have hb := h2.trans (hi.mono h2.size)
  have hlen : (ns.take k).length = k := by simp; omega
  refine ⟨setN_below (h.bel.trans (hb.mono h.bel.size)) (Nat.le_refl _), ?_⟩
  have hr : OwnRow wi w.heap.size wr.heap.size w.heap.size ns.length (ns.take k) := h.row.kept (fun b _ hb' => hb.block b hb')
  have := hr.snoc (n := n) (hi2 := wi.heap.size) (c := c) (A := Ak) (by omega) (hown.lowB h2.size) (by have := hb.size; omega) (fun b hb' => (hown.blocks b hb').2)
  rw [hlen] at this
  rw [List.take_add_one, hn, setN_size]
  exact this

end Go.Proofs.Ytcblcmdfeoijpab

namespace Go.Proofs.Ytcblcmdfeoijpab

theorem eq_of_prefix {α : Type} [DecidableEq α] {xs ys : List α} (h : xs.length = ys.length) {k : Nat} (hk : k = xs.length) (he : ∀ j, j < k → xs[j]? = ys[j]?) : xs = ys := by
  apply List.ext_getElem?
  intro j
  by_cases hj : j < k
  · exact he j hj
  · rw [List.getElem?_eq_none (by omega), List.getElem?_eq_none (by omega)]

end Go.Proofs.Ytcblcmdfeoijpab

namespace Go.Proofs.Ytcblcmdfeoijpab
open Go.RowKit

/-- a node whose kids are counted from m on -/
def shiftNd (m : Nat) (n : Nd) : Nd := ⟨n.kind, n.value, n.kids.map (fun k => (m : Int) + k)⟩
def joinNs (ns ms : List Nd) : List Nd := ns ++ ms.map (shiftNd ns.length)

theorem joinNs_len (ns ms : List Nd) : (joinNs ns ms).length = ns.length + ms.length := by simp [joinNs]

end Go.Proofs.Ytcblcmdfeoijpab

namespace Go.Proofs.Ytcblcmdfeoijpab

/-- the value of a node -/
def valueOf (ns : List Nd) (x : Int) : Int := ((ns[x.toNat]?).map Nd.value).getD 0
theorem valueOf_at {ns : List Nd} {k : Nat} {n : Nd} (h : ns[k]? = some n) : valueOf ns (k : Int) = n.value := by
  unfold valueOf
  rw [Int.toNat_natCast, h]; rfl

/-- what was written, and what was met -/
abbrev CM := List Int × List Int

/-- what is written and met behind the first visit of x -/
def codPut (ns : List Nd) (x : Int) (p : CM) : CM :=
  (p.1 ++ [kindOf ns x, valueOf ns x, ((kidsOf ns x).length : Int)], if kindOf ns x = 0 then p.2 else p.2 ++ [x])

def cod (ns : List Nd) : Nat → Int → CM → CM
  | 0, _, p => p
  | f + 1, x, p => if x ∈ p.2 then (p.1 ++ [-1, place p.2 x], p.2) else (kidsOf ns x).foldl (fun q k => cod ns f k q) (codPut ns x p)

def codL (ns : List Nd) (f : Nat) (xs : List Int) (p : CM) : CM := xs.foldl (fun q k => cod ns f k q) p

theorem cod_seen {ns : List Nd} {f : Nat} {x : Int} {p : CM} (h : x ∈ p.2) : cod ns (f + 1) x p = (p.1 ++ [-1, place p.2 x], p.2) := by
  rw [cod, if_pos h]
theorem cod_new {ns : List Nd} {f : Nat} {x : Int} {p : CM} (h : x ∉ p.2) : cod ns (f + 1) x p = codL ns f (kidsOf ns x) (codPut ns x p) := by
  rw [cod, if_neg h]; rfl
theorem codL_nil (ns : List Nd) (f : Nat) (p : CM) : codL ns f [] p = p := rfl
theorem codL_snoc (ns : List Nd) (f : Nat) (xs : List Int) (x : Int) (p : CM) : codL ns f (xs ++ [x]) p = cod ns f x (codL ns f xs p) := by
  simp [codL]

/-- what the walk may rely on: kids are nodes, at most K of them, and numbers have none -/
structure CodG (ns : List Nd) (K : Nat) : Prop where
  kin : KidsIn ns
  few : ∀ n ∈ ns, n.kids.length ≤ K
  leaf : ∀ n ∈ ns, n.kind = 0 → n.kids = []
  wf : Wf ns

structure CInv (ns : List Nd) (p : CM) : Prop where
  met : Met ns p.2
  kinds : ∀ x ∈ p.2, kindOf ns x ≠ 0
  wf : ∀ x ∈ p.1, In64 x

structure Coded (ns : List Nd) (K n : Nat) (p q : CM) : Prop where
  inv : CInv ns q
  grow : p.2.length ≤ q.2.length
  len : q.1.length + 3 * (K * p.2.length) ≤ p.1.length + 3 * n + 3 * (K * q.2.length)

theorem CInv.seen {ns : List Nd} {p : CM} {x : Int} (h : CInv ns p) (hx : x ∈ p.2) (hl : ns.length ≤ 1048576) : CInv ns (p.1 ++ [-1, place p.2 x], p.2) := by
  refine ⟨h.met, h.kinds, fun y hy => ?_⟩
  rcases List.mem_append.1 hy with hy | hy
  · exact h.wf y hy
  · have h1 := place_lt hx
    have h2 := h.met.len
    simp at hy
    rcases hy with rfl | rfl <;> constructor <;> omega

theorem CInv.put {ns : List Nd} {K : Nat} {p : CM} {k : Nat} {n : Nd} (hg : CodG ns K) (h : CInv ns p) (hat : ns[k]? = some n) (hx : (k : Int) ∉ p.2) : CInv ns (codPut ns k p) := by
  have hmem := List.mem_of_getElem? hat
  obtain ⟨w1, w2, _, w4⟩ := hg.wf n hmem
  have hkl : k < ns.length := (List.getElem?_eq_some_iff.1 hat).1
  unfold codPut
  rw [kindOf_at hat, valueOf_at hat, kidsOf_at hat]
  refine ⟨?_, fun y hy => ?_, fun y hy => ?_⟩
  · show Met ns (if n.kind = 0 then p.2 else p.2 ++ [(k : Int)])
    split
    · exact h.met
    · exact h.met.snoc ⟨by omega, by omega⟩ hx
  · replace hy : y ∈ (if n.kind = 0 then p.2 else p.2 ++ [(k : Int)]) := hy
    split at hy
    · exact h.kinds y hy
    · rename_i hne
      rcases List.mem_append.1 hy with hy | hy
      · exact h.kinds y hy
      · simp at hy; subst hy; rw [kindOf_at hat]; exact hne
  · rcases List.mem_append.1 hy with hy | hy
    · exact h.wf y hy
    · simp at hy
      rcases hy with rfl | rfl | rfl
      · exact w1
      · exact w2
      · constructor <;> omega

theorem codedL (ns : List Nd) (K f : Nat) (ih : ∀ (x : Int) (p : CM), CInv ns p → 0 ≤ x → x < ns.length → ns.length < f + p.2.length → Coded ns K 1 p (cod ns f x p)) :
    ∀ (xs : List Int) (p : CM), CInv ns p → (∀ x ∈ xs, 0 ≤ x ∧ x < ns.length) → (xs ≠ [] → ns.length < f + p.2.length) → Coded ns K xs.length p (codL ns f xs p)
  | [], p, hp, _, _ => ⟨hp, Nat.le_refl _, by simp [codL]⟩
  | x :: xs, p, hp, hx, hf => by
    have h1 := ih x p hp (hx x (by simp)).1 (hx x (by simp)).2 (hf (by simp))
    have h2 := codedL ns K f ih xs (cod ns f x p) h1.inv (fun y hy => hx y (by simp [hy])) (fun _ => by have := h1.grow; have := hf (by simp); omega)
    have e : codL ns f (x :: xs) p = codL ns f xs (cod ns f x p) := rfl
    rw [e]
    refine ⟨h2.inv, Nat.le_trans h1.grow h2.grow, ?_⟩
    have a := h1.len
    have b := h2.len
    simp only [List.length_cons]
    omega

theorem coded (ns : List Nd) (K : Nat) (hg : CodG ns K) (hl : ns.length ≤ 1048576) : ∀ (f : Nat) (x : Int) (p : CM), CInv ns p → 0 ≤ x → x < ns.length → ns.length < f + p.2.length → Coded ns K 1 p (cod ns f x p)
  | 0, _, p, hp, _, _, hf => by have := hp.met.len; omega
  | f + 1, x, p, hp, h0, h1, hf => by
    obtain ⟨k, rfl⟩ := Int.eq_ofNat_of_zero_le h0
    have hat : ns[k]? = some ns[k] := List.getElem?_eq_getElem (by omega)
    by_cases hx : (k : Int) ∈ p.2
    · rw [cod_seen hx]
      refine ⟨hp.seen hx hl, Nat.le_refl _, ?_⟩
      simp
    · rw [cod_new hx]
      have hput := CInv.put hg hp hat hx
      generalize ns[k] = n at hat
      have hmem := List.mem_of_getElem? hat
      have hkf := hg.few n hmem
      have hlen : (codPut ns k p).1.length = p.1.length + 3 := by simp [codPut]
      have hkin : ∀ y ∈ kidsOf ns (k : Int), 0 ≤ y ∧ y < ns.length := hg.kin.of _
      by_cases hz : n.kind = 0
      · have hm : (codPut ns k p).2 = p.2 := by unfold codPut; rw [kindOf_at hat, if_pos hz]
        have hk0 : kidsOf ns (k : Int) = [] := by rw [kidsOf_at hat]; exact hg.leaf n hmem hz
        rw [hk0, codL_nil]
        exact ⟨hput, by rw [hm]; exact Nat.le_refl _, by rw [hm, hlen]; omega⟩
      · have hm : (codPut ns k p).2.length = p.2.length + 1 := by unfold codPut; rw [kindOf_at hat, if_neg hz]; simp
        have h := codedL ns K f (fun x p a b c d => coded ns K hg hl f x p a b c d) (kidsOf ns (k : Int)) (codPut ns k p) hput hkin (fun _ => by omega)
        refine ⟨h.inv, by have := h.grow; omega, ?_⟩
        have a := h.len
        rw [hm, hlen, Nat.mul_succ] at a
        rw [kidsOf_at hat] at a ⊢
        omega

theorem codedAll (ns : List Nd) (K : Nat) (hg : CodG ns K) (hl : ns.length ≤ 1048576) (f : Nat) (xs : List Int) (p : CM) (hp : CInv ns p) (hx : ∀ x ∈ xs, 0 ≤ x ∧ x < ns.length) (hf : xs ≠ [] → ns.length < f + p.2.length) : Coded ns K xs.length p (codL ns f xs p) :=
  codedL ns K f (fun x p a b c d => coded ns K hg hl f x p a b c d) xs p hp hx hf

theorem cod_bound {K N l q o z p k M : Nat} (hl : l ≤ N) (hq : q ≤ N) (h0 : o + 3 + 3 * (K * (N - l)) ≤ M) (hz : z = o + 3) (hp : p + 3 * (K * (l + 1)) ≤ z + 3 * k + 3 * (K * q)) (hk : k < K) :
    p + 3 + 3 * (K * (N - q)) ≤ M := by
  have e1 : K * (N - l) + K * l = K * N := by rw [← Nat.mul_add, Nat.sub_add_cancel hl]
  have e2 : K * (N - q) + K * q = K * N := by rw [← Nat.mul_add, Nat.sub_add_cancel hq]
  rw [Nat.mul_succ] at hp
  omega

end Go.Proofs.Ytcblcmdfeoijpab
