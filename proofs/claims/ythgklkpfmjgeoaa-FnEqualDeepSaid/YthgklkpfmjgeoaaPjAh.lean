/-
  Lemmas, several texts in one: RowN, CodM, ClnA, NumI.
-/
import Derived.Test.YthgklkpfmjgeoaaPjAe
import Derived.Deep.AppendLies
import Derived.Test.YthgklkpfmjgeoaaPjAf
import Derived.Test.YthgklkpfmjgeoaaPjAa
import Derived.Deep.LoopGhost
import Derived.Test.YthgklkpfmjgeoaaPjAg
import Derived.Maps.OwnOps
namespace Go.Proofs.Ythgklkpfmjgeoaa
open Go.RowKit
set_option linter.unusedVariables false

/-- the three cells of a node in a list of cells; the kids lie in a row of their own -/
def CellsN (w : World) (base : Nat) (cs : List Value) (j : Nat) (n : Nd) : Prop :=
  ∃ (A : Option Addr) (c : Nat), cs[j * 3]? = some (.int .i64 n.kind) ∧ cs[j * 3 + 1]? = some (.int .i64 n.value) ∧ cs[j * 3 + 2]? = some (.slice A n.kids.length c) ∧ OwnI w base A c n.kids

/-- the slice (A, length of ns, c) is a row of the call's own that reads as ns -/
structure RowN (w : World) (base : Nat) (A : Option Addr) (c : Nat) (ns : List Nd) : Prop where
  row : ∃ cs, w.ownsRow base 43 3 (.slice A ns.length c) ns.length cs ∧ ∀ j n, ns[j]? = some n → CellsN w base cs j n

theorem RowN.nil (w : World) (base : Nat) : RowN w base none 0 [] := ⟨⟨[], World.ownsRow_nil _ _ _ _, fun j n h => by simp at h⟩⟩

theorem RowN.blocks {w : World} {base : Nat} {A : Option Addr} {c : Nat} {ns : List Nd} (h : RowN w base A c ns) : ∀ b, blockOf A = some b → base ≤ b ∧ b < w.heap.size := by
  obtain ⟨cs, h1, _⟩ := h.row
  exact fun b hb => World.ownsRow.lt h1 b (by rw [ownBlock_slice]; exact hb)

/-- a row of nodes and a row of ints are not the same block -/
theorem node_int_ne {w : World} {base base' n k size : Nat} {A A' : Option Addr} {c c' : Nat} {xs ys : List Value} (h : w.ownsRow base 43 3 (.slice A n c) n xs) (h' : w.ownsRow base' 3 size (.slice A' k c') k ys) : ∀ b, blockOf A = some b → blockOf A' ≠ some b := by
  intro b hb hb'
  rcases h.2 with ⟨h1, _⟩ | ⟨g, cap, cur, hv, _, hh, _⟩
  · injection h1 with h1 _ _
    rw [h1] at hb; cases hb
  · rcases h'.2 with ⟨h1', _⟩ | ⟨g', cap', cur', hv', _, hh', _⟩
    · injection h1' with h1' _ _
      rw [h1'] at hb'; cases hb'
    · injection hv with hv _ _
      injection hv' with hv' _ _
      subst hv hv'
      simp [blockOf] at hb hb'
      subst hb hb'
      rw [hh] at hh'
      injection hh' with hh'
      injection hh' with _ e _
      exact absurd e (by decide)

theorem RowN.below {w w' : World} {base : Nat} {A : Option Addr} {c : Nat} {ns : List Nd} (h : RowN w base A c ns) (hb : Below w.heap.size w w') : RowN w' base A c ns := by
  obtain ⟨cs, h1, h2⟩ := h.row
  refine ⟨⟨cs, h1.kept (grownBy_of_below hb) (by rw [ownBlock_slice]; cases blockOf A <;> simp), fun j n hj => ?_⟩⟩
  obtain ⟨A1, c1, a1, a2, a3, a4⟩ := h2 j n hj
  exact ⟨A1, c1, a1, a2, a3, a4.below hb⟩

theorem RowN.nds {w : World} {base : Nat} {A : Option Addr} {c : Nat} {ns : List Nd} (h : RowN w base A c ns) (hwf : WfN ns) (hl : ns.length ≤ 9223372036854775807) : NdsAt w w.heap.size A ns := by
  obtain ⟨cs, h1, h2⟩ := h.row
  refine ⟨fun hx => ?_, hl⟩
  rcases h1.2 with ⟨_, h3⟩ | ⟨g, cap, cur, hv, _, hh, _⟩
  · exact absurd (List.eq_nil_of_length_eq_zero h3) hx
  · injection hv with hv _ hc
    subst hv hc
    refine ⟨g, 0, rfl, lt_of_block hh, fun j n hj => ?_⟩
    have hjl := (List.getElem?_eq_some_iff.1 hj).1
    obtain ⟨A1, c1, a1, a2, a3, a4⟩ := h2 j n hj
    obtain ⟨w1, w2, w3, w4⟩ := hwf n (List.mem_of_getElem? hj)
    rw [Nat.zero_add]
    exact ⟨(h1.cellAt _ (by omega)).trans a1, (h1.cellAt _ (by omega)).trans a2, ⟨A1, c1, (h1.cellAt _ (by omega)).trans a3, a4.ints w3 w4, a4.nil⟩, w1, w2⟩

/-- append of one node with kids -/
theorem append_ndK {w : World} {ops : Array Oper} {rest : List Oper} {o : Oper} {a : Act} {Q : Exit → Act → World → Prop} (hgd : o.guard = none) (s x : Operand)
    (ho : o.op = .call { callee := .builtin .append, args := #[s, x], argTypes := #[23, 23] })
    (base : Nat) (An : Option Addr) (cn : Nat) (ns : List Nd) (hs : a.eval s = .slice An ns.length cn) (hrow : RowN w base An cn ns) (b : Nat) (n : Nd) (Ak : Option Addr) (ck : Nat) (t : TypeId) (hx : a.eval x = .slice (some ⟨b, 0, none⟩) 1 1)
    (hr : w.heap[b]? = some (.cells #[.int .i64 n.kind, .int .i64 n.value, .slice Ak n.kids.length ck] t (0, 0))) (hown : OwnI w base Ak ck n.kids) (hbase : base ≤ w.heap.size) (hn : ns.length ≤ 1000)
    (h : ∀ (A' : Option Addr) (c' : Nat) (w' : World), RowN w' base A' c' (ns ++ [n]) → w.grownBy w' (blockOf An) →
      wpList Try.prog ops Q rest (a.put o.dst (.slice A' (ns.length + 1) c')) w') : wpList Try.prog ops Q (o :: rest) a w := by
  obtain ⟨i0, hi, hz0, hz1, hz2⟩ := info_parts infoNdA
  obtain ⟨cs, h1, hcs⟩ := hrow.row
  have hlen := h1.1
  refine wpList_append_own_at w hgd s x 23 ho base 43 i0 _ 3 40 Try.underlying23 hi hz0 hz1 hz2 rfl (by omega) _ ns.length cs hs h1 ⟨b, 0, none⟩ 1 1 [.int .i64 n.kind, .int .i64 n.value, .slice Ak n.kids.length ck] hx (by simp) (World.news_of_block hr) (by
      intro u hu
      simp at hu
      rcases hu with rfl | rfl | rfl <;> rfl)
    (by unfold maxLen; omega) (by omega) hbase ?_
  intro v' w' h2 h3 _ h5
  rw [ownBlock_slice] at h3
  have h2' := h2
  rcases h2.2 with ⟨_, h6⟩ | ⟨g, cap, cur, rfl, hg, hh, r⟩
  · omega
  · refine h (some ⟨g, 0, none⟩) cap w' ⟨⟨_, by simpa using h2', fun j m hj => ?_⟩⟩ h3
    have hkeep : ∀ (A1 : Option Addr) (c1 : Nat) (ks : List Int), OwnI w base A1 c1 ks → OwnI w' base A1 c1 ks := fun A1 c1 ks ho => ho.kept h3 (by
      cases hA : blockOf A1 with
      | none => exact .inl rfl
      | some q => exact .inr (fun e => node_int_ne h1 ho.own q e.symm hA))
    rw [List.getElem?_append] at hj
    split at hj
    next hlt =>
      obtain ⟨A1, c1, a1, a2, a3, a4⟩ := hcs j m hj
      exact ⟨A1, c1, by rw [List.getElem?_append_left (by omega)]; exact a1, by rw [List.getElem?_append_left (by omega)]; exact a2, by rw [List.getElem?_append_left (by omega)]; exact a3, hkeep _ _ _ a4⟩
    next hlt =>
      have hjl := (List.getElem?_eq_some_iff.1 hj).1
      simp at hjl
      obtain rfl : j = ns.length := by omega
      simp at hj
      subst hj
      refine ⟨Ak, ck, ?_, ?_, ?_, hkeep _ _ _ hown⟩
      · rw [List.getElem?_append_right (by omega), hlen]; simp
      · rw [List.getElem?_append_right (by omega), hlen]; simp
      · rw [List.getElem?_append_right (by omega), hlen]; simp

end Go.Proofs.Ythgklkpfmjgeoaa

namespace Go.Proofs.Ythgklkpfmjgeoaa
open Go.RowKit Go.Maps
set_option linter.unusedVariables false

theorem CInv.start (ns : List Nd) : CInv ns ([], []) := ⟨Met.nil ns, fun x hx => (by cases hx), fun x hx => (by cases hx)⟩

open Classical in
/-- the code of a valid graph; nothing for another one -/
noncomputable def codeOf (ns : List Nd) (r : Int) : List Int := if ValidG ns r then (cod ns (ns.length + 1) r ([], [])).1 else []

theorem codG_of_valid {ns : List Nd} {r : Int} (h : ValidG ns r) (hwf : Wf ns) : CodG ns 6 := by
  refine ⟨fun n hn => (h.nodes n hn).inn, fun n hn => (h.nodes n hn).few, fun n hn h0 => ?_, hwf⟩
  have hk := (h.nodes n hn).kind
  apply List.eq_nil_of_length_eq_zero
  rcases hk with hk | hk | hk | hk | hk | hk
  · exact hk.2.2.2
  · omega
  · omega
  · omega
  · omega
  · omega

theorem codeOf_few {ns : List Nd} {r : Int} (hwf : Wf ns) : (codeOf ns r).length ≤ 300 := by
  unfold codeOf
  split
  next h =>
    have hc := (coded ns 6 (codG_of_valid h hwf) (by have := h.few; omega) (ns.length + 1) r ([], []) (CInv.start ns) h.root0 h.root (by simp))
    have h1 := hc.len
    have h2 := hc.inv.met.len
    have := h.few
    simp at h1
    omega
  next => simp

theorem codeOf_64 {ns : List Nd} {r : Int} (hwf : Wf ns) : ∀ x ∈ codeOf ns r, In64 x := by
  unfold codeOf
  split
  next h => exact (coded ns 6 (codG_of_valid h hwf) (by have := h.few; omega) (ns.length + 1) r ([], []) (CInv.start ns) h.root0 h.root (by simp)).inv.wf
  next => simp

end Go.Proofs.Ythgklkpfmjgeoaa

namespace Go.Proofs.Ythgklkpfmjgeoaa
open Go.RowKit Go.Maps
set_option linter.unusedVariables false

theorem makeNodesC (n : Nat) (hn : n ≤ 1000) : ∀ w : World, (Instr.makeSlice 23 (.int .i64 (n : Int)) (.int .i64 (n : Int))).run Try.prog w = .ok (.slice (some ⟨w.heap.size, 0, none⟩) n n) (w.alloc (.cells (madeCells (Value.agg #[.int .i64 0, .int .i64 0, .slice none 0 0]).cells (n * 3)) 43)) :=
  run_make_rows (P := Try.prog) 23 43 (.agg #[.int .i64 0, .int .i64 0, .slice none 0 0]) 3 40 Try.underlying23 infoNdA .i64 .i64 n (by omega) (by omega)

/-- the answer: a row of the call's own that holds the nodes -/
def GivesNs (w : World) (ns : List Nd) (e : Ending) (w' : World) : Prop :=
  ∃ g, e = .returned (.slice (some ⟨g, 0, none⟩) ns.length ns.length) ∧ OwnRow w' w.heap.size w'.heap.size g ns.length ns ∧ Below w.heap.size w w'

structure ClA (w wr : World) (ns : List Nd) (k : Nat) : Prop where
  bel : Below w.heap.size w wr
  row : OwnRow wr w.heap.size wr.heap.size w.heap.size ns.length (ns.take k)

theorem ClA.start (w : World) (ns : List Nd) : ClA w (w.alloc (.cells (madeCells #[.int .i64 0, .int .i64 0, .slice none 0 0] (ns.length * 3)) 43)) ns 0 := by
  refine ⟨(Below.refl _ _).alloc (Nat.le_refl _) _, ?_⟩
  have hrow : (w.alloc (.cells (madeCells #[.int .i64 0, .int .i64 0, .slice none 0 0] (ns.length * 3)) 43)).rowIs w.heap.size 43 (ns.length * 3) (fun i => ((madeCells #[.int .i64 0, .int .i64 0, .slice none 0 0] (ns.length * 3))[i]?).getD undef) :=
    ⟨_, Lies.new w _ _, size_madeCells _ _, fun i hi => by
      show (madeCells #[.int .i64 0, .int .i64 0, .slice none 0 0] (ns.length * 3))[i]? = some (((madeCells #[.int .i64 0, .int .i64 0, .slice none 0 0] (ns.length * 3))[i]?).getD undef)
      rw [Array.getElem?_eq_getElem (by rw [size_madeCells]; exact hi)]
      rfl⟩
  have := (OwnRow.zero hrow).high (hi2 := (w.alloc (.cells (madeCells #[.int .i64 0, .int .i64 0, .slice none 0 0] (ns.length * 3)) 43)).heap.size) (by simp)
  simpa using this

theorem ClA.step {w wr w2 wi : World} {ns : List Nd} {k c : Nat} {n : Nd} {Ak : Option Addr} (h : ClA w wr ns k) (hn : ns[k]? = some n) (h2 : Below wr.heap.size wr w2) (hi : Below w2.heap.size w2 wi)
    (hown : OwnI wi w2.heap.size Ak c n.kids) : ClA w (setN wi w.heap.size k (.int .i64 n.kind) (.int .i64 n.value) (.slice Ak n.kids.length c)) ns (k + 1) := by
  have hkl := (List.getElem?_eq_some_iff.1 hn).1
  have hb := h2.trans (hi.mono h2.size)
  have hlen : (ns.take k).length = k := by simp; omega
  refine ⟨setN_below (h.bel.trans (hb.mono h.bel.size)) (Nat.le_refl _), ?_⟩
  have hr : OwnRow wi w.heap.size wr.heap.size w.heap.size ns.length (ns.take k) := h.row.kept (fun b _ hb' => hb.block b hb')
  have := hr.snoc (n := n) (hi2 := wi.heap.size) (c := c) (A := Ak) (by omega) (hown.lowB h2.size) (by have := hb.size; omega) (fun b hb' => (hown.blocks b hb').2)
  rw [hlen] at this
  rw [List.take_add_one, hn, setN_size]
  exact this

end Go.Proofs.Ythgklkpfmjgeoaa

namespace Go.Proofs.Ythgklkpfmjgeoaa
open Go.RowKit Go.Maps
set_option linter.unusedVariables false

theorem place_idx {L : List Int} {x : Int} (h : x ∈ L) : (L.idxOf x : Int) = place L x := (place_pos h).symm

set_option maxHeartbeats 1000000 in
theorem numI_any (g base : Nat) (m : Option Nat) (A : Option Addr) (c : Nat) (L : List Int) (x : Int) (w : World) (h : SetI w g base m A c L) (hx : In64 x) (hin : x ∈ L) :
    Calls Try.prog 70 #[.pointer (some ⟨g, 0, none⟩), .int .i64 x] w fun e w' => e = .returned (.int .i64 (place L x)) ∧ w = w' := by
  obtain ⟨hbox, _, hmap, hlt, _⟩ := h
  rcases hmap with ⟨rfl, rfl⟩ | ⟨b, n, D, rfl, hb, hown, hn, hhas, hat⟩
  · cases hin
  · have b0 := hbox.cell 0
    simp at b0
    have hat1 := hat x hin
    have HP := hide (place_idx hin)
    clear hbox hhas hat hin
    go_enter Try.func70, Try.ntmps70
    go_wp2_with (at_lookup; refine wpList_lookup_own_int _ rfl _ _ 85 rfl 3 3 .i64 lawI Try.underlying85 Try.underlying3 (zeroI _) b n _ rfl hown _ _ rfl (keyOf_i hx) ?_; intro cc hat2 hwc)
    go_ret
    rw [hat1] at hat2
    injection hat2 with hat2
    injection hat2 with _ hat2
    exact ⟨ret_int (by rw [← HP.out, ← hat2]), rfl⟩

end Go.Proofs.Ythgklkpfmjgeoaa
