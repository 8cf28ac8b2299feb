/-
  Lemmas, several texts in one: ShcM, AlkA, ShcN, PrM, SetI, EqtS.
-/
import Derived.Test.YtkgnijbdbkopkabRowD
import Derived.Test.YtkgnijbdbkopkabPjAi
import Derived.Test.YtkgnijbdbkopkabSpecE
import Derived.Test.YtkgnijbdbkopkabPjAp
import Derived.Test.YtkgnijbdbkopkabMem
import Derived.Deep.LoopGhost
import Derived.Deep.RegionHeld3
import Derived.Deep.QuietTactic
import Derived.BigQuiet
import Derived.Test.YtkgnijbdbkopkabPjAe
import Derived.Test.YtkgnijbdbkopkabPjAm
import Derived.Test.YtkgnijbdbkopkabPjAr
import Derived.Test.YtkgnijbdbkopkabPjAn
import Derived.Deep.Cut
namespace Go.Proofs.Ytkgnijbdbkopkab
open Go.RowKit
set_option linter.unusedVariables false

/-- the root's node once more behind the others -/
def rootNd (ns : List Nd) (r : Int) : Nd := (ns[r.toNat]?).getD ⟨0, 0, []⟩
theorem rootNd_at {ns : List Nd} {i : Nat} {n : Nd} (h : ns[i]? = some n) : rootNd ns (i : Int) = n := by
  unfold rootNd
  rw [Int.toNat_natCast, h]
  rfl

open Classical in
noncomputable def shalN (ns : List Nd) (r : Int) : List Nd := if ValidG ns r ∧ ns.length ≠ 12 then ns ++ [rootNd ns r] else []
open Classical in
noncomputable def shalR (ns : List Nd) (r : Int) : Int := if ValidG ns r ∧ ns.length ≠ 12 then (ns.length : Int) else 0

theorem shalN_yes {ns : List Nd} {r : Int} (h : ValidG ns r) (h2 : ns.length ≠ 12) : shalN ns r = ns ++ [rootNd ns r] := if_pos ⟨h, h2⟩
theorem shalR_yes {ns : List Nd} {r : Int} (h : ValidG ns r) (h2 : ns.length ≠ 12) : shalR ns r = ns.length := if_pos ⟨h, h2⟩
theorem shalN_no {ns : List Nd} {r : Int} (h : ¬ (ValidG ns r ∧ ns.length ≠ 12)) : shalN ns r = [] := if_neg h
theorem shalR_no {ns : List Nd} {r : Int} (h : ¬ (ValidG ns r ∧ ns.length ≠ 12)) : shalR ns r = 0 := if_neg h

end Go.Proofs.Ytkgnijbdbkopkab

namespace Go.Proofs.Ytkgnijbdbkopkab
open Go.RowKit
set_option linter.unusedVariables false

set_option maxHeartbeats 400000 in
theorem alike_any (A A' : Option Addr) (c c' : Nat) (m n : Nd) (w : World) :
    Calls Try.prog 39 #[.agg #[.int .i64 m.kind, .int .i64 m.value, .slice A m.kids.length c], .agg #[.int .i64 n.kind, .int .i64 n.value, .slice A' n.kids.length c']] w fun e w' => e = .returned (.bool (tf (Alike m n))) ∧ Below w.heap.size w w' := by
  by_cases h0 : m.kind = n.kind
  · by_cases h1 : m.value = n.value
    · by_cases h2 : m.kids.length = n.kids.length
      · have HF := hide (show tf (Alike m n) = true from tf_true ⟨h0, h1, h2⟩)
        have t : (m.kind == n.kind) = true := by simpa using h0
        have t1 : (m.value == n.value) = true := by simpa using h1
        have t2 : ((m.kids.length : Int) == (n.kids.length : Int)) = true := beq_iff_eq.2 (by omega)
        clear h0 h1 h2
        go_enter Try.func39, Try.ntmps39
        go_wp2
        go_ret
        exact ⟨ret_bool HF.out.symm, ((Below.refl _ _).alloc (Nat.le_refl _) _).alloc (by simp) _⟩
      · have HF := hide (show tf (Alike m n) = false from tf_false (fun h => h2 h.2.2))
        have t : (m.kind == n.kind) = true := by simpa using h0
        have t1 : (m.value == n.value) = true := by simpa using h1
        have t2 : ((m.kids.length : Int) == (n.kids.length : Int)) = false := beq_eq_false_iff_ne.2 (by omega)
        clear h0 h1 h2
        go_enter Try.func39, Try.ntmps39
        go_wp2
        go_ret
        exact ⟨ret_bool HF.out.symm, ((Below.refl _ _).alloc (Nat.le_refl _) _).alloc (by simp) _⟩
    · have HF := hide (show tf (Alike m n) = false from tf_false (fun h => h1 h.2.1))
      have t : (m.kind == n.kind) = true := by simpa using h0
      have t1 : (m.value == n.value) = false := by simpa using h1
      clear h0 h1
      go_enter Try.func39, Try.ntmps39
      go_wp2
      go_ret
      exact ⟨ret_bool HF.out.symm, ((Below.refl _ _).alloc (Nat.le_refl _) _).alloc (by simp) _⟩
  · have HF := hide (show tf (Alike m n) = false from tf_false (fun h => h0 h.1))
    have t : (m.kind == n.kind) = false := by simpa using h0
    clear h0
    go_enter Try.func39, Try.ntmps39
    go_wp2
    go_ret
    exact ⟨ret_bool HF.out.symm, ((Below.refl _ _).alloc (Nat.le_refl _) _).alloc (by simp) _⟩

end Go.Proofs.Ytkgnijbdbkopkab

namespace Go.Proofs.Ytkgnijbdbkopkab
open Go.RowKit
set_option linter.unusedVariables false

theorem rootNd_mem {ns : List Nd} {r : Int} (hv : ValidG ns r) : rootNd ns r ∈ ns := by
  obtain ⟨i, rfl⟩ := Int.eq_ofNat_of_zero_le hv.root0
  have hi : i < ns.length := by have := hv.root; omega
  rw [rootNd_at (List.getElem?_eq_getElem hi)]
  exact List.getElem_mem hi

theorem shalN_smallN (ns : List Nd) (r : Int) : SmallN (shalN ns r) := by
  by_cases h : ValidG ns r ∧ ns.length ≠ 12
  · rw [shalN_yes h.1 h.2]
    have hf := h.1.few
    refine ⟨by simp; omega, fun n hn => ?_⟩
    have hm : n ∈ ns := by
      rcases List.mem_append.1 hn with h2 | h2
      · exact h2
      · rw [List.mem_singleton.1 h2]
        exact rootNd_mem h.1
    have := (h.1.nodes n hm).few
    omega
  · rw [shalN_no h]
    exact ⟨by simp, fun n hn => by simp at hn⟩

theorem shalN_wf {ns : List Nd} (r : Int) (hw : WfN ns) : WfN (shalN ns r) := by
  by_cases h : ValidG ns r ∧ ns.length ≠ 12
  · rw [shalN_yes h.1 h.2]
    intro n hn
    refine hw n ?_
    rcases List.mem_append.1 hn with h2 | h2
    · exact h2
    · rw [List.mem_singleton.1 h2]
      exact rootNd_mem h.1
  · rw [shalN_no h]
    exact fun n hn => by simp at hn

end Go.Proofs.Ytkgnijbdbkopkab

namespace Go.Proofs.Ytkgnijbdbkopkab
open Go.RowKit
set_option linter.unusedVariables false

theorem pruned_yes {ns : List Nd} {r : Int} (hv : ValidG ns r) : prunedOf ns r = pickNs ns (reachOf ns r) := by
  unfold prunedOf
  rw [if_pos hv]
theorem pruned_no {ns : List Nd} {r : Int} (hv : ¬ ValidG ns r) : prunedOf ns r = [] := by
  unfold prunedOf
  rw [if_neg hv]

/-- the pruned graph has the same code -/
theorem pruned_code {ns : List Nd} {r : Int} (hv : ValidG ns r) : codeOf (prunedOf ns r) 0 = codeOf ns r := by
  have h := pick_code hv (reach_pickable hv)
  rw [reach_place hv] at h
  rw [pruned_yes hv]
  exact h
theorem pruned_valid {ns : List Nd} {r : Int} (hv : ValidG ns r) : ValidG (prunedOf ns r) 0 := by
  have h := pick_valid hv (reach_pickable hv)
  rw [reach_place hv] at h
  rw [pruned_yes hv]
  exact h
theorem pruned_len {ns : List Nd} {r : Int} (hv : ValidG ns r) : (prunedOf ns r).length = (reachOf ns r).length := by
  rw [pruned_yes hv, pickNs_len]

theorem map_place_self {L : List Int} (hn : L.Nodup) : L.map (place L) = (List.range L.length).map (fun (i : Nat) => (i : Int)) := by
  apply List.ext_getElem?
  intro j
  rw [List.getElem?_map, List.getElem?_map]
  by_cases hj : j < L.length
  · rw [List.getElem?_eq_getElem hj, List.getElem?_range hj]
    simp only [Option.map_some, Option.some.injEq]
    exact place_get hn (List.getElem?_eq_getElem hj)
  · rw [List.getElem?_eq_none (by omega), List.getElem?_eq_none (by simpa using hj)]
    rfl

/-- all of the pruned graph is reached, in order -/
theorem pruned_reach {ns : List Nd} {r : Int} (hv : ValidG ns r) : reachOf (prunedOf ns r) 0 = (List.range (reachOf ns r).length).map (fun (i : Nat) => (i : Int)) := by
  have hp := reach_pickable hv
  have hR := reachOf_reached hv
  have hw := pruned_valid hv
  have hrch : ∀ y ∈ reachOf ns r, y ∈ reachOf ns r := fun y hy => hy
  rw [← map_place_self hR.met.nodup]
  have h := (dfs_iso (iso_pick hp) (ns.length + 1) r [] hp.root (fun y hy => by cases hy)).1
  rw [reach_place hv] at h
  have e1 : reachOf ns r = dfs ns anyB (ns.length + 1) r [] := by unfold reachOf; rw [if_pos hv]
  have e2 : reachOf (prunedOf ns r) 0 = dfs (prunedOf ns r) anyB ((prunedOf ns r).length + 1) 0 [] := by unfold reachOf; rw [if_pos hw]
  rw [e2]
  conv => rhs; arg 2; rw [e1]
  rw [← h, pruned_yes hv]
  have hle : (pickNs ns (reachOf ns r)).length ≤ ns.length := by rw [pickNs_len]; exact nodup_le _ _ hp.nodup hp.range
  obtain ⟨d, hd⟩ := Nat.exists_eq_add_of_le hle
  have hw2 := hw
  rw [pruned_yes hv] at hw2
  have := dfs_fuels (kidsIn_of_valid hw2) ((pickNs ns (reachOf ns r)).length + 1) 0 [] (Met.nil _) hw2.root0 hw2.root (by simp) d
  have e : (pickNs ns (reachOf ns r)).length + 1 + d = ns.length + 1 := by omega
  rw [e] at this
  exact this.symm

theorem place_range {m : Nat} {x : Int} (h0 : 0 ≤ x) (h1 : x < m) : place ((List.range m).map (fun (i : Nat) => (i : Int))) x = x := by
  obtain ⟨j, rfl⟩ := Int.eq_ofNat_of_zero_le h0
  refine place_get ?_ (j := j) (by rw [List.getElem?_map, List.getElem?_range (by omega)]; rfl)
  exact List.Pairwise.map _ (fun a b hab => by omega) (List.pairwise_lt_range (n := m) |>.imp (fun h => Nat.ne_of_lt h))

/-- pruned again it is the same -/
theorem pruned_again {ns : List Nd} {r : Int} (hv : ValidG ns r) : prunedOf (prunedOf ns r) 0 = prunedOf ns r := by
  have hw := pruned_valid hv
  rw [pruned_yes hw, pruned_reach hv, ← pruned_len hv]
  generalize prunedOf ns r = ms at hw
  apply List.ext_getElem?
  intro j
  unfold pickNs
  rw [List.getElem?_map, List.getElem?_map]
  by_cases hj : j < ms.length
  · rw [List.getElem?_range hj, List.getElem?_eq_getElem hj]
    simp only [Option.map_some, Option.some.injEq]
    rw [pickN_at (List.getElem?_eq_getElem hj)]
    have hok := hw.nodes _ (List.getElem_mem hj)
    generalize ms[j] = n at hok
    have e : n.kids.map (place ((List.range ms.length).map (fun (i : Nat) => (i : Int)))) = n.kids := by
      conv => rhs; rw [← List.map_id n.kids]
      apply List.map_congr_left
      intro k hk
      have := hok.inn k hk
      exact place_range this.1 this.2
    rw [e]
  · rw [List.getElem?_eq_none (by simpa using hj), List.getElem?_eq_none (by omega)]
    rfl

/-- the first numbers of a code -/
theorem code_first {ns : List Nd} {r : Int} (hv : ValidG ns r) : ∃ l, codeOf ns r = kindOf ns r :: valueOf ns r :: l := by
  unfold codeOf
  rw [if_pos hv, cod_new (by simp)]
  have key : ∀ (xs : List Int) (q : CM), ∃ l, (codL ns ns.length xs q).1 = q.1 ++ l := by
    intro xs
    induction xs with
    | nil => intro q; exact ⟨[], by simp [codL]⟩
    | cons a xs ih =>
      intro q
      obtain ⟨l1, h1⟩ := cod_grows (ns := ns) ns.length a q
      obtain ⟨l2, h2⟩ := ih (cod ns ns.length a q)
      refine ⟨l1 ++ l2, ?_⟩
      show (codL ns ns.length xs (cod ns ns.length a q)).1 = _
      rw [h2, h1, List.append_assoc]
  obtain ⟨l, h⟩ := key (kidsOf ns r) (codPut ns r ([], []))
  refine ⟨((kidsOf ns r).length : Int) :: l, ?_⟩
  rw [h]
  unfold codPut
  simp

end Go.Proofs.Ytkgnijbdbkopkab

namespace Go.Proofs.Ytkgnijbdbkopkab
open Go.RowKit Go.Maps
set_option linter.unusedVariables false

/-- the map part of a set of ints: nil and empty, or a map of the call's own that numbers the members -/
def MapI (w : World) (base : Nat) (m : Option Nat) (L : List Int) : Prop :=
  (m = none ∧ L = []) ∨ ∃ (b n : Nat) (D : DataW Unit), m = some b ∧ base ≤ b ∧ w.ownsMap Try.prog 3 (plainElem Try.prog 3) b n D ∧ n ≤ L.length ∧
    (∀ x, In64 x → (Maps.has D (.int .i64 x) = true ↔ x ∈ L)) ∧ ∀ x ∈ L, D.atKey (.int .i64 x) (.lit (.int .i64 0)) = .lit (.int .i64 (L.idxOf x : Int))

structure SetI (w : World) (g base : Nat) (m : Option Nat) (A : Option Addr) (c : Nat) (L : List Int) : Prop where
  box : Lies w g #[.map m, .slice A L.length c] 87
  row : OwnI w base A c L
  map : MapI w base m L
  lt : g < base
  wf : ∀ x ∈ L, In64 x

theorem MapI.below {w w' : World} {base : Nat} {m : Option Nat} {L : List Int} (h : MapI w base m L) (hb : Below w.heap.size w w') : MapI w' base m L := by
  rcases h with h | ⟨b, n, D, h1, h2, h3, h4⟩
  · exact .inl h
  · exact .inr ⟨b, n, D, h1, h2, h3.kept (grownBy_of_below hb) (by simp), h4⟩

theorem SetI.below {w w' : World} {g base : Nat} {m : Option Nat} {A : Option Addr} {c : Nat} {L : List Int} (h : SetI w g base m A c L) (hb : Below w.heap.size w w') : SetI w' g base m A c L :=
  ⟨h.box.below hb h.box.lt, h.row.below hb, h.map.below hb, h.lt, h.wf⟩

theorem SetI.drew {w : World} {g base : Nat} {m : Option Nat} {A : Option Addr} {c : Nat} {L : List Int} (h : SetI w g base m A c L) : SetI w.drew g base m A c L :=
  h.below (Below.refl _ _).drew

theorem SetI.start {w : World} {g base : Nat} (hbox : Lies w g #[.map none, .slice none 0 0] 87) (hlt : g < base) : SetI w g base none none 0 [] :=
  ⟨hbox, OwnI.empty _ _, .inl ⟨rfl, rfl⟩, hlt, fun x hx => by cases hx⟩

theorem lookI {w : World} {b n : Nat} {D : DataW Unit} {x : Int} (h : w.ownsMap Try.prog 3 (plainElem Try.prog 3) b n D) (hx : In64 x) :
    ∃ cc : Int, (Instr.lookup 85 (.map (some b)) (.int .i64 x) true).run Try.prog w = .ok (.tuple #[.int .i64 cc, .bool (Maps.has D (.int .i64 x))]) w := by
  obtain ⟨y, ps, hrun, hy⟩ := h.look_ok lawI Try.underlying85 (zeroI w) (plainElem_int Try.underlying3 (by decide)) (keyOf_i hx)
  obtain ⟨a, rfl, _, _⟩ := plainElem_int_inv Try.underlying3 hy
  exact ⟨a, hrun⟩

theorem lookNilI {x : Int} (hx : In64 x) (w : World) :
    (Instr.lookup 85 (.map none) (.int .i64 x) true).run Try.prog w = .ok (.tuple #[.int .i64 0, .bool false]) w :=
  Maps.look_nil true lawI Try.underlying85 (zeroI w) (keyOf_i hx)

set_option maxHeartbeats 1000000 in
theorem hasI_any (g base : Nat) (m : Option Nat) (A : Option Addr) (c : Nat) (L : List Int) (x : Int) (w : World) (h : SetI w g base m A c L) (hx : In64 x) :
    Calls Try.prog 67 #[.pointer (some ⟨g, 0, none⟩), .int .i64 x] w fun e w' => e = .returned (.bool (tf (x ∈ L))) ∧ w = w' := by
  obtain ⟨hbox, _, hmap, hlt, _⟩ := h
  have b0 := hbox.cell 0
  simp at b0
  rcases hmap with ⟨rfl, rfl⟩ | ⟨b, n, D, rfl, hb, hown, hn, hhas, _⟩
  · have hlk := lookNilI hx w
    have HF := hide (show tf (x ∈ ([] : List Int)) = false from tf_false (by simp))
    clear hbox
    go_enter Try.func67, Try.ntmps67
    go_wp2
    go_ret
    exact ⟨ret_bool HF.out.symm, rfl⟩
  · obtain ⟨cc, hlk⟩ := lookI hown hx
    have HF : Hid (tf (x ∈ L) = Maps.has D (.int .i64 x)) := by
      cases hq : Maps.has D (.int .i64 x)
      · exact tf_false fun hm => by rw [(hhas x hx).2 hm] at hq; cases hq
      · exact tf_true ((hhas x hx).1 hq)
    generalize Maps.has D (.int .i64 x) = q at hlk HF
    clear hbox hown hhas
    go_enter Try.func67, Try.ntmps67
    go_wp2
    go_ret
    exact ⟨ret_bool HF.out.symm, rfl⟩

set_option maxRecDepth 100000 in
set_option maxHeartbeats 1000000 in
theorem addI_seen (g base : Nat) (m : Option Nat) (A : Option Addr) (c : Nat) (L : List Int) (x : Int) (w : World) (h : SetI w g base m A c L) (hx : In64 x) (hin : x ∈ L) :
    Calls Try.prog 66 #[.pointer (some ⟨g, 0, none⟩), .int .i64 x] w fun e w' => e = .returned (.bool false) ∧ w = w' := by
  have H := hasI_any g base m A c L x w h hx
  rw [tf_true hin] at H
  have HH := hide H
  clear H h hin
  go_enter Try.func66, Try.ntmps66
  go_wp2_with fail
  refine HH.out.mono ?_
  rintro e w' ⟨rfl, rfl⟩
  go_wp2
  go_ret
  exact ⟨rfl, rfl⟩

theorem idxOf_snoc_old {L : List Int} {x y : Int} (h : y ∈ L) : (L ++ [x]).idxOf y = L.idxOf y := by
  rw [List.idxOf_append, if_pos h]
theorem idxOf_snoc_new {L : List Int} {x : Int} (h : x ∉ L) : (L ++ [x]).idxOf x = L.length := by
  rw [List.idxOf_append, if_neg h]
  simp

/-- a row and a map never share a block -/
theorem row_map_ne {w : World} {base b n : Nat} {A : Option Addr} {c : Nat} {L : List Int} {P : Program} {k : TypeId} {R : Value → Option (DataW Unit × List MemPlace)} {D : DataW Unit} (hrow : OwnI w base A c L) (hmap : w.ownsMap P k R b n D) : blockOf A ≠ some b := by
  intro e
  rcases hrow.own.2 with ⟨h1, _⟩ | ⟨q, cap', cur, hv', _, hh, _⟩
  · injection h1 with h1
    subst h1
    cases e
  · injection hv' with hv'
    subst hv'
    simp [blockOf] at e
    subst e
    obtain ⟨es, cl, hm, _⟩ := hmap
    rw [hm] at hh
    cases hh

/-- what an add leaves alone: all old blocks but the set's own -/
structure Tight (g : Nat) (m : Option Nat) (A : Option Addr) (m' : Option Nat) (A' : Option Addr) (w w' : World) : Prop where
  size : w.heap.size ≤ w'.heap.size
  map : m' = m ∨ ∃ b, m' = some b ∧ w.heap.size ≤ b
  row : blockOf A' = blockOf A ∨ ∃ b, blockOf A' = some b ∧ w.heap.size ≤ b
  block : ∀ k, k < w.heap.size → k ≠ g → m ≠ some k → blockOf A ≠ some k → w'.heap[k]? = w.heap[k]?

/-- what a new member does to a set, behind the append to its row -/
theorem SetI.grow {W w1 : World} {g base b n cap : Nat} {A A' : Option Addr} {c : Nat} {L zs : List Int} {x : Int} {D : DataW Unit} {o : Obj}
    (hbox : Lies W g #[.map (some b), .slice A L.length c] 87) (hlt : g < base) (hbb : base ≤ b)
    (hmap : W.ownsMap Try.prog 3 (plainElem Try.prog 3) b n (D.put (.int .i64 x) (.lit (.int .i64 (L.length : Int))))) (hD : IsMap D) (hn : n ≤ L.length + 1)
    (hhas : ∀ y, In64 y → (Maps.has D (.int .i64 y) = true ↔ y ∈ L)) (hat : ∀ y ∈ L, D.atKey (.int .i64 y) (.lit (.int .i64 0)) = .lit (.int .i64 (L.idxOf y : Int))) (hx : In64 x) (hno : x ∉ L) (hwf : ∀ y ∈ L, In64 y)
    (hrow : OwnI W base A c L) (hbs : base ≤ W.heap.size) (hz : zs = L ++ [x]) (hown : OwnI w1 base A' cap zs) (hgrow : (W.alloc o).grownBy w1 (blockOf A)) :
    SetI (w1.setCell ⟨g, 1, none⟩ (.slice A' zs.length cap)) g base (some b) A' cap (L ++ [x]) ∧ But base g W (w1.setCell ⟨g, 1, none⟩ (.slice A' zs.length cap)) := by
  subst hz
  have hglt := hbox.lt
  have hne : blockOf A ≠ some g := fun e => by have := (hrow.blocks g e).1; omega
  have hblt := hmap.lt
  have hnb : blockOf A ≠ some b := by
    intro e
    rcases hrow.own.2 with ⟨h1, _⟩ | ⟨q, cap', cur, hv', _, hh, _⟩
    · injection h1 with h1
      subst h1
      cases e
    · injection hv' with hv'
      subst hv'
      simp [blockOf] at e
      subst e
      obtain ⟨es, cl, hm, _⟩ := hmap
      rw [hm] at hh
      cases hh
  have hbox1 : Lies w1 g #[.map (some b), .slice A L.length c] 87 := (hgrow.block g (by simp; omega) (fun e => hne e.symm)).trans (hbox.alloc o)
  have hmap1 := ((hmap.alloc o).kept hgrow (fun e => hnb e.symm)).setCell (a := ⟨g, 1, none⟩) (by show b ≠ g; omega) (.slice A' (L ++ [x]).length cap)
  have hbox2 := hbox1.set 1 (.slice A' (L ++ [x]).length cap)
  simp only [List.setIfInBounds_toArray, List.set_cons_succ, List.set_cons_zero] at hbox2
  have hkey : ∀ {y : Int}, In64 y → WideAt.IsKeyLit (.int .i64 y) := fun hy => lawI.key (keyOf_i hy)
  refine ⟨⟨hbox2, ⟨ownsRow_setCell_below hown.own (a := ⟨g, 1, none⟩) hlt _⟩, .inr ⟨b, n, _, rfl, hbb, hmap1, by simp; omega, fun y hy => ?_, fun y hy => ?_⟩, hlt, fun y hy => ?_⟩, ?_⟩
  · by_cases e : y = x
    · subst e
      simp [Maps.has_put_same hD (hkey hx)]
    · have hne' : (Lit.int .i64 y) ≠ .int .i64 x := fun h => by injection h with _ h; exact e h
      rw [Maps.has_put_other hne', hhas y hy]
      simp [e]
  · by_cases e : y = x
    · subst e
      rw [Maps.atKey_put_same hD (hkey hx), idxOf_snoc_new hno]
    · have hyL : y ∈ L := by simpa [e] using hy
      have hne' : (Lit.int .i64 y) ≠ .int .i64 x := fun h => by injection h with _ h; exact e h
      rw [Maps.atKey_put_other hne', hat y hyL, idxOf_snoc_old hyL]
  · rcases List.mem_append.1 hy with hy | hy
    · exact hwf y hy
    · simp at hy
      subst hy
      exact hx
  · refine ⟨hgrow.os, hgrow.tape, hgrow.output, by have := hgrow.size; simp at this ⊢; omega, fun j hj hjg => ?_⟩
    rw [Below.heap_setCell _ _ _ _ hjg, hgrow.block j (by simp; omega) (fun e => by have := (hrow.blocks j e.symm).1; omega)]
    exact Below.heap_alloc _ _ _ (by omega)

set_option maxRecDepth 100000 in
set_option maxHeartbeats 2000000 in
theorem addI_next2 (g base b : Nat) (c : Nat) (A : Option Addr) (L : List Int) (x : Int) (w : World) (h : SetI w g base (some b) A c L) (hx : In64 x) (hbs : base ≤ w.heap.size) (hno : x ∉ L) (hL : L.length ≤ 1048576) :
    Calls Try.prog 66 #[.pointer (some ⟨g, 0, none⟩), .int .i64 x] w fun e w' => e = .returned (.bool true) ∧ (∃ m' A' c', SetI w' g base m' A' c' (L ++ [x]) ∧ Tight g (some b) A m' A' w w') ∧ But base g w w' := by
  have H := hasI_any g base (some b) A c L x w h hx
  rw [tf_false hno] at H
  have HH := hide H
  clear H
  obtain ⟨hbox, hrow, hmap0, hlt, hwf0⟩ := h
  rcases hmap0 with ⟨h0, _⟩ | ⟨b', n, D, he, hbb, hmap, hn, hhas0, hat0⟩
  · cases h0
  obtain rfl : b = b' := by injection he
  have hhas := hide hhas0
  have hat := hide hat0
  have hwf := hide hwf0
  have Hno := hide hno
  have hwfl : (Lit.int .i64 (L.length : Int)).wf = true := WalkArith.wf_i64 (by omega)
  have Hwfl := hide hwfl
  have heq := fun (w : World) => run_eql_map_nil (P := Try.prog) w 85 _ _ (some b) Try.underlying85
  have e0 := hbox.cell 0
  have e1 := hbox.cell 1
  simp at e0 e1
  have Hx := hide hx
  have hbox5 : Lies w.drew g #[.map (some b), .slice A L.length c] 87 := hbox
  have hmap5 := hmap.drew
  have hrow5 := hrow.drew
  have hbut5 : But base g w w.drew := ⟨rfl, rfl, rfl, Nat.le_refl _, fun _ _ _ => rfl⟩
  have hs5 : base ≤ w.drew.heap.size := hbs
  have Hh5 : Hid (∀ k : Nat, w.drew.heap[k]? = w.heap[k]?) := fun _ => rfl
  have Hz5 : Hid (w.drew.heap.size = w.heap.size) := rfl
  clear hhas0 hat0 hwf0 hno hwfl he
  go_enter Try.func66, Try.ntmps66
  go_wp2_with fail
  refine HH.out.mono ?_
  rintro e w' ⟨rfl, rfl⟩
  go_wp2_with fail
  go_still_tail 10, (by kernel_rfl)
  change wpList _ _ _ _ _ w.drew
  generalize w.drew = W5 at hbox5 hmap5 hrow5 hbut5 hs5 Hh5 Hz5 ⊢
  clear hbox hmap hrow e0 e1 heq
  have hne7 : blockOf A ≠ some g := fun e => by have := (hrow5.blocks g e).1; omega
  have hnb7 := row_map_ne hrow5 hmap5
  go_wp2_with (first
    | (at_mapUpdate; refine wpList_mapUpdate_own _ rfl _ _ _ 85 rfl 3 3 lawI Try.underlying85 _ b n _ rfl hmap5 (by unfold maxLen; omega) _ _ _ rfl rfl (keyOf_i Hx.out) _ [] (plainElem_int Try.underlying3 Hwfl.out) ?_; intro W6 hown6 hgrow6; have hbox6 : Lies W6 g #[.map (some b), .slice A L.length c] 87 := (hgrow6.block g hbox5.lt (by simp; omega)).trans hbox5; have hrow6 := hrow5.kept hgrow6 (.inr hnb7); have e1 := hbox6.cell 1; simp at e1; have hs6 := hgrow6.size; have hl6 := hbox6.lt)
    | (at_builtin; refine append_ints rfl (.tmp 31) (.tmp 33) rfl base A c L rfl (hrow6.alloc _) (W6.heap.size + 1) _ 1 [x] rfl (fun e => by cases e) (IntsAt.one W6 x Hx.out) (by simp <;> omega) (by simp <;> omega) ?_; intro zs A' c' w1 hz hown1 hgrow1 hat1; have s1 : w1.cell? ⟨g, 1, none⟩ = some (.slice A L.length c) := (hgrow1.cell_far _ (by simp; omega) (fun e => hne7 e.symm)).trans ((World.cell?_alloc_lt _ _ _ (by simp; omega)).trans e1); have s2 : w1.frozen? ⟨g, 1, none⟩ = false := (hgrow1.frozen_far _ (by simp; omega) (fun e => hne7 e.symm)).trans ((hbox6.alloc _).frozen 1)))
  go_ret
  have hfin := SetI.grow (o := .cells #[.int .i64 x] 3) hbox6 hlt hbb hown6 hmap5.isMap (by omega) hhas.out hat.out Hx.out Hno.out hwf.out hrow6 (by omega) hz.out hown1 hgrow1
  have hz5 := Hz5.out
  have hg1 := hgrow1.size
  simp at hg1
  refine ⟨rfl, ⟨_, _, _, hfin.1, ⟨by simp; omega, .inl rfl, ?_, fun k hk hkg hkm hkA => ?_⟩⟩, (hbut5.trans ⟨hgrow6.os, hgrow6.tape, hgrow6.output, hgrow6.size, fun j hj _ => hgrow6.block j (by omega) (by simp; omega)⟩).trans hfin.2⟩
  · rcases hat1 with h | h
    · exact .inl h
    · exact .inr ⟨_, h, by simp; omega⟩
  · rw [Below.heap_setCell _ _ _ _ hkg, hgrow1.block k (by simp; omega) (fun e => hkA e.symm), Below.heap_alloc _ _ _ (by omega), hgrow6.block k (by omega) (fun e => hkm e.symm)]
    exact Hh5.out k

set_option maxRecDepth 100000 in
set_option maxHeartbeats 2000000 in
theorem addI_first2 (g base : Nat) (c : Nat) (A : Option Addr) (x : Int) (w : World) (h : SetI w g base none A c []) (hx : In64 x) (hbs : base ≤ w.heap.size) :
    Calls Try.prog 66 #[.pointer (some ⟨g, 0, none⟩), .int .i64 x] w fun e w' => e = .returned (.bool true) ∧ (∃ m' A' c', SetI w' g base m' A' c' [x] ∧ Tight g none A m' A' w w') ∧ But base g w w' := by
  have H := hasI_any g base none A c [] x w h hx
  rw [tf_false (by simp)] at H
  have HH := hide H
  clear H
  obtain ⟨hbox, hrow, _, hlt, _⟩ := h
  have hglt := hbox.lt
  have hmm := @run_makeMap Try.prog
  have heq := fun (w : World) => run_eql_map_nil (P := Try.prog) w 85 _ _ none Try.underlying85
  have d0 := hbox.cell 0
  have b0 := (hbox.alloc (.map #[] 0)).cell 0
  have f0 := (hbox.alloc (.map #[] 0)).frozen 0
  simp at b0 d0
  have hbox4 := (hbox.alloc (.map #[] 0)).set 0 (.map (some w.heap.size))
  have hmap4 := ((World.ownsMap_made (H := Unit) w Try.prog 3 (plainElem Try.prog 3))).setCell (a := ⟨g, 0, none⟩) (by simp; omega) (.map (some w.heap.size))
  have hrow4 : OwnI ((w.alloc (.map #[] 0)).setCell ⟨g, 0, none⟩ (.map (some w.heap.size))) base A c [] := ⟨ownsRow_setCell_below (hrow.alloc (.map #[] 0)).own (a := ⟨g, 0, none⟩) hlt (.map (some w.heap.size))⟩
  have hbut4 : But base g w ((w.alloc (.map #[] 0)).setCell ⟨g, 0, none⟩ (.map (some w.heap.size))) :=
    ⟨rfl, rfl, rfl, by simp, fun j hj hjg => by
      rw [Below.heap_setCell _ _ _ _ hjg, Below.heap_alloc _ _ _ (by omega)]⟩
  have hs4 : ((w.alloc (.map #[] 0)).setCell ⟨g, 0, none⟩ (.map (some w.heap.size))).heap.size = w.heap.size + 1 := by simp
  simp only [List.setIfInBounds_toArray, List.set_cons_zero] at hbox4
  have Hx := hide hx
  have Hh4 : Hid (∀ k : Nat, k < w.heap.size → k ≠ g → ((w.alloc (.map #[] 0)).setCell ⟨g, 0, none⟩ (.map (some w.heap.size))).heap[k]? = w.heap[k]?) := fun k hk hkg => by
    rw [Below.heap_setCell _ _ _ _ hkg, Below.heap_alloc _ _ _ hk]
  clear hglt
  go_enter Try.func66, Try.ntmps66
  go_wp2_with fail
  refine HH.out.mono ?_
  rintro e w' ⟨rfl, rfl⟩
  go_wp2_with fail
  have HS4 := hide hs4
  clear hs4
  generalize (w.alloc (.map #[] 0)).setCell ⟨g, 0, none⟩ (.map (some w.heap.size)) = W3 at hbox4 hmap4 hrow4 hbut4 HS4 Hh4 ⊢
  have hbb : base ≤ w.heap.size := hbs
  have hbut5' := hbut4
  generalize hbw : w.heap.size = b at hmap4 hbox4 HS4 hbb ⊢
  have Hbw := hide hbw
  clear hbw
  clear hmm heq d0 b0 f0 hbox hrow
  have e0 := hbox4.cell 0
  have e1 := hbox4.cell 1
  simp at e0 e1
  have hbox5 : Lies W3.drew g #[.map (some b), .slice A ([] : List Int).length c] 87 := hbox4
  have hmap5 := hmap4.drew
  have hrow5 := hrow4.drew
  have hbut5 : But base g w W3.drew := ⟨hbut4.os, hbut4.tape, hbut4.output, hbut4.size, hbut4.block⟩
  have hs5 : b + 1 ≤ W3.drew.heap.size := Nat.le_of_eq HS4.out.symm
  have Hh5 : Hid (∀ k : Nat, k < w.heap.size → k ≠ g → W3.drew.heap[k]? = w.heap[k]?) := Hh4
  go_still_tail 10, (by kernel_rfl)
  change wpList _ _ _ _ _ W3.drew
  generalize W3.drew = W5 at hbox5 hmap5 hrow5 hbut5 hs5 Hh5 ⊢
  clear hbox4 hmap4 hrow4 hbut4 HS4 Hh4 e0 e1 hbut5'
  have hL : ([] : List Int).length ≤ 1048576 := by simp
  have Hwfl : Hid ((Lit.int .i64 (0 : Int)).wf = true) := WalkArith.wf_i64 (by omega)
  have hne7 : blockOf A ≠ some g := fun e => by have := (hrow5.blocks g e).1; omega
  have hnb7 := row_map_ne hrow5 hmap5
  go_wp2_with (first
    | (at_mapUpdate; refine wpList_mapUpdate_own _ rfl _ _ _ 85 rfl 3 3 lawI Try.underlying85 _ b 0 _ rfl hmap5 (by unfold maxLen; omega) _ _ _ rfl rfl (keyOf_i Hx.out) _ [] (plainElem_int Try.underlying3 Hwfl.out) ?_; intro W6 hown6 hgrow6; have hbox6 : Lies W6 g #[.map (some b), .slice A 0 c] 87 := (hgrow6.block g hbox5.lt (by simp; omega)).trans hbox5; have hrow6 := hrow5.kept hgrow6 (.inr hnb7); have e1 := hbox6.cell 1; simp at e1; have hs6 := hgrow6.size; have hl6 := hbox6.lt)
    | (at_builtin; refine append_ints rfl (.tmp 31) (.tmp 33) rfl base A c [] rfl (hrow6.alloc _) (W6.heap.size + 1) _ 1 [x] rfl (fun e => by cases e) (IntsAt.one W6 x Hx.out) (by simp <;> omega) (by simp <;> omega) ?_; intro zs A' c' w1 hz hown1 hgrow1 hat1; have s1 : w1.cell? ⟨g, 1, none⟩ = some (.slice A 0 c) := (hgrow1.cell_far _ (by simp; omega) (fun e => hne7 e.symm)).trans ((World.cell?_alloc_lt _ _ _ (by simp; omega)).trans e1); have s2 : w1.frozen? ⟨g, 1, none⟩ = false := (hgrow1.frozen_far _ (by simp; omega) (fun e => hne7 e.symm)).trans ((hbox6.alloc _).frozen 1)))
  go_ret
  have hfin := SetI.grow (L := []) (o := .cells #[.int .i64 x] 3) hbox6 hlt hbb hown6 isMap_empty (by simp) (fun y _ => by simp [Maps.has]) (by simp) Hx.out (by simp) (by simp) hrow6 (by omega) hz.out hown1 hgrow1
  have hg1 := hgrow1.size
  have hbw := Hbw.out
  simp at hg1
  refine ⟨rfl, ⟨_, _, _, hfin.1, ⟨by simp; omega, .inr ⟨b, rfl, by omega⟩, ?_, fun k hk hkg _ hkA => ?_⟩⟩, (hbut5.trans ⟨hgrow6.os, hgrow6.tape, hgrow6.output, hgrow6.size, fun j hj _ => hgrow6.block j (by omega) (by simp; omega)⟩).trans hfin.2⟩
  · rcases hat1 with h | h
    · exact .inl h
    · exact .inr ⟨_, h, by simp; omega⟩
  · rw [Below.heap_setCell _ _ _ _ hkg, hgrow1.block k (by simp; omega) (fun e => hkA e.symm), Below.heap_alloc _ _ _ (by omega), hgrow6.block k (by omega) (by simp; omega)]
    exact Hh5.out k hk hkg

theorem addI_new2 (g base : Nat) (m : Option Nat) (c : Nat) (A : Option Addr) (L : List Int) (x : Int) (w : World) (h : SetI w g base m A c L) (hx : In64 x) (hbs : base ≤ w.heap.size) (hno : x ∉ L) (hL : L.length ≤ 1048576) :
    Calls Try.prog 66 #[.pointer (some ⟨g, 0, none⟩), .int .i64 x] w fun e w' => e = .returned (.bool true) ∧ (∃ m' A' c', SetI w' g base m' A' c' (L ++ [x]) ∧ Tight g m A m' A' w w') ∧ But base g w w' := by
  cases m with
  | none =>
    obtain rfl : L = [] := by
      rcases h.map with ⟨_, h2⟩ | ⟨_, _, _, h2, _⟩
      · exact h2
      · cases h2
    exact addI_first2 g base c A x w h hx hbs
  | some b => exact addI_next2 g base b c A L x w h hx hbs hno hL

theorem addI_new (g base : Nat) (m : Option Nat) (c : Nat) (A : Option Addr) (L : List Int) (x : Int) (w : World) (h : SetI w g base m A c L) (hx : In64 x) (hbs : base ≤ w.heap.size) (hno : x ∉ L) (hL : L.length ≤ 1048576) :
    Calls Try.prog 66 #[.pointer (some ⟨g, 0, none⟩), .int .i64 x] w fun e w' => e = .returned (.bool true) ∧ (∃ m A' c', SetI w' g base m A' c' (L ++ [x])) ∧ But base g w w' := by
  exact (addI_new2 g base m c A L x w h hx hbs hno hL).mono fun e w' ⟨h1, ⟨m', A', c', h2, _⟩, h3⟩ => ⟨h1, ⟨m', A', c', h2⟩, h3⟩

end Go.Proofs.Ytkgnijbdbkopkab

namespace Go.Proofs.Ytkgnijbdbkopkab
open Go.RowKit Go.Maps
set_option linter.unusedVariables false

set_option maxRecDepth 100000 in
set_option maxHeartbeats 4000000 in
theorem equalTo_any : ∀ (d : Nat) (D : Int), Hid (D = (d : Int)) → d ≤ 1000 → ∀ (A B : Option Addr) (ns ms : List Nd) (ca cb : Nat) (r s : Int) (i j : Nat) (w : World), NdsAt w w.heap.size A ns → NdsAt w w.heap.size B ms → KidsIn ns → KidsIn ms → i < ns.length → j < ms.length →
    Calls Try.prog 18 #[.agg #[.slice A ns.length ca, .int .i64 r], .int .i64 (i : Int), .agg #[.slice B ms.length cb, .int .i64 s], .int .i64 (j : Int), .int .i64 D] w fun e w' => e = .returned (.bool (tf (EqN ns ms d (i : Int) (j : Int)))) ∧ Below w.heap.size w w'
  | 0, D, HD, _, A, B, ns, ms, ca, cb, r, s, i, j, w, ha, hb, hka, hkb, hi, hj => by
    have HF := hide (tf_true (eqN_zero ns ms (i : Int) (j : Int)))
    have t0 : (D == 0) = true := by rw [HD.out]; rfl
    have hB1 : Below w.heap.size w ((w.alloc (.cells #[.slice A ns.length ca, .int .i64 r] 25)).alloc (.cells #[.slice B ms.length cb, .int .i64 s] 25)) := ((Below.refl _ _).alloc (Nat.le_refl _) _).alloc (by simp) _
    have HB := hide hB1
    clear ha hb hB1 HD
    go_enter Try.func18, Try.ntmps18
    go_wp2
    go_ret
    exact ⟨ret_bool HF.out.symm, HB.out⟩
  | d + 1, D, HD, hd, A, B, ns, ms, ca, cb, r, s, i, j, w, ha, hb, hka, hkb, hi, hj => by
    have IH := hide (equalTo_any d)
    have t0 : (D == 0) = false := by rw [HD.out]; exact beq_eq_false_iff_ne.2 (by omega)
    have HW : Hid (IntKind.i64.wrap (D - 1) = D - 1) := hide (by rw [HD.out, IntKind.wrap_i64]; omega)
    have HD1 : Hid (D - 1 = (d : Int)) := hide (by rw [HD.out]; omega)
    have hnl := ha.len
    have hml := hb.len
    obtain ⟨b, off, n, rfl, hbn, hn, hmn, hnd⟩ := ha.at_ hi
    obtain ⟨b2, off2, m, rfl, hbm, hm, hmm, hnm⟩ := hb.at_ hj
    obtain ⟨An, cn, kn2, hkn, _⟩ := hnd.kids
    obtain ⟨Am, cm, km2, hkm, _⟩ := hnm.kids
    have kn0 := hnd.kind
    have kn1 := hnd.value
    have km0 := hnm.kind
    have km1 := hnm.value
    have HS := hide (eqN_step hn hm d)
    have hi0 : (0 : Int) ≤ (i : Int) := by omega
    have hi1 : (i : Int) < (ns.length : Int) := by omega
    have hj0 : (0 : Int) ≤ (j : Int) := by omega
    have hj1 : (j : Int) < (ms.length : Int) := by omega
    have HKn := hide (hka n hmn)
    have HKm := hide (hkb m hmm)
    have Hkn := hide hkn
    have Hkm := hide hkm
    have HA := hide ha
    have HBB := hide hb
    have HKA := hide hka
    have HKB := hide hkb
    have hlkn := hkn.len
    have hlkm := hkm.len
    have hB1 : Below w.heap.size w ((w.alloc (.cells #[.slice (some ⟨b, off, none⟩) ns.length ca, .int .i64 r] 25)).alloc (.cells #[.slice (some ⟨b2, off2, none⟩) ms.length cb, .int .i64 s] 25)) := ((Below.refl _ _).alloc (Nat.le_refl _) _).alloc (by simp) _
    have lA := (Lies.new w #[.slice (some ⟨b, off, none⟩) ns.length ca, .int .i64 r] 25).alloc (.cells #[.slice (some ⟨b2, off2, none⟩) ms.length cb, .int .i64 s] 25)
    have lB := Lies.new (w.alloc (.cells #[.slice (some ⟨b, off, none⟩) ns.length ca, .int .i64 r] 25)) #[.slice (some ⟨b2, off2, none⟩) ms.length cb, .int .i64 s] 25
    simp only [World.size_alloc] at lB
    clear hn hm hmn hmm ha hb hka hkb hnd hnm hkn hkm HD
    go_enter Try.func18, Try.ntmps18
    go_upto_region 3 with fail
    generalize (w.alloc (.cells #[.slice (some ⟨b, off, none⟩) ns.length ca, .int .i64 r] 25)).alloc (.cells #[.slice (some ⟨b2, off2, none⟩) ms.length cb, .int .i64 s] 25) = W at hB1 lA lB ⊢
    have hWA : w.heap.size < W.heap.size := lA.lt
    have hWB : w.heap.size + 1 < W.heap.size := lB.lt
    have hbW : b < W.heap.size := by omega
    have hb2W : b2 < W.heap.size := by omega
    have HCs := hide (show ∀ X : World, Below W.heap.size W X → X.cell? ⟨w.heap.size, 0, none⟩ = some (.slice (some ⟨b, off, none⟩) ns.length ca) ∧ X.cell? ⟨w.heap.size, 1, none⟩ = some (.int .i64 r) ∧ X.cell? ⟨w.heap.size + 1, 0, none⟩ = some (.slice (some ⟨b2, off2, none⟩) ms.length cb) ∧ X.cell? ⟨w.heap.size + 1, 1, none⟩ = some (.int .i64 s) ∧ X.cell? ⟨b, off + i * 3, none⟩ = some (.int .i64 n.kind) ∧ X.cell? ⟨b, off + i * 3 + 1, none⟩ = some (.int .i64 n.value) ∧ X.cell? ⟨b, off + i * 3 + 2, none⟩ = some (.slice An n.kids.length cn) ∧ X.cell? ⟨b2, off2 + j * 3, none⟩ = some (.int .i64 m.kind) ∧ X.cell? ⟨b2, off2 + j * 3 + 1, none⟩ = some (.int .i64 m.value) ∧ X.cell? ⟨b2, off2 + j * 3 + 2, none⟩ = some (.slice Am m.kids.length cm) from fun X hX => by
      have e0 := (lA.below hX hWA).cell 0
      have e1 := (lA.below hX hWA).cell 1
      have d0 := (lB.below hX hWB).cell 0
      have d1 := (lB.below hX hWB).cell 1
      simp only [List.getElem?_toArray, List.getElem?_cons_zero, List.getElem?_cons_succ] at e0 e1 d0 d1
      have hX2 := hB1.trans (hX.mono hB1.size)
      exact ⟨e0, e1, d0, d1, (hX2.cell (p := ⟨b, off + i * 3, none⟩) hbn).trans kn0, (hX2.cell (p := ⟨b, off + i * 3 + 1, none⟩) hbn).trans kn1, (hX2.cell (p := ⟨b, off + i * 3 + 2, none⟩) hbn).trans kn2, (hX2.cell (p := ⟨b2, off2 + j * 3, none⟩) hbm).trans km0, (hX2.cell (p := ⟨b2, off2 + j * 3 + 1, none⟩) hbm).trans km1, (hX2.cell (p := ⟨b2, off2 + j * 3 + 2, none⟩) hbm).trans km2⟩)
    have HB1 := hide hB1
    clear hB1 lA lB kn0 kn1 kn2 km0 km1 km2
    obtain ⟨a0, a1, a2, a3, kn0, kn1, kn2, km0, km1, km2⟩ := HCs.out W (Below.refl _ _)
    go_region_held3 (fun w' => w'.cell? ⟨w.heap.size, 0, none⟩ = some (.slice (some ⟨b, off, none⟩) ns.length ca) ∧ w'.cell? ⟨w.heap.size + 1, 0, none⟩ = some (.slice (some ⟨b2, off2, none⟩) ms.length cb) ∧ w'.cell? ⟨b, off + i * 3, none⟩ = some (.int .i64 n.kind) ∧ w'.cell? ⟨b, off + i * 3 + 1, none⟩ = some (.int .i64 n.value) ∧ w'.cell? ⟨b, off + i * 3 + 2, none⟩ = some (.slice An n.kids.length cn) ∧ w'.cell? ⟨b2, off2 + j * 3, none⟩ = some (.int .i64 m.kind) ∧ w'.cell? ⟨b2, off2 + j * 3 + 1, none⟩ = some (.int .i64 m.value) ∧ w'.cell? ⟨b2, off2 + j * 3 + 2, none⟩ = some (.slice Am m.kids.length cm))
      (first
        | (go_split_ands; refine ⟨?_, ?_, ?_, ?_, ?_, ?_, ?_, ?_⟩ <;> assumption))
      (first
        | (go_at_call 39; refine (alike_any An Am cn cm n m W.drew).mono ?_; rintro e w1 ⟨rfl, hb1⟩; have hbw : Below W.heap.size W w1 := (Below.refl _ _).drew.trans (hb1.mono (by simp)); obtain ⟨p0, p1, p2, p3, p4, p5, p6, p7, p8, p9⟩ := HCs.out w1 hbw))
    have HBw := hide hbw
    have hsz := hbw.size
    clear a0 a1 a2 a3 kn0 kn1 kn2 km0 km1 km2 hb1 hbw
    by_cases hal : Alike n m
    · rw [tf_true hal]
      have Hal := hide hal
      have Hlen : Hid (n.kids.length = m.kids.length) := hal.2.2
      clear hal
      go_wp2_with fail
      clear p0 p1 p2 p3 p4 p5 p6 p7 p8 p9
      go_loopg [11] n.kids.length (fun gk kv wr => ∃ k : Nat, k ≤ n.kids.length ∧ gk = n.kids.length - k ∧ kv = .int .i64 (k : Int) ∧ Below W.heap.size W wr ∧ ∀ (q : Nat) (x y : Int), q < k → n.kids[q]? = some x → m.kids[q]? = some y → EqN ns ms d x y)
      case atStart => exact ⟨0, Nat.zero_le _, rfl, rfl, HBw.out, fun q x y hq => absurd hq (by omega)⟩
      case round =>
        clear HBw hsz
        obtain ⟨k, hk, rfl, rfl, hbw, hall0⟩ := hrel
        have Hall := hide hall0
        have HBw := hide hbw
        have hsz := hbw.size
        obtain ⟨a0, a1, a2, a3, _, _, kn2, _, _, km2⟩ := HCs.out wr hbw
        clear hall0 hbw
        by_cases hlk : k < n.kids.length
        · obtain ⟨b5, o5, x, rfl, hb5, hx, hxm, hcx⟩ := (Hkn.out.below (HB1.out.trans (HBw.out.mono HB1.out.size))).at_ hlk
          obtain ⟨b6, o6, y, rfl, hb6, hy, hym, hcy⟩ := (Hkm.out.below (HB1.out.trans (HBw.out.mono HB1.out.size))).at_ (k := k) (by have := Hlen.out; omega)
          have HX := hide hx
          have HY := hide hy
          obtain ⟨x0, x2⟩ := HKn.out x hxm
          obtain ⟨y0, y2⟩ := HKm.out y hym
          obtain ⟨xn, rfl⟩ := Int.eq_ofNat_of_zero_le x0
          obtain ⟨yn, rfl⟩ := Int.eq_ofNat_of_zero_le y0
          have hj0' : (0 : Int) ≤ (k : Int) := by omega
          have hj1' : (k : Int) < (n.kids.length : Int) := by omega
          have hj2' : (k : Int) < (m.kids.length : Int) := by have := Hlen.out; omega
          have hxn : xn < ns.length := by omega
          have hyn : yn < ms.length := by omega
          have hb5W : b5 < W.heap.size := by omega
          have hb6W : b6 < W.heap.size := by omega
          have HCx := hide hcx
          have HCy := hide hcy
          have hszw := HB1.out.size
          have Hrec := hide (fun (X : World) (hX : Below W.heap.size wr X) => IH.out (D - 1) HD1 (by omega) (some ⟨b, off, none⟩) (some ⟨b2, off2, none⟩) ns ms ca cb r s xn yn X ((HA.out.below (HB1.out.trans (HBw.out.mono HB1.out.size))).later (hX.mono (by omega)) (by omega)) ((HBB.out.below (HB1.out.trans (HBw.out.mono HB1.out.size))).later (hX.mono (by omega)) (by omega)) HKA.out HKB.out hxn hyn)
          clear hx hxm hy hym x2 y2 hb5 hb6
          go_wp2_with fail
          go_region_held3 (fun w' => w'.cell? ⟨w.heap.size, 0, none⟩ = some (.slice (some ⟨b, off, none⟩) ns.length ca) ∧ w'.cell? ⟨w.heap.size, 1, none⟩ = some (.int .i64 r) ∧ w'.cell? ⟨w.heap.size + 1, 0, none⟩ = some (.slice (some ⟨b2, off2, none⟩) ms.length cb) ∧ w'.cell? ⟨w.heap.size + 1, 1, none⟩ = some (.int .i64 s) ∧ w'.cell? ⟨b, off + i * 3 + 2, none⟩ = some (.slice (some ⟨b5, o5, none⟩) n.kids.length cn) ∧ w'.cell? ⟨b2, off2 + j * 3 + 2, none⟩ = some (.slice (some ⟨b6, o6, none⟩) m.kids.length cm) ∧ w'.cell? ⟨b5, o5 + k, none⟩ = some (.int .i64 (xn : Int)) ∧ w'.cell? ⟨b6, o6 + k, none⟩ = some (.int .i64 (yn : Int)))
            (first
              | (go_split_ands; refine ⟨?_, ?_, ?_, ?_, ?_, ?_, ?_, ?_⟩ <;> assumption))
            (first
              | (go_at_call 18; rw [HW.out]; refine (Hrec.out _ (Below.refl _ _).drew).mono ?_; rintro e w5 ⟨rfl, hb5'⟩; have hbx : Below W.heap.size W w5 := HBw.out.trans ((Below.refl W.heap.size wr).drew.trans (hb5'.mono (by simp; omega))); obtain ⟨p0, p1, p2, p3, _, _, p6, _, _, p9⟩ := HCs.out w5 hbx; have p10 := (((Below.refl wr.heap.size wr).drew.trans (hb5'.mono (by simp))).cell (p := ⟨b5, o5 + k, none⟩) (by show b5 < wr.heap.size; omega)).trans HCx.out; have p11 := (((Below.refl wr.heap.size wr).drew.trans (hb5'.mono (by simp))).cell (p := ⟨b6, o6 + k, none⟩) (by show b6 < wr.heap.size; omega)).trans HCy.out))
          have HBx := hide hbx
          clear hb5' hbx a0 a1 a2 a3 kn2 km2 p0 p1 p2 p3 p6 p9 p10 p11 hcx hcy Hrec
          by_cases hq : EqN ns ms d (xn : Int) (yn : Int)
          · rw [tf_true hq]
            have HQ := hide hq
            clear hq
            go_wp2
            go_roundg (n.kids.length - (k + 1))
            case measure => omega
            case rel => exact ⟨k + 1, by omega, rfl, by go_num, HBx.out, fun q a c hq ha hc => by
              by_cases e : q = k
              · subst e
                rw [HX.out] at ha
                rw [HY.out] at hc
                injection ha with ha
                injection hc with hc
                rw [← ha, ← hc]
                exact HQ.out
              · exact Hall.out q a c (by omega) ha hc⟩
          · rw [tf_false hq]
            have HF := hide (show tf (EqN ns ms (d + 1) (i : Int) (j : Int)) = false from tf_false (fun h => hq ((HS.out.1 h).2 k _ _ HX.out HY.out)))
            have HBf := hide (HB1.out.trans (HBx.out.mono HB1.out.size))
            clear hq
            go_wp2
            go_ret
            exact ⟨ret_bool HF.out.symm, HBf.out⟩
        · obtain rfl : k = n.kids.length := by omega
          have HF := hide (show tf (EqN ns ms (d + 1) (i : Int) (j : Int)) = true from tf_true (HS.out.2 ⟨Hal.out, fun p a c ha hc => Hall.out p a c (List.getElem?_eq_some_iff.1 ha).1 ha hc⟩))
          have hj1' : decide ((n.kids.length : Int) < (n.kids.length : Int)) = false := by simp
          have HBf := hide (HB1.out.trans (HBw.out.mono HB1.out.size))
          go_wp2
          go_ret
          exact ⟨ret_bool HF.out.symm, HBf.out⟩
    · rw [tf_false hal]
      have HF := hide (show tf (EqN ns ms (d + 1) (i : Int) (j : Int)) = false from tf_false (fun h => hal (HS.out.1 h).1))
      have HBf := hide (HB1.out.trans (HBw.out.mono HB1.out.size))
      clear hal
      go_wp2
      go_ret
      exact ⟨ret_bool HF.out.symm, HBf.out⟩

end Go.Proofs.Ytkgnijbdbkopkab
