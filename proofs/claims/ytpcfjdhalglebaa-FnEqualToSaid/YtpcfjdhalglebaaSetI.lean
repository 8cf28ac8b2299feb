/-
  A set of ints: the methods has and add of the program's ordered set.
-/
import Derived.Test.YtpcfjdhalglebaaPjAp
namespace Go.Proofs.Ytpcfjdhalglebaa
open Go.RowKit Go.Maps
set_option linter.unusedVariables false

/-- the map part of a set of ints: nil and empty, or a map of the call's own that numbers the members -/
def MapI (w : World) (base : Nat) (m : Option Nat) (L : List Int) : Prop :=
  (m = none ∧ L = []) ∨ ∃ (b n : Nat) (D : DataW Unit), m = some b ∧ base ≤ b ∧ w.ownsMap Try.prog 3 (plainElem Try.prog 3) b n D ∧ n ≤ L.length ∧
    (∀ x, In64 x → (Maps.has D (.int .i64 x) = true ↔ x ∈ L)) ∧ ∀ x ∈ L, D.atKey (.int .i64 x) (.lit (.int .i64 0)) = .lit (.int .i64 (L.idxOf x : Int))

structure SetI (w : World) (g base : Nat) (m : Option Nat) (A : Option Addr) (c : Nat) (L : List Int) : Prop where
  box : Lies w g #[.map m, .slice A L.length c] 86
  row : OwnI w base A c L
  map : MapI w base m L
  lt : g < base
  wf : ∀ x ∈ L, In64 x

theorem MapI.below {w w' : World} {base : Nat} {m : Option Nat} {L : List Int} (h : MapI w base m L) (hb : Below w.heap.size w w') : MapI w' base m L := by
  rcases h with h | ⟨b, n, D, h1, h2, h3, h4⟩
  · exact .inl h
  · exact .inr ⟨b, n, D, h1, h2, h3.kept (grownBy_of_below hb) (by simp), h4⟩

theorem SetI.below {w w' : World} {g base : Nat} {m : Option Nat} {A : Option Addr} {c : Nat} {L : List Int} (h : SetI w g base m A c L) (hb : Below w.heap.size w w') : SetI w' g base m A c L :=
  ⟨h.box.below hb h.box.lt, h.row.below hb, h.map.below hb, h.lt, h.wf⟩

theorem SetI.drew {w : World} {g base : Nat} {m : Option Nat} {A : Option Addr} {c : Nat} {L : List Int} (h : SetI w g base m A c L) : SetI w.drew g base m A c L :=
  h.below (Below.refl _ _).drew

theorem SetI.start {w : World} {g base : Nat} (hbox : Lies w g #[.map none, .slice none 0 0] 86) (hlt : g < base) : SetI w g base none none 0 [] :=
  ⟨hbox, OwnI.empty _ _, .inl ⟨rfl, rfl⟩, hlt, fun x hx => by cases hx⟩

theorem lookI {w : World} {b n : Nat} {D : DataW Unit} {x : Int} (h : w.ownsMap Try.prog 3 (plainElem Try.prog 3) b n D) (hx : In64 x) :
    ∃ cc : Int, (Instr.lookup 84 (.map (some b)) (.int .i64 x) true).run Try.prog w = .ok (.tuple #[.int .i64 cc, .bool (Maps.has D (.int .i64 x))]) w := by
  obtain ⟨y, ps, hrun, hy⟩ := h.look_ok lawI Try.underlying84 (zeroI w) (plainElem_int Try.underlying3 (by decide)) (keyOf_i hx)
  obtain ⟨a, rfl, _, _⟩ := plainElem_int_inv Try.underlying3 hy
  exact ⟨a, hrun⟩

theorem lookNilI {x : Int} (hx : In64 x) (w : World) :
    (Instr.lookup 84 (.map none) (.int .i64 x) true).run Try.prog w = .ok (.tuple #[.int .i64 0, .bool false]) w :=
  Maps.look_nil true lawI Try.underlying84 (zeroI w) (keyOf_i hx)

set_option maxHeartbeats 1000000 in
theorem hasI_any (g base : Nat) (m : Option Nat) (A : Option Addr) (c : Nat) (L : List Int) (x : Int) (w : World) (h : SetI w g base m A c L) (hx : In64 x) :
    Calls Try.prog 65 #[.pointer (some ⟨g, 0, none⟩), .int .i64 x] w fun e w' => e = .returned (.bool (tf (x ∈ L))) ∧ w = w' := by
  obtain ⟨hbox, _, hmap, hlt, _⟩ := h
  have b0 := hbox.cell 0
  simp at b0
  rcases hmap with ⟨rfl, rfl⟩ | ⟨b, n, D, rfl, hb, hown, hn, hhas, _⟩
  · have hlk := lookNilI hx w
    have HF := hide (show tf (x ∈ ([] : List Int)) = false from tf_false (by simp))
    clear hbox
    go_enter Try.func65, Try.ntmps65
    go_wp2
    go_ret
    exact ⟨ret_bool HF.out.symm, rfl⟩
  · obtain ⟨cc, hlk⟩ := lookI hown hx
    have HF : Hid (tf (x ∈ L) = Maps.has D (.int .i64 x)) := by
      cases hq : Maps.has D (.int .i64 x)
      · exact tf_false fun hm => by rw [(hhas x hx).2 hm] at hq; cases hq
      · exact tf_true ((hhas x hx).1 hq)
    generalize Maps.has D (.int .i64 x) = q at hlk HF
    clear hbox hown hhas
    go_enter Try.func65, Try.ntmps65
    go_wp2
    go_ret
    exact ⟨ret_bool HF.out.symm, rfl⟩

set_option maxRecDepth 100000 in
set_option maxHeartbeats 1000000 in
theorem addI_seen (g base : Nat) (m : Option Nat) (A : Option Addr) (c : Nat) (L : List Int) (x : Int) (w : World) (h : SetI w g base m A c L) (hx : In64 x) (hin : x ∈ L) :
    Calls Try.prog 64 #[.pointer (some ⟨g, 0, none⟩), .int .i64 x] w fun e w' => e = .returned (.bool false) ∧ w = w' := by
  have H := hasI_any g base m A c L x w h hx
  rw [tf_true hin] at H
  have HH := hide H
  clear H h hin
  go_enter Try.func64, Try.ntmps64
  go_wp2_with fail
  refine HH.out.mono ?_
  rintro e w' ⟨rfl, rfl⟩
  go_wp2
  go_ret
  exact ⟨rfl, rfl⟩

theorem idxOf_snoc_old {L : List Int} {x y : Int} (h : y ∈ L) : (L ++ [x]).idxOf y = L.idxOf y := by
  rw [List.idxOf_append, if_pos h]
theorem idxOf_snoc_new {L : List Int} {x : Int} (h : x ∉ L) : (L ++ [x]).idxOf x = L.length := by
  rw [List.idxOf_append, if_neg h]
  simp

/-- a row and a map never share a block -/
theorem row_map_ne {w : World} {base b n : Nat} {A : Option Addr} {c : Nat} {L : List Int} {P : Program} {k : TypeId} {R : Value → Option (DataW Unit × List MemPlace)} {D : DataW Unit} (hrow : OwnI w base A c L) (hmap : w.ownsMap P k R b n D) : blockOf A ≠ some b := by
  intro e
  rcases hrow.own.2 with ⟨h1, _⟩ | ⟨q, cap', cur, hv', _, hh, _⟩
  · injection h1 with h1
    subst h1
    cases e
  · injection hv' with hv'
    subst hv'
    simp [blockOf] at e
    subst e
    obtain ⟨es, cl, hm, _⟩ := hmap
    rw [hm] at hh
    cases hh

/-- what an add leaves alone: all old blocks but the set's own -/
structure Tight (g : Nat) (m : Option Nat) (A : Option Addr) (m' : Option Nat) (A' : Option Addr) (w w' : World) : Prop where
  size : w.heap.size ≤ w'.heap.size
  map : m' = m ∨ ∃ b, m' = some b ∧ w.heap.size ≤ b
  row : blockOf A' = blockOf A ∨ ∃ b, blockOf A' = some b ∧ w.heap.size ≤ b
  block : ∀ k, k < w.heap.size → k ≠ g → m ≠ some k → blockOf A ≠ some k → w'.heap[k]? = w.heap[k]?

/-- what a new member does to a set, behind the append to its row -/
theorem SetI.grow {W w1 : World} {g base b n cap : Nat} {A A' : Option Addr} {c : Nat} {L zs : List Int} {x : Int} {D : DataW Unit} {o : Obj}
    (hbox : Lies W g #[.map (some b), .slice A L.length c] 86) (hlt : g < base) (hbb : base ≤ b)
    (hmap : W.ownsMap Try.prog 3 (plainElem Try.prog 3) b n (D.put (.int .i64 x) (.lit (.int .i64 (L.length : Int))))) (hD : IsMap D) (hn : n ≤ L.length + 1)
    (hhas : ∀ y, In64 y → (Maps.has D (.int .i64 y) = true ↔ y ∈ L)) (hat : ∀ y ∈ L, D.atKey (.int .i64 y) (.lit (.int .i64 0)) = .lit (.int .i64 (L.idxOf y : Int))) (hx : In64 x) (hno : x ∉ L) (hwf : ∀ y ∈ L, In64 y)
    (hrow : OwnI W base A c L) (hbs : base ≤ W.heap.size) (hz : zs = L ++ [x]) (hown : OwnI w1 base A' cap zs) (hgrow : (W.alloc o).grownBy w1 (blockOf A)) :
    SetI (w1.setCell ⟨g, 1, none⟩ (.slice A' zs.length cap)) g base (some b) A' cap (L ++ [x]) ∧ But base g W (w1.setCell ⟨g, 1, none⟩ (.slice A' zs.length cap)) := by
  subst hz
  have hglt := hbox.lt
  have hne : blockOf A ≠ some g := fun e => by have := (hrow.blocks g e).1; omega
  have hblt := hmap.lt
  have hnb : blockOf A ≠ some b := by
    intro e
    rcases hrow.own.2 with ⟨h1, _⟩ | ⟨q, cap', cur, hv', _, hh, _⟩
    · injection h1 with h1
      subst h1
      cases e
    · injection hv' with hv'
      subst hv'
      simp [blockOf] at e
      subst e
      obtain ⟨es, cl, hm, _⟩ := hmap
      rw [hm] at hh
      cases hh
  have hbox1 : Lies w1 g #[.map (some b), .slice A L.length c] 86 := (hgrow.block g (by simp; omega) (fun e => hne e.symm)).trans (hbox.alloc o)
  have hmap1 := ((hmap.alloc o).kept hgrow (fun e => hnb e.symm)).setCell (a := ⟨g, 1, none⟩) (by show b ≠ g; omega) (.slice A' (L ++ [x]).length cap)
  have hbox2 := hbox1.set 1 (.slice A' (L ++ [x]).length cap)
  simp only [List.setIfInBounds_toArray, List.set_cons_succ, List.set_cons_zero] at hbox2
  have hkey : ∀ {y : Int}, In64 y → WideAt.IsKeyLit (.int .i64 y) := fun hy => lawI.key (keyOf_i hy)
  refine ⟨⟨hbox2, ⟨ownsRow_setCell_below hown.own (a := ⟨g, 1, none⟩) hlt _⟩, .inr ⟨b, n, _, rfl, hbb, hmap1, by simp; omega, fun y hy => ?_, fun y hy => ?_⟩, hlt, fun y hy => ?_⟩, ?_⟩
  · by_cases e : y = x
    · subst e
      simp [Maps.has_put_same hD (hkey hx)]
    · have hne' : (Lit.int .i64 y) ≠ .int .i64 x := fun h => by injection h with _ h; exact e h
      rw [Maps.has_put_other hne', hhas y hy]
      simp [e]
  · by_cases e : y = x
    · subst e
      rw [Maps.atKey_put_same hD (hkey hx), idxOf_snoc_new hno]
    · have hyL : y ∈ L := by simpa [e] using hy
      have hne' : (Lit.int .i64 y) ≠ .int .i64 x := fun h => by injection h with _ h; exact e h
      rw [Maps.atKey_put_other hne', hat y hyL, idxOf_snoc_old hyL]
  · rcases List.mem_append.1 hy with hy | hy
    · exact hwf y hy
    · simp at hy
      subst hy
      exact hx
  · refine ⟨hgrow.os, hgrow.tape, hgrow.output, by have := hgrow.size; simp at this ⊢; omega, fun j hj hjg => ?_⟩
    rw [Below.heap_setCell _ _ _ _ hjg, hgrow.block j (by simp; omega) (fun e => by have := (hrow.blocks j e.symm).1; omega)]
    exact Below.heap_alloc _ _ _ (by omega)

set_option maxRecDepth 100000 in
set_option maxHeartbeats 2000000 in
theorem addI_next2 (g base b : Nat) (c : Nat) (A : Option Addr) (L : List Int) (x : Int) (w : World) (h : SetI w g base (some b) A c L) (hx : In64 x) (hbs : base ≤ w.heap.size) (hno : x ∉ L) (hL : L.length ≤ 1048576) :
    Calls Try.prog 64 #[.pointer (some ⟨g, 0, none⟩), .int .i64 x] w fun e w' => e = .returned (.bool true) ∧ (∃ m' A' c', SetI w' g base m' A' c' (L ++ [x]) ∧ Tight g (some b) A m' A' w w') ∧ But base g w w' := by
  have H := hasI_any g base (some b) A c L x w h hx
  rw [tf_false hno] at H
  have HH := hide H
  clear H
  obtain ⟨hbox, hrow, hmap0, hlt, hwf0⟩ := h
  rcases hmap0 with ⟨h0, _⟩ | ⟨b', n, D, he, hbb, hmap, hn, hhas0, hat0⟩
  · cases h0
  obtain rfl : b = b' := by injection he
  have hhas := hide hhas0
  have hat := hide hat0
  have hwf := hide hwf0
  have Hno := hide hno
  have hwfl : (Lit.int .i64 (L.length : Int)).wf = true := WalkArith.wf_i64 (by omega)
  have Hwfl := hide hwfl
  have heq := fun (w : World) => run_eql_map_nil (P := Try.prog) w 84 _ _ (some b) Try.underlying84
  have e0 := hbox.cell 0
  have e1 := hbox.cell 1
  simp at e0 e1
  have Hx := hide hx
  have hbox5 : Lies w.drew g #[.map (some b), .slice A L.length c] 86 := hbox
  have hmap5 := hmap.drew
  have hrow5 := hrow.drew
  have hbut5 : But base g w w.drew := ⟨rfl, rfl, rfl, Nat.le_refl _, fun _ _ _ => rfl⟩
  have hs5 : base ≤ w.drew.heap.size := hbs
  have Hh5 : Hid (∀ k : Nat, w.drew.heap[k]? = w.heap[k]?) := fun _ => rfl
  have Hz5 : Hid (w.drew.heap.size = w.heap.size) := rfl
  clear hhas0 hat0 hwf0 hno hwfl he
  go_enter Try.func64, Try.ntmps64
  go_wp2_with fail
  refine HH.out.mono ?_
  rintro e w' ⟨rfl, rfl⟩
  go_wp2_with fail
  go_still_tail 10, (by kernel_rfl)
  change wpList _ _ _ _ _ w.drew
  generalize w.drew = W5 at hbox5 hmap5 hrow5 hbut5 hs5 Hh5 Hz5 ⊢
  clear hbox hmap hrow e0 e1 heq
  have hne7 : blockOf A ≠ some g := fun e => by have := (hrow5.blocks g e).1; omega
  have hnb7 := row_map_ne hrow5 hmap5
  go_wp2_with (first
    | (at_mapUpdate; refine wpList_mapUpdate_own _ rfl _ _ _ 84 rfl 3 3 lawI Try.underlying84 _ b n _ rfl hmap5 (by unfold maxLen; omega) _ _ _ rfl rfl (keyOf_i Hx.out) _ [] (plainElem_int Try.underlying3 Hwfl.out) ?_; intro W6 hown6 hgrow6; have hbox6 : Lies W6 g #[.map (some b), .slice A L.length c] 86 := (hgrow6.block g hbox5.lt (by simp; omega)).trans hbox5; have hrow6 := hrow5.kept hgrow6 (.inr hnb7); have e1 := hbox6.cell 1; simp at e1; have hs6 := hgrow6.size; have hl6 := hbox6.lt)
    | (at_builtin; refine append_ints rfl (.tmp 31) (.tmp 33) rfl base A c L rfl (hrow6.alloc _) (W6.heap.size + 1) _ 1 [x] rfl (fun e => by cases e) (IntsAt.one W6 x Hx.out) (by simp <;> omega) (by simp <;> omega) ?_; intro zs A' c' w1 hz hown1 hgrow1 hat1; have s1 : w1.cell? ⟨g, 1, none⟩ = some (.slice A L.length c) := (hgrow1.cell_far _ (by simp; omega) (fun e => hne7 e.symm)).trans ((World.cell?_alloc_lt _ _ _ (by simp; omega)).trans e1); have s2 : w1.frozen? ⟨g, 1, none⟩ = false := (hgrow1.frozen_far _ (by simp; omega) (fun e => hne7 e.symm)).trans ((hbox6.alloc _).frozen 1)))
  go_ret
  have hfin := SetI.grow (o := .cells #[.int .i64 x] 3) hbox6 hlt hbb hown6 hmap5.isMap (by omega) hhas.out hat.out Hx.out Hno.out hwf.out hrow6 (by omega) hz.out hown1 hgrow1
  have hz5 := Hz5.out
  have hg1 := hgrow1.size
  simp at hg1
  refine ⟨rfl, ⟨_, _, _, hfin.1, ⟨by simp; omega, .inl rfl, ?_, fun k hk hkg hkm hkA => ?_⟩⟩, (hbut5.trans ⟨hgrow6.os, hgrow6.tape, hgrow6.output, hgrow6.size, fun j hj _ => hgrow6.block j (by omega) (by simp; omega)⟩).trans hfin.2⟩
  · rcases hat1 with h | h
    · exact .inl h
    · exact .inr ⟨_, h, by simp; omega⟩
  · rw [Below.heap_setCell _ _ _ _ hkg, hgrow1.block k (by simp; omega) (fun e => hkA e.symm), Below.heap_alloc _ _ _ (by omega), hgrow6.block k (by omega) (fun e => hkm e.symm)]
    exact Hh5.out k

set_option maxRecDepth 100000 in
set_option maxHeartbeats 2000000 in
theorem addI_first2 (g base : Nat) (c : Nat) (A : Option Addr) (x : Int) (w : World) (h : SetI w g base none A c []) (hx : In64 x) (hbs : base ≤ w.heap.size) :
    Calls Try.prog 64 #[.pointer (some ⟨g, 0, none⟩), .int .i64 x] w fun e w' => e = .returned (.bool true) ∧ (∃ m' A' c', SetI w' g base m' A' c' [x] ∧ Tight g none A m' A' w w') ∧ But base g w w' := by
  have H := hasI_any g base none A c [] x w h hx
  rw [tf_false (by simp)] at H
  have HH := hide H
  clear H
  obtain ⟨hbox, hrow, _, hlt, _⟩ := h
  have hglt := hbox.lt
  have hmm := @run_makeMap Try.prog
  have heq := fun (w : World) => run_eql_map_nil (P := Try.prog) w 84 _ _ none Try.underlying84
  have d0 := hbox.cell 0
  have b0 := (hbox.alloc (.map #[] 0)).cell 0
  have f0 := (hbox.alloc (.map #[] 0)).frozen 0
  simp at b0 d0
  have hbox4 := (hbox.alloc (.map #[] 0)).set 0 (.map (some w.heap.size))
  have hmap4 := ((World.ownsMap_made (H := Unit) w Try.prog 3 (plainElem Try.prog 3))).setCell (a := ⟨g, 0, none⟩) (by simp; omega) (.map (some w.heap.size))
  have hrow4 : OwnI ((w.alloc (.map #[] 0)).setCell ⟨g, 0, none⟩ (.map (some w.heap.size))) base A c [] := ⟨ownsRow_setCell_below (hrow.alloc (.map #[] 0)).own (a := ⟨g, 0, none⟩) hlt (.map (some w.heap.size))⟩
  have hbut4 : But base g w ((w.alloc (.map #[] 0)).setCell ⟨g, 0, none⟩ (.map (some w.heap.size))) :=
    ⟨rfl, rfl, rfl, by simp, fun j hj hjg => by
      rw [Below.heap_setCell _ _ _ _ hjg, Below.heap_alloc _ _ _ (by omega)]⟩
  have hs4 : ((w.alloc (.map #[] 0)).setCell ⟨g, 0, none⟩ (.map (some w.heap.size))).heap.size = w.heap.size + 1 := by simp
  simp only [List.setIfInBounds_toArray, List.set_cons_zero] at hbox4
  have Hx := hide hx
  have Hh4 : Hid (∀ k : Nat, k < w.heap.size → k ≠ g → ((w.alloc (.map #[] 0)).setCell ⟨g, 0, none⟩ (.map (some w.heap.size))).heap[k]? = w.heap[k]?) := fun k hk hkg => by
    rw [Below.heap_setCell _ _ _ _ hkg, Below.heap_alloc _ _ _ hk]
  clear hglt
  go_enter Try.func64, Try.ntmps64
  go_wp2_with fail
  refine HH.out.mono ?_
  rintro e w' ⟨rfl, rfl⟩
  go_wp2_with fail
  have HS4 := hide hs4
  clear hs4
  generalize (w.alloc (.map #[] 0)).setCell ⟨g, 0, none⟩ (.map (some w.heap.size)) = W3 at hbox4 hmap4 hrow4 hbut4 HS4 Hh4 ⊢
  have hbb : base ≤ w.heap.size := hbs
  have hbut5' := hbut4
  generalize hbw : w.heap.size = b at hmap4 hbox4 HS4 hbb ⊢
  have Hbw := hide hbw
  clear hbw
  clear hmm heq d0 b0 f0 hbox hrow
  have e0 := hbox4.cell 0
  have e1 := hbox4.cell 1
  simp at e0 e1
  have hbox5 : Lies W3.drew g #[.map (some b), .slice A ([] : List Int).length c] 86 := hbox4
  have hmap5 := hmap4.drew
  have hrow5 := hrow4.drew
  have hbut5 : But base g w W3.drew := ⟨hbut4.os, hbut4.tape, hbut4.output, hbut4.size, hbut4.block⟩
  have hs5 : b + 1 ≤ W3.drew.heap.size := Nat.le_of_eq HS4.out.symm
  have Hh5 : Hid (∀ k : Nat, k < w.heap.size → k ≠ g → W3.drew.heap[k]? = w.heap[k]?) := Hh4
  go_still_tail 10, (by kernel_rfl)
  change wpList _ _ _ _ _ W3.drew
  generalize W3.drew = W5 at hbox5 hmap5 hrow5 hbut5 hs5 Hh5 ⊢
  clear hbox4 hmap4 hrow4 hbut4 HS4 Hh4 e0 e1 hbut5'
  have hL : ([] : List Int).length ≤ 1048576 := by simp
  have Hwfl : Hid ((Lit.int .i64 (0 : Int)).wf = true) := WalkArith.wf_i64 (by omega)
  have hne7 : blockOf A ≠ some g := fun e => by have := (hrow5.blocks g e).1; omega
  have hnb7 := row_map_ne hrow5 hmap5
  go_wp2_with (first
    | (at_mapUpdate; refine wpList_mapUpdate_own _ rfl _ _ _ 84 rfl 3 3 lawI Try.underlying84 _ b 0 _ rfl hmap5 (by unfold maxLen; omega) _ _ _ rfl rfl (keyOf_i Hx.out) _ [] (plainElem_int Try.underlying3 Hwfl.out) ?_; intro W6 hown6 hgrow6; have hbox6 : Lies W6 g #[.map (some b), .slice A 0 c] 86 := (hgrow6.block g hbox5.lt (by simp; omega)).trans hbox5; have hrow6 := hrow5.kept hgrow6 (.inr hnb7); have e1 := hbox6.cell 1; simp at e1; have hs6 := hgrow6.size; have hl6 := hbox6.lt)
    | (at_builtin; refine append_ints rfl (.tmp 31) (.tmp 33) rfl base A c [] rfl (hrow6.alloc _) (W6.heap.size + 1) _ 1 [x] rfl (fun e => by cases e) (IntsAt.one W6 x Hx.out) (by simp <;> omega) (by simp <;> omega) ?_; intro zs A' c' w1 hz hown1 hgrow1 hat1; have s1 : w1.cell? ⟨g, 1, none⟩ = some (.slice A 0 c) := (hgrow1.cell_far _ (by simp; omega) (fun e => hne7 e.symm)).trans ((World.cell?_alloc_lt _ _ _ (by simp; omega)).trans e1); have s2 : w1.frozen? ⟨g, 1, none⟩ = false := (hgrow1.frozen_far _ (by simp; omega) (fun e => hne7 e.symm)).trans ((hbox6.alloc _).frozen 1)))
  go_ret
  have hfin := SetI.grow (L := []) (o := .cells #[.int .i64 x] 3) hbox6 hlt hbb hown6 isMap_empty (by simp) (fun y _ => by simp [Maps.has]) (by simp) Hx.out (by simp) (by simp) hrow6 (by omega) hz.out hown1 hgrow1
  have hg1 := hgrow1.size
  have hbw := Hbw.out
  simp at hg1
  refine ⟨rfl, ⟨_, _, _, hfin.1, ⟨by simp; omega, .inr ⟨b, rfl, by omega⟩, ?_, fun k hk hkg _ hkA => ?_⟩⟩, (hbut5.trans ⟨hgrow6.os, hgrow6.tape, hgrow6.output, hgrow6.size, fun j hj _ => hgrow6.block j (by omega) (by simp; omega)⟩).trans hfin.2⟩
  · rcases hat1 with h | h
    · exact .inl h
    · exact .inr ⟨_, h, by simp; omega⟩
  · rw [Below.heap_setCell _ _ _ _ hkg, hgrow1.block k (by simp; omega) (fun e => hkA e.symm), Below.heap_alloc _ _ _ (by omega), hgrow6.block k (by omega) (by simp; omega)]
    exact Hh5.out k hk hkg

theorem addI_new2 (g base : Nat) (m : Option Nat) (c : Nat) (A : Option Addr) (L : List Int) (x : Int) (w : World) (h : SetI w g base m A c L) (hx : In64 x) (hbs : base ≤ w.heap.size) (hno : x ∉ L) (hL : L.length ≤ 1048576) :
    Calls Try.prog 64 #[.pointer (some ⟨g, 0, none⟩), .int .i64 x] w fun e w' => e = .returned (.bool true) ∧ (∃ m' A' c', SetI w' g base m' A' c' (L ++ [x]) ∧ Tight g m A m' A' w w') ∧ But base g w w' := by
  cases m with
  | none =>
    obtain rfl : L = [] := by
      rcases h.map with ⟨_, h2⟩ | ⟨_, _, _, h2, _⟩
      · exact h2
      · cases h2
    exact addI_first2 g base c A x w h hx hbs
  | some b => exact addI_next2 g base b c A L x w h hx hbs hno hL

theorem addI_new (g base : Nat) (m : Option Nat) (c : Nat) (A : Option Addr) (L : List Int) (x : Int) (w : World) (h : SetI w g base m A c L) (hx : In64 x) (hbs : base ≤ w.heap.size) (hno : x ∉ L) (hL : L.length ≤ 1048576) :
    Calls Try.prog 64 #[.pointer (some ⟨g, 0, none⟩), .int .i64 x] w fun e w' => e = .returned (.bool true) ∧ (∃ m A' c', SetI w' g base m A' c' (L ++ [x])) ∧ But base g w w' := by
  exact (addI_new2 g base m c A L x w h hx hbs hno hL).mono fun e w' ⟨h1, ⟨m', A', c', h2, _⟩, h3⟩ => ⟨h1, ⟨m', A', c', h2⟩, h3⟩

end Go.Proofs.Ytpcfjdhalglebaa
