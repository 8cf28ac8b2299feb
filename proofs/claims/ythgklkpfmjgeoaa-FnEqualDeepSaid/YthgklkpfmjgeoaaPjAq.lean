/-
  Lemmas, several texts in one: SetK, ImplA.
-/
import Derived.Test.YthgklkpfmjgeoaaPjAk
import Derived.StillTailTactics
import Derived.Deep.QuietTactic
import Derived.BigQuiet
import Derived.Deep.RegionLaw
import Derived.Deep.AppendLies
import Derived.Test.YthgklkpfmjgeoaaPjAd
import Derived.Test.YthgklkpfmjgeoaaPjAc
namespace Go.Proofs.Ythgklkpfmjgeoaa
open Go.RowKit Go.Maps
set_option linter.unusedVariables false

theorem infoK : (Try.prog.info? 82).map (fun i => (i.zero, i.size, i.bytes)) = some (some (.agg #[.int .i64 0, .int .i64 0]), 2, 16) := by kernel_rfl

def keyCells (L : List (Int × Int)) : List Value := L.flatMap fun p => [.int .i64 p.1, .int .i64 p.2]

theorem keyCells_append (L : List (Int × Int)) (p : Int × Int) : keyCells (L ++ [p]) = keyCells L ++ [.int .i64 p.1, .int .i64 p.2] := by
  simp [keyCells]

/-- the map part of a set: nil and empty, or a map of the call's own that has just the members -/
def MapK (w : World) (base : Nat) (m : Option Nat) (L : List (Int × Int)) : Prop :=
  (m = none ∧ L = []) ∨ ∃ (b n : Nat) (D : DataW Unit), m = some b ∧ base ≤ b ∧ w.ownsMap Try.prog 82 (plainElem Try.prog 3) b n D ∧ n ≤ L.length ∧
    ∀ k v, In64 k → In64 v → (Maps.has D (keyLit k v) = true ↔ (k, v) ∈ L)

structure SetK (w : World) (g base : Nat) (m : Option Nat) (A : Option Addr) (c : Nat) (L : List (Int × Int)) : Prop where
  box : Lies w g #[.map m, .slice A L.length c] 79
  row : w.ownsRow base 82 2 (.slice A L.length c) L.length (keyCells L)
  map : MapK w base m L
  lt : g < base
  wf : ∀ p ∈ L, In64 p.1 ∧ In64 p.2

theorem lookK {w : World} {b n : Nat} {D : DataW Unit} {k v : Int} (h : w.ownsMap Try.prog 82 (plainElem Try.prog 3) b n D) (hkey : keyOf Try.prog 82 (.agg #[.int .i64 k, .int .i64 v]) = some (keyLit k v)) :
    ∃ cc : Int, ∀ nq, (Instr.lookup 76 (.map (some b)) (.agg #[.int .i64 k, .int .i64 v]) true).run Try.prog (w.drewN nq) = .ok (.tuple #[.int .i64 cc, .bool (Maps.has D (keyLit k v))]) (w.drewN nq) := by
  have one : ∀ w' : World, w'.ownsMap Try.prog 82 (plainElem Try.prog 3) b n D →
      ∃ cc : Int, (Instr.lookup 76 (.map (some b)) (.agg #[.int .i64 k, .int .i64 v]) true).run Try.prog w' = .ok (.tuple #[.int .i64 cc, .bool (Maps.has D (keyLit k v))]) w' ∧ D.atKey (keyLit k v) (.lit (.int .i64 0)) = .lit (.int .i64 cc) := by
    intro w' h'
    obtain ⟨x, ps, hrun, hx⟩ := h'.look_ok lawK Try.underlying76 (zeroI w') (plainElem_int Try.underlying3 (by decide)) hkey
    obtain ⟨a, rfl, hz, _⟩ := plainElem_int_inv Try.underlying3 hx
    exact ⟨a, hrun, congrArg Prod.fst hz⟩
  obtain ⟨cc, _, h2⟩ := one w h
  refine ⟨cc, fun nq => ?_⟩
  obtain ⟨c', h3, h4⟩ := one (w.drewN nq) h
  rw [h2] at h4
  simp only [DataW.lit.injEq, Lit.int.injEq, true_and] at h4
  rw [h4]
  exact h3

theorem MapK.below {w w' : World} {base : Nat} {m : Option Nat} {L : List (Int × Int)} (h : MapK w base m L) (hb : Below w.heap.size w w') : MapK w' base m L := by
  rcases h with h | ⟨b, n, D, h1, h2, h3, h4⟩
  · exact .inl h
  · exact .inr ⟨b, n, D, h1, h2, h3.kept (grownBy_of_below hb) (by simp), h4⟩

theorem SetK.below {w w' : World} {g base : Nat} {m : Option Nat} {A : Option Addr} {c : Nat} {L : List (Int × Int)} (h : SetK w g base m A c L) (hb : Below w.heap.size w w') : SetK w' g base m A c L :=
  ⟨h.box.below hb h.box.lt, h.row.kept (grownBy_of_below hb) (by cases hx : (Value.slice A L.length c).ownBlock <;> simp), h.map.below hb, h.lt, h.wf⟩

theorem lookNilK {k v : Int} (hkey : keyOf Try.prog 82 (.agg #[.int .i64 k, .int .i64 v]) = some (keyLit k v)) (w : World) :
    (Instr.lookup 76 (.map none) (.agg #[.int .i64 k, .int .i64 v]) true).run Try.prog w = .ok (.tuple #[.int .i64 0, .bool false]) w :=
  Maps.look_nil true lawK Try.underlying76 (zeroI w) hkey

set_option maxRecDepth 100000 in
set_option maxHeartbeats 1000000 in
theorem hasK_any (g base : Nat) (m : Option Nat) (A : Option Addr) (c : Nat) (L : List (Int × Int)) (k v : Int) (w : World) (h : SetK w g base m A c L) (hk : In64 k) (hv : In64 v) :
    Calls Try.prog 76 #[.pointer (some ⟨g, 0, none⟩), .agg #[.int .i64 k, .int .i64 v]] w fun e w' => e = .returned (.bool (tf ((k, v) ∈ L))) ∧ Below w.heap.size w w' := by
  obtain ⟨hbox, _, hmap, hlt, _⟩ := h
  have hkey := keyOf_key hk hv
  have hglt := hbox.lt
  have hbox2 := (hbox.alloc (.cells #[.int .i64 k, .int .i64 v] 82))
  have lk := Lies.new w #[.int .i64 k, .int .i64 v] 82
  have hB : Below w.heap.size w (w.alloc (.cells #[.int .i64 k, .int .i64 v] 82)) := (Below.refl _ _).alloc (Nat.le_refl _) _
  rcases hmap with ⟨rfl, rfl⟩ | ⟨b, n, D, rfl, hb, hown, hn, hhas⟩
  · have HF := hide (show tf ((k, v) ∈ ([] : List (Int × Int))) = false from tf_false (by simp))
    have Hkey := hide hkey
    clear hbox hkey
    go_enter Try.func76, Try.ntmps76
    go_wp2_with fail
    generalize w.alloc (.cells #[.int .i64 k, .int .i64 v] 82) = W at hbox2 lk hB ⊢
    have b0 := hbox2.cell 0
    have c0 := lk.cell 0
    have c1 := lk.cell 1
    simp at b0 c0 c1
    have hlk := lookNilK Hkey.out
    go_quiet (fail)
    go_wp2
    go_ret
    exact ⟨ret_bool HF.out.symm, below_drewN hB _⟩
  · have HF : Hid (tf ((k, v) ∈ L) = Maps.has D (keyLit k v)) := by
      cases hq : Maps.has D (keyLit k v)
      · exact tf_false fun hm => by rw [(hhas k v hk hv).2 hm] at hq; cases hq
      · exact tf_true ((hhas k v hk hv).1 hq)
    have hown2 := hown.alloc (.cells #[.int .i64 k, .int .i64 v] 82)
    have Hkey := hide hkey
    clear hbox hown hkey hhas
    go_enter Try.func76, Try.ntmps76
    go_wp2_with fail
    generalize w.alloc (.cells #[.int .i64 k, .int .i64 v] 82) = W at hbox2 lk hown2 hB ⊢
    have b0 := hbox2.cell 0
    have c0 := lk.cell 0
    have c1 := lk.cell 1
    simp at b0 c0 c1
    obtain ⟨cc, hlk⟩ := lookK hown2 Hkey.out
    generalize Maps.has D (keyLit k v) = q at hlk HF
    go_quiet (fail)
    go_wp2
    go_ret
    exact ⟨ret_bool HF.out.symm, below_drewN hB _⟩

set_option maxRecDepth 100000 in
set_option maxHeartbeats 1000000 in
theorem addK_seen (g base : Nat) (m : Option Nat) (A : Option Addr) (c : Nat) (L : List (Int × Int)) (k v : Int) (w : World) (h : SetK w g base m A c L) (hk : In64 k) (hv : In64 v) (hin : (k, v) ∈ L) :
    Calls Try.prog 64 #[.pointer (some ⟨g, 0, none⟩), .agg #[.int .i64 k, .int .i64 v]] w fun e w' => e = .returned (.bool false) ∧ Below w.heap.size w w' := by
  have lk := Lies.new w #[.int .i64 k, .int .i64 v] 82
  have hB : Below w.heap.size w (w.alloc (.cells #[.int .i64 k, .int .i64 v] 82)) := (Below.refl _ _).alloc (Nat.le_refl _) _
  have h2 := h.below hB
  have ht := hide (tf_true hin)
  clear h hin
  go_enter Try.func64, Try.ntmps64
  go_wp2_with fail
  generalize w.alloc (.cells #[.int .i64 k, .int .i64 v] 82) = W at lk hB h2 ⊢
  have c0 := lk.cell 0
  have c1 := lk.cell 1
  simp at c0 c1
  go_wp2_with fail
  refine (hasK_any g base m A c L k v W h2 hk hv).mono ?_
  rintro e W2 ⟨rfl, hb2⟩
  rw [ht.out]
  clear c0 c1
  go_wp2
  go_ret
  exact ⟨rfl, hB.trans (hb2.mono hB.size)⟩

/-- what a new member does to a set, behind the append to its row -/
theorem SetK.grow {W w1 : World} {g base b n cap gg c : Nat} {A : Option Addr} {L : List (Int × Int)} {k v : Int} {D : DataW Unit} {d : DataW Unit} {o : Obj}
    (hbox : Lies W g #[.map (some b), .slice A L.length c] 79) (hlt : g < base) (hbb : base ≤ b)
    (hmap : W.ownsMap Try.prog 82 (plainElem Try.prog 3) b n (D.put (keyLit k v) d)) (hD : IsMap D) (hn : n ≤ L.length + 1)
    (hhas : ∀ k' v', In64 k' → In64 v' → (Maps.has D (keyLit k' v') = true ↔ (k', v') ∈ L)) (hk : In64 k) (hv : In64 v) (hwf : ∀ p ∈ L, In64 p.1 ∧ In64 p.2)
    (hrow : W.ownsRow base 82 2 (.slice A L.length c) L.length (keyCells L)) (hbs : base ≤ W.heap.size)
    (hown : w1.ownsRow base 82 2 (.slice (some ⟨gg, 0, none⟩) (L.length + 1) cap) (L.length + 1) (keyCells L ++ [.int .i64 k, .int .i64 v]))
    (hgrow : (W.alloc o).drew.grownBy w1 (Value.slice A L.length c).ownBlock) :
    SetK (w1.setCell ⟨g, 1, none⟩ (.slice (some ⟨gg, 0, none⟩) (L.length + 1) cap)) g base (some b) (some ⟨gg, 0, none⟩) cap (L ++ [(k, v)]) ∧
      But base g W (w1.setCell ⟨g, 1, none⟩ (.slice (some ⟨gg, 0, none⟩) (L.length + 1) cap)) := by
  have hglt := hbox.lt
  have hne : (Value.slice A L.length c).ownBlock ≠ some g := fun e => by have := (hrow.lt g e).1; omega
  have hblt := hmap.lt
  have hnb : (Value.slice A L.length c).ownBlock ≠ some b := by
    intro e
    rcases hrow.2 with ⟨h1, _⟩ | ⟨q, cap', cur, hv', _, hh, _⟩
    · rw [h1] at e; cases e
    · rw [hv'] at e
      simp [Value.ownBlock] at e
      subst e
      obtain ⟨es, cl, hm, _⟩ := hmap
      rw [hm] at hh
      cases hh
  have hbox1 : Lies w1 g #[.map (some b), .slice A L.length c] 79 :=
    (hgrow.block g (by simp; omega) (fun e => hne e.symm)).trans (hbox.alloc o)
  have hmap1 := (((hmap.alloc o).drew).kept hgrow (fun e => hnb e.symm)).setCell (a := ⟨g, 1, none⟩) (by show b ≠ g; omega) (.slice (some ⟨gg, 0, none⟩) (L.length + 1) cap)
  have hkl : WideAt.IsKeyLit (keyLit k v) := lawK.key (keyOf_key hk hv)
  have hbox2 := hbox1.set 1 (.slice (some ⟨gg, 0, none⟩) (L.length + 1) cap)
  simp at hbox2
  refine ⟨⟨?_, ?_, .inr ⟨b, n, _, rfl, hbb, hmap1, by simp; omega, fun k' v' hk' hv' => ?_⟩, hlt, fun p hp => ?_⟩, ?_⟩
  · simpa using hbox2
  · have := ownsRow_setCell_below hown (a := ⟨g, 1, none⟩) hlt (.slice (some ⟨gg, 0, none⟩) (L.length + 1) cap)
    simpa [keyCells_append] using this
  · by_cases e : (k', v') = (k, v)
    · injection e with e1 e2
      subst e1
      subst e2
      simp [Maps.has_put_same hD hkl]
    · have hne' : keyLit k' v' ≠ keyLit k v := fun h => by
        have := keyLit_inj hk' hv' hk hv h
        exact e (by rw [this.1, this.2])
      rw [Maps.has_put_other hne', hhas k' v' hk' hv']
      simp [e]
  · rcases List.mem_append.1 hp with hp | hp
    · exact hwf p hp
    · simp at hp
      subst hp
      exact ⟨hk, hv⟩
  · refine ⟨hgrow.os, hgrow.tape, hgrow.output, by have := hgrow.size; simp at this ⊢; omega, fun j hj hjg => ?_⟩
    rw [Below.heap_setCell _ _ _ _ hjg, hgrow.block j (by simp; omega) (fun e => by have := (hrow.lt j e.symm).1; omega)]
    exact Below.heap_alloc _ _ _ (by omega)

set_option maxRecDepth 100000 in
set_option maxHeartbeats 2000000 in
theorem addK_first (g base : Nat) (c : Nat) (A : Option Addr) (k v : Int) (w : World) (h : SetK w g base none A c []) (hk : In64 k) (hv : In64 v) (hbs : base ≤ w.heap.size) :
    Calls Try.prog 64 #[.pointer (some ⟨g, 0, none⟩), .agg #[.int .i64 k, .int .i64 v]] w fun e w' => e = .returned (.bool true) ∧ (∃ m A' c', SetK w' g base m A' c' [(k, v)]) ∧ But base g w w' := by
  have hB0 : Below w.heap.size w (w.alloc (.cells #[.int .i64 k, .int .i64 v] 82)) := (Below.refl _ _).alloc (Nat.le_refl _) _
  have H2 := h.below hB0
  clear hB0
  obtain ⟨hbox, hrow, _, hlt, _⟩ := h
  have hkey := keyOf_key hk hv
  have hglt := hbox.lt
  have hbox2 := (hbox.alloc (.cells #[.int .i64 k, .int .i64 v] 82))
  have lk := Lies.new w #[.int .i64 k, .int .i64 v] 82
  have hrow2 := hrow.alloc (.cells #[.int .i64 k, .int .i64 v] 82)
  have hB : Below w.heap.size w (w.alloc (.cells #[.int .i64 k, .int .i64 v] 82)) := (Below.refl _ _).alloc (Nat.le_refl _) _
  have Hkey := hide hkey
  clear hbox hrow hkey
  go_enter Try.func64, Try.ntmps64
  go_wp2_with fail
  generalize w.alloc (.cells #[.int .i64 k, .int .i64 v] 82) = W at hbox2 lk hrow2 hB H2 ⊢
  have c0 := lk.cell 0
  have c1 := lk.cell 1
  simp at c0 c1
  have hmm := @run_makeMap Try.prog
  have heq := fun (w : World) => run_eql_map_nil (P := Try.prog) w 76 _ _ none Try.underlying76
  go_wp2_with fail
  refine (hasK_any g base none A c [] k v W H2 hk hv).mono ?_
  rintro e W2 ⟨rfl, hbW⟩
  rw [tf_false (by simp)]
  have hbox3 := hbox2.below hbW hbox2.lt
  have lk3 := lk.below hbW lk.lt
  have hrow3 : W2.ownsRow base 82 2 (.slice A 0 c) 0 [] := hrow2.kept (grownBy_of_below hbW) (by cases hx : (Value.slice A 0 c).ownBlock <;> simp)
  have hB3 := hB.trans (hbW.mono hB.size)
  clear H2 hbW
  clear hbox2 lk hrow2 hB c0 c1
  have d0 := hbox3.cell 0
  have b0 := (hbox3.alloc (.map #[] 0)).cell 0
  have f0 := (hbox3.alloc (.map #[] 0)).frozen 0
  simp at b0 d0
  go_wp2_with fail
  have hw2 := lk3.lt
  have hbox4 := (hbox3.alloc (.map #[] 0)).set 0 (.map (some W2.heap.size))
  have lk4 := (lk3.alloc (.map #[] 0)).far (p := ⟨g, 0, none⟩) (by simp; omega) (.map (some W2.heap.size))
  have hmap4 := ((World.ownsMap_made (H := Unit) W2 Try.prog 82 (plainElem Try.prog 3))).setCell (a := ⟨g, 0, none⟩) (by simp; omega) (.map (some W2.heap.size))
  have hrow4 := ownsRow_setCell_below (hrow3.alloc (.map #[] 0)) (a := ⟨g, 0, none⟩) hlt (.map (some W2.heap.size))
  have hbut4 : But base g w ((W2.alloc (.map #[] 0)).setCell ⟨g, 0, none⟩ (.map (some W2.heap.size))) :=
    ⟨hB3.os, hB3.tape, hB3.output, by have := hB3.size; simp; omega, fun j hj hjg => by
      rw [Below.heap_setCell _ _ _ _ hjg, Below.heap_alloc _ _ _ (by have := hB3.size; omega)]
      exact hB3.block j (by omega)⟩
  have hs4 : ((W2.alloc (.map #[] 0)).setCell ⟨g, 0, none⟩ (.map (some W2.heap.size))).heap.size = W2.heap.size + 1 := by simp
  generalize (W2.alloc (.map #[] 0)).setCell ⟨g, 0, none⟩ (.map (some W2.heap.size)) = W3 at hbox4 lk4 hmap4 hrow4 hbut4 hs4 ⊢
  have HS4 := hide hs4
  have hbW2 : base ≤ W2.heap.size := by omega
  generalize W2.heap.size = b at hmap4 hbox4 HS4 hbW2 hw2 ⊢
  clear hbox3 lk3 hrow3 hB3 b0 d0 f0 hs4
  simp at hbox4
  have e0 := hbox4.cell 0
  have e1 := hbox4.cell 1
  have k0 := lk4.cell 0
  have k1 := lk4.cell 1
  simp at e0 e1 k0 k1
  have hbox5 : Lies W3.drew g #[.map (some b), .slice A 0 c] 79 := hbox4
  have lk5 : Lies W3.drew w.heap.size #[.int .i64 k, .int .i64 v] 82 := lk4
  have hmap5 := hmap4.drew
  have hrow5 : W3.drew.ownsRow base 82 2 (.slice A 0 c) 0 [] := hrow4
  have hbut5 : But base g w W3.drew := ⟨hbut4.os, hbut4.tape, hbut4.output, hbut4.size, hbut4.block⟩
  have HS5 : Hid (W3.drew.heap.size = b + 1) := HS4
  go_still_tail 10, (by kernel_rfl)
  change wpList _ _ _ _ _ W3.drew
  generalize W3.drew = W5 at hbox5 lk5 hmap5 hrow5 hbut5 HS5 ⊢
  clear hbox4 lk4 hmap4 hrow4 hbut4 HS4 e0 e1 k0 k1 heq hmm
  go_wp2_with (at_mapUpdate; refine wpList_mapUpdate_own _ rfl _ _ _ 76 rfl 82 3 lawK Try.underlying76 _ b 0 _ rfl hmap5 (by unfold maxLen; omega) _ _ _ rfl rfl Hkey.out _ [] (plainElem_int Try.underlying3 (by decide)) ?_; intro W6 hown6 hgrow6)
  obtain ⟨i0, hi0, hz0, hz1, hz2⟩ := info_parts infoK
  have hlt5 := hbox5.lt
  have hw5 := lk5.lt
  have hs6 := hgrow6.size
  have hbox6 : Lies W6 g #[.map (some b), .slice A 0 c] 79 := (hgrow6.block g hlt5 (by simp; omega)).trans hbox5
  have lk6 : Lies W6 w.heap.size #[.int .i64 k, .int .i64 v] 82 := (hgrow6.block _ hw5 (by simp; omega)).trans lk5
  have hrow6 : W6.ownsRow base 82 2 (.slice A 0 c) 0 [] := hrow5.kept hgrow6 (by
    rcases hrow5.2 with ⟨h1, _⟩ | ⟨q, cap, cur, hv, _, hh, _⟩
    · left; injection h1 with h1; subst h1; rfl
    · right
      rw [hv]
      simp [Value.ownBlock]
      rintro rfl
      obtain ⟨es, cl, hm, _⟩ := hmap5
      rw [hm] at hh
      cases hh)
  have e1 := hbox6.cell 1
  have fe := hbox6.frozen 1
  have k0 := lk6.cell 0
  have k1 := lk6.cell 1
  simp at e1 k0 k1
  have hl6 := hbox6.lt
  have hw6 := lk6.lt
  have hbox7 := hbox6.alloc (.cells #[.int .i64 k, .int .i64 v] 82)
  have a1 := hbox7.cell 1
  have af := hbox7.frozen 1
  simp at a1
  have hne7 : (Value.slice A 0 c).ownBlock ≠ some g := fun e => by have := (hrow6.lt g e).1; omega
  go_region_law (refine step_append_lies _ (by rfl) _ _ _ (by rfl) base 82 i0 _ 2 16 Try.underlying77 hi0 hz0 hz1 hz2 rfl (by omega) (.slice A 0 c) 0 [] (by rfl) ((hrow6.alloc _).drew) ⟨W6.heap.size, 0, none⟩ 1 1 [.int .i64 k, .int .i64 v] (by rfl) (by rfl) (World.news_of_block (cs := #[.int .i64 k, .int .i64 v]) (t := 82) (fr := (0, 0)) (heap_alloc_new W6 _)) (by simp [Value.oneCell']) (by omega) (by unfold maxLen; omega) (by omega) (by simp; omega) (W6.heap.size + 1) (by simp) ?_; intro gg cap w1 hown1 hgrow hat hlt7; have s1 : w1.cell? ⟨g, 1, none⟩ = some (.slice A 0 c) := (hgrow.cell_far _ (by simp; omega) (fun e => hne7 e.symm)).trans a1; have s2 : w1.frozen? ⟨g, 1, none⟩ = false := (hgrow.frozen_far _ (by simp; omega) (fun e => hne7 e.symm)).trans af)
  all_goals
    go_wp2
    go_ret
    have hfin := SetK.grow (L := []) (d := .lit (.int .i64 0)) (o := .cells #[.int .i64 k, .int .i64 v] 82) hbox6 hlt hbW2 hown6 isMap_empty (by simp) (fun k' v' _ _ => by simp [Maps.has]) hk hv (by simp) hrow6 (by omega) hown1 hgrow
    refine ⟨rfl, ⟨_, _, _, hfin.1⟩, (hbut5.trans ⟨hgrow6.os, hgrow6.tape, hgrow6.output, hgrow6.size, fun j hj _ => hgrow6.block j (by omega) (by simp; omega)⟩).trans hfin.2⟩

set_option maxRecDepth 100000 in
set_option maxHeartbeats 2000000 in
theorem addK_next (g base b : Nat) (c : Nat) (A : Option Addr) (L : List (Int × Int)) (k v : Int) (w : World) (h : SetK w g base (some b) A c L) (hk : In64 k) (hv : In64 v) (hbs : base ≤ w.heap.size) (hno : (k, v) ∉ L) (hL : L.length ≤ 1048576) :
    Calls Try.prog 64 #[.pointer (some ⟨g, 0, none⟩), .agg #[.int .i64 k, .int .i64 v]] w fun e w' => e = .returned (.bool true) ∧ (∃ m A' c', SetK w' g base m A' c' (L ++ [(k, v)])) ∧ But base g w w' := by
  have hB0 : Below w.heap.size w (w.alloc (.cells #[.int .i64 k, .int .i64 v] 82)) := (Below.refl _ _).alloc (Nat.le_refl _) _
  have H2 := h.below hB0
  clear hB0
  obtain ⟨hbox, hrow, hmap0, hlt, hwf0⟩ := h
  rcases hmap0 with ⟨h0, _⟩ | ⟨b', n, D, he, hbb, hmap, hn, hhas0⟩
  · cases h0
  obtain rfl : b = b' := by injection he
  have hhas := hide hhas0
  have hwf := hide hwf0
  have Hno := hide hno
  have hkey := keyOf_key hk hv
  have hglt := hbox.lt
  have hbox2 := (hbox.alloc (.cells #[.int .i64 k, .int .i64 v] 82))
  have lk := Lies.new w #[.int .i64 k, .int .i64 v] 82
  have hrow2 := hrow.alloc (.cells #[.int .i64 k, .int .i64 v] 82)
  have hmap2 := hmap.alloc (.cells #[.int .i64 k, .int .i64 v] 82)
  have hB : Below w.heap.size w (w.alloc (.cells #[.int .i64 k, .int .i64 v] 82)) := (Below.refl _ _).alloc (Nat.le_refl _) _
  have Hkey := hide hkey
  have Htf := hide (tf_false hno)
  have hcpos : (0 : Int) ≤ (L.length : Int) ∧ (L.length : Int) ≤ 1048576 := by omega
  have hwfl : (Lit.int .i64 (L.length : Int)).wf = true := WalkArith.wf_i64 (by omega)
  have Hwfl := hide hwfl
  clear hbox hrow hmap hkey hhas0 hwf0 hno hwfl he
  go_enter Try.func64, Try.ntmps64
  go_wp2_with fail
  generalize w.alloc (.cells #[.int .i64 k, .int .i64 v] 82) = W at hbox2 lk hrow2 hmap2 hB H2 ⊢
  have c0 := lk.cell 0
  have c1 := lk.cell 1
  simp at c0 c1
  have heq := fun (w : World) => run_eql_map_nil (P := Try.prog) w 76 _ _ (some b) Try.underlying76
  go_wp2_with fail
  refine (hasK_any g base (some b) A c L k v W H2 hk hv).mono ?_
  rintro e W2 ⟨rfl, hbW⟩
  rw [Htf.out]
  have hbox3 := hbox2.below hbW hbox2.lt
  have lk3 := lk.below hbW lk.lt
  have hrow3 : W2.ownsRow base 82 2 (.slice A L.length c) L.length (keyCells L) := hrow2.kept (grownBy_of_below hbW) (by cases hx : (Value.slice A L.length c).ownBlock <;> simp)
  have hmap3 := hmap2.kept (grownBy_of_below hbW) (by simp)
  have hB3 := hB.trans (hbW.mono hB.size)
  clear H2 hbW
  clear hbox2 lk hrow2 hmap2 hB c0 c1
  have e0 := hbox3.cell 0
  have e1 := hbox3.cell 1
  have k0 := lk3.cell 0
  have k1 := lk3.cell 1
  simp at e0 e1 k0 k1
  have hs3 := hB3.size
  have hbox5 : Lies W2.drew g #[.map (some b), .slice A L.length c] 79 := hbox3
  have lk5 : Lies W2.drew w.heap.size #[.int .i64 k, .int .i64 v] 82 := lk3
  have hmap5 := hmap3.drew
  have hrow5 : W2.drew.ownsRow base 82 2 (.slice A L.length c) L.length (keyCells L) := hrow3
  have hbut5 : But base g w W2.drew := ⟨hB3.os, hB3.tape, hB3.output, hB3.size, fun j hj _ => hB3.block j (by omega)⟩
  have hs5 : w.heap.size ≤ W2.drew.heap.size := hs3
  go_wp2_with fail
  go_still_tail 10, (by kernel_rfl)
  change wpList _ _ _ _ _ W2.drew
  generalize W2.drew = W5 at hbox5 lk5 hmap5 hrow5 hbut5 hs5 ⊢
  clear hbox3 lk3 hmap3 hrow3 hB3 e0 e1 k0 k1 heq hs3
  go_wp2_with (at_mapUpdate; refine wpList_mapUpdate_own _ rfl _ _ _ 76 rfl 82 3 lawK Try.underlying76 _ b n _ rfl hmap5 (by unfold maxLen; omega) _ _ _ rfl rfl Hkey.out _ [] (plainElem_int Try.underlying3 Hwfl.out) ?_; intro W6 hown6 hgrow6)
  obtain ⟨i0, hi0, hz0, hz1, hz2⟩ := info_parts infoK
  have hlt5 := hbox5.lt
  have hw5 := lk5.lt
  have hs6 := hgrow6.size
  have hbox6 : Lies W6 g #[.map (some b), .slice A L.length c] 79 := (hgrow6.block g hlt5 (by simp; omega)).trans hbox5
  have hblk : w.heap.size ≠ b := by
    rintro rfl
    obtain ⟨es, cl, hm, _⟩ := hmap5
    have hm2 : W5.heap[w.heap.size]? = some (.cells #[.int .i64 k, .int .i64 v] 82 (0, 0)) := lk5
    rw [hm] at hm2
    cases hm2
  have lk6 : Lies W6 w.heap.size #[.int .i64 k, .int .i64 v] 82 := (hgrow6.block _ hw5 (by simp; exact hblk)).trans lk5
  have hrow6 : W6.ownsRow base 82 2 (.slice A L.length c) L.length (keyCells L) := hrow5.kept hgrow6 (by
    rcases hrow5.2 with ⟨h1, _⟩ | ⟨q, cap, cur, hv', _, hh, _⟩
    · left; rw [h1]; rfl
    · right
      rw [hv']
      simp [Value.ownBlock]
      rintro rfl
      obtain ⟨es, cl, hm, _⟩ := hmap5
      rw [hm] at hh
      cases hh)
  have e1 := hbox6.cell 1
  have fe := hbox6.frozen 1
  have k0 := lk6.cell 0
  have k1 := lk6.cell 1
  simp at e1 k0 k1
  have hl6 := hbox6.lt
  have hw6 := lk6.lt
  have hbox7 := hbox6.alloc (.cells #[.int .i64 k, .int .i64 v] 82)
  have a1 := hbox7.cell 1
  have af := hbox7.frozen 1
  simp at a1
  have hne7 : (Value.slice A L.length c).ownBlock ≠ some g := fun e => by have := (hrow6.lt g e).1; omega
  go_region_law (refine step_append_lies _ (by rfl) _ _ _ (by rfl) base 82 i0 _ 2 16 Try.underlying77 hi0 hz0 hz1 hz2 rfl (by omega) (.slice A L.length c) L.length (keyCells L) (by rfl) ((hrow6.alloc _).drew) ⟨W6.heap.size, 0, none⟩ 1 1 [.int .i64 k, .int .i64 v] (by rfl) (by rfl) (World.news_of_block (cs := #[.int .i64 k, .int .i64 v]) (t := 82) (fr := (0, 0)) (heap_alloc_new W6 _)) (by simp [Value.oneCell']) (by omega) (by unfold maxLen; omega) (by omega) (by simp; omega) (W6.heap.size + 1) (by simp) ?_; intro gg cap w1 hown1 hgrow hat hlt7; have s1 : w1.cell? ⟨g, 1, none⟩ = some (.slice A L.length c) := (hgrow.cell_far _ (by simp; omega) (fun e => hne7 e.symm)).trans a1; have s2 : w1.frozen? ⟨g, 1, none⟩ = false := (hgrow.frozen_far _ (by simp; omega) (fun e => hne7 e.symm)).trans af)
  all_goals
    go_wp2
    go_ret
    have hfin := SetK.grow (o := .cells #[.int .i64 k, .int .i64 v] 82) hbox6 hlt hbb hown6 hmap5.isMap (by omega) hhas.out hk hv hwf.out hrow6 (by omega) hown1 hgrow
    refine ⟨rfl, ⟨_, _, _, hfin.1⟩, (hbut5.trans ⟨hgrow6.os, hgrow6.tape, hgrow6.output, hgrow6.size, fun j hj _ => hgrow6.block j (by omega) (by simp; omega)⟩).trans hfin.2⟩

theorem addK_new (g base : Nat) (m : Option Nat) (c : Nat) (A : Option Addr) (L : List (Int × Int)) (k v : Int) (w : World) (h : SetK w g base m A c L) (hk : In64 k) (hv : In64 v) (hbs : base ≤ w.heap.size) (hno : (k, v) ∉ L) (hL : L.length ≤ 1048576) :
    Calls Try.prog 64 #[.pointer (some ⟨g, 0, none⟩), .agg #[.int .i64 k, .int .i64 v]] w fun e w' => e = .returned (.bool true) ∧ (∃ m A' c', SetK w' g base m A' c' (L ++ [(k, v)])) ∧ But base g w w' := by
  cases m with
  | none =>
    obtain rfl : L = [] := by
      rcases h.map with ⟨_, h2⟩ | ⟨_, _, _, h2, _⟩
      · exact h2
      · cases h2
    exact addK_first g base c A k v w h hk hv hbs
  | some b => exact addK_next g base b c A L k v w h hk hv hbs hno hL

end Go.Proofs.Ythgklkpfmjgeoaa

namespace Go.Proofs.Ythgklkpfmjgeoaa
open Go.RowKit Go.Maps
set_option linter.unusedVariables false

/-- all numbers are among N nodes -/
def Among (N : Nat) (xs : List Int) : Prop := ∀ x ∈ xs, 0 ≤ x ∧ x < N

set_option maxHeartbeats 1000000 in
theorem areNodes_any (A : Option Addr) (xs : List Int) (c : Nat) (N : Nat) (w : World) (h : IntsAt w w.heap.size A xs) (hN : N ≤ 9223372036854775807) :
    Calls Try.prog 19 #[.slice A xs.length c, .int .i64 (N : Int)] w fun e w' => e = .returned (.bool (tf (Among N xs))) ∧ w = w' := by
  have hl := h.len
  go_enter Try.func19, Try.ntmps19
  go_wp2_with fail
  go_loop [9] (fun i => ∃ k : Nat, k ≤ xs.length ∧ i = .int .i64 k ∧ ∀ j x, j < k → xs[j]? = some x → 0 ≤ x ∧ x < N) (fun i => xs.length - (intOf i).toNat)
  case atStart => exact ⟨0, Nat.zero_le _, rfl, fun j x hj => absurd hj (by omega)⟩
  case round =>
    obtain ⟨k, hk, rfl, he0⟩ := hrel
    have he := hide he0
    clear he0
    by_cases hlt : k < xs.length
    · obtain ⟨b, off, x, rfl, hbl, hx, hmem, hc⟩ := h.at_ hlt
      have Hx := hide hx
      clear hx
      by_cases hin : 0 ≤ x ∧ x < N
      · have He : Hid (∀ j y, j < k + 1 → xs[j]? = some y → 0 ≤ y ∧ y < N) := by
          intro j y hj hy
          by_cases e : j = k
          · subst e
            obtain rfl := Option.some.inj (Hx.out.symm.trans hy)
            exact hin
          · exact he.out j y (by omega) hy
        obtain ⟨a1, a2⟩ := hin
        have a3 : x ≤ (N : Int) - 1 := by omega
        clear he hmem
        go_wp2_with fail
        refine (isUpTo_yes x ((N : Int) - 1) w a1 a3).mono ?_
        rintro e w' ⟨rfl, rfl⟩
        go_wp2
        go_round
        case rel => exact ⟨k + 1, by omega, by go_num, He.out⟩
        case measure => simp [intOf]; omega
      · have HF := hide (show tf (Among N xs) = false from tf_false fun hh => hin (hh x hmem))
        have hno : x < 0 ∨ (N : Int) - 1 < x := by omega
        clear he hmem hin
        go_wp2_with fail
        refine (isUpTo_no x ((N : Int) - 1) w hno).mono ?_
        rintro e w' ⟨rfl, rfl⟩
        clear hno
        go_wp2
        go_ret
        exact ⟨ret_bool HF.out.symm, rfl⟩
    · have HF := hide (show tf (Among N xs) = true from tf_true fun x hx => by
        obtain ⟨j, hj, rfl⟩ := List.getElem_of_mem hx
        exact he.out j _ (by omega) (List.getElem?_eq_getElem hj))
      go_wp2
      go_ret
      exact ⟨ret_bool HF.out.symm, rfl⟩

/-- keys and values by turns -/
structure PairsOk (ns : List Nd) (kids : List Int) : Prop where
  even : kids.length % 2 = 0
  key : ∀ p n, p % 2 = 0 → KidNd ns kids p n → IsKey n

set_option maxRecDepth 100000 in
set_option maxHeartbeats 2000000 in
theorem arePairs_even (A : Option Addr) (ns : List Nd) (c : Nat) (A' : Option Addr) (xs : List Int) (c' : Nat) (w : World) (hr : NdsAt w w.heap.size A ns) (hk : IntsAt w w.heap.size A' xs) (hin : InG ns xs) (hsm : xs.length ≤ 1048576) (hev : xs.length % 2 = 0) :
    Calls Try.prog 45 #[.slice A ns.length c, .slice A' xs.length c'] w fun e w' =>
      e = .returned (.bool (tf (PairsOk ns xs))) ∧ w = w' := by
  have hnl := hr.len
  have tev : ((xs.length : Int) % 2 != 0) = false := by rw [bne_eq_false_iff_eq]; omega
  have Hev := hide hev
  clear hev
  go_enter Try.func45, Try.ntmps45
  go_wp2_with fail
  go_loop [5] (fun i => ∃ k : Nat, k ≤ xs.length ∧ k % 2 = 0 ∧ i = .int .i64 k ∧ ∀ p n, p < k → p % 2 = 0 → KidNd ns xs p n → IsKey n) (fun i => xs.length + 2 - (intOf i).toNat)
  case atStart => exact ⟨0, Nat.zero_le _, rfl, rfl, fun p n hp => absurd hp (by omega)⟩
  case round =>
    obtain ⟨k, hkl, hk2, rfl, he0⟩ := hrel
    have he := hide he0
    have Hk2 := hide hk2
    clear he0 hk2
    by_cases hlt : k < xs.length
    · obtain ⟨b, off, b', off', x, nd, rfl, hbl, rfl, hbl', hxl, hcx, hM, hkn, _⟩ := kid_at hr hk hin hlt
      obtain ⟨hm_k, hm_v, ⟨A1, c1, hm_s, hI1, _⟩, hwk, hwv⟩ := hM
      have hk1 : (0 : Int) ≤ (k : Int) := by omega
      have hk3 : (k : Int) < (xs.length : Int) := by omega
      have hx1 : (0 : Int) ≤ (x : Int) := by omega
      have hx3 : (x : Int) < (ns.length : Int) := by omega
      have hle : k + 2 ≤ xs.length := by have := Hev.out; have := Hk2.out; omega
      have Hkn := hide hkn
      clear hkn hwk hwv hI1 hm_s
      by_cases hik : IsKey nd
      · have He : Hid (∀ p n, p < k + 2 → p % 2 = 0 → KidNd ns xs p n → IsKey n) := by
          intro p n hp hp2 hn
          by_cases e : p = k
          · subst e
            obtain rfl := Hkn.out.eq hn
            exact hik
          · exact he.out p n (by have := Hk2.out; omega) hp2 hn
        clear he Hkn
        by_cases h0 : nd.kind = 0
        · have t0 : (nd.kind != 0) = false := by rw [bne_eq_false_iff_eq]; exact h0
          clear hik h0
          go_wp2
          go_round
          case rel => exact ⟨k + 2, by omega, by have := Hk2.out; omega, by go_num, He.out⟩
          case measure => simp [intOf]; omega
        · have t0 : (nd.kind != 0) = true := by rw [bne_iff_ne]; exact h0
          have t1 : (nd.kind != 1) = false := by rw [bne_eq_false_iff_eq]; exact hik.resolve_left h0
          clear hik h0
          go_wp2
          go_round
          case rel => exact ⟨k + 2, by omega, by have := Hk2.out; omega, by go_num, He.out⟩
          case measure => simp [intOf]; omega
      · have HF := hide (show tf (PairsOk ns xs) = false from tf_false fun h => hik (h.key k nd Hk2.out Hkn.out))
        have t0 : (nd.kind != 0) = true := by rw [bne_iff_ne]; exact fun e => hik (.inl e)
        have t1 : (nd.kind != 1) = true := by rw [bne_iff_ne]; exact fun e => hik (.inr e)
        clear hik he Hkn
        go_wp2
        go_ret
        exact ⟨ret_bool HF.out.symm, rfl⟩
    · have HF := hide (show tf (PairsOk ns xs) = true from tf_true ⟨Hev.out, fun p n hp hn => he.out p n (by have := hn.lt; omega) hp hn⟩)
      go_wp2
      go_ret
      exact ⟨ret_bool HF.out.symm, rfl⟩

theorem arePairs_any (A : Option Addr) (ns : List Nd) (c : Nat) (A' : Option Addr) (xs : List Int) (c' : Nat) (w : World) (hr : NdsAt w w.heap.size A ns) (hk : IntsAt w w.heap.size A' xs) (hin : InG ns xs) (hsm : xs.length ≤ 1048576) :
    Calls Try.prog 45 #[.slice A ns.length c, .slice A' xs.length c'] w fun e w' =>
      e = .returned (.bool (tf (PairsOk ns xs))) ∧ w = w' := by
  by_cases hev : xs.length % 2 = 0
  · exact arePairs_even A ns c A' xs c' w hr hk hin hsm hev
  · have HF := hide (show tf (PairsOk ns xs) = false from tf_false fun h => hev h.even)
    have tev : ((xs.length : Int) % 2 != 0) = true := by rw [bne_iff_ne]; omega
    clear hev
    go_enter Try.func45, Try.ntmps45
    go_wp2
    go_ret
    exact ⟨ret_bool HF.out.symm, rfl⟩

set_option maxHeartbeats 400000 in
theorem keyOf_any (k v : Int) (x : Value) (w : World) :
    Calls Try.prog 65 #[.agg #[.int .i64 k, .int .i64 v, x]] w fun e w' => e = .returned (.agg #[.int .i64 k, .int .i64 v]) ∧ Below w.heap.size w w' := by
  go_enter Try.func65, Try.ntmps65
  go_wp2
  refine bodyPost_ret (v := .agg #[.int .i64 k, .int .i64 v]) (by simp [results, Try.results65, go_sem]) rfl ⟨rfl, ?_⟩
  exact ((Below.refl _ _).alloc (Nat.le_refl _) _).alloc (by simp) _

/-- what the loop over the keys has found when it has come to place k -/
structure KInv (ns : List Nd) (kids : List Int) (L : List (Int × Int)) (k : Nat) : Prop where
  even : k % 2 = 0
  le : k ≤ kids.length
  len : L.length * 2 = k
  have_ : ∀ p n, p < k → p % 2 = 0 → KidNd ns kids p n → IsKey n ∧ (n.kind, n.value) ∈ L
  from_ : ∀ x ∈ L, ∃ p n, p < k ∧ p % 2 = 0 ∧ KidNd ns kids p n ∧ (n.kind, n.value) = x
  diff : ∀ p q m n, p < k → p % 2 = 0 → q % 2 = 0 → q < p → KidNd ns kids p m → KidNd ns kids q n → ¬ SameKey m n

theorem KInv.start (ns : List Nd) (kids : List Int) : KInv ns kids [] 0 :=
  ⟨rfl, Nat.zero_le _, rfl, fun p n hp => absurd hp (by omega), fun x hx => (by cases hx), fun p q m n hp => absurd hp (by omega)⟩

theorem KInv.next {ns : List Nd} {kids : List Int} {L : List (Int × Int)} {k : Nat} {n : Nd} (h : KInv ns kids L k) (hev : kids.length % 2 = 0) (hlt : k < kids.length) (hn : KidNd ns kids k n) (hik : IsKey n) (hno : (n.kind, n.value) ∉ L) :
    KInv ns kids (L ++ [(n.kind, n.value)]) (k + 2) := by
  have hk2 := h.even
  have hlen := h.len
  refine ⟨by omega, by omega, by simp; omega, fun p m hp hp2 hm => ?_, fun x hx => ?_, fun p q m m' hp hp2 hq2 hqp hm hm' => ?_⟩
  · by_cases e : p = k
    · subst e
      obtain rfl := hn.eq hm
      exact ⟨hik, by simp⟩
    · have := h.have_ p m (by omega) hp2 hm
      exact ⟨this.1, List.mem_append_left _ this.2⟩
  · rcases List.mem_append.1 hx with hx | hx
    · obtain ⟨p, m, h1, h2, h3, h4⟩ := h.from_ x hx
      exact ⟨p, m, by omega, h2, h3, h4⟩
    · simp at hx
      exact ⟨k, n, by omega, hk2, hn, hx.symm⟩
  · by_cases e : p = k
    · subst e
      obtain rfl := hn.eq hm
      intro hs
      have := (h.have_ q m' hqp hq2 hm').2
      rw [← hs.1, ← hs.2] at this
      exact hno this
    · exact h.diff p q m m' (by omega) hp2 hq2 hqp hm hm'

theorem KInv.clash {ns : List Nd} {kids : List Int} {L : List (Int × Int)} {k : Nat} {n : Nd} (h : KInv ns kids L k) (hn : KidNd ns kids k n) (hin : (n.kind, n.value) ∈ L) : ¬ DictOk ns kids := by
  obtain ⟨q, m, h1, h2, h3, h4⟩ := h.from_ _ hin
  injection h4 with h5 h6
  exact fun hd => hd.diff k q n m h.even h2 h1 hn h3 ⟨h5.symm, h6.symm⟩

theorem KInv.done {ns : List Nd} {kids : List Int} {L : List (Int × Int)} (h : KInv ns kids L kids.length) : DictOk ns kids :=
  ⟨h.even, fun p n hp hn => (h.have_ p n hn.lt hp hn).1, fun p q m n hp hq hqp hm hn => h.diff p q m n hm.lt hp hq hqp hm hn⟩

set_option maxRecDepth 100000 in
set_option maxHeartbeats 4000000 in
theorem hasDifferentKeys_any (A : Option Addr) (ns : List Nd) (c : Nat) (A' : Option Addr) (n : Nd) (c' : Nat) (w : World) (hr : NdsAt w w.heap.size A ns) (hk : IntsAt w w.heap.size A' n.kids) (hin : InG ns n.kids) (hsm : n.kids.length ≤ 1048576) (hp : PairsOk ns n.kids) :
    Calls Try.prog 46 #[.slice A ns.length c, .agg #[.int .i64 n.kind, .int .i64 n.value, .slice A' n.kids.length c']] w fun e w' =>
      e = .returned (.bool (tf (DictOk ns n.kids))) ∧ Below w.heap.size w w' := by
  have hnl := hr.len
  have Hp := hide hp
  have hB : Below w.heap.size w ((w.alloc (.cells #[.int .i64 n.kind, .int .i64 n.value, .slice A' n.kids.length c'] 43)).alloc (.cells #[.map none, .slice none 0 0] 79)) :=
    ((Below.refl _ _).alloc (Nat.le_refl _) _).alloc (by simp) _
  have l1 := (Lies.new w #[.int .i64 n.kind, .int .i64 n.value, .slice A' n.kids.length c'] 43).alloc (.cells #[.map none, .slice none 0 0] 79)
  have l2 := Lies.new (w.alloc (.cells #[.int .i64 n.kind, .int .i64 n.value, .slice A' n.kids.length c'] 43)) #[.map none, .slice none 0 0] 79
  have hr2 := hr.below hB
  have hk2 := hk.below hB
  simp only [World.size_alloc] at l2
  clear hr hk hp
  go_enter Try.func46, Try.ntmps46
  go_wp2_with fail
  generalize hWd : (w.alloc (.cells #[.int .i64 n.kind, .int .i64 n.value, .slice A' n.kids.length c'] 43)).alloc (.cells #[.map none, .slice none 0 0] 79) = W at hB l1 l2 hr2 hk2 ⊢
  have hWs : W.heap.size = w.heap.size + 2 := by rw [← hWd]; simp
  have HWs := hide hWs
  have hs0 : SetK W (w.heap.size + 1) (w.heap.size + 2) none none 0 [] := ⟨l2, World.ownsRow_nil _ _ _ _, .inl ⟨rfl, rfl⟩, by omega, fun p hp => by cases hp⟩
  clear hWd hWs l2
  go_loopw [6] (fun i wr => ∃ (k : Nat) (L : List (Int × Int)) (m : Option Nat) (Am : Option Addr) (cm : Nat), i = .int .i64 k ∧ SetK wr (w.heap.size + 1) (w.heap.size + 2) m Am cm L ∧ Below (w.heap.size + 1) W wr ∧ KInv ns n.kids L k) (fun i _ => n.kids.length + 2 - (intOf i).toNat)
  case atStart => exact ⟨0, [], none, none, 0, rfl, hs0, Below.refl _ _, KInv.start _ _⟩
  case round =>
    clear hs0
    obtain ⟨k, L, m, Am, cm, rfl, hset, hb, hinv⟩ := hrel
    have Hinv := hide hinv
    have hle := hinv.le
    have hLk := hinv.len
    have HLk := hide hLk
    clear hinv hLk
    have e2 := (l1.below hb (by omega)).cell 2
    simp at e2
    have hsz : w.heap.size + 2 ≤ wr.heap.size := by have := hb.size; have := HWs.out; omega
    by_cases hlt : k < n.kids.length
    · obtain ⟨b, off, b', off', x, nd, rfl, hbl, rfl, hbl', hxl, hcx, hM, hkn, _⟩ := kid_at (hr2.below (hb.mono (by omega))) (hk2.below (hb.mono (by omega))) hin hlt
      obtain ⟨hm_k, hm_v, ⟨A1, c1, hm_s, hI1, _⟩, hwk, hwv⟩ := hM
      have hk1 : (0 : Int) ≤ (k : Int) := by omega
      have hk3 : (k : Int) < (n.kids.length : Int) := by omega
      have hx1 : (0 : Int) ≤ (x : Int) := by omega
      have hx3 : (x : Int) < (ns.length : Int) := by omega
      have hik : IsKey nd := Hp.out.key k nd Hinv.out.even hkn
      have Hkn := hide hkn
      have Hwk := hide hwk
      have Hwv := hide hwv
      have Hik := hide hik
      clear hkn hwk hwv hI1 hik
      by_cases hmem : (nd.kind, nd.value) ∈ L
      · have HF := hide (show tf (DictOk ns n.kids) = false from tf_false (Hinv.out.clash Hkn.out hmem))
        go_wp2_with fail
        refine (keyOf_any nd.kind nd.value _ wr).mono ?_
        rintro e w2 ⟨rfl, hb2⟩
        have hsetA := hset.below hb2
        have hbA := hb.trans (hb2.mono (by omega))
        clear hset hb hb2
        go_wp2_with fail
        refine (addK_seen (w.heap.size + 1) (w.heap.size + 2) m Am cm L nd.kind nd.value _ hsetA Hwk.out Hwv.out hmem).mono ?_
        rintro e w' ⟨rfl, hb3⟩
        have hb4 := hbA.trans (hb3.mono (by have := hbA.size; have := HWs.out; omega))
        clear hmem hb3 hsetA
        go_wp2
        go_ret
        exact ⟨ret_bool HF.out.symm, hB.trans (hb4.mono (by omega))⟩
      · have Hn := hide (Hinv.out.next Hp.out.even hlt Hkn.out Hik.out hmem)
        go_wp2_with fail
        refine (keyOf_any nd.kind nd.value _ wr).mono ?_
        rintro e w2 ⟨rfl, hb2⟩
        have hsetA := hset.below hb2
        have hbA := hb.trans (hb2.mono (by omega))
        have hsz2 : w.heap.size + 2 ≤ w2.heap.size := by have := hbA.size; have := HWs.out; omega
        clear hset hb hb2
        go_wp2_with fail
        refine (addK_new (w.heap.size + 1) (w.heap.size + 2) m cm Am L nd.kind nd.value _ hsetA Hwk.out Hwv.out (by omega) hmem (by have := HLk.out; omega)).mono ?_
        rintro e w' ⟨rfl, ⟨m2, A2, c2, hset2⟩, hbut⟩
        have hb4 := hbut.below hbA (Nat.le_refl _) (by omega)
        clear hmem hbut hsetA
        go_wp2
        go_roundw
        case rel => exact ⟨k + 2, L ++ [(nd.kind, nd.value)], m2, A2, c2, by go_num, hset2, hb4, Hn.out⟩
        case measure => simp [intOf]; omega
    · have HF := hide (show tf (DictOk ns n.kids) = true from tf_true (by
        have h := Hinv.out
        have : k = n.kids.length := by omega
        subst this
        exact h.done))
      go_wp2
      go_ret
      exact ⟨ret_bool HF.out.symm, hB.trans (hb.mono (by omega))⟩

end Go.Proofs.Ythgklkpfmjgeoaa
