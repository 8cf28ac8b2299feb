/-
  What the closure of codeFrom finds in memory: the nodes, what was written, and what was met. No function of the program is walked here.
-/
import Derived.Test.YthdldkbeccmcmabNumI
import Derived.Test.YthdldkbeccmcmabOwnS
import Derived.Test.YthdldkbeccmcmabCod
import Derived.Test.YthdldkbeccmcmabSpecB
namespace Go.Proofs.Ythdldkbeccmcmab
open Go.RowKit Go.Maps
set_option linter.unusedVariables false

theorem OwnI.same {w w' : World} {base : Nat} {A : Option Addr} {c : Nat} {xs : List Int} (h : OwnI w base A c xs) (hA : ∀ g, blockOf A = some g → w'.heap[g]? = w.heap[g]?) : OwnI w' base A c xs := by
  refine ⟨h.own.1, ?_⟩
  rcases h.own.2 with h2 | ⟨g, cap, cur, hv, hg, hh, r⟩
  · exact .inl h2
  · have hAg : blockOf A = some g := by
      injection hv with hv
      rw [hv]; rfl
    exact .inr ⟨g, cap, cur, hv, hg, (hA g hAg).trans hh, r⟩

theorem MapI.kept {w w' : World} {base : Nat} {m : Option Nat} {L : List Int} {row : Option Nat} (h : MapI w base m L) (hg : w.grownBy w' row) (hne : ∀ b, m = some b → some b ≠ row) : MapI w' base m L := by
  rcases h with h | ⟨b, n, D, h1, h2, h3, h4⟩
  · exact .inl h
  · exact .inr ⟨b, n, D, h1, h2, h3.kept hg (hne b h1), h4⟩

theorem MapI.setCell {w : World} {base : Nat} {m : Option Nat} {L : List Int} (h : MapI w base m L) {a : Addr} (ha : a.block < base) (u : Value) : MapI (w.setCell a u) base m L := by
  rcases h with h | ⟨b, n, D, h1, h2, h3, h4⟩
  · exact .inl h
  · exact .inr ⟨b, n, D, h1, h2, h3.setCell (by omega) u, h4⟩

/-- nothing below base has turned but two blocks -/
structure But2 (base g1 g2 : Nat) (w w' : World) : Prop where
  os : w'.os = w.os
  tape : w'.tape = w.tape
  output : w'.output = w.output
  size : w.heap.size ≤ w'.heap.size
  block : ∀ k, k < base → k ≠ g1 → k ≠ g2 → w'.heap[k]? = w.heap[k]?

theorem But2.refl (base g1 g2 : Nat) (w : World) : But2 base g1 g2 w w := ⟨rfl, rfl, rfl, Nat.le_refl _, fun _ _ _ _ => rfl⟩
theorem But2.trans {base g1 g2 : Nat} {a b c : World} (h : But2 base g1 g2 a b) (k : But2 base g1 g2 b c) : But2 base g1 g2 a c :=
  ⟨k.os.trans h.os, k.tape.trans h.tape, k.output.trans h.output, Nat.le_trans h.size k.size, fun j hj h1 h2 => (k.block j hj h1 h2).trans (h.block j hj h1 h2)⟩
theorem But2.of_below {base g1 g2 : Nat} {w w' : World} (h : Below w.heap.size w w') (hb : base ≤ w.heap.size) : But2 base g1 g2 w w' := ⟨h.os, h.tape, h.output, h.size, fun k hk _ _ => h.block k (by omega)⟩
theorem But2.of_but {base g1 g2 : Nat} {w w' : World} (h : But base g2 w w') : But2 base g1 g2 w w' := ⟨h.os, h.tape, h.output, h.size, fun k hk _ h2 => h.block k hk h2⟩
theorem But2.below {base g1 g2 B : Nat} {w0 w w' : World} (h : But2 base g1 g2 w w') (hb : Below B w0 w) (h1 : B ≤ g1) (h2 : B ≤ g2) (hB : B ≤ base) : Below B w0 w' :=
  hb.trans ⟨h.os, h.tape, h.output, h.size, fun k hk => h.block k (by omega) (by omega) (by omega)⟩

structure CEnv (w : World) (base bn bc bm bw : Nat) (A : Option Addr) (c : Nat) (ns : List Nd) (P Q : List Int) : Prop where
  nodes : Lies w bn #[.slice A ns.length c] 23
  self : Lies w bw #[.func (.func 20) #[] #[.pointer (some ⟨bn, 0, none⟩), .pointer (some ⟨bm, 0, none⟩), .pointer (some ⟨bc, 0, none⟩), .pointer (some ⟨bw, 0, none⟩)]] 48
  st : ∃ m Am cm Ac cc, SetI w bm base m Am cm Q ∧ Lies w bc #[.slice Ac P.length cc] 26 ∧ OwnI w base Ac cc P ∧ ∀ g, blockOf Ac = some g → blockOf Am ≠ some g
  read : NdsAt w bn A ns
  n1 : bn < bc
  n2 : bc < bm
  n3 : bm < bw
  n4 : bw < base
  hb : base ≤ w.heap.size

theorem CEnv.later {w w' : World} {base bn bc bm bw : Nat} {A : Option Addr} {c : Nat} {ns : List Nd} {P Q : List Int} (h : CEnv w base bn bc bm bw A c ns P Q) (hb : Below w.heap.size w w') : CEnv w' base bn bc bm bw A c ns P Q := by
  obtain ⟨m, Am, cm, Ac, cc, h1, h2, h3, h4⟩ := h.st
  have := h.n1
  have := h.n2
  have := h.n3
  have := h.n4
  have := h.hb
  exact ⟨h.nodes.below hb (by omega), h.self.below hb (by omega), ⟨m, Am, cm, Ac, cc, h1.below hb, h2.below hb (by omega), h3.below hb, h4⟩, h.read.below (hb.mono (by omega)), by omega, by omega, by omega, by omega, Nat.le_trans h.hb hb.size⟩

theorem CEnv.frame {w w' : World} {base bn bc bm bw : Nat} {A : Option Addr} {c : Nat} {ns : List Nd} {P Q P' Q' : List Int} (h : CEnv w base bn bc bm bw A c ns P Q) (hb : But2 base bc bm w w')
    (hst : ∃ m Am cm Ac cc, SetI w' bm base m Am cm Q' ∧ Lies w' bc #[.slice Ac P'.length cc] 26 ∧ OwnI w' base Ac cc P' ∧ ∀ g, blockOf Ac = some g → blockOf Am ≠ some g) : CEnv w' base bn bc bm bw A c ns P' Q' := by
  have := h.n1
  have := h.n2
  have := h.n3
  have := h.n4
  have := h.hb
  exact ⟨(hb.block _ (by omega) (by omega) (by omega)).trans h.nodes, (hb.block _ (by omega) (by omega) (by omega)).trans h.self, hst,
    h.read.below ⟨hb.os, hb.tape, hb.output, hb.size, fun k hk => hb.block k (by omega) (by omega) (by omega)⟩, by omega, by omega, by omega, by omega, Nat.le_trans h.hb hb.size⟩

theorem CEnv.below {w w' : World} {base bn bc bm bw : Nat} {A : Option Addr} {c : Nat} {ns : List Nd} {P Q : List Int} (h : CEnv w base bn bc bm bw A c ns P Q) (hb : But2 base bc bm w w') : Below bn w w' := by
  have := h.n1
  have := h.n2
  have := h.n3
  have := h.n4
  exact ⟨hb.os, hb.tape, hb.output, hb.size, fun k hk => hb.block k (by omega) (by omega) (by omega)⟩

/-- a row and the map of a set never share a block -/
theorem own_map_ne {w : World} {base : Nat} {A : Option Addr} {c : Nat} {xs : List Int} {m : Option Nat} {L : List Int} (hrow : OwnI w base A c xs) (hmap : MapI w base m L) : ∀ b, m = some b → blockOf A ≠ some b := by
  intro b hb
  rcases hmap with ⟨h, _⟩ | ⟨b', n, D, h1, _, h3, _⟩
  · rw [h] at hb; cases hb
  · rw [h1] at hb
    injection hb with hb
    subst hb
    exact row_map_ne hrow h3

theorem MapI.lt {w : World} {base : Nat} {m : Option Nat} {L : List Int} (h : MapI w base m L) : ∀ b, m = some b → b < w.heap.size := by
  intro b hb
  rcases h with ⟨h, _⟩ | ⟨b', n, D, h1, _, h3, _⟩
  · rw [h] at hb; cases hb
  · rw [h1] at hb
    injection hb with hb
    subst hb
    exact h3.lt

/-- the state behind an add of a new member -/
theorem st_added {w w' : World} {base bc bm : Nat} {m m' : Option Nat} {Am Am' Ac : Option Addr} {cm cc : Nat} {P Q : List Int} (hset : SetI w bm base m Am cm Q) (hcode : Lies w bc #[.slice Ac P.length cc] 26) (hown : OwnI w base Ac cc P)
    (hdis : ∀ g, blockOf Ac = some g → blockOf Am ≠ some g) (ht : Tight bm m Am m' Am' w w') (hb : But base bm w w') (h1 : bc < bm) :
    Lies w' bc #[.slice Ac P.length cc] 26 ∧ OwnI w' base Ac cc P ∧ ∀ g, blockOf Ac = some g → blockOf Am' ≠ some g := by
  have hlt := hset.lt
  refine ⟨(hb.block bc (by omega) (by omega)).trans hcode, hown.same (fun g hg => ?_), fun g hg e => ?_⟩
  · have hgb := hown.blocks g hg
    exact ht.block g hgb.2 (by omega) (fun e => own_map_ne hown hset.map g e hg) (hdis g hg)
  · rcases ht.row with h | ⟨b, h, hbb⟩
    · rw [h] at e; exact hdis g hg e
    · rw [h] at e
      injection e with e
      have := (hown.blocks g hg).2
      omega

theorem far_cell {w w1 : World} {bc nb o : Nat} {Ac : Option Addr} {u v : Value} (hg : w.grownBy w1 (blockOf Ac)) (hlt : nb < w.heap.size) (hne : some nb ≠ blockOf Ac) (hbc : nb ≠ bc) (h : w.cell? ⟨nb, o, none⟩ = some u) :
    (w1.setCell ⟨bc, 0, none⟩ v).cell? ⟨nb, o, none⟩ = some u := by
  rw [World.cell?_setCell_other]
  · exact (hg.cell_far _ hlt hne).trans h
  · intro e
    injection e with e _
    exact hbc e.symm

/-- the state behind an append to what was written, and its store -/
theorem st_written {w w1 : World} {base bc bm : Nat} {m : Option Nat} {Am Ac Ac' : Option Addr} {cm cc cc' : Nat} {P Q zs : List Int} (hset : SetI w bm base m Am cm Q) (hcode : Lies w bc #[.slice Ac P.length cc] 26) (hown : OwnI w base Ac cc P)
    (hdis : ∀ g, blockOf Ac = some g → blockOf Am ≠ some g) (h1 : bc < bm) (hbs : base ≤ w.heap.size) (hg : w.grownBy w1 (blockOf Ac)) (hown' : OwnI w1 base Ac' cc' zs) (hat : blockOf Ac' = blockOf Ac ∨ ∃ b, blockOf Ac' = some b ∧ w.heap.size ≤ b) :
    (∃ m Am cm Ac cc, SetI (w1.setCell ⟨bc, 0, none⟩ (.slice Ac' zs.length cc')) bm base m Am cm Q ∧ Lies (w1.setCell ⟨bc, 0, none⟩ (.slice Ac' zs.length cc')) bc #[.slice Ac zs.length cc] 26 ∧
      OwnI (w1.setCell ⟨bc, 0, none⟩ (.slice Ac' zs.length cc')) base Ac cc zs ∧ ∀ g, blockOf Ac = some g → blockOf Am ≠ some g) ∧ But2 base bc bm w (w1.setCell ⟨bc, 0, none⟩ (.slice Ac' zs.length cc')) := by
  have hlt := hset.lt
  have hbm := hset.box.lt
  have hbc := hcode.lt
  have hAc : ∀ g, blockOf Ac = some g → base ≤ g := fun g hg => (hown.blocks g hg).1
  have hne : ∀ k, k < base → some k ≠ blockOf Ac := fun k hk e => by have := hAc k e.symm; omega
  have hcode1 : Lies w1 bc #[.slice Ac P.length cc] 26 := (hg.block bc hbc (hne bc (by omega))).trans hcode
  have hcode2 := hcode1.set 0 (.slice Ac' zs.length cc')
  simp only [List.setIfInBounds_toArray, List.set_cons_zero] at hcode2
  have hbox1 : Lies w1 bm _ _ := (hg.block bm hbm (hne bm hlt)).trans hset.box
  have hrow1 : OwnI w1 base Am cm Q := hset.row.kept hg (by
    cases hA : blockOf Am with
    | none => exact .inl rfl
    | some g => exact .inr (fun e => hdis g e.symm hA))
  have hmap1 : MapI w1 base m Q := hset.map.kept hg (fun b hb e => own_map_ne hown hset.map b hb e.symm)
  refine ⟨⟨m, Am, cm, Ac', cc', ⟨hbox1.far (by show bm ≠ bc; omega) _, ⟨ownsRow_setCell_below hrow1.own (a := ⟨bc, 0, none⟩) (by show bc < base; omega) _⟩, hmap1.setCell (by show bc < base; omega) _, hlt, hset.wf⟩, hcode2, ⟨ownsRow_setCell_below hown'.own (a := ⟨bc, 0, none⟩) (by show bc < base; omega) _⟩, fun g hg' e => ?_⟩, ?_⟩
  · rcases hat with h | ⟨b, h, hbb⟩
    · rw [h] at hg'; exact hdis g hg' e
    · rw [h] at hg'
      injection hg' with hg'
      have := (hset.row.blocks g e).2
      omega
  · refine ⟨hg.os, hg.tape, hg.output, by have := hg.size; simpa using this, fun k hk h1 h2 => ?_⟩
    rw [Below.heap_setCell _ _ _ _ (by show k ≠ bc; exact h1), hg.block k (by omega) (hne k hk)]

end Go.Proofs.Ythdldkbeccmcmab
