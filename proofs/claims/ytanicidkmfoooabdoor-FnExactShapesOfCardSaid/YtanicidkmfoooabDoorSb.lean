/-
  Shapes in five cells of a block, which may hold more: what it means, and how stores and appends change them. Plain lemmas, no walk.
-/
import Derived.Test.YtanicidkmfoooabDoorShpR
namespace Go.Proofs.YtanicidkmfoooabDoor
open Go.RowKit
set_option linter.unusedVariables false

/-- five cells of a block that may be written -/
structure Cells5 (w : World) (q off : Nat) (v0 v1 v2 v3 v4 : Value) : Prop where
  c0 : w.cell? ⟨q, off, none⟩ = some v0
  c1 : w.cell? ⟨q, off + 1, none⟩ = some v1
  c2 : w.cell? ⟨q, off + 2, none⟩ = some v2
  c3 : w.cell? ⟨q, off + 3, none⟩ = some v3
  c4 : w.cell? ⟨q, off + 4, none⟩ = some v4
  f0 : w.frozen? ⟨q, off, none⟩ = false
  f1 : w.frozen? ⟨q, off + 1, none⟩ = false
  f2 : w.frozen? ⟨q, off + 2, none⟩ = false
  f3 : w.frozen? ⟨q, off + 3, none⟩ = false
  f4 : w.frozen? ⟨q, off + 4, none⟩ = false

theorem Cells5.ofB {w w' : World} {q off : Nat} {v0 v1 v2 v3 v4 : Value} (h : Cells5 w q off v0 v1 v2 v3 v4) (hb : w'.heap[q]? = w.heap[q]?) : Cells5 w' q off v0 v1 v2 v3 v4 := by
  have hc : ∀ o, w'.cell? ⟨q, o, none⟩ = w.cell? ⟨q, o, none⟩ := fun o => World.cell?_of_block (w := w) hb
  have hf : ∀ o, w'.frozen? ⟨q, o, none⟩ = w.frozen? ⟨q, o, none⟩ := fun o => World.frozen?_of_block (w := w) hb
  exact ⟨(hc _).trans h.c0, (hc _).trans h.c1, (hc _).trans h.c2, (hc _).trans h.c3, (hc _).trans h.c4, (hf _).trans h.f0, (hf _).trans h.f1, (hf _).trans h.f2, (hf _).trans h.f3, (hf _).trans h.f4⟩

theorem addr_ne {q i j : Nat} (h : i ≠ j) : (⟨q, i, none⟩ : Addr) ≠ ⟨q, j, none⟩ := fun e => h (by injection e)

theorem setSame {w : World} {a : Addr} {u v : Value} (h : w.cell? a = some u) : (w.setCell a v).cell? a = some v := World.cell?_setCell_same' w a v (by rw [h]; rfl)
theorem setOther {w : World} {a b : Addr} {v : Value} (h : a ≠ b) : (w.setCell a v).cell? b = w.cell? b := by rw [World.cell?_setCell_other]; exact h
theorem setFroz {w : World} {a b : Addr} {v : Value} : (w.setCell a v).frozen? b = w.frozen? b := by simp
section set
variable {w : World} {q off : Nat} {v0 v1 v2 v3 v4 : Value}
theorem Cells5.set0 (h : Cells5 w q off v0 v1 v2 v3 v4) (u : Value) : Cells5 (w.setCell ⟨q, off, none⟩ u) q off u v1 v2 v3 v4 :=
  ⟨setSame h.c0, (setOther (addr_ne (by omega))).trans h.c1, (setOther (addr_ne (by omega))).trans h.c2, (setOther (addr_ne (by omega))).trans h.c3, (setOther (addr_ne (by omega))).trans h.c4,
    setFroz.trans h.f0, setFroz.trans h.f1, setFroz.trans h.f2, setFroz.trans h.f3, setFroz.trans h.f4⟩
theorem Cells5.set1 (h : Cells5 w q off v0 v1 v2 v3 v4) (u : Value) : Cells5 (w.setCell ⟨q, off + 1, none⟩ u) q off v0 u v2 v3 v4 :=
  ⟨(setOther (addr_ne (by omega))).trans h.c0, setSame h.c1, (setOther (addr_ne (by omega))).trans h.c2, (setOther (addr_ne (by omega))).trans h.c3, (setOther (addr_ne (by omega))).trans h.c4,
    setFroz.trans h.f0, setFroz.trans h.f1, setFroz.trans h.f2, setFroz.trans h.f3, setFroz.trans h.f4⟩
theorem Cells5.set2 (h : Cells5 w q off v0 v1 v2 v3 v4) (u : Value) : Cells5 (w.setCell ⟨q, off + 2, none⟩ u) q off v0 v1 u v3 v4 :=
  ⟨(setOther (addr_ne (by omega))).trans h.c0, (setOther (addr_ne (by omega))).trans h.c1, setSame h.c2, (setOther (addr_ne (by omega))).trans h.c3, (setOther (addr_ne (by omega))).trans h.c4,
    setFroz.trans h.f0, setFroz.trans h.f1, setFroz.trans h.f2, setFroz.trans h.f3, setFroz.trans h.f4⟩
theorem Cells5.set4 (h : Cells5 w q off v0 v1 v2 v3 v4) (u : Value) : Cells5 (w.setCell ⟨q, off + 4, none⟩ u) q off v0 v1 v2 v3 u :=
  ⟨(setOther (addr_ne (by omega))).trans h.c0, (setOther (addr_ne (by omega))).trans h.c1, (setOther (addr_ne (by omega))).trans h.c2, (setOther (addr_ne (by omega))).trans h.c3, setSame h.c4,
    setFroz.trans h.f0, setFroz.trans h.f1, setFroz.trans h.f2, setFroz.trans h.f3, setFroz.trans h.f4⟩
end set

/-- shapes in five cells of a block, and what they point to -/
structure SbAt (w : World) (base q off : Nat) (p : ShPtr) (s : Shp) : Prop where
  c : Cells5 w q off (.slice p.K s.kinds.length p.c1) (.slice p.F s.full.length p.c2) (.slice p.S s.stack.length p.c3) (.slice p.M s.memo.length p.c4) (.bool s.done)
  own : ShOwn w base p s
  off_ : p.Off q
  lt : q < w.heap.size

theorem ShBox.sb {w : World} {base q : Nat} {p : ShPtr} {s : Shp} (h : ShBox w base q p s) : SbAt w base q 0 p s := by
  obtain ⟨e0, e1, e2, e3, e4⟩ := h.cells
  exact ⟨⟨e0, e1, e2, e3, e4, h.box.frozen 0, h.box.frozen _, h.box.frozen _, h.box.frozen _, h.box.frozen _⟩, h.own, h.off, h.box.lt⟩

theorem SbAt.below {w w' : World} {base q off : Nat} {p : ShPtr} {s : Shp} (h : SbAt w base q off p s) (hb : Below w.heap.size w w') : SbAt w' base q off p s :=
  ⟨h.c.ofB (hb.block q h.lt), h.own.below hb, h.off_, Nat.lt_of_lt_of_le h.lt hb.size⟩
theorem SbAt.alloc {w : World} {base q off : Nat} {p : ShPtr} {s : Shp} (h : SbAt w base q off p s) (o : Obj) : SbAt (w.alloc o) base q off p s := h.below ((Below.refl _ _).alloc (Nat.le_refl _) o)
theorem SbAt.drew {w : World} {base q off : Nat} {p : ShPtr} {s : Shp} (h : SbAt w base q off p s) : SbAt w.drew base q off p s := h.below (Below.refl _ _).drew

/-- a call that turns the shapes in five cells of a block, and nothing else that was there -/
structure SbFr (w w' : World) (q off : Nat) (p p' : ShPtr) : Prop where
  os : w'.os = w.os
  tape : w'.tape = w.tape
  output : w'.output = w.output
  size : w.heap.size ≤ w'.heap.size
  blk : ∀ k, k < w.heap.size → k ≠ q → p.Off k → w'.heap[k]? = w.heap[k]?
  cell : ∀ j, j < off ∨ off + 5 ≤ j → w'.cell? ⟨q, j, none⟩ = w.cell? ⟨q, j, none⟩ ∧ w'.frozen? ⟨q, j, none⟩ = w.frozen? ⟨q, j, none⟩
  offs : ∀ k, k < w.heap.size → p.Off k → p'.Off k

theorem SbFr.refl (w : World) (q off : Nat) (p : ShPtr) : SbFr w w q off p p := ⟨rfl, rfl, rfl, Nat.le_refl _, fun _ _ _ _ => rfl, fun _ _ => ⟨rfl, rfl⟩, fun _ _ h => h⟩
theorem SbFr.trans {a b c : World} {q off : Nat} {p p' p'' : ShPtr} (h : SbFr a b q off p p') (k : SbFr b c q off p' p'') : SbFr a c q off p p'' :=
  ⟨k.os.trans h.os, k.tape.trans h.tape, k.output.trans h.output, Nat.le_trans h.size k.size, fun i hi hq ho => (k.blk i (Nat.lt_of_lt_of_le hi h.size) hq (h.offs i hi ho)).trans (h.blk i hi hq ho), fun j hj => ⟨(k.cell j hj).1.trans (h.cell j hj).1, (k.cell j hj).2.trans (h.cell j hj).2⟩, fun i hi ho => k.offs i (Nat.lt_of_lt_of_le hi h.size) (h.offs i hi ho)⟩
theorem SbFr.of_below {w w' : World} {q off : Nat} {p : ShPtr} (h : Below w.heap.size w w') (hq : q < w.heap.size) : SbFr w w' q off p p :=
  ⟨h.os, h.tape, h.output, h.size, fun k hk _ _ => h.block k hk, fun j _ => ⟨h.cell (p := ⟨q, j, none⟩) hq, h.frozen (p := ⟨q, j, none⟩) hq⟩, fun _ _ ho => ho⟩
theorem SbFr.below {w w' : World} {B base q off : Nat} {p p' : ShPtr} {s : Shp} (h : SbFr w w' q off p p') (hs : SbAt w base q off p s) (hB : B ≤ base) (hq : B ≤ q) : Below B w w' :=
  ⟨h.os, h.tape, h.output, h.size, fun k hk => h.blk k (by have := hs.lt; omega) (by omega) (hs.own.off (.inl (by omega)))⟩

section grown
variable {w w1 : World} {base q off : Nat} {p : ShPtr} {s : Shp} {A' : Option Addr} {c' : Nat} {lit : Obj} {row : Option Nat}

theorem SbAt.grownB (h : SbAt w base q off p s) (hg : (w.alloc lit).grownBy w1 row) (hne : row ≠ some q) : w1.heap[q]? = w.heap[q]? := by
  rw [hg.block q (by simp; have := h.lt; omega) (fun e => hne e.symm), Below.heap_alloc _ _ _ h.lt]

theorem ShOwn.pushK {zs : List Int} (h : ShOwn w base p s) (ho : OwnI w1 base A' c' zs) (hg : (w.alloc lit).grownBy w1 (blockOf p.K)) (hat : blockOf A' = blockOf p.K ∨ blockOf A' = some (w.alloc lit).heap.size) :
    ShOwn w1 base { p with K := A', c1 := c' } { s with kinds := zs } :=
  ⟨ho, h.f.stays hg h.kf, h.t.stays hg h.kt, h.m.stays hg h.km, apart_grown hat h.kf (fun b hb => (h.f.blocks b hb).2), apart_grown hat h.kt (fun b hb => (h.t.blocks b hb).2), apart_grown hat h.km (fun b hb => (h.m.blocks b hb).2), h.ft, h.fm, h.tm⟩
theorem ShOwn.pushF {zs : List Bool} (h : ShOwn w base p s) (ho : OwnB w1 base A' c' zs) (hg : (w.alloc lit).grownBy w1 (blockOf p.F)) (hat : blockOf A' = blockOf p.F ∨ blockOf A' = some (w.alloc lit).heap.size) :
    ShOwn w1 base { p with F := A', c2 := c' } { s with full := zs } :=
  ⟨h.k.stays hg (symm_apart h.kf), ho, h.t.stays hg h.ft, h.m.stays hg h.fm, symm_apart (apart_grown hat (symm_apart h.kf) (fun b hb => (h.k.blocks b hb).2)), h.kt, h.km, apart_grown hat h.ft (fun b hb => (h.t.blocks b hb).2), apart_grown hat h.fm (fun b hb => (h.m.blocks b hb).2), h.tm⟩
theorem ShOwn.pushT {zs : List Int} (h : ShOwn w base p s) (ho : OwnI w1 base A' c' zs) (hg : (w.alloc lit).grownBy w1 (blockOf p.S)) (hat : blockOf A' = blockOf p.S ∨ blockOf A' = some (w.alloc lit).heap.size) :
    ShOwn w1 base { p with S := A', c3 := c' } { s with stack := zs } :=
  ⟨h.k.stays hg (symm_apart h.kt), h.f.stays hg (symm_apart h.ft), ho, h.m.stays hg h.tm, h.kf, symm_apart (apart_grown hat (symm_apart h.kt) (fun b hb => (h.k.blocks b hb).2)), h.km, symm_apart (apart_grown hat (symm_apart h.ft) (fun b hb => (h.f.blocks b hb).2)), h.fm, apart_grown hat h.tm (fun b hb => (h.m.blocks b hb).2)⟩

/-- the frame of an append to a part, and a store of it into the cells -/
theorem SbFr.grown {i : Nat} {v : Value} {p' : ShPtr} (hq : q < w.heap.size) (hg : (w.alloc lit).grownBy w1 row) (hr : row ≠ some q) (hi : off ≤ i ∧ i < off + 5) (hrow : ∀ k, p.Off k → row ≠ some k) (hoffs : ∀ k, k < w.heap.size → p.Off k → p'.Off k) : SbFr w (w1.setCell ⟨q, i, none⟩ v) q off p p' := by
  have hs := hg.size
  simp at hs
  have hbq : w1.heap[q]? = w.heap[q]? := by rw [hg.block q (by simp; omega) (fun e => hr e.symm), Below.heap_alloc _ _ _ hq]
  refine ⟨?_, ?_, ?_, by simp; omega, fun k hk hkq ho => ?_, fun j hj => ⟨?_, ?_⟩, hoffs⟩
  · exact hg.os
  · exact hg.tape
  · exact hg.output
  · rw [Below.heap_setCell _ _ _ _ (by show k ≠ q; exact hkq), hg.block k (by simp; omega) (fun e => hrow k ho e.symm), Below.heap_alloc _ _ _ hk]
  · exact (setOther (addr_ne (by omega))).trans <| World.cell?_of_block (w := w) hbq
  · exact setFroz.trans <| World.frozen?_of_block (w := w) hbq

theorem SbAt.pushK {zs : List Int} (h : SbAt w base q off p s) (ho : OwnI w1 base A' c' zs) (hg : (w.alloc lit).grownBy w1 (blockOf p.K)) (hat : blockOf A' = blockOf p.K ∨ blockOf A' = some (w.alloc lit).heap.size) :
    SbAt (w1.setCell ⟨q, off, none⟩ (.slice A' zs.length c')) base q off { p with K := A', c1 := c' } { s with kinds := zs } ∧ SbFr w (w1.setCell ⟨q, off, none⟩ (.slice A' zs.length c')) q off p { p with K := A', c1 := c' } := by
  have hoff : ShPtr.Off { p with K := A', c1 := c' } q := ⟨off_grown hat h.off_.k h.lt, h.off_.f, h.off_.t, h.off_.m⟩
  have hs := hg.size
  simp at hs
  exact ⟨⟨(h.c.ofB (h.grownB hg h.off_.k)).set0 _, (h.own.pushK ho hg hat).far hoff _, hoff, by have := h.lt; simp; omega⟩, SbFr.grown h.lt hg h.off_.k (by omega) (fun k hk => hk.k) (fun k hk ho => ⟨off_grown hat ho.k hk, ho.f, ho.t, ho.m⟩)⟩
theorem SbAt.pushF {zs : List Bool} (h : SbAt w base q off p s) (ho : OwnB w1 base A' c' zs) (hg : (w.alloc lit).grownBy w1 (blockOf p.F)) (hat : blockOf A' = blockOf p.F ∨ blockOf A' = some (w.alloc lit).heap.size) :
    SbAt (w1.setCell ⟨q, off + 1, none⟩ (.slice A' zs.length c')) base q off { p with F := A', c2 := c' } { s with full := zs } ∧ SbFr w (w1.setCell ⟨q, off + 1, none⟩ (.slice A' zs.length c')) q off p { p with F := A', c2 := c' } := by
  have hoff : ShPtr.Off { p with F := A', c2 := c' } q := ⟨h.off_.k, off_grown hat h.off_.f h.lt, h.off_.t, h.off_.m⟩
  have hs := hg.size
  simp at hs
  exact ⟨⟨(h.c.ofB (h.grownB hg h.off_.f)).set1 _, (h.own.pushF ho hg hat).far hoff _, hoff, by have := h.lt; simp; omega⟩, SbFr.grown h.lt hg h.off_.f (by omega) (fun k hk => hk.f) (fun k hk ho => ⟨ho.k, off_grown hat ho.f hk, ho.t, ho.m⟩)⟩
theorem SbAt.pushT {zs : List Int} (h : SbAt w base q off p s) (ho : OwnI w1 base A' c' zs) (hg : (w.alloc lit).grownBy w1 (blockOf p.S)) (hat : blockOf A' = blockOf p.S ∨ blockOf A' = some (w.alloc lit).heap.size) :
    SbAt (w1.setCell ⟨q, off + 2, none⟩ (.slice A' zs.length c')) base q off { p with S := A', c3 := c' } { s with stack := zs } ∧ SbFr w (w1.setCell ⟨q, off + 2, none⟩ (.slice A' zs.length c')) q off p { p with S := A', c3 := c' } := by
  have hoff : ShPtr.Off { p with S := A', c3 := c' } q := ⟨h.off_.k, h.off_.f, off_grown hat h.off_.t h.lt, h.off_.m⟩
  have hs := hg.size
  simp at hs
  exact ⟨⟨(h.c.ofB (h.grownB hg h.off_.t)).set2 _, (h.own.pushT ho hg hat).far hoff _, hoff, by have := h.lt; simp; omega⟩, SbFr.grown h.lt hg h.off_.t (by omega) (fun k hk => hk.t) (fun k hk ho => ⟨ho.k, ho.f, off_grown hat ho.t hk, ho.m⟩)⟩
end grown

theorem SbFr.set {w : World} {q off i : Nat} {v : Value} {p : ShPtr} (hi : off ≤ i ∧ i < off + 5) : SbFr w (w.setCell ⟨q, i, none⟩ v) q off p p :=
  ⟨rfl, rfl, rfl, by simp, fun k hk hkq ho => Below.heap_setCell _ _ _ _ hkq, fun j hj => ⟨setOther (addr_ne (by omega)), setFroz⟩, fun k hk ho => ho⟩

theorem SbAt.cut {w : World} {base q off n : Nat} {p : ShPtr} {s : Shp} (h : SbAt w base q off p s) (hn : n ≤ s.stack.length) : SbAt (w.setCell ⟨q, off + 2, none⟩ (.slice p.S n p.c3)) base q off p (s.cutTo n) ∧ SbFr w (w.setCell ⟨q, off + 2, none⟩ (.slice p.S n p.c3)) q off p p := by
  have hl : (s.stack.take n).length = n := by simp; omega
  refine ⟨⟨?_, (ShBox.cutO (q := q) h.own hn).far h.off_ _, h.off_, by simp; exact h.lt⟩, SbFr.set (by omega)⟩
  have := h.c.set2 (.slice p.S n p.c3)
  unfold Shp.cutTo
  rw [hl]
  exact this

theorem SbAt.stop {w : World} {base q off : Nat} {p : ShPtr} {s : Shp} (h : SbAt w base q off p s) : SbAt (w.setCell ⟨q, off + 4, none⟩ (.bool true)) base q off p { s with done := true } ∧ SbFr w (w.setCell ⟨q, off + 4, none⟩ (.bool true)) q off p p :=
  ⟨⟨h.c.set4 _, ShOwn.far (s := { s with done := true }) ⟨h.own.k, h.own.f, h.own.t, h.own.m, h.own.kf, h.own.kt, h.own.km, h.own.ft, h.own.fm, h.own.tm⟩ h.off_ _, h.off_, by simp; exact h.lt⟩, SbFr.set (by omega)⟩

theorem SbFr.setFar {w : World} {q off g a : Nat} {v : Value} {p : ShPtr} (hq : g ≠ q) (hg : ¬ p.Off g) : SbFr w (w.setCell ⟨g, a, none⟩ v) q off p p := by
  have hb : (w.setCell ⟨g, a, none⟩ v).heap[q]? = w.heap[q]? := Below.heap_setCell _ _ _ _ (by show q ≠ g; exact hq.symm)
  exact ⟨rfl, rfl, rfl, by simp, fun k hk hkq ho => Below.heap_setCell _ _ _ _ (by show k ≠ g; intro e; subst e; exact hg ho), fun j hj => ⟨World.cell?_of_block (w := w) hb, World.frozen?_of_block (w := w) hb⟩, fun k hk ho => ho⟩

theorem SbAt.putM {w : World} {base q off g a : Nat} {p : ShPtr} {s : Shp} (h : SbAt w base q off p s) (hM : p.M = some ⟨g, 0, none⟩) (x : Int) : SbAt (w.setCell ⟨g, a, none⟩ (.int .i64 x)) base q off p { s with memo := s.memo.set a x } ∧ SbFr w (w.setCell ⟨g, a, none⟩ (.int .i64 x)) q off p p := by
  have hbg : blockOf p.M = some g := by rw [hM]; rfl
  have hgq : g ≠ q := fun e => h.off_.m (e ▸ hbg)
  have hf : ∀ k, k ≠ g → (w.setCell ⟨g, a, none⟩ (.int .i64 x)).heap[k]? = w.heap[k]? := fun k hk => Below.heap_setCell _ _ _ _ hk
  have hm := h.own.m
  rw [hM] at hm
  have hm2 := hm.setAt a x
  rw [← hM] at hm2
  refine ⟨⟨?_, ⟨h.own.k.ofB fun b hb => hf b (fun e => h.own.km b hb (e ▸ hbg)), h.own.f.ofB fun b hb => hf b (fun e => h.own.fm b hb (e ▸ hbg)), h.own.t.ofB fun b hb => hf b (fun e => h.own.tm b hb (e ▸ hbg)), hm2, h.own.kf, h.own.kt, h.own.km, h.own.ft, h.own.fm, h.own.tm⟩, h.off_, by simp; exact h.lt⟩, SbFr.setFar hgq (fun ho => ho.m hbg)⟩
  have := h.c.ofB (hf q hgq.symm)
  simpa using this

theorem SbAt.fill {w : World} {base q off g a : Nat} {p : ShPtr} {s : Shp} (h : SbAt w base q off p s) (hF : p.F = some ⟨g, 0, none⟩) : SbAt (w.setCell ⟨g, a, none⟩ (.bool true)) base q off p { s with full := s.full.set a true } ∧ SbFr w (w.setCell ⟨g, a, none⟩ (.bool true)) q off p p := by
  have hbg : blockOf p.F = some g := by rw [hF]; rfl
  have hgq : g ≠ q := fun e => h.off_.f (e ▸ hbg)
  have hf : ∀ k, k ≠ g → (w.setCell ⟨g, a, none⟩ (.bool true)).heap[k]? = w.heap[k]? := fun k hk => Below.heap_setCell _ _ _ _ hk
  have hm := h.own.f
  rw [hF] at hm
  have hm2 := hm.setAt a true
  rw [← hF] at hm2
  refine ⟨⟨?_, ⟨h.own.k.ofB fun b hb => hf b (fun e => h.own.kf b hb (e ▸ hbg)), hm2, h.own.t.ofB fun b hb => hf b (fun e => h.own.ft b (e ▸ hbg) hb), h.own.m.ofB fun b hb => hf b (fun e => h.own.fm b (e ▸ hbg) hb), h.own.kf, h.own.kt, h.own.km, h.own.ft, h.own.fm, h.own.tm⟩, h.off_, by simp; exact h.lt⟩, SbFr.setFar hgq (fun ho => ho.f hbg)⟩
  have := h.c.ofB (hf q hgq.symm)
  simpa using this

/-- a call that turns the shapes in the cells -/
def TurnsSb (w : World) (base q off : Nat) (p : ShPtr) (t : Shp) (e : Ending) (w' : World) : Prop := e = .returned (.tuple #[]) ∧ ∃ p', SbAt w' base q off p' t ∧ SbFr w w' q off p p'
/-- a call that tries to, and says whether it could -/
def StepsSb (w : World) (base q off : Nat) (p : ShPtr) (b : Bool) (t : Shp) (e : Ending) (w' : World) : Prop := e = .returned (.bool b) ∧ ∃ p', SbAt w' base q off p' t ∧ SbFr w w' q off p p'

end Go.Proofs.YtanicidkmfoooabDoor
