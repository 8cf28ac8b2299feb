/-
  Lemmas, several texts in one: ShpR, ShpS1, ShpS2, ShpN.
-/
import Derived.Test.YtbihgafkmmcjlaaDoorPjAc
import Derived.Test.YtbihgafkmmcjlaaDoorPjAb
import Derived.Deep.QuietTactic
import Derived.Deep.RegionHeld3
import Derived.BigQuiet
import Derived.Deep.Cut
namespace Go.Proofs.YtbihgafkmmcjlaaDoor
open Go.RowKit
set_option linter.unusedVariables false
structure ShPtr where
  K : Option Addr
  c1 : Nat
  F : Option Addr
  c2 : Nat
  S : Option Addr
  c3 : Nat
  M : Option Addr
  c4 : Nat
def shCells (p : ShPtr) (s : Shp) : Array Value := #[.slice p.K s.kinds.length p.c1, .slice p.F s.full.length p.c2, .slice p.S s.stack.length p.c3, .slice p.M s.memo.length p.c4, .bool s.done]
def shVal (p : ShPtr) (s : Shp) : Value := .agg (shCells p s)
def ShPtr.nil : ShPtr := ⟨none, 0, none, 0, none, 0, none, 0⟩
structure ShAt (w : World) (B : Nat) (p : ShPtr) (s : Shp) : Prop where
  k : IntsAt w B p.K s.kinds
  kn : p.K = none → p.c1 = 0
  f : BoolsAt w B p.F s.full
  fn : p.F = none → p.c2 = 0
  t : IntsAt w B p.S s.stack
  tn : p.S = none → p.c3 = 0
  m : IntsAt w B p.M s.memo
  mn : p.M = none → p.c4 = 0
theorem ShAt.below {w w' : World} {B : Nat} {p : ShPtr} {s : Shp} (h : ShAt w B p s) (hb : Below B w w') : ShAt w' B p s := ⟨h.k.below hb, h.kn, h.f.below hb, h.fn, h.t.below hb, h.tn, h.m.below hb, h.mn⟩
theorem ShAt.more {w : World} {B B' : Nat} {p : ShPtr} {s : Shp} (h : ShAt w B p s) (hB : B ≤ B') : ShAt w B' p s := ⟨h.k.more hB, h.kn, h.f.more hB, h.fn, h.t.more hB, h.tn, h.m.more hB, h.mn⟩
theorem ShAt.later {w w' : World} {B : Nat} {p : ShPtr} {s : Shp} (h : ShAt w B p s) (hb : Below B w w') (hB : B ≤ w.heap.size) : ShAt w' w'.heap.size p s := (h.below hb).more (Nat.le_trans hB hb.size)
structure ShPtr.Off (p : ShPtr) (q : Nat) : Prop where
  k : blockOf p.K ≠ some q
  f : blockOf p.F ≠ some q
  t : blockOf p.S ≠ some q
  m : blockOf p.M ≠ some q
structure ShOwn (w : World) (base : Nat) (p : ShPtr) (s : Shp) : Prop where
  k : OwnI w base p.K p.c1 s.kinds
  f : OwnB w base p.F p.c2 s.full
  t : OwnI w base p.S p.c3 s.stack
  m : OwnI w base p.M p.c4 s.memo
  kf : ∀ b, blockOf p.K = some b → blockOf p.F ≠ some b
  kt : ∀ b, blockOf p.K = some b → blockOf p.S ≠ some b
  km : ∀ b, blockOf p.K = some b → blockOf p.M ≠ some b
  ft : ∀ b, blockOf p.F = some b → blockOf p.S ≠ some b
  fm : ∀ b, blockOf p.F = some b → blockOf p.M ≠ some b
  tm : ∀ b, blockOf p.S = some b → blockOf p.M ≠ some b
structure Shp.Small (s : Shp) : Prop where
  k : s.kinds.length ≤ 1000
  t : s.stack.length ≤ 1000
  ok : s.Ok
theorem Shp.Fits.small {s : Shp} (h : s.Fits) (ho : s.Ok) : s.Small := ⟨by have := h.1; omega, by have := h.2; omega, ho⟩
theorem Shp.Small.k64 {s : Shp} (h : s.Small) : ∀ x ∈ s.kinds, In64 x := fun x hx => by have := h.ok.kk x hx; constructor <;> omega
theorem Shp.Small.t64 {s : Shp} (h : s.Small) : ∀ x ∈ s.stack, In64 x := fun x hx => by have := h.ok.st x hx; have := h.k; constructor <;> omega
theorem Shp.Small.m64 {s : Shp} (h : s.Small) : ∀ x ∈ s.memo, In64 x := fun x hx => by have := h.ok.mm x hx; have := h.k; constructor <;> omega
theorem ShOwn.at_ {w : World} {base : Nat} {p : ShPtr} {s : Shp} (h : ShOwn w base p s) (hs : s.Small) : ShAt w w.heap.size p s := by
  have := hs.k
  have := hs.t
  have := hs.ok.fl
  have := hs.ok.ml
  exact ⟨h.k.ints hs.k64 (by omega), h.k.nil, h.f.bools (by omega), h.f.nil, h.t.ints hs.t64 (by omega), h.t.nil, h.m.ints hs.m64 (by omega), h.m.nil⟩
theorem ShOwn.off {w : World} {base q : Nat} {p : ShPtr} {s : Shp} (h : ShOwn w base p s) (hq : q < base ∨ w.heap.size ≤ q) : p.Off q :=
  ⟨fun e => by have := h.k.blocks q e; omega, fun e => by have := h.f.blocks q e; omega, fun e => by have := h.t.blocks q e; omega, fun e => by have := h.m.blocks q e; omega⟩
theorem ShOwn.ofB {w w' : World} {base : Nat} {p : ShPtr} {s : Shp} (h : ShOwn w base p s) (hb : ∀ g, base ≤ g → g < w.heap.size → w'.heap[g]? = w.heap[g]?) : ShOwn w' base p s :=
  ⟨h.k.ofB fun g hg => hb g (h.k.blocks g hg).1 (h.k.blocks g hg).2, h.f.ofB fun g hg => hb g (h.f.blocks g hg).1 (h.f.blocks g hg).2, h.t.ofB fun g hg => hb g (h.t.blocks g hg).1 (h.t.blocks g hg).2, h.m.ofB fun g hg => hb g (h.m.blocks g hg).1 (h.m.blocks g hg).2,
    h.kf, h.kt, h.km, h.ft, h.fm, h.tm⟩
theorem ShOwn.below {w w' : World} {base : Nat} {p : ShPtr} {s : Shp} (h : ShOwn w base p s) (hb : Below w.heap.size w w') : ShOwn w' base p s := h.ofB fun g _ hg => hb.block g hg
theorem ShOwn.alloc {w : World} {base : Nat} {p : ShPtr} {s : Shp} (h : ShOwn w base p s) (o : Obj) : ShOwn (w.alloc o) base p s := h.below ((Below.refl _ _).alloc (Nat.le_refl _) o)
theorem ShOwn.drew {w : World} {base : Nat} {p : ShPtr} {s : Shp} (h : ShOwn w base p s) : ShOwn w.drew base p s := h.ofB fun _ _ _ => rfl
theorem ShOwn.mono {w : World} {base base' : Nat} {p : ShPtr} {s : Shp} (h : ShOwn w base p s) (hb : base' ≤ base) : ShOwn w base' p s :=
  ⟨h.k.mono hb, h.f.mono hb, h.t.mono hb, h.m.mono hb, h.kf, h.kt, h.km, h.ft, h.fm, h.tm⟩
theorem ShOwn.far {w : World} {base q j : Nat} {p : ShPtr} {s : Shp} (h : ShOwn w base p s) (hq : p.Off q) (v : Value) : ShOwn (w.setCell ⟨q, j, none⟩ v) base p s := by
  have hf : ∀ g, g ≠ q → (w.setCell ⟨q, j, none⟩ v).heap[g]? = w.heap[g]? := fun g hg => Below.heap_setCell _ _ _ _ hg
  exact ⟨h.k.ofB fun g hg => hf g (fun e => hq.k (e ▸ hg)), h.f.ofB fun g hg => hf g (fun e => hq.f (e ▸ hg)), h.t.ofB fun g hg => hf g (fun e => hq.t (e ▸ hg)), h.m.ofB fun g hg => hf g (fun e => hq.m (e ▸ hg)),
    h.kf, h.kt, h.km, h.ft, h.fm, h.tm⟩
structure ShBox (w : World) (base q : Nat) (p : ShPtr) (s : Shp) : Prop where
  box : Lies w q (shCells p s) 38
  own : ShOwn w base p s
  off : p.Off q
theorem ShBox.below {w w' : World} {base q : Nat} {p : ShPtr} {s : Shp} (h : ShBox w base q p s) (hb : Below w.heap.size w w') : ShBox w' base q p s := ⟨h.box.below hb h.box.lt, h.own.below hb, h.off⟩
theorem ShBox.alloc {w : World} {base q : Nat} {p : ShPtr} {s : Shp} (h : ShBox w base q p s) (o : Obj) : ShBox (w.alloc o) base q p s := h.below ((Below.refl _ _).alloc (Nat.le_refl _) o)
theorem ShBox.drew {w : World} {base q : Nat} {p : ShPtr} {s : Shp} (h : ShBox w base q p s) : ShBox w.drew base q p s := ⟨h.box, h.own.drew, h.off⟩
theorem ShBox.new {w : World} {base : Nat} {p : ShPtr} {s : Shp} (h : ShOwn w base p s) : ShBox (w.alloc (.cells (shCells p s) 38)) base w.heap.size p s := ⟨Lies.new _ _ _, h.alloc _, h.off (.inr (Nat.le_refl _))⟩
theorem ShBox.cells {w : World} {base q : Nat} {p : ShPtr} {s : Shp} (h : ShBox w base q p s) :
    w.cell? ⟨q, 0, none⟩ = some (.slice p.K s.kinds.length p.c1) ∧ w.cell? ⟨q, 1, none⟩ = some (.slice p.F s.full.length p.c2) ∧ w.cell? ⟨q, 2, none⟩ = some (.slice p.S s.stack.length p.c3) ∧ w.cell? ⟨q, 3, none⟩ = some (.slice p.M s.memo.length p.c4) ∧ w.cell? ⟨q, 4, none⟩ = some (.bool s.done) := by
  have e0 := h.box.cell 0
  have e1 := h.box.cell 1
  have e2 := h.box.cell 2
  have e3 := h.box.cell 3
  have e4 := h.box.cell 4
  simp only [shCells] at e0 e1 e2 e3 e4
  exact ⟨e0, e1, e2, e3, e4⟩
theorem ShBox.put {w : World} {base q j : Nat} {p p' : ShPtr} {s s' : Shp} {v : Value} (h : Lies w q (shCells p s) 38) (ho : ShOwn w base p' s') (hq : p'.Off q) (hc : (shCells p s).setIfInBounds j v = shCells p' s') : ShBox (w.setCell ⟨q, j, none⟩ v) base q p' s' := by
  have h2 := h.set j v
  rw [hc] at h2
  exact ⟨h2, ho.far hq v, hq⟩
section grown
variable {w w1 : World} {base q : Nat} {p : ShPtr} {s : Shp} {A' : Option Addr} {c' : Nat} {lit : Obj}
theorem OwnI.stays {row : Option Nat} {A : Option Addr} {c : Nat} {xs : List Int} (h : OwnI w base A c xs) (hg : (w.alloc lit).grownBy w1 row) (hne : ∀ b, row = some b → blockOf A ≠ some b) : OwnI w1 base A c xs :=
  (h.alloc lit).kept hg (by
    cases row with
    | none => cases hA : blockOf A <;> simp
    | some b => exact .inr (hne b rfl))
theorem OwnB.stays {row : Option Nat} {A : Option Addr} {c : Nat} {xs : List Bool} (h : OwnB w base A c xs) (hg : (w.alloc lit).grownBy w1 row) (hne : ∀ b, row = some b → blockOf A ≠ some b) : OwnB w1 base A c xs :=
  (h.alloc lit).kept hg (by
    cases row with
    | none => cases hA : blockOf A <;> simp
    | some b => exact .inr (hne b rfl))
theorem apart_grown {A B : Option Addr} (hat : blockOf A' = blockOf A ∨ blockOf A' = some (w.alloc lit).heap.size) (hAB : ∀ b, blockOf A = some b → blockOf B ≠ some b) (hB : ∀ b, blockOf B = some b → b < w.heap.size) : ∀ b, blockOf A' = some b → blockOf B ≠ some b := by
  intro b hb e
  rcases hat with h1 | h1
  · exact hAB b (h1 ▸ hb) e
  · rw [h1] at hb
    injection hb with hb
    have := hB b e
    simp at hb
    omega
theorem off_grown {A : Option Addr} (hat : blockOf A' = blockOf A ∨ blockOf A' = some (w.alloc lit).heap.size) (hA : blockOf A ≠ some q) (hq : q < w.heap.size) : blockOf A' ≠ some q := by
  rcases hat with h1 | h1
  · rw [h1]; exact hA
  · rw [h1]
    intro e
    injection e with e
    simp at e
    omega
theorem lies_grown {row : Option Nat} {cs : Array Value} {t : TypeId} (h : Lies w q cs t) (hg : (w.alloc lit).grownBy w1 row) (hne : row ≠ some q) : Lies w1 q cs t := by
  have h2 := h.alloc lit
  unfold Lies at h2 ⊢
  rw [← h2]
  exact hg.block q (lt_of_block h2) (fun e => hne e.symm)
theorem symm_apart {A B : Option Addr} (h : ∀ b, blockOf A = some b → blockOf B ≠ some b) : ∀ b, blockOf B = some b → blockOf A ≠ some b := fun b hb ha => h b ha hb
theorem ShBox.pushK {zs : List Int} (h : ShBox w base q p s) (ho : OwnI w1 base A' c' zs) (hg : (w.alloc lit).grownBy w1 (blockOf p.K)) (hat : blockOf A' = blockOf p.K ∨ blockOf A' = some (w.alloc lit).heap.size) :
    ShBox (w1.setCell ⟨q, 0, none⟩ (.slice A' zs.length c')) base q { p with K := A', c1 := c' } { s with kinds := zs } :=
  ShBox.put (lies_grown h.box hg h.off.k)
    ⟨ho, h.own.f.stays hg h.own.kf, h.own.t.stays hg h.own.kt, h.own.m.stays hg h.own.km, apart_grown hat h.own.kf (fun b hb => (h.own.f.blocks b hb).2), apart_grown hat h.own.kt (fun b hb => (h.own.t.blocks b hb).2), apart_grown hat h.own.km (fun b hb => (h.own.m.blocks b hb).2), h.own.ft, h.own.fm, h.own.tm⟩
    ⟨off_grown hat h.off.k h.box.lt, h.off.f, h.off.t, h.off.m⟩ rfl
theorem ShBox.pushF {zs : List Bool} (h : ShBox w base q p s) (ho : OwnB w1 base A' c' zs) (hg : (w.alloc lit).grownBy w1 (blockOf p.F)) (hat : blockOf A' = blockOf p.F ∨ blockOf A' = some (w.alloc lit).heap.size) :
    ShBox (w1.setCell ⟨q, 1, none⟩ (.slice A' zs.length c')) base q { p with F := A', c2 := c' } { s with full := zs } :=
  ShBox.put (lies_grown h.box hg h.off.f)
    ⟨h.own.k.stays hg (symm_apart h.own.kf), ho, h.own.t.stays hg h.own.ft, h.own.m.stays hg h.own.fm, symm_apart (apart_grown hat (symm_apart h.own.kf) (fun b hb => (h.own.k.blocks b hb).2)), h.own.kt, h.own.km, apart_grown hat h.own.ft (fun b hb => (h.own.t.blocks b hb).2), apart_grown hat h.own.fm (fun b hb => (h.own.m.blocks b hb).2), h.own.tm⟩
    ⟨h.off.k, off_grown hat h.off.f h.box.lt, h.off.t, h.off.m⟩ rfl
theorem ShBox.pushT {zs : List Int} (h : ShBox w base q p s) (ho : OwnI w1 base A' c' zs) (hg : (w.alloc lit).grownBy w1 (blockOf p.S)) (hat : blockOf A' = blockOf p.S ∨ blockOf A' = some (w.alloc lit).heap.size) :
    ShBox (w1.setCell ⟨q, 2, none⟩ (.slice A' zs.length c')) base q { p with S := A', c3 := c' } { s with stack := zs } :=
  ShBox.put (lies_grown h.box hg h.off.t)
    ⟨h.own.k.stays hg (symm_apart h.own.kt), h.own.f.stays hg (symm_apart h.own.ft), ho, h.own.m.stays hg h.own.tm, h.own.kf, symm_apart (apart_grown hat (symm_apart h.own.kt) (fun b hb => (h.own.k.blocks b hb).2)), h.own.km, symm_apart (apart_grown hat (symm_apart h.own.ft) (fun b hb => (h.own.f.blocks b hb).2)), h.own.fm, apart_grown hat h.own.tm (fun b hb => (h.own.m.blocks b hb).2)⟩
    ⟨h.off.k, h.off.f, off_grown hat h.off.t h.box.lt, h.off.m⟩ rfl
theorem ShBox.pushM {zs : List Int} (h : ShBox w base q p s) (ho : OwnI w1 base A' c' zs) (hg : (w.alloc lit).grownBy w1 (blockOf p.M)) (hat : blockOf A' = blockOf p.M ∨ blockOf A' = some (w.alloc lit).heap.size) :
    ShBox (w1.setCell ⟨q, 3, none⟩ (.slice A' zs.length c')) base q { p with M := A', c4 := c' } { s with memo := zs } :=
  ShBox.put (lies_grown h.box hg h.off.m)
    ⟨h.own.k.stays hg (symm_apart h.own.km), h.own.f.stays hg (symm_apart h.own.fm), h.own.t.stays hg (symm_apart h.own.tm), ho, h.own.kf, h.own.kt, symm_apart (apart_grown hat (symm_apart h.own.km) (fun b hb => (h.own.k.blocks b hb).2)), h.own.ft, symm_apart (apart_grown hat (symm_apart h.own.fm) (fun b hb => (h.own.f.blocks b hb).2)), symm_apart (apart_grown hat (symm_apart h.own.tm) (fun b hb => (h.own.t.blocks b hb).2))⟩
    ⟨h.off.k, h.off.f, h.off.t, off_grown hat h.off.m h.box.lt⟩ rfl
theorem ShBox.grownB {row : Option Nat} {w0 : World} {B j : Nat} {v : Value} (h : ShBox w base q p s) (hb : Below B w0 w) (hB : B ≤ w.heap.size) (hBb : B ≤ base) (hBq : B ≤ q) (hg : (w.alloc lit).grownBy w1 row) (hr : ∀ b, row = some b → base ≤ b) : Below B w0 (w1.setCell ⟨q, j, none⟩ v) := by
  have h1 : Below B w0 w1 := (hb.alloc hB lit).grown hg (by simp; omega) (fun b e => by have := hr b e; omega)
  exact h1.setCell hBq v
end grown
theorem ShBox.cut {w : World} {base q n : Nat} {p : ShPtr} {s : Shp} (h : ShBox w base q p s) (hn : n ≤ s.stack.length) : ShBox (w.setCell ⟨q, 2, none⟩ (.slice p.S n p.c3)) base q p (s.cutTo n) := by
  have hl : (s.stack.take n).length = n := by simp; omega
  refine ShBox.put h.box ⟨h.own.k, h.own.f, h.own.t.cutAt hn, h.own.m, h.own.kf, h.own.kt, h.own.km, h.own.ft, h.own.fm, h.own.tm⟩ h.off ?_
  show _ = (#[Value.slice p.K s.kinds.length p.c1, Value.slice p.F s.full.length p.c2, Value.slice p.S (s.stack.take n).length p.c3, Value.slice p.M s.memo.length p.c4, Value.bool s.done] : Array Value)
  rw [hl]
  rfl
theorem ShBox.cutO {w : World} {base q n : Nat} {p : ShPtr} {s : Shp} (h : ShOwn w base p s) (hn : n ≤ s.stack.length) : ShOwn w base p (s.cutTo n) := ⟨h.k, h.f, h.t.cutAt hn, h.m, h.kf, h.kt, h.km, h.ft, h.fm, h.tm⟩
theorem ShBox.stop {w : World} {base q : Nat} {p : ShPtr} {s : Shp} (h : ShBox w base q p s) : ShBox (w.setCell ⟨q, 4, none⟩ (.bool true)) base q p { s with done := true } :=
  ShBox.put h.box ⟨h.own.k, h.own.f, h.own.t, h.own.m, h.own.kf, h.own.kt, h.own.km, h.own.ft, h.own.fm, h.own.tm⟩ h.off rfl
theorem ShBox.putM {w : World} {base q g a : Nat} {p : ShPtr} {s : Shp} (h : ShBox w base q p s) (hM : p.M = some ⟨g, 0, none⟩) (x : Int) : ShBox (w.setCell ⟨g, a, none⟩ (.int .i64 x)) base q p { s with memo := s.memo.set a x } := by
  have hbg : blockOf p.M = some g := by rw [hM]; rfl
  have hf : ∀ k, k ≠ g → (w.setCell ⟨g, a, none⟩ (.int .i64 x)).heap[k]? = w.heap[k]? := fun k hk => Below.heap_setCell _ _ _ _ hk
  have hm := h.own.m
  rw [hM] at hm
  have hm2 := hm.setAt a x
  rw [← hM] at hm2
  refine ⟨?_, ⟨h.own.k.ofB fun b hb => hf b (fun e => h.own.km b hb (e ▸ hbg)), h.own.f.ofB fun b hb => hf b (fun e => h.own.fm b hb (e ▸ hbg)), h.own.t.ofB fun b hb => hf b (fun e => h.own.tm b hb (e ▸ hbg)), hm2, h.own.kf, h.own.kt, h.own.km, h.own.ft, h.own.fm, h.own.tm⟩, h.off⟩
  have := h.box.far (p := ⟨g, a, none⟩) (fun e => h.off.m (e ▸ hbg)) (.int .i64 x)
  simpa [shCells] using this
theorem ShBox.fill {w : World} {base q g a : Nat} {p : ShPtr} {s : Shp} (h : ShBox w base q p s) (hF : p.F = some ⟨g, 0, none⟩) : ShBox (w.setCell ⟨g, a, none⟩ (.bool true)) base q p { s with full := s.full.set a true } := by
  have hbg : blockOf p.F = some g := by rw [hF]; rfl
  have hf : ∀ k, k ≠ g → (w.setCell ⟨g, a, none⟩ (.bool true)).heap[k]? = w.heap[k]? := fun k hk => Below.heap_setCell _ _ _ _ hk
  have hm := h.own.f
  rw [hF] at hm
  have hm2 := hm.setAt a true
  rw [← hF] at hm2
  refine ⟨?_, ⟨h.own.k.ofB fun b hb => hf b (fun e => h.own.kf b hb (e ▸ hbg)), hm2, h.own.t.ofB fun b hb => hf b (fun e => h.own.ft b (e ▸ hbg) hb), h.own.m.ofB fun b hb => hf b (fun e => h.own.fm b (e ▸ hbg) hb), h.own.kf, h.own.kt, h.own.km, h.own.ft, h.own.fm, h.own.tm⟩, h.off⟩
  have := h.box.far (p := ⟨g, a, none⟩) (fun e => h.off.f (e ▸ hbg)) (.bool true)
  simpa [shCells] using this
def set5 (X : World) (q : Nat) (v0 v1 v2 v3 v4 : Value) : World := ((((X.setCell ⟨q, 0, none⟩ v0).setCell ⟨q, 1, none⟩ v1).setCell ⟨q, 2, none⟩ v2).setCell ⟨q, 3, none⟩ v3).setCell ⟨q, 4, none⟩ v4
theorem set5_block {X : World} {q k : Nat} {v0 v1 v2 v3 v4 : Value} (hk : k ≠ q) : (set5 X q v0 v1 v2 v3 v4).heap[k]? = X.heap[k]? := by
  unfold set5
  rw [Below.heap_setCell _ _ _ _ (by show k ≠ q; exact hk), Below.heap_setCell _ _ _ _ (by show k ≠ q; exact hk), Below.heap_setCell _ _ _ _ (by show k ≠ q; exact hk), Below.heap_setCell _ _ _ _ (by show k ≠ q; exact hk), Below.heap_setCell _ _ _ _ (by show k ≠ q; exact hk)]
theorem set5_size {X : World} {q : Nat} {v0 v1 v2 v3 v4 : Value} : (set5 X q v0 v1 v2 v3 v4).heap.size = X.heap.size := by unfold set5; simp
theorem set5_below {w X : World} {B q : Nat} {v0 v1 v2 v3 v4 : Value} (h : Below B w X) (hq : B ≤ q) : Below B w (set5 X q v0 v1 v2 v3 v4) :=
  ((((h.setCell (p := ⟨q, 0, none⟩) hq v0).setCell (p := ⟨q, 1, none⟩) hq v1).setCell (p := ⟨q, 2, none⟩) hq v2).setCell (p := ⟨q, 3, none⟩) hq v3).setCell (p := ⟨q, 4, none⟩) hq v4
theorem ShOwn.set5 {X : World} {base q : Nat} {p : ShPtr} {s : Shp} {v0 v1 v2 v3 v4 : Value} (h : ShOwn X base p s) (hq : p.Off q) : ShOwn (set5 X q v0 v1 v2 v3 v4) base p s :=
  ⟨h.k.ofB fun g hg => set5_block (fun e => hq.k (e ▸ hg)), h.f.ofB fun g hg => set5_block (fun e => hq.f (e ▸ hg)), h.t.ofB fun g hg => set5_block (fun e => hq.t (e ▸ hg)), h.m.ofB fun g hg => set5_block (fun e => hq.m (e ▸ hg)), h.kf, h.kt, h.km, h.ft, h.fm, h.tm⟩
structure Set5 (X : World) (q : Nat) (u0 u1 u2 u3 u4 v0 v1 v2 v3 v4 : Value) : Prop where
  c0 : X.cell? ⟨q, 0, none⟩ = some u0
  c1 : X.cell? ⟨q, 1, none⟩ = some u1
  c2 : X.cell? ⟨q, 2, none⟩ = some u2
  c3 : X.cell? ⟨q, 3, none⟩ = some u3
  c4 : X.cell? ⟨q, 4, none⟩ = some u4
  f0 : X.frozen? ⟨q, 0, none⟩ = false
  f1 : X.frozen? ⟨q, 1, none⟩ = false
  f2 : X.frozen? ⟨q, 2, none⟩ = false
  f3 : X.frozen? ⟨q, 3, none⟩ = false
  f4 : X.frozen? ⟨q, 4, none⟩ = false
  s0 : (((((X.setCell ⟨q, 0, none⟩ v0).setCell ⟨q, 1, none⟩ v1).setCell ⟨q, 2, none⟩ v2).setCell ⟨q, 3, none⟩ v3).setCell ⟨q, 4, none⟩ v4).cell? ⟨q, 0, none⟩ = some v0
  s1 : (((((X.setCell ⟨q, 0, none⟩ v0).setCell ⟨q, 1, none⟩ v1).setCell ⟨q, 2, none⟩ v2).setCell ⟨q, 3, none⟩ v3).setCell ⟨q, 4, none⟩ v4).cell? ⟨q, 1, none⟩ = some v1
  s2 : (((((X.setCell ⟨q, 0, none⟩ v0).setCell ⟨q, 1, none⟩ v1).setCell ⟨q, 2, none⟩ v2).setCell ⟨q, 3, none⟩ v3).setCell ⟨q, 4, none⟩ v4).cell? ⟨q, 2, none⟩ = some v2
  s3 : (((((X.setCell ⟨q, 0, none⟩ v0).setCell ⟨q, 1, none⟩ v1).setCell ⟨q, 2, none⟩ v2).setCell ⟨q, 3, none⟩ v3).setCell ⟨q, 4, none⟩ v4).cell? ⟨q, 3, none⟩ = some v3
  s4 : (((((X.setCell ⟨q, 0, none⟩ v0).setCell ⟨q, 1, none⟩ v1).setCell ⟨q, 2, none⟩ v2).setCell ⟨q, 3, none⟩ v3).setCell ⟨q, 4, none⟩ v4).cell? ⟨q, 4, none⟩ = some v4
theorem Lies.set5 {X : World} {q : Nat} {u0 u1 u2 u3 u4 : Value} {t : TypeId} (l : Lies X q #[u0, u1, u2, u3, u4] t) (v0 v1 v2 v3 v4 : Value) : Set5 X q u0 u1 u2 u3 u4 v0 v1 v2 v3 v4 ∧ Lies (set5 X q v0 v1 v2 v3 v4) q #[v0, v1, v2, v3, v4] t := by
  have lf := ((((l.set 0 v0).set 1 v1).set 2 v2).set 3 v3).set 4 v4
  simp only [jA, jC, jB] at lf
  exact ⟨⟨l.cell 0, l.cell 1, l.cell 2, l.cell 3, l.cell 4, l.frozen 0, l.frozen 1, l.frozen 2, l.frozen 3, l.frozen 4, lf.cell 0, lf.cell 1, lf.cell 2, lf.cell 3, lf.cell 4⟩, lf⟩
def zero5 : Array Value := #[.slice none 0 0, .slice none 0 0, .slice none 0 0, .slice none 0 0, .bool false]
def FrSh (w w' : World) (p0 : ShPtr) : Prop := ∀ k, k < w.heap.size → p0.Off k → w'.heap[k]? = w.heap[k]?
structure ShSt (w0 w : World) (p0 : ShPtr) (B base q q2 : Nat) (p : ShPtr) (s : Shp) : Prop where
  bx : ShBox w base q p s
  res : Lies w q2 zero5 38
  off2 : p.Off q2
  bel : Below B w0 w
  ne : q ≠ q2
  hB : B ≤ w.heap.size
  hb : B ≤ base
  hq : B ≤ q
  hq2 : B ≤ q2
  fr : ∀ k, k < w0.heap.size → p0.Off k → w.heap[k]? = w0.heap[k]?
  offs : ∀ k, k < w0.heap.size → p0.Off k → p.Off k
  sq : w0.heap.size ≤ q
  sq2 : w0.heap.size ≤ q2
theorem ShSt.below {w0 w w' : World} {B base q q2 : Nat} {p p0 : ShPtr} {s : Shp} (h : ShSt w0 w p0 B base q q2 p s) (hb : Below w.heap.size w w') : ShSt w0 w' p0 B base q q2 p s :=
  ⟨h.bx.below hb, h.res.below hb h.res.lt, h.off2, h.bel.trans (hb.mono h.hB), h.ne, Nat.le_trans h.hB hb.size, h.hb, h.hq, h.hq2, fun k hk ho => (hb.block k (by have := h.bx.box.lt; have := h.sq; omega)).trans (h.fr k hk ho), h.offs, h.sq, h.sq2⟩
theorem ShSt.enter {w : World} {base : Nat} {p : ShPtr} {s : Shp} (h : ShOwn w base p s) (hbase : base ≤ w.heap.size) : ShSt w ((w.alloc (.cells (shCells p s) 38)).alloc (.cells zero5 38)) p base base w.heap.size (w.heap.size + 1) p s := by
  refine ⟨(ShBox.new h).alloc _, ?_, h.off (.inr (by omega)), ((Below.refl _ _).alloc hbase _).alloc (by simp; omega) _, by omega, by simp; omega, Nat.le_refl _, hbase, by omega, fun k hk _ => (((Below.refl _ _).alloc (Nat.le_refl _) _).alloc (by simp) _ : Below w.heap.size w _).block k hk, fun k _ ho => ho, Nat.le_refl _, by omega⟩
  have := Lies.new (w.alloc (.cells (shCells p s) 38)) zero5 38
  simpa using this
theorem ShSt.enter3 {w : World} {base : Nat} {p : ShPtr} {s : Shp} (h : ShOwn w base p s) (hbase : base ≤ w.heap.size) (ob : Obj) : ShSt w (((w.alloc (.cells (shCells p s) 38)).alloc ob).alloc (.cells zero5 38)) p base base w.heap.size (w.heap.size + 2) p s := by
  have hB : Below w.heap.size w (((w.alloc (.cells (shCells p s) 38)).alloc ob).alloc (.cells zero5 38)) := (((Below.refl _ _).alloc (Nat.le_refl _) _).alloc (by simp) _).alloc (by simp; omega) _
  refine ⟨((ShBox.new h).alloc _).alloc _, ?_, h.off (.inr (by omega)), hB.mono hbase, by omega, by simp; omega, Nat.le_refl _, hbase, by omega, fun k hk _ => hB.block k hk, fun k _ ho => ho, Nat.le_refl _, by omega⟩
  have := Lies.new ((w.alloc (.cells (shCells p s) 38)).alloc ob) zero5 38
  simpa using this
theorem ShPtr.Off.grown {w : World} {lit : Obj} {q : Nat} {A A' : Option Addr} (hA : blockOf A ≠ some q) (hq : q < w.heap.size) (hat : blockOf A' = blockOf A ∨ blockOf A' = some (w.alloc lit).heap.size) : blockOf A' ≠ some q := off_grown hat hA hq
theorem fr_grown {w0 w w1 : World} {p0 : ShPtr} {q i : Nat} {lit : Obj} {row : Option Nat} {v : Value} (h : ∀ k, k < w0.heap.size → p0.Off k → w.heap[k]? = w0.heap[k]?) (hq : w0.heap.size ≤ q) (hs : w0.heap.size ≤ w.heap.size) (hg : (w.alloc lit).grownBy w1 row) :
    ∀ k, k < w0.heap.size → p0.Off k → row ≠ some k → (w1.setCell ⟨q, i, none⟩ v).heap[k]? = w0.heap[k]? := by
  intro k hk ho hr
  rw [Below.heap_setCell _ _ _ _ (by show k ≠ q; omega), hg.block k (by simp; omega) (fun e => hr e.symm), Below.heap_alloc _ _ _ (by omega)]
  exact h k hk ho
section st
variable {w0 w w1 : World} {B base q q2 : Nat} {p p0 : ShPtr} {s : Shp} {A' : Option Addr} {c' : Nat} {lit : Obj}
theorem ShSt.cells (h : ShSt w0 w p0 B base q q2 p s) {row : Option Nat} (hg : (w.alloc lit).grownBy w1 row) (hne : row ≠ some q) :
    w1.cell? ⟨q, 0, none⟩ = some (.slice p.K s.kinds.length p.c1) ∧ w1.cell? ⟨q, 1, none⟩ = some (.slice p.F s.full.length p.c2) ∧ w1.cell? ⟨q, 2, none⟩ = some (.slice p.S s.stack.length p.c3) ∧ w1.cell? ⟨q, 3, none⟩ = some (.slice p.M s.memo.length p.c4) ∧ w1.cell? ⟨q, 4, none⟩ = some (.bool s.done) ∧
      w1.frozen? ⟨q, 0, none⟩ = false ∧ w1.frozen? ⟨q, 1, none⟩ = false ∧ w1.frozen? ⟨q, 2, none⟩ = false ∧ w1.frozen? ⟨q, 3, none⟩ = false := by
  have l := lies_grown h.bx.box hg hne
  have e0 := l.cell 0
  have e1 := l.cell 1
  have e2 := l.cell 2
  have e3 := l.cell 3
  have e4 := l.cell 4
  exact ⟨e0, e1, e2, e3, e4, l.frozen 0, l.frozen 1, l.frozen 2, l.frozen 3⟩
theorem ShSt.pushK {zs : List Int} (h : ShSt w0 w p0 B base q q2 p s) (ho : OwnI w1 base A' c' zs) (hg : (w.alloc lit).grownBy w1 (blockOf p.K)) (hat : blockOf A' = blockOf p.K ∨ blockOf A' = some (w.alloc lit).heap.size) :
    ShSt w0 (w1.setCell ⟨q, 0, none⟩ (.slice A' zs.length c')) p0 B base q q2 { p with K := A', c1 := c' } { s with kinds := zs } := by
  have hs := hg.size
  have h2 := h.hB
  have hsz : w0.heap.size ≤ w.heap.size := by have := h.bx.box.lt; have := h.sq; omega
  simp at hs
  exact ⟨h.bx.pushK ho hg hat, (lies_grown h.res hg h.off2.k).far (p := ⟨q, 0, none⟩) h.ne.symm _, ⟨off_grown hat h.off2.k h.res.lt, h.off2.f, h.off2.t, h.off2.m⟩, h.bx.grownB h.bel h.hB h.hb h.hq hg (fun b e => (h.bx.own.k.blocks b e).1), h.ne, by simp; omega, h.hb, h.hq, h.hq2, fun k hk ho => (fr_grown h.fr h.sq hsz hg k hk ho (h.offs k hk ho).k), fun k hk ho => ⟨off_grown hat (h.offs k hk ho).k (Nat.lt_of_lt_of_le hk hsz), (h.offs k hk ho).f, (h.offs k hk ho).t, (h.offs k hk ho).m⟩, h.sq, h.sq2⟩
theorem ShSt.pushF {zs : List Bool} (h : ShSt w0 w p0 B base q q2 p s) (ho : OwnB w1 base A' c' zs) (hg : (w.alloc lit).grownBy w1 (blockOf p.F)) (hat : blockOf A' = blockOf p.F ∨ blockOf A' = some (w.alloc lit).heap.size) :
    ShSt w0 (w1.setCell ⟨q, 1, none⟩ (.slice A' zs.length c')) p0 B base q q2 { p with F := A', c2 := c' } { s with full := zs } := by
  have hs := hg.size
  have h2 := h.hB
  have hsz : w0.heap.size ≤ w.heap.size := by have := h.bx.box.lt; have := h.sq; omega
  simp at hs
  exact ⟨h.bx.pushF ho hg hat, (lies_grown h.res hg h.off2.f).far (p := ⟨q, 1, none⟩) h.ne.symm _, ⟨h.off2.k, off_grown hat h.off2.f h.res.lt, h.off2.t, h.off2.m⟩, h.bx.grownB h.bel h.hB h.hb h.hq hg (fun b e => (h.bx.own.f.blocks b e).1), h.ne, by simp; omega, h.hb, h.hq, h.hq2, fun k hk ho => (fr_grown h.fr h.sq hsz hg k hk ho (h.offs k hk ho).f), fun k hk ho => ⟨(h.offs k hk ho).k, off_grown hat (h.offs k hk ho).f (Nat.lt_of_lt_of_le hk hsz), (h.offs k hk ho).t, (h.offs k hk ho).m⟩, h.sq, h.sq2⟩
theorem ShSt.pushT {zs : List Int} (h : ShSt w0 w p0 B base q q2 p s) (ho : OwnI w1 base A' c' zs) (hg : (w.alloc lit).grownBy w1 (blockOf p.S)) (hat : blockOf A' = blockOf p.S ∨ blockOf A' = some (w.alloc lit).heap.size) :
    ShSt w0 (w1.setCell ⟨q, 2, none⟩ (.slice A' zs.length c')) p0 B base q q2 { p with S := A', c3 := c' } { s with stack := zs } := by
  have hs := hg.size
  have h2 := h.hB
  have hsz : w0.heap.size ≤ w.heap.size := by have := h.bx.box.lt; have := h.sq; omega
  simp at hs
  exact ⟨h.bx.pushT ho hg hat, (lies_grown h.res hg h.off2.t).far (p := ⟨q, 2, none⟩) h.ne.symm _, ⟨h.off2.k, h.off2.f, off_grown hat h.off2.t h.res.lt, h.off2.m⟩, h.bx.grownB h.bel h.hB h.hb h.hq hg (fun b e => (h.bx.own.t.blocks b e).1), h.ne, by simp; omega, h.hb, h.hq, h.hq2, fun k hk ho => (fr_grown h.fr h.sq hsz hg k hk ho (h.offs k hk ho).t), fun k hk ho => ⟨(h.offs k hk ho).k, (h.offs k hk ho).f, off_grown hat (h.offs k hk ho).t (Nat.lt_of_lt_of_le hk hsz), (h.offs k hk ho).m⟩, h.sq, h.sq2⟩
theorem ShSt.pushM {zs : List Int} (h : ShSt w0 w p0 B base q q2 p s) (ho : OwnI w1 base A' c' zs) (hg : (w.alloc lit).grownBy w1 (blockOf p.M)) (hat : blockOf A' = blockOf p.M ∨ blockOf A' = some (w.alloc lit).heap.size) :
    ShSt w0 (w1.setCell ⟨q, 3, none⟩ (.slice A' zs.length c')) p0 B base q q2 { p with M := A', c4 := c' } { s with memo := zs } := by
  have hs := hg.size
  have h2 := h.hB
  have hsz : w0.heap.size ≤ w.heap.size := by have := h.bx.box.lt; have := h.sq; omega
  simp at hs
  exact ⟨h.bx.pushM ho hg hat, (lies_grown h.res hg h.off2.m).far (p := ⟨q, 3, none⟩) h.ne.symm _, ⟨h.off2.k, h.off2.f, h.off2.t, off_grown hat h.off2.m h.res.lt⟩, h.bx.grownB h.bel h.hB h.hb h.hq hg (fun b e => (h.bx.own.m.blocks b e).1), h.ne, by simp; omega, h.hb, h.hq, h.hq2, fun k hk ho => (fr_grown h.fr h.sq hsz hg k hk ho (h.offs k hk ho).m), fun k hk ho => ⟨(h.offs k hk ho).k, (h.offs k hk ho).f, (h.offs k hk ho).t, off_grown hat (h.offs k hk ho).m (Nat.lt_of_lt_of_le hk hsz)⟩, h.sq, h.sq2⟩
end st
theorem ShSt.cut {w0 w : World} {B base q q2 n : Nat} {p p0 : ShPtr} {s : Shp} (h : ShSt w0 w p0 B base q q2 p s) (hn : n ≤ s.stack.length) : ShSt w0 (w.setCell ⟨q, 2, none⟩ (.slice p.S n p.c3)) p0 B base q q2 p (s.cutTo n) := by
  have h2 := h.hB
  have h3 := h.sq
  exact ⟨h.bx.cut hn, h.res.far (p := ⟨q, 2, none⟩) h.ne.symm _, h.off2, h.bel.setCell (p := ⟨q, 2, none⟩) h.hq _, h.ne, by simp; omega, h.hb, h.hq, h.hq2, fun k hk ho => by rw [Below.heap_setCell _ _ _ _ (by show k ≠ q; omega)]; exact h.fr k hk ho, h.offs, h.sq, h.sq2⟩
theorem ShSt.stop {w0 w : World} {B base q q2 : Nat} {p p0 : ShPtr} {s : Shp} (h : ShSt w0 w p0 B base q q2 p s) : ShSt w0 (w.setCell ⟨q, 4, none⟩ (.bool true)) p0 B base q q2 p { s with done := true } := by
  have h2 := h.hB
  have h3 := h.sq
  exact ⟨h.bx.stop, h.res.far (p := ⟨q, 4, none⟩) h.ne.symm _, h.off2, h.bel.setCell (p := ⟨q, 4, none⟩) h.hq _, h.ne, by simp; omega, h.hb, h.hq, h.hq2, fun k hk ho => by rw [Below.heap_setCell _ _ _ _ (by show k ≠ q; omega)]; exact h.fr k hk ho, h.offs, h.sq, h.sq2⟩
theorem ShSt.putM {w0 w : World} {B base q q2 g a : Nat} {p p0 : ShPtr} {s : Shp} (h : ShSt w0 w p0 B base q q2 p s) (hM : p.M = some ⟨g, 0, none⟩) (x : Int) : ShSt w0 (w.setCell ⟨g, a, none⟩ (.int .i64 x)) p0 B base q q2 p { s with memo := s.memo.set a x } := by
  have h2 := h.hB
  have hbg : blockOf p.M = some g := by rw [hM]; rfl
  have hg := h.bx.own.m.blocks g hbg
  have h3 := h.hb
  exact ⟨h.bx.putM hM x, h.res.far (p := ⟨g, a, none⟩) (fun e => h.off2.m (e ▸ hbg)) _, h.off2, h.bel.setCell (p := ⟨g, a, none⟩) (by show B ≤ g; omega) _, h.ne, by simp; omega, h.hb, h.hq, h.hq2, fun k hk ho => by rw [Below.heap_setCell _ _ _ _ (by show k ≠ g; intro e; subst e; exact (h.offs k hk ho).m hbg)]; exact h.fr k hk ho, h.offs, h.sq, h.sq2⟩
theorem ShSt.fill {w0 w : World} {B base q q2 g a : Nat} {p p0 : ShPtr} {s : Shp} (h : ShSt w0 w p0 B base q q2 p s) (hF : p.F = some ⟨g, 0, none⟩) : ShSt w0 (w.setCell ⟨g, a, none⟩ (.bool true)) p0 B base q q2 p { s with full := s.full.set a true } := by
  have h2 := h.hB
  have hbg : blockOf p.F = some g := by rw [hF]; rfl
  have hg := h.bx.own.f.blocks g hbg
  have h3 := h.hb
  exact ⟨h.bx.fill hF, h.res.far (p := ⟨g, a, none⟩) (fun e => h.off2.f (e ▸ hbg)) _, h.off2, h.bel.setCell (p := ⟨g, a, none⟩) (by show B ≤ g; omega) _, h.ne, by simp; omega, h.hb, h.hq, h.hq2, fun k hk ho => by rw [Below.heap_setCell _ _ _ _ (by show k ≠ g; intro e; subst e; exact (h.offs k hk ho).f hbg)]; exact h.fr k hk ho, h.offs, h.sq, h.sq2⟩
theorem OwnI.frozenAt {w : World} {base g : Nat} {c : Nat} {xs : List Int} (h : OwnI w base (some ⟨g, 0, none⟩) c xs) (j : Nat) : w.frozen? ⟨g, j, none⟩ = false := by
  rcases h.own.2 with ⟨h1, _⟩ | ⟨g', cap, cur, hv, hg, hh, _⟩
  · injection h1 with h1
    cases h1
  · injection hv with hv _ hc
    obtain rfl : g = g' := by simpa using hv
    exact Lies.frozen hh j
theorem OwnB.frozenAt {w : World} {base g : Nat} {c : Nat} {xs : List Bool} (h : OwnB w base (some ⟨g, 0, none⟩) c xs) (j : Nat) : w.frozen? ⟨g, j, none⟩ = false := by
  rcases h.own.2 with ⟨h1, _⟩ | ⟨g', cap, cur, hv, hg, hh, _⟩
  · injection h1 with h1
    cases h1
  · injection hv with hv _ hc
    obtain rfl : g = g' := by simpa using hv
    exact Lies.frozen hh j
theorem OwnI.atJ {w : World} {base : Nat} {A : Option Addr} {c : Nat} {xs : List Int} (h : OwnI w base A c xs) {j : Nat} {x : Int} (hj : xs[j]? = some x) : ∃ g, A = some ⟨g, 0, none⟩ ∧ base ≤ g ∧ g < w.heap.size ∧ w.cell? ⟨g, j, none⟩ = some (.int .i64 x) ∧ w.frozen? ⟨g, j, none⟩ = false := by
  rcases h.form with ⟨_, _, h3⟩ | ⟨g, rfl, h1, h2⟩
  · rw [h3] at hj; simp at hj
  · refine ⟨g, rfl, h1, h2, ?_, h.frozenAt j⟩
    rw [h.own.cellAt j (by have := (List.getElem?_eq_some_iff.1 hj).1; omega), List.getElem?_map, hj]
    rfl
theorem OwnB.atJ {w : World} {base : Nat} {A : Option Addr} {c : Nat} {xs : List Bool} (h : OwnB w base A c xs) {j : Nat} {x : Bool} (hj : xs[j]? = some x) : ∃ g, A = some ⟨g, 0, none⟩ ∧ base ≤ g ∧ g < w.heap.size ∧ w.cell? ⟨g, j, none⟩ = some (.bool x) ∧ w.frozen? ⟨g, j, none⟩ = false := by
  rcases h.form with ⟨_, _, h3⟩ | ⟨g, rfl, h1, h2⟩
  · rw [h3] at hj; simp at hj
  · refine ⟨g, rfl, h1, h2, ?_, h.frozenAt j⟩
    rw [h.own.cellAt j (by have := (List.getElem?_eq_some_iff.1 hj).1; omega), List.getElem?_map, hj]
    rfl
theorem ShSt.ret {w0 w : World} {B base q q2 : Nat} {p p0 : ShPtr} {s : Shp} (h : ShSt w0 w p0 B base q q2 p s) :
    (w.cell? ⟨q, 0, none⟩ = some (.slice p.K s.kinds.length p.c1) ∧ w.cell? ⟨q, 1, none⟩ = some (.slice p.F s.full.length p.c2) ∧ w.cell? ⟨q, 2, none⟩ = some (.slice p.S s.stack.length p.c3) ∧ w.cell? ⟨q, 3, none⟩ = some (.slice p.M s.memo.length p.c4) ∧ w.cell? ⟨q, 4, none⟩ = some (.bool s.done)) ∧
    Set5 w q2 (.slice none 0 0) (.slice none 0 0) (.slice none 0 0) (.slice none 0 0) (.bool false) (.slice p.K s.kinds.length p.c1) (.slice p.F s.full.length p.c2) (.slice p.S s.stack.length p.c3) (.slice p.M s.memo.length p.c4) (.bool s.done) ∧
    ShOwn (set5 w q2 (.slice p.K s.kinds.length p.c1) (.slice p.F s.full.length p.c2) (.slice p.S s.stack.length p.c3) (.slice p.M s.memo.length p.c4) (.bool s.done)) base p s ∧
    Below B w0 (set5 w q2 (.slice p.K s.kinds.length p.c1) (.slice p.F s.full.length p.c2) (.slice p.S s.stack.length p.c3) (.slice p.M s.memo.length p.c4) (.bool s.done)) ∧
    FrSh w0 (set5 w q2 (.slice p.K s.kinds.length p.c1) (.slice p.F s.full.length p.c2) (.slice p.S s.stack.length p.c3) (.slice p.M s.memo.length p.c4) (.bool s.done)) p0 :=
  ⟨h.bx.cells, (Lies.set5 h.res _ _ _ _ _).1, h.bx.own.set5 h.off2, set5_below h.bel h.hq2, fun k hk ho => (set5_block (by have := h.sq2; omega)).trans (h.fr k hk ho)⟩
theorem IntsAt.dropAt {w : World} {B : Nat} {A : Option Addr} {xs : List Int} (h : IntsAt w B A xs) (b off : Nat) (hA : A = some ⟨b, off, none⟩) (k : Nat) : IntsAt w B (some ⟨b, off + k, none⟩) (xs.drop k) := by
  subst hA
  refine ⟨fun hx => ?_, fun x hx => h.wf x (List.mem_of_mem_drop hx), Nat.le_trans (by simp) h.len⟩
  obtain ⟨b', off', e, hlt, hc⟩ := h.row (by intro e; subst e; simp at hx)
  injection e with e
  injection e with e1 e2
  subst e1 e2
  refine ⟨b, off + k, rfl, hlt, fun j x hj => ?_⟩
  rw [List.getElem?_drop] at hj
  have := hc (k + j) x hj
  rwa [← Nat.add_assoc] at this
theorem IntsAt.oneN (w : World) (n : Nat) (x : Int) (hx : In64 x) (h : w.heap.size = n) : IntsAt (w.alloc (.cells #[.int .i64 x] 3)) (n + 1) (some ⟨n, 0, none⟩) [x] := by
  have := IntsAt.one w x hx
  rwa [h] at this
theorem BoolsAt.oneN (w : World) (n : Nat) (x : Bool) (h : w.heap.size = n) : BoolsAt (w.alloc (.cells #[.bool x] 4)) (n + 1) (some ⟨n, 0, none⟩) [x] := by
  have := BoolsAt.one w x
  rwa [h] at this
def OffSh (w : World) (p0 p : ShPtr) : Prop := ∀ k, k < w.heap.size → p0.Off k → p.Off k
def TurnsSh (w : World) (p0 : ShPtr) (base : Nat) (s : Shp) (e : Ending) (w' : World) : Prop := ∃ p, e = .returned (shVal p s) ∧ ShOwn w' base p s ∧ Below base w w' ∧ FrSh w w' p0 ∧ OffSh w p0 p
def TriesSh (w : World) (p0 : ShPtr) (base : Nat) (r : Option Shp) (e : Ending) (w' : World) : Prop :=
  ∃ p s ok, e = .returned (.tuple #[shVal p s, .bool ok]) ∧ Below base w w' ∧ FrSh w w' p0 ∧ (∀ t, r = some t → ok = true ∧ s = t ∧ ShOwn w' base p t ∧ OffSh w p0 p) ∧ (r = none → ok = false)
def GivesSh (w : World) (base : Nat) (s : Shp) (e : Ending) (w' : World) : Prop := ∃ p, e = .returned (shVal p s) ∧ ShOwn w' base p s ∧ Below base w w'
end Go.Proofs.YtbihgafkmmcjlaaDoor

namespace Go.Proofs.YtbihgafkmmcjlaaDoor
open Go.RowKit
set_option linter.unusedVariables false
set_option maxRecDepth 100000 in
set_option maxHeartbeats 1000000 in
theorem pushShape_any (p : ShPtr) (s : Shp) (k : Int) (base : Nat) (w : World) (h : ShOwn w base p s) (hbase : base ≤ w.heap.size) (hk : In64 k) (h1 : s.kinds.length ≤ 1000) (h2 : s.stack.length ≤ 1000) (hf : s.full.length = s.kinds.length) :
    Calls Tryd.prog 51 #[shVal p s, .int .i64 k] w (TurnsSh w p base (s.push k)) := by
  have hS := ShSt.enter h hbase
  have hk1 := IntsAt.oneN ((w.alloc (.cells (shCells p s) 38)).alloc (.cells zero5 38)) (w.heap.size + 2) k hk (by simp)
  have hl0 : s.full.length ≤ 1000 := by omega
  have HF := hide hf
  have hin : In64 (s.kinds.length : Int) := by constructor <;> omega
  have hwr : IntKind.i64.wrap (((s.kinds ++ [k]).length : Int) - 1) = (s.kinds.length : Int) := by rw [IntKind.wrap_i64]; simp; omega
  clear h hf
  unfold shVal shCells zero5 at *
  go_enter Tryd.func51, Tryd.ntmps51
  go_upto_region 4 with (first
    | (at_builtin; refine append_ints rfl (.tmp 6) (.tmp 8) rfl base p.K p.c1 s.kinds rfl (hS.bx.own.k.alloc _) _ _ 1 [k] rfl (fun e => by cases e) hk1 (by simp <;> omega) (by simp <;> omega) ?_; intro zs A5 c5 w5 hz5 ho5 hg5 ha5; obtain ⟨d0, d1, d2, d3, d4, f0, f1, f2, _⟩ := hS.cells hg5 hS.bx.off.k; have S5 := hide (hS.pushK ho5 hg5 ha5); have z5 := hg5.size; simp at z5; have hzl : (zs.length : Int) - 1 = (s.kinds.length : Int) := (by rw [hz5.out]; simp <;> omega); have hzb : (zs.length : Int) ≤ 1001 := (by rw [hz5.out]; simp <;> omega))
    | (at_builtin; refine append_bools rfl (.tmp 12) (.tmp 13) rfl base p.F p.c2 s.full rfl (S5.out.bx.own.f.alloc _) _ _ 1 [false] rfl (fun e => by cases e) (BoolsAt.oneN _ w5.heap.size false (by simp)) (by simp <;> omega) (by simp <;> omega) ?_; intro ys A6 c6 w6 hz6 ho6 hg6 ha6; obtain ⟨p0, p1, p2, p3, p4, g0, g1, g2, _⟩ := S5.out.cells hg6 S5.out.bx.off.f; have S6 := hide (S5.out.pushF ho6 hg6 ha6); have z6 := hg6.size; simp at z6)
    | (at_builtin; refine append_ints rfl (.tmp 17) (.tmp 22) rfl base p.S p.c3 s.stack rfl (S6.out.bx.own.t.alloc _) _ _ 1 [(s.kinds.length : Int)] rfl (fun e => by cases e) (IntsAt.oneN _ w6.heap.size _ hin (by simp)) (by simp <;> omega) (by simp <;> omega) ?_; intro xs A7 c7 w7 hz7 ho7 hg7 ha7; obtain ⟨q0, q1, q2, q3, q4, k0, k1, k2, _⟩ := S6.out.cells hg7 S6.out.bx.off.t; have S7 := hide (S6.out.pushT ho7 hg7 ha7)))
  have hp : ({ s with kinds := zs, full := ys, stack := xs } : Shp) = s.push k := by
    unfold Shp.push
    rw [hz5.out, hz6.out, hz7.out]
  have hS7 : ShSt w (w7.setCell ⟨w.heap.size, 2, none⟩ (.slice A7 xs.length c7)) p base base w.heap.size (w.heap.size + 1) ⟨A5, c5, A6, c6, A7, c7, p.M, p.c4⟩ (s.push k) := by
    rw [← hp]
    exact S7.out
  generalize w7.setCell ⟨w.heap.size, 2, none⟩ (.slice A7 xs.length c7) = w8 at hS7 ⊢
  clear hp S7 S6 S5 hS HF hk1 ho5 hg5 ha5 ho6 hg6 ha6 ho7 hg7 ha7 hz5 hz6 hz7
  obtain ⟨⟨e0, e1, e2, e3, e4⟩, hs5, hown, hbel, hfr⟩ := hS7.ret
  have hoffs := hS7.offs
  obtain ⟨c0, c1, c2, c3, c4, f0, f1, f2, f3, f4, s0, s1, s2, s3, s4⟩ := hs5
  have HR := hide (And.intro hown (And.intro hbel (And.intro hfr hoffs)))
  clear hS7 hown hbel hfr hoffs
  generalize s.push k = t at *
  dsimp only at *
  go_wp2
  refine bodyPost_ret (v := shVal ⟨A5, c5, A6, c6, A7, c7, p.M, p.c4⟩ t) (by simp [shVal, shCells, results, Tryd.results51, go_sem, s0, s1, s2, s3, s4]) rfl ?_
  exact ⟨_, rfl, HR.out.1, HR.out.2.1, HR.out.2.2⟩
end Go.Proofs.YtbihgafkmmcjlaaDoor

namespace Go.Proofs.YtbihgafkmmcjlaaDoor
open Go.RowKit
set_option linter.unusedVariables false
set_option maxRecDepth 100000 in
set_option maxHeartbeats 1000000 in
theorem shapeAt_any (p : ShPtr) (s : Shp) (d : Nat) (w : World) (h : ShAt w w.heap.size p s) (hs : s.Small) (hd2 : d ≤ 1000) :
    Calls Tryd.prog 65 #[shVal p s, .int .i64 (d : Int)] w fun e w' => e = .returned (.int .i64 (s.kindAt d)) ∧ Below w.heap.size w w' := by
  obtain ⟨K, c1, F, c2, S, c3, M, c4⟩ := p
  have hB : Below w.heap.size w (w.alloc (.cells (shCells ⟨K, c1, F, c2, S, c3, M, c4⟩ s) 38)) := (Below.refl _ _).alloc (Nat.le_refl _) _
  have hr := h.later hB (Nat.le_refl _)
  have hst := hs.t
  have hkl := hs.k
  have l := Lies.new w (shCells ⟨K, c1, F, c2, S, c3, M, c4⟩ s) 38
  have e0 : (w.alloc (.cells (shCells ⟨K, c1, F, c2, S, c3, M, c4⟩ s) 38)).cell? ⟨w.heap.size, 0, none⟩ = some (.slice K s.kinds.length c1) := l.cell 0
  have e2 : (w.alloc (.cells (shCells ⟨K, c1, F, c2, S, c3, M, c4⟩ s) 38)).cell? ⟨w.heap.size, 2, none⟩ = some (.slice S s.stack.length c3) := l.cell 2
  have HO := hide hs.ok
  have hrK := hr.k
  have hrT := hr.t
  clear h hs l hr
  dsimp only at hrK hrT
  unfold shVal shCells at *
  dsimp only at *
  have hw1 : IntKind.i64.wrap ((s.stack.length : Int) - 1) = (s.stack.length : Int) - 1 := by rw [IntKind.wrap_i64]; omega
  go_enter Tryd.func65, Tryd.ntmps65
  go_upto_region 1 with fail
  generalize w.alloc (.cells #[.slice K s.kinds.length c1, .slice F s.full.length c2, .slice S s.stack.length c3, .slice M s.memo.length c4, .bool s.done] 38) = W at hB hrK hrT e0 e2 ⊢
  by_cases hd : d < s.stack.length
  · obtain ⟨k, hk⟩ : ∃ k : Nat, s.stack.length = k + 1 + d := ⟨s.stack.length - 1 - d, by omega⟩
    obtain ⟨b, off, x, rfl, hbl, hx, hm, hc⟩ := hrT.at_ (k := k) (by omega)
    have hth : s.thing d = x := by
      unfold Shp.thing
      rw [if_pos hd, show s.stack.length - 1 - d = k by omega, List.getD_eq_getElem?_getD, hx]
      rfl
    have hxr := HO.out.st x hm
    have hk1 : (0 : Int) ≤ (k : Int) := by omega
    have hk2 : (k : Int) < (s.stack.length : Int) := by omega
    have hidx : (s.stack.length : Int) - 1 - (d : Int) = (k : Int) := by omega
    have tk : decide ((k : Int) < 0) = false := by simp
    have hwm : IntKind.i64.wrap (k : Int) = (k : Int) := by rw [IntKind.wrap_i64]; omega
    by_cases hx0 : x < 0
    · have HF := hide (show s.kindAt d = -1 by unfold Shp.kindAt; rw [hth, if_pos hx0])
      have tx : decide (x < 0) = true := by simpa using hx0
      clear hx hm hth hd hx0 hxr hk
      go_wp2
      go_ret
      exact ⟨ret_int HF.out.symm, hB⟩
    · obtain ⟨y, rfl⟩ := Int.eq_ofNat_of_zero_le (show 0 ≤ x by omega)
      obtain ⟨b2, off2, z, rfl, hbl2, hz, hm2, hc2⟩ := hrK.at_ (k := y) (by omega)
      have HF := hide (show s.kindAt d = z by
        unfold Shp.kindAt
        rw [hth, if_neg hx0, Int.toNat_natCast, List.getD_eq_getElem?_getD, hz]
        rfl)
      have tx : decide ((y : Int) < 0) = false := by simp
      have hy1 : (0 : Int) ≤ (y : Int) := by omega
      have hy2 : (y : Int) < (s.kinds.length : Int) := by omega
      clear hx hm hth hd hx0 hxr hk hz hm2
      go_wp2_with fail
      go_quiet (fail)
      go_wp2
      go_ret
      exact ⟨ret_int HF.out.symm, below_drewN hB _⟩
  · have HF := hide (show s.kindAt d = -1 by unfold Shp.kindAt Shp.thing; rw [if_neg hd]; simp)
    have hd3 : (s.stack.length : Int) ≤ (d : Int) := by omega
    have tk : decide ((s.stack.length : Int) - 1 - (d : Int) < 0) = true := by simp; omega
    clear hd hrK hrT
    go_wp2
    go_ret
    exact ⟨ret_int HF.out.symm, hB⟩
end Go.Proofs.YtbihgafkmmcjlaaDoor

namespace Go.Proofs.YtbihgafkmmcjlaaDoor
open Go.RowKit
set_option linter.unusedVariables false
set_option maxRecDepth 100000 in
set_option maxHeartbeats 1000000 in
theorem newShapes_any (w : World) : Calls Tryd.prog 32 #[] w (GivesSh w w.heap.size Shp.new) := by
  have hB0 : Below w.heap.size w ((w.alloc (.cells zero5 38)).alloc (.cells zero5 38)) := ((Below.refl _ _).alloc (Nat.le_refl _) _).alloc (by simp) _
  have hZ0 := (Lies.new w zero5 38).alloc (.cells zero5 38)
  have hL0 := Lies.new (w.alloc (.cells zero5 38)) zero5 38
  simp only [World.size_alloc] at hL0
  have hsz : ((w.alloc (.cells zero5 38)).alloc (.cells zero5 38)).heap.size = w.heap.size + 2 := by simp
  have hS : ShSt w ((w.alloc (.cells zero5 38)).alloc (.cells zero5 38)) ShPtr.nil w.heap.size (w.heap.size + 2) (w.heap.size + 1) w.heap.size ⟨none, 0, none, 0, none, 0, none, 0⟩ ⟨[], [], [], [], false⟩ := by
    refine ⟨⟨hL0, ⟨OwnI.empty _ _, OwnB.empty _ _, OwnI.empty _ _, OwnI.empty _ _, ?_, ?_, ?_, ?_, ?_, ?_⟩, ⟨?_, ?_, ?_, ?_⟩⟩, hZ0, ⟨?_, ?_, ?_, ?_⟩, hB0, by omega, by rw [hsz]; omega, by omega, by omega, Nat.le_refl _, fun k hk _ => hB0.block k hk, fun k _ _ => ⟨?_, ?_, ?_, ?_⟩, by omega, Nat.le_refl _⟩ <;> simp [blockOf]
  have hm1 : In64 (-1) := by constructor <;> omega
  have HS := hide hS
  clear hS hL0 hZ0 hB0 hsz
  unfold zero5 at *
  go_enter Tryd.func32, Tryd.ntmps32
  go_wp2_with fail
  go_loopw [2] (fun iv wr => ∃ (k : Nat) (A : Option Addr) (c : Nat), k ≤ 20 ∧ iv = .int .i64 (k : Int) ∧ ShSt w wr ShPtr.nil w.heap.size (w.heap.size + 2) (w.heap.size + 1) w.heap.size ⟨none, 0, none, 0, none, 0, A, c⟩ ⟨[], [], [], List.replicate k (-1), false⟩) (fun iv _ => 20 - (intOf iv).toNat)
  case atStart => exact ⟨0, none, 0, Nat.zero_le _, rfl, HS.out⟩
  case round =>
    clear HS
    obtain ⟨k, A, c, hk, rfl, hS⟩ := hrel
    by_cases hlt : k < 20
    · have hd : decide ((k : Int) < 20) = true := by simp; omega
      have hrs := hide (show List.replicate k (-1 : Int) ++ [-1] = List.replicate (k + 1) (-1) by rw [List.replicate_succ'])
      have hll : (List.replicate k (-1 : Int)).length ≤ 20 := by simp; omega
      generalize List.replicate k (-1 : Int) = L at hS hrs hll
      obtain ⟨e0, e1, e2, e3, e4⟩ := hS.bx.cells
      have hwz : w.heap.size + 2 ≤ wr.heap.size := by have := hS.bx.box.lt; omega
      dsimp only at e0 e1 e2 e3 e4
      go_wp2_with (at_builtin; refine append_ints rfl (.tmp 9) (.tmp 10) rfl (w.heap.size + 2) A c L rfl (hS.bx.own.m.alloc _) (wr.heap.size + 1) _ 1 [(-1 : Int)] rfl (fun e => by cases e) (IntsAt.one wr (-1) hm1) (by simp <;> omega) (by simp <;> omega) ?_; intro zs A2 c2 w5 hz hown5 hgrow5 hat5; obtain ⟨d0, d1, d2, d3, d4, f0, f1, f2, f3⟩ := hS.cells hgrow5 hS.bx.off.m; have HS5 := hide (hS.pushM hown5 hgrow5 hat5))
      go_roundw
      case rel =>
        refine ⟨k + 1, A2, c2, by omega, by go_num, ?_⟩
        rw [← hrs.out, ← hz.out]
        exact HS5.out
      case measure => simp [intOf]; omega
    · obtain rfl : k = 20 := by omega
      have hdd : decide ((20 : Int) < 20) = false := rfl
      obtain ⟨⟨e0, e1, e2, e3, e4⟩, hs5, hown, hbel, _⟩ := hS.ret
      obtain ⟨c0, c1, c2, c3, c4, f0, f1, f2, f3, f4, s0, s1, s2, s3, s4⟩ := hs5
      have HR := hide (And.intro hown hbel)
      clear hS hown hbel hlt hk
      dsimp only [List.length_replicate, List.length_nil] at e0 e1 e2 e3 e4 c0 c1 c2 c3 c4 s0 s1 s2 s3 s4
      simp only [List.length_replicate] at e3 s0 s1 s2 s3 s4
      rw [show ((20 : Nat) : Int) = (20 : Int) from rfl]
      go_wp2
      refine bodyPost_ret (v := shVal ⟨none, 0, none, 0, none, 0, A, c⟩ Shp.new) (by simp [shVal, shCells, Shp.new, results, Tryd.results32, go_sem, s0, s1, s2, s3, s4]) rfl ?_
      have h1 := HR.out.1
      have h2 := HR.out.2
      simp only [List.length_replicate, List.length_nil] at h1 h2
      exact ⟨_, rfl, h1.mono (by omega), h2⟩
set_option maxHeartbeats 400000 in
theorem keyKind_any (k : Int) (w : World) :
    Calls Tryd.prog 66 #[.int .i64 k] w fun e w' => e = .returned (.bool (tf (KeyK k))) ∧ w' = w := by
  by_cases h0 : k = 0
  · have HF := hide (show tf (KeyK k) = true from tf_true (.inl h0))
    have t : (k == 0) = true := by simpa using h0
    clear h0
    go_enter Tryd.func66, Tryd.ntmps66
    go_wp2
    go_ret
    exact ⟨ret_bool HF.out.symm, rfl⟩
  · by_cases h1 : k = 1
    · have HF := hide (show tf (KeyK k) = true from tf_true (.inr h1))
      have t : (k == 0) = false := by simpa using h0
      have t1 : (k == 1) = true := by simpa using h1
      clear h0 h1
      go_enter Tryd.func66, Tryd.ntmps66
      go_wp2
      go_ret
      exact ⟨ret_bool HF.out.symm, rfl⟩
    · have HF := hide (show tf (KeyK k) = false from tf_false (fun h => h.elim h0 h1))
      have t : (k == 0) = false := by simpa using h0
      have t1 : (k == 1) = false := by simpa using h1
      clear h0 h1
      go_enter Tryd.func66, Tryd.ntmps66
      go_wp2
      go_ret
      exact ⟨ret_bool HF.out.symm, rfl⟩
set_option maxHeartbeats 400000 in
theorem newKind_any (c : Int) (w : World) (hc : 0 ≤ c ∧ c ≤ 19) :
    Calls Tryd.prog 50 #[.int .i64 c] w fun e w' => e = .returned (.int .i64 (newK c)) ∧ w' = w := by
  have h20 : c = 0 ∨ c = 1 ∨ c = 2 ∨ c = 3 ∨ c = 4 ∨ c = 5 ∨ c = 6 ∨ c = 7 ∨ c = 8 ∨ c = 9 ∨ c = 10 ∨ c = 11 ∨ c = 12 ∨ c = 13 ∨ c = 14 ∨ c = 15 ∨ c = 16 ∨ c = 17 ∨ c = 18 ∨ c = 19 := by omega
  clear hc
  rcases h20 with rfl | rfl | rfl | rfl | rfl | rfl | rfl | rfl | rfl | rfl | rfl | rfl | rfl | rfl | rfl | rfl | rfl | rfl | rfl | rfl
  all_goals
    go_enter Tryd.func50, Tryd.ntmps50
    go_wp2
    go_ret
    exact ⟨ret_int (by decide), rfl⟩
end Go.Proofs.YtbihgafkmmcjlaaDoor
