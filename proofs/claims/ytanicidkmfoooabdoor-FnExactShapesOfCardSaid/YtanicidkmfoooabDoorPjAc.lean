/-
  Lemmas, several texts in one: Ops, ShpW, RunM, Only.
-/
import Derived.Test.YtanicidkmfoooabDoorPjAb
import Derived.Test.YtanicidkmfoooabDoorRows
import Derived.ProofKit
import Derived.OpenShut
import Derived.ShutString
import Derived.ChangeOld
import Derived.Deep.Slices
import Derived.Deep.Fields
import Derived.Lib.SmallJoins
import Derived.Test.YtanicidkmfoooabDoorShpR
import Derived.Deep.RegionHeld
import Derived.Test.YtanicidkmfoooabDoorPjAa
namespace Go.Proofs.YtanicidkmfoooabDoor
open Go.ChangeShapes Go.WideShapes Go.ChangeAt Go.RowKit Go.Deep
set_option linter.unusedVariables false

theorem readOpCellsI : Tryd.prog.cellsOf 3 = 1 := by kernel_rfl
theorem readOpCellsO : Tryd.prog.cellsOf 41 = 2 := by kernel_rfl

theorem list2 {α : Type} (l : List α) (h : l.length = 2) : ∃ a b, l = [a, b] := by
  match l, h with
  | [a, b], _ => exact ⟨a, b, rfl⟩

section
variable {H : Type} {enc : TypeId × Value → H} {w : World} {base : Nat} {spare : Nat → Bool} {held : Bool}

theorem addr_add_o (b off j : Nat) : (⟨b, off, none⟩ : Addr).add j = ⟨b, off + j, none⟩ := by
  unfold Addr.add
  split
  · rename_i h0; subst h0; rfl
  · rfl

/-- a slice of orders that came in -/
theorem read_ops {m : Nat} {v : Value} {y : DataW H × List MemPlace} (h : DataW.trod enc Tryd.prog w base spare held m 22 [v] = some y) :
    ∃ (A : Option Addr) (os : List Od) (c : Nat), v = .slice A os.length c ∧ OpsAt w w.heap.size A os ∧ (A = none → c = 0) := by
  rcases open_slice Tryd.underlying22 h with ⟨hcs, _⟩ | ⟨a, len, cap, m', n', D, Pl, hcs, _, hl, hm, hmm, _, hel⟩
  · simp at hcs
    subst hcs
    exact ⟨none, [], 0, rfl, ⟨fun hx => absurd rfl hx, fun x hx => (by cases hx), by simp⟩, fun _ => rfl⟩
  · simp at hcs
    subst hcs
    have hlen : len ≤ m' := by rw [hmm]; split <;> omega
    have hone : ∀ i, i < len → ∃ (b off : Nat) (o : Od), a.add (i * 2) = ⟨b, off, none⟩ ∧ b < w.heap.size ∧ w.cell? ⟨b, off, none⟩ = some (.int .i64 o.code) ∧ w.cell? ⟨b, off + 1, none⟩ = some (.int .i64 o.arg) ∧ In64 o.code ∧ In64 o.arg := by
      intro i hi
      obtain ⟨cs', hc', ht'⟩ := hel i (by omega)
      rw [readOpCellsO] at hc'
      obtain ⟨ys, n2, _, _, hcl, hyl, hf⟩ := DataW.trod_struct Tryd.underlying41 ht'
      obtain ⟨_, hcl3, hat⟩ := World.cells?_some hc'
      obtain ⟨v0, v1, rfl⟩ := list2 cs' hcl3
      have h0 : DataW.trod enc Tryd.prog w base spare held n2 3 (([v0, v1].drop 0).take (Tryd.prog.cellsOf 3)) = ys[0]? := hf 0 _ rfl
      have h1 : DataW.trod enc Tryd.prog w base spare held n2 3 (([v0, v1].drop 1).take (Tryd.prog.cellsOf 3)) = ys[1]? := hf 1 _ rfl
      rw [readOpCellsI] at h0 h1
      simp only [List.drop_zero, List.drop_succ_cons, List.take_succ_cons, List.take_zero] at h0 h1
      have hy : ∀ k, k < 2 → ∃ z, ys[k]? = some z := fun k hk => ⟨_, List.getElem?_eq_getElem (by rw [hyl]; exact hk)⟩
      obtain ⟨z0, e0⟩ := hy 0 (by omega)
      obtain ⟨z1, e1⟩ := hy 1 (by omega)
      rw [e0] at h0
      rw [e1] at h1
      obtain ⟨kd, hv0, _, hw0⟩ := DataW.trod_int Tryd.underlying3 h0
      obtain ⟨vl, hv1, _, hw1⟩ := DataW.trod_int Tryd.underlying3 h1
      simp at hv0 hv1
      subst hv0
      subst hv1
      have c0 := hat 0 (by omega)
      have c1 := hat 1 (by omega)
      generalize a.add (i * 2) = p at c0 c1 ⊢
      obtain ⟨b, off, sp⟩ := p
      have hsp : sp = none := by simpa [Addr.add] using World.cell?_spot c0
      subst hsp
      rw [addr_add_o] at c0 c1
      simp at c0 c1
      exact ⟨b, off, ⟨kd, vl⟩, rfl, World.block_lt_of_cell? w _ c0, c0, c1, bounds_i64 hw0, bounds_i64 hw1⟩
    rcases Nat.eq_zero_or_pos len with h0 | h0
    · subst h0
      exact ⟨some a, [], cap, rfl, ⟨fun hx => absurd rfl hx, fun x hx => (by cases hx), by simp⟩, fun e => by cases e⟩
    · obtain ⟨b0, off0, _, ha0, hb0, _⟩ := hone 0 h0
      rw [Nat.zero_mul] at ha0
      have ha : a = ⟨b0, off0, none⟩ := by
        have : a.add 0 = a := by simp [Addr.add]
        rw [this] at ha0
        exact ha0
      subst ha
      have hch : ∀ i, ∃ o : Od, i < len → w.cell? ⟨b0, off0 + i * 2, none⟩ = some (.int .i64 o.code) ∧ w.cell? ⟨b0, off0 + i * 2 + 1, none⟩ = some (.int .i64 o.arg) ∧ In64 o.code ∧ In64 o.arg := by
        intro i
        by_cases hi : i < len
        · obtain ⟨b, off, o, he, _, h1, h2, h3, h4⟩ := hone i hi
          rw [addr_add_o] at he
          injection he with he1 he2
          subst he1
          subst he2
          exact ⟨o, fun _ => ⟨h1, h2, h3, h4⟩⟩
        · exact ⟨⟨0, 0⟩, fun h => absurd h hi⟩
      have hget : ∀ (j : Nat) (o : Od), ((List.range len).map fun i => Classical.choose (hch i))[j]? = some o → j < len ∧ o = Classical.choose (hch j) := by
        intro j o hj
        rw [List.getElem?_map] at hj
        have hjl : j < len := by
          rcases Nat.lt_or_ge j len with h | h
          · exact h
          · rw [List.getElem?_eq_none (by simpa using h)] at hj; cases hj
        rw [List.getElem?_range hjl] at hj
        simp at hj
        exact ⟨hjl, hj.symm⟩
      refine ⟨some ⟨b0, off0, none⟩, (List.range len).map fun i => Classical.choose (hch i), cap, by simp, ⟨fun _ => ⟨b0, off0, rfl, hb0, fun j o hj => ?_⟩, fun o ho => ?_, ?_⟩, fun e => by cases e⟩
      · obtain ⟨hjl, rfl⟩ := hget j o hj
        have := Classical.choose_spec (hch j) hjl
        exact ⟨this.1, this.2.1⟩
      · obtain ⟨j, hj, rfl⟩ := List.getElem_of_mem ho
        obtain ⟨hjl, e⟩ := hget j _ (List.getElem?_eq_getElem hj)
        rw [e]
        exact (Classical.choose_spec (hch j) hjl).2.2
      · simp
        unfold maxLen at hm
        omega

end

end Go.Proofs.YtanicidkmfoooabDoor

namespace Go.Proofs.YtanicidkmfoooabDoor
open Go.RowKit
set_option linter.unusedVariables false

/-- an operation that only reads is taken first -/
theorem takeO {P : Program} {ops : Array Oper} {Q : Exit → Act → World → Prop} {md : Region.Mode} {S : World → Prop} (i d : Nat) {op ty pos af gd} {v : Value} {fuel : Nat} {listed : Array Bool} {a : Act} {w : World}
    (hi : ops[i]? = some { dst := some d, op := op, type := ty, pos := pos, after := af, guard := gd }) (hS : S w) (hs : Region.noSelect ops = true := by kernel_rfl) (hf : Region.free md ops listed i = true := by kernel_rfl) (hr : (Region.ready md ops listed).contains i = true := by kernel_rfl)
    (hw : Region.wanted { dst := some d, op := op, type := ty, pos := pos, after := af, guard := gd } (yielded ops a.tmps) = true := by rfl) (hQ : ∀ c a w, Q (.panic c) (a.put (some d) v) w → Q (.panic c) a w := by exact fun _ _ _ h => h)
    (hv : ∀ w, S w → (execOp a.eval { dst := some d, op := op, type := ty, pos := pos, after := af, guard := gd }).run P w = .ok (.value v) w) (h : wpAnyH P md ops Q S fuel (listed.setIfInBounds i true) (a.put (some d) v) w) : wpAnyH P md ops Q S (fuel + 1) listed a w :=
  wpAnyH_take hi hs hf hr hQ (.inl ⟨hw, hv⟩) hS h

/-- an operation whose guard is shut is taken first -/
theorem takeN {P : Program} {ops : Array Oper} {Q : Exit → Act → World → Prop} {md : Region.Mode} {S : World → Prop} (i d : Nat) {op ty pos af gd} {fuel : Nat} {listed : Array Bool} {a : Act} {w : World}
    (hi : ops[i]? = some { dst := some d, op := op, type := ty, pos := pos, after := af, guard := gd }) (hS : S w) (hs : Region.noSelect ops = true := by kernel_rfl) (hf : Region.free md ops listed i = true := by kernel_rfl) (hr : (Region.ready md ops listed).contains i = true := by kernel_rfl)
    (hw : Region.wanted { dst := some d, op := op, type := ty, pos := pos, after := af, guard := gd } (yielded ops a.tmps) = false := by rfl) (hQ : ∀ c a w, Q (.panic c) (a.put (some d) undef) w → Q (.panic c) a w := by exact fun _ _ _ h => h)
    (h : wpAnyH P md ops Q S fuel (listed.setIfInBounds i true) (a.put (some d) undef) w) : wpAnyH P md ops Q S (fuel + 1) listed a w :=
  wpAnyH_take hi hs hf hr hQ (.inr ⟨hw, rfl⟩) hS h

theorem Lies.five {w : World} {q : Nat} {v0 v1 v2 v3 v4 : Value} {t : TypeId} (h : Lies w q #[v0, v1, v2, v3, v4] t) : w.cell? ⟨q, 0, none⟩ = some v0 ∧ w.cell? ⟨q, 1, none⟩ = some v1 ∧ w.cell? ⟨q, 2, none⟩ = some v2 ∧ w.cell? ⟨q, 3, none⟩ = some v3 ∧ w.cell? ⟨q, 4, none⟩ = some v4 :=
  ⟨h.cell 0, h.cell 1, h.cell 2, h.cell 3, h.cell 4⟩
theorem Lies.zero {w : World} {q : Nat} {v0 v1 : Value} {t : TypeId} (h : Lies w q #[v0, v1] t) : w.cell? ⟨q, 0, none⟩ = some v0 := h.cell 0

/-- shapes in a box of which nothing is said but that they lie there -/
structure ShW (w0 w : World) (p0 : ShPtr) (B q q2 : Nat) (p : ShPtr) (s : Shp) : Prop where
  box : Lies w q (shCells p s) 27
  res : Lies w q2 zero5 27
  bel : Below B w0 w
  fr : FrSh w0 w p0
  ne : q ≠ q2
  hq2 : B ≤ q2
  sq2 : w0.heap.size ≤ q2

/-- the box is written anew, with what a call handed back -/
theorem ShSt.refillW {w0 X w5 : World} {base q q2 : Nat} {p p0 p5 : ShPtr} {s t : Shp} (h : ShSt w0 X p0 base base q q2 p s) (hb : Below base X w5) (hf : FrSh X w5 p) :
    Lies w5 q (shCells p s) 27 ∧ ShW w0 (set5 w5 q (.slice p5.K t.kinds.length p5.c1) (.slice p5.F t.full.length p5.c2) (.slice p5.S t.stack.length p5.c3) (.slice p5.M t.memo.length p5.c4) (.bool t.done)) p0 base q q2 p5 t := by
  have h1 : Lies w5 q (shCells p s) 27 := (hf q h.bx.box.lt h.bx.off).trans h.bx.box
  have h2 : Lies w5 q2 zero5 27 := (hf q2 h.res.lt h.off2).trans h.res
  have hs : w0.heap.size ≤ X.heap.size := by have := h.bx.box.lt; have := h.sq; omega
  refine ⟨h1, (Lies.set5 h1 _ _ _ _ _).2, (set5_block h.ne.symm).trans h2, set5_below (h.bel.trans hb) h.hq, fun k hk ho => ?_, h.ne, h.hq2, h.sq2⟩
  rw [set5_block (by have := h.sq; omega), hf k (by omega) (h.offs k hk ho)]
  exact h.fr k hk ho

theorem ShSt.refill {w0 X w5 : World} {base q q2 : Nat} {p p0 p5 : ShPtr} {s t : Shp} (h : ShSt w0 X p0 base base q q2 p s) (hb : Below base X w5) (hf : FrSh X w5 p) (ho : ShOwn w5 base p5 t) (hof : OffSh X p p5) :
    ShSt w0 (set5 w5 q (.slice p5.K t.kinds.length p5.c1) (.slice p5.F t.full.length p5.c2) (.slice p5.S t.stack.length p5.c3) (.slice p5.M t.memo.length p5.c4) (.bool t.done)) p0 base base q q2 p5 t := by
  have hW := (h.refillW (p5 := p5) (t := t) hb hf).2
  have hq : p5.Off q := hof q h.bx.box.lt h.bx.off
  have hs : w0.heap.size ≤ X.heap.size := by have := h.bx.box.lt; have := h.sq; omega
  have hz := hb.size
  have hB := h.hB
  exact ⟨⟨hW.box, ho.set5 hq, hq⟩, hW.res, hof q2 h.res.lt h.off2, hW.bel, h.ne, by rw [set5_size]; omega, h.hb, h.hq, h.hq2, hW.fr, fun k hk hk2 => hof k (by omega) (h.offs k hk hk2), h.sq, h.sq2⟩

theorem ShSt.toW {w0 w : World} {base q q2 : Nat} {p p0 : ShPtr} {s : Shp} (h : ShSt w0 w p0 base base q q2 p s) : ShW w0 w p0 base q q2 p s := ⟨h.bx.box, h.res, h.bel, h.fr, h.ne, h.hq2, h.sq2⟩

end Go.Proofs.YtanicidkmfoooabDoor

namespace Go.Proofs.YtanicidkmfoooabDoor
open Go.RowKit
set_option linter.unusedVariables false

/-- shapes in the box q, and the box q2 for what comes back -/
structure RunS (w wr : World) (q q2 : Nat) (p : ShPtr) (s : Shp) : Prop where
  bel : Below w.heap.size w wr
  box : Lies wr q (shCells p s) 27
  res : Lies wr q2 zero5 27
  own : ShOwn wr w.heap.size p s
  off : p.Off q
  off2 : p.Off q2
  h1 : w.heap.size ≤ q
  h2 : w.heap.size ≤ q2
  ne : q ≠ q2

theorem RunS.below {w wr w' : World} {q q2 : Nat} {p : ShPtr} {s : Shp} (h : RunS w wr q q2 p s) (hb : Below wr.heap.size wr w') : RunS w w' q q2 p s :=
  ⟨h.bel.trans (hb.mono h.bel.size), h.box.below hb h.box.lt, h.res.below hb h.res.lt, h.own.below hb, h.off, h.off2, h.h1, h.h2, h.ne⟩

/-- what runShapes hands back -/
def GivesRun (w : World) (r : Shp × Nat) (e : Ending) (w' : World) : Prop := ∃ p, e = .returned (.tuple #[shVal p r.1, .int .i64 (r.2 : Int)]) ∧ ShOwn w' w.heap.size p r.1 ∧ Below w.heap.size w w'

/-- the box is written anew, with shapes in newer memory -/
theorem RunS.next {w Y : World} {q q2 lo : Nat} {p p' : ShPtr} {s t : Shp} (h : RunS w Y q q2 p s) (ho : ShOwn Y lo p' t) (hq : q < lo) (hq2 : q2 < lo) :
    RunS w (set5 Y q (.slice p'.K t.kinds.length p'.c1) (.slice p'.F t.full.length p'.c2) (.slice p'.S t.stack.length p'.c3) (.slice p'.M t.memo.length p'.c4) (.bool t.done)) q q2 p' t := by
  have o1 : p'.Off q := ho.off (.inl hq)
  have o2 : p'.Off q2 := ho.off (.inl hq2)
  have hw := h.h1
  exact ⟨set5_below h.bel h.h1, (Lies.set5 h.box _ _ _ _ _).2, (set5_block h.ne.symm).trans h.res, (ho.mono (by omega)).set5 o1, o1, o2, h.h1, h.h2, h.ne⟩

/-- another box is written -/
theorem RunS.side {w Y : World} {q q2 nb : Nat} {p : ShPtr} {s : Shp} {v0 v1 v2 v3 v4 : Value} (h : RunS w Y q q2 p s) (ho : p.Off nb) (hw : w.heap.size ≤ nb) (hq : q ≠ nb) (hq2 : q2 ≠ nb) : RunS w (set5 Y nb v0 v1 v2 v3 v4) q q2 p s :=
  ⟨set5_below h.bel hw, (set5_block hq).trans h.box, (set5_block hq2).trans h.res, h.own.set5 ho, h.off, h.off2, h.h1, h.h2, h.ne⟩

/-- the memory behind a step that was tried -/
structure RunN (w Y : World) (q q2 : Nat) (p : ShPtr) (s : Shp) (nb : Nat) (p5 : ShPtr) (s5 : Shp) (ok : Bool) (r : Option Shp) : Prop where
  run : RunS w Y q q2 p s
  box : Lies Y nb (shCells p5 s5) 27
  good : ∀ t, r = some t → ok = true ∧ s5 = t ∧ ∃ lo, ShOwn Y lo p5 t ∧ q < lo ∧ q2 < lo
  bad : r = none → ok = false

/-- the box of what came back is written -/
theorem RunN.mk' {w Y : World} {q q2 nb lo : Nat} {p p5 : ShPtr} {s s5 : Shp} {ok : Bool} {r : Option Shp} (h : RunS w Y q q2 p s) (hz : Lies Y nb #[.slice none 0 0, .slice none 0 0, .slice none 0 0, .slice none 0 0, .bool false] 27)
    (ho : p.Off nb) (hw : w.heap.size ≤ nb) (hq : q ≠ nb) (hq2 : q2 ≠ nb) (hl : q < lo) (hl2 : q2 < lo) (hg : ∀ t, r = some t → ok = true ∧ s5 = t ∧ ShOwn Y lo p5 t ∧ p5.Off nb) (hb : r = none → ok = false) :
    RunN w (set5 Y nb (.slice p5.K s5.kinds.length p5.c1) (.slice p5.F s5.full.length p5.c2) (.slice p5.S s5.stack.length p5.c3) (.slice p5.M s5.memo.length p5.c4) (.bool s5.done)) q q2 p s nb p5 s5 ok r :=
  ⟨h.side ho hw hq hq2, (Lies.set5 hz _ _ _ _ _).2, fun t ht => by
    obtain ⟨h1, h2, h3, h4⟩ := hg t ht
    exact ⟨h1, h2, lo, h3.set5 h4, hl, hl2⟩, hb⟩

/-- what a drawn statement that steps shapes holds: the box, and the order's two cells -/
def HeldR (q b i : Nat) (cs : Array Value) (u v : Value) (w' : World) : Prop := Lies w' q cs 27 ∧ w'.cell? ⟨b, i, none⟩ = some u ∧ w'.cell? ⟨b, i + 1, none⟩ = some v

theorem HeldR.below {q b i B : Nat} {cs : Array Value} {u v : Value} {X w' : World} (h : HeldR q b i cs u v X) (hb : Below B X w') (hq : q < B) (hbB : b < B) : HeldR q b i cs u v w' :=
  ⟨h.1.below hb hq, (hb.cell (p := ⟨b, i, none⟩) hbB).trans h.2.1, (hb.cell (p := ⟨b, i + 1, none⟩) hbB).trans h.2.2⟩
theorem HeldR.set5 {q b i nb : Nat} {cs : Array Value} {u v v0 v1 v2 v3 v4 : Value} {X : World} (h : HeldR q b i cs u v X) (hq : q ≠ nb) (hbB : b ≠ nb) : HeldR q b i cs u v (set5 X nb v0 v1 v2 v3 v4) :=
  ⟨(set5_block hq).trans h.1, (World.cell?_of_block (w := X) (set5_block hbB)).trans h.2.1, (World.cell?_of_block (w := X) (set5_block hbB)).trans h.2.2⟩

end Go.Proofs.YtanicidkmfoooabDoor

namespace Go.Proofs.YtanicidkmfoooabDoor
open Go.RowKit
set_option linter.unusedVariables false

/-- n numbers from k on -/
def marks (k : Int) (n : Nat) : List Int := (List.range n).map fun (i : Nat) => k + (i : Int)

theorem marks_len (k : Int) (n : Nat) : (marks k n).length = n := by simp [marks]
theorem marks_at {k : Int} {n j : Nat} (h : j < n) : (marks k n)[j]? = some (k + (j : Int)) := by
  simp [marks, h]

/-- but for blocks from lo on and below hi nothing has turned -/
structure Only (lo hi : Nat) (w w' : World) : Prop where
  os : w'.os = w.os
  tape : w'.tape = w.tape
  output : w'.output = w.output
  size : w'.heap.size = w.heap.size
  block : ∀ k, k < lo ∨ hi ≤ k → w'.heap[k]? = w.heap[k]?

theorem Only.refl (lo hi : Nat) (w : World) : Only lo hi w w := ⟨rfl, rfl, rfl, rfl, fun _ _ => rfl⟩
theorem Only.trans {lo hi : Nat} {a b c : World} (h : Only lo hi a b) (k : Only lo hi b c) : Only lo hi a c :=
  ⟨k.os.trans h.os, k.tape.trans h.tape, k.output.trans h.output, k.size.trans h.size, fun j hj => (k.block j hj).trans (h.block j hj)⟩
theorem Only.setCell {lo hi : Nat} {a w : World} (h : Only lo hi a w) {p : Addr} (h1 : lo ≤ p.block) (h2 : p.block < hi) (u : Value) : Only lo hi a (w.setCell p u) :=
  h.trans ⟨rfl, rfl, rfl, by simp, fun k hk => Below.heap_setCell _ _ _ _ (by omega)⟩
theorem Only.below {lo hi : Nat} {w w' : World} (h : Only lo hi w w') : Below lo w w' := ⟨h.os, h.tape, h.output, by rw [h.size]; exact Nat.le_refl _, fun k hk => h.block k (.inl hk)⟩
theorem Only.mono {lo hi lo' hi' : Nat} {w w' : World} (h : Only lo hi w w') (h1 : lo' ≤ lo) (h2 : hi ≤ hi') : Only lo' hi' w w' :=
  ⟨h.os, h.tape, h.output, h.size, fun k hk => h.block k (by omega)⟩

/-- an int slice in a row of the call's own keeps its numbers where the row is left alone -/
theorem OwnI.only {w w' : World} {base lo hi : Nat} {A : Option Addr} {c : Nat} {xs : List Int} (h : OwnI w base A c xs) (ho : Only lo hi w w') (hA : ∀ g, blockOf A = some g → g < lo ∨ hi ≤ g) : OwnI w' base A c xs := by
  refine ⟨h.own.1, ?_⟩
  rcases h.own.2 with h2 | ⟨g, cap, cur, hv, hg, hh, r⟩
  · exact .inl h2
  · refine .inr ⟨g, cap, cur, hv, hg, ?_, r⟩
    rw [ho.block g]
    · exact hh
    · apply hA g
      injection hv with hv
      rw [hv]
      rfl

/-- but for blocks from lo on and below hi, old memory is as it was -/
structure Save (lo hi : Nat) (w w' : World) : Prop where
  os : w'.os = w.os
  tape : w'.tape = w.tape
  output : w'.output = w.output
  size : w.heap.size ≤ w'.heap.size
  block : ∀ k, k < w.heap.size → k < lo ∨ hi ≤ k → w'.heap[k]? = w.heap[k]?

theorem Save.of_below {lo hi : Nat} {w w' : World} (h : Below w.heap.size w w') : Save lo hi w w' := ⟨h.os, h.tape, h.output, h.size, fun k hk _ => h.block k hk⟩
theorem Save.of_only {lo hi : Nat} {w w' : World} (h : Only lo hi w w') : Save lo hi w w' := ⟨h.os, h.tape, h.output, by rw [h.size]; exact Nat.le_refl _, fun k _ hk => h.block k hk⟩
theorem Save.trans {lo hi : Nat} {a b c : World} (h : Save lo hi a b) (k : Save lo hi b c) : Save lo hi a c :=
  ⟨k.os.trans h.os, k.tape.trans h.tape, k.output.trans h.output, Nat.le_trans h.size k.size, fun j hj hl => (k.block j (Nat.lt_of_lt_of_le hj h.size) hl).trans (h.block j hj hl)⟩
theorem Save.below {lo hi : Nat} {w w' : World} (h : Save lo hi w w') (hl : lo ≤ w.heap.size) : Below lo w w' := ⟨h.os, h.tape, h.output, h.size, fun k hk => h.block k (by omega) (.inl hk)⟩

theorem OwnI.save {w w' : World} {base lo hi : Nat} {A : Option Addr} {c : Nat} {xs : List Int} (h : OwnI w base A c xs) (ho : Save lo hi w w') (hA : ∀ g, blockOf A = some g → g < lo ∨ hi ≤ g) : OwnI w' base A c xs := by
  refine ⟨h.own.1, ?_⟩
  have hbl := h.blocks
  rcases h.own.2 with h2 | ⟨g, cap, cur, hv, hg, hh, r⟩
  · exact .inl h2
  · have hAg : blockOf A = some g := by
      injection hv with hv
      rw [hv]
      rfl
    refine .inr ⟨g, cap, cur, hv, hg, ?_, r⟩
    rw [ho.block g (hbl g hAg).2 (hA g hAg)]
    exact hh

end Go.Proofs.YtanicidkmfoooabDoor
