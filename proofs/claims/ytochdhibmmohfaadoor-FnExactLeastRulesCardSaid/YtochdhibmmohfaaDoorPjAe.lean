/-
  Lemmas, several texts in one: Needs, WatM, ClM, RunM, ShpM, Only, OwnR, SzI, EqI.
-/
import Derived.Test.YtochdhibmmohfaaDoorChkM
import Derived.Test.YtochdhibmmohfaaDoorPjAa
import Derived.LaidMore
import Derived.Test.YtochdhibmmohfaaDoorPjAd
import Derived.Test.YtochdhibmmohfaaDoorSb
import Derived.Test.YtochdhibmmohfaaDoorPjAb
import Derived.Test.YtochdhibmmohfaaDoorPjAc
import Derived.Test.YtochdhibmmohfaaDoorShpMa
import Derived.Test.YtochdhibmmohfaaDoorShpMb
import Derived.Test.YtochdhibmmohfaaDoorShpMc
import Derived.Test.YtochdhibmmohfaaDoorShpMd
namespace Go.Proofs.YtochdhibmmohfaaDoor
open Go.RowKit Go.ChangeShapes

/-- the cells of the table -/
structure NeedsAt (w : World) (B : Nat) : Prop where
  lt : 1 < B
  n0 : ∀ c : Nat, c < 20 → w.cell? ⟨1, c * 3, none⟩ = some (.int .i64 (need0 (c : Int) : Int))
  n1 : ∀ c : Nat, c < 20 → w.cell? ⟨1, c * 3 + 1, none⟩ = some (.int .i64 (need1 (c : Int) : Int))
  n2 : ∀ c : Nat, c < 20 → w.cell? ⟨1, c * 3 + 2, none⟩ = some (.int .i64 (need2 (c : Int) : Int))

theorem NeedsAt.below {w w' : World} {B : Nat} (h : NeedsAt w B) (hb : Below B w w') : NeedsAt w' B :=
  ⟨h.lt, fun c hc => (hb.cell (p := ⟨1, c * 3, none⟩) h.lt).trans (h.n0 c hc), fun c hc => (hb.cell (p := ⟨1, c * 3 + 1, none⟩) h.lt).trans (h.n1 c hc), fun c hc => (hb.cell (p := ⟨1, c * 3 + 2, none⟩) h.lt).trans (h.n2 c hc)⟩

theorem NeedsAt.more {w : World} {B B' : Nat} (h : NeedsAt w B) (hB : B ≤ B') : NeedsAt w B' := ⟨Nat.lt_of_lt_of_le h.lt hB, h.n0, h.n1, h.n2⟩

theorem NeedsAt.later {w w' : World} {B : Nat} (h : NeedsAt w B) (hb : Below B w w') (hB : B ≤ w.heap.size) : NeedsAt w' w'.heap.size :=
  (h.below hb).more (Nat.le_trans hB hb.size)

end Go.Proofs.YtochdhibmmohfaaDoor

namespace Go.Proofs.YtochdhibmmohfaaDoor
open Go.RowKit
set_option linter.unusedVariables false

theorem runShp_snoc {s t : Shp} {l : List Od} {o : Od} (h : (runShp s l).2 = l.length) (hs : stepShp (runShp s l).1 o = some t) : runShp s (l ++ [o]) = (t, l.length + 1) := by
  induction l generalizing s with
  | nil =>
    rw [runShp_end] at hs
    rw [List.nil_append, runShp_go hs, runShp_end]
    rfl
  | cons x l ih =>
    cases hx : stepShp s x with
    | none =>
      rw [runShp_stop hx] at h
      simp at h
    | some u =>
      rw [runShp_go hx] at h hs
      simp at h hs
      rw [List.cons_append, runShp_go hx, ih h hs]
      rfl

/-- the stack after as many orders -/
noncomputable def stk (os : List Od) (j : Nat) : List Int := (runShp Shp.new (os.take j)).1.stack

theorem run_take {os : List Od} {k : Nat} {s t : Shp} {o : Od} (h : runShp Shp.new (os.take k) = (s, k)) (hk : k < os.length) (ho : os[k]? = some o) (hs : stepShp s o = some t) : runShp Shp.new (os.take (k + 1)) = (t, k + 1) := by
  have hl : (os.take k).length = k := by simp; omega
  have e : os.take (k + 1) = os.take k ++ [o] := by
    rw [List.take_add_one, ho]; rfl
  rw [e]
  have := runShp_snoc (s := Shp.new) (t := t) (l := os.take k) (o := o) (by rw [h, hl]) (by rw [h]; exact hs)
  rw [this, hl]

/-- how far a run has come -/
structure Came (os : List Od) (R : Shp × Nat) (k : Nat) (s : Shp) : Prop where
  le : k ≤ os.length
  ok : s.Ok
  kl : s.kinds.length ≤ k
  tl : s.stack.length ≤ k
  tk : runShp Shp.new (os.take k) = (s, k)
  r : R = ((runShp s (os.drop k)).1, k + (runShp s (os.drop k)).2)

theorem Came.start (os : List Od) : Came os (runShp Shp.new os) 0 Shp.new :=
  ⟨Nat.zero_le _, Shp.new_ok, Nat.zero_le _, Nat.zero_le _, rfl, by simp⟩

theorem Came.small {os : List Od} {R : Shp × Nat} {k : Nat} {s : Shp} (h : Came os R k s) (hl : os.length ≤ 300) : s.Small := ⟨by have := h.kl; have := h.le; omega, by have := h.tl; have := h.le; omega, h.ok⟩

theorem Came.stop {os : List Od} {R : Shp × Nat} {k : Nat} {s : Shp} {o : Od} (h : Came os R k s) (ho : os[k]? = some o) (hs : stepFree s o = none) : R = (s, k) := by
  rw [h.r, drop_at ho, runShp_stop (stepShp_none hs)]
  rfl

theorem Came.all {os : List Od} {R : Shp × Nat} {s : Shp} (h : Came os R os.length s) : R = (s, os.length) := by
  rw [h.r, List.drop_length, runShp_end]
  rfl

theorem Came.next {os : List Od} {R : Shp × Nat} {k : Nat} {s t : Shp} {o : Od} (h : Came os R k s) (hl : os.length ≤ 300) (ho : os[k]? = some o) (hok : OdOk o) (hs : stepFree s o = some t) : Came os R (k + 1) t ∧ t.stack = stk os (k + 1) := by
  have hk := (List.getElem?_eq_some_iff.1 ho).1
  obtain ⟨h1, h2, h3, _⟩ := stepFree_ok h.ok hs hok.get
  have hkl := h.kl
  have htl := h.tl
  have hst : stepShp s o = some t := stepShp_of hs ⟨by omega, by omega⟩
  have htk := run_take h.tk hk ho hst
  refine ⟨⟨hk, h1, by omega, by omega, htk, ?_⟩, by unfold stk; rw [htk]⟩
  rw [h.r, drop_at ho, runShp_go hst]
  simp only [Prod.mk.injEq, true_and]
  omega

/-- what one watches a run with: a function, what it has captured, and what is known of memory, and of the blocks that are its own, after as many orders -/
structure Watcher (f : Nat) (caps : Array Value) (os : List Od) (J : Nat → (Nat → Prop) → World → Prop) : Prop where
  kept : ∀ k D W W', J k D W → (∀ b, D b → W'.heap[b]? = W.heap[b]?) → W.heap.size ≤ W'.heap.size → J k D W'
  lt : ∀ k D W, J k D W → ∀ b, D b → b < W.heap.size

/-- what a call of the function has done -/
def Watched (W : World) (k : Nat) (D : Nat → Prop) (J : Nat → (Nat → Prop) → World → Prop) (e : Ending) (W' : World) : Prop := e = .returned (.tuple #[]) ∧ ∃ D', J k D' W' ∧ (∀ b, b < W.heap.size → D' b → D b) ∧ WFr W W' D

/-- the memory while a run is watched -/
structure WatS (w wr : World) (D0 : Nat → Prop) (q q2 : Nat) (p : ShPtr) (s : Shp) (k : Nat) (D : Nat → Prop) (J : Nat → (Nat → Prop) → World → Prop) : Prop where
  sb : SbAt wr w.heap.size q 0 p s
  res : Lies wr q2 zero5 39
  off2 : p.Off q2
  ne : q ≠ q2
  h1 : w.heap.size ≤ q
  h2 : w.heap.size ≤ q2
  j : J k D wr
  dq : ∀ b, D b → b ≠ q ∧ b ≠ q2 ∧ p.Off b
  d0 : ∀ b, b < w.heap.size → D b → D0 b
  fr : WFr w wr D0

section
variable {w wr w' : World} {D0 D : Nat → Prop} {q q2 k f : Nat} {p p' : ShPtr} {s t : Shp} {J : Nat → (Nat → Prop) → World → Prop} {caps : Array Value} {os : List Od}

theorem WatS.below (h : WatS w wr D0 q q2 p s k D J) (hw : Watcher f caps os J) (hb : Below wr.heap.size wr w') : WatS w w' D0 q q2 p s k D J :=
  ⟨h.sb.below hb, h.res.below hb h.res.lt, h.off2, h.ne, h.h1, h.h2, hw.kept _ _ _ _ h.j (fun b hd => hb.block b (hw.lt _ _ _ h.j b hd)) hb.size, h.dq, h.d0,
    ⟨hb.os.trans h.fr.os, hb.tape.trans h.fr.tape, hb.output.trans h.fr.output, Nat.le_trans h.fr.size hb.size, fun b hb1 hb2 => (hb.block b (Nat.lt_of_lt_of_le hb1 h.fr.size)).trans (h.fr.blk b hb1 hb2)⟩⟩

/-- a step is done -/
theorem WatS.step (h : WatS w wr D0 q q2 p s k D J) (hw : Watcher f caps os J) (hs : SbAt w' w.heap.size q 0 p' t) (hf : SbFr wr w' q 0 p p') : WatS w w' D0 q q2 p' t k D J := by
  have hd : ∀ b, D b → w'.heap[b]? = wr.heap[b]? := fun b hb => hf.blk b (hw.lt _ _ _ h.j b hb) (h.dq b hb).1 (h.dq b hb).2.2
  refine ⟨hs, (hf.blk q2 h.res.lt h.ne.symm h.off2).trans h.res, hf.offs q2 h.res.lt h.off2, h.ne, h.h1, h.h2, hw.kept _ _ _ _ h.j hd hf.size, fun b hb => ⟨(h.dq b hb).1, (h.dq b hb).2.1, hf.offs b (hw.lt _ _ _ h.j b hb) (h.dq b hb).2.2⟩, h.d0, ?_⟩
  have hb := hf.below h.sb (Nat.le_refl _) h.h1
  exact ⟨hb.os.trans h.fr.os, hb.tape.trans h.fr.tape, hb.output.trans h.fr.output, Nat.le_trans h.fr.size hb.size, fun b hb1 hb2 => (hb.block b hb1).trans (h.fr.blk b hb1 hb2)⟩

/-- the function was called -/
theorem WatS.watched (h : WatS w wr D0 q q2 p s k D J) (hw : Watcher f caps os J) {k' : Nat} {D' : Nat → Prop} (hJ : J k' D' w') (hd : ∀ b, b < wr.heap.size → D' b → D b) (hf : WFr wr w' D) : WatS w w' D0 q q2 p s k' D' J := by
  have hk : ∀ b, b < wr.heap.size → ¬ D b → w'.heap[b]? = wr.heap[b]? := hf.blk
  have hnq : ¬ D q := fun hd => (h.dq q hd).1 rfl
  have hnq2 : ¬ D q2 := fun hd => (h.dq q2 hd).2.1 rfl
  have hown : ShOwn w' w.heap.size p s := ⟨h.sb.own.k.ofB fun g hg => hk g (h.sb.own.k.blocks g hg).2 (fun hd => (h.dq g hd).2.2.k hg), h.sb.own.f.ofB fun g hg => hk g (h.sb.own.f.blocks g hg).2 (fun hd => (h.dq g hd).2.2.f hg),
    h.sb.own.t.ofB fun g hg => hk g (h.sb.own.t.blocks g hg).2 (fun hd => (h.dq g hd).2.2.t hg), h.sb.own.m.ofB fun g hg => hk g (h.sb.own.m.blocks g hg).2 (fun hd => (h.dq g hd).2.2.m hg), h.sb.own.kf, h.sb.own.kt, h.sb.own.km, h.sb.own.ft, h.sb.own.fm, h.sb.own.tm⟩
  refine ⟨⟨h.sb.c.ofB (hk q h.sb.lt hnq), hown, h.sb.off_, Nat.lt_of_lt_of_le h.sb.lt hf.size⟩, (hk q2 h.res.lt hnq2).trans h.res, h.off2, h.ne, h.h1, h.h2, hJ, fun b hb => ?_, fun b hb1 hb2 => h.d0 b hb1 (hd b (Nat.lt_of_lt_of_le hb1 h.fr.size) hb2), ?_⟩
  · by_cases hl : b < wr.heap.size
    · exact h.dq b (hd b hl hb)
    · have h1 := h.sb.lt
      have h2 := h.res.lt
      exact ⟨by omega, by omega, h.sb.own.off (.inr (by omega))⟩
  · exact ⟨hf.os.trans h.fr.os, hf.tape.trans h.fr.tape, hf.output.trans h.fr.output, Nat.le_trans h.fr.size hf.size, fun b hb1 hb2 => (hk b (Nat.lt_of_lt_of_le hb1 h.fr.size) (fun hd => hb2 (h.d0 b hb1 hd))).trans (h.fr.blk b hb1 hb2)⟩
end

/-- what a watched run hands back -/
def GivesWat (w : World) (D0 : Nat → Prop) (J : Nat → (Nat → Prop) → World → Prop) (r : Shp × Nat) (e : Ending) (w' : World) : Prop :=
  ∃ p D, e = .returned (.tuple #[shVal p r.1, .int .i64 (r.2 : Int)]) ∧ ShOwn w' w.heap.size p r.1 ∧ J r.2 D w' ∧ (∀ b, D b → p.Off b) ∧ (∀ b, b < w.heap.size → D b → D0 b) ∧ WFr w w' D0

end Go.Proofs.YtochdhibmmohfaaDoor

namespace Go.Proofs.YtochdhibmmohfaaDoor
set_option linter.unusedVariables false

open Classical in
/-- the classes below k of a program's objects -/
noncomputable def clsTo (os : List Od) (k : Nat) : List Int := ((List.range k).filter fun (c : Nat) => decide ((⟨13, (c : Int)⟩ : Od) ∈ os)).map fun (c : Nat) => (c : Int)

theorem clsTo_zero (os : List Od) : clsTo os 0 = [] := rfl
theorem clsTo_yes {os : List Od} {k : Nat} (h : (⟨13, (k : Int)⟩ : Od) ∈ os) : clsTo os (k + 1) = clsTo os k ++ [(k : Int)] := by
  unfold clsTo
  rw [List.range_succ, List.filter_append, List.map_append]
  simp [h]
theorem clsTo_no {os : List Od} {k : Nat} (h : (⟨13, (k : Int)⟩ : Od) ∉ os) : clsTo os (k + 1) = clsTo os k := by
  unfold clsTo
  rw [List.range_succ, List.filter_append, List.map_append]
  simp [h]
theorem clsTo_len (os : List Od) (k : Nat) : (clsTo os k).length ≤ k := by
  unfold clsTo
  rw [List.length_map]
  exact Nat.le_trans (List.length_filter_le _ _) (by simp)
theorem clsTo_in {os : List Od} {k : Nat} : ∀ x ∈ clsTo os k, 0 ≤ x ∧ x < (k : Int) := by
  intro x hx
  unfold clsTo at hx
  obtain ⟨c, hc, rfl⟩ := List.mem_map.1 hx
  have := List.mem_range.1 (List.mem_filter.1 hc).1
  omega

open Classical in
/-- the classes of a program's objects -/
noncomputable def classesIn (os : List Od) : List Int := if OpsOk os then clsTo os 10 else []

theorem classesIn_few {os : List Od} : (classesIn os).length ≤ 300 := by
  unfold classesIn
  split
  · exact Nat.le_trans (clsTo_len _ _) (by omega)
  · simp
theorem classesIn_64 {os : List Od} : ∀ x ∈ classesIn os, In64 x := by
  unfold classesIn
  split
  · intro x hx
    have := clsTo_in x hx
    constructor <;> omega
  · intro x hx; simp at hx

end Go.Proofs.YtochdhibmmohfaaDoor

namespace Go.Proofs.YtochdhibmmohfaaDoor
open Go.RowKit
set_option linter.unusedVariables false

/-- shapes in the box q, and the box q2 for what comes back -/
structure RunS (w wr : World) (q q2 : Nat) (p : ShPtr) (s : Shp) : Prop where
  bel : Below w.heap.size w wr
  box : Lies wr q (shCells p s) 39
  res : Lies wr q2 zero5 39
  own : ShOwn wr w.heap.size p s
  off : p.Off q
  off2 : p.Off q2
  h1 : w.heap.size ≤ q
  h2 : w.heap.size ≤ q2
  ne : q ≠ q2

theorem RunS.below {w wr w' : World} {q q2 : Nat} {p : ShPtr} {s : Shp} (h : RunS w wr q q2 p s) (hb : Below wr.heap.size wr w') : RunS w w' q q2 p s :=
  ⟨h.bel.trans (hb.mono h.bel.size), h.box.below hb h.box.lt, h.res.below hb h.res.lt, h.own.below hb, h.off, h.off2, h.h1, h.h2, h.ne⟩

/-- what runShapes hands back -/
def GivesRun (w : World) (r : Shp × Nat) (e : Ending) (w' : World) : Prop := ∃ p, e = .returned (.tuple #[shVal p r.1, .int .i64 (r.2 : Int)]) ∧ ShOwn w' w.heap.size p r.1 ∧ Below w.heap.size w w'

/-- the box is written anew, with shapes in newer memory -/
theorem RunS.next {w Y : World} {q q2 lo : Nat} {p p' : ShPtr} {s t : Shp} (h : RunS w Y q q2 p s) (ho : ShOwn Y lo p' t) (hq : q < lo) (hq2 : q2 < lo) :
    RunS w (set5 Y q (.slice p'.K t.kinds.length p'.c1) (.slice p'.F t.full.length p'.c2) (.slice p'.S t.stack.length p'.c3) (.slice p'.M t.memo.length p'.c4) (.bool t.done)) q q2 p' t := by
  have o1 : p'.Off q := ho.off (.inl hq)
  have o2 : p'.Off q2 := ho.off (.inl hq2)
  have hw := h.h1
  exact ⟨set5_below h.bel h.h1, (Lies.set5 h.box _ _ _ _ _).2, (set5_block h.ne.symm).trans h.res, (ho.mono (by omega)).set5 o1, o1, o2, h.h1, h.h2, h.ne⟩

/-- another box is written -/
theorem RunS.side {w Y : World} {q q2 nb : Nat} {p : ShPtr} {s : Shp} {v0 v1 v2 v3 v4 : Value} (h : RunS w Y q q2 p s) (ho : p.Off nb) (hw : w.heap.size ≤ nb) (hq : q ≠ nb) (hq2 : q2 ≠ nb) : RunS w (set5 Y nb v0 v1 v2 v3 v4) q q2 p s :=
  ⟨set5_below h.bel hw, (set5_block hq).trans h.box, (set5_block hq2).trans h.res, h.own.set5 ho, h.off, h.off2, h.h1, h.h2, h.ne⟩

/-- the memory behind a step that was tried -/
structure RunN (w Y : World) (q q2 : Nat) (p : ShPtr) (s : Shp) (nb : Nat) (p5 : ShPtr) (s5 : Shp) (ok : Bool) (r : Option Shp) : Prop where
  run : RunS w Y q q2 p s
  box : Lies Y nb (shCells p5 s5) 39
  good : ∀ t, r = some t → ok = true ∧ s5 = t ∧ ∃ lo, ShOwn Y lo p5 t ∧ q < lo ∧ q2 < lo
  bad : r = none → ok = false

/-- the box of what came back is written -/
theorem RunN.mk' {w Y : World} {q q2 nb lo : Nat} {p p5 : ShPtr} {s s5 : Shp} {ok : Bool} {r : Option Shp} (h : RunS w Y q q2 p s) (hz : Lies Y nb #[.slice none 0 0, .slice none 0 0, .slice none 0 0, .slice none 0 0, .bool false] 39)
    (ho : p.Off nb) (hw : w.heap.size ≤ nb) (hq : q ≠ nb) (hq2 : q2 ≠ nb) (hl : q < lo) (hl2 : q2 < lo) (hg : ∀ t, r = some t → ok = true ∧ s5 = t ∧ ShOwn Y lo p5 t ∧ p5.Off nb) (hb : r = none → ok = false) :
    RunN w (set5 Y nb (.slice p5.K s5.kinds.length p5.c1) (.slice p5.F s5.full.length p5.c2) (.slice p5.S s5.stack.length p5.c3) (.slice p5.M s5.memo.length p5.c4) (.bool s5.done)) q q2 p s nb p5 s5 ok r :=
  ⟨h.side ho hw hq hq2, (Lies.set5 hz _ _ _ _ _).2, fun t ht => by
    obtain ⟨h1, h2, h3, h4⟩ := hg t ht
    exact ⟨h1, h2, lo, h3.set5 h4, hl, hl2⟩, hb⟩

/-- what a drawn statement that steps shapes holds: the box, and the order's two cells -/
def HeldR (q b i : Nat) (cs : Array Value) (u v : Value) (w' : World) : Prop := Lies w' q cs 39 ∧ w'.cell? ⟨b, i, none⟩ = some u ∧ w'.cell? ⟨b, i + 1, none⟩ = some v

theorem HeldR.below {q b i B : Nat} {cs : Array Value} {u v : Value} {X w' : World} (h : HeldR q b i cs u v X) (hb : Below B X w') (hq : q < B) (hbB : b < B) : HeldR q b i cs u v w' :=
  ⟨h.1.below hb hq, (hb.cell (p := ⟨b, i, none⟩) hbB).trans h.2.1, (hb.cell (p := ⟨b, i + 1, none⟩) hbB).trans h.2.2⟩
theorem HeldR.set5 {q b i nb : Nat} {cs : Array Value} {u v v0 v1 v2 v3 v4 : Value} {X : World} (h : HeldR q b i cs u v X) (hq : q ≠ nb) (hbB : b ≠ nb) : HeldR q b i cs u v (set5 X nb v0 v1 v2 v3 v4) :=
  ⟨(set5_block hq).trans h.1, (World.cell?_of_block (w := X) (set5_block hbB)).trans h.2.1, (World.cell?_of_block (w := X) (set5_block hbB)).trans h.2.2⟩

end Go.Proofs.YtochdhibmmohfaaDoor

namespace Go.Proofs.YtochdhibmmohfaaDoor
open Go.RowKit

theorem markShapes_any (p : ShPtr) (s : Shp) (c : Int) (base : Nat) (w : World) (h : ShOwn w base p s) (hbase : base ≤ w.heap.size) (hs : s.Small) (hc : IsMarkOp c) :
    Calls Tryd.prog 38 #[shVal p s, .int .i64 c] w (TriesSh w p base (markStep s c)) := by
  rcases hc with rfl | rfl | rfl | rfl
  · exact markShapes_3 p s base w h hbase hs
  · exact markShapes_9 p s base w h hbase hs
  · exact markShapes_12 p s base w h hbase hs
  · exact markShapes_18 p s base w h hbase hs

end Go.Proofs.YtochdhibmmohfaaDoor

namespace Go.Proofs.YtochdhibmmohfaaDoor
open Go.RowKit
set_option linter.unusedVariables false

/-- n numbers from k on -/
def marks (k : Int) (n : Nat) : List Int := (List.range n).map fun (i : Nat) => k + (i : Int)

theorem marks_len (k : Int) (n : Nat) : (marks k n).length = n := by simp [marks]
theorem marks_at {k : Int} {n j : Nat} (h : j < n) : (marks k n)[j]? = some (k + (j : Int)) := by
  simp [marks, h]

/-- but for blocks from lo on and below hi nothing has turned -/
structure Only (lo hi : Nat) (w w' : World) : Prop where
  os : w'.os = w.os
  tape : w'.tape = w.tape
  output : w'.output = w.output
  size : w'.heap.size = w.heap.size
  block : ∀ k, k < lo ∨ hi ≤ k → w'.heap[k]? = w.heap[k]?

theorem Only.refl (lo hi : Nat) (w : World) : Only lo hi w w := ⟨rfl, rfl, rfl, rfl, fun _ _ => rfl⟩
theorem Only.trans {lo hi : Nat} {a b c : World} (h : Only lo hi a b) (k : Only lo hi b c) : Only lo hi a c :=
  ⟨k.os.trans h.os, k.tape.trans h.tape, k.output.trans h.output, k.size.trans h.size, fun j hj => (k.block j hj).trans (h.block j hj)⟩
theorem Only.setCell {lo hi : Nat} {a w : World} (h : Only lo hi a w) {p : Addr} (h1 : lo ≤ p.block) (h2 : p.block < hi) (u : Value) : Only lo hi a (w.setCell p u) :=
  h.trans ⟨rfl, rfl, rfl, by simp, fun k hk => Below.heap_setCell _ _ _ _ (by omega)⟩
theorem Only.below {lo hi : Nat} {w w' : World} (h : Only lo hi w w') : Below lo w w' := ⟨h.os, h.tape, h.output, by rw [h.size]; exact Nat.le_refl _, fun k hk => h.block k (.inl hk)⟩
theorem Only.mono {lo hi lo' hi' : Nat} {w w' : World} (h : Only lo hi w w') (h1 : lo' ≤ lo) (h2 : hi ≤ hi') : Only lo' hi' w w' :=
  ⟨h.os, h.tape, h.output, h.size, fun k hk => h.block k (by omega)⟩

/-- an int slice in a row of the call's own keeps its numbers where the row is left alone -/
theorem OwnI.only {w w' : World} {base lo hi : Nat} {A : Option Addr} {c : Nat} {xs : List Int} (h : OwnI w base A c xs) (ho : Only lo hi w w') (hA : ∀ g, blockOf A = some g → g < lo ∨ hi ≤ g) : OwnI w' base A c xs := by
  refine ⟨h.own.1, ?_⟩
  rcases h.own.2 with h2 | ⟨g, cap, cur, hv, hg, hh, r⟩
  · exact .inl h2
  · refine .inr ⟨g, cap, cur, hv, hg, ?_, r⟩
    rw [ho.block g]
    · exact hh
    · apply hA g
      injection hv with hv
      rw [hv]
      rfl

/-- but for blocks from lo on and below hi, old memory is as it was -/
structure Save (lo hi : Nat) (w w' : World) : Prop where
  os : w'.os = w.os
  tape : w'.tape = w.tape
  output : w'.output = w.output
  size : w.heap.size ≤ w'.heap.size
  block : ∀ k, k < w.heap.size → k < lo ∨ hi ≤ k → w'.heap[k]? = w.heap[k]?

theorem Save.of_below {lo hi : Nat} {w w' : World} (h : Below w.heap.size w w') : Save lo hi w w' := ⟨h.os, h.tape, h.output, h.size, fun k hk _ => h.block k hk⟩
theorem Save.of_only {lo hi : Nat} {w w' : World} (h : Only lo hi w w') : Save lo hi w w' := ⟨h.os, h.tape, h.output, by rw [h.size]; exact Nat.le_refl _, fun k _ hk => h.block k hk⟩
theorem Save.trans {lo hi : Nat} {a b c : World} (h : Save lo hi a b) (k : Save lo hi b c) : Save lo hi a c :=
  ⟨k.os.trans h.os, k.tape.trans h.tape, k.output.trans h.output, Nat.le_trans h.size k.size, fun j hj hl => (k.block j (Nat.lt_of_lt_of_le hj h.size) hl).trans (h.block j hj hl)⟩
theorem Save.below {lo hi : Nat} {w w' : World} (h : Save lo hi w w') (hl : lo ≤ w.heap.size) : Below lo w w' := ⟨h.os, h.tape, h.output, h.size, fun k hk => h.block k (by omega) (.inl hk)⟩

theorem OwnI.save {w w' : World} {base lo hi : Nat} {A : Option Addr} {c : Nat} {xs : List Int} (h : OwnI w base A c xs) (ho : Save lo hi w w') (hA : ∀ g, blockOf A = some g → g < lo ∨ hi ≤ g) : OwnI w' base A c xs := by
  refine ⟨h.own.1, ?_⟩
  have hbl := h.blocks
  rcases h.own.2 with h2 | ⟨g, cap, cur, hv, hg, hh, r⟩
  · exact .inl h2
  · have hAg : blockOf A = some g := by
      injection hv with hv
      rw [hv]
      rfl
    refine .inr ⟨g, cap, cur, hv, hg, ?_, r⟩
    rw [ho.block g (hbl g hAg).2 (hA g hAg)]
    exact hh

end Go.Proofs.YtochdhibmmohfaaDoor

namespace Go.Proofs.YtochdhibmmohfaaDoor
open Go.RowKit
set_option linter.unusedVariables false


/-- a row behind an owned int slice -/
theorem OwnI.row {w : World} {base g : Nat} {c : Nat} {xs : List Int} (h : OwnI w base (some ⟨g, 0, none⟩) c xs) :
    ∃ (cap : Nat) (f : Nat → Value), w.rowIs g 3 cap f ∧ xs.length ≤ cap ∧ cap ≤ maxLen ∧ c = cap ∧ base ≤ g := by
  rcases h.own.2 with ⟨h1, _⟩ | ⟨g', cap, cur, hv, hg, hh, hn, hm, hs, _⟩
  · injection h1 with h1
    cases h1
  · injection hv with hv _ hc
    obtain rfl : g = g' := by simpa using hv
    refine ⟨cap, fun i => (cur[i]?).getD undef, ⟨cur, hh, by simpa using hs, fun i hi => ?_⟩, hn, hm, hc, hg⟩
    have : i < cur.size := by rw [hs]; omega
    show _ = some ((cur[i]?).getD undef)
    rw [Array.getElem?_eq_getElem this]; rfl

theorem OwnI.of_row {w : World} {base g cap : Nat} {f : Nat → Value} {xs : List Int} (h : w.rowIs g 3 cap f) (hl : xs.length ≤ cap) (hm : cap ≤ maxLen) (hb : base ≤ g) (hf : ∀ i x, xs[i]? = some x → f i = .int .i64 x) :
    OwnI w base (some ⟨g, 0, none⟩) cap xs := by
  obtain ⟨cur, hh, hs, hc⟩ := h
  refine ⟨⟨by simp, .inr ⟨g, cap, cur, rfl, hb, hh, hl, hm, by simpa using hs, ?_⟩⟩⟩
  apply List.ext_getElem?
  intro i
  rw [List.getElem?_take, List.getElem?_map]
  by_cases hi : i < xs.length
  · rw [if_pos (by omega), Array.getElem?_toList, hc i (by omega), List.getElem?_eq_getElem hi]
    simp [hf i _ (List.getElem?_eq_getElem hi)]
  · rw [if_neg (by omega), List.getElem?_eq_none (by omega)]
    rfl

end Go.Proofs.YtochdhibmmohfaaDoor

namespace Go.Proofs.YtochdhibmmohfaaDoor

/-- what szIntS counts -/
def szI (n : Nat) (left : Int) : Int := if left - n < 0 then -1 else left - n

theorem szI_le (n : Nat) (left : Int) (h1 : left ≤ 1048576) (h0 : 0 ≤ left) : szI n left ≤ left ∧ -1 ≤ szI n left := by
  unfold szI; split <;> omega

end Go.Proofs.YtochdhibmmohfaaDoor

namespace Go.Proofs.YtochdhibmmohfaaDoor

theorem eq_of_prefix {α : Type} [DecidableEq α] {xs ys : List α} (h : xs.length = ys.length) {k : Nat} (hk : k = xs.length) (he : ∀ j, j < k → xs[j]? = ys[j]?) : xs = ys := by
  apply List.ext_getElem?
  intro j
  by_cases hj : j < k
  · exact he j hj
  · rw [List.getElem?_eq_none (by omega), List.getElem?_eq_none (by omega)]

end Go.Proofs.YtochdhibmmohfaaDoor
