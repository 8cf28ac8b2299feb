/-
  Lemmas, several texts in one: NewR, Gen, InfoO, Sub, RunM, ShpM.
-/
import Derived.Test.YtfigekdejocakabDoorPjAc
import Derived.Test.YtfigekdejocakabDoorSomeNode
import Derived.Test.YtfigekdejocakabDoorPjAe
import Derived.Test.YtfigekdejocakabDoorPjAa
import Derived.Test.YtfigekdejocakabDoorPjAd
import Derived.Test.YtfigekdejocakabDoorPjAb
import Derived.Test.YtfigekdejocakabDoorShpMa
import Derived.Test.YtfigekdejocakabDoorShpMb
import Derived.Test.YtfigekdejocakabDoorShpMc
import Derived.Test.YtfigekdejocakabDoorShpMd
namespace Go.Proofs.YtfigekdejocakabDoor
open Go.RowKit
set_option linter.unusedVariables false

theorem BytesAt.less {w : World} {B : Nat} {A : Option Addr} {n m : Nat} (h : BytesAt w B A n) (hm : m ≤ n) : BytesAt w B A m := fun k hk => h k (by omega)
theorem BytesAt.more {w : World} {B B' : Nat} {A : Option Addr} {n : Nat} (h : BytesAt w B A n) (hB : B ≤ B') : BytesAt w B' A n := fun k hk => by
  obtain ⟨b, off, x, h1, h2, h3⟩ := h k hk
  exact ⟨b, off, x, h1, by omega, h3⟩

set_option maxHeartbeats 1000000 in
theorem newReader_any (A : Option Addr) (n c : Nat) (w : World) (h : BytesAt w w.heap.size A n) (hc : n ≤ c) (hn : n ≤ 9223372036854775807) :
    Calls Tryd.prog 8 #[.slice A n c] w fun e w' => e = .returned (.pointer (some ⟨w.heap.size, 0, none⟩)) ∧ (∃ n' c', Rd w' w.heap.size A n' c' 0) ∧ Below w.heap.size w w' := by
  by_cases h2 : n ≤ 2000
  · have d : decide ((2000 : Int) < (n : Int)) = false := by simp; omega
    have hB : Below w.heap.size w (w.alloc (.cells #[.slice A n c, .int .i64 0] 44)) := (Below.refl _ _).alloc (Nat.le_refl _) _
    have HR : Hid (Rd (w.alloc (.cells #[.slice A n c, .int .i64 0] 44)) w.heap.size A n c 0) := hide ⟨Lies.new w _ _, h.later hB, h2⟩
    clear h
    go_enter Tryd.func8, Tryd.ntmps8
    go_wp2
    go_ret
    exact ⟨rfl, ⟨n, c, HR.out⟩, hB⟩
  · have d : decide ((2000 : Int) < (n : Int)) = true := by simp; omega
    obtain ⟨b, off, _, rfl, _⟩ := h 0 (by omega)
    have hcap : ¬ ((c : Int) < 2000) := by omega
    have hB : Below w.heap.size w (w.alloc (.cells #[.slice (some ⟨b, off, none⟩) 2000 c, .int .i64 0] 44)) := (Below.refl _ _).alloc (Nat.le_refl _) _
    have HR : Hid (Rd (w.alloc (.cells #[.slice (some ⟨b, off, none⟩) 2000 c, .int .i64 0] 44)) w.heap.size (some ⟨b, off, none⟩) 2000 c 0) := hide ⟨Lies.new w _ _, (h.less (by omega)).later hB, Nat.le_refl _⟩
    clear h
    go_enter Tryd.func8, Tryd.ntmps8
    go_wp2
    go_ret
    exact ⟨rfl, ⟨2000, c, HR.out⟩, hB⟩

end Go.Proofs.YtfigekdejocakabDoor

namespace Go.Proofs.YtfigekdejocakabDoor
open Go.RowKit
set_option linter.unusedVariables false

/-- the three cells of the node j in the row of the block g -/
structure NdX (w : World) (g rb j : Nat) (n : Nd) : Prop where
  kind : w.cell? ⟨g, j * 3, none⟩ = some (.int .i64 n.kind)
  value : w.cell? ⟨g, j * 3 + 1, none⟩ = some (.int .i64 n.value)
  kids : ∃ A c, w.cell? ⟨g, j * 3 + 2, none⟩ = some (.slice A n.kids.length c) ∧ OwnI w 0 A c n.kids ∧ (∀ x ∈ n.kids, In64 x) ∧ n.kids.length ≤ 1000 ∧ blockOf A ≠ some g ∧ blockOf A ≠ some rb
  wfk : In64 n.kind
  wfv : In64 n.value

structure GenG (w : World) (g rb cap : Nat) (ns : List Nd) : Prop where
  row : ∃ f, w.rowIs g 68 (cap * 3) f
  le : ns.length ≤ cap
  few : ns.length ≤ 1000
  nd : ∀ j n, ns[j]? = some n → NdX w g rb j n
  ne : g ≠ rb
  dis : ∀ (i j : Nat) (A A' : Option Addr) (n n' c c' : Nat), i ≠ j → i < ns.length → j < ns.length → w.cell? ⟨g, i * 3 + 2, none⟩ = some (.slice A n c) → w.cell? ⟨g, j * 3 + 2, none⟩ = some (.slice A' n' c') → ∀ b, blockOf A = some b → blockOf A' ≠ some b

theorem OwnI.same' {w w' : World} {base : Nat} {A : Option Addr} {c : Nat} {xs : List Int} (h : OwnI w base A c xs) (hA : ∀ g, blockOf A = some g → w'.heap[g]? = w.heap[g]?) : OwnI w' base A c xs := by
  refine ⟨h.own.1, ?_⟩
  rcases h.own.2 with h2 | ⟨g, cap, cur, hv, hg, hh, r⟩
  · exact .inl h2
  · have hAg : blockOf A = some g := by
      injection hv with hv
      rw [hv]; rfl
    exact .inr ⟨g, cap, cur, hv, hg, (hA g hAg).trans hh, r⟩

/-- old memory is as it was, but for two blocks -/
structure Grew2 (g1 g2 : Nat) (w w' : World) : Prop where
  os : w'.os = w.os
  tape : w'.tape = w.tape
  output : w'.output = w.output
  size : w.heap.size ≤ w'.heap.size
  block : ∀ k, k < w.heap.size → k ≠ g1 → k ≠ g2 → w'.heap[k]? = w.heap[k]?

theorem Grew2.of_grew {g1 g2 : Nat} {w w' : World} (h : Grew g1 w w') : Grew2 g1 g2 w w' := ⟨h.os, h.tape, h.output, h.size, fun k hk h1 _ => h.block k hk h1⟩
theorem Grew2.trans {g1 g2 : Nat} {a b c : World} (h : Grew2 g1 g2 a b) (k : Grew2 g1 g2 b c) : Grew2 g1 g2 a c :=
  ⟨k.os.trans h.os, k.tape.trans h.tape, k.output.trans h.output, Nat.le_trans h.size k.size, fun j hj h1 h2 => (k.block j (Nat.lt_of_lt_of_le hj h.size) h1 h2).trans (h.block j hj h1 h2)⟩
theorem Grew2.below {g1 g2 B : Nat} {w0 w w' : World} (h : Grew2 g1 g2 w w') (hb : Below B w0 w) (h1 : B ≤ g1) (h2 : B ≤ g2) (hB : B ≤ w.heap.size) : Below B w0 w' :=
  hb.trans ⟨h.os, h.tape, h.output, h.size, fun k hk => h.block k (by omega) (by omega) (by omega)⟩

/-- int slices in a block that is left alone -/
theorem IntsAt.kept {w w' : World} {A : Option Addr} {xs : List Int} (h : IntsAt w w.heap.size A xs) (hs : w.heap.size ≤ w'.heap.size) (hb : ∀ k, blockOf A = some k → k < w.heap.size → w'.heap[k]? = w.heap[k]?) : IntsAt w' w'.heap.size A xs :=
  ⟨fun hx => by
    obtain ⟨b, off, e, hlt, hc⟩ := h.row hx
    subst e
    exact ⟨b, off, rfl, Nat.lt_of_lt_of_le hlt hs, fun j x hj => (World.cell?_of_block (w := w) (hb b rfl hlt)).trans (hc j x hj)⟩, h.wf, h.len⟩

theorem NdX.kept {w w' : World} {g rb j : Nat} {n : Nd} (h : NdX w g rb j n) (hc : ∀ o, o < 3 → w'.cell? ⟨g, j * 3 + o, none⟩ = w.cell? ⟨g, j * 3 + o, none⟩) (hb : ∀ k, k < w.heap.size → k ≠ rb → k ≠ g → w'.heap[k]? = w.heap[k]?) : NdX w' g rb j n := by
  obtain ⟨A, c, h1, h2, h3, h6, h4, h5⟩ := h.kids
  exact ⟨(hc 0 (by omega)).trans h.kind, (hc 1 (by omega)).trans h.value, ⟨A, c, (hc 2 (by omega)).trans h1, h2.same' (fun k hk => hb k (h2.blocks k hk).2 (fun e => h5 (by rw [hk, e])) (fun e => h4 (by rw [hk, e]))), h3, h6, h4, h5⟩, h.wfk, h.wfv⟩

theorem GenG.lt {w : World} {g rb cap : Nat} {ns : List Nd} (h : GenG w g rb cap ns) : g < w.heap.size := by
  obtain ⟨f, hf⟩ := h.row
  exact hf.lt

theorem GenG.grew {w w' : World} {g rb cap : Nat} {ns : List Nd} (h : GenG w g rb cap ns) (hg : Grew rb w w') : GenG w' g rb cap ns := by
  have hb := hg.block g h.lt h.ne
  obtain ⟨f, hf⟩ := h.row
  exact ⟨⟨f, hf.of_block hb⟩, h.le, h.few, fun j n hj => (h.nd j n hj).kept (fun o _ => World.cell?_of_block (w := w) hb) (fun k hk h1 _ => hg.block k hk h1), h.ne, fun i j A A' n n' c c' hij hi hj h1 h2 => h.dis i j A A' n n' c c' hij hi hj ((World.cell?_of_block (w := w) hb).symm.trans h1) ((World.cell?_of_block (w := w) hb).symm.trans h2)⟩

theorem GenG.nds {w : World} {g rb cap : Nat} {ns : List Nd} (h : GenG w g rb cap ns) : NdsAt w w.heap.size (some ⟨g, 0, none⟩) ns :=
  ⟨fun _ => ⟨g, 0, rfl, h.lt, fun j n hj => by
    have hn := h.nd j n hj
    obtain ⟨A, c, h1, h2, h3, h6, _, _⟩ := hn.kids
    rw [Nat.zero_add]
    exact ⟨hn.kind, hn.value, ⟨A, c, h1, h2.ints h3 (by omega), h2.nil⟩, hn.wfk, hn.wfv⟩⟩, by have := h.few; omega⟩

/-- the world behind a store to the node j -/
def put3 (w : World) (g j : Nat) (v0 v1 v2 : Value) : World := ((w.setCell ⟨g, j * 3, none⟩ v0).setCell ⟨g, j * 3 + 1, none⟩ v1).setCell ⟨g, j * 3 + 2, none⟩ v2

theorem put3_block {w : World} {g j k : Nat} {v0 v1 v2 : Value} (hk : k ≠ g) : (put3 w g j v0 v1 v2).heap[k]? = w.heap[k]? := by
  unfold put3
  rw [Below.heap_setCell _ _ _ _ (by show k ≠ g; exact hk), Below.heap_setCell _ _ _ _ (by show k ≠ g; exact hk), Below.heap_setCell _ _ _ _ (by show k ≠ g; exact hk)]
theorem put3_size {w : World} {g j : Nat} {v0 v1 v2 : Value} : (put3 w g j v0 v1 v2).heap.size = w.heap.size := by unfold put3; simp
theorem put3_far {w : World} {g j q : Nat} {v0 v1 v2 : Value} (hq : q < j * 3 ∨ j * 3 + 2 < q) : (put3 w g j v0 v1 v2).cell? ⟨g, q, none⟩ = w.cell? ⟨g, q, none⟩ := by
  unfold put3
  rw [World.cell?_setCell_other, World.cell?_setCell_other, World.cell?_setCell_other] <;> (intro e; injection e with _ e; omega)
theorem put3_row {w : World} {g j n : Nat} {t : TypeId} {f : Nat → Value} (h : w.rowIs g t n f) (v0 v1 v2 : Value) : ∃ f', (put3 w g j v0 v1 v2).rowIs g t n f' := ⟨_, ((h.set _ _).set _ _).set _ _⟩
theorem put3_at {w : World} {g j n : Nat} {t : TypeId} {f : Nat → Value} (h : w.rowIs g t n f) (hn : j * 3 + 2 < n) (v0 v1 v2 : Value) : (put3 w g j v0 v1 v2).cell? ⟨g, j * 3, none⟩ = some v0 ∧ (put3 w g j v0 v1 v2).cell? ⟨g, j * 3 + 1, none⟩ = some v1 ∧ (put3 w g j v0 v1 v2).cell? ⟨g, j * 3 + 2, none⟩ = some v2 := by
  have hr := ((h.set (j * 3) v0).set (j * 3 + 1) v1).set (j * 3 + 2) v2
  unfold put3
  refine ⟨?_, ?_, ?_⟩
  · have := hr.cell (i := j * 3) (by omega)
    simpa using this
  · have := hr.cell (i := j * 3 + 1) (by omega)
    simpa using this
  · have := hr.cell (i := j * 3 + 2) (by omega)
    simpa using this
theorem put3_grew {w : World} {g rb j : Nat} {v0 v1 v2 : Value} : Grew2 rb g w (put3 w g j v0 v1 v2) := ⟨rfl, rfl, rfl, by rw [put3_size]; exact Nat.le_refl _, fun k _ _ hk => put3_block hk⟩

theorem GenG.setFar {w : World} {g rb cap b o : Nat} {ns : List Nd} {v : Value} (h : GenG w g rb cap ns) (hb : b ≠ g) (hk : ∀ j, j < ns.length → ∀ (A : Option Addr) (n c : Nat), w.cell? ⟨g, j * 3 + 2, none⟩ = some (.slice A n c) → blockOf A ≠ some b) : GenG (w.setCell ⟨b, o, none⟩ v) g rb cap ns := by
  have hbl : ∀ k, k ≠ b → (w.setCell ⟨b, o, none⟩ v).heap[k]? = w.heap[k]? := fun k hk => Below.heap_setCell _ _ _ _ hk
  have hg := hbl g (fun e => hb e.symm)
  obtain ⟨f, hf⟩ := h.row
  refine ⟨⟨f, hf.of_block hg⟩, h.le, h.few, fun j n hj => ?_, h.ne, fun i j A A' n n' c c' hij hi hj h1 h2 => h.dis i j A A' n n' c c' hij hi hj ((World.cell?_of_block (w := w) hg).symm.trans h1) ((World.cell?_of_block (w := w) hg).symm.trans h2)⟩
  have hn := h.nd j n hj
  obtain ⟨A, c, h1, h2, h3, h6, h4, h5⟩ := hn.kids
  have hc := fun q => World.cell?_of_block (w := w) (w' := w.setCell ⟨b, o, none⟩ v) (a := ⟨g, q, none⟩) hg
  exact ⟨(hc _).trans hn.kind, (hc _).trans hn.value, ⟨A, c, (hc _).trans h1, h2.same' (fun k hk2 => hbl k (fun e => hk j (List.getElem?_eq_some_iff.1 hj).1 A _ c h1 (by rw [hk2, e]))), h3, h6, h4, h5⟩, hn.wfk, hn.wfv⟩

theorem Rd.kept {w w' : World} {rb : Nat} {A : Option Addr} {n c p : Nat} (h : Rd w rb A n c p) (hr : Below (rb + 1) w w') : Rd w' rb A n c p :=
  ⟨h.box.below hr (by omega), h.bytes.later (hr.mono (by omega)), h.few⟩
theorem Rd.put {w : World} {rb g j : Nat} {A : Option Addr} {n c p : Nat} (h : Rd w rb A n c p) (hg : rb < g) (v0 v1 v2 : Value) : Rd (put3 w g j v0 v1 v2) rb A n c p :=
  h.kept ⟨rfl, rfl, rfl, by rw [put3_size]; exact Nat.le_refl _, fun k hk => put3_block (by omega)⟩

end Go.Proofs.YtfigekdejocakabDoor

namespace Go.Proofs.YtfigekdejocakabDoor

theorem infoOp : (Tryd.prog.info? 40).map (fun i => (i.zero, i.size, i.bytes)) = some (some (.agg #[.int .i64 0, .int .i64 0]), 2, 16) := by kernel_rfl

end Go.Proofs.YtfigekdejocakabDoor

namespace Go.Proofs.YtfigekdejocakabDoor
open Go.RowKit

theorem IntsAt.upto {w : World} {B : Nat} {A : Option Addr} {xs : List Int} (h : IntsAt w B A xs) (n : Nat) : IntsAt w B A (xs.take n) := by
  refine ⟨fun hx => ?_, fun x hx => h.wf x (List.mem_of_mem_take hx), Nat.le_trans (by simp; omega) h.len⟩
  obtain ⟨b, off, e, hlt, hc⟩ := h.row (by intro e; subst e; simp at hx)
  refine ⟨b, off, e, hlt, fun j x hj => hc j x ?_⟩
  rw [List.getElem?_take] at hj
  split at hj
  · exact hj
  · cases hj

theorem IntsAt.behind {w : World} {B b off : Nat} {xs : List Int} (h : IntsAt w B (some ⟨b, off, none⟩) xs) (k : Nat) : IntsAt w B (some ⟨b, off + k, none⟩) (xs.drop k) := by
  refine ⟨fun hx => ?_, fun x hx => h.wf x (List.mem_of_mem_drop hx), Nat.le_trans (by simp) h.len⟩
  obtain ⟨b', off', e, hlt, hc⟩ := h.row (by intro e; subst e; simp at hx)
  injection e with e
  injection e with e1 e2
  subst e1 e2
  refine ⟨b, off + k, rfl, hlt, fun j x hj => ?_⟩
  rw [List.getElem?_drop] at hj
  have := hc (k + j) x hj
  rwa [← Nat.add_assoc] at this

theorem IntsAt.empt {w : World} {B : Nat} (A : Option Addr) : IntsAt w B A [] := ⟨fun h => absurd rfl h, fun _ h => (by cases h), by simp⟩

end Go.Proofs.YtfigekdejocakabDoor

namespace Go.Proofs.YtfigekdejocakabDoor
open Go.RowKit
set_option linter.unusedVariables false

/-- shapes in the box q, and the box q2 for what comes back -/
structure RunS (w wr : World) (q q2 : Nat) (p : ShPtr) (s : Shp) : Prop where
  bel : Below w.heap.size w wr
  box : Lies wr q (shCells p s) 55
  res : Lies wr q2 zero5 55
  own : ShOwn wr w.heap.size p s
  off : p.Off q
  off2 : p.Off q2
  h1 : w.heap.size ≤ q
  h2 : w.heap.size ≤ q2
  ne : q ≠ q2

theorem RunS.below {w wr w' : World} {q q2 : Nat} {p : ShPtr} {s : Shp} (h : RunS w wr q q2 p s) (hb : Below wr.heap.size wr w') : RunS w w' q q2 p s :=
  ⟨h.bel.trans (hb.mono h.bel.size), h.box.below hb h.box.lt, h.res.below hb h.res.lt, h.own.below hb, h.off, h.off2, h.h1, h.h2, h.ne⟩

/-- what runShapes hands back -/
def GivesRun (w : World) (r : Shp × Nat) (e : Ending) (w' : World) : Prop := ∃ p, e = .returned (.tuple #[shVal p r.1, .int .i64 (r.2 : Int)]) ∧ ShOwn w' w.heap.size p r.1 ∧ Below w.heap.size w w'

/-- the box is written anew, with shapes in newer memory -/
theorem RunS.next {w Y : World} {q q2 lo : Nat} {p p' : ShPtr} {s t : Shp} (h : RunS w Y q q2 p s) (ho : ShOwn Y lo p' t) (hq : q < lo) (hq2 : q2 < lo) :
    RunS w (set5 Y q (.slice p'.K t.kinds.length p'.c1) (.slice p'.F t.full.length p'.c2) (.slice p'.S t.stack.length p'.c3) (.slice p'.M t.memo.length p'.c4) (.bool t.done)) q q2 p' t := by
  have o1 : p'.Off q := ho.off (.inl hq)
  have o2 : p'.Off q2 := ho.off (.inl hq2)
  have hw := h.h1
  exact ⟨set5_below h.bel h.h1, (Lies.set5 h.box _ _ _ _ _).2, (set5_block h.ne.symm).trans h.res, (ho.mono (by omega)).set5 o1, o1, o2, h.h1, h.h2, h.ne⟩

/-- another box is written -/
theorem RunS.side {w Y : World} {q q2 nb : Nat} {p : ShPtr} {s : Shp} {v0 v1 v2 v3 v4 : Value} (h : RunS w Y q q2 p s) (ho : p.Off nb) (hw : w.heap.size ≤ nb) (hq : q ≠ nb) (hq2 : q2 ≠ nb) : RunS w (set5 Y nb v0 v1 v2 v3 v4) q q2 p s :=
  ⟨set5_below h.bel hw, (set5_block hq).trans h.box, (set5_block hq2).trans h.res, h.own.set5 ho, h.off, h.off2, h.h1, h.h2, h.ne⟩

/-- the memory behind a step that was tried -/
structure RunN (w Y : World) (q q2 : Nat) (p : ShPtr) (s : Shp) (nb : Nat) (p5 : ShPtr) (s5 : Shp) (ok : Bool) (r : Option Shp) : Prop where
  run : RunS w Y q q2 p s
  box : Lies Y nb (shCells p5 s5) 55
  good : ∀ t, r = some t → ok = true ∧ s5 = t ∧ ∃ lo, ShOwn Y lo p5 t ∧ q < lo ∧ q2 < lo
  bad : r = none → ok = false

/-- the box of what came back is written -/
theorem RunN.mk' {w Y : World} {q q2 nb lo : Nat} {p p5 : ShPtr} {s s5 : Shp} {ok : Bool} {r : Option Shp} (h : RunS w Y q q2 p s) (hz : Lies Y nb #[.slice none 0 0, .slice none 0 0, .slice none 0 0, .slice none 0 0, .bool false] 55)
    (ho : p.Off nb) (hw : w.heap.size ≤ nb) (hq : q ≠ nb) (hq2 : q2 ≠ nb) (hl : q < lo) (hl2 : q2 < lo) (hg : ∀ t, r = some t → ok = true ∧ s5 = t ∧ ShOwn Y lo p5 t ∧ p5.Off nb) (hb : r = none → ok = false) :
    RunN w (set5 Y nb (.slice p5.K s5.kinds.length p5.c1) (.slice p5.F s5.full.length p5.c2) (.slice p5.S s5.stack.length p5.c3) (.slice p5.M s5.memo.length p5.c4) (.bool s5.done)) q q2 p s nb p5 s5 ok r :=
  ⟨h.side ho hw hq hq2, (Lies.set5 hz _ _ _ _ _).2, fun t ht => by
    obtain ⟨h1, h2, h3, h4⟩ := hg t ht
    exact ⟨h1, h2, lo, h3.set5 h4, hl, hl2⟩, hb⟩

/-- what a drawn statement that steps shapes holds: the box, and the order's two cells -/
def HeldR (q b i : Nat) (cs : Array Value) (u v : Value) (w' : World) : Prop := Lies w' q cs 55 ∧ w'.cell? ⟨b, i, none⟩ = some u ∧ w'.cell? ⟨b, i + 1, none⟩ = some v

theorem HeldR.below {q b i B : Nat} {cs : Array Value} {u v : Value} {X w' : World} (h : HeldR q b i cs u v X) (hb : Below B X w') (hq : q < B) (hbB : b < B) : HeldR q b i cs u v w' :=
  ⟨h.1.below hb hq, (hb.cell (p := ⟨b, i, none⟩) hbB).trans h.2.1, (hb.cell (p := ⟨b, i + 1, none⟩) hbB).trans h.2.2⟩
theorem HeldR.set5 {q b i nb : Nat} {cs : Array Value} {u v v0 v1 v2 v3 v4 : Value} {X : World} (h : HeldR q b i cs u v X) (hq : q ≠ nb) (hbB : b ≠ nb) : HeldR q b i cs u v (set5 X nb v0 v1 v2 v3 v4) :=
  ⟨(set5_block hq).trans h.1, (World.cell?_of_block (w := X) (set5_block hbB)).trans h.2.1, (World.cell?_of_block (w := X) (set5_block hbB)).trans h.2.2⟩

end Go.Proofs.YtfigekdejocakabDoor

namespace Go.Proofs.YtfigekdejocakabDoor
open Go.RowKit

theorem markShapes_any (p : ShPtr) (s : Shp) (c : Int) (base : Nat) (w : World) (h : ShOwn w base p s) (hbase : base ≤ w.heap.size) (hs : s.Small) (hc : IsMarkOp c) :
    Calls Tryd.prog 38 #[shVal p s, .int .i64 c] w (TriesSh w p base (markStep s c)) := by
  rcases hc with rfl | rfl | rfl | rfl
  · exact markShapes_3 p s base w h hbase hs
  · exact markShapes_9 p s base w h hbase hs
  · exact markShapes_12 p s base w h hbase hs
  · exact markShapes_18 p s base w h hbase hs

end Go.Proofs.YtfigekdejocakabDoor
