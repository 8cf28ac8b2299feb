/-
  Lemmas, several texts in one: Gen, RunM, EqV, Rep, ImplO, WatB, TkI, ReadB.
-/
import Derived.Test.YthckkpbjpgfdcabDoorSomeNode
import Derived.Test.YthckkpbjpgfdcabDoorPjAc
import Derived.Test.YthckkpbjpgfdcabDoorPjAh
import Derived.Test.YthckkpbjpgfdcabDoorPjAb
import Derived.Test.YthckkpbjpgfdcabDoorPjAg
import Derived.ChangeKeysEq
import Derived.Test.YthckkpbjpgfdcabDoorPjAj
import Derived.Laws.CopyOwn
import Derived.Laws.OwnMore
import Derived.Deep.RegionLaw
import Derived.Deep.LoopGhost
import Derived.Deep.Cut
import Derived.Deep.QuietTactic
import Derived.BigQuiet
import Derived.Test.YthckkpbjpgfdcabDoorPjAe
import Derived.Test.YthckkpbjpgfdcabDoorPjAa
import Derived.Test.YthckkpbjpgfdcabDoorPjAd
import Derived.Test.YthckkpbjpgfdcabDoorRows
import Derived.ProofKit
import Derived.OpenShut
import Derived.ShutString
import Derived.ChangeOld
import Derived.Deep.Slices
import Derived.Deep.Fields
import Derived.Lib.SmallJoins
namespace Go.Proofs.YthckkpbjpgfdcabDoor
open Go.RowKit
set_option linter.unusedVariables false
structure NdX (w : World) (g rb j : Nat) (n : Nd) : Prop where
  kind : w.cell? ⟨g, j * 3, none⟩ = some (.int .i64 n.kind)
  value : w.cell? ⟨g, j * 3 + 1, none⟩ = some (.int .i64 n.value)
  kids : ∃ A c, w.cell? ⟨g, j * 3 + 2, none⟩ = some (.slice A n.kids.length c) ∧ OwnI w 0 A c n.kids ∧ (∀ x ∈ n.kids, In64 x) ∧ n.kids.length ≤ 1000 ∧ blockOf A ≠ some g ∧ blockOf A ≠ some rb
  wfk : In64 n.kind
  wfv : In64 n.value
structure GenG (w : World) (g rb cap : Nat) (ns : List Nd) : Prop where
  row : ∃ f, w.rowIs g 71 (cap * 3) f
  le : ns.length ≤ cap
  few : ns.length ≤ 1000
  nd : ∀ j n, ns[j]? = some n → NdX w g rb j n
  ne : g ≠ rb
  dis : ∀ (i j : Nat) (A A' : Option Addr) (n n' c c' : Nat), i ≠ j → i < ns.length → j < ns.length → w.cell? ⟨g, i * 3 + 2, none⟩ = some (.slice A n c) → w.cell? ⟨g, j * 3 + 2, none⟩ = some (.slice A' n' c') → ∀ b, blockOf A = some b → blockOf A' ≠ some b
theorem OwnI.same' {w w' : World} {base : Nat} {A : Option Addr} {c : Nat} {xs : List Int} (h : OwnI w base A c xs) (hA : ∀ g, blockOf A = some g → w'.heap[g]? = w.heap[g]?) : OwnI w' base A c xs := by
  refine ⟨h.own.1, ?_⟩
  rcases h.own.2 with h2 | ⟨g, cap, cur, hv, hg, hh, r⟩
  · exact .inl h2
  · have hAg : blockOf A = some g := by
      injection hv with hv
      rw [hv]; rfl
    exact .inr ⟨g, cap, cur, hv, hg, (hA g hAg).trans hh, r⟩
structure Grew2 (g1 g2 : Nat) (w w' : World) : Prop where
  os : w'.os = w.os
  tape : w'.tape = w.tape
  output : w'.output = w.output
  size : w.heap.size ≤ w'.heap.size
  block : ∀ k, k < w.heap.size → k ≠ g1 → k ≠ g2 → w'.heap[k]? = w.heap[k]?
theorem Grew2.trans {g1 g2 : Nat} {a b c : World} (h : Grew2 g1 g2 a b) (k : Grew2 g1 g2 b c) : Grew2 g1 g2 a c :=
  ⟨k.os.trans h.os, k.tape.trans h.tape, k.output.trans h.output, Nat.le_trans h.size k.size, fun j hj h1 h2 => (k.block j (Nat.lt_of_lt_of_le hj h.size) h1 h2).trans (h.block j hj h1 h2)⟩
theorem Grew2.below {g1 g2 B : Nat} {w0 w w' : World} (h : Grew2 g1 g2 w w') (hb : Below B w0 w) (h1 : B ≤ g1) (h2 : B ≤ g2) (hB : B ≤ w.heap.size) : Below B w0 w' :=
  hb.trans ⟨h.os, h.tape, h.output, h.size, fun k hk => h.block k (by omega) (by omega) (by omega)⟩
theorem IntsAt.kept {w w' : World} {A : Option Addr} {xs : List Int} (h : IntsAt w w.heap.size A xs) (hs : w.heap.size ≤ w'.heap.size) (hb : ∀ k, blockOf A = some k → k < w.heap.size → w'.heap[k]? = w.heap[k]?) : IntsAt w' w'.heap.size A xs :=
  ⟨fun hx => by
    obtain ⟨b, off, e, hlt, hc⟩ := h.row hx
    subst e
    exact ⟨b, off, rfl, Nat.lt_of_lt_of_le hlt hs, fun j x hj => (World.cell?_of_block (w := w) (hb b rfl hlt)).trans (hc j x hj)⟩, h.wf, h.len⟩
theorem NdX.kept {w w' : World} {g rb j : Nat} {n : Nd} (h : NdX w g rb j n) (hc : ∀ o, o < 3 → w'.cell? ⟨g, j * 3 + o, none⟩ = w.cell? ⟨g, j * 3 + o, none⟩) (hb : ∀ k, k < w.heap.size → k ≠ rb → k ≠ g → w'.heap[k]? = w.heap[k]?) : NdX w' g rb j n := by
  obtain ⟨A, c, h1, h2, h3, h6, h4, h5⟩ := h.kids
  exact ⟨(hc 0 (by omega)).trans h.kind, (hc 1 (by omega)).trans h.value, ⟨A, c, (hc 2 (by omega)).trans h1, h2.same' (fun k hk => hb k (h2.blocks k hk).2 (fun e => h5 (by rw [hk, e])) (fun e => h4 (by rw [hk, e]))), h3, h6, h4, h5⟩, h.wfk, h.wfv⟩
theorem GenG.lt {w : World} {g rb cap : Nat} {ns : List Nd} (h : GenG w g rb cap ns) : g < w.heap.size := by
  obtain ⟨f, hf⟩ := h.row
  exact hf.lt
theorem GenG.grew {w w' : World} {g rb cap : Nat} {ns : List Nd} (h : GenG w g rb cap ns) (hg : Grew rb w w') : GenG w' g rb cap ns := by
  have hb := hg.block g h.lt h.ne
  obtain ⟨f, hf⟩ := h.row
  exact ⟨⟨f, hf.of_block hb⟩, h.le, h.few, fun j n hj => (h.nd j n hj).kept (fun o _ => World.cell?_of_block (w := w) hb) (fun k hk h1 _ => hg.block k hk h1), h.ne, fun i j A A' n n' c c' hij hi hj h1 h2 => h.dis i j A A' n n' c c' hij hi hj ((World.cell?_of_block (w := w) hb).symm.trans h1) ((World.cell?_of_block (w := w) hb).symm.trans h2)⟩
theorem GenG.nds {w : World} {g rb cap : Nat} {ns : List Nd} (h : GenG w g rb cap ns) : NdsAt w w.heap.size (some ⟨g, 0, none⟩) ns :=
  ⟨fun _ => ⟨g, 0, rfl, h.lt, fun j n hj => by
    have hn := h.nd j n hj
    obtain ⟨A, c, h1, h2, h3, h6, _, _⟩ := hn.kids
    rw [Nat.zero_add]
    exact ⟨hn.kind, hn.value, ⟨A, c, h1, h2.ints h3 (by omega), h2.nil⟩, hn.wfk, hn.wfv⟩⟩, by have := h.few; omega⟩
def put3 (w : World) (g j : Nat) (v0 v1 v2 : Value) : World := ((w.setCell ⟨g, j * 3, none⟩ v0).setCell ⟨g, j * 3 + 1, none⟩ v1).setCell ⟨g, j * 3 + 2, none⟩ v2
theorem put3_block {w : World} {g j k : Nat} {v0 v1 v2 : Value} (hk : k ≠ g) : (put3 w g j v0 v1 v2).heap[k]? = w.heap[k]? := by
  unfold put3
  rw [Below.heap_setCell _ _ _ _ (by show k ≠ g; exact hk), Below.heap_setCell _ _ _ _ (by show k ≠ g; exact hk), Below.heap_setCell _ _ _ _ (by show k ≠ g; exact hk)]
theorem put3_size {w : World} {g j : Nat} {v0 v1 v2 : Value} : (put3 w g j v0 v1 v2).heap.size = w.heap.size := by unfold put3; simp
theorem put3_far {w : World} {g j q : Nat} {v0 v1 v2 : Value} (hq : q < j * 3 ∨ j * 3 + 2 < q) : (put3 w g j v0 v1 v2).cell? ⟨g, q, none⟩ = w.cell? ⟨g, q, none⟩ := by
  unfold put3
  rw [World.cell?_setCell_other, World.cell?_setCell_other, World.cell?_setCell_other] <;> (intro e; injection e with _ e; omega)
theorem put3_row {w : World} {g j n : Nat} {t : TypeId} {f : Nat → Value} (h : w.rowIs g t n f) (v0 v1 v2 : Value) : ∃ f', (put3 w g j v0 v1 v2).rowIs g t n f' := ⟨_, ((h.set _ _).set _ _).set _ _⟩
theorem put3_at {w : World} {g j n : Nat} {t : TypeId} {f : Nat → Value} (h : w.rowIs g t n f) (hn : j * 3 + 2 < n) (v0 v1 v2 : Value) : (put3 w g j v0 v1 v2).cell? ⟨g, j * 3, none⟩ = some v0 ∧ (put3 w g j v0 v1 v2).cell? ⟨g, j * 3 + 1, none⟩ = some v1 ∧ (put3 w g j v0 v1 v2).cell? ⟨g, j * 3 + 2, none⟩ = some v2 := by
  have hr := ((h.set (j * 3) v0).set (j * 3 + 1) v1).set (j * 3 + 2) v2
  unfold put3
  refine ⟨?_, ?_, ?_⟩
  · have := hr.cell (i := j * 3) (by omega)
    simpa using this
  · have := hr.cell (i := j * 3 + 1) (by omega)
    simpa using this
  · have := hr.cell (i := j * 3 + 2) (by omega)
    simpa using this
theorem GenG.setFar {w : World} {g rb cap b o : Nat} {ns : List Nd} {v : Value} (h : GenG w g rb cap ns) (hb : b ≠ g) (hk : ∀ j, j < ns.length → ∀ (A : Option Addr) (n c : Nat), w.cell? ⟨g, j * 3 + 2, none⟩ = some (.slice A n c) → blockOf A ≠ some b) : GenG (w.setCell ⟨b, o, none⟩ v) g rb cap ns := by
  have hbl : ∀ k, k ≠ b → (w.setCell ⟨b, o, none⟩ v).heap[k]? = w.heap[k]? := fun k hk => Below.heap_setCell _ _ _ _ hk
  have hg := hbl g (fun e => hb e.symm)
  obtain ⟨f, hf⟩ := h.row
  refine ⟨⟨f, hf.of_block hg⟩, h.le, h.few, fun j n hj => ?_, h.ne, fun i j A A' n n' c c' hij hi hj h1 h2 => h.dis i j A A' n n' c c' hij hi hj ((World.cell?_of_block (w := w) hg).symm.trans h1) ((World.cell?_of_block (w := w) hg).symm.trans h2)⟩
  have hn := h.nd j n hj
  obtain ⟨A, c, h1, h2, h3, h6, h4, h5⟩ := hn.kids
  have hc := fun q => World.cell?_of_block (w := w) (w' := w.setCell ⟨b, o, none⟩ v) (a := ⟨g, q, none⟩) hg
  exact ⟨(hc _).trans hn.kind, (hc _).trans hn.value, ⟨A, c, (hc _).trans h1, h2.same' (fun k hk2 => hbl k (fun e => hk j (List.getElem?_eq_some_iff.1 hj).1 A _ c h1 (by rw [hk2, e]))), h3, h6, h4, h5⟩, hn.wfk, hn.wfv⟩
theorem Rd.kept {w w' : World} {rb : Nat} {A : Option Addr} {n c p : Nat} (h : Rd w rb A n c p) (hr : Below (rb + 1) w w') : Rd w' rb A n c p :=
  ⟨h.box.below hr (by omega), h.bytes.later (hr.mono (by omega)), h.few⟩
theorem Rd.put {w : World} {rb g j : Nat} {A : Option Addr} {n c p : Nat} (h : Rd w rb A n c p) (hg : rb < g) (v0 v1 v2 : Value) : Rd (put3 w g j v0 v1 v2) rb A n c p :=
  h.kept ⟨rfl, rfl, rfl, by rw [put3_size]; exact Nat.le_refl _, fun k hk => put3_block (by omega)⟩
end Go.Proofs.YthckkpbjpgfdcabDoor

namespace Go.Proofs.YthckkpbjpgfdcabDoor
open Go.RowKit
set_option linter.unusedVariables false
structure RunS (w wr : World) (q q2 : Nat) (p : ShPtr) (s : Shp) : Prop where
  bel : Below w.heap.size w wr
  box : Lies wr q (shCells p s) 39
  res : Lies wr q2 zero5 39
  own : ShOwn wr w.heap.size p s
  off : p.Off q
  off2 : p.Off q2
  h1 : w.heap.size ≤ q
  h2 : w.heap.size ≤ q2
  ne : q ≠ q2
theorem RunS.below {w wr w' : World} {q q2 : Nat} {p : ShPtr} {s : Shp} (h : RunS w wr q q2 p s) (hb : Below wr.heap.size wr w') : RunS w w' q q2 p s :=
  ⟨h.bel.trans (hb.mono h.bel.size), h.box.below hb h.box.lt, h.res.below hb h.res.lt, h.own.below hb, h.off, h.off2, h.h1, h.h2, h.ne⟩
def GivesRun (w : World) (r : Shp × Nat) (e : Ending) (w' : World) : Prop := ∃ p, e = .returned (.tuple #[shVal p r.1, .int .i64 (r.2 : Int)]) ∧ ShOwn w' w.heap.size p r.1 ∧ Below w.heap.size w w'
theorem RunS.next {w Y : World} {q q2 lo : Nat} {p p' : ShPtr} {s t : Shp} (h : RunS w Y q q2 p s) (ho : ShOwn Y lo p' t) (hq : q < lo) (hq2 : q2 < lo) :
    RunS w (set5 Y q (.slice p'.K t.kinds.length p'.c1) (.slice p'.F t.full.length p'.c2) (.slice p'.S t.stack.length p'.c3) (.slice p'.M t.memo.length p'.c4) (.bool t.done)) q q2 p' t := by
  have o1 : p'.Off q := ho.off (.inl hq)
  have o2 : p'.Off q2 := ho.off (.inl hq2)
  have hw := h.h1
  exact ⟨set5_below h.bel h.h1, (Lies.set5 h.box _ _ _ _ _).2, (set5_block h.ne.symm).trans h.res, (ho.mono (by omega)).set5 o1, o1, o2, h.h1, h.h2, h.ne⟩
theorem RunS.side {w Y : World} {q q2 nb : Nat} {p : ShPtr} {s : Shp} {v0 v1 v2 v3 v4 : Value} (h : RunS w Y q q2 p s) (ho : p.Off nb) (hw : w.heap.size ≤ nb) (hq : q ≠ nb) (hq2 : q2 ≠ nb) : RunS w (set5 Y nb v0 v1 v2 v3 v4) q q2 p s :=
  ⟨set5_below h.bel hw, (set5_block hq).trans h.box, (set5_block hq2).trans h.res, h.own.set5 ho, h.off, h.off2, h.h1, h.h2, h.ne⟩
structure RunN (w Y : World) (q q2 : Nat) (p : ShPtr) (s : Shp) (nb : Nat) (p5 : ShPtr) (s5 : Shp) (ok : Bool) (r : Option Shp) : Prop where
  run : RunS w Y q q2 p s
  box : Lies Y nb (shCells p5 s5) 39
  good : ∀ t, r = some t → ok = true ∧ s5 = t ∧ ∃ lo, ShOwn Y lo p5 t ∧ q < lo ∧ q2 < lo
  bad : r = none → ok = false
theorem RunN.mk' {w Y : World} {q q2 nb lo : Nat} {p p5 : ShPtr} {s s5 : Shp} {ok : Bool} {r : Option Shp} (h : RunS w Y q q2 p s) (hz : Lies Y nb #[.slice none 0 0, .slice none 0 0, .slice none 0 0, .slice none 0 0, .bool false] 39)
    (ho : p.Off nb) (hw : w.heap.size ≤ nb) (hq : q ≠ nb) (hq2 : q2 ≠ nb) (hl : q < lo) (hl2 : q2 < lo) (hg : ∀ t, r = some t → ok = true ∧ s5 = t ∧ ShOwn Y lo p5 t ∧ p5.Off nb) (hb : r = none → ok = false) :
    RunN w (set5 Y nb (.slice p5.K s5.kinds.length p5.c1) (.slice p5.F s5.full.length p5.c2) (.slice p5.S s5.stack.length p5.c3) (.slice p5.M s5.memo.length p5.c4) (.bool s5.done)) q q2 p s nb p5 s5 ok r :=
  ⟨h.side ho hw hq hq2, (Lies.set5 hz _ _ _ _ _).2, fun t ht => by
    obtain ⟨h1, h2, h3, h4⟩ := hg t ht
    exact ⟨h1, h2, lo, h3.set5 h4, hl, hl2⟩, hb⟩
def HeldR (q b i : Nat) (cs : Array Value) (u v : Value) (w' : World) : Prop := Lies w' q cs 39 ∧ w'.cell? ⟨b, i, none⟩ = some u ∧ w'.cell? ⟨b, i + 1, none⟩ = some v
theorem HeldR.below {q b i B : Nat} {cs : Array Value} {u v : Value} {X w' : World} (h : HeldR q b i cs u v X) (hb : Below B X w') (hq : q < B) (hbB : b < B) : HeldR q b i cs u v w' :=
  ⟨h.1.below hb hq, (hb.cell (p := ⟨b, i, none⟩) hbB).trans h.2.1, (hb.cell (p := ⟨b, i + 1, none⟩) hbB).trans h.2.2⟩
theorem HeldR.set5 {q b i nb : Nat} {cs : Array Value} {u v v0 v1 v2 v3 v4 : Value} {X : World} (h : HeldR q b i cs u v X) (hq : q ≠ nb) (hbB : b ≠ nb) : HeldR q b i cs u v (set5 X nb v0 v1 v2 v3 v4) :=
  ⟨(set5_block hq).trans h.1, (World.cell?_of_block (w := X) (set5_block hbB)).trans h.2.1, (World.cell?_of_block (w := X) (set5_block hbB)).trans h.2.2⟩
end Go.Proofs.YthckkpbjpgfdcabDoor

namespace Go.Proofs.YthckkpbjpgfdcabDoor
open Go.RowKit
theorem eqView_d (d : Nat) (m0 m1 m2 n0 n1 n2 : Int) (w : World) : (Op.equalIn (d + 1 + 1) 91 (.agg #[.int .i64 m0, .int .i64 m1, .int .i64 m2]) (.agg #[.int .i64 n0, .int .i64 n1, .int .i64 n2])).run Tryd.prog w = .ok ((m0 == n0) && ((m1 == n1) && (m2 == n2))) w := by
  obtain ⟨i0, hi, hz0, hz1, hz2⟩ := info_parts infoI
  have hI := fun a b => run_equalIn_int (P := Tryd.prog) w d 3 .i64 .i64 a b Tryd.underlying3
  rw [Op.equalIn]
  simp only [Sem.run_bind, run_underlying Tryd.underlying91, Result.andThen_ok]
  have hsz : (sizeOf 3).run Tryd.prog w = .ok 1 w := by simp [sizeOf, typeInfo, hi, hz1]
  have hpl : Tryd.prog.plainKey 3 = true := by kernel_rfl
  rw [hsz]
  simp only [Result.andThen_ok, Nat.mul_one]
  have p0 := run_part_plain (P := Tryd.prog) w hpl (xs := #[.int .i64 m0, .int .i64 m1, .int .i64 m2]) (off := 0) (v := .int .i64 m0) rfl
  have p1 := run_part_plain (P := Tryd.prog) w hpl (xs := #[.int .i64 m0, .int .i64 m1, .int .i64 m2]) (off := 1) (v := .int .i64 m1) rfl
  have p2 := run_part_plain (P := Tryd.prog) w hpl (xs := #[.int .i64 m0, .int .i64 m1, .int .i64 m2]) (off := 2) (v := .int .i64 m2) rfl
  have q0 := run_part_plain (P := Tryd.prog) w hpl (xs := #[.int .i64 n0, .int .i64 n1, .int .i64 n2]) (off := 0) (v := .int .i64 n0) rfl
  have q1 := run_part_plain (P := Tryd.prog) w hpl (xs := #[.int .i64 n0, .int .i64 n1, .int .i64 n2]) (off := 1) (v := .int .i64 n1) rfl
  have q2 := run_part_plain (P := Tryd.prog) w hpl (xs := #[.int .i64 n0, .int .i64 n1, .int .i64 n2]) (off := 2) (v := .int .i64 n2) rfl
  have hr : List.range' 0 3 1 = [0, 1, 2] := rfl
  cases h0 : (m0 == n0) <;> cases h1 : (m1 == n1) <;> cases h2 : (m2 == n2) <;>
    simp [Std.Legacy.Range.forIn_eq_forIn_range', Std.Legacy.Range.size, hr, p0, p1, p2, q0, q1, q2, hI, h0, h1, h2, Result.andThen_ok]
theorem eqView (m0 m1 m2 n0 n1 n2 : Int) (w : World) : (Op.equalIn 10000 91 (.agg #[.int .i64 m0, .int .i64 m1, .int .i64 m2]) (.agg #[.int .i64 n0, .int .i64 n1, .int .i64 n2])).run Tryd.prog w = .ok ((m0 == n0) && ((m1 == n1) && (m2 == n2))) w :=
  eqView_d 9998 m0 m1 m2 n0 n1 n2 w
end Go.Proofs.YthckkpbjpgfdcabDoor

namespace Go.Proofs.YthckkpbjpgfdcabDoor
open Go.RowKit
set_option linter.unusedVariables false
set_option maxRecDepth 100000 in
set_option maxHeartbeats 1000000 in
theorem mul64_one (w : World) : Calls Tryd.prog 69 #[.int .u64 1, .int .u64 20] w fun e w' => e = .returned (.tuple #[.int .u64 0, .int .u64 20]) ∧ w = w' := by
  go_enter Tryd.func69, Tryd.ntmps69
  go_wp2
  go_ret2
  exact ⟨rfl, rfl⟩
set_option maxRecDepth 100000 in
set_option maxHeartbeats 1000000 in
theorem mul_one' (w : World) : Calls Tryd.prog 58 #[.int .u64 1, .int .u64 20] w fun e w' => e = .returned (.tuple #[.int .u64 0, .int .u64 20]) ∧ w = w' := by
  go_enter Tryd.func58, Tryd.ntmps58
  go_wp2_with (go_at_call 69; refine (mul64_one _).mono ?_; rintro e w' ⟨rfl, rfl⟩)
  go_ret2
  exact ⟨rfl, rfl⟩
def rowL (x : Int) (k : Nat) : List Value := List.replicate k (.int .i64 x) ++ List.replicate (20 - k) (.int .i64 0)
theorem rowL_len (x : Int) {k : Nat} (h : k ≤ 20) : (rowL x k).length = 20 := by unfold rowL; simp; omega
theorem rowL_splice (x : Int) {k m : Nat} (h : k + m ≤ 20) : splice (rowL x k) k (List.replicate m (.int .i64 x)) = rowL x (k + m) := by
  unfold splice rowL
  rw [List.take_left' (by simp), List.length_replicate, List.drop_append, List.drop_eq_nil_of_le (by simp), List.nil_append, List.length_replicate, List.drop_replicate, ← List.append_assoc, List.replicate_append_replicate]
  congr 2
  omega
theorem rowL_at (x : Int) {k j : Nat} (h : j < k) : (rowL x k)[j]? = some (.int .i64 x) := by
  unfold rowL
  rw [List.getElem?_append_left (by simpa using h), List.getElem?_replicate, if_pos h]
theorem made20 (x : Int) : madeCells (Value.int .i64 0).cells (20 * 1) = (rowL x 0).toArray := by
  apply Array.ext'
  rw [show (Value.int .i64 0).cells = #[.int .i64 0] from rfl, toList_madeCells_one]
  rfl
theorem LieL.cell {w : World} {g : Nat} {L : List Value} {t : TypeId} (h : w.heap[g]? = some (.cells L.toArray t (0, 0))) {j : Nat} {v : Value} (hj : L[j]? = some v) : w.cell? ⟨g, j, none⟩ = some v := by
  have := Lies.cell h j
  rw [this]
  simpa using hj
theorem rowL_src {w : World} {g k m : Nat} {x : Int} {t : TypeId} (h : w.heap[g]? = some (.cells (rowL x k).toArray t (0, 0))) (hm : m ≤ k) : ∀ j v, (List.replicate m (Value.int .i64 x))[j]? = some v → w.drew.cell? ((⟨g, 0, none⟩ : Addr).add j) = some v := by
  intro j v hv
  rw [List.getElem?_replicate] at hv
  split at hv
  · next hj =>
    have hadd : (⟨g, 0, none⟩ : Addr).add j = ⟨g, j, none⟩ := by
      unfold Addr.add
      split
      · rename_i h0; subst h0; rfl
      · simp
    rw [hadd]
    rw [← hv]
    exact LieL.cell (w := w) h (rowL_at x (by omega))
  · cases hv
set_option maxRecDepth 100000 in
set_option maxHeartbeats 1000000 in
theorem repeat_20 (b : Nat) (x : Int) (c : Nat) (w : World) (hb : b < w.heap.size) (hx : w.cell? ⟨b, 0, none⟩ = some (.int .i64 x)) (hx64 : In64 x) :
    Calls Tryd.prog 41 #[.slice (some ⟨b, 0, none⟩) 1 c, .int .i64 20] w (GivesInts w (List.replicate 20 x)) := by
  obtain ⟨R, hR⟩ : ∃ R, R = List.replicate 20 x := ⟨_, rfl⟩
  rw [← hR]
  have HR := hide hR
  clear hR
  have hmk : ∀ w' : World, (Instr.makeSlice 25 (.int .i64 20) (.int .i64 20)).run Tryd.prog w' = .ok (.slice (some ⟨w'.heap.size, 0, none⟩) 20 20) (w'.alloc (.cells (rowL x 0).toArray 3)) := fun w' =>
    (run_make_rows 25 3 (.int .i64 0) 1 8 Tryd.underlying25 infoI .i64 .i64 20 (by omega) (by omega) w').trans (by rw [made20 x])
  go_enter Tryd.func41, Tryd.ntmps41
  go_upto_region 7 with (go_at_call 58; refine (mul_one' _).mono ?_; rintro e w' ⟨rfl, rfl⟩)
  have hlie : (w.alloc (.cells (rowL x 0).toArray 3)).heap[w.heap.size]? = some (.cells (rowL x 0).toArray 3 (0, 0)) := heap_alloc_new w _
  have hB0 := (Below.refl w.heap.size w).alloc (Nat.le_refl _) (.cells (rowL x 0).toArray 3)
  have hx2 := (hB0.cell (p := ⟨b, 0, none⟩) hb).trans hx
  have HL0 := hide hlie
  have HB0 := hide hB0
  clear hlie hB0 hmk
  generalize w.alloc (.cells (rowL x 0).toArray 3) = W at HL0 HB0 hx2 ⊢
  generalize hG : w.heap.size = g at HL0 ⊢
  have HG := hide hG
  clear hG hx
  have hc1 : ∀ j v, [Value.int .i64 x][j]? = some v → W.cell? ((⟨b, 0, none⟩ : Addr).add j) = some v := by
    intro j v hv
    match j, hv with
    | 0, hv =>
      simp at hv
      subst hv
      exact hx2
  have hc2 : 0 + [Value.int .i64 x].length ≤ (rowL x 0).length := by rw [rowL_len x (by omega)]; simp
  have hc3 : ∀ v ∈ [Value.int .i64 x], v.oneCell' = true := by intro v hv; simp at hv; subst hv; rfl
  have HC1 := hide hc1
  have HC3 := hide hc3
  clear hc1 hc3
  go_upto_region 8 with (with_reducible refine wpList_copy_splice rfl (.tmp 31) (.tmp 32) 25 25 rfl 3 Tryd.underlying25 (by kernel_rfl) (some ⟨g, 0, none⟩) (some ⟨b, 0, none⟩) 20 20 1 c rfl rfl g 0 (rowL x 0) 3 HL0.out [.int .i64 x] rfl (fun _ => ⟨rfl, _, rfl, HC1.out⟩) hc2 HC3.out w.heap.size w HB0.out (by rw [HG.out]; exact Nat.le_refl _) ?_; intro w2 hL2 hB2)
  have HL2 := hide (show w2.heap[g]? = some (.cells (rowL x 1).toArray 3 (0, 0)) from by
    have h := hL2.out
    rw [show splice (rowL x 0) 0 [Value.int .i64 x] = rowL x (0 + 1) from rowL_splice x (k := 0) (m := 1) (by omega)] at h
    exact h)
  clear hL2 HL0 HB0 hc2 HC1 HC3 hx2
  have HB2 := hide hB2
  clear hB2
  go_wp2_with fail
  go_loopg [8] 19 (fun gk nv wr => ∃ k : Nat, 1 ≤ k ∧ k ≤ 20 ∧ gk = 20 - k ∧ nv = .int .i64 (k : Int) ∧ wr.heap[g]? = some (.cells (rowL x k).toArray 3 (0, 0)) ∧ Below w.heap.size w wr)
  case atStart => exact ⟨1, by omega, by omega, by omega, by go_num, HL2.out, HB2.out⟩
  case round =>
    clear HL2 HB2
    obtain ⟨k, hk1, hk2, rfl, rfl, hL, hB⟩ := hrel
    have HL := hide hL
    have HB := hide hB
    clear hL hB
    by_cases hlt : k < 20
    · have hlt2 : (k : Int) < 20 := by omega
      have hk0 : (0 : Int) ≤ (k : Int) := by omega
      have hle2 : (k : Int) ≤ 20 := by omega
      have hn20 : ¬ k = 20 := by omega
      have hn20' : ¬ 20 = k := by omega
      obtain ⟨d, hd⟩ : ∃ d, 20 - k = d := ⟨_, rfl⟩
      obtain ⟨m, hm⟩ : ∃ m, min k d = m := ⟨_, rfl⟩
      have Hm := hide hm
      have hm1 : 1 ≤ m := by omega
      have hm2 : m ≤ k := by omega
      have hm3 : m ≤ d := by omega
      clear hm
      have hkd1 : k + d ≤ 20 := by omega
      have hkd2 : 20 ≤ k + d := by omega
      have hwr : IntKind.i64.wrap ((k : Int) + (m : Int)) = (k : Int) + (m : Int) := by rw [IntKind.wrap_i64]; omega
      go_wp2_with fail
      go_region_law (first
        | (refine step_copy_splice (by rfl) (.tmp 41) (.tmp 44) 25 25 (by rfl) 3 Tryd.underlying25 (by kernel_rfl) (some ⟨g, k, none⟩) (some ⟨g, 0, none⟩) d d k 20 (by simp [Act.eval, Act.put]) (by simp [Act.eval, Act.put]) g k (rowL x k) 3 HL.out (List.replicate m (.int .i64 x)) (by rw [List.length_replicate]; exact Hm.out.symm) (fun _ => ⟨rfl, _, rfl, rowL_src HL.out hm2⟩) (by rw [rowL_len x (by omega)]; simp; omega) (by intro v hv; rw [List.eq_of_mem_replicate hv]; rfl) w.heap.size w HB.out.drew (by rw [HG.out]; exact Nat.le_refl _) ?_; intro w3 hL3 hB3))
      all_goals
        have HL3 := hide (show w3.heap[g]? = some (.cells (rowL x (k + m)).toArray 3 (0, 0)) from by
          have h := hL3.out
          rw [rowL_splice x (by omega)] at h
          exact h)
        have HB3 := hide hB3
        clear hL3 hB3 hd hwr
        go_wp2
        go_roundg (20 - (k + m))
        case measure => omega
        case rel => exact ⟨k + m, by omega, by omega, rfl, by go_num, HL3.out, HB3.out⟩
    · obtain rfl : k = 20 := by omega
      rw [show ((20 : Nat) : Int) = 20 from rfl]
      go_wp2
      go_ret
      rw [HR.out]
      exact ⟨some ⟨g, 0, none⟩, 20, rfl, ⟨⟨by simp, .inr ⟨g, 20, (rowL x 20).toArray, rfl, by rw [HG.out]; exact Nat.le_refl _, HL.out, by simp, by unfold maxLen; omega, by simp [rowL], by simp [rowL]⟩⟩⟩, HB.out⟩
end Go.Proofs.YthckkpbjpgfdcabDoor

namespace Go.Proofs.YthckkpbjpgfdcabDoor
open Go.RowKit
set_option linter.unusedVariables false
set_option maxRecDepth 100000 in
set_option maxHeartbeats 1000000 in
theorem implValidOps_any (A : Option Addr) (os : List Od) (c : Nat) (w : World) (h : OpsAt w w.heap.size A os) (hF : FormsAt w w.heap.size) :
    Calls Tryd.prog 26 #[.slice A os.length c] w fun e w' => e = .returned (.bool (tf (OpsOk os))) ∧ Below w.heap.size w w' := by
  have hl := h.len
  by_cases h3 : os.length ≤ 300
  · have t3 : decide ((300 : Int) < (os.length : Int)) = false := by simp; omega
    go_enter Tryd.func26, Tryd.ntmps26
    go_wp2_with fail
    go_loopw [10] (fun i wr => ∃ k : Nat, k ≤ os.length ∧ i = .int .i64 k ∧ Below w.heap.size w wr ∧ ∀ j x, j < k → os[j]? = some x → OdOk x) (fun i _ => os.length - (intOf i).toNat)
    case atStart => exact ⟨0, Nat.zero_le _, rfl, Below.refl _ _, fun j _ hj => absurd hj (by omega)⟩
    case round =>
      obtain ⟨k, hk, rfl, hb, he0⟩ := hrel
      have he := hide he0
      clear he0
      by_cases hlt : k < os.length
      · obtain ⟨b, off, x, rfl, hbl, hx, hmem, hc0, hc1⟩ := (h.below hb).at_ hlt
        have Hx := hide hx
        clear hx
        have hFr := hF.below hb
        have hb2 : Below w.heap.size w (wr.alloc (.cells #[.int .i64 x.code, .int .i64 x.arg] 31)) := hb.alloc hb.size _
        have lx := Lies.new wr #[.int .i64 x.code, .int .i64 x.arg] 31
        have hF2 := hF.below hb2
        clear hFr
        go_wp2_with fail
        generalize wr.alloc (.cells #[.int .i64 x.code, .int .i64 x.arg] 31) = w2 at hb2 lx hF2 ⊢
        have x0 := lx.cell 0
        have x1 := lx.cell 1
        simp at x0 x1
        by_cases hc : 0 ≤ x.code ∧ x.code ≤ 19
        · have u1 := upB_yes hc
          obtain ⟨m, hm⟩ := Int.eq_ofNat_of_zero_le hc.1
          have hm19 : m < 20 := by omega
          have harg := hF2.arg m hm19
          have hi1 : (0 : Int) ≤ x.code := hc.1
          have hi2 : x.code < 20 := by omega
          have hmn : x.code.toNat = m := by omega
          rw [← hm, ← hmn] at harg
          by_cases ha : 0 ≤ x.arg ∧ x.arg ≤ argTop x.code
          · have u2 := upB_yes ha
            have He : Hid (∀ j y, j < k + 1 → os[j]? = some y → OdOk y) := by
              intro j y hj hy
              by_cases e : j = k
              · subst e
                obtain rfl := Option.some.inj (Hx.out.symm.trans hy)
                exact (OdOk.iff _).2 ⟨hc, ha⟩
              · exact he.out j y (by omega) hy
            generalize argTop x.code = T at harg u2
            clear he hmem hm hmn ha hc hF2 lx
            go_quiet ((go_at_call 17; exact Calls.quiet_of_same (isUpTo_q _ _ _)))
            go_wp2
            go_roundw
            case rel => exact ⟨k + 1, by omega, by go_num, below_drewN hb2 _, He.out⟩
            case measure => simp [intOf]; omega
          · have u2 := upB_no ha
            have HF := hide (show tf (OpsOk os) = false from tf_false fun hall => ha ((OdOk.iff _).1 (hall.2 x hmem)).2)
            generalize argTop x.code = T at harg u2
            clear he hmem hm hmn ha hc hF2 lx
            go_quiet ((go_at_call 17; exact Calls.quiet_of_same (isUpTo_q _ _ _)))
            go_wp2
            go_ret
            exact ⟨ret_bool HF.out.symm, below_drewN hb2 _⟩
        · have u1 := upB_no hc
          have HF := hide (show tf (OpsOk os) = false from tf_false fun hall => hc (hall.2 x hmem).1)
          clear he hmem hc hF2 lx
          go_quiet ((go_at_call 17; exact Calls.quiet_of_same (isUpTo_q _ _ _)))
          go_wp2
          go_ret
          exact ⟨ret_bool HF.out.symm, below_drewN hb2 _⟩
      · obtain rfl : k = os.length := by omega
        have HF := hide (show tf (OpsOk os) = true from tf_true ⟨h3, fun x hx => by
          obtain ⟨j, hj, rfl⟩ := List.getElem_of_mem hx
          exact he.out j _ hj (List.getElem?_eq_getElem hj)⟩)
        clear hlt
        go_wp2
        go_ret
        exact ⟨ret_bool HF.out.symm, hb⟩
  · have t3 : decide ((300 : Int) < (os.length : Int)) = true := by simp; omega
    have HF := hide (show tf (OpsOk os) = false from tf_false fun hh => h3 hh.1)
    clear h3
    go_enter Tryd.func26, Tryd.ntmps26
    go_wp2
    go_ret
    exact ⟨ret_bool HF.out.symm, Below.refl _ _⟩
end Go.Proofs.YthckkpbjpgfdcabDoor

namespace Go.Proofs.YthckkpbjpgfdcabDoor
open Go.RowKit
set_option linter.unusedVariables false
def GivesNoRun (w : World) (e : Ending) (w' : World) : Prop := e = .returned (.tuple #[shVal ShPtr.nil Shp.zero, .int .i64 (-1)]) ∧ Below w.heap.size w w'
set_option maxRecDepth 100000 in
set_option maxHeartbeats 1000000 in
theorem watched_bad (A : Option Addr) (os : List Od) (c : Nat) (v : Value) (w : World) (h : OpsAt w w.heap.size A os) (hF : FormsAt w w.heap.size) (hok : ¬ OpsOk os) :
    Calls Tryd.prog 13 #[.slice A os.length c, v] w (GivesNoRun w) := by
  have hB0 := (Below.refl w.heap.size w).alloc (Nat.le_refl _) (.cells zero5 39)
  have HB0 := hide hB0
  have L0 := hide (Lies.new w zero5 39)
  have HV := hide (implValidOps_any A os c _ (h.later hB0 (Nat.le_refl _)) (hF.later hB0 (Nat.le_refl _)))
  have Ht := hide (show tf (OpsOk os) = false from tf_false hok)
  clear hok hB0
  go_enter Tryd.func13, Tryd.ntmps13
  go_upto_region 1 with fail
  unfold zero5 at HB0 L0 HV
  have hlt := L0.out.lt
  generalize w.alloc (.cells #[.slice none 0 0, .slice none 0 0, .slice none 0 0, .slice none 0 0, .bool false] 39) = W at HB0 L0 HV hlt ⊢
  go_wp2_with fail
  refine HV.out.mono ?_
  rw [Ht.out]
  rintro e w2 ⟨rfl, hb⟩
  have hS := Lies.below L0.out hb hlt
  obtain ⟨⟨r0, r1, r2, r3, r4, f0, f1, f2, f3, f4, s0, s1, s2, s3, s4⟩, _⟩ := Lies.set5 hS (.slice none 0 0) (.slice none 0 0) (.slice none 0 0) (.slice none 0 0) (.bool false)
  have HB := hide (set5_below (v0 := .slice none 0 0) (v1 := .slice none 0 0) (v2 := .slice none 0 0) (v3 := .slice none 0 0) (v4 := .bool false) (HB0.out.trans (hb.mono HB0.out.size)) (Nat.le_refl _))
  clear hS hb HB0 L0 HV
  go_wp2
  refine bodyPost_ret (v := .tuple #[shVal ShPtr.nil Shp.zero, .int .i64 (-1)]) (by simp [shVal, shCells, ShPtr.nil, Shp.zero, results, Tryd.results13, go_sem, s0, s1, s2, s3, s4]) rfl ?_
  exact ⟨rfl, HB.out⟩
end Go.Proofs.YthckkpbjpgfdcabDoor

namespace Go.Proofs.YthckkpbjpgfdcabDoor
open Go.RowKit
set_option linter.unusedVariables false
set_option maxRecDepth 100000 in
set_option maxHeartbeats 1000000 in
theorem implTakesOf_any (c : Int) (w : World) (hF : FormsAt w w.heap.size) :
    Calls Tryd.prog 8 #[.int .i64 c] w fun e w' => e = .returned (.tuple #[.int .i64 (takesC c), .int .i64 (pushesC c)]) ∧ Below w.heap.size w w' := by
  by_cases hc : 0 ≤ c ∧ c ≤ 19
  · obtain ⟨m, rfl⟩ := Int.eq_ofNat_of_zero_le hc.1
    have hm : m < 20 := by omega
    have h1 : takesC (m : Int) = takesOf m := by unfold takesC; rw [if_pos hc]; rfl
    have h2 : pushesC (m : Int) = pushesOf m := by unfold pushesC; rw [if_pos hc]; rfl
    rw [h1, h2]
    have e1 := hF.takes m hm
    have e2 := hF.pushes m hm
    have hm1 : (0 : Int) ≤ (m : Int) := by omega
    have hm2 : (m : Int) < 20 := by omega
    clear h1 h2 hc hF
    go_enter Tryd.func8, Tryd.ntmps8
    go_wp2_with fail
    refine (isUpTo_yes (m : Int) 19 w (by omega) (by omega)).mono ?_
    rintro e w' ⟨rfl, rfl⟩
    go_wp2_with fail
    go_quiet (fail)
    go_wp2
    go_ret2
    exact ⟨rfl, below_drewN (Below.refl _ _) _⟩
  · have h1 : takesC c = -2 := by unfold takesC; rw [if_neg hc]
    have h2 : pushesC c = -2 := by unfold pushesC; rw [if_neg hc]
    rw [h1, h2]
    clear h1 h2
    go_enter Tryd.func8, Tryd.ntmps8
    go_wp2_with fail
    refine (isUpTo_no c 19 w (by omega)).mono ?_
    rintro e w' ⟨rfl, rfl⟩
    go_wp2
    go_ret2
    exact ⟨rfl, Below.refl _ _⟩
end Go.Proofs.YthckkpbjpgfdcabDoor

namespace Go.Proofs.YthckkpbjpgfdcabDoor
open Go.ChangeShapes Go.WideShapes Go.ChangeAt Go.RowKit Go.Deep
set_option linter.unusedVariables false
theorem readCellsB : Tryd.prog.cellsOf 5 = 1 := by kernel_rfl
theorem addr_add_b (b off j : Nat) : (⟨b, off, none⟩ : Addr).add j = ⟨b, off + j, none⟩ := by
  unfold Addr.add
  split
  · rename_i h0; subst h0; rfl
  · rfl
theorem read_bytes {H : Type} {enc : TypeId × Value → H} {w : World} {base : Nat} {spare : Nat → Bool} {held : Bool} {m : Nat} {v : Value} {y : DataW H × List MemPlace} (h : DataW.trod enc Tryd.prog w base spare held m 22 [v] = some y) :
    ∃ (A : Option Addr) (n c : Nat), v = .slice A n c ∧ BytesAt w w.heap.size A n ∧ n ≤ c ∧ n ≤ 9223372036854775807 := by
  rcases open_ints Tryd.underlying22 Tryd.underlying5 readCellsB h with ⟨hcs, _⟩ | ⟨a, len, cap, zs, hcs, _, hl, hm, hz, _, hcell, hwz⟩
  · simp at hcs
    subst hcs
    exact ⟨none, 0, 0, rfl, fun k hk => absurd hk (by omega), Nat.le_refl _, by omega⟩
  · simp at hcs
    subst hcs
    have hzl : len ≤ zs.length := by rw [hz]; split <;> omega
    refine ⟨some a, len, cap, rfl, fun k hk => ?_, hl, by unfold maxLen at hm; omega⟩
    have hz0 := hcell 0 (by omega)
    have hc0 := hcell k (by omega)
    obtain ⟨b, off, sp⟩ := a
    have hsp : sp = none := by simpa [Addr.add] using World.cell?_spot hz0
    subst hsp
    rw [addr_add_b] at hc0
    have hb := range_u8 hwz k
    rw [List.getD_eq_getElem?_getD] at hc0
    obtain ⟨x, hx⟩ := Int.eq_ofNat_of_zero_le hb.1
    refine ⟨b, off, x, rfl, World.block_lt_of_cell? w _ hc0, ?_, by omega⟩
    rw [hc0, hx]
end Go.Proofs.YthckkpbjpgfdcabDoor
