/-
  Lemmas, several texts in one: Needs, Gen, KyS, SpecA, InfoO, OwnO, OwnOO, Emit, DpM, MkM, FbM, ChkB, ChkE, ChkC, OwnX, EqI, EqlO.
-/
import Derived.Test.YtbihgafkmmcjlaaDoorPjAg
import Derived.Test.YtbihgafkmmcjlaaDoorPjAa
import Derived.LaidMore
import Derived.Test.YtbihgafkmmcjlaaDoorSomeNode
import Derived.Test.YtbihgafkmmcjlaaDoorPjAf
import Derived.Deep.QuietTactic
import Derived.BigQuiet
import Derived.Test.YtbihgafkmmcjlaaDoorPjAe
import Derived.Test.YtbihgafkmmcjlaaDoorPjAc
import Derived.Test.YtbihgafkmmcjlaaDoorPjAb
import Derived.Deep.RegionLaw
import Derived.Deep.AppendLies
import Derived.Maps.AppendAt
import Derived.Laws.AppendOwnNone
import Derived.StillTailTactics
import Derived.Deep.RegionHeld3
namespace Go.Proofs.YtbihgafkmmcjlaaDoor
open Go.RowKit Go.ChangeShapes
structure NeedsAt (w : World) (B : Nat) : Prop where
  lt : 1 < B
  n0 : ∀ c : Nat, c < 20 → w.cell? ⟨1, c * 3, none⟩ = some (.int .i64 (need0 (c : Int) : Int))
  n1 : ∀ c : Nat, c < 20 → w.cell? ⟨1, c * 3 + 1, none⟩ = some (.int .i64 (need1 (c : Int) : Int))
  n2 : ∀ c : Nat, c < 20 → w.cell? ⟨1, c * 3 + 2, none⟩ = some (.int .i64 (need2 (c : Int) : Int))
theorem NeedsAt.below {w w' : World} {B : Nat} (h : NeedsAt w B) (hb : Below B w w') : NeedsAt w' B :=
  ⟨h.lt, fun c hc => (hb.cell (p := ⟨1, c * 3, none⟩) h.lt).trans (h.n0 c hc), fun c hc => (hb.cell (p := ⟨1, c * 3 + 1, none⟩) h.lt).trans (h.n1 c hc), fun c hc => (hb.cell (p := ⟨1, c * 3 + 2, none⟩) h.lt).trans (h.n2 c hc)⟩
theorem NeedsAt.more {w : World} {B B' : Nat} (h : NeedsAt w B) (hB : B ≤ B') : NeedsAt w B' := ⟨Nat.lt_of_lt_of_le h.lt hB, h.n0, h.n1, h.n2⟩
theorem NeedsAt.later {w w' : World} {B : Nat} (h : NeedsAt w B) (hb : Below B w w') (hB : B ≤ w.heap.size) : NeedsAt w' w'.heap.size :=
  (h.below hb).more (Nat.le_trans hB hb.size)
end Go.Proofs.YtbihgafkmmcjlaaDoor

namespace Go.Proofs.YtbihgafkmmcjlaaDoor
open Go.RowKit
set_option linter.unusedVariables false
structure NdX (w : World) (g rb j : Nat) (n : Nd) : Prop where
  kind : w.cell? ⟨g, j * 3, none⟩ = some (.int .i64 n.kind)
  value : w.cell? ⟨g, j * 3 + 1, none⟩ = some (.int .i64 n.value)
  kids : ∃ A c, w.cell? ⟨g, j * 3 + 2, none⟩ = some (.slice A n.kids.length c) ∧ OwnI w 0 A c n.kids ∧ (∀ x ∈ n.kids, In64 x) ∧ n.kids.length ≤ 1000 ∧ blockOf A ≠ some g ∧ blockOf A ≠ some rb
  wfk : In64 n.kind
  wfv : In64 n.value
structure GenG (w : World) (g rb cap : Nat) (ns : List Nd) : Prop where
  row : ∃ f, w.rowIs g 73 (cap * 3) f
  le : ns.length ≤ cap
  few : ns.length ≤ 1000
  nd : ∀ j n, ns[j]? = some n → NdX w g rb j n
  ne : g ≠ rb
  dis : ∀ (i j : Nat) (A A' : Option Addr) (n n' c c' : Nat), i ≠ j → i < ns.length → j < ns.length → w.cell? ⟨g, i * 3 + 2, none⟩ = some (.slice A n c) → w.cell? ⟨g, j * 3 + 2, none⟩ = some (.slice A' n' c') → ∀ b, blockOf A = some b → blockOf A' ≠ some b
theorem OwnI.same' {w w' : World} {base : Nat} {A : Option Addr} {c : Nat} {xs : List Int} (h : OwnI w base A c xs) (hA : ∀ g, blockOf A = some g → w'.heap[g]? = w.heap[g]?) : OwnI w' base A c xs := by
  refine ⟨h.own.1, ?_⟩
  rcases h.own.2 with h2 | ⟨g, cap, cur, hv, hg, hh, r⟩
  · exact .inl h2
  · have hAg : blockOf A = some g := by
      injection hv with hv
      rw [hv]; rfl
    exact .inr ⟨g, cap, cur, hv, hg, (hA g hAg).trans hh, r⟩
structure Grew2 (g1 g2 : Nat) (w w' : World) : Prop where
  os : w'.os = w.os
  tape : w'.tape = w.tape
  output : w'.output = w.output
  size : w.heap.size ≤ w'.heap.size
  block : ∀ k, k < w.heap.size → k ≠ g1 → k ≠ g2 → w'.heap[k]? = w.heap[k]?
theorem Grew2.trans {g1 g2 : Nat} {a b c : World} (h : Grew2 g1 g2 a b) (k : Grew2 g1 g2 b c) : Grew2 g1 g2 a c :=
  ⟨k.os.trans h.os, k.tape.trans h.tape, k.output.trans h.output, Nat.le_trans h.size k.size, fun j hj h1 h2 => (k.block j (Nat.lt_of_lt_of_le hj h.size) h1 h2).trans (h.block j hj h1 h2)⟩
theorem Grew2.below {g1 g2 B : Nat} {w0 w w' : World} (h : Grew2 g1 g2 w w') (hb : Below B w0 w) (h1 : B ≤ g1) (h2 : B ≤ g2) (hB : B ≤ w.heap.size) : Below B w0 w' :=
  hb.trans ⟨h.os, h.tape, h.output, h.size, fun k hk => h.block k (by omega) (by omega) (by omega)⟩
theorem IntsAt.kept {w w' : World} {A : Option Addr} {xs : List Int} (h : IntsAt w w.heap.size A xs) (hs : w.heap.size ≤ w'.heap.size) (hb : ∀ k, blockOf A = some k → k < w.heap.size → w'.heap[k]? = w.heap[k]?) : IntsAt w' w'.heap.size A xs :=
  ⟨fun hx => by
    obtain ⟨b, off, e, hlt, hc⟩ := h.row hx
    subst e
    exact ⟨b, off, rfl, Nat.lt_of_lt_of_le hlt hs, fun j x hj => (World.cell?_of_block (w := w) (hb b rfl hlt)).trans (hc j x hj)⟩, h.wf, h.len⟩
theorem NdX.kept {w w' : World} {g rb j : Nat} {n : Nd} (h : NdX w g rb j n) (hc : ∀ o, o < 3 → w'.cell? ⟨g, j * 3 + o, none⟩ = w.cell? ⟨g, j * 3 + o, none⟩) (hb : ∀ k, k < w.heap.size → k ≠ rb → k ≠ g → w'.heap[k]? = w.heap[k]?) : NdX w' g rb j n := by
  obtain ⟨A, c, h1, h2, h3, h6, h4, h5⟩ := h.kids
  exact ⟨(hc 0 (by omega)).trans h.kind, (hc 1 (by omega)).trans h.value, ⟨A, c, (hc 2 (by omega)).trans h1, h2.same' (fun k hk => hb k (h2.blocks k hk).2 (fun e => h5 (by rw [hk, e])) (fun e => h4 (by rw [hk, e]))), h3, h6, h4, h5⟩, h.wfk, h.wfv⟩
theorem GenG.lt {w : World} {g rb cap : Nat} {ns : List Nd} (h : GenG w g rb cap ns) : g < w.heap.size := by
  obtain ⟨f, hf⟩ := h.row
  exact hf.lt
theorem GenG.grew {w w' : World} {g rb cap : Nat} {ns : List Nd} (h : GenG w g rb cap ns) (hg : Grew rb w w') : GenG w' g rb cap ns := by
  have hb := hg.block g h.lt h.ne
  obtain ⟨f, hf⟩ := h.row
  exact ⟨⟨f, hf.of_block hb⟩, h.le, h.few, fun j n hj => (h.nd j n hj).kept (fun o _ => World.cell?_of_block (w := w) hb) (fun k hk h1 _ => hg.block k hk h1), h.ne, fun i j A A' n n' c c' hij hi hj h1 h2 => h.dis i j A A' n n' c c' hij hi hj ((World.cell?_of_block (w := w) hb).symm.trans h1) ((World.cell?_of_block (w := w) hb).symm.trans h2)⟩
theorem GenG.nds {w : World} {g rb cap : Nat} {ns : List Nd} (h : GenG w g rb cap ns) : NdsAt w w.heap.size (some ⟨g, 0, none⟩) ns :=
  ⟨fun _ => ⟨g, 0, rfl, h.lt, fun j n hj => by
    have hn := h.nd j n hj
    obtain ⟨A, c, h1, h2, h3, h6, _, _⟩ := hn.kids
    rw [Nat.zero_add]
    exact ⟨hn.kind, hn.value, ⟨A, c, h1, h2.ints h3 (by omega), h2.nil⟩, hn.wfk, hn.wfv⟩⟩, by have := h.few; omega⟩
def put3 (w : World) (g j : Nat) (v0 v1 v2 : Value) : World := ((w.setCell ⟨g, j * 3, none⟩ v0).setCell ⟨g, j * 3 + 1, none⟩ v1).setCell ⟨g, j * 3 + 2, none⟩ v2
theorem put3_block {w : World} {g j k : Nat} {v0 v1 v2 : Value} (hk : k ≠ g) : (put3 w g j v0 v1 v2).heap[k]? = w.heap[k]? := by
  unfold put3
  rw [Below.heap_setCell _ _ _ _ (by show k ≠ g; exact hk), Below.heap_setCell _ _ _ _ (by show k ≠ g; exact hk), Below.heap_setCell _ _ _ _ (by show k ≠ g; exact hk)]
theorem put3_size {w : World} {g j : Nat} {v0 v1 v2 : Value} : (put3 w g j v0 v1 v2).heap.size = w.heap.size := by unfold put3; simp
theorem put3_far {w : World} {g j q : Nat} {v0 v1 v2 : Value} (hq : q < j * 3 ∨ j * 3 + 2 < q) : (put3 w g j v0 v1 v2).cell? ⟨g, q, none⟩ = w.cell? ⟨g, q, none⟩ := by
  unfold put3
  rw [World.cell?_setCell_other, World.cell?_setCell_other, World.cell?_setCell_other] <;> (intro e; injection e with _ e; omega)
theorem put3_row {w : World} {g j n : Nat} {t : TypeId} {f : Nat → Value} (h : w.rowIs g t n f) (v0 v1 v2 : Value) : ∃ f', (put3 w g j v0 v1 v2).rowIs g t n f' := ⟨_, ((h.set _ _).set _ _).set _ _⟩
theorem put3_at {w : World} {g j n : Nat} {t : TypeId} {f : Nat → Value} (h : w.rowIs g t n f) (hn : j * 3 + 2 < n) (v0 v1 v2 : Value) : (put3 w g j v0 v1 v2).cell? ⟨g, j * 3, none⟩ = some v0 ∧ (put3 w g j v0 v1 v2).cell? ⟨g, j * 3 + 1, none⟩ = some v1 ∧ (put3 w g j v0 v1 v2).cell? ⟨g, j * 3 + 2, none⟩ = some v2 := by
  have hr := ((h.set (j * 3) v0).set (j * 3 + 1) v1).set (j * 3 + 2) v2
  unfold put3
  refine ⟨?_, ?_, ?_⟩
  · have := hr.cell (i := j * 3) (by omega)
    simpa using this
  · have := hr.cell (i := j * 3 + 1) (by omega)
    simpa using this
  · have := hr.cell (i := j * 3 + 2) (by omega)
    simpa using this
theorem GenG.setFar {w : World} {g rb cap b o : Nat} {ns : List Nd} {v : Value} (h : GenG w g rb cap ns) (hb : b ≠ g) (hk : ∀ j, j < ns.length → ∀ (A : Option Addr) (n c : Nat), w.cell? ⟨g, j * 3 + 2, none⟩ = some (.slice A n c) → blockOf A ≠ some b) : GenG (w.setCell ⟨b, o, none⟩ v) g rb cap ns := by
  have hbl : ∀ k, k ≠ b → (w.setCell ⟨b, o, none⟩ v).heap[k]? = w.heap[k]? := fun k hk => Below.heap_setCell _ _ _ _ hk
  have hg := hbl g (fun e => hb e.symm)
  obtain ⟨f, hf⟩ := h.row
  refine ⟨⟨f, hf.of_block hg⟩, h.le, h.few, fun j n hj => ?_, h.ne, fun i j A A' n n' c c' hij hi hj h1 h2 => h.dis i j A A' n n' c c' hij hi hj ((World.cell?_of_block (w := w) hg).symm.trans h1) ((World.cell?_of_block (w := w) hg).symm.trans h2)⟩
  have hn := h.nd j n hj
  obtain ⟨A, c, h1, h2, h3, h6, h4, h5⟩ := hn.kids
  have hc := fun q => World.cell?_of_block (w := w) (w' := w.setCell ⟨b, o, none⟩ v) (a := ⟨g, q, none⟩) hg
  exact ⟨(hc _).trans hn.kind, (hc _).trans hn.value, ⟨A, c, (hc _).trans h1, h2.same' (fun k hk2 => hbl k (fun e => hk j (List.getElem?_eq_some_iff.1 hj).1 A _ c h1 (by rw [hk2, e]))), h3, h6, h4, h5⟩, hn.wfk, hn.wfv⟩
theorem Rd.kept {w w' : World} {rb : Nat} {A : Option Addr} {n c p : Nat} (h : Rd w rb A n c p) (hr : Below (rb + 1) w w') : Rd w' rb A n c p :=
  ⟨h.box.below hr (by omega), h.bytes.later (hr.mono (by omega)), h.few⟩
theorem Rd.put {w : World} {rb g j : Nat} {A : Option Addr} {n c p : Nat} (h : Rd w rb A n c p) (hg : rb < g) (v0 v1 v2 : Value) : Rd (put3 w g j v0 v1 v2) rb A n c p :=
  h.kept ⟨rfl, rfl, rfl, by rw [put3_size]; exact Nat.le_refl _, fun k hk => put3_block (by omega)⟩
end Go.Proofs.YtbihgafkmmcjlaaDoor

namespace Go.Proofs.YtbihgafkmmcjlaaDoor
open Go.RowKit
def IsKey (n : Nd) : Prop := n.kind = 0 ∨ n.kind = 1
set_option maxHeartbeats 400000 in
theorem isKey_any (v : Value) (n : Nd) (w : World) :
    Calls Tryd.prog 59 #[.agg #[.int .i64 n.kind, .int .i64 n.value, v]] w fun e w' => e = .returned (.bool (tf (IsKey n))) ∧ Below w.heap.size w w' := by
  by_cases h0 : n.kind = 0
  · have HF := hide (show tf (IsKey n) = true from tf_true (.inl h0))
    have t : (n.kind == 0) = true := by simpa using h0
    clear h0
    go_enter Tryd.func59, Tryd.ntmps59
    go_wp2
    go_ret
    exact ⟨ret_bool HF.out.symm, (Below.refl _ _).alloc (Nat.le_refl _) _⟩
  · by_cases h1 : n.kind = 1
    · have HF := hide (show tf (IsKey n) = true from tf_true (.inr h1))
      have t : (n.kind == 0) = false := by simpa using h0
      have t1 : (n.kind == 1) = true := by simpa using h1
      clear h0 h1
      go_enter Tryd.func59, Tryd.ntmps59
      go_wp2
      go_ret
      exact ⟨ret_bool HF.out.symm, (Below.refl _ _).alloc (Nat.le_refl _) _⟩
    · have HF := hide (show tf (IsKey n) = false from tf_false (fun h => h.elim h0 h1))
      have t : (n.kind == 0) = false := by simpa using h0
      have t1 : (n.kind == 1) = false := by simpa using h1
      clear h0 h1
      go_enter Tryd.func59, Tryd.ntmps59
      go_wp2
      go_ret
      exact ⟨ret_bool HF.out.symm, (Below.refl _ _).alloc (Nat.le_refl _) _⟩
def SameKey (m n : Nd) : Prop := m.kind = n.kind ∧ m.value = n.value
set_option maxHeartbeats 400000 in
theorem sameKey_any (v v' : Value) (m n : Nd) (w : World) :
    Calls Tryd.prog 75 #[.agg #[.int .i64 m.kind, .int .i64 m.value, v], .agg #[.int .i64 n.kind, .int .i64 n.value, v']] w fun e w' => e = .returned (.bool (tf (SameKey m n))) ∧ Below w.heap.size w w' := by
  by_cases h0 : m.kind = n.kind
  · by_cases h1 : m.value = n.value
    · have HF := hide (show tf (SameKey m n) = true from tf_true ⟨h0, h1⟩)
      have t : (m.kind == n.kind) = true := by simpa using h0
      have t1 : (m.value == n.value) = true := by simpa using h1
      clear h0 h1
      go_enter Tryd.func75, Tryd.ntmps75
      go_wp2
      go_ret
      exact ⟨ret_bool HF.out.symm, ((Below.refl _ _).alloc (Nat.le_refl _) _).alloc (by simp) _⟩
    · have HF := hide (show tf (SameKey m n) = false from tf_false (fun h => h1 h.2))
      have t : (m.kind == n.kind) = true := by simpa using h0
      have t1 : (m.value == n.value) = false := by simpa using h1
      clear h0 h1
      go_enter Tryd.func75, Tryd.ntmps75
      go_wp2
      go_ret
      exact ⟨ret_bool HF.out.symm, ((Below.refl _ _).alloc (Nat.le_refl _) _).alloc (by simp) _⟩
  · have HF := hide (show tf (SameKey m n) = false from tf_false (fun h => h0 h.1))
    have t : (m.kind == n.kind) = false := by simpa using h0
    clear h0
    go_enter Tryd.func75, Tryd.ntmps75
    go_wp2
    go_ret
    exact ⟨ret_bool HF.out.symm, ((Below.refl _ _).alloc (Nat.le_refl _) _).alloc (by simp) _⟩
end Go.Proofs.YtbihgafkmmcjlaaDoor

namespace Go.Proofs.YtbihgafkmmcjlaaDoor
end Go.Proofs.YtbihgafkmmcjlaaDoor

namespace Go.Proofs.YtbihgafkmmcjlaaDoor
theorem infoOp : (Tryd.prog.info? 42).map (fun i => (i.zero, i.size, i.bytes)) = some (some (.agg #[.int .i64 0, .int .i64 0]), 2, 16) := by kernel_rfl
end Go.Proofs.YtbihgafkmmcjlaaDoor

namespace Go.Proofs.YtbihgafkmmcjlaaDoor
open Go.RowKit
set_option linter.unusedVariables false
def opVals (os : List Od) : List Value := os.flatMap fun o => [.int .i64 o.code, .int .i64 o.arg]
theorem opVals_cons (o : Od) (os : List Od) : opVals (o :: os) = .int .i64 o.code :: .int .i64 o.arg :: opVals os := by simp [opVals]
theorem opVals_snoc (os : List Od) (o : Od) : opVals (os ++ [o]) = opVals os ++ [.int .i64 o.code, .int .i64 o.arg] := by simp [opVals]
theorem opVals_len (os : List Od) : (opVals os).length = os.length * 2 := by
  induction os with
  | nil => rfl
  | cons o os ih => rw [opVals_cons]; simp [ih]; omega
theorem opVals_code {os : List Od} {k : Nat} {o : Od} (h : os[k]? = some o) : (opVals os)[k * 2]? = some (.int .i64 o.code) := by
  induction os generalizing k with
  | nil => simp at h
  | cons p os ih =>
    rw [opVals_cons]
    cases k with
    | zero => simp at h; subst h; rfl
    | succ k =>
      rw [show (k + 1) * 2 = k * 2 + 1 + 1 by omega, jF, jF]
      exact ih (by simpa using h)
theorem opVals_arg {os : List Od} {k : Nat} {o : Od} (h : os[k]? = some o) : (opVals os)[k * 2 + 1]? = some (.int .i64 o.arg) := by
  induction os generalizing k with
  | nil => simp at h
  | cons p os ih =>
    rw [opVals_cons]
    cases k with
    | zero => simp at h; subst h; rfl
    | succ k =>
      rw [show (k + 1) * 2 + 1 = k * 2 + 1 + 1 + 1 by omega, jF, jF]
      exact ih (by simpa using h)
structure OwnO (w : World) (base : Nat) (A : Option Addr) (c : Nat) (os : List Od) : Prop where
  own : w.ownsRow base 42 2 (.slice A os.length c) os.length (opVals os)
theorem OwnO.empty (w : World) (base : Nat) : OwnO w base none 0 [] := ⟨World.ownsRow_nil _ _ _ _⟩
theorem OwnO.bare (w : World) : OwnO (w.alloc (.cells #[] 42)) w.heap.size (some ⟨w.heap.size, 0, none⟩) 0 [] :=
  ⟨World.ownsRow_lit w #[] 0 (Nat.le_refl _) (by unfold maxLen; omega) rfl⟩
theorem OwnO.form {w : World} {base : Nat} {A : Option Addr} {c : Nat} {os : List Od} (h : OwnO w base A c os) :
    (A = none ∧ c = 0 ∧ os = []) ∨ ∃ g, A = some ⟨g, 0, none⟩ ∧ base ≤ g ∧ g < w.heap.size := by
  rcases h.own.2 with ⟨h1, h2⟩ | ⟨g, cap, cur, hv, hg, hh, _⟩
  · injection h1 with h1 _ h3
    exact .inl ⟨h1, h3, List.eq_nil_of_length_eq_zero h2⟩
  · injection hv with hv
    exact .inr ⟨g, hv, hg, lt_of_block hh⟩
theorem OwnO.ops {w : World} {base : Nat} {A : Option Addr} {c : Nat} {os : List Od} (h : OwnO w base A c os) (hwf : ∀ o ∈ os, In64 o.code ∧ In64 o.arg) (hl : os.length ≤ 9223372036854775807) : OpsAt w w.heap.size A os := by
  refine ⟨fun hx => ?_, hwf, hl⟩
  rcases h.form with ⟨_, _, h2⟩ | ⟨g, rfl, _, hlt⟩
  · exact absurd h2 hx
  · refine ⟨g, 0, rfl, hlt, fun j o hj => ?_⟩
    have hjl : j < os.length := (List.getElem?_eq_some_iff.1 hj).1
    rw [Nat.zero_add, h.own.cellAt (j * 2) (by omega), h.own.cellAt (j * 2 + 1) (by omega)]
    exact ⟨opVals_code hj, opVals_arg hj⟩
theorem OwnO.blocks {w : World} {base : Nat} {A : Option Addr} {c : Nat} {os : List Od} (h : OwnO w base A c os) : ∀ k, blockOf A = some k → base ≤ k ∧ k < w.heap.size := by
  intro k hk
  rcases h.form with ⟨rfl, _, _⟩ | ⟨g, rfl, h1, h2⟩
  · cases hk
  · simp [blockOf] at hk
    omega
theorem OwnO.alloc {w : World} {base : Nat} {A : Option Addr} {c : Nat} {os : List Od} (h : OwnO w base A c os) (o : Obj) : OwnO (w.alloc o) base A c os := ⟨h.own.alloc o⟩
theorem OwnO.drew {w : World} {base : Nat} {A : Option Addr} {c : Nat} {os : List Od} (h : OwnO w base A c os) : OwnO w.drew base A c os := ⟨h.own⟩
theorem OwnO.kept {w w' : World} {base : Nat} {A : Option Addr} {c : Nat} {os : List Od} {row : Option Nat} (h : OwnO w base A c os) (hg : w.grownBy w' row) (hne : blockOf A = none ∨ blockOf A ≠ row) : OwnO w' base A c os :=
  ⟨h.own.kept hg (by rw [ownBlock_slice]; exact hne)⟩
theorem OwnO.below {w w' : World} {base : Nat} {A : Option Addr} {c : Nat} {os : List Od} (h : OwnO w base A c os) (hb : Below w.heap.size w w') : OwnO w' base A c os :=
  h.kept (grownBy_of_below hb) (by cases hA : blockOf A <;> simp)
theorem OwnO.mono {w : World} {base base' : Nat} {A : Option Addr} {c : Nat} {os : List Od} (h : OwnO w base A c os) (hb : base' ≤ base) : OwnO w base' A c os := by
  refine ⟨h.own.1, ?_⟩
  rcases h.own.2 with h2 | ⟨g, cap, cur, hv, hg, r⟩
  · exact .inl h2
  · exact .inr ⟨g, cap, cur, hv, Nat.le_trans hb hg, r⟩
theorem OwnO.only {w w' : World} {base lo hi : Nat} {A : Option Addr} {c : Nat} {os : List Od} (h : OwnO w base A c os) (ho : Only lo hi w w') (hA : ∀ g, blockOf A = some g → g < lo ∨ hi ≤ g) : OwnO w' base A c os := by
  refine ⟨h.own.1, ?_⟩
  rcases h.own.2 with h2 | ⟨g, cap, cur, hv, hg, hh, r⟩
  · exact .inl h2
  · refine .inr ⟨g, cap, cur, hv, hg, ?_, r⟩
    rw [ho.block g]
    · exact hh
    · apply hA g
      injection hv with hv
      rw [hv]
      rfl
theorem OwnO.of_block {w w' : World} {base : Nat} {A : Option Addr} {c : Nat} {os : List Od} (h : OwnO w base A c os) (hA : ∀ g, blockOf A = some g → w'.heap[g]? = w.heap[g]?) : OwnO w' base A c os := by
  refine ⟨h.own.1, ?_⟩
  rcases h.own.2 with h2 | ⟨g, cap, cur, hv, hg, hh, r⟩
  · exact .inl h2
  · refine .inr ⟨g, cap, cur, hv, hg, ?_, r⟩
    rw [hA g (by injection hv with hv; rw [hv]; rfl)]
    exact hh
theorem OwnI.of_block {w w' : World} {base : Nat} {A : Option Addr} {c : Nat} {xs : List Int} (h : OwnI w base A c xs) (hA : ∀ g, blockOf A = some g → w'.heap[g]? = w.heap[g]?) : OwnI w' base A c xs := by
  refine ⟨h.own.1, ?_⟩
  rcases h.own.2 with h2 | ⟨g, cap, cur, hv, hg, hh, r⟩
  · exact .inl h2
  · refine .inr ⟨g, cap, cur, hv, hg, ?_, r⟩
    rw [hA g (by injection hv with hv; rw [hv]; rfl)]
    exact hh
theorem OwnI.set {w : World} {base g : Nat} {c : Nat} {xs : List Int} (h : OwnI w base (some ⟨g, 0, none⟩) c xs) (j : Nat) (x : Int) :
    OwnI (w.setCell ⟨g, j, none⟩ (.int .i64 x)) base (some ⟨g, 0, none⟩) c (xs.set j x) := by
  have := (h.own.stored j (.int .i64 x)).1
  refine ⟨?_⟩
  rw [List.length_set, List.map_set]
  exact this
theorem OwnI.cellAt {w : World} {base g : Nat} {c : Nat} {xs : List Int} (h : OwnI w base (some ⟨g, 0, none⟩) c xs) {j : Nat} {x : Int} (hj : xs[j]? = some x) : w.cell? ⟨g, j, none⟩ = some (.int .i64 x) := by
  rw [h.own.cellAt j (by have := (List.getElem?_eq_some_iff.1 hj).1; omega), List.getElem?_map, hj]
  rfl
theorem OwnO.row {w : World} {base g : Nat} {c : Nat} {os : List Od} (h : OwnO w base (some ⟨g, 0, none⟩) c os) :
    ∃ (cap : Nat) (f : Nat → Value), w.rowIs g 42 (cap * 2) f ∧ os.length ≤ cap ∧ cap ≤ maxLen ∧ c = cap ∧ base ≤ g := by
  rcases h.own.2 with ⟨h1, _⟩ | ⟨g', cap, cur, hv, hg, hh, hn, hm, hs, _⟩
  · injection h1 with h1
    cases h1
  · injection hv with hv _ hc
    obtain rfl : g = g' := by simpa using hv
    refine ⟨cap, fun i => (cur[i]?).getD undef, ⟨cur, hh, by simpa using hs, fun i hi => ?_⟩, hn, hm, hc, hg⟩
    have : i < cur.size := by rw [hs]; omega
    show _ = some ((cur[i]?).getD undef)
    rw [Array.getElem?_eq_getElem this]; rfl
theorem OwnO.of_row {w : World} {base g cap : Nat} {f : Nat → Value} {os : List Od} (h : w.rowIs g 42 (cap * 2) f) (hl : os.length ≤ cap) (hm : cap ≤ maxLen) (hb : base ≤ g) (hf : ∀ i, i < os.length * 2 → (opVals os)[i]? = some (f i)) :
    OwnO w base (some ⟨g, 0, none⟩) cap os := by
  obtain ⟨cur, hh, hs, hc⟩ := h
  refine ⟨⟨opVals_len os, .inr ⟨g, cap, cur, rfl, hb, hh, hl, hm, by simpa using hs, ?_⟩⟩⟩
  apply List.ext_getElem?
  intro i
  rw [List.getElem?_take]
  by_cases hi : i < os.length * 2
  · rw [if_pos hi, Array.getElem?_toList, hc i (by omega), hf i hi]
  · rw [if_neg hi, List.getElem?_eq_none (by rw [opVals_len]; omega)]
theorem vals_one (o : Od) : ∀ u ∈ [Value.int .i64 o.code, Value.int .i64 o.arg], u.oneCell' = true := by
  intro u hu
  simp at hu
  rcases hu with rfl | rfl <;> rfl
theorem append_op {w : World} {ops : Array Oper} {rest : List Oper} {o : Oper} {a : Act} {Q : Exit → Act → World → Prop} (hgd : o.guard = none) (s x : Operand)
    (ho : o.op = .call { callee := .builtin .append, args := #[s, x], argTypes := #[23, 23] })
    (base : Nat) (A : Option Addr) (c : Nat) (os : List Od) (hs : a.eval s = .slice A os.length c) (hown : OwnO w base A c os)
    (b : Nat) (d : Od) (t : TypeId) (hx : a.eval x = .slice (some ⟨b, 0, none⟩) 1 1) (hr : Lies w b #[.int .i64 d.code, .int .i64 d.arg] t)
    (hsum : os.length + 1 ≤ 16777216) (hbase : base ≤ w.heap.size)
    (h : ∀ (zs : List Od) (A' : Option Addr) (c' : Nat) (w' : World), Hid (zs = os ++ [d]) → OwnO w' base A' c' zs → w.grownBy w' (blockOf A) → (blockOf A' = blockOf A ∨ blockOf A' = some w.heap.size) →
      wpList Tryd.prog ops Q rest (a.put o.dst (.slice A' zs.length c')) w') : wpList Tryd.prog ops Q (o :: rest) a w := by
  obtain ⟨i0, hi, hz0, hz1, hz2⟩ := info_parts infoOp
  refine wpList_append_own_at w hgd s x 23 ho base 42 i0 _ 2 16 Tryd.underlying23 hi hz0 hz1 hz2 rfl (by omega) _ _ _ hs hown.own ⟨b, 0, none⟩ 1 1 [.int .i64 d.code, .int .i64 d.arg] hx (by simp) (World.news_of_block hr) (vals_one d)
    (by unfold maxLen; omega) (by omega) hbase ?_
  intro v' w' h2 h3 _ h5
  have hlen : os.length + 1 = (os ++ [d]).length := by simp
  rw [ownBlock_slice] at h3 h5
  rw [← opVals_snoc, hlen] at h2
  rcases h2.2 with ⟨_, h6⟩ | ⟨g, cap, cur, rfl, _⟩
  · simp at h6
  · exact h (os ++ [d]) _ _ w' (by simp [Hid]) ⟨h2⟩ h3 (by simpa [ownBlock_slice] using h5)
def GivesOps (w : World) (os : List Od) (e : Ending) (w' : World) : Prop := ∃ A c, e = .returned (.slice A os.length c) ∧ OwnO w' w.heap.size A c os ∧ Below w.heap.size w w'
end Go.Proofs.YtbihgafkmmcjlaaDoor

namespace Go.Proofs.YtbihgafkmmcjlaaDoor
open Go.RowKit
set_option linter.unusedVariables false
theorem opVals_one (os : List Od) : ∀ u ∈ opVals os, u.oneCell' = true := by
  intro u hu
  obtain ⟨o, _, hu⟩ := List.mem_flatMap.1 hu
  simp at hu
  rcases hu with rfl | rfl <;> rfl
theorem opVals_append (os ps : List Od) : opVals (os ++ ps) = opVals os ++ opVals ps := by simp [opVals]
theorem OpsAt.vals {w : World} {B b off : Nat} {os : List Od} (h : OpsAt w B (some ⟨b, off, none⟩) os) : ∀ j u, (opVals os)[j]? = some u → w.cell? ⟨b, off + j, none⟩ = some u := by
  intro j u hu
  have hj : j < os.length * 2 := by have := (List.getElem?_eq_some_iff.1 hu).1; rwa [opVals_len] at this
  have hk : j / 2 < os.length := by omega
  obtain ⟨b', off', o, e, _, ho, _, hc0, hc1⟩ := h.at_ hk
  injection e with e
  injection e with e1 e2
  subst e1 e2
  rcases Nat.mod_two_eq_zero_or_one j with hm | hm
  · have ej : j = j / 2 * 2 := by omega
    have := opVals_code ho
    rw [← ej] at this hc0
    rw [this] at hu
    injection hu with hu
    rw [← hu]
    exact hc0
  · have ej : j = j / 2 * 2 + 1 := by omega
    have := opVals_arg ho
    rw [← ej] at this
    rw [Nat.add_assoc, ← ej] at hc1
    rw [this] at hu
    injection hu with hu
    rw [← hu]
    exact hc1
theorem append_ops {w : World} {ops : Array Oper} {rest : List Oper} {o : Oper} {a : Act} {Q : Exit → Act → World → Prop} (hgd : o.guard = none) (s x : Operand)
    (ho : o.op = .call { callee := .builtin .append, args := #[s, x], argTypes := #[23, 23] })
    (base : Nat) (A : Option Addr) (c : Nat) (xs : List Od) (hs : a.eval s = .slice A xs.length c) (hown : OwnO w base A c xs)
    (B : Nat) (A2 : Option Addr) (c2 : Nat) (ys : List Od) (hx : a.eval x = .slice A2 ys.length c2) (hnil : A2 = none → c2 = 0) (hr : OpsAt w B A2 ys)
    (hsum : xs.length + ys.length ≤ 8388608) (hbase : base ≤ w.heap.size)
    (h : ∀ (zs : List Od) (A' : Option Addr) (c' : Nat) (w' : World), Hid (zs = xs ++ ys) → OwnO w' base A' c' zs → w.grownBy w' (blockOf A) → (blockOf A' = blockOf A ∨ blockOf A' = some w.heap.size) →
      wpList Tryd.prog ops Q rest (a.put o.dst (.slice A' zs.length c')) w') : wpList Tryd.prog ops Q (o :: rest) a w := by
  obtain ⟨i0, hi, hz0, hz1, hz2⟩ := info_parts infoOp
  have hempty : A2 = none → ys = [] := by
    intro e
    cases ys with
    | nil => rfl
    | cons y ys =>
      obtain ⟨b, off, e2, _⟩ := hr.row (by simp)
      rw [e] at e2; cases e2
  rcases A2 with _ | ad
  · obtain rfl := hnil rfl
    obtain rfl := hempty rfl
    exact wpList_append_own_none hgd s x 23 ho base 42 i0 2 Tryd.underlying23 hi _ _ _ hs hown.own hx
      (h xs A c w (by simp [Hid]) hown (World.grownBy.refl w _) (.inl rfl))
  · have hcells : ∀ j u, (opVals ys)[j]? = some u → w.cell? (ad.add j) = some u := by
      intro j u hu
      have hy : ys ≠ [] := by intro e; subst e; simp [opVals] at hu
      obtain ⟨b, off, e2, _⟩ := hr.row hy
      obtain rfl : ad = ⟨b, off, none⟩ := Option.some.inj e2
      have hadd : (⟨b, off, none⟩ : Addr).add j = ⟨b, off + j, none⟩ := by
        unfold Addr.add
        split
        · rename_i h0; subst h0; rfl
        · rfl
      rw [hadd]
      exact hr.vals j u hu
    refine wpList_append_own_at w hgd s x 23 ho base 42 i0 _ 2 16 Tryd.underlying23 hi hz0 hz1 hz2 rfl (by omega) _ _ _ hs hown.own ad ys.length c2 (opVals ys) hx (by rw [opVals_len]) hcells (opVals_one ys)
      (by unfold maxLen; omega) (by omega) hbase ?_
    intro v' w' h2 h3 _ h5
    have hlen : xs.length + ys.length = (xs ++ ys).length := by simp
    rw [ownBlock_slice] at h3 h5
    rw [← opVals_append, hlen] at h2
    rcases h2.2 with ⟨rfl, h6⟩ | ⟨g, cap, cur, rfl, _⟩
    · have hzs : xs ++ ys = [] := List.eq_nil_of_length_eq_zero h6
      have := h (xs ++ ys) none 0 w' (by simp [Hid]) ⟨by rw [h6] at h2 ⊢; exact h2⟩ h3 (by simpa [blockOf, Value.ownBlock] using h5)
      rw [h6] at this
      exact this
    · exact h (xs ++ ys) _ _ w' (by simp [Hid]) ⟨h2⟩ h3 (by simpa [ownBlock_slice] using h5)
theorem OpsAt.upto {w : World} {B : Nat} {A : Option Addr} {os : List Od} (h : OpsAt w B A os) (n : Nat) : OpsAt w B A (os.take n) := by
  refine ⟨fun hx => ?_, fun x hx => h.wf x (List.mem_of_mem_take hx), Nat.le_trans (by simp; omega) h.len⟩
  obtain ⟨b, off, e, hlt, hc⟩ := h.row (by intro e; subst e; simp at hx)
  refine ⟨b, off, e, hlt, fun j x hj => hc j x ?_⟩
  rw [List.getElem?_take] at hj
  split at hj
  · exact hj
  · cases hj
end Go.Proofs.YtbihgafkmmcjlaaDoor

namespace Go.Proofs.YtbihgafkmmcjlaaDoor
open Go.RowKit
set_option linter.unusedVariables false
theorem OpsAt.one {w : World} {b : Nat} {o : Od} {t : TypeId} (h : Lies w b #[.int .i64 o.code, .int .i64 o.arg] t) (h64 : In64 o.code ∧ In64 o.arg) : OpsAt w w.heap.size (some ⟨b, 0, none⟩) [o] := by
  have c0 := h.cell 0
  have c1 := h.cell 1
  simp only [jD, jE, jF] at c0 c1
  refine ⟨fun _ => ⟨b, 0, rfl, h.lt, fun j x hj => ?_⟩, fun x hx => ?_, by simp⟩
  · match j, hj with
    | 0, hj =>
      simp at hj
      subst hj
      exact ⟨c0, c1⟩
  · rw [List.mem_singleton.1 hx]
    exact h64
set_option maxHeartbeats 1000000 in
theorem emit_any (A : Option Addr) (os : List Od) (c : Nat) (B : Option Addr) (ps : List Od) (d : Nat) (w : World) (h : OpsAt w w.heap.size A os) (hn : A = none → c = 0) (h2 : OpsAt w w.heap.size B ps) (hn2 : B = none → d = 0) (hl : os.length + ps.length ≤ 8000000) :
    Calls Tryd.prog 38 #[.slice A os.length c, .slice B ps.length d] w (GivesOps w (os ++ ps)) := by
  have Hn := hide hn
  have Hn2 := hide hn2
  have HE := hide (OwnO.bare w)
  have HB := hide ((Below.refl w.heap.size w).alloc (Nat.le_refl _) (.cells #[] 42))
  clear hn hn2
  go_enter Tryd.func38, Tryd.ntmps38
  go_wp2_with (at_builtin; first
    | (refine append_ops rfl (.tmp 5) (.tmp 6) rfl w.heap.size _ 0 [] rfl HE.out w.heap.size A c os rfl Hn.out (h.below HB.out) (by simp; omega) HB.out.size ?_; intro zs A5 c5 w6 e5 own5 hg5 _; have HB6 := hide (below_grown HB.out hg5 HB.out.size (fun q hq => (HE.out.blocks q hq).1)); have HO6 := hide own5; have hz6 : zs.length = os.length := (by rw [e5.out, List.nil_append]); have hz7 : zs.length ≤ os.length := (by omega); clear own5 hg5 hz6)
    | (refine append_ops rfl (.tmp 7) (.tmp 8) rfl w.heap.size A5 c5 zs rfl HO6.out w.heap.size B d ps rfl Hn2.out (h2.below HB6.out) (by omega) HB6.out.size ?_; intro ys A7 c7 w8 e7 own7 hg7 _; have HB8 := hide (below_grown HB6.out hg7 HB6.out.size (fun q hq => (HO6.out.blocks q hq).1)); have HO8 := hide own7; clear own7 hg7))
  go_ret
  have e8 : ys = os ++ ps := by rw [e7.out, e5.out, List.nil_append]
  subst e8
  exact ⟨A7, c7, rfl, HO8.out, HB8.out⟩
end Go.Proofs.YtbihgafkmmcjlaaDoor

namespace Go.Proofs.YtbihgafkmmcjlaaDoor
set_option linter.unusedVariables false
def marksIn (l : List Int) : Nat := (l.filter fun x => decide (x < 0)).length
noncomputable def toldOf (f : List Int → Nat) (os : List Od) (n : Nat) : List Int := (List.range n).map fun j => ((f (stk os (j + 1)) : Nat) : Int)
open Classical in
noncomputable def depthsOf (os : List Od) : List Int := if OpsOk os then toldOf List.length os (runShp Shp.new os).2 else []
open Classical in
noncomputable def marksOf (os : List Od) : List Int := if OpsOk os then toldOf marksIn os (runShp Shp.new os).2 else []
theorem run_le {os : List Od} (h : ∀ o ∈ os, OdOk o) : (runShp Shp.new os).2 ≤ os.length :=
  (runShp_ok (s := Shp.new) (os := os) Shp.new_ok ⟨by simp [Shp.new], by simp [Shp.new]⟩ (fun o ho => (h o ho).get)).2.2
end Go.Proofs.YtbihgafkmmcjlaaDoor

namespace Go.Proofs.YtbihgafkmmcjlaaDoor
end Go.Proofs.YtbihgafkmmcjlaaDoor

namespace Go.Proofs.YtbihgafkmmcjlaaDoor
set_option linter.unusedVariables false
open Classical in
noncomputable def firstBad (os : List Od) : Int := if OpsOk os then (if (runShp Shp.new os).2 = os.length then -1 else ((runShp Shp.new os).2 : Int)) else -2
def Whole (os : List Od) : Prop := OpsOk os ∧ (runShp Shp.new os).2 = os.length ∧ (runShp Shp.new os).1.done = true
end Go.Proofs.YtbihgafkmmcjlaaDoor

namespace Go.Proofs.YtbihgafkmmcjlaaDoor
open Go.RowKit
set_option linter.unusedVariables false
theorem Shp.use_bits (s : Shp) (a : Int) : s.useAt a = 64 ∨ s.useAt a = 32 ∨ s.useAt a = 3 ∨ s.useAt a = 5 ∨ s.useAt a = 9 ∨ s.useAt a = 17 ∨ s.useAt a = 1 := by
  unfold Shp.useAt Shp.useOf useBits
  repeat' split
  all_goals simp
theorem keysP_at {s : Shp} (h : s.Ok) {a k : Nat} (hfree : ∀ j, a ≤ j → j < s.stack.length → 0 ≤ s.stack.getD j 0) (hk : k < s.stack.length) (hak : a ≤ k) (he : (k - a) % 2 = 0) (hn : s.useAt (k : Int) &&& 2 = 0) : ¬ KeysP s.kinds (s.stack.drop a) := by
  intro hp
  have hx : (s.stack.drop a)[k - a]? = some (s.stack.getD k 0) := by
    rw [List.getElem?_drop, show a + (k - a) = k by omega, List.getD_eq_getElem?_getD, List.getElem?_eq_getElem hk]; rfl
  have hkey := hp (k - a) _ he hx
  have h0 := hfree k hak hk
  have hu : s.useAt (k : Int) = useBits (s.kinds.getD (s.stack.getD k 0).toNat 0) (s.full.getD (s.stack.getD k 0).toNat false) := by
    unfold Shp.useAt Shp.useOf
    rw [if_neg (by omega), Int.toNat_natCast, if_neg (by omega)]
  have := (useBits_2 _ (s.full.getD (s.stack.getD k 0).toNat false)).2 hkey
  rw [← hu] at this
  omega
theorem keysP_all {s : Shp} (h : s.Ok) {a : Nat} (hfree : ∀ j, a ≤ j → j < s.stack.length → 0 ≤ s.stack.getD j 0) (hall : ∀ j, a ≤ j → j < s.stack.length → (j - a) % 2 = 0 → s.useAt (j : Int) &&& 2 = 2) : KeysP s.kinds (s.stack.drop a) := by
  intro i x hi hx
  rw [List.getElem?_drop] at hx
  have hl := (List.getElem?_eq_some_iff.1 hx).1
  have h0 := hfree (a + i) (by omega) hl
  have hg : s.stack.getD (a + i) 0 = x := by rw [List.getD_eq_getElem?_getD, hx]; rfl
  have hu : s.useAt ((a + i : Nat) : Int) = useBits (s.kinds.getD x.toNat 0) (s.full.getD x.toNat false) := by
    unfold Shp.useAt Shp.useOf
    rw [if_neg (by omega), Int.toNat_natCast, hg, if_neg (by omega)]
  have := hall (a + i) (by omega) hl (by omega)
  rw [hu] at this
  exact (useBits_2 _ _).1 this
theorem and_two : ∀ u : Nat, (u = 64 ∨ u = 32 ∨ u = 3 ∨ u = 5 ∨ u = 9 ∨ u = 17 ∨ u = 1) → (u = 3 ∧ u &&& 2 = 2) ∨ (u ≠ 3 ∧ u &&& 2 = 0) := by
  intro u hu
  rcases hu with rfl | rfl | rfl | rfl | rfl | rfl | rfl <;> decide
set_option maxRecDepth 100000 in
set_option maxHeartbeats 4000000 in
theorem useFrom_any (q base off : Nat) (p : ShPtr) (s : Shp) (a : Nat) (w : World) (h : SbAt w base q off p s) (hs : s.Small) (ha : a ≤ s.stack.length) (hfree : ∀ j, a ≤ j → j < s.stack.length → 0 ≤ s.stack.getD j 0) :
    Calls Tryd.prog 64 #[.pointer (some ⟨q, off, none⟩), .int .i64 (a : Int)] w fun e w' => e = .returned (.int .i64 (s.useFrom a : Int)) ∧ w' = w := by
  obtain ⟨e0, e1, e2, e3, e4, _, _, _, _, _⟩ := h.c
  have hst := hs.t
  have Hh := hide h
  have Hs := hide hs
  have Hfree := hide hfree
  clear h hs hfree
  by_cases hev : (s.stack.length - a) % 2 = 0
  · obtain ⟨m, hm⟩ : ∃ m, s.stack.length - a = 2 * m := ⟨(s.stack.length - a) / 2, by omega⟩
    have hmod : ((s.stack.length : Int) - (a : Int)) % 2 = 0 := by omega
    have hb : (((s.stack.length : Int) - (a : Int)) % 2 != 0) = false := by rw [hmod]; rfl
    have Hm := hide hm
    have Hev := hide hev
    clear hm hmod hev
    go_enter Tryd.func64, Tryd.ntmps64
    go_wp2_with fail
    go_loop [1] (fun v => ∃ k : Nat, a ≤ k ∧ k ≤ s.stack.length ∧ (k - a) % 2 = 0 ∧ v = .int .i64 (k : Int) ∧ ∀ j, a ≤ j → j < k → (j - a) % 2 = 0 → s.useAt (j : Int) &&& 2 = 2) (fun v => s.stack.length - (intOf v).toNat)
    case atStart => exact ⟨a, Nat.le_refl _, ha, by simp, rfl, fun j h1 h2 => absurd h1 (by omega)⟩
    case round =>
      obtain ⟨k, hak, hk, hke, rfl, hall⟩ := hrel
      have Hall := hide hall
      have Hke := hide hke
      clear hall hke
      by_cases hlt : k < s.stack.length
      · obtain ⟨u, hu⟩ : ∃ u, s.useAt (k : Int) = u := ⟨_, rfl⟩
        have hu7 := s.use_bits (k : Int)
        rw [hu] at hu7
        have h2 := and_two u hu7
        have hcall := useAt_q q base off p s (k : Int) u w Hh.out Hs.out (by omega) (by omega) hu
        have Hu := hide hu
        have hlt2 : (k : Int) < (s.stack.length : Int) := by omega
        clear hu
        rcases hu7 with rfl | rfl | rfl | rfl | rfl | rfl | rfl
        case inr.inr.inl =>
          go_wp2_with fail
          refine hcall.mono ?_
          rintro e w' ⟨rfl, rfl⟩
          have hkl2 : k + 2 ≤ s.stack.length := by
            have := Hm.out
            have := Hke.out
            omega
          go_wp2
          go_round
          case rel => exact ⟨k + 2, by omega, hkl2, by have := Hke.out; omega, by go_num, fun j h1 h2 h3 => by
            by_cases e : j = k
            · subst e; rw [Hu.out] <;> decide
            · have : j ≠ k + 1 := fun e => by subst e; have := Hke.out; omega
              exact Hall.out j h1 (by omega) h3⟩
          case measure => simp [intOf]; omega
        all_goals
          (have HR := hide (show s.useFrom a = 0 by
             unfold Shp.useFrom
             rw [if_neg]
             intro hh
             exact keysP_at Hs.out.ok Hfree.out hlt hak Hke.out (by rw [Hu.out]; decide) hh.2)
           go_wp2_with fail
           refine hcall.mono ?_
           rintro e w' ⟨rfl, rfl⟩
           go_wp2
           go_ret
           exact ⟨by rw [HR.out] <;> rfl, rfl⟩)
      · obtain rfl : k = s.stack.length := by omega
        have HR := hide (show s.useFrom a = 128 by
          unfold Shp.useFrom
          rw [if_pos ⟨Hev.out, keysP_all Hs.out.ok Hfree.out Hall.out⟩])
        go_wp2
        go_ret
        exact ⟨by rw [HR.out] <;> rfl, rfl⟩
  · obtain ⟨m, hm⟩ : ∃ m, s.stack.length - a = 2 * m + 1 := ⟨(s.stack.length - a) / 2, by omega⟩
    have hmod : ((s.stack.length : Int) - (a : Int)) % 2 = 1 := by omega
    have hb : (((s.stack.length : Int) - (a : Int)) % 2 != 0) = true := by rw [hmod]; rfl
    have HR := hide (show s.useFrom a = 0 by unfold Shp.useFrom; rw [if_neg (fun hh => hev hh.1)])
    clear hm hmod hev
    go_enter Tryd.func64, Tryd.ntmps64
    go_wp2
    go_ret
    exact ⟨by rw [HR.out] <;> rfl, rfl⟩
end Go.Proofs.YtbihgafkmmcjlaaDoor

namespace Go.Proofs.YtbihgafkmmcjlaaDoor
open Go.RowKit
set_option linter.unusedVariables false
theorem grown_undrew {w w1 : World} {row : Option Nat} (h : w.drew.grownBy w1 row) : w.grownBy w1 row := ⟨h.os, h.tape, h.output, h.size, h.block⟩
set_option maxRecDepth 100000 in
set_option maxHeartbeats 4000000 in
theorem pushNew_any (q base off : Nat) (p : ShPtr) (s : Shp) (k : Int) (w : World) (h : SbAt w base q off p s) (hs : s.Small) (hbase : base ≤ w.heap.size) (hk : In64 k) :
    Calls Tryd.prog 47 #[.pointer (some ⟨q, off, none⟩), .int .i64 k] w (TurnsSb w base q off p (s.push k)) := by
  have hkl := hs.k
  have htl := hs.t
  have hfl : s.full.length ≤ 1000 := by have := hs.ok.fl; omega
  have hin : In64 (s.kinds.length : Int) := by constructor <;> omega
  have Hh := hide h
  have hlt := h.lt
  have hlit := hide (show IntsAt (w.alloc (.cells #[.int .i64 (s.kinds.length : Int)] 3)).drew (w.alloc (.cells #[.int .i64 (s.kinds.length : Int)] 3)).drew.heap.size (some ⟨w.heap.size, 0, none⟩) [(s.kinds.length : Int)] from by
    have h0 := (IntsAt.lit w [(s.kinds.length : Int)] (by intro v hv; simp at hv; rw [hv]; exact hin) (by simp)).below (Below.refl _ _).drew
    simpa using h0)
  obtain ⟨e0, e1, e2, e3, e4, f0, f1, f2, f3, f4⟩ := h.c
  clear h hs
  go_enter Tryd.func47, Tryd.ntmps47
  go_wp2_with fail
  go_region_law (first
    | (refine step_append_ints (by rfl) _ _ (by rfl) base p.S p.c3 s.stack (by rfl) ((Hh.out.own.t.alloc _).drew) ⟨w.heap.size, 0, none⟩ 1 [(s.kinds.length : Int)] (by simp) (by rfl) hlit.out (by simp; omega) (by simp; omega) ?_; intro zs A' c' w1 hz ho1 hg1 ha1; have HP := hide (Hh.out.pushT ho1 (grown_undrew hg1) ha1); obtain ⟨g0, g1, g2, g3, g4, k0, k1, k2, k3, k4⟩ := Hh.out.c.ofB (Hh.out.grownB (grown_undrew hg1) Hh.out.off_.t)))
  all_goals
    obtain ⟨hX, fX⟩ := HP.out
    have Hz := hide hz.out
    have hzl : zs.length ≤ 1001 := by rw [Hz.out]; simp; omega
    clear hz ho1 hg1 ha1 HP g0 g1 g2 g3 g4 k0 k1 k2 k3 k4 e0 e1 e2 e3 e4 f0 f1 f2 f3 f4 hlit Hh
    have hXs := fX.size
    have HF := hide fX
    generalize w1.setCell ⟨q, off + 2, none⟩ (.slice A' zs.length c') = X at hX HF hXs ⊢
    have HX := hide hX
    obtain ⟨e0, e1, e2, e3, e4, f0, f1, f2, f3, f4⟩ := hX.c
    clear hX fX
    go_wp2_with (first
      | (at_builtin; refine append_ints rfl (.tmp 22) (.tmp 24) rfl base p.K p.c1 s.kinds rfl (HX.out.own.k.alloc _) _ _ 1 [k] rfl (fun e => by cases e) (IntsAt.oneN _ X.heap.size k hk rfl) (by simp <;> omega) (by simp <;> omega) ?_; intro ys A5 c5 w5 hz5 ho5 hg5 ha5; obtain ⟨d0, d1, d2, d3, d4, m0, m1, m2, m3, m4⟩ := HX.out.c.ofB (HX.out.grownB hg5 HX.out.off_.k); have S5 := hide (HX.out.pushK ho5 hg5 ha5); have z5 := hg5.size; simp at z5)
      | (at_builtin; refine append_bools rfl (.tmp 32) (.tmp 33) rfl base p.F p.c2 s.full rfl (S5.out.1.own.f.alloc _) _ _ 1 [false] rfl (fun e => by cases e) (BoolsAt.oneN _ w5.heap.size false (by simp)) (by simp <;> omega) (by simp <;> omega) ?_; intro xs A6 c6 w6 hz6 ho6 hg6 ha6; obtain ⟨p0, p1, p2, p3, p4, n0, n1, n2, n3, n4⟩ := S5.out.1.c.ofB (S5.out.1.grownB hg6 S5.out.1.off_.f); have S6 := hide (S5.out.1.pushF ho6 hg6 ha6)))
    have hp : ({ s with kinds := ys, full := xs, stack := zs } : Shp) = s.push k := by
      unfold Shp.push
      rw [Hz.out, hz5.out, hz6.out]
    have h6 := S6.out.1
    rw [hp] at h6
    go_end0
    exact ⟨rfl, _, h6, (HF.out.trans S5.out.2).trans S6.out.2⟩
theorem take_any (q base off : Nat) (p : ShPtr) (s : Shp) (t : Int) (n : Nat) (w : World) (h : SbAt w base q off p s) (hs : s.Small) (hn : n ≤ s.stack.length) (ht : t ≠ -1) (htn : (n : Int) = (s.stack.length : Int) - t) (ht0 : 0 ≤ t) :
    Calls Tryd.prog 29 #[.pointer (some ⟨q, off, none⟩), .int .i64 t] w (TurnsSb w base q off p (s.cutTo n)) := by
  have htl := hs.t
  have hcap := h.own.t.capLen
  have Hh := hide h
  have hlt := h.lt
  obtain ⟨e0, e1, e2, e3, e4, f0, f1, f2, f3, f4⟩ := h.c
  have ht1 : (t == -1) = false := by simpa using ht
  have hst : IntKind.i64.wrap ((s.stack.length : Int) - t) = (n : Int) := by rw [IntKind.wrap_i64]; omega
  obtain ⟨m, hm⟩ : ∃ m : Nat, s.stack.length = m + n := ⟨s.stack.length - n, by omega⟩
  obtain rfl : t = (m : Int) := by omega
  have hb1 : (0 : Int) ≤ (n : Int) := by omega
  have hb2 : (n : Int) ≤ (s.stack.length : Int) := by omega
  have hb3 : (n : Int) ≤ (p.c3 : Int) := by omega
  have hd : (s.stack.length : Int) - (m : Int) = (n : Int) := by omega
  have Htn := hide htn
  have Hm := hide hm
  have HC := hide (Hh.out.cut hn)
  clear h hs htn ht hst hm
  go_enter Tryd.func29, Tryd.ntmps29
  go_wp2
  go_end0
  exact ⟨rfl, _, HC.out.1, HC.out.2⟩
theorem take_all (q base off : Nat) (p : ShPtr) (s : Shp) (a : Nat) (w : World) (h : SbAt w base q off p s) (hs : s.Small) (ha : above s.stack = a + 1) :
    Calls Tryd.prog 29 #[.pointer (some ⟨q, off, none⟩), .int .i64 (-1)] w (TurnsSb w base q off p (s.cutTo a)) := by
  have htl := hs.t
  have hcap := h.own.t.capLen
  have hal := above_le s.stack
  have Hh := hide h
  have hlt := h.lt
  have hok := hs.ok.st
  have cm := aboveMark_any p.S s.stack p.c3 w (h.own.at_ hs).t (fun x hx => (hok x hx).1)
  rw [ha] at cm
  have CM := hide cm
  obtain ⟨e0, e1, e2, e3, e4, f0, f1, f2, f3, f4⟩ := h.c
  have hb1 : (0 : Int) ≤ (a : Int) := by omega
  have hb2 : (a : Int) + 1 ≤ (s.stack.length : Int) := by omega
  have hb3 : (a : Int) + 1 ≤ (p.c3 : Int) := by omega
  have hb4 : ((a + 1 : Nat) : Int) - 1 = (a : Int) := by omega
  have HC := hide (Hh.out.cut (n := a) (by omega))
  clear h hs ha hal hok cm
  go_enter Tryd.func29, Tryd.ntmps29
  go_wp2_with fail
  refine CM.out.mono ?_
  rintro e w' ⟨rfl, rfl⟩
  go_wp2
  go_end0
  exact ⟨rfl, _, HC.out.1, HC.out.2⟩
end Go.Proofs.YtbihgafkmmcjlaaDoor

namespace Go.Proofs.YtbihgafkmmcjlaaDoor
open Go.RowKit
set_option linter.unusedVariables false
def GivesV (w : World) (v0 v1 v2 : Nat) (e : Ending) (w' : World) : Prop := e = .returned (.agg #[.int .i64 (v0 : Int), .int .i64 (v1 : Int), .int .i64 (v2 : Int)]) ∧ Below w.heap.size w w'
theorem lies3_set {w : World} {g : Nat} {u0 u1 u2 : Value} {t : TypeId} (h : Lies w g #[u0, u1, u2] t) (v0 v1 v2 : Value) : Lies (((w.setCell ⟨g, 0, none⟩ v0).setCell ⟨g, 1, none⟩ v1).setCell ⟨g, 2, none⟩ v2) g #[v0, v1, v2] t := by
  have := ((h.set 0 v0).set 1 v1).set 2 v2
  simpa using this
set_option maxRecDepth 100000 in
set_option maxHeartbeats 4000000 in
theorem viewOf_all (q base off : Nat) (p : ShPtr) (s : Shp) (v0 v1 v2 : Nat) (w : World) (h : SbAt w base q off p s) (hs : s.Small) (h0 : s.useAt ((above s.stack : Int) - 2) = v0) (h1 : s.useAt ((above s.stack : Int) - 1) = v1) (h2 : s.useFrom (above s.stack) = v2) :
    Calls Tryd.prog 44 #[.pointer (some ⟨q, off, none⟩), .int .i64 (-1)] w (GivesV w v0 v1 v2) := by
  have hB : Below w.heap.size w (w.alloc (.cells #[.int .i64 0, .int .i64 0, .int .i64 0] 78)) := (Below.refl _ _).alloc (Nat.le_refl _) _
  have l1 := Lies.new w #[.int .i64 0, .int .i64 0, .int .i64 0] 78
  have hb := h.alloc (.cells #[.int .i64 0, .int .i64 0, .int .i64 0] 78)
  have hal := above_le s.stack
  have hst := hs.t
  have hfree : ∀ j, above s.stack ≤ j → j < s.stack.length → 0 ≤ s.stack.getD j 0 := fun j h1 h2 => above_free h1 h2
  have hok := hs.ok.st
  have H2 := hide h2
  have Hs := hide hs
  have HB := hide hB
  have hat := (hb.own.at_ hs).t
  have c0 := useAt_q q base off p s ((above s.stack : Int) - 2) v0 _ hb hs (by omega) (by omega) h0
  have c1 := useAt_q q base off p s ((above s.stack : Int) - 1) v1 _ hb hs (by omega) (by omega) h1
  have c2 := useFrom_any q base off p s (above s.stack) _ hb hs hal hfree
  have cm := aboveMark_any p.S s.stack p.c3 _ hat (fun x hx => (hok x hx).1)
  rw [h2] at c2
  obtain ⟨e0, e1, e2, e3, e4, _, _, _, _, _⟩ := hb.c
  have C0 := hide c0
  have C1 := hide c1
  have C2 := hide c2
  have CM := hide cm
  clear c0 c1 c2 cm hat hfree hok h hs hb hB h0 h1 h2 H2
  generalize above s.stack = a at hal C0 C1 C2 CM
  go_enter Tryd.func44, Tryd.ntmps44
  go_upto_region 1 with fail
  generalize w.alloc (.cells #[.int .i64 0, .int .i64 0, .int .i64 0] 78) = W at l1 e0 e1 e2 e3 e4 C0 C1 C2 CM HB ⊢
  go_wp2_with fail
  refine CM.out.mono ?_
  rintro e w' ⟨rfl, rfl⟩
  go_wp2_with fail
  refine C0.out.mono ?_
  rintro e w' ⟨rfl, rfl⟩
  go_wp2_with fail
  refine C1.out.mono ?_
  rintro e w' ⟨rfl, rfl⟩
  go_wp2_with fail
  refine C2.out.mono ?_
  rintro e w' ⟨rfl, rfl⟩
  have l2 := lies3_set l1 (.int .i64 (v0 : Int)) (.int .i64 (v1 : Int)) (.int .i64 (v2 : Int))
  have s0 := l2.cell 0
  have s1 := l2.cell 1
  have s2 := l2.cell 2
  have r0 := l1.cell 0
  have r1 := l1.cell 1
  have r2 := l1.cell 2
  have f0 := l1.frozen 0
  have f1 := l1.frozen 1
  have f2 := l1.frozen 2
  simp only [jD, jE, jF] at s0 s1 s2 r0 r1 r2
  have HB2 := hide (((HB.out.setCell (p := ⟨w.heap.size, 0, none⟩) (Nat.le_refl _) (.int .i64 (v0 : Int))).setCell (p := ⟨w.heap.size, 1, none⟩) (Nat.le_refl _) (.int .i64 (v1 : Int))).setCell (p := ⟨w.heap.size, 2, none⟩) (Nat.le_refl _) (.int .i64 (v2 : Int)))
  clear l1 l2 C0 C1 C2 CM
  go_wp2
  refine bodyPost_ret (v := .agg #[.int .i64 (v0 : Int), .int .i64 (v1 : Int), .int .i64 (v2 : Int)]) (by simp [results, Tryd.results44, go_sem, s0, s1, s2]) rfl ?_
  exact ⟨rfl, HB2.out⟩
set_option maxRecDepth 100000 in
set_option maxHeartbeats 4000000 in
theorem viewOf_top (q base off : Nat) (p : ShPtr) (s : Shp) (t : Int) (v0 v1 v2 : Nat) (w : World) (h : SbAt w base q off p s) (hs : s.Small) (ht : t ≠ -1) (h0 : s.useAt ((s.stack.length : Int) - 1 - 2) = v0) (h1 : s.useAt ((s.stack.length : Int) - 1 - 1) = v1) (h2 : s.useAt ((s.stack.length : Int) - 1) = v2) :
    Calls Tryd.prog 44 #[.pointer (some ⟨q, off, none⟩), .int .i64 t] w (GivesV w v0 v1 v2) := by
  have hB : Below w.heap.size w (w.alloc (.cells #[.int .i64 0, .int .i64 0, .int .i64 0] 78)) := (Below.refl _ _).alloc (Nat.le_refl _) _
  have l1 := Lies.new w #[.int .i64 0, .int .i64 0, .int .i64 0] 78
  have hb := h.alloc (.cells #[.int .i64 0, .int .i64 0, .int .i64 0] 78)
  have hst := hs.t
  have HB := hide hB
  have c0 := useAt_q q base off p s ((s.stack.length : Int) - 1 - 2) v0 _ hb hs (by omega) (by omega) h0
  have c1 := useAt_q q base off p s ((s.stack.length : Int) - 1 - 1) v1 _ hb hs (by omega) (by omega) h1
  have c2 := useAt_q q base off p s ((s.stack.length : Int) - 1) v2 _ hb hs (by omega) (by omega) h2
  obtain ⟨e0, e1, e2, e3, e4, _, _, _, _, _⟩ := hb.c
  have C0 := hide c0
  have C1 := hide c1
  have C2 := hide c2
  have htn : (t == -1) = false := by simpa using ht
  clear c0 c1 c2 h hs hb hB h0 h1 h2
  go_enter Tryd.func44, Tryd.ntmps44
  go_upto_region 1 with fail
  generalize w.alloc (.cells #[.int .i64 0, .int .i64 0, .int .i64 0] 78) = W at l1 e0 e1 e2 e3 e4 C0 C1 C2 HB ⊢
  go_wp2_with fail
  refine C0.out.mono ?_
  rintro e w' ⟨rfl, rfl⟩
  go_wp2_with fail
  refine C1.out.mono ?_
  rintro e w' ⟨rfl, rfl⟩
  go_wp2_with fail
  refine C2.out.mono ?_
  rintro e w' ⟨rfl, rfl⟩
  have l2 := lies3_set l1 (.int .i64 (v0 : Int)) (.int .i64 (v1 : Int)) (.int .i64 (v2 : Int))
  have s0 := l2.cell 0
  have s1 := l2.cell 1
  have s2 := l2.cell 2
  have r0 := l1.cell 0
  have r1 := l1.cell 1
  have r2 := l1.cell 2
  have f0 := l1.frozen 0
  have f1 := l1.frozen 1
  have f2 := l1.frozen 2
  simp only [jD, jE, jF] at s0 s1 s2 r0 r1 r2
  have HB2 := hide (((HB.out.setCell (p := ⟨w.heap.size, 0, none⟩) (Nat.le_refl _) (.int .i64 (v0 : Int))).setCell (p := ⟨w.heap.size, 1, none⟩) (Nat.le_refl _) (.int .i64 (v1 : Int))).setCell (p := ⟨w.heap.size, 2, none⟩) (Nat.le_refl _) (.int .i64 (v2 : Int)))
  clear l1 l2 C0 C1 C2
  go_wp2
  refine bodyPost_ret (v := .agg #[.int .i64 (v0 : Int), .int .i64 (v1 : Int), .int .i64 (v2 : Int)]) (by simp [results, Tryd.results44, go_sem, s0, s1, s2]) rfl ?_
  exact ⟨rfl, HB2.out⟩
end Go.Proofs.YtbihgafkmmcjlaaDoor

namespace Go.Proofs.YtbihgafkmmcjlaaDoor
open Go.RowKit
set_option linter.unusedVariables false
theorem OwnI.capX {w : World} {base : Nat} {A : Option Addr} {c : Nat} {xs : List Int} (h : OwnI w base A c xs) : xs.length ≤ c := by
  rcases h.own with ⟨hl, hh⟩
  rcases hh with ⟨h1, h2⟩ | ⟨g, cap, cur, hv, hg, hh, hle, hm, hs, hx⟩
  · rw [h2]; exact Nat.zero_le _
  · injection hv with _ _ hc
    subst hc
    exact hle
theorem OwnO.capX {w : World} {base : Nat} {A : Option Addr} {c : Nat} {xs : List Od} (h : OwnO w base A c xs) : xs.length ≤ c := by
  rcases h.own with ⟨hl, hh⟩
  rcases hh with ⟨h1, h2⟩ | ⟨g, cap, cur, hv, hg, hh, hle, hm, hs, hx⟩
  · rw [h2]; exact Nat.zero_le _
  · injection hv with _ _ hc
    subst hc
    exact hle
theorem OwnO.nilX {w : World} {base : Nat} {A : Option Addr} {c : Nat} {xs : List Od} (h : OwnO w base A c xs) : A = none → c = 0 := by
  intro e
  rcases h.form with ⟨_, h2, _⟩ | ⟨g, h2, _⟩
  · exact h2
  · rw [e] at h2; cases h2
def GivesOw (w : World) (os : List Od) (e : Ending) (w' : World) : Prop := ∃ A c, e = .returned (.slice A os.length c) ∧ OwnO w' w.heap.size A c os ∧ Below w.heap.size w w'
end Go.Proofs.YtbihgafkmmcjlaaDoor

namespace Go.Proofs.YtbihgafkmmcjlaaDoor
end Go.Proofs.YtbihgafkmmcjlaaDoor

namespace Go.Proofs.YtbihgafkmmcjlaaDoor
open Go.RowKit
set_option maxHeartbeats 1000000 in
theorem equalOps_same (A A' : Option Addr) (os : List Od) (c c' : Nat) (w : World) (h : OpsAt w w.heap.size A os) (h' : OpsAt w w.heap.size A' os) :
    Calls Tryd.prog 7 #[.slice A os.length c, .slice A' os.length c'] w fun e w' => e = .returned (.bool true) ∧ Below w.heap.size w w' := by
  have hl := h.len
  have hb0 : ((os.length : Int) != (os.length : Int)) = false := by simp
  go_enter Tryd.func7, Tryd.ntmps7
  go_wp2_with fail
  go_loopw [5] (fun i wr => ∃ k : Nat, k ≤ os.length ∧ i = .int .i64 k ∧ Below w.heap.size w wr) (fun i _ => os.length - (intOf i).toNat)
  case atStart => exact ⟨0, Nat.zero_le _, rfl, Below.refl _ _⟩
  case round =>
    obtain ⟨k, hk, rfl, hb⟩ := hrel
    by_cases hlt : k < os.length
    · obtain ⟨b, off, x, rfl, hbl, hx, _, hx0, hx1⟩ := (h.below hb).at_ hlt
      obtain ⟨b', off', y, rfl, hbl', hy, _, hy0, hy1⟩ := (h'.below hb).at_ hlt
      obtain rfl : x = y := by rw [hx] at hy; injection hy
      clear hx hy
      have hk1 : (0 : Int) ≤ (k : Int) := by omega
      have hk2 : (k : Int) < (os.length : Int) := by omega
      have t1 : (x.code == x.code) = true := by simp
      have t2 : (x.arg == x.arg) = true := by simp
      go_wp2_with fail
      go_quiet (fail)
      go_wp2
      go_roundw
      case rel => exact ⟨k + 1, by omega, by go_num, below_drewN hb _⟩
      case measure => simp [intOf]; omega
    · obtain rfl : k = os.length := by omega
      go_wp2
      go_ret
      exact ⟨rfl, hb⟩
end Go.Proofs.YtbihgafkmmcjlaaDoor
