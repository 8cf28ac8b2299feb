/-
  Lemmas, several texts in one: Gen, OwnN.
-/
import Derived.Test.YtpcfjdhalglebaaSomeNode
import Derived.Test.YtpcfjdhalglebaaPjAb
import Derived.Test.YtpcfjdhalglebaaPjAa
namespace Go.Proofs.Ytpcfjdhalglebaa
open Go.RowKit
set_option linter.unusedVariables false

/-- the three cells of the node j in the row of the block g -/
structure NdX (w : World) (g rb j : Nat) (n : Nd) : Prop where
  kind : w.cell? ⟨g, j * 3, none⟩ = some (.int .i64 n.kind)
  value : w.cell? ⟨g, j * 3 + 1, none⟩ = some (.int .i64 n.value)
  kids : ∃ A c, w.cell? ⟨g, j * 3 + 2, none⟩ = some (.slice A n.kids.length c) ∧ OwnI w 0 A c n.kids ∧ (∀ x ∈ n.kids, In64 x) ∧ n.kids.length ≤ 1000 ∧ blockOf A ≠ some g ∧ blockOf A ≠ some rb
  wfk : In64 n.kind
  wfv : In64 n.value

structure GenG (w : World) (g rb cap : Nat) (ns : List Nd) : Prop where
  row : ∃ f, w.rowIs g 50 (cap * 3) f
  le : ns.length ≤ cap
  few : ns.length ≤ 1000
  nd : ∀ j n, ns[j]? = some n → NdX w g rb j n
  ne : g ≠ rb
  dis : ∀ (i j : Nat) (A A' : Option Addr) (n n' c c' : Nat), i ≠ j → i < ns.length → j < ns.length → w.cell? ⟨g, i * 3 + 2, none⟩ = some (.slice A n c) → w.cell? ⟨g, j * 3 + 2, none⟩ = some (.slice A' n' c') → ∀ b, blockOf A = some b → blockOf A' ≠ some b

theorem OwnI.same' {w w' : World} {base : Nat} {A : Option Addr} {c : Nat} {xs : List Int} (h : OwnI w base A c xs) (hA : ∀ g, blockOf A = some g → w'.heap[g]? = w.heap[g]?) : OwnI w' base A c xs := by
  refine ⟨h.own.1, ?_⟩
  rcases h.own.2 with h2 | ⟨g, cap, cur, hv, hg, hh, r⟩
  · exact .inl h2
  · have hAg : blockOf A = some g := by
      injection hv with hv
      rw [hv]; rfl
    exact .inr ⟨g, cap, cur, hv, hg, (hA g hAg).trans hh, r⟩

/-- old memory is as it was, but for two blocks -/
structure Grew2 (g1 g2 : Nat) (w w' : World) : Prop where
  os : w'.os = w.os
  tape : w'.tape = w.tape
  output : w'.output = w.output
  size : w.heap.size ≤ w'.heap.size
  block : ∀ k, k < w.heap.size → k ≠ g1 → k ≠ g2 → w'.heap[k]? = w.heap[k]?

theorem Grew2.of_grew {g1 g2 : Nat} {w w' : World} (h : Grew g1 w w') : Grew2 g1 g2 w w' := ⟨h.os, h.tape, h.output, h.size, fun k hk h1 _ => h.block k hk h1⟩
theorem Grew2.trans {g1 g2 : Nat} {a b c : World} (h : Grew2 g1 g2 a b) (k : Grew2 g1 g2 b c) : Grew2 g1 g2 a c :=
  ⟨k.os.trans h.os, k.tape.trans h.tape, k.output.trans h.output, Nat.le_trans h.size k.size, fun j hj h1 h2 => (k.block j (Nat.lt_of_lt_of_le hj h.size) h1 h2).trans (h.block j hj h1 h2)⟩
theorem Grew2.below {g1 g2 B : Nat} {w0 w w' : World} (h : Grew2 g1 g2 w w') (hb : Below B w0 w) (h1 : B ≤ g1) (h2 : B ≤ g2) (hB : B ≤ w.heap.size) : Below B w0 w' :=
  hb.trans ⟨h.os, h.tape, h.output, h.size, fun k hk => h.block k (by omega) (by omega) (by omega)⟩

/-- int slices in a block that is left alone -/
theorem IntsAt.kept {w w' : World} {A : Option Addr} {xs : List Int} (h : IntsAt w w.heap.size A xs) (hs : w.heap.size ≤ w'.heap.size) (hb : ∀ k, blockOf A = some k → k < w.heap.size → w'.heap[k]? = w.heap[k]?) : IntsAt w' w'.heap.size A xs :=
  ⟨fun hx => by
    obtain ⟨b, off, e, hlt, hc⟩ := h.row hx
    subst e
    exact ⟨b, off, rfl, Nat.lt_of_lt_of_le hlt hs, fun j x hj => (World.cell?_of_block (w := w) (hb b rfl hlt)).trans (hc j x hj)⟩, h.wf, h.len⟩

theorem NdX.kept {w w' : World} {g rb j : Nat} {n : Nd} (h : NdX w g rb j n) (hc : ∀ o, o < 3 → w'.cell? ⟨g, j * 3 + o, none⟩ = w.cell? ⟨g, j * 3 + o, none⟩) (hb : ∀ k, k < w.heap.size → k ≠ rb → k ≠ g → w'.heap[k]? = w.heap[k]?) : NdX w' g rb j n := by
  obtain ⟨A, c, h1, h2, h3, h6, h4, h5⟩ := h.kids
  exact ⟨(hc 0 (by omega)).trans h.kind, (hc 1 (by omega)).trans h.value, ⟨A, c, (hc 2 (by omega)).trans h1, h2.same' (fun k hk => hb k (h2.blocks k hk).2 (fun e => h5 (by rw [hk, e])) (fun e => h4 (by rw [hk, e]))), h3, h6, h4, h5⟩, h.wfk, h.wfv⟩

theorem GenG.lt {w : World} {g rb cap : Nat} {ns : List Nd} (h : GenG w g rb cap ns) : g < w.heap.size := by
  obtain ⟨f, hf⟩ := h.row
  exact hf.lt

theorem GenG.grew {w w' : World} {g rb cap : Nat} {ns : List Nd} (h : GenG w g rb cap ns) (hg : Grew rb w w') : GenG w' g rb cap ns := by
  have hb := hg.block g h.lt h.ne
  obtain ⟨f, hf⟩ := h.row
  exact ⟨⟨f, hf.of_block hb⟩, h.le, h.few, fun j n hj => (h.nd j n hj).kept (fun o _ => World.cell?_of_block (w := w) hb) (fun k hk h1 _ => hg.block k hk h1), h.ne, fun i j A A' n n' c c' hij hi hj h1 h2 => h.dis i j A A' n n' c c' hij hi hj ((World.cell?_of_block (w := w) hb).symm.trans h1) ((World.cell?_of_block (w := w) hb).symm.trans h2)⟩

theorem GenG.nds {w : World} {g rb cap : Nat} {ns : List Nd} (h : GenG w g rb cap ns) : NdsAt w w.heap.size (some ⟨g, 0, none⟩) ns :=
  ⟨fun _ => ⟨g, 0, rfl, h.lt, fun j n hj => by
    have hn := h.nd j n hj
    obtain ⟨A, c, h1, h2, h3, h6, _, _⟩ := hn.kids
    rw [Nat.zero_add]
    exact ⟨hn.kind, hn.value, ⟨A, c, h1, h2.ints h3 (by omega), h2.nil⟩, hn.wfk, hn.wfv⟩⟩, by have := h.few; omega⟩

/-- the world behind a store to the node j -/
def put3 (w : World) (g j : Nat) (v0 v1 v2 : Value) : World := ((w.setCell ⟨g, j * 3, none⟩ v0).setCell ⟨g, j * 3 + 1, none⟩ v1).setCell ⟨g, j * 3 + 2, none⟩ v2

theorem put3_block {w : World} {g j k : Nat} {v0 v1 v2 : Value} (hk : k ≠ g) : (put3 w g j v0 v1 v2).heap[k]? = w.heap[k]? := by
  unfold put3
  rw [Below.heap_setCell _ _ _ _ (by show k ≠ g; exact hk), Below.heap_setCell _ _ _ _ (by show k ≠ g; exact hk), Below.heap_setCell _ _ _ _ (by show k ≠ g; exact hk)]
theorem put3_size {w : World} {g j : Nat} {v0 v1 v2 : Value} : (put3 w g j v0 v1 v2).heap.size = w.heap.size := by unfold put3; simp
theorem put3_far {w : World} {g j q : Nat} {v0 v1 v2 : Value} (hq : q < j * 3 ∨ j * 3 + 2 < q) : (put3 w g j v0 v1 v2).cell? ⟨g, q, none⟩ = w.cell? ⟨g, q, none⟩ := by
  unfold put3
  rw [World.cell?_setCell_other, World.cell?_setCell_other, World.cell?_setCell_other] <;> (intro e; injection e with _ e; omega)
theorem put3_row {w : World} {g j n : Nat} {t : TypeId} {f : Nat → Value} (h : w.rowIs g t n f) (v0 v1 v2 : Value) : ∃ f', (put3 w g j v0 v1 v2).rowIs g t n f' := ⟨_, ((h.set _ _).set _ _).set _ _⟩
theorem put3_at {w : World} {g j n : Nat} {t : TypeId} {f : Nat → Value} (h : w.rowIs g t n f) (hn : j * 3 + 2 < n) (v0 v1 v2 : Value) : (put3 w g j v0 v1 v2).cell? ⟨g, j * 3, none⟩ = some v0 ∧ (put3 w g j v0 v1 v2).cell? ⟨g, j * 3 + 1, none⟩ = some v1 ∧ (put3 w g j v0 v1 v2).cell? ⟨g, j * 3 + 2, none⟩ = some v2 := by
  have hr := ((h.set (j * 3) v0).set (j * 3 + 1) v1).set (j * 3 + 2) v2
  unfold put3
  refine ⟨?_, ?_, ?_⟩
  · have := hr.cell (i := j * 3) (by omega)
    simpa using this
  · have := hr.cell (i := j * 3 + 1) (by omega)
    simpa using this
  · have := hr.cell (i := j * 3 + 2) (by omega)
    simpa using this
theorem put3_grew {w : World} {g rb j : Nat} {v0 v1 v2 : Value} : Grew2 rb g w (put3 w g j v0 v1 v2) := ⟨rfl, rfl, rfl, by rw [put3_size]; exact Nat.le_refl _, fun k _ _ hk => put3_block hk⟩

theorem GenG.setFar {w : World} {g rb cap b o : Nat} {ns : List Nd} {v : Value} (h : GenG w g rb cap ns) (hb : b ≠ g) (hk : ∀ j, j < ns.length → ∀ (A : Option Addr) (n c : Nat), w.cell? ⟨g, j * 3 + 2, none⟩ = some (.slice A n c) → blockOf A ≠ some b) : GenG (w.setCell ⟨b, o, none⟩ v) g rb cap ns := by
  have hbl : ∀ k, k ≠ b → (w.setCell ⟨b, o, none⟩ v).heap[k]? = w.heap[k]? := fun k hk => Below.heap_setCell _ _ _ _ hk
  have hg := hbl g (fun e => hb e.symm)
  obtain ⟨f, hf⟩ := h.row
  refine ⟨⟨f, hf.of_block hg⟩, h.le, h.few, fun j n hj => ?_, h.ne, fun i j A A' n n' c c' hij hi hj h1 h2 => h.dis i j A A' n n' c c' hij hi hj ((World.cell?_of_block (w := w) hg).symm.trans h1) ((World.cell?_of_block (w := w) hg).symm.trans h2)⟩
  have hn := h.nd j n hj
  obtain ⟨A, c, h1, h2, h3, h6, h4, h5⟩ := hn.kids
  have hc := fun q => World.cell?_of_block (w := w) (w' := w.setCell ⟨b, o, none⟩ v) (a := ⟨g, q, none⟩) hg
  exact ⟨(hc _).trans hn.kind, (hc _).trans hn.value, ⟨A, c, (hc _).trans h1, h2.same' (fun k hk2 => hbl k (fun e => hk j (List.getElem?_eq_some_iff.1 hj).1 A _ c h1 (by rw [hk2, e]))), h3, h6, h4, h5⟩, hn.wfk, hn.wfv⟩

theorem Rd.kept {w w' : World} {rb : Nat} {A : Option Addr} {n c p : Nat} (h : Rd w rb A n c p) (hr : Below (rb + 1) w w') : Rd w' rb A n c p :=
  ⟨h.box.below hr (by omega), h.bytes.later (hr.mono (by omega)), h.few⟩
theorem Rd.put {w : World} {rb g j : Nat} {A : Option Addr} {n c p : Nat} (h : Rd w rb A n c p) (hg : rb < g) (v0 v1 v2 : Value) : Rd (put3 w g j v0 v1 v2) rb A n c p :=
  h.kept ⟨rfl, rfl, rfl, by rw [put3_size]; exact Nat.le_refl _, fun k hk => put3_block (by omega)⟩

end Go.Proofs.Ytpcfjdhalglebaa

namespace Go.Proofs.Ytpcfjdhalglebaa
open Go.RowKit
set_option linter.unusedVariables false

/-- the three cells of the node j in the row of the block g; its kids lie in a row of the call's own, in blocks from lo on and below hi -/
structure NdO (w : World) (lo hi g j : Nat) (n : Nd) : Prop where
  kind : w.cell? ⟨g, j * 3, none⟩ = some (.int .i64 n.kind)
  value : w.cell? ⟨g, j * 3 + 1, none⟩ = some (.int .i64 n.value)
  kids : ∃ A c, w.cell? ⟨g, j * 3 + 2, none⟩ = some (.slice A n.kids.length c) ∧ OwnI w lo A c n.kids ∧ ∀ b, blockOf A = some b → b < hi ∧ b ≠ g

structure OwnRow (w : World) (lo hi g cap : Nat) (ns : List Nd) : Prop where
  row : ∃ f, w.rowIs g 50 (cap * 3) f
  le : ns.length ≤ cap
  hlo : lo ≤ g
  hhi : g < hi
  nd : ∀ j n, ns[j]? = some n → NdO w lo hi g j n
  dis : ∀ (i j : Nat) (A A' : Option Addr) (n n' c c' : Nat), i ≠ j → i < ns.length → j < ns.length → w.cell? ⟨g, i * 3 + 2, none⟩ = some (.slice A n c) → w.cell? ⟨g, j * 3 + 2, none⟩ = some (.slice A' n' c') → ∀ b, blockOf A = some b → blockOf A' ≠ some b

/-- the slice value (A, length of ns, c) owns the nodes ns, all in blocks from lo on and below hi -/
def OwnNs (w : World) (lo hi : Nat) (A : Option Addr) (c : Nat) (ns : List Nd) : Prop :=
  (A = none ∧ c = 0 ∧ ns = []) ∨ ∃ g, A = some ⟨g, 0, none⟩ ∧ OwnRow w lo hi g c ns

/-- all numbers of nodes are ints -/
def WfN (ns : List Nd) : Prop := ∀ n ∈ ns, In64 n.kind ∧ In64 n.value ∧ (∀ x ∈ n.kids, In64 x) ∧ n.kids.length ≤ 9223372036854775807

theorem OwnI.of_blk {w w' : World} {base : Nat} {A : Option Addr} {c : Nat} {xs : List Int} (h : OwnI w base A c xs) (hA : ∀ g, blockOf A = some g → w'.heap[g]? = w.heap[g]?) : OwnI w' base A c xs := by
  refine ⟨h.own.1, ?_⟩
  rcases h.own.2 with h2 | ⟨g, cap, cur, hv, hg, hh, r⟩
  · exact .inl h2
  · refine .inr ⟨g, cap, cur, hv, hg, ?_, r⟩
    rw [hA g (by injection hv with hv; rw [hv]; rfl)]
    exact hh

theorem OwnRow.lt {w : World} {lo hi g cap : Nat} {ns : List Nd} (h : OwnRow w lo hi g cap ns) : g < w.heap.size := by
  obtain ⟨f, hf⟩ := h.row
  exact hf.lt

theorem OwnRow.nds {w : World} {lo hi g cap : Nat} {ns : List Nd} (h : OwnRow w lo hi g cap ns) (hwf : WfN ns) (hl : ns.length ≤ 9223372036854775807) : NdsAt w w.heap.size (some ⟨g, 0, none⟩) ns :=
  ⟨fun _ => ⟨g, 0, rfl, h.lt, fun j n hj => by
    have hn := h.nd j n hj
    obtain ⟨A, c, h1, h2, _⟩ := hn.kids
    obtain ⟨w1, w2, w3, w4⟩ := hwf n (List.mem_of_getElem? hj)
    rw [Nat.zero_add]
    exact ⟨hn.kind, hn.value, ⟨A, c, h1, h2.ints w3 w4, h2.nil⟩, w1, w2⟩⟩, hl⟩

theorem OwnNs.nds {w : World} {lo hi : Nat} {A : Option Addr} {c : Nat} {ns : List Nd} (h : OwnNs w lo hi A c ns) (hwf : WfN ns) (hl : ns.length ≤ 9223372036854775807) : NdsAt w w.heap.size A ns := by
  rcases h with ⟨rfl, _, rfl⟩ | ⟨g, rfl, h⟩
  · exact ⟨fun hx => absurd rfl hx, by simp⟩
  · exact h.nds hwf hl

/-- the blocks from lo on and below hi are as they were -/
theorem OwnRow.kept {w w' : World} {lo hi g cap : Nat} {ns : List Nd} (h : OwnRow w lo hi g cap ns) (hb : ∀ b, lo ≤ b → b < hi → w'.heap[b]? = w.heap[b]?) : OwnRow w' lo hi g cap ns := by
  have hg := hb g h.hlo h.hhi
  have hc : ∀ q, w'.cell? ⟨g, q, none⟩ = w.cell? ⟨g, q, none⟩ := fun q => World.cell?_of_block (w := w) hg
  obtain ⟨f, hf⟩ := h.row
  refine ⟨⟨f, hf.of_block hg⟩, h.le, h.hlo, h.hhi, fun j n hj => ?_, fun i j A A' n n' c c' hij hi hj h1 h2 => h.dis i j A A' n n' c c' hij hi hj ((hc _).symm.trans h1) ((hc _).symm.trans h2)⟩
  have hn := h.nd j n hj
  obtain ⟨A, c, h1, h2, h3⟩ := hn.kids
  exact ⟨(hc _).trans hn.kind, (hc _).trans hn.value, ⟨A, c, (hc _).trans h1, h2.of_blk (fun b hb' => hb b (h2.blocks b hb').1 (h3 b hb').1), h3⟩⟩

theorem OwnNs.kept {w w' : World} {lo hi : Nat} {A : Option Addr} {c : Nat} {ns : List Nd} (h : OwnNs w lo hi A c ns) (hb : ∀ b, lo ≤ b → b < hi → w'.heap[b]? = w.heap[b]?) : OwnNs w' lo hi A c ns := by
  rcases h with h | ⟨g, e, h⟩
  · exact .inl h
  · exact .inr ⟨g, e, h.kept hb⟩

theorem OwnNs.below {w w' : World} {lo hi B : Nat} {A : Option Addr} {c : Nat} {ns : List Nd} (h : OwnNs w lo hi A c ns) (hb : Below B w w') (hB : hi ≤ B) : OwnNs w' lo hi A c ns :=
  h.kept (fun b _ h2 => hb.block b (by omega))

theorem OwnNs.only {w w' : World} {lo hi l2 h2 : Nat} {A : Option Addr} {c : Nat} {ns : List Nd} (h : OwnNs w lo hi A c ns) (ho : Only l2 h2 w w') (hB : hi ≤ l2 ∨ h2 ≤ lo) : OwnNs w' lo hi A c ns :=
  h.kept (fun b h3 h4 => ho.block b (by omega))

/-- a node's kind and value are written -/
theorem OwnRow.set2 {w : World} {lo hi g cap j : Nat} {ns : List Nd} {n : Nd} (h : OwnRow w lo hi g cap ns) (hj : ns[j]? = some n) (a b : Int) :
    OwnRow ((w.setCell ⟨g, j * 3, none⟩ (.int .i64 a)).setCell ⟨g, j * 3 + 1, none⟩ (.int .i64 b)) lo hi g cap (ns.set j ⟨a, b, n.kids⟩) := by
  obtain ⟨f, hf⟩ := h.row
  have hjl := (List.getElem?_eq_some_iff.1 hj).1
  have hcap := h.le
  have hrow := (hf.set (j * 3) (.int .i64 a)).set (j * 3 + 1) (.int .i64 b)
  have hbl : ∀ q, q ≠ g → ((w.setCell ⟨g, j * 3, none⟩ (.int .i64 a)).setCell ⟨g, j * 3 + 1, none⟩ (.int .i64 b)).heap[q]? = w.heap[q]? := fun q hq => (Below.heap_setCell _ _ _ _ hq).trans (Below.heap_setCell _ _ _ _ hq)
  have hc : ∀ q, q ≠ j * 3 → q ≠ j * 3 + 1 → ((w.setCell ⟨g, j * 3, none⟩ (.int .i64 a)).setCell ⟨g, j * 3 + 1, none⟩ (.int .i64 b)).cell? ⟨g, q, none⟩ = w.cell? ⟨g, q, none⟩ := fun q h1 h2 => by
    rw [World.cell?_setCell_other, World.cell?_setCell_other] <;> (intro e; injection e with _ e; omega)
  refine ⟨⟨_, hrow⟩, by rw [List.length_set]; exact hcap, h.hlo, h.hhi, fun i m hi' => ?_, fun i k A A' n1 n2 c c' hik hi' hk h1 h2 => ?_⟩
  · rw [List.getElem?_set] at hi'
    by_cases e : j = i
    · subst e
      rw [if_pos rfl, if_pos hjl] at hi'
      injection hi' with hi'
      subst hi'
      obtain ⟨A, c, h1, h2, h3⟩ := (h.nd j n hj).kids
      have c0 := World.rowIs.cell hrow (i := j * 3) (by omega)
      have c1 := World.rowIs.cell hrow (i := j * 3 + 1) (by omega)
      simp at c0 c1
      exact ⟨c0, c1, ⟨A, c, (hc _ (by omega) (by omega)).trans h1, h2.of_blk (fun q hq => hbl q (h3 q hq).2), h3⟩⟩
    · rw [if_neg e] at hi'
      have hn := h.nd i m hi'
      obtain ⟨A, c, h1, h2, h3⟩ := hn.kids
      exact ⟨(hc _ (by omega) (by omega)).trans hn.kind, (hc _ (by omega) (by omega)).trans hn.value, ⟨A, c, (hc _ (by omega) (by omega)).trans h1, h2.of_blk (fun q hq => hbl q (h3 q hq).2), h3⟩⟩
  · rw [List.length_set] at hi' hk
    exact h.dis i k A A' n1 n2 c c' hik hi' hk ((hc _ (by omega) (by omega)).symm.trans h1) ((hc _ (by omega) (by omega)).symm.trans h2)

/-- the kids of a node are written, in the row where they lie -/
theorem OwnRow.setKids {w w' : World} {lo hi g cap j cj : Nat} {ns : List Nd} {n : Nd} {Aj : Option Addr} {ks : List Int} (h : OwnRow w lo hi g cap ns) (hj : ns[j]? = some n) (hcell : w.cell? ⟨g, j * 3 + 2, none⟩ = some (.slice Aj n.kids.length cj)) (hl : ks.length = n.kids.length)
    (hown : OwnI w' lo Aj cj ks) (hb : ∀ b, blockOf Aj ≠ some b → w'.heap[b]? = w.heap[b]?) :
    OwnRow w' lo hi g cap (ns.set j ⟨n.kind, n.value, ks⟩) := by
  obtain ⟨f, hf⟩ := h.row
  have hjl := (List.getElem?_eq_some_iff.1 hj).1
  obtain ⟨A, c, h1, h2, h3⟩ := (h.nd j n hj).kids
  rw [hcell] at h1
  injection h1 with h1
  injection h1 with e1 _ e2
  subst e1 e2
  have hg := hb g (fun e => (h3 g e).2 rfl)
  have hc : ∀ q, w'.cell? ⟨g, q, none⟩ = w.cell? ⟨g, q, none⟩ := fun q => World.cell?_of_block (w := w) hg
  refine ⟨⟨f, hf.of_block hg⟩, by rw [List.length_set]; exact h.le, h.hlo, h.hhi, fun i m hi' => ?_, fun i k A A' n1 n2 c c' hik hi' hk h1 h2 => ?_⟩
  · rw [List.getElem?_set] at hi'
    by_cases e : j = i
    · subst e
      rw [if_pos rfl, if_pos hjl] at hi'
      injection hi' with hi'
      subst hi'
      have hn := h.nd j n hj
      exact ⟨(hc _).trans hn.kind, (hc _).trans hn.value, ⟨Aj, cj, by rw [hl]; exact (hc _).trans hcell, hown, h3⟩⟩
    · rw [if_neg e] at hi'
      have hil := (List.getElem?_eq_some_iff.1 hi').1
      have hn := h.nd i m hi'
      obtain ⟨A2, c2, g1, g2, g3⟩ := hn.kids
      exact ⟨(hc _).trans hn.kind, (hc _).trans hn.value, ⟨A2, c2, (hc _).trans g1, g2.of_blk (fun q hq => hb q (h.dis i j A2 Aj _ _ _ _ (fun e2 => e e2.symm) hil hjl g1 hcell q hq)), g3⟩⟩
  · rw [List.length_set] at hi' hk
    exact h.dis i k A A' n1 n2 c c' hik hi' hk ((hc _).symm.trans h1) ((hc _).symm.trans h2)

end Go.Proofs.Ytpcfjdhalglebaa
