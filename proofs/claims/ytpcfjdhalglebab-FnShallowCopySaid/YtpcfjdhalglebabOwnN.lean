/-
  Slices of nodes that the call itself owns, with the rows of their kids. No function of the program is walked here.
-/
import Derived.Test.YtpcfjdhalglebabPjAb
import Derived.Test.YtpcfjdhalglebabPjAa
namespace Go.Proofs.Ytpcfjdhalglebab
open Go.RowKit
set_option linter.unusedVariables false

/-- the three cells of the node j in the row of the block g; its kids lie in a row of the call's own, in blocks from lo on and below hi -/
structure NdO (w : World) (lo hi g j : Nat) (n : Nd) : Prop where
  kind : w.cell? ⟨g, j * 3, none⟩ = some (.int .i64 n.kind)
  value : w.cell? ⟨g, j * 3 + 1, none⟩ = some (.int .i64 n.value)
  kids : ∃ A c, w.cell? ⟨g, j * 3 + 2, none⟩ = some (.slice A n.kids.length c) ∧ OwnI w lo A c n.kids ∧ ∀ b, blockOf A = some b → b < hi ∧ b ≠ g

structure OwnRow (w : World) (lo hi g cap : Nat) (ns : List Nd) : Prop where
  row : ∃ f, w.rowIs g 33 (cap * 3) f
  le : ns.length ≤ cap
  hlo : lo ≤ g
  hhi : g < hi
  nd : ∀ j n, ns[j]? = some n → NdO w lo hi g j n
  dis : ∀ (i j : Nat) (A A' : Option Addr) (n n' c c' : Nat), i ≠ j → i < ns.length → j < ns.length → w.cell? ⟨g, i * 3 + 2, none⟩ = some (.slice A n c) → w.cell? ⟨g, j * 3 + 2, none⟩ = some (.slice A' n' c') → ∀ b, blockOf A = some b → blockOf A' ≠ some b

/-- the slice value (A, length of ns, c) owns the nodes ns, all in blocks from lo on and below hi -/
def OwnNs (w : World) (lo hi : Nat) (A : Option Addr) (c : Nat) (ns : List Nd) : Prop :=
  (A = none ∧ c = 0 ∧ ns = []) ∨ ∃ g, A = some ⟨g, 0, none⟩ ∧ OwnRow w lo hi g c ns

/-- all numbers of nodes are ints -/
def WfN (ns : List Nd) : Prop := ∀ n ∈ ns, In64 n.kind ∧ In64 n.value ∧ (∀ x ∈ n.kids, In64 x) ∧ n.kids.length ≤ 9223372036854775807

theorem OwnI.of_blk {w w' : World} {base : Nat} {A : Option Addr} {c : Nat} {xs : List Int} (h : OwnI w base A c xs) (hA : ∀ g, blockOf A = some g → w'.heap[g]? = w.heap[g]?) : OwnI w' base A c xs := by
  refine ⟨h.own.1, ?_⟩
  rcases h.own.2 with h2 | ⟨g, cap, cur, hv, hg, hh, r⟩
  · exact .inl h2
  · refine .inr ⟨g, cap, cur, hv, hg, ?_, r⟩
    rw [hA g (by injection hv with hv; rw [hv]; rfl)]
    exact hh

theorem OwnRow.lt {w : World} {lo hi g cap : Nat} {ns : List Nd} (h : OwnRow w lo hi g cap ns) : g < w.heap.size := by
  obtain ⟨f, hf⟩ := h.row
  exact hf.lt

theorem OwnRow.nds {w : World} {lo hi g cap : Nat} {ns : List Nd} (h : OwnRow w lo hi g cap ns) (hwf : WfN ns) (hl : ns.length ≤ 9223372036854775807) : NdsAt w w.heap.size (some ⟨g, 0, none⟩) ns :=
  ⟨fun _ => ⟨g, 0, rfl, h.lt, fun j n hj => by
    have hn := h.nd j n hj
    obtain ⟨A, c, h1, h2, _⟩ := hn.kids
    obtain ⟨w1, w2, w3, w4⟩ := hwf n (List.mem_of_getElem? hj)
    rw [Nat.zero_add]
    exact ⟨hn.kind, hn.value, ⟨A, c, h1, h2.ints w3 w4, h2.nil⟩, w1, w2⟩⟩, hl⟩

theorem OwnNs.nds {w : World} {lo hi : Nat} {A : Option Addr} {c : Nat} {ns : List Nd} (h : OwnNs w lo hi A c ns) (hwf : WfN ns) (hl : ns.length ≤ 9223372036854775807) : NdsAt w w.heap.size A ns := by
  rcases h with ⟨rfl, _, rfl⟩ | ⟨g, rfl, h⟩
  · exact ⟨fun hx => absurd rfl hx, by simp⟩
  · exact h.nds hwf hl

/-- the blocks from lo on and below hi are as they were -/
theorem OwnRow.kept {w w' : World} {lo hi g cap : Nat} {ns : List Nd} (h : OwnRow w lo hi g cap ns) (hb : ∀ b, lo ≤ b → b < hi → w'.heap[b]? = w.heap[b]?) : OwnRow w' lo hi g cap ns := by
  have hg := hb g h.hlo h.hhi
  have hc : ∀ q, w'.cell? ⟨g, q, none⟩ = w.cell? ⟨g, q, none⟩ := fun q => World.cell?_of_block (w := w) hg
  obtain ⟨f, hf⟩ := h.row
  refine ⟨⟨f, hf.of_block hg⟩, h.le, h.hlo, h.hhi, fun j n hj => ?_, fun i j A A' n n' c c' hij hi hj h1 h2 => h.dis i j A A' n n' c c' hij hi hj ((hc _).symm.trans h1) ((hc _).symm.trans h2)⟩
  have hn := h.nd j n hj
  obtain ⟨A, c, h1, h2, h3⟩ := hn.kids
  exact ⟨(hc _).trans hn.kind, (hc _).trans hn.value, ⟨A, c, (hc _).trans h1, h2.of_blk (fun b hb' => hb b (h2.blocks b hb').1 (h3 b hb').1), h3⟩⟩

theorem OwnNs.kept {w w' : World} {lo hi : Nat} {A : Option Addr} {c : Nat} {ns : List Nd} (h : OwnNs w lo hi A c ns) (hb : ∀ b, lo ≤ b → b < hi → w'.heap[b]? = w.heap[b]?) : OwnNs w' lo hi A c ns := by
  rcases h with h | ⟨g, e, h⟩
  · exact .inl h
  · exact .inr ⟨g, e, h.kept hb⟩

theorem OwnNs.below {w w' : World} {lo hi B : Nat} {A : Option Addr} {c : Nat} {ns : List Nd} (h : OwnNs w lo hi A c ns) (hb : Below B w w') (hB : hi ≤ B) : OwnNs w' lo hi A c ns :=
  h.kept (fun b _ h2 => hb.block b (by omega))

theorem OwnNs.only {w w' : World} {lo hi l2 h2 : Nat} {A : Option Addr} {c : Nat} {ns : List Nd} (h : OwnNs w lo hi A c ns) (ho : Only l2 h2 w w') (hB : hi ≤ l2 ∨ h2 ≤ lo) : OwnNs w' lo hi A c ns :=
  h.kept (fun b h3 h4 => ho.block b (by omega))

/-- a node's kind and value are written -/
theorem OwnRow.set2 {w : World} {lo hi g cap j : Nat} {ns : List Nd} {n : Nd} (h : OwnRow w lo hi g cap ns) (hj : ns[j]? = some n) (a b : Int) :
    OwnRow ((w.setCell ⟨g, j * 3, none⟩ (.int .i64 a)).setCell ⟨g, j * 3 + 1, none⟩ (.int .i64 b)) lo hi g cap (ns.set j ⟨a, b, n.kids⟩) := by
  obtain ⟨f, hf⟩ := h.row
  have hjl := (List.getElem?_eq_some_iff.1 hj).1
  have hcap := h.le
  have hrow := (hf.set (j * 3) (.int .i64 a)).set (j * 3 + 1) (.int .i64 b)
  have hbl : ∀ q, q ≠ g → ((w.setCell ⟨g, j * 3, none⟩ (.int .i64 a)).setCell ⟨g, j * 3 + 1, none⟩ (.int .i64 b)).heap[q]? = w.heap[q]? := fun q hq => (Below.heap_setCell _ _ _ _ hq).trans (Below.heap_setCell _ _ _ _ hq)
  have hc : ∀ q, q ≠ j * 3 → q ≠ j * 3 + 1 → ((w.setCell ⟨g, j * 3, none⟩ (.int .i64 a)).setCell ⟨g, j * 3 + 1, none⟩ (.int .i64 b)).cell? ⟨g, q, none⟩ = w.cell? ⟨g, q, none⟩ := fun q h1 h2 => by
    rw [World.cell?_setCell_other, World.cell?_setCell_other] <;> (intro e; injection e with _ e; omega)
  refine ⟨⟨_, hrow⟩, by rw [List.length_set]; exact hcap, h.hlo, h.hhi, fun i m hi' => ?_, fun i k A A' n1 n2 c c' hik hi' hk h1 h2 => ?_⟩
  · rw [List.getElem?_set] at hi'
    by_cases e : j = i
    · subst e
      rw [if_pos rfl, if_pos hjl] at hi'
      injection hi' with hi'
      subst hi'
      obtain ⟨A, c, h1, h2, h3⟩ := (h.nd j n hj).kids
      have c0 := World.rowIs.cell hrow (i := j * 3) (by omega)
      have c1 := World.rowIs.cell hrow (i := j * 3 + 1) (by omega)
      simp at c0 c1
      exact ⟨c0, c1, ⟨A, c, (hc _ (by omega) (by omega)).trans h1, h2.of_blk (fun q hq => hbl q (h3 q hq).2), h3⟩⟩
    · rw [if_neg e] at hi'
      have hn := h.nd i m hi'
      obtain ⟨A, c, h1, h2, h3⟩ := hn.kids
      exact ⟨(hc _ (by omega) (by omega)).trans hn.kind, (hc _ (by omega) (by omega)).trans hn.value, ⟨A, c, (hc _ (by omega) (by omega)).trans h1, h2.of_blk (fun q hq => hbl q (h3 q hq).2), h3⟩⟩
  · rw [List.length_set] at hi' hk
    exact h.dis i k A A' n1 n2 c c' hik hi' hk ((hc _ (by omega) (by omega)).symm.trans h1) ((hc _ (by omega) (by omega)).symm.trans h2)

/-- the kids of a node are written, in the row where they lie -/
theorem OwnRow.setKids {w w' : World} {lo hi g cap j cj : Nat} {ns : List Nd} {n : Nd} {Aj : Option Addr} {ks : List Int} (h : OwnRow w lo hi g cap ns) (hj : ns[j]? = some n) (hcell : w.cell? ⟨g, j * 3 + 2, none⟩ = some (.slice Aj n.kids.length cj)) (hl : ks.length = n.kids.length)
    (hown : OwnI w' lo Aj cj ks) (hb : ∀ b, blockOf Aj ≠ some b → w'.heap[b]? = w.heap[b]?) :
    OwnRow w' lo hi g cap (ns.set j ⟨n.kind, n.value, ks⟩) := by
  obtain ⟨f, hf⟩ := h.row
  have hjl := (List.getElem?_eq_some_iff.1 hj).1
  obtain ⟨A, c, h1, h2, h3⟩ := (h.nd j n hj).kids
  rw [hcell] at h1
  injection h1 with h1
  injection h1 with e1 _ e2
  subst e1 e2
  have hg := hb g (fun e => (h3 g e).2 rfl)
  have hc : ∀ q, w'.cell? ⟨g, q, none⟩ = w.cell? ⟨g, q, none⟩ := fun q => World.cell?_of_block (w := w) hg
  refine ⟨⟨f, hf.of_block hg⟩, by rw [List.length_set]; exact h.le, h.hlo, h.hhi, fun i m hi' => ?_, fun i k A A' n1 n2 c c' hik hi' hk h1 h2 => ?_⟩
  · rw [List.getElem?_set] at hi'
    by_cases e : j = i
    · subst e
      rw [if_pos rfl, if_pos hjl] at hi'
      injection hi' with hi'
      subst hi'
      have hn := h.nd j n hj
      exact ⟨(hc _).trans hn.kind, (hc _).trans hn.value, ⟨Aj, cj, by rw [hl]; exact (hc _).trans hcell, hown, h3⟩⟩
    · rw [if_neg e] at hi'
      have hil := (List.getElem?_eq_some_iff.1 hi').1
      have hn := h.nd i m hi'
      obtain ⟨A2, c2, g1, g2, g3⟩ := hn.kids
      exact ⟨(hc _).trans hn.kind, (hc _).trans hn.value, ⟨A2, c2, (hc _).trans g1, g2.of_blk (fun q hq => hb q (h.dis i j A2 Aj _ _ _ _ (fun e2 => e e2.symm) hil hjl g1 hcell q hq)), g3⟩⟩
  · rw [List.length_set] at hi' hk
    exact h.dis i k A A' n1 n2 c c' hik hi' hk ((hc _).symm.trans h1) ((hc _).symm.trans h2)

end Go.Proofs.Ytpcfjdhalglebab
