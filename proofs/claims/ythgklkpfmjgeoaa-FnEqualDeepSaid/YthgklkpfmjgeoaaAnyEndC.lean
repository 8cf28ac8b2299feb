/-
  What the generator's anyGraph knows, and its ends: some graph that can be read comes back. No walk.
-/
import Derived.Test.YthgklkpfmjgeoaaSomeGraph
namespace Go.Proofs.Ythgklkpfmjgeoaa
open Go.RowKit
set_option linter.unusedVariables false

/-- a graph with a node that was turned can be read -/
theorem GenG.read {w X : World} {g rb cap k : Nat} {ns : List Nd} (h : GenG w g rb cap ns) (hs : w.heap.size ≤ X.heap.size) (hk : k < ns.length) (n : Nd) (A : Option Addr) (c : Nat)
    (c0 : X.cell? ⟨g, k * 3, none⟩ = some (.int .i64 n.kind)) (c1 : X.cell? ⟨g, k * 3 + 1, none⟩ = some (.int .i64 n.value)) (c2 : X.cell? ⟨g, k * 3 + 2, none⟩ = some (.slice A n.kids.length c))
    (hI : IntsAt X X.heap.size A n.kids) (hn : A = none → c = 0) (hk64 : In64 n.kind) (hv64 : In64 n.value)
    (hfar : ∀ q, q < k * 3 ∨ k * 3 + 2 < q → X.cell? ⟨g, q, none⟩ = w.cell? ⟨g, q, none⟩)
    (hkids : ∀ j, j ≠ k → j < ns.length → ∀ (A2 : Option Addr) (m d : Nat), w.cell? ⟨g, j * 3 + 2, none⟩ = some (.slice A2 m d) → ∀ b, blockOf A2 = some b → X.heap[b]? = w.heap[b]?) :
    NdsAt X X.heap.size (some ⟨g, 0, none⟩) (ns.set k n) := by
  refine ⟨fun _ => ⟨g, 0, rfl, Nat.lt_of_lt_of_le h.lt hs, fun j m hj => ?_⟩, by rw [List.length_set]; have := h.few; omega⟩
  rw [Nat.zero_add]
  rw [List.getElem?_set] at hj
  by_cases e : k = j
  · subst e
    rw [if_pos rfl, if_pos hk] at hj
    injection hj with hj
    subst hj
    exact ⟨c0, c1, ⟨A, c, c2, hI, hn⟩, hk64, hv64⟩
  · rw [if_neg e] at hj
    have hjl := (List.getElem?_eq_some_iff.1 hj).1
    have hnd := h.nd j m hj
    obtain ⟨A2, d, h1, h2, h3, h4, _, _⟩ := hnd.kids
    have hI2 : IntsAt X X.heap.size A2 m.kids := (h2.same' (fun b hb => hkids j (fun e2 => e e2.symm) hjl A2 _ d h1 b hb)).ints h3 (by omega)
    exact ⟨(hfar _ (by omega)).trans hnd.kind, (hfar _ (by omega)).trans hnd.value, ⟨A2, d, (hfar _ (by omega)).trans h1, hI2, h2.nil⟩, hnd.wfk, hnd.wfv⟩

/-- the kids of the nodes lie in blocks from lo on -/
def KidsFrom (w : World) (g lo n : Nat) : Prop := ∀ j, j < n → ∀ (A : Option Addr) (k d : Nat), w.cell? ⟨g, j * 3 + 2, none⟩ = some (.slice A k d) → ∀ b, blockOf A = some b → lo ≤ b

theorem NdsAt.keptK {w w' : World} {g : Nat} {ns : List Nd} (h : NdsAt w w.heap.size (some ⟨g, 0, none⟩) ns) (hs : w.heap.size ≤ w'.heap.size) (hg : w'.heap[g]? = w.heap[g]?) (hk : ∀ j, j < ns.length → ∀ (A : Option Addr) (k d : Nat), w.cell? ⟨g, j * 3 + 2, none⟩ = some (.slice A k d) → ∀ b, blockOf A = some b → w'.heap[b]? = w.heap[b]?) : NdsAt w' w'.heap.size (some ⟨g, 0, none⟩) ns := by
  refine ⟨fun hx => ?_, h.len⟩
  obtain ⟨b, off, e, hlt, hn⟩ := h.row hx
  injection e with e
  injection e with e1 e2
  subst e1 e2
  refine ⟨g, 0, rfl, by omega, fun j n hj => ?_⟩
  obtain ⟨a0, a1, ⟨A, c, a2, a3, a4⟩, a5, a6⟩ := hn j n hj
  have hc := fun q => World.cell?_of_block (w := w) (w' := w') (a := ⟨g, q, none⟩) hg
  refine ⟨(hc _).trans a0, (hc _).trans a1, ⟨A, c, (hc _).trans a2, a3.kept hs (fun b hb _ => hk j (List.getElem?_eq_some_iff.1 hj).1 A _ c (by rw [Nat.zero_add] at a2; exact a2) b hb), a4⟩, a5, a6⟩

/-- some graph that can be read comes back -/
def Drawn (rb : Nat) (A : Option Addr) (nb cb P : Nat) (w : World) (e : Ending) (w' : World) : Prop :=
  ∃ (g cap p' : Nat) (ns : List Nd) (r : Int), e = .returned (.agg #[.slice (some ⟨g, 0, none⟩) ns.length cap, .int .i64 r]) ∧ p' ≤ P ∧ Rd w' rb A nb cb p' ∧ NdsAt w' w'.heap.size (some ⟨g, 0, none⟩) ns ∧ w.heap.size ≤ g ∧ 1 ≤ ns.length ∧ ns.length ≤ 10 ∧ In64 r ∧ Grew rb w w' ∧ KidsFrom w' g w.heap.size ns.length ∧ ns.length ≤ cap

/-- what anyGraph knows behind its draws -/
structure AnyS (w wr : World) (rb b2 b3 nb cb gn cap len : Nat) (A : Option Addr) (r : Int) (P : Nat) (ns : List Nd) : Prop where
  rd : ∃ p1, p1 ≤ P ∧ Rd wr rb A nb cb p1
  grew : Grew rb w wr
  l2 : Lies wr b2 #[.slice none 0 0, .int .i64 0] 25
  l3 : Lies wr b3 #[.slice (some ⟨gn, 0, none⟩) len cap, .int .i64 r] 25
  gen : GenG wr gn rb cap ns
  hlen : ns.length = len
  over : ∀ j, j < len → ∀ (B2 : Option Addr) (k d : Nat), wr.cell? ⟨gn, j * 3 + 2, none⟩ = some (.slice B2 k d) → ∀ b, blockOf B2 = some b → b2 < b ∧ b ≠ b3
  n1 : w.heap.size ≤ b2
  n2 : b2 < gn
  n3 : gn < b3
  nr : rb < w.heap.size
  r64 : In64 r

theorem AnyS.turn {w wr : World} {rb b2 b3 nb cb gn cap len : Nat} {A : Option Addr} {r : Int} {P : Nat} {ns : List Nd} (h : AnyS w wr rb b2 b3 nb cb gn cap len A r P ns) {w5 : World} {p5 P' : Nat} (ht : Turn rb wr w5) (hr : Rd w5 rb A nb cb p5) (hp : p5 ≤ P') : AnyS w w5 rb b2 b3 nb cb gn cap len A r P' ns := by
  have n1 := h.n1
  have n2 := h.n2
  have n3 := h.n3
  have nr := h.nr
  have hG := Grew.of_turn ht
  have hc : ∀ q, w5.cell? ⟨gn, q, none⟩ = wr.cell? ⟨gn, q, none⟩ := fun q => World.cell?_of_block (w := wr) (ht.block gn (by omega))
  exact ⟨⟨p5, hp, hr⟩, h.grew.trans hG, h.l2.grew hG (by omega), h.l3.grew hG (by omega), h.gen.grew hG, h.hlen, fun j hj B2 k d h1 => h.over j hj B2 k d ((hc _).symm.trans h1), n1, n2, n3, nr, h.r64⟩

theorem AnyS.later {w wr : World} {rb b2 b3 nb cb gn cap len : Nat} {A : Option Addr} {r : Int} {P : Nat} {ns : List Nd} (h : AnyS w wr rb b2 b3 nb cb gn cap len A r P ns) {w5 : World} (hb : Below wr.heap.size wr w5) : AnyS w w5 rb b2 b3 nb cb gn cap len A r P ns := by
  have hG : Grew rb wr w5 := Grew.of_below hb
  obtain ⟨p1, hp, hr⟩ := h.rd
  have hl2 := h.l2.lt
  have hl3 := h.l3.lt
  have n3 := h.n3
  have hc : ∀ q, w5.cell? ⟨gn, q, none⟩ = wr.cell? ⟨gn, q, none⟩ := fun q => World.cell?_of_block (w := wr) (hb.block gn (by omega))
  exact ⟨⟨p1, hp, hr.below hb⟩, h.grew.trans hG, h.l2.below hb hl2, h.l3.below hb hl3, h.gen.grew hG, h.hlen, fun j hj B2 k d h1 => h.over j hj B2 k d ((hc _).symm.trans h1), h.n1, h.n2, h.n3, h.nr, h.r64⟩

theorem any_fin {w wr X : World} {rb b2 b3 nb cb gn cap len k c2 P' : Nat} {A A2 : Option Addr} {r : Int} {P : Nat} {ns : List Nd} (h : AnyS w wr rb b2 b3 nb cb gn cap len A r P ns) (hr : ∃ p1, p1 ≤ P' ∧ Rd X rb A nb cb p1) (hG : Grew rb w X) (hs : wr.heap.size ≤ X.heap.size) (hk : k < len) (h10 : len ≤ 10) (n : Nd)
    (c0 : X.cell? ⟨gn, k * 3, none⟩ = some (.int .i64 n.kind)) (c1 : X.cell? ⟨gn, k * 3 + 1, none⟩ = some (.int .i64 n.value)) (c2' : X.cell? ⟨gn, k * 3 + 2, none⟩ = some (.slice A2 n.kids.length c2))
    (hI : IntsAt X X.heap.size A2 n.kids) (hn : A2 = none → c2 = 0) (hk64 : In64 n.kind) (hv64 : In64 n.value) (hb2 : ∀ b, blockOf A2 = some b → b2 < b)
    (hfar : ∀ q, q < k * 3 ∨ k * 3 + 2 < q → X.cell? ⟨gn, q, none⟩ = wr.cell? ⟨gn, q, none⟩)
    (hkids : ∀ j, j ≠ k → j < len → ∀ (A2 : Option Addr) (m d : Nat), wr.cell? ⟨gn, j * 3 + 2, none⟩ = some (.slice A2 m d) → ∀ b, blockOf A2 = some b → X.heap[b]? = wr.heap[b]?) (r' : Int) (hr64 : In64 r') (u0 u1 : Value) :
    Drawn rb A nb cb P' w (.returned (.agg #[.slice (some ⟨gn, 0, none⟩) len cap, .int .i64 r'])) ((X.setCell ⟨b2, 0, none⟩ u0).setCell ⟨b2, 1, none⟩ u1) := by
  have n1 := h.n1
  have n2 := h.n2
  have n3 := h.n3
  have nr := h.nr
  have hlen := h.hlen
  have hbl : ∀ b, b ≠ b2 → ((X.setCell ⟨b2, 0, none⟩ u0).setCell ⟨b2, 1, none⟩ u1).heap[b]? = X.heap[b]? := fun b hb => (Below.heap_setCell _ _ _ _ hb).trans (Below.heap_setCell _ _ _ _ hb)
  have hc : ∀ q, ((X.setCell ⟨b2, 0, none⟩ u0).setCell ⟨b2, 1, none⟩ u1).cell? ⟨gn, q, none⟩ = X.cell? ⟨gn, q, none⟩ := fun q => World.cell?_of_block (w := X) (hbl gn (by omega))
  obtain ⟨p1, hp1, hr1⟩ := hr
  have hnds := h.gen.read (X := (X.setCell ⟨b2, 0, none⟩ u0).setCell ⟨b2, 1, none⟩ u1) (by simpa using hs) (by omega) n A2 c2 ((hc _).trans c0) ((hc _).trans c1) ((hc _).trans c2') (hI.kept (by simp) (fun b hb _ => hbl b (fun e => by have := hb2 b hb; omega))) hn hk64 hv64 (fun q hq => (hc q).trans (hfar q hq))
    (fun j hj hl A3 m d h1 b hb => (hbl b (by have := (h.over j (by omega) A3 m d h1 b hb).1; omega)).trans (hkids j hj (by omega) A3 m d h1 b hb))
  exact ⟨gn, cap, p1, ns.set k n, r', by rw [List.length_set, hlen], hp1, hr1.kept ⟨rfl, rfl, rfl, by simp, fun b hb => hbl b (by omega)⟩, hnds, by omega, by rw [List.length_set]; omega, by rw [List.length_set]; omega, hr64, ⟨hG.os, hG.tape, hG.output, by simpa using hG.size, fun b hb hne => (hbl b (by omega)).trans (hG.block b hb hne)⟩, (fun j hj A3 m d h1 b hb => by
    rw [List.length_set, hlen] at hj
    have h2 := (hc _).symm.trans h1
    by_cases e : j = k
    · subst e
      rw [c2'] at h2
      injection h2 with h2
      injection h2 with h2 _ _
      subst h2
      have := hb2 b hb
      omega
    · rw [hfar _ (by omega)] at h2
      have := (h.over j hj A3 m d h2 b hb).1
      omega), by rw [List.length_set]; exact h.gen.le⟩

/-- nothing at all is turned but what is not the graph's -/
theorem any_same {w wr X : World} {rb b2 b3 nb cb gn cap len P' : Nat} {A : Option Addr} {r : Int} {P : Nat} {ns : List Nd} (h : AnyS w wr rb b2 b3 nb cb gn cap len A r P ns) (hr : ∃ p1, p1 ≤ P' ∧ Rd X rb A nb cb p1) (hG : Grew rb w X) (hs : wr.heap.size ≤ X.heap.size) (h1 : 1 ≤ len) (h10 : len ≤ 10)
    (hbl : ∀ b, b < wr.heap.size → b ≠ rb → b ≠ b3 → X.heap[b]? = wr.heap[b]?) (r' : Int) (hr64 : In64 r') (u0 u1 : Value) :
    Drawn rb A nb cb P' w (.returned (.agg #[.slice (some ⟨gn, 0, none⟩) len cap, .int .i64 r'])) ((X.setCell ⟨b2, 0, none⟩ u0).setCell ⟨b2, 1, none⟩ u1) := by
  have n1 := h.n1
  have n2 := h.n2
  have n3 := h.n3
  have nr := h.nr
  have hlen := h.hlen
  have hgl := h.gen.lt
  obtain ⟨m, hm⟩ : ∃ m, ns[0]? = some m := ⟨_, List.getElem?_eq_getElem (by omega)⟩
  have hnd := h.gen.nd 0 m hm
  obtain ⟨A2, d, e1, e2, e3, e4, e5, e6⟩ := hnd.kids
  have hc : ∀ q, X.cell? ⟨gn, q, none⟩ = wr.cell? ⟨gn, q, none⟩ := fun q => World.cell?_of_block (w := wr) (hbl gn hgl (by omega) (by omega))
  have hov : ∀ j, j < len → ∀ (A3 : Option Addr) (m d : Nat), wr.cell? ⟨gn, j * 3 + 2, none⟩ = some (.slice A3 m d) → ∀ b, blockOf A3 = some b → X.heap[b]? = wr.heap[b]? := by
    intro j hj A3 m3 d3 h3 b hb
    obtain ⟨A4, d4, f1, f2, _, _, _, f6⟩ := (h.gen.nd j _ (List.getElem?_eq_getElem (by omega))).kids
    rw [h3] at f1
    injection f1 with f1
    injection f1 with f1 _ _
    subst f1
    exact hbl b (f2.blocks b hb).2 (fun e => f6 (by rw [hb, e])) (h.over j hj A3 m3 d3 h3 b hb).2
  have hI : IntsAt X X.heap.size A2 m.kids := (e2.same' (fun b hb => hov 0 (by omega) A2 _ d e1 b hb)).ints e3 (by omega)
  exact any_fin h hr hG hs (k := 0) (by omega) h10 m ((hc _).trans hnd.kind) ((hc _).trans hnd.value) ((hc _).trans e1) hI e2.nil hnd.wfk hnd.wfv (fun b hb => (h.over 0 (by omega) A2 _ d e1 b hb).1) (fun q _ => hc q) (fun j _ hj => hov j hj) r' hr64 u0 u1

/-- the end where a node is a tuple of itself -/
theorem any_two {w w5 : World} {rb b2 b3 nb cb gn cap len k p5 P' : Nat} {A : Option Addr} {r : Int} {P : Nat} {ns : List Nd} (h : AnyS w w5 rb b2 b3 nb cb gn cap len A r P ns) (hr : Rd w5 rb A nb cb p5) (hp : p5 ≤ P') (hk : k < len) (h10 : len ≤ 10) (u0 u1 : Value) :
    Drawn rb A nb cb P' w (.returned (.agg #[.slice (some ⟨gn, 0, none⟩) len cap, .int .i64 r])) ((((((w5.setCell ⟨gn, k * 3, none⟩ (.int .i64 2)).setCell ⟨gn, k * 3 + 1, none⟩ (.int .i64 0)).setCell ⟨gn, k * 3 + 2, none⟩ (.slice (some ⟨w5.heap.size, 0, none⟩) 1 1)).setCell ⟨b2, 0, none⟩ u0).setCell ⟨b2, 1, none⟩ u1).alloc (.cells #[.int .i64 (k : Int)] 3)) := by
  have n1 := h.n1
  have n2 := h.n2
  have n3 := h.n3
  have nr := h.nr
  have hlen := h.hlen
  have hgl := h.gen.lt
  have hl2 := h.l2.lt
  have hcap := h.gen.le
  have hgs := h.grew.size
  obtain ⟨fw, hfw⟩ := h.gen.row
  obtain ⟨W0, hW0⟩ : ∃ W0, W0 = put3 w5 gn k (.int .i64 2) (.int .i64 0) (.slice (some ⟨w5.heap.size, 0, none⟩) 1 1) := ⟨_, rfl⟩
  have hsz : W0.heap.size = w5.heap.size := by rw [hW0]; exact put3_size
  have hcp := put3_at (j := k) hfw (by omega) (.int .i64 2) (.int .i64 0) (.slice (some ⟨w5.heap.size, 0, none⟩) 1 1)
  rw [← hW0] at hcp
  have hfar0 : ∀ q, q < k * 3 ∨ k * 3 + 2 < q → W0.cell? ⟨gn, q, none⟩ = w5.cell? ⟨gn, q, none⟩ := fun q hq => by rw [hW0]; exact put3_far hq
  have hbl0 : ∀ b, b ≠ gn → W0.heap[b]? = w5.heap[b]? := fun b hb => by rw [hW0]; exact put3_block hb
  have hrd0 : Rd W0 rb A nb cb p5 := by rw [hW0]; exact hr.put (by omega) _ _ _
  have ho : W0.os = w5.os ∧ W0.tape = w5.tape ∧ W0.output = w5.output := by rw [hW0]; exact ⟨rfl, rfl, rfl⟩
  obtain ⟨X, hX⟩ : ∃ X, X = W0.alloc (.cells #[.int .i64 (k : Int)] 3) := ⟨_, rfl⟩
  have hbA : Below W0.heap.size W0 X := by rw [hX]; exact (Below.refl _ _).alloc (Nat.le_refl _) _
  have hXs : X.heap.size = w5.heap.size + 1 := by rw [hX, World.size_alloc, hsz]
  have hk64 : In64 (k : Int) := by constructor <;> omega
  have hI : IntsAt X X.heap.size (some ⟨w5.heap.size, 0, none⟩) [(k : Int)] := by
    have := IntsAt.one W0 (k : Int) hk64
    rw [← hX, hsz] at this
    exact this.more (by omega)
  have hXb : ∀ b, b < w5.heap.size → b ≠ gn → X.heap[b]? = w5.heap[b]? := fun b hb hne => (hbA.block b (by omega)).trans (hbl0 b hne)
  have hXc : ∀ q, X.cell? ⟨gn, q, none⟩ = W0.cell? ⟨gn, q, none⟩ := fun q => World.cell?_of_block (w := W0) (hbA.block gn (by omega))
  have hG : Grew rb w X := ⟨hbA.os.trans (ho.1.trans h.grew.os), hbA.tape.trans (ho.2.1.trans h.grew.tape), hbA.output.trans (ho.2.2.trans h.grew.output), by omega, fun b hb hne => (hXb b (by omega) (by omega)).trans (h.grew.block b hb hne)⟩
  have h264 : In64 2 := by constructor <;> omega
  have h064 : In64 0 := by constructor <;> omega
  have hfin := any_fin h (X := X) (k := k) (P' := P') (A2 := some ⟨w5.heap.size, 0, none⟩) (c2 := 1) ⟨p5, hp, hrd0.below hbA⟩ hG (by omega) hk h10 ⟨2, 0, [(k : Int)]⟩ ((hXc _).trans hcp.1) ((hXc _).trans hcp.2.1) ((hXc _).trans hcp.2.2) hI (fun e => by cases e) h264 h064 (fun b hb => by
      have hb' : w5.heap.size = b := by simpa [blockOf] using hb
      omega)
    (fun q hq => (hXc q).trans (hfar0 q hq)) (fun j hj hjl A3 m3 d3 h3 b hb => by
      obtain ⟨A4, d4, f1, f2, _, _, f5, _⟩ := (h.gen.nd j _ (List.getElem?_eq_getElem (by omega))).kids
      rw [h3] at f1
      injection f1 with f1
      injection f1 with f1 _ _
      subst f1
      exact hXb b (f2.blocks b hb).2 (fun e => f5 (by rw [hb, e]))) r h.r64 u0 u1
  have eW : ((((((w5.setCell ⟨gn, k * 3, none⟩ (.int .i64 2)).setCell ⟨gn, k * 3 + 1, none⟩ (.int .i64 0)).setCell ⟨gn, k * 3 + 2, none⟩ (.slice (some ⟨w5.heap.size, 0, none⟩) 1 1)).setCell ⟨b2, 0, none⟩ u0).setCell ⟨b2, 1, none⟩ u1).alloc (.cells #[.int .i64 (k : Int)] 3)) = (X.setCell ⟨b2, 0, none⟩ u0).setCell ⟨b2, 1, none⟩ u1 := by
    rw [hX, World.setCell_alloc_past _ _ _ _ (by show b2 < W0.heap.size; omega), World.setCell_alloc_past _ _ _ _ (by rw [World.size_setCell]; show b2 < W0.heap.size; omega), hW0]
    rfl
  rw [eW]
  exact hfin

/-- the end where a node has another kind -/
theorem any_kind {w w7 : World} {rb b2 b3 nb cb gn cap len k p7 P' : Nat} {A : Option Addr} {r : Int} {P : Nat} {ns : List Nd} (h : AnyS w w7 rb b2 b3 nb cb gn cap len A r P ns) (hr : Rd w7 rb A nb cb p7) (hp : p7 ≤ P') (hk : k < len) (h10 : len ≤ 10) (z : Int) (hz : In64 z) (u0 u1 : Value) :
    Drawn rb A nb cb P' w (.returned (.agg #[.slice (some ⟨gn, 0, none⟩) len cap, .int .i64 r])) (((w7.setCell ⟨gn, k * 3, none⟩ (.int .i64 z)).setCell ⟨b2, 0, none⟩ u0).setCell ⟨b2, 1, none⟩ u1) := by
  have n1 := h.n1
  have n2 := h.n2
  have n3 := h.n3
  have nr := h.nr
  have hlen := h.hlen
  have hgl := h.gen.lt
  have hcap := h.gen.le
  have hgs := h.grew.size
  obtain ⟨fw, hfw⟩ := h.gen.row
  obtain ⟨X, hX⟩ : ∃ X, X = w7.setCell ⟨gn, k * 3, none⟩ (.int .i64 z) := ⟨_, rfl⟩
  have hset := hfw.set (k * 3) (.int .i64 z)
  rw [← hX] at hset
  have hXs : X.heap.size = w7.heap.size := by rw [hX, World.size_setCell]
  have hXb : ∀ b, b ≠ gn → X.heap[b]? = w7.heap[b]? := fun b hb => by rw [hX]; exact Below.heap_setCell _ _ _ _ hb
  have hXc : ∀ q, q ≠ k * 3 → X.cell? ⟨gn, q, none⟩ = w7.cell? ⟨gn, q, none⟩ := fun q hq => by
    rw [hX, World.cell?_setCell_other]
    intro e
    injection e with _ e
    exact hq e.symm
  have ho : X.os = w7.os ∧ X.tape = w7.tape ∧ X.output = w7.output := by rw [hX]; exact ⟨rfl, rfl, rfl⟩
  obtain ⟨m, hm⟩ : ∃ m, ns[k]? = some m := ⟨_, List.getElem?_eq_getElem (by omega)⟩
  have hnd := h.gen.nd k m hm
  obtain ⟨A2, d, e1, e2, e3, e4, e5, e6⟩ := hnd.kids
  have hI : IntsAt X X.heap.size A2 m.kids := (e2.same' (fun b hb => hXb b (fun e => e5 (by rw [hb, e])))).ints e3 (by omega)
  have hc0 : X.cell? ⟨gn, k * 3, none⟩ = some (.int .i64 z) := by
    have := World.rowIs.cell hset (i := k * 3) (by omega)
    simpa using this
  have hrX : Rd X rb A nb cb p7 := hr.kept ⟨ho.1, ho.2.1, ho.2.2, by omega, fun b hb => hXb b (by omega)⟩
  have hG : Grew rb w X := ⟨ho.1.trans h.grew.os, ho.2.1.trans h.grew.tape, ho.2.2.trans h.grew.output, by omega, fun b hb hne => (hXb b (by omega)).trans (h.grew.block b hb hne)⟩
  have hfin := any_fin h (X := X) (k := k) (P' := P') (A2 := A2) (c2 := d) ⟨p7, hp, hrX⟩ hG (by omega) hk h10 ⟨z, m.value, m.kids⟩ hc0 ((hXc _ (by omega)).trans hnd.value) ((hXc _ (by omega)).trans e1) hI e2.nil hz hnd.wfv (fun b hb => (h.over k (by omega) A2 _ d e1 b hb).1)
    (fun q hq => hXc q (by omega)) (fun j hj hjl A3 m3 d3 h3 b hb => by
      obtain ⟨A4, d4, f1, f2, _, _, f5, _⟩ := (h.gen.nd j _ (List.getElem?_eq_getElem (by omega))).kids
      rw [h3] at f1
      injection f1 with f1
      injection f1 with f1 _ _
      subst f1
      exact hXb b (fun e => f5 (by rw [hb, e]))) r h.r64 u0 u1
  rw [hX] at hfin
  exact hfin

/-- the end where a node has a kid more -/
theorem any_app {w w8 w9 : World} {rb b2 b3 nb cb gn cap len k p8 P' ck c' : Nat} {A Ak A' : Option Addr} {r : Int} {P : Nat} {ns : List Nd} {m : Nd} {zs : List Int} {ob : Obj} (h : AnyS w w8 rb b2 b3 nb cb gn cap len A r P ns) (hr : Rd w8 rb A nb cb p8) (hp : p8 ≤ P') (hk : k < len) (h10 : len ≤ 10)
    (hm : ns[k]? = some m) (hck : w8.cell? ⟨gn, k * 3 + 2, none⟩ = some (.slice Ak m.kids.length ck)) (z : Int) (hz : In64 z) (hzs : zs = m.kids ++ [z]) (hown : OwnI w9 0 A' c' zs) (hg : (w8.alloc ob).grownBy w9 (blockOf Ak)) (ha : blockOf A' = blockOf Ak ∨ blockOf A' = some (w8.alloc ob).heap.size) (u0 u1 : Value) :
    Drawn rb A nb cb P' w (.returned (.agg #[.slice (some ⟨gn, 0, none⟩) len cap, .int .i64 r])) (((w9.setCell ⟨gn, k * 3 + 2, none⟩ (.slice A' zs.length c')).setCell ⟨b2, 0, none⟩ u0).setCell ⟨b2, 1, none⟩ u1) := by
  subst hzs
  have n1 := h.n1
  have n2 := h.n2
  have n3 := h.n3
  have nr := h.nr
  have hlen := h.hlen
  have hgl := h.gen.lt
  have hcap := h.gen.le
  have hgs := h.grew.size
  have hg9 := hg.size
  simp only [World.size_alloc] at hg9 ha
  obtain ⟨fw, hfw⟩ := h.gen.row
  have hnd := h.gen.nd k m hm
  obtain ⟨A2, d, e1, e2, e3, e4, e5, e6⟩ := hnd.kids
  rw [hck] at e1
  injection e1 with e1
  injection e1 with e1 _ _
  subst e1
  have hov : ∀ b, blockOf Ak = some b → b2 < b ∧ b ≠ b3 := fun b hb => h.over k (by omega) Ak _ ck hck b hb
  have h9 : ∀ b, b < w8.heap.size → blockOf Ak ≠ some b → w9.heap[b]? = w8.heap[b]? := fun b hb hne => (hg.block b (by simp; omega) (fun e => hne e.symm)).trans (Below.heap_alloc _ _ _ hb)
  have hgn9 := h9 gn hgl e5
  obtain ⟨X, hX⟩ : ∃ X, X = w9.setCell ⟨gn, k * 3 + 2, none⟩ (.slice A' (m.kids ++ [z]).length c') := ⟨_, rfl⟩
  have hset := (hfw.of_block hgn9).set (k * 3 + 2) (.slice A' (m.kids ++ [z]).length c')
  rw [← hX] at hset
  have hXs : X.heap.size = w9.heap.size := by rw [hX, World.size_setCell]
  have hXb : ∀ b, b ≠ gn → X.heap[b]? = w9.heap[b]? := fun b hb => by rw [hX]; exact Below.heap_setCell _ _ _ _ hb
  have hXc : ∀ q, q ≠ k * 3 + 2 → X.cell? ⟨gn, q, none⟩ = w8.cell? ⟨gn, q, none⟩ := fun q hq => by
    rw [hX, World.cell?_setCell_other]
    · exact World.cell?_of_block (w := w8) hgn9
    · intro e
      injection e with _ e
      exact hq e.symm
  have ho : X.os = w8.os ∧ X.tape = w8.tape ∧ X.output = w8.output := by rw [hX]; exact ⟨hg.os, hg.tape, hg.output⟩
  have hA'gn : blockOf A' ≠ some gn := by
    rcases ha with e | e
    · rw [e]; exact e5
    · rw [e]; simp; omega
  have h64 : ∀ x ∈ m.kids ++ [z], In64 x := fun x hx => by
    rcases List.mem_append.1 hx with hx | hx
    · exact e3 x hx
    · simp at hx; subst hx; exact hz
  have hI : IntsAt X X.heap.size A' (m.kids ++ [z]) := (hown.same' (fun b hb => hXb b (fun e => hA'gn (by rw [hb, e])))).ints h64 (by simp; omega)
  have hc2 : X.cell? ⟨gn, k * 3 + 2, none⟩ = some (.slice A' (m.kids ++ [z]).length c') := by
    have := World.rowIs.cell hset (i := k * 3 + 2) (by omega)
    simpa using this
  have hX8 : ∀ b, b < w8.heap.size → b ≠ gn → blockOf Ak ≠ some b → X.heap[b]? = w8.heap[b]? := fun b hb h1 h2 => (hXb b h1).trans (h9 b hb h2)
  have hrl := hr.box.lt
  have hrX : Rd X rb A nb cb p8 := hr.kept ⟨ho.1, ho.2.1, ho.2.2, by omega, fun b hb => hX8 b (by omega) (by omega) (fun e => by have := (hov b e).1; omega)⟩
  have hG : Grew rb w X := ⟨ho.1.trans h.grew.os, ho.2.1.trans h.grew.tape, ho.2.2.trans h.grew.output, by omega, fun b hb hne => (hX8 b (by omega) (by omega) (fun e => by have := (hov b e).1; omega)).trans (h.grew.block b hb hne)⟩
  have hfin := any_fin h (X := X) (k := k) (P' := P') (A2 := A') (c2 := c') ⟨p8, hp, hrX⟩ hG (by omega) hk h10 ⟨m.kind, m.value, m.kids ++ [z]⟩ ((hXc _ (by omega)).trans hnd.kind) ((hXc _ (by omega)).trans hnd.value) hc2 hI hown.nil hnd.wfk hnd.wfv (fun b hb => by
      rcases ha with e | e
      · rw [e] at hb
        have := (hov b hb).1
        omega
      · rw [e] at hb
        injection hb with hb
        omega)
    (fun q hq => hXc q (by omega)) (fun j hj hjl A3 m3 d3 h3 b hb => by
      obtain ⟨A4, d4, f1, f2, _, _, f5, _⟩ := (h.gen.nd j _ (List.getElem?_eq_getElem (by omega))).kids
      have h3' := h3
      rw [h3] at f1
      injection f1 with f1
      injection f1 with f1 _ _
      subst f1
      exact hX8 b (f2.blocks b hb).2 (fun e => f5 (by rw [hb, e])) (h.gen.dis j k A3 Ak _ _ _ _ hj (by omega) (by omega) h3' hck b hb)) r h.r64 u0 u1
  rw [hX] at hfin
  exact hfin

end Go.Proofs.Ythgklkpfmjgeoaa
