/-
  Lemmas, several texts in one: AlkG, AlkF.
-/
import Derived.Test.YthgklkpfmjgeoaaAddKidsK
import Derived.Test.YthgklkpfmjgeoaaPjAu
import Derived.Test.YthgklkpfmjgeoaaAnyGraC
import Derived.Test.YthgklkpfmjgeoaaPjBb
import Derived.Test.YthgklkpfmjgeoaaPjBc
import Derived.Test.YthgklkpfmjgeoaaShcS
import Derived.Test.YthgklkpfmjgeoaaPjAx
import Derived.Deep.RegionHeld3
import Derived.Deep.Cut
namespace Go.Proofs.Ythgklkpfmjgeoaa
open Go.RowKit
set_option linter.unusedVariables false

/-- the graph can be read in every later memory that keeps the blocks from lo on -/
def SeesG (w : World) (lo : Nat) (A : Option Addr) (ns : List Nd) : Prop :=
  ∀ w' : World, w.heap.size ≤ w'.heap.size → (∀ k, lo ≤ k → k < w.heap.size → w'.heap[k]? = w.heap[k]?) → NdsAt w' w'.heap.size A ns

theorem SeesG.here {w : World} {lo : Nat} {A : Option Addr} {ns : List Nd} (h : SeesG w lo A ns) : NdsAt w w.heap.size A ns := h w (Nat.le_refl _) (fun _ _ _ => rfl)
theorem SeesG.low {w : World} {lo lo' : Nat} {A : Option Addr} {ns : List Nd} (h : SeesG w lo A ns) (hl : lo' ≤ lo) : SeesG w lo' A ns := fun w' h1 h2 => h w' h1 (fun k a b => h2 k (by omega) b)
theorem SeesG.step {w w1 : World} {lo : Nat} {A : Option Addr} {ns : List Nd} (h : SeesG w lo A ns) (hs : w.heap.size ≤ w1.heap.size) (hb : ∀ k, lo ≤ k → k < w.heap.size → w1.heap[k]? = w.heap[k]?) : SeesG w1 lo A ns :=
  fun w' h1 h2 => h w' (Nat.le_trans hs h1) (fun k a b => (h2 k a (by omega)).trans (hb k a b))

theorem sees_kids {w : World} {g lo : Nat} {ns : List Nd} (h : NdsAt w w.heap.size (some ⟨g, 0, none⟩) ns) (hg : lo ≤ g) (hgl : g < w.heap.size) (hk : ∀ j, j < ns.length → ∀ (A : Option Addr) (k d : Nat), w.cell? ⟨g, j * 3 + 2, none⟩ = some (.slice A k d) → ∀ b, blockOf A = some b → lo ≤ b ∧ b < w.heap.size) : SeesG w lo (some ⟨g, 0, none⟩) ns :=
  fun w' hs hb => h.keptK hs (hb g hg hgl) (fun j hj A k d hc b hb' => hb b (hk j hj A k d hc b hb').1 (hk j hj A k d hc b hb').2)

theorem sees_own {w : World} {base : Nat} {A : Option Addr} {c : Nat} {ns : List Nd} (h : OwnNs w base w.heap.size A c ns) (hwf : WfN ns) (hl : ns.length ≤ 1000) : SeesG w base A ns := by
  exact fun w' hs hb => (h.kept (fun b h1 h2 => hb b h1 h2)).nds hwf (by omega)

theorem sees_rowN {w : World} {base : Nat} {A : Option Addr} {c : Nat} {ns : List Nd} (h : RowN w base A c ns) (hwf : WfN ns) (hl : ns.length ≤ 1000) : SeesG w base A ns := by
  intro w' hs hb
  obtain ⟨cs, h1, h2⟩ := h.row
  have h' : RowN w' base A c ns := by
    refine ⟨⟨cs, ⟨h1.1, ?_⟩, fun j n hj => ?_⟩⟩
    · rcases h1.2 with h3 | ⟨g, cap, cur, hv, hg, hh, r⟩
      · exact .inl h3
      · exact .inr ⟨g, cap, cur, hv, hg, (hb g hg (lt_of_block hh)).trans hh, r⟩
    · obtain ⟨A1, c1, a1, a2, a3, a4⟩ := h2 j n hj
      exact ⟨A1, c1, a1, a2, a3, a4.of_blk (fun b hb' => hb b (a4.blocks b hb').1 (a4.blocks b hb').2)⟩
  exact h'.nds hwf (by omega)

theorem sees_gen {w : World} {g rb cap lo : Nat} {ns : List Nd} (h : GenG w g rb cap ns) (hg : lo ≤ g) (hk : ∀ j, j < ns.length → ∀ (A : Option Addr) (k d : Nat), w.cell? ⟨g, j * 3 + 2, none⟩ = some (.slice A k d) → ∀ b, blockOf A = some b → lo ≤ b) : SeesG w lo (some ⟨g, 0, none⟩) ns := by
  refine sees_kids h.nds hg h.lt (fun j hj A k d hc b hb => ⟨hk j hj A k d hc b hb, ?_⟩)
  obtain ⟨A1, c1, e1, e2, _⟩ := (h.nd j _ (List.getElem?_eq_getElem hj)).kids
  rw [hc] at e1
  injection e1 with e1
  injection e1 with e1 _ _
  exact (e2.blocks b (by rw [← e1]; exact hb)).2

theorem sees_any {w : World} {g lo : Nat} {ns : List Nd} (h : NdsAt w w.heap.size (some ⟨g, 0, none⟩) ns) (hg : lo ≤ g) (hk : KidsFrom w g lo ns.length) : SeesG w lo (some ⟨g, 0, none⟩) ns := by
  intro w' hs hb
  refine ⟨fun hx => ?_, h.len⟩
  obtain ⟨b, off, e, hlt, hn⟩ := h.row hx
  injection e with e
  injection e with e1 e2
  subst e1 e2
  refine ⟨g, 0, rfl, Nat.lt_of_lt_of_le hlt hs, fun j n hj => ?_⟩
  obtain ⟨a0, a1, ⟨A, c, a2, a3, a4⟩, a5, a6⟩ := hn j n hj
  have hc := fun q => World.cell?_of_block (w := w) (w' := w') (a := ⟨g, q, none⟩) (hb g hg hlt)
  refine ⟨(hc _).trans a0, (hc _).trans a1, ⟨A, c, (hc _).trans a2, ⟨fun hne => ?_, a3.wf, a3.len⟩, a4⟩, a5, a6⟩
  obtain ⟨b2, off2, rfl, hb2, hcell⟩ := a3.row hne
  rw [Nat.zero_add] at a2
  have hlo := hk j (List.getElem?_eq_some_iff.1 hj).1 _ _ _ a2 b2 rfl
  exact ⟨b2, off2, rfl, Nat.lt_of_lt_of_le hb2 hs, fun i x hi => (World.cell?_of_block (w := w) (hb b2 hlo hb2)).trans (hcell i x hi)⟩

theorem RowN.capR {w : World} {base : Nat} {A : Option Addr} {c : Nat} {ns : List Nd} (h : RowN w base A c ns) : ns.length ≤ c := by
  obtain ⟨cs, h1, _⟩ := h.row
  rcases h1.2 with ⟨hv, h0⟩ | ⟨g, cap, cur, hv, hg, hh, hle, _⟩
  · omega
  · injection hv with _ _ e
    omega
theorem OwnNs.capR {w : World} {lo hi : Nat} {A : Option Addr} {c : Nat} {ns : List Nd} (h : OwnNs w lo hi A c ns) : ns.length ≤ c := by
  rcases h with ⟨_, _, e⟩ | ⟨g, _, h⟩
  · rw [e]; simp
  · exact h.le

/-- the memory of alikeGraphs: its two results' boxes, the box of the first graph -/
structure AlkS (w X : World) (rb b2 b3 b4 nb cb : Nat) (A : Option Addr) (P : Nat) (A1 : Option Addr) (c1 : Nat) (ms : List Nd) (r1 : Int) (u0 u1 v0 v1 : Value) : Prop where
  rd : ∃ p, p ≤ P ∧ Rd X rb A nb cb p
  grew : Grew rb w X
  l2 : Lies X b2 #[u0, u1] 25
  l3 : Lies X b3 #[v0, v1] 25
  l4 : Lies X b4 #[.slice A1 ms.length c1, .int .i64 r1] 25
  sees : SeesG X (b3 + 1) A1 ms
  h1 : w.heap.size ≤ b2
  h2 : b2 < b3
  h3 : b3 < b4
  nr : rb < w.heap.size

/-- the second graph -/
structure GotG (X : World) (lo : Nat) (A2 : Option Addr) (c2 : Nat) (ns : List Nd) (r2 : Int) : Prop where
  sees : SeesG X lo A2 ns
  le : ns.length ≤ 1000
  cap : ns.length ≤ c2
  r64 : In64 r2

section
variable {w X : World} {rb b2 b3 b4 nb cb : Nat} {A : Option Addr} {P : Nat} {A1 : Option Addr} {c1 : Nat} {ms : List Nd} {r1 : Int} {u0 u1 v0 v1 : Value}

theorem AlkS.move (h : AlkS w X rb b2 b3 b4 nb cb A P A1 c1 ms r1 u0 u1 v0 v1) {Y : World} {p P' : Nat} (hG : Grew rb X Y) (hr : Rd Y rb A nb cb p) (hp : p ≤ P') : AlkS w Y rb b2 b3 b4 nb cb A P' A1 c1 ms r1 u0 u1 v0 v1 := by
  have a1 := h.h1
  have a2 := h.h2
  have a3 := h.h3
  have a4 := h.nr
  have a5 := h.l4.lt
  exact ⟨⟨p, hp, hr⟩, h.grew.trans hG, (hG.block b2 (by omega) (by omega)).trans h.l2, (hG.block b3 (by omega) (by omega)).trans h.l3, (hG.block b4 (by omega) (by omega)).trans h.l4, h.sees.step hG.size (fun k h1 h2 => hG.block k h2 (by omega)), h.h1, h.h2, h.h3, h.nr⟩

theorem AlkS.later (h : AlkS w X rb b2 b3 b4 nb cb A P A1 c1 ms r1 u0 u1 v0 v1) {Y : World} (hb : Below X.heap.size X Y) : AlkS w Y rb b2 b3 b4 nb cb A P A1 c1 ms r1 u0 u1 v0 v1 := by
  obtain ⟨p, hp, hr⟩ := h.rd
  exact h.move (Grew.of_below hb) (hr.below hb) hp

theorem AlkS.set2 (h : AlkS w X rb b2 b3 b4 nb cb A P A1 c1 ms r1 u0 u1 v0 v1) (x0 x1 : Value) : AlkS w ((X.setCell ⟨b2, 0, none⟩ x0).setCell ⟨b2, 1, none⟩ x1) rb b2 b3 b4 nb cb A P A1 c1 ms r1 x0 x1 v0 v1 := by
  have a1 := h.h1
  have a2 := h.h2
  have a3 := h.h3
  have a4 := h.nr
  have hf : ∀ k, k ≠ b2 → ((X.setCell ⟨b2, 0, none⟩ x0).setCell ⟨b2, 1, none⟩ x1).heap[k]? = X.heap[k]? := fun k hk => (Below.heap_setCell _ _ _ _ hk).trans (Below.heap_setCell _ _ _ _ hk)
  have l := (h.l2.set 0 x0).set 1 x1
  simp only [List.setIfInBounds_toArray, List.set_cons_succ, List.set_cons_zero] at l
  obtain ⟨p, hp, hr⟩ := h.rd
  exact ⟨⟨p, hp, hr.kept ⟨rfl, rfl, rfl, by simp, fun k hk => hf k (by omega)⟩⟩, ⟨h.grew.os, h.grew.tape, h.grew.output, by have := h.grew.size; simpa using this, fun k hk a => (hf k (by omega)).trans (h.grew.block k hk a)⟩, l, (hf b3 (by omega)).trans h.l3, (hf b4 (by omega)).trans h.l4, h.sees.step (by simp) (fun k h1 h2 => hf k (by omega)), a1, a2, a3, a4⟩

theorem AlkS.set3 (h : AlkS w X rb b2 b3 b4 nb cb A P A1 c1 ms r1 u0 u1 v0 v1) (x0 x1 : Value) : AlkS w ((X.setCell ⟨b3, 0, none⟩ x0).setCell ⟨b3, 1, none⟩ x1) rb b2 b3 b4 nb cb A P A1 c1 ms r1 u0 u1 x0 x1 := by
  have a1 := h.h1
  have a2 := h.h2
  have a3 := h.h3
  have a4 := h.nr
  have hf : ∀ k, k ≠ b3 → ((X.setCell ⟨b3, 0, none⟩ x0).setCell ⟨b3, 1, none⟩ x1).heap[k]? = X.heap[k]? := fun k hk => (Below.heap_setCell _ _ _ _ hk).trans (Below.heap_setCell _ _ _ _ hk)
  have l := (h.l3.set 0 x0).set 1 x1
  simp only [List.setIfInBounds_toArray, List.set_cons_succ, List.set_cons_zero] at l
  obtain ⟨p, hp, hr⟩ := h.rd
  exact ⟨⟨p, hp, hr.kept ⟨rfl, rfl, rfl, by simp, fun k hk => hf k (by omega)⟩⟩, ⟨h.grew.os, h.grew.tape, h.grew.output, by have := h.grew.size; simpa using this, fun k hk a => (hf k (by omega)).trans (h.grew.block k hk a)⟩, (hf b2 (by omega)).trans h.l2, l, (hf b4 (by omega)).trans h.l4, h.sees.step (by simp) (fun k h1 h2 => hf k (by omega)), a1, a2, a3, a4⟩

theorem GotG.set (h : GotG X (b3 + 1) A1 c1 ms r1) {b : Nat} (hb : b ≤ b3) (x0 x1 : Value) : GotG ((X.setCell ⟨b, 0, none⟩ x0).setCell ⟨b, 1, none⟩ x1) (b3 + 1) A1 c1 ms r1 := by
  have hf : ∀ k, k ≠ b → ((X.setCell ⟨b, 0, none⟩ x0).setCell ⟨b, 1, none⟩ x1).heap[k]? = X.heap[k]? := fun k hk => (Below.heap_setCell _ _ _ _ hk).trans (Below.heap_setCell _ _ _ _ hk)
  exact ⟨h.sees.step (by simp) (fun k h1 h2 => hf k (by omega)), h.le, h.cap, h.r64⟩

/-- what the boxes hold -/
theorem AlkS.cells (h : AlkS w X rb b2 b3 b4 nb cb A P A1 c1 ms r1 u0 u1 v0 v1) : Hid (X.cell? ⟨b2, 0, none⟩ = some u0 ∧ X.cell? ⟨b2, 1, none⟩ = some u1 ∧ X.cell? ⟨b3, 0, none⟩ = some v0 ∧ X.cell? ⟨b3, 1, none⟩ = some v1 ∧ X.cell? ⟨b4, 0, none⟩ = some (.slice A1 ms.length c1) ∧ X.cell? ⟨b4, 1, none⟩ = some (.int .i64 r1) ∧ X.frozen? ⟨b2, 0, none⟩ = false ∧ X.frozen? ⟨b2, 1, none⟩ = false ∧ X.frozen? ⟨b3, 0, none⟩ = false ∧ X.frozen? ⟨b3, 1, none⟩ = false) := by
  have a0 := h.l2.cell 0
  have a1 := h.l2.cell 1
  have a2 := h.l3.cell 0
  have a3 := h.l3.cell 1
  have a4 := h.l4.cell 0
  have a5 := h.l4.cell 1
  simp only [List.getElem?_toArray, List.getElem?_cons_zero, List.getElem?_cons_succ] at a0 a1 a2 a3 a4 a5
  exact ⟨a0, a1, a2, a3, a4, a5, h.l2.frozen 0, h.l2.frozen 1, h.l3.frozen 0, h.l3.frozen 1⟩
end

/-- what a call for the second graph gives -/
def GotC (w : World) (rb b2 b3 b4 nb cb : Nat) (A : Option Addr) (P : Nat) (A1 : Option Addr) (c1 : Nat) (ms : List Nd) (r1 : Int) (u0 u1 v0 v1 : Value) (e : Ending) (Y : World) : Prop :=
  ∃ (A2 : Option Addr) (c2 : Nat) (ns : List Nd) (r2 : Int), e = .returned (.agg #[.slice A2 ns.length c2, .int .i64 r2]) ∧ AlkS w Y rb b2 b3 b4 nb cb A P A1 c1 ms r1 u0 u1 v0 v1 ∧ GotG Y (b3 + 1) A2 c2 ns r2

/-- two graphs come back that can be read -/
def AlikeG (rb : Nat) (A : Option Addr) (nb cb P : Nat) (w : World) (e : Ending) (w' : World) : Prop :=
  ∃ (A1 : Option Addr) (c1 : Nat) (ms : List Nd) (r1 : Int) (A2 : Option Addr) (c2 : Nat) (ns : List Nd) (r2 : Int), e = .returned (.tuple #[.agg #[.slice A1 ms.length c1, .int .i64 r1], .agg #[.slice A2 ns.length c2, .int .i64 r2]]) ∧
    (∃ p, p ≤ P ∧ Rd w' rb A nb cb p) ∧ Grew rb w w' ∧ GotG w' w.heap.size A1 c1 ms r1 ∧ GotG w' w.heap.size A2 c2 ns r2

section
variable {w X : World} {rb b2 b3 b4 nb cb : Nat} {A : Option Addr} {P : Nat} {A1 : Option Addr} {c1 : Nat} {ms : List Nd} {r1 : Int} {u0 u1 v0 v1 : Value}

theorem alkSome (h : AlkS w X rb b2 b3 b4 nb cb A P A1 c1 ms r1 u0 u1 v0 v1) (hP : P ≤ 400000) :
    Calls Try.prog 28 #[.pointer (some ⟨rb, 0, none⟩)] X (GotC w rb b2 b3 b4 nb cb A (P + 300) A1 c1 ms r1 u0 u1 v0 v1) := by
  obtain ⟨p, hp, hr⟩ := h.rd
  have a3 := h.h3
  have a5 := h.l4.lt
  refine (someGraph_any rb A nb cb p X hr (by omega)).mono ?_
  rintro e Y ⟨g, cap, p', ns, r, rfl, hp', hrd, hgen, hg, h1, h10, hr64, _, hG, hk⟩
  exact ⟨_, cap, ns, r, rfl, h.move hG hrd (by omega), (sees_gen hgen hg hk).low (by omega), by omega, hgen.le, hr64⟩

theorem alkAny (h : AlkS w X rb b2 b3 b4 nb cb A P A1 c1 ms r1 u0 u1 v0 v1) (hP : P ≤ 400000) :
    Calls Try.prog 27 #[.pointer (some ⟨rb, 0, none⟩)] X (GotC w rb b2 b3 b4 nb cb A (P + 300) A1 c1 ms r1 u0 u1 v0 v1) := by
  obtain ⟨p, hp, hr⟩ := h.rd
  have a3 := h.h3
  have a5 := h.l4.lt
  refine (anyGraph_any rb A nb cb p X hr (by omega)).mono ?_
  rintro e Y ⟨g, cap, p', ns, r, rfl, hp', hrd, hnds, hg, h1, h10, hr64, hG, hk, hcap⟩
  exact ⟨_, cap, ns, r, rfl, h.move hG hrd (by omega), (sees_any hnds hg hk).low (by omega), by omega, hcap, hr64⟩

theorem alkLeast (h : AlkS w X rb b2 b3 b4 nb cb A P A1 c1 ms r1 u0 u1 v0 v1) (hv : ValidG ms r1) :
    Calls Try.prog 30 #[.agg #[.slice A1 ms.length c1, .int .i64 r1]] X (GotC w rb b2 b3 b4 nb cb A P A1 c1 ms r1 u0 u1 v0 v1) := by
  have a3 := h.h3
  have a5 := h.l4.lt
  refine (specLeast0_any A1 ms c1 r1 X h.sees.here hv).mono ?_
  rintro e Y ⟨A2, c2, rfl, hrow, hwf, hb⟩
  have hl : (lstN ms r1).length ≤ 1000 := Nat.le_trans (lstN_smallN ms r1).len (by omega)
  exact ⟨A2, c2, _, _, rfl, h.later hb, (sees_rowN hrow hwf hl).low (by omega), hl, hrow.capR, by constructor <;> omega⟩

theorem alkMerge (h : AlkS w X rb b2 b3 b4 nb cb A P A1 c1 ms r1 u0 u1 v0 v1) (hv : ValidG ms r1) :
    Calls Try.prog 31 #[.agg #[.slice A1 ms.length c1, .int .i64 r1]] X (GotC w rb b2 b3 b4 nb cb A P A1 c1 ms r1 u0 u1 v0 v1) := by
  have a3 := h.h3
  have a5 := h.l4.lt
  refine (specMerge_any A1 ms c1 r1 X h.sees.here).mono ?_
  rintro e Y ⟨A2, c2, rfl, hown, hb⟩
  have hl : (mrgN ms r1).length ≤ 1000 := Nat.le_trans (mrgN_smallN ms r1).len (by omega)
  exact ⟨A2, c2, _, _, rfl, h.later hb, (sees_own hown (mrgN_wf r1 h.sees.here.wf) hl).low (by omega), hl, hown.capR, by have h5 := (mrg_valid hv).root0; have h6 := (mrg_valid hv).root; constructor <;> omega⟩

theorem alkShal (h : AlkS w X rb b2 b3 b4 nb cb A P A1 c1 ms r1 u0 u1 v0 v1) (hv : ValidG ms r1) (h10 : ms.length ≤ 10) :
    Calls Try.prog 32 #[.agg #[.slice A1 ms.length c1, .int .i64 r1]] X (fun e Y => ∃ (A2 : Option Addr) (c2 : Nat) (ns : List Nd) (r2 : Int), e = .returned (.agg #[.slice A2 ns.length c2, .int .i64 r2]) ∧ AlkS w Y rb b2 b3 b4 nb cb A P A1 c1 ms r1 u0 u1 v0 v1 ∧ GotG Y (b3 + 1) A2 c2 ns r2 ∧ 0 < ns.length) := by
  have a3 := h.h3
  have a5 := h.l4.lt
  refine (specShallow_any A1 ms c1 r1 X h.sees.here).mono ?_
  rintro e Y ⟨A2, c2, rfl, hown, hb⟩
  have hl : (shalN ms r1).length ≤ 1000 := Nat.le_trans (shalN_smallN ms r1).len (by omega)
  exact ⟨A2, c2, _, _, rfl, h.later hb, ⟨(sees_own hown (shalN_wf r1 h.sees.here.wf) hl).low (by omega), hl, hown.capR, by rw [shalR_yes hv (by omega)]; constructor <;> omega⟩, by rw [shalN_yes hv (by omega)]; simp⟩

theorem GotG.later {lo : Nat} (h : GotG X lo A1 c1 ms r1) {Y : World} (hb : Below X.heap.size X Y) : GotG Y lo A1 c1 ms r1 :=
  ⟨h.sees.step hb.size (fun k _ h2 => hb.block k h2), h.le, h.cap, h.r64⟩

/-- the pruned graph, ready for kids -/
structure PrnD (X : World) (b3 b4 : Nat) (A1 : Option Addr) (ms : List Nd) (r1 : Int) (g c lo : Nat) : Prop where
  row : RowD X lo X.heap.size (some ⟨g, 0, none⟩) c (prunedOf ms r1)
  wf : WfN (prunedOf ms r1)
  sees : ∀ w' : World, X.heap.size ≤ w'.heap.size → (∀ k, b3 + 1 ≤ k → k < lo → w'.heap[k]? = X.heap[k]?) → NdsAt w' w'.heap.size A1 ms
  hlo : b4 < lo
  hle : lo ≤ X.heap.size

theorem PrnD.set2 {g c lo : Nat} (h : PrnD X b3 b4 A1 ms r1 g c lo) {b : Nat} (hb : b ≤ b3) (hb4 : b3 < b4) (x0 x1 : Value) : PrnD ((X.setCell ⟨b, 0, none⟩ x0).setCell ⟨b, 1, none⟩ x1) b3 b4 A1 ms r1 g c lo := by
  have hf : ∀ k, k ≠ b → ((X.setCell ⟨b, 0, none⟩ x0).setCell ⟨b, 1, none⟩ x1).heap[k]? = X.heap[k]? := fun k hk => (Below.heap_setCell _ _ _ _ hk).trans (Below.heap_setCell _ _ _ _ hk)
  have hl := h.hlo
  exact ⟨(h.row.ofBlk (fun k h1 _ => hf k (by omega))).up (by simp), h.wf, fun w' h1 h2 => h.sees w' (by simpa using h1) (fun k a b => (h2 k a b).trans (hf k (by omega))), h.hlo, by simpa using h.hle⟩

theorem alkPrun (h : AlkS w X rb b2 b3 b4 nb cb A P A1 c1 ms r1 u0 u1 v0 v1) (hv : ValidG ms r1) :
    Calls Try.prog 34 #[.agg #[.slice A1 ms.length c1, .int .i64 r1]] X (fun e Y => ∃ g c lo, e = .returned (.agg #[.slice (some ⟨g, 0, none⟩) (prunedOf ms r1).length c, .int .i64 0]) ∧ AlkS w Y rb b2 b3 b4 nb cb A P A1 c1 ms r1 u0 u1 v0 v1 ∧ PrnD Y b3 b4 A1 ms r1 g c lo) := by
  have a3 := h.h3
  have a5 := h.l4.lt
  obtain ⟨i, hi⟩ := Int.eq_ofNat_of_zero_le hv.root0
  have hC := specPruned_apart A1 ms c1 i X h.sees.here (by rw [← hi]; exact hv)
  rw [← hi, ← pruned_yes hv] at hC
  refine hC.mono ?_
  rintro e Y ⟨A2, c2, rfl, hrow, hwf, hb⟩
  have h1 := (pruned_valid hv).one
  obtain ⟨cs, h5, _⟩ := hrow.row
  obtain ⟨g, cap, hvv, _, _⟩ := h5.form (by omega)
  injection hvv with e1 _ _
  subst e1
  exact ⟨g, c2, X.heap.size, rfl, h.later hb, hrow, hwf, fun w' h1 h2 => h.sees w' (Nat.le_trans hb.size h1) (fun k a b => (h2 k a b).trans (hb.block k b)), h.l4.lt, hb.size⟩

theorem alkAdd (h : AlkS w X rb b2 b3 b4 nb cb A P A1 c1 ms r1 u0 u1 v0 v1) (hv : ValidG ms r1) (hP : P ≤ 400000) {g c lo : Nat} (hp : PrnD X b3 b4 A1 ms r1 g c lo) :
    Calls Try.prog 33 #[.pointer (some ⟨rb, 0, none⟩), .agg #[.slice (some ⟨g, 0, none⟩) (prunedOf ms r1).length c, .int .i64 0], .int .i64 0] X (GotC w rb b2 b3 b4 nb cb A (P + 300) A1 c1 ms r1 u0 u1 v0 v1) := by
  have a1 := h.h1
  have a2 := h.h2
  have a3 := h.h3
  have a4 := h.nr
  have a5 := h.l4.lt
  have a6 := hp.hlo
  have a7 := hp.hle
  have hvp := pruned_valid hv
  have hwf := hp.wf
  obtain ⟨p, hpp, hr⟩ := h.rd
  rcases hp.row.own (Nat.le_refl _) with ⟨h5, _, _⟩ | ⟨g', h5, hO⟩
  · cases h5
  injection h5 with h5
  injection h5 with h5 _ _
  subst h5
  have hsees := hp.sees
  clear hp
  generalize hns : prunedOf ms r1 = ns2 at hvp hwf hO ⊢
  have hglo := hO.hlo
  have hlow : ∀ (j : Nat) (Aq : Option Addr) (kq cq : Nat), j < ns2.length → X.cell? ⟨g, j * 3 + 2, none⟩ = some (.slice Aq kq cq) → ∀ b, blockOf Aq = some b → lo ≤ b ∧ b < X.heap.size ∧ b ≠ g := by
    intro j Aq kq cq hj hc b hb
    obtain ⟨A3, c3, e1, e2, e3⟩ := (hO.nd j _ (List.getElem?_eq_getElem hj)).kids
    rw [hc] at e1
    injection e1 with e1
    injection e1 with e1 _ _
    rw [e1] at hb
    exact ⟨(e2.blocks b hb).1, (e3 b hb).1, (e3 b hb).2⟩
  have hgen : GenG X g rb c ns2 := by
    refine ⟨hO.row, hO.le, by have := hvp.few; omega, fun j n hj => ?_, by omega, hO.dis⟩
    have hn := hO.nd j n hj
    obtain ⟨A3, c3, e1, e2, e3⟩ := hn.kids
    obtain ⟨w1, w2, w3, _⟩ := hwf n (List.mem_of_getElem? hj)
    have hk6 := (hvp.nodes n (List.mem_of_getElem? hj)).few
    exact ⟨hn.kind, hn.value, ⟨A3, c3, e1, e2.lowB (Nat.zero_le _), w3, by omega, fun e => (e3 g e).2 rfl, fun e => by have := (e2.blocks rb e).1; omega⟩, w1, w2⟩
  obtain ⟨n0, hn0⟩ : ∃ n, ns2[0]? = some n := ⟨_, List.getElem?_eq_getElem (by have := hvp.one; omega)⟩
  have hok := hvp.nodes n0 (List.mem_of_getElem? hn0)
  obtain ⟨A0, c0, e1, e2, e3⟩ := (hO.nd 0 n0 hn0).kids
  have hkd : 0 ≤ n0.kind ∧ n0.kind ≤ 5 := by
    rcases hok.kind with h | h | h | h | h | h <;> omega
  have hC := addKidsK_any rb A nb cb p g c 0 0 n0.kind n0.value ns2 A0 c0 n0.kids X hr (by omega) hgen (by omega) hn0 hkd.1 hkd.2 e1 (e2.lowB (Nat.zero_le _)) hok.inn hok.few (fun b hb => ⟨by have := (e2.blocks b hb).1; omega, (e3 b hb).2⟩)
  refine Calls.mono hC ?_
  rintro e Y ⟨n', p', rfl, hp', hrd, hgY, _, _, _, y1, y2, y3, y4, hblk, hkids⟩
  have hA0 : ∀ b, blockOf A0 = some b → lo ≤ b := fun b hb => (e2.blocks b hb).1
  have hold : ∀ k, k < lo → k < X.heap.size → k ≠ rb → Y.heap[k]? = X.heap[k]? := fun k h1 h2 h3 => hblk k h2 h3 (by omega) (fun e => by have := hA0 k e; omega)
  have hll : (ns2.set 0 n').length = ns2.length := List.length_set
  refine ⟨some ⟨g, 0, none⟩, c, ns2.set 0 n', 0, by rw [hll], ⟨⟨p', by omega, hrd⟩, ⟨y1.trans h.grew.os, y2.trans h.grew.tape, y3.trans h.grew.output, Nat.le_trans h.grew.size y4, fun k hk hk2 => (hold k (by omega) (by omega) hk2).trans (h.grew.block k hk hk2)⟩, (hold b2 (by omega) (by omega) (by omega)).trans h.l2, (hold b3 (by omega) (by omega) (by omega)).trans h.l3, (hold b4 (by omega) (by omega) (by omega)).trans h.l4, fun w' h1 h2 => hsees w' (Nat.le_trans y4 h1) (fun k i1 i2 => (h2 k i1 (by omega)).trans (hold k i2 (by omega) (by omega))), h.h1, h.h2, h.h3, h.nr⟩, sees_gen hgY (by omega) (fun j hj Aq kq cq hc b hb => ?_), by rw [hll]; have := hvp.few; omega, hgY.le, by constructor <;> omega⟩
  rw [hll] at hj
  rcases hkids j hj Aq kq cq hc b hb with h6 | ⟨i, A3, k3, c3, hi, hc3, hb3⟩
  · omega
  · have := (hlow i A3 k3 c3 hi hc3 b hb3).1
    omega
end

end Go.Proofs.Ythgklkpfmjgeoaa

namespace Go.Proofs.Ythgklkpfmjgeoaa
open Go.RowKit
set_option linter.unusedVariables false

theorem AlkS.more {w X : World} {rb b2 b3 b4 nb cb : Nat} {A : Option Addr} {P P' : Nat} {A1 : Option Addr} {c1 : Nat} {ms : List Nd} {r1 : Int} {u0 u1 v0 v1 : Value} (h : AlkS w X rb b2 b3 b4 nb cb A P A1 c1 ms r1 u0 u1 v0 v1) (hp : P ≤ P') : AlkS w X rb b2 b3 b4 nb cb A P' A1 c1 ms r1 u0 u1 v0 v1 := by
  obtain ⟨p, h1, h2⟩ := h.rd
  exact ⟨⟨p, by omega, h2⟩, h.grew, h.l2, h.l3, h.l4, h.sees, h.h1, h.h2, h.h3, h.nr⟩

theorem AlkS.fin {w X : World} {rb b4 nb cb : Nat} {A : Option Addr} {P : Nat} {A1 : Option Addr} {c1 : Nat} {ms : List Nd} {r1 : Int} {A2 : Option Addr} {c2 : Nat} {ns : List Nd} {r2 : Int} (h : AlkS w X rb w.heap.size (w.heap.size + 1) b4 nb cb A P A1 c1 ms r1 (.slice A1 ms.length c1) (.int .i64 r1) (.slice A2 ns.length c2) (.int .i64 r2)) (hl : ms.length ≤ 1000) (hc : ms.length ≤ c1) (h64 : In64 r1) (hg : GotG X (w.heap.size + 1 + 1) A2 c2 ns r2) :
    AlikeG rb A nb cb P w (.returned (.tuple #[.agg #[.slice A1 ms.length c1, .int .i64 r1], .agg #[.slice A2 ns.length c2, .int .i64 r2]])) X :=
  ⟨A1, c1, ms, r1, A2, c2, ns, r2, rfl, h.rd, h.grew, ⟨h.sees.low (by omega), hl, hc, h64⟩, ⟨hg.sees.low (by omega), hg.le, hg.cap, hg.r64⟩⟩

set_option maxRecDepth 100000 in
set_option maxHeartbeats 4000000 in
theorem alikeGraphs_any (rb : Nat) (A : Option Addr) (nb cb p : Nat) (w : World) (h : Rd w rb A nb cb p) (hp : p < 100000) :
    Calls Try.prog 10 #[.pointer (some ⟨rb, 0, none⟩)] w (AlikeG rb A nb cb (p + 900) w) := by
  have hrlt := h.box.lt
  have hB : Below w.heap.size w ((w.alloc (.cells #[.slice none 0 0, .int .i64 0] 25)).alloc (.cells #[.slice none 0 0, .int .i64 0] 25)) := ((Below.refl _ w).alloc (Nat.le_refl _) _).alloc (by simp) _
  have hr0 := h.below hB
  have l2 := (Lies.new w #[.slice none 0 0, .int .i64 0] 25).alloc (.cells #[.slice none 0 0, .int .i64 0] 25)
  have l3 := Lies.new (w.alloc (.cells #[.slice none 0 0, .int .i64 0] 25)) #[.slice none 0 0, .int .i64 0] 25
  simp only [World.size_alloc] at l3
  clear h
  go_enter Try.func10, Try.ntmps10
  go_wp2_with fail
  have hWs : Hid (((w.alloc (.cells #[.slice none 0 0, .int .i64 0] 25)).alloc (.cells #[.slice none 0 0, .int .i64 0] 25)).heap.size = w.heap.size + 1 + 1) := by show _ = _; simp
  generalize (w.alloc (.cells #[.slice none 0 0, .int .i64 0] 25)).alloc (.cells #[.slice none 0 0, .int .i64 0] 25) = W at hB l2 l3 hr0 hWs ⊢
  refine (anyGraph_any rb A nb cb p W hr0 (by omega)).mono ?_
  rintro e w2 ⟨g, cap, p', ms, r, rfl, hp', hrd, hnds, hg, h1, h10, hr64, hG, hkf, hcap⟩
  have hS0 : AlkS w (w2.alloc (.cells #[.slice (some ⟨g, 0, none⟩) ms.length cap, .int .i64 r] 25)) rb w.heap.size (w.heap.size + 1) w2.heap.size nb cb A (p + 204) (some ⟨g, 0, none⟩) cap ms r (.slice none 0 0) (.int .i64 0) (.slice none 0 0) (.int .i64 0) := by
    have hs2 := hG.size
    have hws := hWs.out
    have hba : Below w2.heap.size w2 (w2.alloc (.cells #[.slice (some ⟨g, 0, none⟩) ms.length cap, .int .i64 r] 25)) := (Below.refl _ _).alloc (Nat.le_refl _) _
    have hGa : Grew rb W (w2.alloc (.cells #[.slice (some ⟨g, 0, none⟩) ms.length cap, .int .i64 r] 25)) := hG.trans (Grew.of_below hba)
    exact ⟨⟨p', hp', hrd.below hba⟩, (Grew.of_below hB).trans hGa, (hGa.block _ (by omega) (by omega)).trans l2, (hGa.block _ (by omega) (by omega)).trans l3, Lies.new _ _ _, ((sees_any hnds hg hkf).low (by omega)).step hba.size (fun k _ h2 => hba.block k h2), Nat.le_refl _, by omega, by omega, hrlt⟩
  have hb4 : w.heap.size + 1 < w2.heap.size := by have := hG.size; have := hWs.out; omega
  have HS0 := hide hS0
  obtain ⟨e0, e1, e2, e3, e4, e5, f0, f1, f2, f3⟩ := hS0.cells.out
  have hnd := hS0.sees.here
  clear hS0 hrd hnds hG hkf hB l2 l3 hr0 hWs hg
  go_upto_region 2 with fail
  generalize w2.alloc (.cells #[.slice (some ⟨g, 0, none⟩) ms.length cap, .int .i64 r] 25) = X at HS0 e0 e1 e2 e3 e4 e5 f0 f1 f2 f3 hnd ⊢
  generalize w2.heap.size = b4 at HS0 e4 e5 hb4 ⊢
  have hVC := specValidGraph_any (some ⟨g, 0, none⟩) ms cap r X hnd
  clear hnd
  go_wp2_with fail
  refine hVC.mono ?_
  clear hVC
  rintro e x1 ⟨rfl, hb1⟩
  have HS1 := hide (HS0.out.later hb1)
  clear HS0 e0 e1 e2 e3 e4 e5 f0 f1 f2 f3 hb1
  obtain ⟨e0, e1, e2, e3, e4, e5, f0, f1, f2, f3⟩ := HS1.out.cells.out
  have hb23 : w.heap.size ≠ b4 := by omega
  have hb34 : w.heap.size + 1 ≠ b4 := by omega
  have hb43 : b4 ≠ w.heap.size := by omega
  have hb44 : b4 ≠ w.heap.size + 1 := by omega
  by_cases hv : ValidG ms r
  · rw [tf_true hv]
    have HV := hide hv
    clear hv
    obtain ⟨p1, hp1, hr1⟩ := HS1.out.rd
    go_wp2_with fail
    refine (pick_any rb A nb cb p1 5 x1 hr1 (by omega) (by omega)).mono ?_
    rintro e x2 ⟨⟨k, rfl, hk, _⟩, hr2, ht2⟩
    have hk5 : k < 5 := by have := hk (by omega); omega
    have HS3 := hide (HS1.out.move (P' := p + 205) (Grew.of_turn ht2) hr2 (by omega))
    clear HS1 hr1 hr2 ht2 hk e0 e1 e2 e3 e4 e5 f0 f1 f2 f3
    have HS1 := HS3
    clear HS3
    obtain ⟨e0, e1, e2, e3, e4, e5, f0, f1, f2, f3⟩ := HS1.out.cells.out
    have HS1d := hide (HS1.out.later (Below.refl _ x2).drew)
    obtain rfl | rfl | rfl | rfl | rfl : k = 0 ∨ k = 1 ∨ k = 2 ∨ k = 3 ∨ k = 4 := by omega
    · go_wp2_with fail
      refine wp_region_held_drew (S := (fun w' => w'.cell? ⟨b4, 0, none⟩ = some (.slice (some ⟨g, 0, none⟩) ms.length cap) ∧ w'.cell? ⟨b4, 1, none⟩ = some (.int .i64 r))) (by kernel_rfl) ⟨HS1d.out.cells.out.2.2.2.2.1, HS1d.out.cells.out.2.2.2.2.2.1⟩ (fun hHeld => ?_)
      refine wpAnyH_take (i := 0) (oi := { dst := some 18, op := _, type := _, pos := _, after := _, guard := _ }) (v := ?_) rfl (by kernel_rfl) (by kernel_rfl) (by kernel_rfl) (fun _ _ _ h => h) (Or.inl ⟨by rfl, ?_⟩) (by assumption) ?_
      rotate_left
      · (intro w hSw; (try dsimp only at hSw); go_simp; try with_reducible rfl)
      try simp only [Act.put, List.setIfInBounds_toArray, List.set_cons_zero, List.set_cons_succ]
      refine wpAnyH_take (i := 1) (oi := { dst := some 19, op := _, type := _, pos := _, after := _, guard := _ }) (v := ?_) rfl (by kernel_rfl) (by kernel_rfl) (by kernel_rfl) (fun _ _ _ h => h) (Or.inl ⟨by rfl, ?_⟩) (by assumption) ?_
      rotate_left
      · (intro w hSw; (try dsimp only at hSw); go_simp; try with_reducible rfl)
      try simp only [Act.put, List.setIfInBounds_toArray, List.set_cons_zero, List.set_cons_succ]
      refine wpAnyH_ready (rs := [2]) (by kernel_rfl) (by simp) ?_
      refine AllReadyH.cons (o := { dst := some 20, op := _, type := _, pos := _, after := _, guard := _ }) rfl (fun K hK => ?_) AllReadyH.nil
      go_simp
      go_at_call 30
      refine (alkLeast HS1d.out HV.out).mono ?_
      rintro e y ⟨A2, c2, ns, r2, rfl, hS2, hG2⟩
      obtain ⟨y0, y1, y2, y3, y4, y5, z0, z1, z2, z3⟩ := hS2.cells.out
      have HS2 := hide (hS2.more (show _ ≤ p + 900 by omega))
      have HG2 := hide hG2
      clear hS2 hG2
      dsimp only
      refine hK.out _ _ ⟨HS2.out.cells.out.2.2.2.2.1, HS2.out.cells.out.2.2.2.2.2.1⟩ (fun hH => ?_)
      clear hK K hHeld
      have hHeld := hH
      clear hH
      try simp only [Act.put, List.setIfInBounds_toArray, List.set_cons_zero, List.set_cons_succ]
      refine wpAnyH_ready (rs := [3]) (by kernel_rfl) (by simp) ?_
      refine AllReadyH.cons (o := { dst := none, op := _, type := _, pos := _, after := _, guard := _ }) rfl (fun K hK => ?_) AllReadyH.nil
      go_simp
      refine hK.out _ _ ⟨(HS2.out.set2 (.slice (some ⟨g, 0, none⟩) ms.length cap) (.int .i64 r)).cells.out.2.2.2.2.1, (HS2.out.set2 (.slice (some ⟨g, 0, none⟩) ms.length cap) (.int .i64 r)).cells.out.2.2.2.2.2.1⟩ (fun hH => ?_)
      clear hK K hHeld
      have hHeld := hH
      clear hH
      try simp only [Act.put, List.setIfInBounds_toArray, List.set_cons_zero, List.set_cons_succ]
      obtain ⟨_, _, x2_, x3_, _, _, _, _, x4_, x5_⟩ := (HS2.out.set2 (.slice (some ⟨g, 0, none⟩) ms.length cap) (.int .i64 r)).cells.out
      refine wpAnyH_ready (rs := [4]) (by kernel_rfl) (by simp) ?_
      refine AllReadyH.cons (o := { dst := none, op := _, type := _, pos := _, after := _, guard := _ }) rfl (fun K hK => ?_) AllReadyH.nil
      go_simp
      refine hK.out _ _ ⟨((HS2.out.set2 (.slice (some ⟨g, 0, none⟩) ms.length cap) (.int .i64 r)).set3 (.slice A2 ns.length c2) (.int .i64 r2)).cells.out.2.2.2.2.1, ((HS2.out.set2 (.slice (some ⟨g, 0, none⟩) ms.length cap) (.int .i64 r)).set3 (.slice A2 ns.length c2) (.int .i64 r2)).cells.out.2.2.2.2.2.1⟩ (fun hH => ?_)
      clear hK K hHeld
      have hHeld := hH
      clear hH
      try simp only [Act.put, List.setIfInBounds_toArray, List.set_cons_zero, List.set_cons_succ]
      refine wpAnyH_done (by kernel_rfl) ?_ _
      obtain ⟨q0, q1, q2, q3, _⟩ := ((HS2.out.set2 (.slice (some ⟨g, 0, none⟩) ms.length cap) (.int .i64 r)).set3 (.slice A2 ns.length c2) (.int .i64 r2)).cells.out
      have HR := hide (((HS2.out.set2 (.slice (some ⟨g, 0, none⟩) ms.length cap) (.int .i64 r)).set3 (.slice A2 ns.length c2) (.int .i64 r2)).fin (by omega) hcap hr64 ((HG2.out.set (Nat.le_succ _) (.slice (some ⟨g, 0, none⟩) ms.length cap) (.int .i64 r)).set (Nat.le_refl _) (.slice A2 ns.length c2) (.int .i64 r2)))
      clear HS2 y0 y1 y2 y3 y4 y5 z0 z1 z2 z3 e0 e1 e2 e3 e4 e5 f0 f1 f2 f3 hHeld
      go_wp2
      refine bodyPost_ret (v := .tuple #[.agg #[.slice (some ⟨g, 0, none⟩) ms.length cap, .int .i64 r], .agg #[.slice A2 ns.length c2, .int .i64 r2]]) (by simp [results, Try.results10, go_sem, q0, q1, q2, q3]) rfl ?_
      exact HR.out
    · go_wp2_with fail
      refine wp_region_held_drew (S := (fun w' => w'.cell? ⟨b4, 0, none⟩ = some (.slice (some ⟨g, 0, none⟩) ms.length cap) ∧ w'.cell? ⟨b4, 1, none⟩ = some (.int .i64 r))) (by kernel_rfl) ⟨HS1d.out.cells.out.2.2.2.2.1, HS1d.out.cells.out.2.2.2.2.2.1⟩ (fun hHeld => ?_)
      refine wpAnyH_take (i := 0) (oi := { dst := some 23, op := _, type := _, pos := _, after := _, guard := _ }) (v := ?_) rfl (by kernel_rfl) (by kernel_rfl) (by kernel_rfl) (fun _ _ _ h => h) (Or.inl ⟨by rfl, ?_⟩) (by assumption) ?_
      rotate_left
      · (intro w hSw; (try dsimp only at hSw); go_simp; try with_reducible rfl)
      try simp only [Act.put, List.setIfInBounds_toArray, List.set_cons_zero, List.set_cons_succ]
      refine wpAnyH_take (i := 1) (oi := { dst := some 24, op := _, type := _, pos := _, after := _, guard := _ }) (v := ?_) rfl (by kernel_rfl) (by kernel_rfl) (by kernel_rfl) (fun _ _ _ h => h) (Or.inl ⟨by rfl, ?_⟩) (by assumption) ?_
      rotate_left
      · (intro w hSw; (try dsimp only at hSw); go_simp; try with_reducible rfl)
      try simp only [Act.put, List.setIfInBounds_toArray, List.set_cons_zero, List.set_cons_succ]
      refine wpAnyH_ready (rs := [2]) (by kernel_rfl) (by simp) ?_
      refine AllReadyH.cons (o := { dst := some 25, op := _, type := _, pos := _, after := _, guard := _ }) rfl (fun K hK => ?_) AllReadyH.nil
      go_simp
      go_at_call 31
      refine (alkMerge HS1d.out HV.out).mono ?_
      rintro e y ⟨A2, c2, ns, r2, rfl, hS2, hG2⟩
      obtain ⟨y0, y1, y2, y3, y4, y5, z0, z1, z2, z3⟩ := hS2.cells.out
      have HS2 := hide (hS2.more (show _ ≤ p + 900 by omega))
      have HG2 := hide hG2
      clear hS2 hG2
      dsimp only
      refine hK.out _ _ ⟨HS2.out.cells.out.2.2.2.2.1, HS2.out.cells.out.2.2.2.2.2.1⟩ (fun hH => ?_)
      clear hK K hHeld
      have hHeld := hH
      clear hH
      try simp only [Act.put, List.setIfInBounds_toArray, List.set_cons_zero, List.set_cons_succ]
      refine wpAnyH_ready (rs := [3]) (by kernel_rfl) (by simp) ?_
      refine AllReadyH.cons (o := { dst := none, op := _, type := _, pos := _, after := _, guard := _ }) rfl (fun K hK => ?_) AllReadyH.nil
      go_simp
      refine hK.out _ _ ⟨(HS2.out.set2 (.slice (some ⟨g, 0, none⟩) ms.length cap) (.int .i64 r)).cells.out.2.2.2.2.1, (HS2.out.set2 (.slice (some ⟨g, 0, none⟩) ms.length cap) (.int .i64 r)).cells.out.2.2.2.2.2.1⟩ (fun hH => ?_)
      clear hK K hHeld
      have hHeld := hH
      clear hH
      try simp only [Act.put, List.setIfInBounds_toArray, List.set_cons_zero, List.set_cons_succ]
      obtain ⟨_, _, x2_, x3_, _, _, _, _, x4_, x5_⟩ := (HS2.out.set2 (.slice (some ⟨g, 0, none⟩) ms.length cap) (.int .i64 r)).cells.out
      refine wpAnyH_ready (rs := [4]) (by kernel_rfl) (by simp) ?_
      refine AllReadyH.cons (o := { dst := none, op := _, type := _, pos := _, after := _, guard := _ }) rfl (fun K hK => ?_) AllReadyH.nil
      go_simp
      refine hK.out _ _ ⟨((HS2.out.set2 (.slice (some ⟨g, 0, none⟩) ms.length cap) (.int .i64 r)).set3 (.slice A2 ns.length c2) (.int .i64 r2)).cells.out.2.2.2.2.1, ((HS2.out.set2 (.slice (some ⟨g, 0, none⟩) ms.length cap) (.int .i64 r)).set3 (.slice A2 ns.length c2) (.int .i64 r2)).cells.out.2.2.2.2.2.1⟩ (fun hH => ?_)
      clear hK K hHeld
      have hHeld := hH
      clear hH
      try simp only [Act.put, List.setIfInBounds_toArray, List.set_cons_zero, List.set_cons_succ]
      refine wpAnyH_done (by kernel_rfl) ?_ _
      obtain ⟨q0, q1, q2, q3, _⟩ := ((HS2.out.set2 (.slice (some ⟨g, 0, none⟩) ms.length cap) (.int .i64 r)).set3 (.slice A2 ns.length c2) (.int .i64 r2)).cells.out
      have HR := hide (((HS2.out.set2 (.slice (some ⟨g, 0, none⟩) ms.length cap) (.int .i64 r)).set3 (.slice A2 ns.length c2) (.int .i64 r2)).fin (by omega) hcap hr64 ((HG2.out.set (Nat.le_succ _) (.slice (some ⟨g, 0, none⟩) ms.length cap) (.int .i64 r)).set (Nat.le_refl _) (.slice A2 ns.length c2) (.int .i64 r2)))
      clear HS2 y0 y1 y2 y3 y4 y5 z0 z1 z2 z3 e0 e1 e2 e3 e4 e5 f0 f1 f2 f3 hHeld
      go_wp2
      refine bodyPost_ret (v := .tuple #[.agg #[.slice (some ⟨g, 0, none⟩) ms.length cap, .int .i64 r], .agg #[.slice A2 ns.length c2, .int .i64 r2]]) (by simp [results, Try.results10, go_sem, q0, q1, q2, q3]) rfl ?_
      exact HR.out
    · clear HS1d
      go_wp2_with fail
      refine (alkShal HS1.out HV.out (by omega)).mono ?_
      rintro e y ⟨A2, c2, ns, r2, rfl, hS2, hG2, hpos⟩
      have hba : Below y.heap.size y (y.alloc (.cells #[.slice A2 ns.length c2, .int .i64 r2] 25)) := (Below.refl _ _).alloc (Nat.le_refl _) _
      have hpos2 : (0 : Int) < (ns.length : Int) := by omega
      have l5 := Lies.new y #[.slice A2 ns.length c2, .int .i64 r2] 25
      have k0 := l5.cell 0
      have k1 := l5.cell 1
      simp only [List.getElem?_toArray, List.getElem?_cons_zero, List.getElem?_cons_succ] at k0 k1
      have HSa := hide ((hS2.more (show _ ≤ p + 900 by omega)).later hba)
      have HGa := hide (hG2.later hba)
      have HKa := hide (And.intro k0 k1)
      have hyl : b4 < y.heap.size := hS2.l4.lt
      clear hS2 hG2 e0 e1 e2 e3 e4 e5 f0 f1 f2 f3 hba l5
      obtain ⟨e0, e1, e2, e3, e4, e5, f0, f1, f2, f3⟩ := HSa.out.cells.out
      go_upto_region 12 with fail
      generalize y.alloc (.cells #[.slice A2 ns.length c2, .int .i64 r2] 25) = Z at HSa HGa HKa k0 k1 e0 e1 e2 e3 e4 e5 f0 f1 f2 f3 ⊢
      have HSd := hide (HSa.out.later (Below.refl _ Z).drew)
      have HGd := hide (HGa.out.later (Below.refl _ Z).drew)
      have HKd := hide (show Z.drew.cell? ⟨y.heap.size, 0, none⟩ = some (.slice A2 ns.length c2) ∧ Z.drew.cell? ⟨y.heap.size, 1, none⟩ = some (.int .i64 r2) from HKa.out)
      refine wp_region_held_drew (S := (fun w' => w'.cell? ⟨b4, 0, none⟩ = some (.slice (some ⟨g, 0, none⟩) ms.length cap) ∧ w'.cell? ⟨b4, 1, none⟩ = some (.int .i64 r) ∧ w'.cell? ⟨y.heap.size, 0, none⟩ = some (.slice A2 ns.length c2) ∧ w'.cell? ⟨y.heap.size, 1, none⟩ = some (.int .i64 r2))) (by kernel_rfl) ⟨HSd.out.cells.out.2.2.2.2.1, HSd.out.cells.out.2.2.2.2.2.1, HKd.out.1, HKd.out.2⟩ (fun hHeld => ?_)
      refine wpAnyH_take (i := 0) (oi := { dst := some 34, op := _, type := _, pos := _, after := _, guard := _ }) (v := ?_) rfl (by kernel_rfl) (by kernel_rfl) (by kernel_rfl) (fun _ _ _ h => h) (Or.inl ⟨by rfl, ?_⟩) (by assumption) ?_
      rotate_left
      · (intro w hSw; (try dsimp only at hSw); go_simp; try with_reducible rfl)
      try simp only [Act.put, List.setIfInBounds_toArray, List.set_cons_zero, List.set_cons_succ]
      refine wpAnyH_take (i := 1) (oi := { dst := some 35, op := _, type := _, pos := _, after := _, guard := _ }) (v := ?_) rfl (by kernel_rfl) (by kernel_rfl) (by kernel_rfl) (fun _ _ _ h => h) (Or.inl ⟨by rfl, ?_⟩) (by assumption) ?_
      rotate_left
      · (intro w hSw; (try dsimp only at hSw); go_simp; try with_reducible rfl)
      try simp only [Act.put, List.setIfInBounds_toArray, List.set_cons_zero, List.set_cons_succ]
      refine wpAnyH_ready (rs := [2]) (by kernel_rfl) (by simp) ?_
      refine AllReadyH.cons (o := { dst := none, op := _, type := _, pos := _, after := _, guard := _ }) rfl (fun K hK => ?_) AllReadyH.nil
      go_simp
      refine hK.out _ _ ⟨(HSd.out.set2 (.slice (some ⟨g, 0, none⟩) ms.length cap) (.int .i64 r)).cells.out.2.2.2.2.1, (HSd.out.set2 (.slice (some ⟨g, 0, none⟩) ms.length cap) (.int .i64 r)).cells.out.2.2.2.2.2.1, ((World.cell?_setCell_far _ _ _ _ (by dsimp only; omega))).trans (((World.cell?_setCell_far _ _ _ _ (by dsimp only; omega))).trans (HKd.out.1)), ((World.cell?_setCell_far _ _ _ _ (by dsimp only; omega))).trans (((World.cell?_setCell_far _ _ _ _ (by dsimp only; omega))).trans (HKd.out.2))⟩ (fun hH => ?_)
      clear hK K hHeld
      have hHeld := hH
      clear hH
      try simp only [Act.put, List.setIfInBounds_toArray, List.set_cons_zero, List.set_cons_succ]
      obtain ⟨_, _, x2_, x3_, _, _, _, _, x4_, x5_⟩ := (HSd.out.set2 (.slice (some ⟨g, 0, none⟩) ms.length cap) (.int .i64 r)).cells.out
      refine wpAnyH_ready (rs := [3]) (by kernel_rfl) (by simp) ?_
      refine AllReadyH.cons (o := { dst := none, op := _, type := _, pos := _, after := _, guard := _ }) rfl (fun K hK => ?_) AllReadyH.nil
      go_simp
      refine hK.out _ _ ⟨((HSd.out.set2 (.slice (some ⟨g, 0, none⟩) ms.length cap) (.int .i64 r)).set3 (.slice A2 ns.length c2) (.int .i64 r2)).cells.out.2.2.2.2.1, ((HSd.out.set2 (.slice (some ⟨g, 0, none⟩) ms.length cap) (.int .i64 r)).set3 (.slice A2 ns.length c2) (.int .i64 r2)).cells.out.2.2.2.2.2.1, ((World.cell?_setCell_far _ _ _ _ (by dsimp only; omega))).trans (((World.cell?_setCell_far _ _ _ _ (by dsimp only; omega))).trans (((World.cell?_setCell_far _ _ _ _ (by dsimp only; omega))).trans (((World.cell?_setCell_far _ _ _ _ (by dsimp only; omega))).trans (HKd.out.1)))), ((World.cell?_setCell_far _ _ _ _ (by dsimp only; omega))).trans (((World.cell?_setCell_far _ _ _ _ (by dsimp only; omega))).trans (((World.cell?_setCell_far _ _ _ _ (by dsimp only; omega))).trans (((World.cell?_setCell_far _ _ _ _ (by dsimp only; omega))).trans (HKd.out.2))))⟩ (fun hH => ?_)
      clear hK K hHeld
      have hHeld := hH
      clear hH
      try simp only [Act.put, List.setIfInBounds_toArray, List.set_cons_zero, List.set_cons_succ]
      refine wpAnyH_done (by kernel_rfl) ?_ _
      obtain ⟨q0, q1, q2, q3, _⟩ := ((HSa.out.set2 (.slice (some ⟨g, 0, none⟩) ms.length cap) (.int .i64 r)).set3 (.slice A2 ns.length c2) (.int .i64 r2)).cells.out
      have HR := hide (((HSd.out.set2 (.slice (some ⟨g, 0, none⟩) ms.length cap) (.int .i64 r)).set3 (.slice A2 ns.length c2) (.int .i64 r2)).fin (by omega) hcap hr64 ((HGd.out.set (Nat.le_succ _) (.slice (some ⟨g, 0, none⟩) ms.length cap) (.int .i64 r)).set (Nat.le_refl _) (.slice A2 ns.length c2) (.int .i64 r2)))
      clear k0 k1 e0 e1 e2 e3 e4 e5 f0 f1 f2 f3 hHeld
      go_wp2
      refine bodyPost_ret (v := .tuple #[.agg #[.slice (some ⟨g, 0, none⟩) ms.length cap, .int .i64 r], .agg #[.slice A2 ns.length c2, .int .i64 r2]]) (by simp [results, Try.results10, go_sem, q0, q1, q2, q3]) rfl ?_
      exact HR.out
    · go_wp2_with fail
      refine wp_region_held_drew (S := (fun w' => w'.cell? ⟨b4, 0, none⟩ = some (.slice (some ⟨g, 0, none⟩) ms.length cap) ∧ w'.cell? ⟨b4, 1, none⟩ = some (.int .i64 r))) (by kernel_rfl) ⟨HS1d.out.cells.out.2.2.2.2.1, HS1d.out.cells.out.2.2.2.2.2.1⟩ (fun hHeld => ?_)
      refine wpAnyH_take (i := 0) (oi := { dst := some 38, op := _, type := _, pos := _, after := _, guard := _ }) (v := ?_) rfl (by kernel_rfl) (by kernel_rfl) (by kernel_rfl) (fun _ _ _ h => h) (Or.inl ⟨by rfl, ?_⟩) (by assumption) ?_
      rotate_left
      · (intro w hSw; (try dsimp only at hSw); go_simp; try with_reducible rfl)
      try simp only [Act.put, List.setIfInBounds_toArray, List.set_cons_zero, List.set_cons_succ]
      refine wpAnyH_take (i := 1) (oi := { dst := some 39, op := _, type := _, pos := _, after := _, guard := _ }) (v := ?_) rfl (by kernel_rfl) (by kernel_rfl) (by kernel_rfl) (fun _ _ _ h => h) (Or.inl ⟨by rfl, ?_⟩) (by assumption) ?_
      rotate_left
      · (intro w hSw; (try dsimp only at hSw); go_simp; try with_reducible rfl)
      try simp only [Act.put, List.setIfInBounds_toArray, List.set_cons_zero, List.set_cons_succ]
      refine wpAnyH_ready (rs := [2]) (by kernel_rfl) (by simp) ?_
      refine AllReadyH.cons (o := { dst := some 40, op := _, type := _, pos := _, after := _, guard := _ }) rfl (fun K hK => ?_) AllReadyH.nil
      go_simp
      go_at_call 27
      refine (alkAny HS1d.out (by omega)).mono ?_
      rintro e y ⟨A2, c2, ns, r2, rfl, hS2, hG2⟩
      obtain ⟨y0, y1, y2, y3, y4, y5, z0, z1, z2, z3⟩ := hS2.cells.out
      have HS2 := hide (hS2.more (show _ ≤ p + 900 by omega))
      have HG2 := hide hG2
      clear hS2 hG2
      dsimp only
      refine hK.out _ _ ⟨HS2.out.cells.out.2.2.2.2.1, HS2.out.cells.out.2.2.2.2.2.1⟩ (fun hH => ?_)
      clear hK K hHeld
      have hHeld := hH
      clear hH
      try simp only [Act.put, List.setIfInBounds_toArray, List.set_cons_zero, List.set_cons_succ]
      refine wpAnyH_ready (rs := [3]) (by kernel_rfl) (by simp) ?_
      refine AllReadyH.cons (o := { dst := none, op := _, type := _, pos := _, after := _, guard := _ }) rfl (fun K hK => ?_) AllReadyH.nil
      go_simp
      refine hK.out _ _ ⟨(HS2.out.set2 (.slice (some ⟨g, 0, none⟩) ms.length cap) (.int .i64 r)).cells.out.2.2.2.2.1, (HS2.out.set2 (.slice (some ⟨g, 0, none⟩) ms.length cap) (.int .i64 r)).cells.out.2.2.2.2.2.1⟩ (fun hH => ?_)
      clear hK K hHeld
      have hHeld := hH
      clear hH
      try simp only [Act.put, List.setIfInBounds_toArray, List.set_cons_zero, List.set_cons_succ]
      obtain ⟨_, _, x2_, x3_, _, _, _, _, x4_, x5_⟩ := (HS2.out.set2 (.slice (some ⟨g, 0, none⟩) ms.length cap) (.int .i64 r)).cells.out
      refine wpAnyH_ready (rs := [4]) (by kernel_rfl) (by simp) ?_
      refine AllReadyH.cons (o := { dst := none, op := _, type := _, pos := _, after := _, guard := _ }) rfl (fun K hK => ?_) AllReadyH.nil
      go_simp
      refine hK.out _ _ ⟨((HS2.out.set2 (.slice (some ⟨g, 0, none⟩) ms.length cap) (.int .i64 r)).set3 (.slice A2 ns.length c2) (.int .i64 r2)).cells.out.2.2.2.2.1, ((HS2.out.set2 (.slice (some ⟨g, 0, none⟩) ms.length cap) (.int .i64 r)).set3 (.slice A2 ns.length c2) (.int .i64 r2)).cells.out.2.2.2.2.2.1⟩ (fun hH => ?_)
      clear hK K hHeld
      have hHeld := hH
      clear hH
      try simp only [Act.put, List.setIfInBounds_toArray, List.set_cons_zero, List.set_cons_succ]
      refine wpAnyH_done (by kernel_rfl) ?_ _
      obtain ⟨q0, q1, q2, q3, _⟩ := ((HS2.out.set2 (.slice (some ⟨g, 0, none⟩) ms.length cap) (.int .i64 r)).set3 (.slice A2 ns.length c2) (.int .i64 r2)).cells.out
      have HR := hide (((HS2.out.set2 (.slice (some ⟨g, 0, none⟩) ms.length cap) (.int .i64 r)).set3 (.slice A2 ns.length c2) (.int .i64 r2)).fin (by omega) hcap hr64 ((HG2.out.set (Nat.le_succ _) (.slice (some ⟨g, 0, none⟩) ms.length cap) (.int .i64 r)).set (Nat.le_refl _) (.slice A2 ns.length c2) (.int .i64 r2)))
      clear HS2 y0 y1 y2 y3 y4 y5 z0 z1 z2 z3 e0 e1 e2 e3 e4 e5 f0 f1 f2 f3 hHeld
      go_wp2
      refine bodyPost_ret (v := .tuple #[.agg #[.slice (some ⟨g, 0, none⟩) ms.length cap, .int .i64 r], .agg #[.slice A2 ns.length c2, .int .i64 r2]]) (by simp [results, Try.results10, go_sem, q0, q1, q2, q3]) rfl ?_
      exact HR.out
    · go_wp2_with fail
      refine wp_region_held_drew (S := (fun w' => w'.cell? ⟨b4, 0, none⟩ = some (.slice (some ⟨g, 0, none⟩) ms.length cap) ∧ w'.cell? ⟨b4, 1, none⟩ = some (.int .i64 r))) (by kernel_rfl) ⟨HS1d.out.cells.out.2.2.2.2.1, HS1d.out.cells.out.2.2.2.2.2.1⟩ (fun hHeld => ?_)
      refine wpAnyH_take (i := 0) (oi := { dst := some 41, op := _, type := _, pos := _, after := _, guard := _ }) (v := ?_) rfl (by kernel_rfl) (by kernel_rfl) (by kernel_rfl) (fun _ _ _ h => h) (Or.inl ⟨by rfl, ?_⟩) (by assumption) ?_
      rotate_left
      · (intro w hSw; (try dsimp only at hSw); go_simp; try with_reducible rfl)
      try simp only [Act.put, List.setIfInBounds_toArray, List.set_cons_zero, List.set_cons_succ]
      refine wpAnyH_take (i := 1) (oi := { dst := some 42, op := _, type := _, pos := _, after := _, guard := _ }) (v := ?_) rfl (by kernel_rfl) (by kernel_rfl) (by kernel_rfl) (fun _ _ _ h => h) (Or.inl ⟨by rfl, ?_⟩) (by assumption) ?_
      rotate_left
      · (intro w hSw; (try dsimp only at hSw); go_simp; try with_reducible rfl)
      try simp only [Act.put, List.setIfInBounds_toArray, List.set_cons_zero, List.set_cons_succ]
      refine wpAnyH_take (i := 2) (oi := { dst := some 43, op := _, type := _, pos := _, after := _, guard := _ }) (v := ?_) rfl (by kernel_rfl) (by kernel_rfl) (by kernel_rfl) (fun _ _ _ h => h) (Or.inl ⟨by rfl, ?_⟩) (by assumption) ?_
      rotate_left
      · (intro w hSw; (try dsimp only at hSw); go_simp; try with_reducible rfl)
      try simp only [Act.put, List.setIfInBounds_toArray, List.set_cons_zero, List.set_cons_succ]
      refine wpAnyH_ready (rs := [3]) (by kernel_rfl) (by simp) ?_
      refine AllReadyH.cons (o := { dst := some 44, op := _, type := _, pos := _, after := _, guard := _ }) rfl (fun K hK => ?_) AllReadyH.nil
      go_simp
      go_at_call 34
      refine (alkPrun HS1d.out HV.out).mono ?_
      rintro e yp ⟨g2, cp, lo, rfl, hSp, hPp⟩
      have HSp := hide hSp
      have HPp := hide hPp
      clear hSp hPp
      dsimp only
      refine hK.out _ _ ⟨HSp.out.cells.out.2.2.2.2.1, HSp.out.cells.out.2.2.2.2.2.1⟩ (fun hH => ?_)
      clear hK K hHeld
      have hHeld := hH
      clear hH
      try simp only [Act.put, List.setIfInBounds_toArray, List.set_cons_zero, List.set_cons_succ]
      refine wpAnyH_ready (rs := [4]) (by kernel_rfl) (by simp) ?_
      refine AllReadyH.cons (o := { dst := some 45, op := _, type := _, pos := _, after := _, guard := _ }) rfl (fun K hK => ?_) AllReadyH.nil
      go_simp
      go_at_call 33
      refine (alkAdd HSp.out HV.out (by omega) HPp.out).mono ?_
      rintro e y ⟨A2, c2, ns, r2, rfl, hS2, hG2⟩
      obtain ⟨y0, y1, y2, y3, y4, y5, z0, z1, z2, z3⟩ := hS2.cells.out
      have HS2 := hide (hS2.more (show _ ≤ p + 900 by omega))
      have HG2 := hide hG2
      clear hS2 hG2
      dsimp only
      refine hK.out _ _ ⟨HS2.out.cells.out.2.2.2.2.1, HS2.out.cells.out.2.2.2.2.2.1⟩ (fun hH => ?_)
      clear hK K hHeld
      have hHeld := hH
      clear hH
      try simp only [Act.put, List.setIfInBounds_toArray, List.set_cons_zero, List.set_cons_succ]
      refine wpAnyH_ready (rs := [5]) (by kernel_rfl) (by simp) ?_
      refine AllReadyH.cons (o := { dst := none, op := _, type := _, pos := _, after := _, guard := _ }) rfl (fun K hK => ?_) AllReadyH.nil
      go_simp
      refine hK.out _ _ ⟨(HS2.out.set2 (.slice (some ⟨g, 0, none⟩) ms.length cap) (.int .i64 r)).cells.out.2.2.2.2.1, (HS2.out.set2 (.slice (some ⟨g, 0, none⟩) ms.length cap) (.int .i64 r)).cells.out.2.2.2.2.2.1⟩ (fun hH => ?_)
      clear hK K hHeld
      have hHeld := hH
      clear hH
      try simp only [Act.put, List.setIfInBounds_toArray, List.set_cons_zero, List.set_cons_succ]
      obtain ⟨_, _, x2_, x3_, _, _, _, _, x4_, x5_⟩ := (HS2.out.set2 (.slice (some ⟨g, 0, none⟩) ms.length cap) (.int .i64 r)).cells.out
      refine wpAnyH_ready (rs := [6]) (by kernel_rfl) (by simp) ?_
      refine AllReadyH.cons (o := { dst := none, op := _, type := _, pos := _, after := _, guard := _ }) rfl (fun K hK => ?_) AllReadyH.nil
      go_simp
      refine hK.out _ _ ⟨((HS2.out.set2 (.slice (some ⟨g, 0, none⟩) ms.length cap) (.int .i64 r)).set3 (.slice A2 ns.length c2) (.int .i64 r2)).cells.out.2.2.2.2.1, ((HS2.out.set2 (.slice (some ⟨g, 0, none⟩) ms.length cap) (.int .i64 r)).set3 (.slice A2 ns.length c2) (.int .i64 r2)).cells.out.2.2.2.2.2.1⟩ (fun hH => ?_)
      clear hK K hHeld
      have hHeld := hH
      clear hH
      try simp only [Act.put, List.setIfInBounds_toArray, List.set_cons_zero, List.set_cons_succ]
      refine wpAnyH_done (by kernel_rfl) ?_ _
      obtain ⟨q0, q1, q2, q3, _⟩ := ((HS2.out.set2 (.slice (some ⟨g, 0, none⟩) ms.length cap) (.int .i64 r)).set3 (.slice A2 ns.length c2) (.int .i64 r2)).cells.out
      have HR := hide (((HS2.out.set2 (.slice (some ⟨g, 0, none⟩) ms.length cap) (.int .i64 r)).set3 (.slice A2 ns.length c2) (.int .i64 r2)).fin (by omega) hcap hr64 ((HG2.out.set (Nat.le_succ _) (.slice (some ⟨g, 0, none⟩) ms.length cap) (.int .i64 r)).set (Nat.le_refl _) (.slice A2 ns.length c2) (.int .i64 r2)))
      clear HS2 y0 y1 y2 y3 y4 y5 z0 z1 z2 z3 e0 e1 e2 e3 e4 e5 f0 f1 f2 f3 hHeld
      go_wp2
      refine bodyPost_ret (v := .tuple #[.agg #[.slice (some ⟨g, 0, none⟩) ms.length cap, .int .i64 r], .agg #[.slice A2 ns.length c2, .int .i64 r2]]) (by simp [results, Try.results10, go_sem, q0, q1, q2, q3]) rfl ?_
      exact HR.out
  · rw [tf_false hv]
    clear hv
    have HS1d := hide (HS1.out.later (Below.refl _ x1).drew)
    go_wp2_with fail
    refine wp_region_held_drew (S := (fun w' => w'.cell? ⟨b4, 0, none⟩ = some (.slice (some ⟨g, 0, none⟩) ms.length cap) ∧ w'.cell? ⟨b4, 1, none⟩ = some (.int .i64 r))) (by kernel_rfl) ⟨HS1d.out.cells.out.2.2.2.2.1, HS1d.out.cells.out.2.2.2.2.2.1⟩ (fun hHeld => ?_)
    refine wpAnyH_take (i := 0) (oi := { dst := some 11, op := _, type := _, pos := _, after := _, guard := _ }) (v := ?_) rfl (by kernel_rfl) (by kernel_rfl) (by kernel_rfl) (fun _ _ _ h => h) (Or.inl ⟨by rfl, ?_⟩) (by assumption) ?_
    rotate_left
    · (intro w hSw; (try dsimp only at hSw); go_simp; try with_reducible rfl)
    try simp only [Act.put, List.setIfInBounds_toArray, List.set_cons_zero, List.set_cons_succ]
    refine wpAnyH_take (i := 1) (oi := { dst := some 12, op := _, type := _, pos := _, after := _, guard := _ }) (v := ?_) rfl (by kernel_rfl) (by kernel_rfl) (by kernel_rfl) (fun _ _ _ h => h) (Or.inl ⟨by rfl, ?_⟩) (by assumption) ?_
    rotate_left
    · (intro w hSw; (try dsimp only at hSw); go_simp; try with_reducible rfl)
    try simp only [Act.put, List.setIfInBounds_toArray, List.set_cons_zero, List.set_cons_succ]
    refine wpAnyH_ready (rs := [2]) (by kernel_rfl) (by simp) ?_
    refine AllReadyH.cons (o := { dst := some 13, op := _, type := _, pos := _, after := _, guard := _ }) rfl (fun K hK => ?_) AllReadyH.nil
    go_simp
    go_at_call 28
    refine (alkSome HS1d.out (by omega)).mono ?_
    rintro e y ⟨A2, c2, ns, r2, rfl, hS2, hG2⟩
    obtain ⟨y0, y1, y2, y3, y4, y5, z0, z1, z2, z3⟩ := hS2.cells.out
    have HS2 := hide (hS2.more (show _ ≤ p + 900 by omega))
    have HG2 := hide hG2
    clear hS2 hG2
    dsimp only
    refine hK.out _ _ ⟨HS2.out.cells.out.2.2.2.2.1, HS2.out.cells.out.2.2.2.2.2.1⟩ (fun hH => ?_)
    clear hK K hHeld
    have hHeld := hH
    clear hH
    try simp only [Act.put, List.setIfInBounds_toArray, List.set_cons_zero, List.set_cons_succ]
    refine wpAnyH_ready (rs := [3]) (by kernel_rfl) (by simp) ?_
    refine AllReadyH.cons (o := { dst := none, op := _, type := _, pos := _, after := _, guard := _ }) rfl (fun K hK => ?_) AllReadyH.nil
    go_simp
    refine hK.out _ _ ⟨(HS2.out.set2 (.slice (some ⟨g, 0, none⟩) ms.length cap) (.int .i64 r)).cells.out.2.2.2.2.1, (HS2.out.set2 (.slice (some ⟨g, 0, none⟩) ms.length cap) (.int .i64 r)).cells.out.2.2.2.2.2.1⟩ (fun hH => ?_)
    clear hK K hHeld
    have hHeld := hH
    clear hH
    try simp only [Act.put, List.setIfInBounds_toArray, List.set_cons_zero, List.set_cons_succ]
    obtain ⟨_, _, x2_, x3_, _, _, _, _, x4_, x5_⟩ := (HS2.out.set2 (.slice (some ⟨g, 0, none⟩) ms.length cap) (.int .i64 r)).cells.out
    refine wpAnyH_ready (rs := [4]) (by kernel_rfl) (by simp) ?_
    refine AllReadyH.cons (o := { dst := none, op := _, type := _, pos := _, after := _, guard := _ }) rfl (fun K hK => ?_) AllReadyH.nil
    go_simp
    refine hK.out _ _ ⟨((HS2.out.set2 (.slice (some ⟨g, 0, none⟩) ms.length cap) (.int .i64 r)).set3 (.slice A2 ns.length c2) (.int .i64 r2)).cells.out.2.2.2.2.1, ((HS2.out.set2 (.slice (some ⟨g, 0, none⟩) ms.length cap) (.int .i64 r)).set3 (.slice A2 ns.length c2) (.int .i64 r2)).cells.out.2.2.2.2.2.1⟩ (fun hH => ?_)
    clear hK K hHeld
    have hHeld := hH
    clear hH
    try simp only [Act.put, List.setIfInBounds_toArray, List.set_cons_zero, List.set_cons_succ]
    refine wpAnyH_done (by kernel_rfl) ?_ _
    obtain ⟨q0, q1, q2, q3, _⟩ := ((HS2.out.set2 (.slice (some ⟨g, 0, none⟩) ms.length cap) (.int .i64 r)).set3 (.slice A2 ns.length c2) (.int .i64 r2)).cells.out
    have HR := hide (((HS2.out.set2 (.slice (some ⟨g, 0, none⟩) ms.length cap) (.int .i64 r)).set3 (.slice A2 ns.length c2) (.int .i64 r2)).fin (by omega) hcap hr64 ((HG2.out.set (Nat.le_succ _) (.slice (some ⟨g, 0, none⟩) ms.length cap) (.int .i64 r)).set (Nat.le_refl _) (.slice A2 ns.length c2) (.int .i64 r2)))
    clear HS2 y0 y1 y2 y3 y4 y5 z0 z1 z2 z3 e0 e1 e2 e3 e4 e5 f0 f1 f2 f3 hHeld
    go_wp2
    refine bodyPost_ret (v := .tuple #[.agg #[.slice (some ⟨g, 0, none⟩) ms.length cap, .int .i64 r], .agg #[.slice A2 ns.length c2, .int .i64 r2]]) (by simp [results, Try.results10, go_sem, q0, q1, q2, q3]) rfl ?_
    exact HR.out

end Go.Proofs.Ythgklkpfmjgeoaa
