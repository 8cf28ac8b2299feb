/-
  The generator's alikeGraphs: two graphs that can be read come back.
-/
import Derived.Test.YtkgnijbdbkopkabAddKidsK
import Derived.Test.YtkgnijbdbkopkabPjAt
import Derived.Test.YtkgnijbdbkopkabAnyGraC
import Derived.Test.YtkgnijbdbkopkabLst0S
import Derived.Test.YtkgnijbdbkopkabMrgS
import Derived.Test.YtkgnijbdbkopkabPjAm
import Derived.Test.YtkgnijbdbkopkabShcS
import Derived.Test.YtkgnijbdbkopkabPjAs
import Derived.Test.YtkgnijbdbkopkabPjAu
import Derived.Deep.RegionHeld3
namespace Go.Proofs.Ytkgnijbdbkopkab
open Go.RowKit
set_option linter.unusedVariables false

/-- the graph can be read in every later memory that keeps the blocks from lo on -/
def SeesG (w : World) (lo : Nat) (A : Option Addr) (ns : List Nd) : Prop :=
  ∀ w' : World, w.heap.size ≤ w'.heap.size → (∀ k, lo ≤ k → k < w.heap.size → w'.heap[k]? = w.heap[k]?) → NdsAt w' w'.heap.size A ns

theorem SeesG.here {w : World} {lo : Nat} {A : Option Addr} {ns : List Nd} (h : SeesG w lo A ns) : NdsAt w w.heap.size A ns := h w (Nat.le_refl _) (fun _ _ _ => rfl)
theorem SeesG.low {w : World} {lo lo' : Nat} {A : Option Addr} {ns : List Nd} (h : SeesG w lo A ns) (hl : lo' ≤ lo) : SeesG w lo' A ns := fun w' h1 h2 => h w' h1 (fun k a b => h2 k (by omega) b)
theorem SeesG.step {w w1 : World} {lo : Nat} {A : Option Addr} {ns : List Nd} (h : SeesG w lo A ns) (hs : w.heap.size ≤ w1.heap.size) (hb : ∀ k, lo ≤ k → k < w.heap.size → w1.heap[k]? = w.heap[k]?) : SeesG w1 lo A ns :=
  fun w' h1 h2 => h w' (Nat.le_trans hs h1) (fun k a b => (h2 k a (by omega)).trans (hb k a b))

theorem sees_kids {w : World} {g lo : Nat} {ns : List Nd} (h : NdsAt w w.heap.size (some ⟨g, 0, none⟩) ns) (hg : lo ≤ g) (hgl : g < w.heap.size) (hk : ∀ j, j < ns.length → ∀ (A : Option Addr) (k d : Nat), w.cell? ⟨g, j * 3 + 2, none⟩ = some (.slice A k d) → ∀ b, blockOf A = some b → lo ≤ b ∧ b < w.heap.size) : SeesG w lo (some ⟨g, 0, none⟩) ns :=
  fun w' hs hb => h.keptK hs (hb g hg hgl) (fun j hj A k d hc b hb' => hb b (hk j hj A k d hc b hb').1 (hk j hj A k d hc b hb').2)

theorem sees_own {w : World} {base : Nat} {A : Option Addr} {c : Nat} {ns : List Nd} (h : OwnNs w base w.heap.size A c ns) (hwf : WfN ns) (hl : ns.length ≤ 1000) : SeesG w base A ns := by
  exact fun w' hs hb => (h.kept (fun b h1 h2 => hb b h1 h2)).nds hwf (by omega)

theorem sees_rowN {w : World} {base : Nat} {A : Option Addr} {c : Nat} {ns : List Nd} (h : RowN w base A c ns) (hwf : WfN ns) (hl : ns.length ≤ 1000) : SeesG w base A ns := by
  intro w' hs hb
  obtain ⟨cs, h1, h2⟩ := h.row
  have h' : RowN w' base A c ns := by
    refine ⟨⟨cs, ⟨h1.1, ?_⟩, fun j n hj => ?_⟩⟩
    · rcases h1.2 with h3 | ⟨g, cap, cur, hv, hg, hh, r⟩
      · exact .inl h3
      · exact .inr ⟨g, cap, cur, hv, hg, (hb g hg (lt_of_block hh)).trans hh, r⟩
    · obtain ⟨A1, c1, a1, a2, a3, a4⟩ := h2 j n hj
      exact ⟨A1, c1, a1, a2, a3, a4.of_blk (fun b hb' => hb b (a4.blocks b hb').1 (a4.blocks b hb').2)⟩
  exact h'.nds hwf (by omega)

theorem sees_gen {w : World} {g rb cap lo : Nat} {ns : List Nd} (h : GenG w g rb cap ns) (hg : lo ≤ g) (hk : ∀ j, j < ns.length → ∀ (A : Option Addr) (k d : Nat), w.cell? ⟨g, j * 3 + 2, none⟩ = some (.slice A k d) → ∀ b, blockOf A = some b → lo ≤ b) : SeesG w lo (some ⟨g, 0, none⟩) ns := by
  refine sees_kids h.nds hg h.lt (fun j hj A k d hc b hb => ⟨hk j hj A k d hc b hb, ?_⟩)
  obtain ⟨A1, c1, e1, e2, _⟩ := (h.nd j _ (List.getElem?_eq_getElem hj)).kids
  rw [hc] at e1
  injection e1 with e1
  injection e1 with e1 _ _
  exact (e2.blocks b (by rw [← e1]; exact hb)).2

theorem sees_any {w : World} {g lo : Nat} {ns : List Nd} (h : NdsAt w w.heap.size (some ⟨g, 0, none⟩) ns) (hg : lo ≤ g) (hk : KidsFrom w g lo ns.length) : SeesG w lo (some ⟨g, 0, none⟩) ns := by
  intro w' hs hb
  refine ⟨fun hx => ?_, h.len⟩
  obtain ⟨b, off, e, hlt, hn⟩ := h.row hx
  injection e with e
  injection e with e1 e2
  subst e1 e2
  refine ⟨g, 0, rfl, Nat.lt_of_lt_of_le hlt hs, fun j n hj => ?_⟩
  obtain ⟨a0, a1, ⟨A, c, a2, a3, a4⟩, a5, a6⟩ := hn j n hj
  have hc := fun q => World.cell?_of_block (w := w) (w' := w') (a := ⟨g, q, none⟩) (hb g hg hlt)
  refine ⟨(hc _).trans a0, (hc _).trans a1, ⟨A, c, (hc _).trans a2, ⟨fun hne => ?_, a3.wf, a3.len⟩, a4⟩, a5, a6⟩
  obtain ⟨b2, off2, rfl, hb2, hcell⟩ := a3.row hne
  rw [Nat.zero_add] at a2
  have hlo := hk j (List.getElem?_eq_some_iff.1 hj).1 _ _ _ a2 b2 rfl
  exact ⟨b2, off2, rfl, Nat.lt_of_lt_of_le hb2 hs, fun i x hi => (World.cell?_of_block (w := w) (hb b2 hlo hb2)).trans (hcell i x hi)⟩

theorem RowN.capR {w : World} {base : Nat} {A : Option Addr} {c : Nat} {ns : List Nd} (h : RowN w base A c ns) : ns.length ≤ c := by
  obtain ⟨cs, h1, _⟩ := h.row
  rcases h1.2 with ⟨hv, h0⟩ | ⟨g, cap, cur, hv, hg, hh, hle, _⟩
  · omega
  · injection hv with _ _ e
    omega
theorem OwnNs.capR {w : World} {lo hi : Nat} {A : Option Addr} {c : Nat} {ns : List Nd} (h : OwnNs w lo hi A c ns) : ns.length ≤ c := by
  rcases h with ⟨_, _, e⟩ | ⟨g, _, h⟩
  · rw [e]; simp
  · exact h.le

/-- the memory of alikeGraphs: its two results' boxes, the box of the first graph -/
structure AlkS (w X : World) (rb b2 b3 b4 nb cb : Nat) (A : Option Addr) (P : Nat) (A1 : Option Addr) (c1 : Nat) (ms : List Nd) (r1 : Int) (u0 u1 v0 v1 : Value) : Prop where
  rd : ∃ p, p ≤ P ∧ Rd X rb A nb cb p
  grew : Grew rb w X
  l2 : Lies X b2 #[u0, u1] 25
  l3 : Lies X b3 #[v0, v1] 25
  l4 : Lies X b4 #[.slice A1 ms.length c1, .int .i64 r1] 25
  sees : SeesG X (b3 + 1) A1 ms
  h1 : w.heap.size ≤ b2
  h2 : b2 < b3
  h3 : b3 < b4
  nr : rb < w.heap.size

/-- the second graph -/
structure GotG (X : World) (lo : Nat) (A2 : Option Addr) (c2 : Nat) (ns : List Nd) (r2 : Int) : Prop where
  sees : SeesG X lo A2 ns
  le : ns.length ≤ 1000
  cap : ns.length ≤ c2
  r64 : In64 r2

section
variable {w X : World} {rb b2 b3 b4 nb cb : Nat} {A : Option Addr} {P : Nat} {A1 : Option Addr} {c1 : Nat} {ms : List Nd} {r1 : Int} {u0 u1 v0 v1 : Value}

theorem AlkS.move (h : AlkS w X rb b2 b3 b4 nb cb A P A1 c1 ms r1 u0 u1 v0 v1) {Y : World} {p P' : Nat} (hG : Grew rb X Y) (hr : Rd Y rb A nb cb p) (hp : p ≤ P') : AlkS w Y rb b2 b3 b4 nb cb A P' A1 c1 ms r1 u0 u1 v0 v1 := by
  have a1 := h.h1
  have a2 := h.h2
  have a3 := h.h3
  have a4 := h.nr
  have a5 := h.l4.lt
  exact ⟨⟨p, hp, hr⟩, h.grew.trans hG, (hG.block b2 (by omega) (by omega)).trans h.l2, (hG.block b3 (by omega) (by omega)).trans h.l3, (hG.block b4 (by omega) (by omega)).trans h.l4, h.sees.step hG.size (fun k h1 h2 => hG.block k h2 (by omega)), h.h1, h.h2, h.h3, h.nr⟩

theorem AlkS.later (h : AlkS w X rb b2 b3 b4 nb cb A P A1 c1 ms r1 u0 u1 v0 v1) {Y : World} (hb : Below X.heap.size X Y) : AlkS w Y rb b2 b3 b4 nb cb A P A1 c1 ms r1 u0 u1 v0 v1 := by
  obtain ⟨p, hp, hr⟩ := h.rd
  exact h.move (Grew.of_below hb) (hr.below hb) hp

theorem AlkS.set2 (h : AlkS w X rb b2 b3 b4 nb cb A P A1 c1 ms r1 u0 u1 v0 v1) (x0 x1 : Value) : AlkS w ((X.setCell ⟨b2, 0, none⟩ x0).setCell ⟨b2, 1, none⟩ x1) rb b2 b3 b4 nb cb A P A1 c1 ms r1 x0 x1 v0 v1 := by
  have a1 := h.h1
  have a2 := h.h2
  have a3 := h.h3
  have a4 := h.nr
  have hf : ∀ k, k ≠ b2 → ((X.setCell ⟨b2, 0, none⟩ x0).setCell ⟨b2, 1, none⟩ x1).heap[k]? = X.heap[k]? := fun k hk => (Below.heap_setCell _ _ _ _ hk).trans (Below.heap_setCell _ _ _ _ hk)
  have l := (h.l2.set 0 x0).set 1 x1
  simp only [List.setIfInBounds_toArray, List.set_cons_succ, List.set_cons_zero] at l
  obtain ⟨p, hp, hr⟩ := h.rd
  exact ⟨⟨p, hp, hr.kept ⟨rfl, rfl, rfl, by simp, fun k hk => hf k (by omega)⟩⟩, ⟨h.grew.os, h.grew.tape, h.grew.output, by have := h.grew.size; simpa using this, fun k hk a => (hf k (by omega)).trans (h.grew.block k hk a)⟩, l, (hf b3 (by omega)).trans h.l3, (hf b4 (by omega)).trans h.l4, h.sees.step (by simp) (fun k h1 h2 => hf k (by omega)), a1, a2, a3, a4⟩

theorem AlkS.set3 (h : AlkS w X rb b2 b3 b4 nb cb A P A1 c1 ms r1 u0 u1 v0 v1) (x0 x1 : Value) : AlkS w ((X.setCell ⟨b3, 0, none⟩ x0).setCell ⟨b3, 1, none⟩ x1) rb b2 b3 b4 nb cb A P A1 c1 ms r1 u0 u1 x0 x1 := by
  have a1 := h.h1
  have a2 := h.h2
  have a3 := h.h3
  have a4 := h.nr
  have hf : ∀ k, k ≠ b3 → ((X.setCell ⟨b3, 0, none⟩ x0).setCell ⟨b3, 1, none⟩ x1).heap[k]? = X.heap[k]? := fun k hk => (Below.heap_setCell _ _ _ _ hk).trans (Below.heap_setCell _ _ _ _ hk)
  have l := (h.l3.set 0 x0).set 1 x1
  simp only [List.setIfInBounds_toArray, List.set_cons_succ, List.set_cons_zero] at l
  obtain ⟨p, hp, hr⟩ := h.rd
  exact ⟨⟨p, hp, hr.kept ⟨rfl, rfl, rfl, by simp, fun k hk => hf k (by omega)⟩⟩, ⟨h.grew.os, h.grew.tape, h.grew.output, by have := h.grew.size; simpa using this, fun k hk a => (hf k (by omega)).trans (h.grew.block k hk a)⟩, (hf b2 (by omega)).trans h.l2, l, (hf b4 (by omega)).trans h.l4, h.sees.step (by simp) (fun k h1 h2 => hf k (by omega)), a1, a2, a3, a4⟩

theorem GotG.set (h : GotG X (b3 + 1) A1 c1 ms r1) {b : Nat} (hb : b ≤ b3) (x0 x1 : Value) : GotG ((X.setCell ⟨b, 0, none⟩ x0).setCell ⟨b, 1, none⟩ x1) (b3 + 1) A1 c1 ms r1 := by
  have hf : ∀ k, k ≠ b → ((X.setCell ⟨b, 0, none⟩ x0).setCell ⟨b, 1, none⟩ x1).heap[k]? = X.heap[k]? := fun k hk => (Below.heap_setCell _ _ _ _ hk).trans (Below.heap_setCell _ _ _ _ hk)
  exact ⟨h.sees.step (by simp) (fun k h1 h2 => hf k (by omega)), h.le, h.cap, h.r64⟩

/-- what the boxes hold -/
theorem AlkS.cells (h : AlkS w X rb b2 b3 b4 nb cb A P A1 c1 ms r1 u0 u1 v0 v1) : Hid (X.cell? ⟨b2, 0, none⟩ = some u0 ∧ X.cell? ⟨b2, 1, none⟩ = some u1 ∧ X.cell? ⟨b3, 0, none⟩ = some v0 ∧ X.cell? ⟨b3, 1, none⟩ = some v1 ∧ X.cell? ⟨b4, 0, none⟩ = some (.slice A1 ms.length c1) ∧ X.cell? ⟨b4, 1, none⟩ = some (.int .i64 r1) ∧ X.frozen? ⟨b2, 0, none⟩ = false ∧ X.frozen? ⟨b2, 1, none⟩ = false ∧ X.frozen? ⟨b3, 0, none⟩ = false ∧ X.frozen? ⟨b3, 1, none⟩ = false) := by
  have a0 := h.l2.cell 0
  have a1 := h.l2.cell 1
  have a2 := h.l3.cell 0
  have a3 := h.l3.cell 1
  have a4 := h.l4.cell 0
  have a5 := h.l4.cell 1
  simp only [List.getElem?_toArray, List.getElem?_cons_zero, List.getElem?_cons_succ] at a0 a1 a2 a3 a4 a5
  exact ⟨a0, a1, a2, a3, a4, a5, h.l2.frozen 0, h.l2.frozen 1, h.l3.frozen 0, h.l3.frozen 1⟩
end

/-- what a call for the second graph gives -/
def GotC (w : World) (rb b2 b3 b4 nb cb : Nat) (A : Option Addr) (P : Nat) (A1 : Option Addr) (c1 : Nat) (ms : List Nd) (r1 : Int) (u0 u1 v0 v1 : Value) (e : Ending) (Y : World) : Prop :=
  ∃ (A2 : Option Addr) (c2 : Nat) (ns : List Nd) (r2 : Int), e = .returned (.agg #[.slice A2 ns.length c2, .int .i64 r2]) ∧ AlkS w Y rb b2 b3 b4 nb cb A P A1 c1 ms r1 u0 u1 v0 v1 ∧ GotG Y (b3 + 1) A2 c2 ns r2

/-- two graphs come back that can be read -/
def AlikeG (rb : Nat) (A : Option Addr) (nb cb P : Nat) (w : World) (e : Ending) (w' : World) : Prop :=
  ∃ (A1 : Option Addr) (c1 : Nat) (ms : List Nd) (r1 : Int) (A2 : Option Addr) (c2 : Nat) (ns : List Nd) (r2 : Int), e = .returned (.tuple #[.agg #[.slice A1 ms.length c1, .int .i64 r1], .agg #[.slice A2 ns.length c2, .int .i64 r2]]) ∧
    (∃ p, p ≤ P ∧ Rd w' rb A nb cb p) ∧ Grew rb w w' ∧ GotG w' w.heap.size A1 c1 ms r1 ∧ GotG w' w.heap.size A2 c2 ns r2

section
variable {w X : World} {rb b2 b3 b4 nb cb : Nat} {A : Option Addr} {P : Nat} {A1 : Option Addr} {c1 : Nat} {ms : List Nd} {r1 : Int} {u0 u1 v0 v1 : Value}

theorem alkSome (h : AlkS w X rb b2 b3 b4 nb cb A P A1 c1 ms r1 u0 u1 v0 v1) (hP : P ≤ 400000) :
    Calls Try.prog 24 #[.pointer (some ⟨rb, 0, none⟩)] X (GotC w rb b2 b3 b4 nb cb A (P + 300) A1 c1 ms r1 u0 u1 v0 v1) := by
  obtain ⟨p, hp, hr⟩ := h.rd
  have a3 := h.h3
  have a5 := h.l4.lt
  refine (someGraph_any rb A nb cb p X hr (by omega)).mono ?_
  rintro e Y ⟨g, cap, p', ns, r, rfl, hp', hrd, hgen, hg, h1, h10, hr64, _, hG, hk⟩
  exact ⟨_, cap, ns, r, rfl, h.move hG hrd (by omega), (sees_gen hgen hg hk).low (by omega), by omega, hgen.le, hr64⟩

theorem alkAny (h : AlkS w X rb b2 b3 b4 nb cb A P A1 c1 ms r1 u0 u1 v0 v1) (hP : P ≤ 400000) :
    Calls Try.prog 23 #[.pointer (some ⟨rb, 0, none⟩)] X (GotC w rb b2 b3 b4 nb cb A (P + 300) A1 c1 ms r1 u0 u1 v0 v1) := by
  obtain ⟨p, hp, hr⟩ := h.rd
  have a3 := h.h3
  have a5 := h.l4.lt
  refine (anyGraph_any rb A nb cb p X hr (by omega)).mono ?_
  rintro e Y ⟨g, cap, p', ns, r, rfl, hp', hrd, hnds, hg, h1, h10, hr64, hG, hk, hcap⟩
  exact ⟨_, cap, ns, r, rfl, h.move hG hrd (by omega), (sees_any hnds hg hk).low (by omega), by omega, hcap, hr64⟩

theorem alkLeast (h : AlkS w X rb b2 b3 b4 nb cb A P A1 c1 ms r1 u0 u1 v0 v1) (hv : ValidG ms r1) :
    Calls Try.prog 26 #[.agg #[.slice A1 ms.length c1, .int .i64 r1]] X (GotC w rb b2 b3 b4 nb cb A P A1 c1 ms r1 u0 u1 v0 v1) := by
  have a3 := h.h3
  have a5 := h.l4.lt
  refine (specLeast0_any A1 ms c1 r1 X h.sees.here hv).mono ?_
  rintro e Y ⟨A2, c2, rfl, hrow, hwf, hb⟩
  have hl : (lstN ms r1).length ≤ 1000 := Nat.le_trans (lstN_smallN ms r1).len (by omega)
  exact ⟨A2, c2, _, _, rfl, h.later hb, (sees_rowN hrow hwf hl).low (by omega), hl, hrow.capR, by constructor <;> omega⟩

theorem alkMerge (h : AlkS w X rb b2 b3 b4 nb cb A P A1 c1 ms r1 u0 u1 v0 v1) (hv : ValidG ms r1) :
    Calls Try.prog 27 #[.agg #[.slice A1 ms.length c1, .int .i64 r1]] X (GotC w rb b2 b3 b4 nb cb A P A1 c1 ms r1 u0 u1 v0 v1) := by
  have a3 := h.h3
  have a5 := h.l4.lt
  refine (specMerge_any A1 ms c1 r1 X h.sees.here).mono ?_
  rintro e Y ⟨A2, c2, rfl, hown, hb⟩
  have hl : (mrgN ms r1).length ≤ 1000 := Nat.le_trans (mrgN_smallN ms r1).len (by omega)
  exact ⟨A2, c2, _, _, rfl, h.later hb, (sees_own hown (mrgN_wf r1 h.sees.here.wf) hl).low (by omega), hl, hown.capR, by have h5 := (mrg_valid hv).root0; have h6 := (mrg_valid hv).root; constructor <;> omega⟩

theorem alkShal (h : AlkS w X rb b2 b3 b4 nb cb A P A1 c1 ms r1 u0 u1 v0 v1) (hv : ValidG ms r1) (h10 : ms.length ≤ 10) :
    Calls Try.prog 28 #[.agg #[.slice A1 ms.length c1, .int .i64 r1]] X (fun e Y => ∃ (A2 : Option Addr) (c2 : Nat) (ns : List Nd) (r2 : Int), e = .returned (.agg #[.slice A2 ns.length c2, .int .i64 r2]) ∧ AlkS w Y rb b2 b3 b4 nb cb A P A1 c1 ms r1 u0 u1 v0 v1 ∧ GotG Y (b3 + 1) A2 c2 ns r2 ∧ 0 < ns.length) := by
  have a3 := h.h3
  have a5 := h.l4.lt
  refine (specShallow_any A1 ms c1 r1 X h.sees.here).mono ?_
  rintro e Y ⟨A2, c2, rfl, hown, hb⟩
  have hl : (shalN ms r1).length ≤ 1000 := Nat.le_trans (shalN_smallN ms r1).len (by omega)
  exact ⟨A2, c2, _, _, rfl, h.later hb, ⟨(sees_own hown (shalN_wf r1 h.sees.here.wf) hl).low (by omega), hl, hown.capR, by rw [shalR_yes hv (by omega)]; constructor <;> omega⟩, by rw [shalN_yes hv (by omega)]; simp⟩

theorem GotG.later {lo : Nat} (h : GotG X lo A1 c1 ms r1) {Y : World} (hb : Below X.heap.size X Y) : GotG Y lo A1 c1 ms r1 :=
  ⟨h.sees.step hb.size (fun k _ h2 => hb.block k h2), h.le, h.cap, h.r64⟩

/-- the pruned graph, ready for kids -/
structure PrnD (X : World) (b3 b4 : Nat) (A1 : Option Addr) (ms : List Nd) (r1 : Int) (g c lo : Nat) : Prop where
  row : RowD X lo X.heap.size (some ⟨g, 0, none⟩) c (prunedOf ms r1)
  wf : WfN (prunedOf ms r1)
  sees : ∀ w' : World, X.heap.size ≤ w'.heap.size → (∀ k, b3 + 1 ≤ k → k < lo → w'.heap[k]? = X.heap[k]?) → NdsAt w' w'.heap.size A1 ms
  hlo : b4 < lo
  hle : lo ≤ X.heap.size

theorem PrnD.set2 {g c lo : Nat} (h : PrnD X b3 b4 A1 ms r1 g c lo) {b : Nat} (hb : b ≤ b3) (hb4 : b3 < b4) (x0 x1 : Value) : PrnD ((X.setCell ⟨b, 0, none⟩ x0).setCell ⟨b, 1, none⟩ x1) b3 b4 A1 ms r1 g c lo := by
  have hf : ∀ k, k ≠ b → ((X.setCell ⟨b, 0, none⟩ x0).setCell ⟨b, 1, none⟩ x1).heap[k]? = X.heap[k]? := fun k hk => (Below.heap_setCell _ _ _ _ hk).trans (Below.heap_setCell _ _ _ _ hk)
  have hl := h.hlo
  exact ⟨(h.row.ofBlk (fun k h1 _ => hf k (by omega))).up (by simp), h.wf, fun w' h1 h2 => h.sees w' (by simpa using h1) (fun k a b => (h2 k a b).trans (hf k (by omega))), h.hlo, by simpa using h.hle⟩

theorem alkPrun (h : AlkS w X rb b2 b3 b4 nb cb A P A1 c1 ms r1 u0 u1 v0 v1) (hv : ValidG ms r1) :
    Calls Try.prog 30 #[.agg #[.slice A1 ms.length c1, .int .i64 r1]] X (fun e Y => ∃ g c lo, e = .returned (.agg #[.slice (some ⟨g, 0, none⟩) (prunedOf ms r1).length c, .int .i64 0]) ∧ AlkS w Y rb b2 b3 b4 nb cb A P A1 c1 ms r1 u0 u1 v0 v1 ∧ PrnD Y b3 b4 A1 ms r1 g c lo) := by
  have a3 := h.h3
  have a5 := h.l4.lt
  obtain ⟨i, hi⟩ := Int.eq_ofNat_of_zero_le hv.root0
  have hC := specPruned_apart A1 ms c1 i X h.sees.here (by rw [← hi]; exact hv)
  rw [← hi, ← pruned_yes hv] at hC
  refine hC.mono ?_
  rintro e Y ⟨A2, c2, rfl, hrow, hwf, hb⟩
  have h1 := (pruned_valid hv).one
  obtain ⟨cs, h5, _⟩ := hrow.row
  obtain ⟨g, cap, hvv, _, _⟩ := h5.form (by omega)
  injection hvv with e1 _ _
  subst e1
  exact ⟨g, c2, X.heap.size, rfl, h.later hb, hrow, hwf, fun w' h1 h2 => h.sees w' (Nat.le_trans hb.size h1) (fun k a b => (h2 k a b).trans (hb.block k b)), h.l4.lt, hb.size⟩

theorem alkAdd (h : AlkS w X rb b2 b3 b4 nb cb A P A1 c1 ms r1 u0 u1 v0 v1) (hv : ValidG ms r1) (hP : P ≤ 400000) {g c lo : Nat} (hp : PrnD X b3 b4 A1 ms r1 g c lo) :
    Calls Try.prog 29 #[.pointer (some ⟨rb, 0, none⟩), .agg #[.slice (some ⟨g, 0, none⟩) (prunedOf ms r1).length c, .int .i64 0], .int .i64 0] X (GotC w rb b2 b3 b4 nb cb A (P + 300) A1 c1 ms r1 u0 u1 v0 v1) := by
  have a1 := h.h1
  have a2 := h.h2
  have a3 := h.h3
  have a4 := h.nr
  have a5 := h.l4.lt
  have a6 := hp.hlo
  have a7 := hp.hle
  have hvp := pruned_valid hv
  have hwf := hp.wf
  obtain ⟨p, hpp, hr⟩ := h.rd
  rcases hp.row.own (Nat.le_refl _) with ⟨h5, _, _⟩ | ⟨g', h5, hO⟩
  · cases h5
  injection h5 with h5
  injection h5 with h5 _ _
  subst h5
  have hsees := hp.sees
  clear hp
  generalize hns : prunedOf ms r1 = ns2 at hvp hwf hO ⊢
  have hglo := hO.hlo
  have hlow : ∀ (j : Nat) (Aq : Option Addr) (kq cq : Nat), j < ns2.length → X.cell? ⟨g, j * 3 + 2, none⟩ = some (.slice Aq kq cq) → ∀ b, blockOf Aq = some b → lo ≤ b ∧ b < X.heap.size ∧ b ≠ g := by
    intro j Aq kq cq hj hc b hb
    obtain ⟨A3, c3, e1, e2, e3⟩ := (hO.nd j _ (List.getElem?_eq_getElem hj)).kids
    rw [hc] at e1
    injection e1 with e1
    injection e1 with e1 _ _
    rw [e1] at hb
    exact ⟨(e2.blocks b hb).1, (e3 b hb).1, (e3 b hb).2⟩
  have hgen : GenG X g rb c ns2 := by
    refine ⟨hO.row, hO.le, by have := hvp.few; omega, fun j n hj => ?_, by omega, hO.dis⟩
    have hn := hO.nd j n hj
    obtain ⟨A3, c3, e1, e2, e3⟩ := hn.kids
    obtain ⟨w1, w2, w3, _⟩ := hwf n (List.mem_of_getElem? hj)
    have hk6 := (hvp.nodes n (List.mem_of_getElem? hj)).few
    exact ⟨hn.kind, hn.value, ⟨A3, c3, e1, e2.lowB (Nat.zero_le _), w3, by omega, fun e => (e3 g e).2 rfl, fun e => by have := (e2.blocks rb e).1; omega⟩, w1, w2⟩
  obtain ⟨n0, hn0⟩ : ∃ n, ns2[0]? = some n := ⟨_, List.getElem?_eq_getElem (by have := hvp.one; omega)⟩
  have hok := hvp.nodes n0 (List.mem_of_getElem? hn0)
  obtain ⟨A0, c0, e1, e2, e3⟩ := (hO.nd 0 n0 hn0).kids
  have hkd : 0 ≤ n0.kind ∧ n0.kind ≤ 5 := by
    rcases hok.kind with h | h | h | h | h | h <;> omega
  have hC := addKidsK_any rb A nb cb p g c 0 0 n0.kind n0.value ns2 A0 c0 n0.kids X hr (by omega) hgen (by omega) hn0 hkd.1 hkd.2 e1 (e2.lowB (Nat.zero_le _)) hok.inn hok.few (fun b hb => ⟨by have := (e2.blocks b hb).1; omega, (e3 b hb).2⟩)
  refine Calls.mono hC ?_
  rintro e Y ⟨n', p', rfl, hp', hrd, hgY, _, _, _, y1, y2, y3, y4, hblk, hkids⟩
  have hA0 : ∀ b, blockOf A0 = some b → lo ≤ b := fun b hb => (e2.blocks b hb).1
  have hold : ∀ k, k < lo → k < X.heap.size → k ≠ rb → Y.heap[k]? = X.heap[k]? := fun k h1 h2 h3 => hblk k h2 h3 (by omega) (fun e => by have := hA0 k e; omega)
  have hll : (ns2.set 0 n').length = ns2.length := List.length_set
  refine ⟨some ⟨g, 0, none⟩, c, ns2.set 0 n', 0, by rw [hll], ⟨⟨p', by omega, hrd⟩, ⟨y1.trans h.grew.os, y2.trans h.grew.tape, y3.trans h.grew.output, Nat.le_trans h.grew.size y4, fun k hk hk2 => (hold k (by omega) (by omega) hk2).trans (h.grew.block k hk hk2)⟩, (hold b2 (by omega) (by omega) (by omega)).trans h.l2, (hold b3 (by omega) (by omega) (by omega)).trans h.l3, (hold b4 (by omega) (by omega) (by omega)).trans h.l4, fun w' h1 h2 => hsees w' (Nat.le_trans y4 h1) (fun k i1 i2 => (h2 k i1 (by omega)).trans (hold k i2 (by omega) (by omega))), h.h1, h.h2, h.h3, h.nr⟩, sees_gen hgY (by omega) (fun j hj Aq kq cq hc b hb => ?_), by rw [hll]; have := hvp.few; omega, hgY.le, by constructor <;> omega⟩
  rw [hll] at hj
  rcases hkids j hj Aq kq cq hc b hb with h6 | ⟨i, A3, k3, c3, hi, hc3, hb3⟩
  · omega
  · have := (hlow i A3 k3 c3 hi hc3 b hb3).1
    omega
end

end Go.Proofs.Ytkgnijbdbkopkab
