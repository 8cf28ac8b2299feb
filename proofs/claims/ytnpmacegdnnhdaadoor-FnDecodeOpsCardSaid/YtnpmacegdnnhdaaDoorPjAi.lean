/-
  Lemmas, several texts in one: Gen, RdO, RdO2.
-/
import Derived.Test.YtnpmacegdnnhdaaDoorSomeNode
import Derived.Test.YtnpmacegdnnhdaaDoorPjAe
import Derived.Test.YtnpmacegdnnhdaaDoorPjAf
import Derived.Deep.Cut
import Derived.StillTailTactics
import Derived.IntWalk
namespace Go.Proofs.YtnpmacegdnnhdaaDoor
open Go.RowKit
set_option linter.unusedVariables false
structure NdX (w : World) (g rb j : Nat) (n : Nd) : Prop where
  kind : w.cell? ⟨g, j * 3, none⟩ = some (.int .i64 n.kind)
  value : w.cell? ⟨g, j * 3 + 1, none⟩ = some (.int .i64 n.value)
  kids : ∃ A c, w.cell? ⟨g, j * 3 + 2, none⟩ = some (.slice A n.kids.length c) ∧ OwnI w 0 A c n.kids ∧ (∀ x ∈ n.kids, In64 x) ∧ n.kids.length ≤ 1000 ∧ blockOf A ≠ some g ∧ blockOf A ≠ some rb
  wfk : In64 n.kind
  wfv : In64 n.value
structure GenG (w : World) (g rb cap : Nat) (ns : List Nd) : Prop where
  row : ∃ f, w.rowIs g 81 (cap * 3) f
  le : ns.length ≤ cap
  few : ns.length ≤ 1000
  nd : ∀ j n, ns[j]? = some n → NdX w g rb j n
  ne : g ≠ rb
  dis : ∀ (i j : Nat) (A A' : Option Addr) (n n' c c' : Nat), i ≠ j → i < ns.length → j < ns.length → w.cell? ⟨g, i * 3 + 2, none⟩ = some (.slice A n c) → w.cell? ⟨g, j * 3 + 2, none⟩ = some (.slice A' n' c') → ∀ b, blockOf A = some b → blockOf A' ≠ some b
theorem OwnI.same' {w w' : World} {base : Nat} {A : Option Addr} {c : Nat} {xs : List Int} (h : OwnI w base A c xs) (hA : ∀ g, blockOf A = some g → w'.heap[g]? = w.heap[g]?) : OwnI w' base A c xs := by
  refine ⟨h.own.1, ?_⟩
  rcases h.own.2 with h2 | ⟨g, cap, cur, hv, hg, hh, r⟩
  · exact .inl h2
  · have hAg : blockOf A = some g := by
      injection hv with hv
      rw [hv]; rfl
    exact .inr ⟨g, cap, cur, hv, hg, (hA g hAg).trans hh, r⟩
structure Grew2 (g1 g2 : Nat) (w w' : World) : Prop where
  os : w'.os = w.os
  tape : w'.tape = w.tape
  output : w'.output = w.output
  size : w.heap.size ≤ w'.heap.size
  block : ∀ k, k < w.heap.size → k ≠ g1 → k ≠ g2 → w'.heap[k]? = w.heap[k]?
theorem Grew2.trans {g1 g2 : Nat} {a b c : World} (h : Grew2 g1 g2 a b) (k : Grew2 g1 g2 b c) : Grew2 g1 g2 a c :=
  ⟨k.os.trans h.os, k.tape.trans h.tape, k.output.trans h.output, Nat.le_trans h.size k.size, fun j hj h1 h2 => (k.block j (Nat.lt_of_lt_of_le hj h.size) h1 h2).trans (h.block j hj h1 h2)⟩
theorem Grew2.below {g1 g2 B : Nat} {w0 w w' : World} (h : Grew2 g1 g2 w w') (hb : Below B w0 w) (h1 : B ≤ g1) (h2 : B ≤ g2) (hB : B ≤ w.heap.size) : Below B w0 w' :=
  hb.trans ⟨h.os, h.tape, h.output, h.size, fun k hk => h.block k (by omega) (by omega) (by omega)⟩
theorem IntsAt.kept {w w' : World} {A : Option Addr} {xs : List Int} (h : IntsAt w w.heap.size A xs) (hs : w.heap.size ≤ w'.heap.size) (hb : ∀ k, blockOf A = some k → k < w.heap.size → w'.heap[k]? = w.heap[k]?) : IntsAt w' w'.heap.size A xs :=
  ⟨fun hx => by
    obtain ⟨b, off, e, hlt, hc⟩ := h.row hx
    subst e
    exact ⟨b, off, rfl, Nat.lt_of_lt_of_le hlt hs, fun j x hj => (World.cell?_of_block (w := w) (hb b rfl hlt)).trans (hc j x hj)⟩, h.wf, h.len⟩
theorem NdX.kept {w w' : World} {g rb j : Nat} {n : Nd} (h : NdX w g rb j n) (hc : ∀ o, o < 3 → w'.cell? ⟨g, j * 3 + o, none⟩ = w.cell? ⟨g, j * 3 + o, none⟩) (hb : ∀ k, k < w.heap.size → k ≠ rb → k ≠ g → w'.heap[k]? = w.heap[k]?) : NdX w' g rb j n := by
  obtain ⟨A, c, h1, h2, h3, h6, h4, h5⟩ := h.kids
  exact ⟨(hc 0 (by omega)).trans h.kind, (hc 1 (by omega)).trans h.value, ⟨A, c, (hc 2 (by omega)).trans h1, h2.same' (fun k hk => hb k (h2.blocks k hk).2 (fun e => h5 (by rw [hk, e])) (fun e => h4 (by rw [hk, e]))), h3, h6, h4, h5⟩, h.wfk, h.wfv⟩
theorem GenG.lt {w : World} {g rb cap : Nat} {ns : List Nd} (h : GenG w g rb cap ns) : g < w.heap.size := by
  obtain ⟨f, hf⟩ := h.row
  exact hf.lt
theorem GenG.grew {w w' : World} {g rb cap : Nat} {ns : List Nd} (h : GenG w g rb cap ns) (hg : Grew rb w w') : GenG w' g rb cap ns := by
  have hb := hg.block g h.lt h.ne
  obtain ⟨f, hf⟩ := h.row
  exact ⟨⟨f, hf.of_block hb⟩, h.le, h.few, fun j n hj => (h.nd j n hj).kept (fun o _ => World.cell?_of_block (w := w) hb) (fun k hk h1 _ => hg.block k hk h1), h.ne, fun i j A A' n n' c c' hij hi hj h1 h2 => h.dis i j A A' n n' c c' hij hi hj ((World.cell?_of_block (w := w) hb).symm.trans h1) ((World.cell?_of_block (w := w) hb).symm.trans h2)⟩
theorem GenG.nds {w : World} {g rb cap : Nat} {ns : List Nd} (h : GenG w g rb cap ns) : NdsAt w w.heap.size (some ⟨g, 0, none⟩) ns :=
  ⟨fun _ => ⟨g, 0, rfl, h.lt, fun j n hj => by
    have hn := h.nd j n hj
    obtain ⟨A, c, h1, h2, h3, h6, _, _⟩ := hn.kids
    rw [Nat.zero_add]
    exact ⟨hn.kind, hn.value, ⟨A, c, h1, h2.ints h3 (by omega), h2.nil⟩, hn.wfk, hn.wfv⟩⟩, by have := h.few; omega⟩
def put3 (w : World) (g j : Nat) (v0 v1 v2 : Value) : World := ((w.setCell ⟨g, j * 3, none⟩ v0).setCell ⟨g, j * 3 + 1, none⟩ v1).setCell ⟨g, j * 3 + 2, none⟩ v2
theorem put3_block {w : World} {g j k : Nat} {v0 v1 v2 : Value} (hk : k ≠ g) : (put3 w g j v0 v1 v2).heap[k]? = w.heap[k]? := by
  unfold put3
  rw [Below.heap_setCell _ _ _ _ (by show k ≠ g; exact hk), Below.heap_setCell _ _ _ _ (by show k ≠ g; exact hk), Below.heap_setCell _ _ _ _ (by show k ≠ g; exact hk)]
theorem put3_size {w : World} {g j : Nat} {v0 v1 v2 : Value} : (put3 w g j v0 v1 v2).heap.size = w.heap.size := by unfold put3; simp
theorem put3_far {w : World} {g j q : Nat} {v0 v1 v2 : Value} (hq : q < j * 3 ∨ j * 3 + 2 < q) : (put3 w g j v0 v1 v2).cell? ⟨g, q, none⟩ = w.cell? ⟨g, q, none⟩ := by
  unfold put3
  rw [World.cell?_setCell_other, World.cell?_setCell_other, World.cell?_setCell_other] <;> (intro e; injection e with _ e; omega)
theorem put3_row {w : World} {g j n : Nat} {t : TypeId} {f : Nat → Value} (h : w.rowIs g t n f) (v0 v1 v2 : Value) : ∃ f', (put3 w g j v0 v1 v2).rowIs g t n f' := ⟨_, ((h.set _ _).set _ _).set _ _⟩
theorem put3_at {w : World} {g j n : Nat} {t : TypeId} {f : Nat → Value} (h : w.rowIs g t n f) (hn : j * 3 + 2 < n) (v0 v1 v2 : Value) : (put3 w g j v0 v1 v2).cell? ⟨g, j * 3, none⟩ = some v0 ∧ (put3 w g j v0 v1 v2).cell? ⟨g, j * 3 + 1, none⟩ = some v1 ∧ (put3 w g j v0 v1 v2).cell? ⟨g, j * 3 + 2, none⟩ = some v2 := by
  have hr := ((h.set (j * 3) v0).set (j * 3 + 1) v1).set (j * 3 + 2) v2
  unfold put3
  refine ⟨?_, ?_, ?_⟩
  · have := hr.cell (i := j * 3) (by omega)
    simpa using this
  · have := hr.cell (i := j * 3 + 1) (by omega)
    simpa using this
  · have := hr.cell (i := j * 3 + 2) (by omega)
    simpa using this
theorem GenG.setFar {w : World} {g rb cap b o : Nat} {ns : List Nd} {v : Value} (h : GenG w g rb cap ns) (hb : b ≠ g) (hk : ∀ j, j < ns.length → ∀ (A : Option Addr) (n c : Nat), w.cell? ⟨g, j * 3 + 2, none⟩ = some (.slice A n c) → blockOf A ≠ some b) : GenG (w.setCell ⟨b, o, none⟩ v) g rb cap ns := by
  have hbl : ∀ k, k ≠ b → (w.setCell ⟨b, o, none⟩ v).heap[k]? = w.heap[k]? := fun k hk => Below.heap_setCell _ _ _ _ hk
  have hg := hbl g (fun e => hb e.symm)
  obtain ⟨f, hf⟩ := h.row
  refine ⟨⟨f, hf.of_block hg⟩, h.le, h.few, fun j n hj => ?_, h.ne, fun i j A A' n n' c c' hij hi hj h1 h2 => h.dis i j A A' n n' c c' hij hi hj ((World.cell?_of_block (w := w) hg).symm.trans h1) ((World.cell?_of_block (w := w) hg).symm.trans h2)⟩
  have hn := h.nd j n hj
  obtain ⟨A, c, h1, h2, h3, h6, h4, h5⟩ := hn.kids
  have hc := fun q => World.cell?_of_block (w := w) (w' := w.setCell ⟨b, o, none⟩ v) (a := ⟨g, q, none⟩) hg
  exact ⟨(hc _).trans hn.kind, (hc _).trans hn.value, ⟨A, c, (hc _).trans h1, h2.same' (fun k hk2 => hbl k (fun e => hk j (List.getElem?_eq_some_iff.1 hj).1 A _ c h1 (by rw [hk2, e]))), h3, h6, h4, h5⟩, hn.wfk, hn.wfv⟩
theorem Rd.kept {w w' : World} {rb : Nat} {A : Option Addr} {n c p : Nat} (h : Rd w rb A n c p) (hr : Below (rb + 1) w w') : Rd w' rb A n c p :=
  ⟨h.box.below hr (by omega), h.bytes.later (hr.mono (by omega)), h.few⟩
theorem Rd.put {w : World} {rb g j : Nat} {A : Option Addr} {n c p : Nat} (h : Rd w rb A n c p) (hg : rb < g) (v0 v1 v2 : Value) : Rd (put3 w g j v0 v1 v2) rb A n c p :=
  h.kept ⟨rfl, rfl, rfl, by rw [put3_size]; exact Nat.le_refl _, fun k hk => put3_block (by omega)⟩
end Go.Proofs.YtnpmacegdnnhdaaDoor

namespace Go.Proofs.YtnpmacegdnnhdaaDoor
open Go.RowKit
set_option linter.unusedVariables false
def GivesOpM (w : World) (p : Od × Nat) (e : Ending) (w' : World) : Prop := e = .returned (.tuple #[.agg #[.int .i64 p.1.code, .int .i64 p.1.arg], .int .i64 (p.2 : Int)]) ∧ Below w.heap.size w w'
theorem lies2m {w : World} {g : Nat} {a b : Value} {t : TypeId} (h : Lies w g #[a, b] t) (v0 v1 : Value) :
    ((w.setCell ⟨g, 0, none⟩ v0).setCell ⟨g, 1, none⟩ v1).cell? ⟨g, 0, none⟩ = some v0 ∧ ((w.setCell ⟨g, 0, none⟩ v0).setCell ⟨g, 1, none⟩ v1).cell? ⟨g, 1, none⟩ = some v1 := by
  have h2 := (h.set 0 v0).set 1 v1
  have c0 := h2.cell 0
  have c1 := h2.cell 1
  simp at c0 c1
  exact ⟨c0, c1⟩
noncomputable def lastO (o : Od) (n : Nat) : Od × Nat := @ite _ (OdOk o ∧ (encO o).length = n) (Classical.propDecidable _) (o, n) (⟨0, 0⟩, 0)
theorem lastO_yes {o : Od} {n : Nat} (h : OdOk o) (hn : (encO o).length = n) : lastO o n = (o, n) := by unfold lastO; rw [if_pos ⟨h, hn⟩]
theorem lastO_no {o : Od} {n : Nat} (h : ¬ (OdOk o ∧ (encO o).length = n)) : lastO o n = (⟨0, 0⟩, 0) := by unfold lastO; rw [if_neg h]
theorem fstO_bare {y : Int} {t : List Int} (h0 : 0 ≤ y) (h : argMost y < 0) : fstO (y :: t) = lastO ⟨y, 0⟩ 1 := by
  by_cases h19 : 19 < y
  · rw [lastO_no (fun h => by have := h.1.1; simp at this; omega), fstO_none (by simp only [firstO]; rw [if_pos h19])]
  · rw [lastO_yes ⟨by simp; omega, .inl ⟨h, rfl⟩⟩ (by simp [encO_bare (o := ⟨y, 0⟩) h]), fstO_some (by simp only [firstO]; rw [if_neg h19, if_pos h])]
theorem arg_code {y : Int} (h0 : 0 ≤ y) (h : ¬ argMost y < 0) : ¬ 19 < y := by
  intro h19
  apply h
  unfold argMost
  repeat' split
  all_goals omega
theorem fstO_one {y : Int} (h0 : 0 ≤ y) (h : ¬ argMost y < 0) : fstO [y] = (⟨0, 0⟩, 0) :=
  fstO_none (by simp only [firstO]; rw [if_neg (arg_code h0 h), if_neg h]; simp [firstA])
theorem fstO_short {y a : Int} {t : List Int} (h0 : 0 ≤ y) (h : ¬ argMost y < 0) (ha0 : 0 ≤ a) (ha : a < 128) : fstO (y :: a :: t) = lastO ⟨y, a⟩ 2 := by
  have e : firstA (a :: t) = (a, 1) := by simp only [firstA]; rw [if_pos ha]
  have h19 := arg_code h0 h
  by_cases hb : argMost y < a
  · rw [lastO_no (fun hh => by have := hh.1.2; simp at this; omega), fstO_none (by simp only [firstO]; rw [if_neg h19, if_neg h, e]; simp [hb])]
  · rw [lastO_yes ⟨by simp; omega, .inr ⟨by simp; omega, by simp; omega⟩⟩ (by simp [encO_arg (o := ⟨y, a⟩) h, encA_short ha]), fstO_some (p := (⟨y, a⟩, 2)) (by simp only [firstO]; rw [if_neg h19, if_neg h, e]; simp [hb])]
theorem fstO_cut {y a : Int} (h0 : 0 ≤ y) (h : ¬ argMost y < 0) (ha : ¬ a < 128) : fstO [y, a] = (⟨0, 0⟩, 0) :=
  fstO_none (by simp only [firstO]; rw [if_neg (arg_code h0 h), if_neg h]; simp [firstA, ha])
theorem fstO_long {y a b : Int} {t : List Int} (h0 : 0 ≤ y) (h : ¬ argMost y < 0) (ha : ¬ a < 128) (ha2 : a ≤ 255) (hb : 0 ≤ b) : fstO (y :: a :: b :: t) = lastO ⟨y, a - 128 + 128 * b⟩ 3 := by
  have h19 := arg_code h0 h
  by_cases hp : 0 < b
  · have e : firstA (a :: b :: t) = (a - 128 + b * 128, 2) := by simp only [firstA]; rw [if_neg ha, if_pos hp]
    have e2 : a - 128 + 128 * b = a - 128 + b * 128 := by omega
    rw [e2]
    by_cases hbg : argMost y < a - 128 + b * 128
    · rw [lastO_no (fun hh => by have := hh.1.2; simp at this; omega), fstO_none (by simp only [firstO]; rw [if_neg h19, if_neg h, e]; simp [hbg])]
    · rw [lastO_yes ⟨by simp; omega, .inr ⟨by simp; omega, by simp; omega⟩⟩ (by simp [encO_arg (o := ⟨y, a - 128 + b * 128⟩) h, encA_long (show ¬ a - 128 + b * 128 < 128 by omega)]), fstO_some (p := (⟨y, a - 128 + b * 128⟩, 3)) (by simp only [firstO]; rw [if_neg h19, if_neg h, e]; simp [hbg])]
  · have e : firstA (a :: b :: t) = (0, 0) := by simp only [firstA]; rw [if_neg ha, if_neg hp]
    rw [lastO_no (fun hh => by have := hh.2; rw [encO_arg (o := ⟨y, a - 128 + 128 * b⟩) h, encA_short (show a - 128 + 128 * b < 128 by omega)] at this; simp at this), fstO_none (by simp only [firstO]; rw [if_neg h19, if_neg h, e]; simp)]
set_option maxRecDepth 100000 in
set_option maxHeartbeats 2000000 in
theorem readOp_nil (A : Option Addr) (c : Nat) (w : World) :
    Calls Tryd.prog 27 #[.slice A 0 c] w (GivesOpM w (⟨0, 0⟩, 0)) := by
  have l0 := Lies.new w #[.int .i64 0, .int .i64 0] 40
  have HB := hide ((Below.refl w.heap.size w).alloc (Nat.le_refl _) (.cells #[.int .i64 0, .int .i64 0] 40))
  go_enter Tryd.func27, Tryd.ntmps27
  go_upto_region 1 with fail
  generalize w.alloc (.cells #[.int .i64 0, .int .i64 0] 40) = W at HB l0 ⊢
  have f0 := l0.frozen 0
  have f1 := l0.frozen 1
  have x0 := l0.cell 0
  have x1 := l0.cell 1
  simp at x0 x1
  obtain ⟨s0, s1⟩ := lies2m l0 (.int .i64 0) (.int .i64 0)
  have HE := hide ((HB.out.setCell (p := ⟨w.heap.size, 0, none⟩) (Nat.le_refl _) (.int .i64 0)).setCell (p := ⟨w.heap.size, 1, none⟩) (Nat.le_refl _) (.int .i64 0))
  go_wp2
  exact bodyPost_ret (v := .tuple #[.agg #[.int .i64 0, .int .i64 0], .int .i64 0]) (by simp [results, Tryd.results27, go_sem, s0, s1]) rfl ⟨rfl, HE.out⟩
theorem box_made {w W : World} (HB : Below w.heap.size w W) (l0 : Lies W w.heap.size #[.int .i64 0, .int .i64 0] 40) (y : Int) :
    Below w.heap.size w (W.alloc (.cells #[.int .i64 y, .int .i64 0] 40)) ∧ Lies (W.alloc (.cells #[.int .i64 y, .int .i64 0] 40)) w.heap.size #[.int .i64 0, .int .i64 0] 40 ∧
      Lies (W.alloc (.cells #[.int .i64 y, .int .i64 0] 40)) W.heap.size #[.int .i64 y, .int .i64 0] 40 ∧ w.heap.size < W.heap.size :=
  ⟨HB.alloc HB.size _, l0.alloc _, Lies.new W _ _, l0.lt⟩
theorem box_set {w W : World} {g : Nat} {y z : Int} (HB : Below w.heap.size w W) (l0 : Lies W w.heap.size #[.int .i64 0, .int .i64 0] 40) (l4 : Lies W g #[.int .i64 y, .int .i64 z] 40) (hg : w.heap.size < g) (a : Int) :
    Below w.heap.size w (W.setCell ⟨g, 1, none⟩ (.int .i64 a)) ∧ Lies (W.setCell ⟨g, 1, none⟩ (.int .i64 a)) w.heap.size #[.int .i64 0, .int .i64 0] 40 ∧ Lies (W.setCell ⟨g, 1, none⟩ (.int .i64 a)) g #[.int .i64 y, .int .i64 a] 40 := by
  refine ⟨HB.setCell (by show w.heap.size ≤ g; omega) _, l0.far (by show w.heap.size ≠ g; omega) _, ?_⟩
  have := l4.set 1 (.int .i64 a)
  simpa using this
set_option maxRecDepth 100000 in
set_option maxHeartbeats 2000000 in
theorem readOp_bare (b0 off : Nat) (y : Int) (t : List Int) (c : Nat) (w : World) (h : IntsAt w w.heap.size (some ⟨b0, off, none⟩) (y :: t)) (hy : 0 ≤ y ∧ y ≤ 255) (hl : (y :: t).length ≤ 1000) (hneg : argMost y < 0) :
    Calls Tryd.prog 27 #[.slice (some ⟨b0, off, none⟩) (y :: t).length c] w (GivesOpM w (fstO (y :: t))) := by
  rw [fstO_bare hy.1 hneg]
  obtain ⟨b1, off1, y0, e1, hbl, hy0, _, hcell⟩ := h.at_ (k := 0) (by simp)
  injection e1 with e1
  injection e1 with e1 e2
  subst e1 e2
  obtain rfl : y = y0 := by simpa using hy0
  rw [Nat.add_zero] at hcell
  have l0 := Lies.new w #[.int .i64 0, .int .i64 0] 40
  have HB := hide ((Below.refl w.heap.size w).alloc (Nat.le_refl _) (.cells #[.int .i64 0, .int .i64 0] 40))
  have hcW := (HB.out.cell (p := ⟨b0, off, none⟩) hbl).trans hcell
  have hlt : t.length + 1 ≤ 1000 := by simpa using hl
  have hz1 : (((t.length + 1 : Nat) : Int) == 0) = false := by simp only [beq_eq_false_iff_ne, ne_eq]; omega
  have hz2 : (0 : Int) < ((t.length + 1 : Nat) : Int) := by omega
  have HN := hide hneg
  rw [List.length_cons]
  clear h hl hy0 hcell hneg
  go_enter Tryd.func27, Tryd.ntmps27
  go_upto_region 1 with fail
  generalize w.alloc (.cells #[.int .i64 0, .int .i64 0] 40) = W at HB l0 hcW ⊢
  go_upto_region 5 with fail
  obtain ⟨hB4, l04, l4, hgg⟩ := box_made HB.out l0 y
  generalize W.alloc (.cells #[.int .i64 y, .int .i64 0] 40) = W4 at hB4 l04 l4 ⊢
  generalize W.heap.size = g4 at l4 hgg ⊢
  have HB4 := hide hB4
  have z0 := l4.cell 0
  have z1 := l4.cell 1
  simp at z0 z1
  clear hB4 l0 hcW
  go_wp2_with fail
  refine (argOf_any y W4).mono ?_
  rintro e w' ⟨rfl, rfl⟩
  have dneg : decide (0 ≤ argMost y) = false := by have := HN.out; simp; omega
  have hm := argMost_range y
  generalize argMost y = M at dneg hm ⊢
  go_wp2_with fail
  by_cases hv : OdOk ⟨y, 0⟩
  · have ht := hide (tf_true hv)
    have HV := hide hv
    obtain ⟨ln, hln⟩ : ∃ ln, ln = (encO ⟨y, 0⟩).length := ⟨_, rfl⟩
    have Hln := hide hln
    have hl3 := (encO_len ⟨y, 0⟩).2
    rw [← hln] at hl3
    clear hv hln
    refine (validOp_any ⟨y, 0⟩ W4).mono ?_
    rintro e w5 ⟨rfl, hb5⟩
    rw [ht.out]
    have l05 := l04.below hb5 l04.lt
    have l45 := l4.below hb5 l4.lt
    have HB5 := hide (HB4.out.trans (hb5.mono HB4.out.size))
    clear hb5 l04 l4 z0 z1
    have z0 := l45.cell 0
    have z1 := l45.cell 1
    simp at z0 z1
    go_wp2_with fail
    refine (bytesOf_any ⟨y, 0⟩ w5 HV.out).mono ?_
    rintro e w6 ⟨A6, c6, rfl, _, _, hb6⟩
    rw [← Hln.out]
    have l06 := l05.below hb6 l05.lt
    have l46 := l45.below hb6 l45.lt
    have HB6 := hide (HB5.out.trans (hb6.mono HB5.out.size))
    clear hb6 l05 l45 z0 z1
    have z0 := l46.cell 0
    have z1 := l46.cell 1
    simp at z0 z1
    by_cases hn : ln = 1
    · have HF := hide (lastO_yes (o := ⟨y, 0⟩) (n := 1) HV.out (Hln.out.symm.trans hn))
      subst hn
      have f0 := l06.frozen 0
      have f1 := l06.frozen 1
      have x0 := l06.cell 0
      have x1 := l06.cell 1
      simp at x0 x1
      obtain ⟨s0, s1⟩ := lies2m l06 (.int .i64 y) (.int .i64 (0))
      have HE := hide ((HB6.out.setCell (p := ⟨w.heap.size, 0, none⟩) (Nat.le_refl _) (.int .i64 y)).setCell (p := ⟨w.heap.size, 1, none⟩) (Nat.le_refl _) (.int .i64 (0)))
      clear l06 l46
      go_wp2
      exact bodyPost_ret (v := .tuple #[.agg #[.int .i64 y, .int .i64 (0)], .int .i64 1]) (by simp [results, Tryd.results27, go_sem, s0, s1]) rfl ⟨by rw [HF.out]; try rfl, HE.out⟩
    · have HF := hide (lastO_no (o := ⟨y, 0⟩) (n := 1) (fun h => hn (Hln.out.trans h.2)))
      have dn : ((ln : Int) != 1) = true := by simp; omega
      clear hn
      have f0 := l06.frozen 0
      have f1 := l06.frozen 1
      have x0 := l06.cell 0
      have x1 := l06.cell 1
      simp at x0 x1
      obtain ⟨s0, s1⟩ := lies2m l06 (.int .i64 0) (.int .i64 0)
      have HE := hide ((HB6.out.setCell (p := ⟨w.heap.size, 0, none⟩) (Nat.le_refl _) (.int .i64 0)).setCell (p := ⟨w.heap.size, 1, none⟩) (Nat.le_refl _) (.int .i64 0))
      go_wp2
      exact bodyPost_ret (v := .tuple #[.agg #[.int .i64 0, .int .i64 0], .int .i64 0]) (by simp [results, Tryd.results27, go_sem, s0, s1]) rfl ⟨by rw [HF.out]; try rfl, HE.out⟩
  · have ht := hide (tf_false hv)
    have HF := hide (lastO_no (o := ⟨y, 0⟩) (n := 1) (fun h => hv h.1))
    clear hv
    refine (validOp_any ⟨y, 0⟩ W4).mono ?_
    rintro e w5 ⟨rfl, hb5⟩
    rw [ht.out]
    have l05 := l04.below hb5 l04.lt
    have HB5 := hide (HB4.out.trans (hb5.mono HB4.out.size))
    clear hb5 l04 l4 z0 z1
    have f0 := l05.frozen 0
    have f1 := l05.frozen 1
    have x0 := l05.cell 0
    have x1 := l05.cell 1
    simp at x0 x1
    obtain ⟨s0, s1⟩ := lies2m l05 (.int .i64 0) (.int .i64 0)
    have HE := hide ((HB5.out.setCell (p := ⟨w.heap.size, 0, none⟩) (Nat.le_refl _) (.int .i64 0)).setCell (p := ⟨w.heap.size, 1, none⟩) (Nat.le_refl _) (.int .i64 0))
    go_wp2
    exact bodyPost_ret (v := .tuple #[.agg #[.int .i64 0, .int .i64 0], .int .i64 0]) (by simp [results, Tryd.results27, go_sem, s0, s1]) rfl ⟨by rw [HF.out]; try rfl, HE.out⟩
end Go.Proofs.YtnpmacegdnnhdaaDoor

namespace Go.Proofs.YtnpmacegdnnhdaaDoor
open Go.RowKit
set_option linter.unusedVariables false
set_option maxRecDepth 100000 in
set_option maxHeartbeats 2000000 in
theorem readOp_one (b0 off : Nat) (y : Int) (c : Nat) (w : World) (h : IntsAt w w.heap.size (some ⟨b0, off, none⟩) ([y])) (hb : ∀ x ∈ ([y]), 0 ≤ x ∧ x ≤ 255) (hl : ([y]).length ≤ 1000) (hneg : ¬ argMost y < 0) :
    Calls Tryd.prog 27 #[.slice (some ⟨b0, off, none⟩) ([y]).length c] w (GivesOpM w (fstO ([y]))) := by
  have hy := hb y (by simp)
  rw [fstO_one hy.1 hneg]
  obtain ⟨b1, off1, v0, e0, hbl0, hv0, _, hc0⟩ := h.at_ (k := 0) (by simp)
  injection e0 with e0
  injection e0 with ea0 eb0
  subst ea0 eb0
  obtain rfl : y = v0 := by simpa using hv0
  rw [Nat.add_zero] at hc0
  have l0 := Lies.new w #[.int .i64 0, .int .i64 0] 40
  have HB := hide ((Below.refl w.heap.size w).alloc (Nat.le_refl _) (.cells #[.int .i64 0, .int .i64 0] 40))
  have d0 := (HB.out.cell (p := ⟨b0, off, none⟩) hbl0).trans hc0
  have HN := hide hneg
  clear h hb hneg hv0 hc0
  rw [show ([y] : List Int).length = 1 from rfl]
  go_enter Tryd.func27, Tryd.ntmps27
  go_upto_region 1 with fail
  have hlW : w.heap.size < (w.alloc (.cells #[.int .i64 0, .int .i64 0] 40)).heap.size := l0.lt
  generalize w.alloc (.cells #[.int .i64 0, .int .i64 0] 40) = W at HB l0 hlW d0 ⊢
  go_upto_region 5 with fail
  obtain ⟨hB4, l04, l4, hgg⟩ := box_made HB.out l0 y
  have hWW := (Below.refl W.heap.size W).alloc (Nat.le_refl _) (.cells #[.int .i64 y, .int .i64 0] 40)
  have m0 := (hWW.cell (p := ⟨b0, off, none⟩) (Nat.lt_trans hbl0 hlW)).trans d0
  clear hWW d0
  generalize W.alloc (.cells #[.int .i64 y, .int .i64 0] 40) = W3 at hB4 l04 l4 m0 ⊢
  generalize W.heap.size = g4 at l4 hgg hlW ⊢
  have HB3 := hide hB4
  have z0 := l4.cell 0
  have z1 := l4.cell 1
  have zf := l4.frozen 1
  simp at z0 z1
  clear hB4 l0
  go_wp2_with fail
  refine (argOf_any y W3).mono ?_
  rintro e w' ⟨rfl, rfl⟩
  have dneg : decide (0 ≤ argMost y) = true := by have := HN.out; simp; omega
  have hm := argMost_range y
  generalize argMost y = M at dneg hm ⊢
  have f0 := l04.frozen 0
  have f1 := l04.frozen 1
  have x0 := l04.cell 0
  have x1 := l04.cell 1
  simp at x0 x1
  obtain ⟨s0, s1⟩ := lies2m l04 (.int .i64 0) (.int .i64 0)
  have HE := hide ((HB3.out.setCell (p := ⟨w.heap.size, 0, none⟩) (Nat.le_refl _) (.int .i64 0)).setCell (p := ⟨w.heap.size, 1, none⟩) (Nat.le_refl _) (.int .i64 0))
  go_wp2
  exact bodyPost_ret (v := .tuple #[.agg #[.int .i64 0, .int .i64 0], .int .i64 0]) (by simp [results, Tryd.results27, go_sem, s0, s1]) rfl ⟨rfl, HE.out⟩
set_option maxRecDepth 100000 in
set_option maxHeartbeats 2000000 in
theorem readOp_short (b0 off : Nat) (y a : Int) (t : List Int) (c : Nat) (w : World) (h : IntsAt w w.heap.size (some ⟨b0, off, none⟩) (y :: a :: t)) (hb : ∀ x ∈ (y :: a :: t), 0 ≤ x ∧ x ≤ 255) (hl : (y :: a :: t).length ≤ 1000) (hneg : ¬ argMost y < 0) (ha : a < 128) :
    Calls Tryd.prog 27 #[.slice (some ⟨b0, off, none⟩) (y :: a :: t).length c] w (GivesOpM w (fstO (y :: a :: t))) := by
  have hy := hb y (by simp)
  have hya := hb a (by simp)
  rw [fstO_short hy.1 hneg hya.1 ha]
  have da : decide (128 ≤ a) = false := by simp; omega
  obtain ⟨b1, off1, v0, e0, hbl0, hv0, _, hc0⟩ := h.at_ (k := 0) (by simp)
  injection e0 with e0
  injection e0 with ea0 eb0
  subst ea0 eb0
  obtain rfl : y = v0 := by simpa using hv0
  obtain ⟨b2, off2, v1, e1, hbl1, hv1, _, hc1⟩ := h.at_ (k := 1) (by simp)
  injection e1 with e1
  injection e1 with ea1 eb1
  subst ea1 eb1
  obtain rfl : a = v1 := by simpa using hv1
  rw [Nat.add_zero] at hc0
  have l0 := Lies.new w #[.int .i64 0, .int .i64 0] 40
  have HB := hide ((Below.refl w.heap.size w).alloc (Nat.le_refl _) (.cells #[.int .i64 0, .int .i64 0] 40))
  have d0 := (HB.out.cell (p := ⟨b0, off, none⟩) hbl0).trans hc0
  have d1 := (HB.out.cell (p := ⟨b0, off + 1, none⟩) hbl0).trans hc1
  have HN := hide hneg
  clear h hb hneg hv0 hc0 hv1 hc1
  have hlt : t.length + 2 ≤ 1000 := by simpa using hl
  have hlen : ((y :: a :: t) : List Int).length = t.length + 2 := by simp
  rw [hlen]
  clear hl hlen
  have hz1 : (((t.length + 2 : Nat) : Int) == 0) = false := by simp only [beq_eq_false_iff_ne, ne_eq]; omega
  have hz2 : (0 : Int) < ((t.length + 2 : Nat) : Int) := by omega
  have hz3 : (1 : Int) < ((t.length + 2 : Nat) : Int) := by omega
  have hz4 : ¬ ((t.length + 2 : Nat) : Int) < 2 := by omega
  go_enter Tryd.func27, Tryd.ntmps27
  go_upto_region 1 with fail
  have hlW : w.heap.size < (w.alloc (.cells #[.int .i64 0, .int .i64 0] 40)).heap.size := l0.lt
  generalize w.alloc (.cells #[.int .i64 0, .int .i64 0] 40) = W at HB l0 hlW d0 d1 ⊢
  go_upto_region 5 with fail
  obtain ⟨hB4, l04, l4, hgg⟩ := box_made HB.out l0 y
  have hWW := (Below.refl W.heap.size W).alloc (Nat.le_refl _) (.cells #[.int .i64 y, .int .i64 0] 40)
  have m0 := (hWW.cell (p := ⟨b0, off, none⟩) (Nat.lt_trans hbl0 hlW)).trans d0
  have m1 := (hWW.cell (p := ⟨b0, off + 1, none⟩) (Nat.lt_trans hbl0 hlW)).trans d1
  clear hWW d0 d1
  generalize W.alloc (.cells #[.int .i64 y, .int .i64 0] 40) = W3 at hB4 l04 l4 m0 m1 ⊢
  generalize W.heap.size = g4 at l4 hgg hlW ⊢
  have HB3 := hide hB4
  have z0 := l4.cell 0
  have z1 := l4.cell 1
  have zf := l4.frozen 1
  simp at z0 z1
  clear hB4 l0
  go_wp2_with fail
  refine (argOf_any y W3).mono ?_
  rintro e w' ⟨rfl, rfl⟩
  have dneg : decide (0 ≤ argMost y) = true := by have := HN.out; simp; omega
  have hm := argMost_range y
  generalize argMost y = M at dneg hm ⊢
  go_upto_region 10 with fail
  obtain ⟨hB4, l04', l4'⟩ := box_set HB3.out l04 l4 hgg a
  have hm1 : (W3.setCell ⟨g4, 1, none⟩ (.int .i64 a)).cell? ⟨b0, off + 1, none⟩ = some (.int .i64 a) := by
    rw [World.cell?_setCell_other]
    · exact m1
    · intro e; injection e with e; omega
  clear m0 m1 l04 l4 z0 z1 zf
  generalize W3.setCell ⟨g4, 1, none⟩ (.int .i64 a) = W4 at hB4 l04' l4' hm1 ⊢
  have HB4 := hide hB4
  have l04 := l04'
  have l4 := l4'
  clear l04' l4' hB4
  have z0 := l4.cell 0
  have z1 := l4.cell 1
  simp at z0 z1
  go_wp2_with fail
  by_cases hv : OdOk ⟨y, a⟩
  · have ht := hide (tf_true hv)
    have HV := hide hv
    obtain ⟨ln, hln⟩ : ∃ ln, ln = (encO ⟨y, a⟩).length := ⟨_, rfl⟩
    have Hln := hide hln
    have hl3 := (encO_len ⟨y, a⟩).2
    rw [← hln] at hl3
    clear hv hln
    refine (validOp_any ⟨y, a⟩ W4).mono ?_
    rintro e w5 ⟨rfl, hb5⟩
    rw [ht.out]
    have l05 := l04.below hb5 l04.lt
    have l45 := l4.below hb5 l4.lt
    have HB5 := hide (HB4.out.trans (hb5.mono HB4.out.size))
    clear hb5 l04 l4 z0 z1
    have z0 := l45.cell 0
    have z1 := l45.cell 1
    simp only [List.getElem?_toArray, List.getElem?_cons_zero, List.getElem?_cons_succ] at z0 z1
    go_wp2_with fail
    refine (bytesOf_any ⟨y, a⟩ w5 HV.out).mono ?_
    rintro e w6 ⟨A6, c6, rfl, _, _, hb6⟩
    rw [← Hln.out]
    have l06 := l05.below hb6 l05.lt
    have l46 := l45.below hb6 l45.lt
    have HB6 := hide (HB5.out.trans (hb6.mono HB5.out.size))
    clear hb6 l05 l45 z0 z1
    have z0 := l46.cell 0
    have z1 := l46.cell 1
    simp only [List.getElem?_toArray, List.getElem?_cons_zero, List.getElem?_cons_succ] at z0 z1
    by_cases hn : ln = 2
    · have HF := hide (lastO_yes (o := ⟨y, a⟩) (n := 2) HV.out (Hln.out.symm.trans hn))
      subst hn
      have f0 := l06.frozen 0
      have f1 := l06.frozen 1
      have x0 := l06.cell 0
      have x1 := l06.cell 1
      simp at x0 x1
      obtain ⟨s0, s1⟩ := lies2m l06 (.int .i64 y) (.int .i64 (a))
      have HE := hide ((HB6.out.setCell (p := ⟨w.heap.size, 0, none⟩) (Nat.le_refl _) (.int .i64 y)).setCell (p := ⟨w.heap.size, 1, none⟩) (Nat.le_refl _) (.int .i64 (a)))
      clear l06 l46
      go_wp2
      exact bodyPost_ret (v := .tuple #[.agg #[.int .i64 y, .int .i64 (a)], .int .i64 2]) (by simp [results, Tryd.results27, go_sem, s0, s1]) rfl ⟨by rw [HF.out]; try rfl, HE.out⟩
    · have HF := hide (lastO_no (o := ⟨y, a⟩) (n := 2) (fun h => hn (Hln.out.trans h.2)))
      have dn : ((ln : Int) != 2) = true := by simp; omega
      clear hn
      have f0 := l06.frozen 0
      have f1 := l06.frozen 1
      have x0 := l06.cell 0
      have x1 := l06.cell 1
      simp at x0 x1
      obtain ⟨s0, s1⟩ := lies2m l06 (.int .i64 0) (.int .i64 0)
      have HE := hide ((HB6.out.setCell (p := ⟨w.heap.size, 0, none⟩) (Nat.le_refl _) (.int .i64 0)).setCell (p := ⟨w.heap.size, 1, none⟩) (Nat.le_refl _) (.int .i64 0))
      go_wp2
      exact bodyPost_ret (v := .tuple #[.agg #[.int .i64 0, .int .i64 0], .int .i64 0]) (by simp [results, Tryd.results27, go_sem, s0, s1]) rfl ⟨by rw [HF.out]; try rfl, HE.out⟩
  · have ht := hide (tf_false hv)
    have HF := hide (lastO_no (o := ⟨y, a⟩) (n := 2) (fun h => hv h.1))
    clear hv
    refine (validOp_any ⟨y, a⟩ W4).mono ?_
    rintro e w5 ⟨rfl, hb5⟩
    rw [ht.out]
    have l05 := l04.below hb5 l04.lt
    have HB5 := hide (HB4.out.trans (hb5.mono HB4.out.size))
    clear hb5 l04 l4 z0 z1
    have f0 := l05.frozen 0
    have f1 := l05.frozen 1
    have x0 := l05.cell 0
    have x1 := l05.cell 1
    simp at x0 x1
    obtain ⟨s0, s1⟩ := lies2m l05 (.int .i64 0) (.int .i64 0)
    have HE := hide ((HB5.out.setCell (p := ⟨w.heap.size, 0, none⟩) (Nat.le_refl _) (.int .i64 0)).setCell (p := ⟨w.heap.size, 1, none⟩) (Nat.le_refl _) (.int .i64 0))
    go_wp2
    exact bodyPost_ret (v := .tuple #[.agg #[.int .i64 0, .int .i64 0], .int .i64 0]) (by simp [results, Tryd.results27, go_sem, s0, s1]) rfl ⟨by rw [HF.out]; try rfl, HE.out⟩
set_option maxRecDepth 100000 in
set_option maxHeartbeats 2000000 in
theorem readOp_cut (b0 off : Nat) (y a : Int) (c : Nat) (w : World) (h : IntsAt w w.heap.size (some ⟨b0, off, none⟩) ([y, a])) (hb : ∀ x ∈ ([y, a]), 0 ≤ x ∧ x ≤ 255) (hl : ([y, a]).length ≤ 1000) (hneg : ¬ argMost y < 0) (ha : ¬ a < 128) :
    Calls Tryd.prog 27 #[.slice (some ⟨b0, off, none⟩) ([y, a]).length c] w (GivesOpM w (fstO ([y, a]))) := by
  have hy := hb y (by simp)
  have hya := hb a (by simp)
  rw [fstO_cut hy.1 hneg ha]
  have da : decide (128 ≤ a) = true := by simp; omega
  obtain ⟨b1, off1, v0, e0, hbl0, hv0, _, hc0⟩ := h.at_ (k := 0) (by simp)
  injection e0 with e0
  injection e0 with ea0 eb0
  subst ea0 eb0
  obtain rfl : y = v0 := by simpa using hv0
  obtain ⟨b2, off2, v1, e1, hbl1, hv1, _, hc1⟩ := h.at_ (k := 1) (by simp)
  injection e1 with e1
  injection e1 with ea1 eb1
  subst ea1 eb1
  obtain rfl : a = v1 := by simpa using hv1
  rw [Nat.add_zero] at hc0
  have l0 := Lies.new w #[.int .i64 0, .int .i64 0] 40
  have HB := hide ((Below.refl w.heap.size w).alloc (Nat.le_refl _) (.cells #[.int .i64 0, .int .i64 0] 40))
  have d0 := (HB.out.cell (p := ⟨b0, off, none⟩) hbl0).trans hc0
  have d1 := (HB.out.cell (p := ⟨b0, off + 1, none⟩) hbl0).trans hc1
  have HN := hide hneg
  clear h hb hneg hv0 hc0 hv1 hc1
  rw [show ([y, a] : List Int).length = 2 from rfl]
  go_enter Tryd.func27, Tryd.ntmps27
  go_upto_region 1 with fail
  have hlW : w.heap.size < (w.alloc (.cells #[.int .i64 0, .int .i64 0] 40)).heap.size := l0.lt
  generalize w.alloc (.cells #[.int .i64 0, .int .i64 0] 40) = W at HB l0 hlW d0 d1 ⊢
  go_upto_region 5 with fail
  obtain ⟨hB4, l04, l4, hgg⟩ := box_made HB.out l0 y
  have hWW := (Below.refl W.heap.size W).alloc (Nat.le_refl _) (.cells #[.int .i64 y, .int .i64 0] 40)
  have m0 := (hWW.cell (p := ⟨b0, off, none⟩) (Nat.lt_trans hbl0 hlW)).trans d0
  have m1 := (hWW.cell (p := ⟨b0, off + 1, none⟩) (Nat.lt_trans hbl0 hlW)).trans d1
  clear hWW d0 d1
  generalize W.alloc (.cells #[.int .i64 y, .int .i64 0] 40) = W3 at hB4 l04 l4 m0 m1 ⊢
  generalize W.heap.size = g4 at l4 hgg hlW ⊢
  have HB3 := hide hB4
  have z0 := l4.cell 0
  have z1 := l4.cell 1
  have zf := l4.frozen 1
  simp at z0 z1
  clear hB4 l0
  go_wp2_with fail
  refine (argOf_any y W3).mono ?_
  rintro e w' ⟨rfl, rfl⟩
  have dneg : decide (0 ≤ argMost y) = true := by have := HN.out; simp; omega
  have hm := argMost_range y
  generalize argMost y = M at dneg hm ⊢
  go_upto_region 10 with fail
  obtain ⟨hB4, l04', l4'⟩ := box_set HB3.out l04 l4 hgg a
  have hm1 : (W3.setCell ⟨g4, 1, none⟩ (.int .i64 a)).cell? ⟨b0, off + 1, none⟩ = some (.int .i64 a) := by
    rw [World.cell?_setCell_other]
    · exact m1
    · intro e; injection e with e; omega
  clear m0 m1 l04 l4 z0 z1 zf
  generalize W3.setCell ⟨g4, 1, none⟩ (.int .i64 a) = W4 at hB4 l04' l4' hm1 ⊢
  have f0 := l04'.frozen 0
  have f1 := l04'.frozen 1
  have x0 := l04'.cell 0
  have x1 := l04'.cell 1
  simp at x0 x1
  obtain ⟨s0, s1⟩ := lies2m l04' (.int .i64 0) (.int .i64 0)
  have HE := hide ((hB4.setCell (p := ⟨w.heap.size, 0, none⟩) (Nat.le_refl _) (.int .i64 0)).setCell (p := ⟨w.heap.size, 1, none⟩) (Nat.le_refl _) (.int .i64 0))
  go_wp2
  exact bodyPost_ret (v := .tuple #[.agg #[.int .i64 0, .int .i64 0], .int .i64 0]) (by simp [results, Tryd.results27, go_sem, s0, s1]) rfl ⟨rfl, HE.out⟩
set_option maxRecDepth 100000 in
set_option maxHeartbeats 2000000 in
theorem readOp_long (b0 off : Nat) (y a b : Int) (t : List Int) (c : Nat) (w : World) (h : IntsAt w w.heap.size (some ⟨b0, off, none⟩) (y :: a :: b :: t)) (hb : ∀ x ∈ (y :: a :: b :: t), 0 ≤ x ∧ x ≤ 255) (hl : (y :: a :: b :: t).length ≤ 1000) (hneg : ¬ argMost y < 0) (ha : ¬ a < 128) :
    Calls Tryd.prog 27 #[.slice (some ⟨b0, off, none⟩) (y :: a :: b :: t).length c] w (GivesOpM w (fstO (y :: a :: b :: t))) := by
  have hy := hb y (by simp)
  have hya := hb a (by simp)
  have hyb := hb b (by simp)
  rw [fstO_long hy.1 hneg ha hya.2 hyb.1]
  have da : decide (128 ≤ a) = true := by simp; omega
  obtain ⟨b1, off1, v0, e0, hbl0, hv0, _, hc0⟩ := h.at_ (k := 0) (by simp)
  injection e0 with e0
  injection e0 with ea0 eb0
  subst ea0 eb0
  obtain rfl : y = v0 := by simpa using hv0
  obtain ⟨b2, off2, v1, e1, hbl1, hv1, _, hc1⟩ := h.at_ (k := 1) (by simp)
  injection e1 with e1
  injection e1 with ea1 eb1
  subst ea1 eb1
  obtain rfl : a = v1 := by simpa using hv1
  obtain ⟨b3, off3, v2, e2, hbl2, hv2, _, hc2⟩ := h.at_ (k := 2) (by simp)
  injection e2 with e2
  injection e2 with ea2 eb2
  subst ea2 eb2
  obtain rfl : b = v2 := by simpa using hv2
  rw [Nat.add_zero] at hc0
  have l0 := Lies.new w #[.int .i64 0, .int .i64 0] 40
  have HB := hide ((Below.refl w.heap.size w).alloc (Nat.le_refl _) (.cells #[.int .i64 0, .int .i64 0] 40))
  have d0 := (HB.out.cell (p := ⟨b0, off, none⟩) hbl0).trans hc0
  have d1 := (HB.out.cell (p := ⟨b0, off + 1, none⟩) hbl0).trans hc1
  have d2 := (HB.out.cell (p := ⟨b0, off + 2, none⟩) hbl0).trans hc2
  have HN := hide hneg
  clear h hb hneg hv0 hc0 hv1 hc1 hv2 hc2
  have hlt : t.length + 3 ≤ 1000 := by simpa using hl
  have hlen : ((y :: a :: b :: t) : List Int).length = t.length + 3 := by simp
  rw [hlen]
  clear hl hlen
  have hz1 : (((t.length + 3 : Nat) : Int) == 0) = false := by simp only [beq_eq_false_iff_ne, ne_eq]; omega
  have hz2 : (0 : Int) < ((t.length + 3 : Nat) : Int) := by omega
  have hz3 : (1 : Int) < ((t.length + 3 : Nat) : Int) := by omega
  have hz4 : ¬ ((t.length + 3 : Nat) : Int) < 2 := by omega
  have hz5 : (2 : Int) < ((t.length + 3 : Nat) : Int) := by omega
  have hz6 : ¬ ((t.length + 3 : Nat) : Int) < 3 := by omega
  go_enter Tryd.func27, Tryd.ntmps27
  go_upto_region 1 with fail
  have hlW : w.heap.size < (w.alloc (.cells #[.int .i64 0, .int .i64 0] 40)).heap.size := l0.lt
  generalize w.alloc (.cells #[.int .i64 0, .int .i64 0] 40) = W at HB l0 hlW d0 d1 d2 ⊢
  go_upto_region 5 with fail
  obtain ⟨hB4, l04, l4, hgg⟩ := box_made HB.out l0 y
  have hWW := (Below.refl W.heap.size W).alloc (Nat.le_refl _) (.cells #[.int .i64 y, .int .i64 0] 40)
  have m0 := (hWW.cell (p := ⟨b0, off, none⟩) (Nat.lt_trans hbl0 hlW)).trans d0
  have m1 := (hWW.cell (p := ⟨b0, off + 1, none⟩) (Nat.lt_trans hbl0 hlW)).trans d1
  have m2 := (hWW.cell (p := ⟨b0, off + 2, none⟩) (Nat.lt_trans hbl0 hlW)).trans d2
  clear hWW d0 d1 d2
  generalize W.alloc (.cells #[.int .i64 y, .int .i64 0] 40) = W3 at hB4 l04 l4 m0 m1 m2 ⊢
  generalize W.heap.size = g4 at l4 hgg hlW ⊢
  have HB3 := hide hB4
  have z0 := l4.cell 0
  have z1 := l4.cell 1
  have zf := l4.frozen 1
  simp at z0 z1
  clear hB4 l0
  go_wp2_with fail
  refine (argOf_any y W3).mono ?_
  rintro e w' ⟨rfl, rfl⟩
  have dneg : decide (0 ≤ argMost y) = true := by have := HN.out; simp; omega
  have hm := argMost_range y
  generalize argMost y = M at dneg hm ⊢
  go_upto_region 10 with fail
  obtain ⟨hB4, l04', l4'⟩ := box_set HB3.out l04 l4 hgg a
  have hm1 : (W3.setCell ⟨g4, 1, none⟩ (.int .i64 a)).cell? ⟨b0, off + 1, none⟩ = some (.int .i64 a) := by
    rw [World.cell?_setCell_other]
    · exact m1
    · intro e; injection e with e; omega
  have hm2 : (W3.setCell ⟨g4, 1, none⟩ (.int .i64 a)).cell? ⟨b0, off + 2, none⟩ = some (.int .i64 b) := by
    rw [World.cell?_setCell_other]
    · exact m2
    · intro e; injection e with e; omega
  clear m0 m1 m2 l04 l4 z0 z1 zf
  generalize W3.setCell ⟨g4, 1, none⟩ (.int .i64 a) = W5 at hB4 l04' l4' hm1 hm2 ⊢
  have z0 := l4'.cell 0
  have z1 := l4'.cell 1
  have z2 := l4'.frozen 1
  simp at z0 z1
  go_upto_region 13 with fail
  have hw1 : IntKind.i64.wrap (a - 128) = a - 128 := IntWalk.i64_in _ (by omega)
  have hw2 : IntKind.i64.wrap (128 * b) = 128 * b := IntWalk.i64_in _ (by omega)
  have hw3 : IntKind.i64.wrap (a - 128 + 128 * b) = a - 128 + 128 * b := IntWalk.i64_in _ (by omega)
  have hq1 : (1 : Int) < (t.length : Int) + 3 := by omega
  have hq2 : (2 : Int) < (t.length : Int) + 3 := by omega
  have HD6 := hide (show Below w.heap.size w W5.drew from hB4.drew)
  have l0d : Lies W5.drew w.heap.size #[.int .i64 0, .int .i64 0] 40 := l04'
  have l4d : Lies W5.drew g4 #[.int .i64 y, .int .i64 a] 40 := l4'
  clear hB4 l04' l4'
  go_still_tail 10, (by kernel_rfl)
  change wpList _ _ _ _ _ W5.drew
  clear hm1 hm2 z0 z1 z2 hw1 hw2 hw3 hq1 hq2
  generalize W5.drew = W6 at HD6 l0d l4d ⊢
  obtain ⟨hB6, l06', l46'⟩ := box_set HD6.out l0d l4d hgg (a - 128 + 128 * b)
  have hfd := l4d.frozen 1
  have hfc := l4d.cell 1
  simp only [List.getElem?_toArray, List.getElem?_cons_zero, List.getElem?_cons_succ] at hfc
  clear l0d l4d
  go_upto_region 14 with fail
  clear hfd hfc
  generalize W6.setCell ⟨g4, 1, none⟩ (.int .i64 (a - 128 + 128 * b)) = W4 at hB6 l06' l46' ⊢
  have HB4 := hide hB6
  have l04 := l06'
  have l4 := l46'
  clear l06' l46' hB6
  have z0 := l4.cell 0
  have z1 := l4.cell 1
  simp only [List.getElem?_toArray, List.getElem?_cons_zero, List.getElem?_cons_succ] at z0 z1
  go_wp2_with fail
  by_cases hv : OdOk ⟨y, a - 128 + 128 * b⟩
  · have ht := hide (tf_true hv)
    have HV := hide hv
    obtain ⟨ln, hln⟩ : ∃ ln, ln = (encO ⟨y, a - 128 + 128 * b⟩).length := ⟨_, rfl⟩
    have Hln := hide hln
    have hl3 := (encO_len ⟨y, a - 128 + 128 * b⟩).2
    rw [← hln] at hl3
    clear hv hln
    refine (validOp_any ⟨y, a - 128 + 128 * b⟩ W4).mono ?_
    rintro e w5 ⟨rfl, hb5⟩
    rw [ht.out]
    have l05 := l04.below hb5 l04.lt
    have l45 := l4.below hb5 l4.lt
    have HB5 := hide (HB4.out.trans (hb5.mono HB4.out.size))
    clear hb5 l04 l4 z0 z1
    have z0 := l45.cell 0
    have z1 := l45.cell 1
    simp only [List.getElem?_toArray, List.getElem?_cons_zero, List.getElem?_cons_succ] at z0 z1
    go_wp2_with fail
    refine (bytesOf_any ⟨y, a - 128 + 128 * b⟩ w5 HV.out).mono ?_
    rintro e w6 ⟨A6, c6, rfl, _, _, hb6⟩
    rw [← Hln.out]
    have l06 := l05.below hb6 l05.lt
    have l46 := l45.below hb6 l45.lt
    have HB6 := hide (HB5.out.trans (hb6.mono HB5.out.size))
    clear hb6 l05 l45 z0 z1
    have z0 := l46.cell 0
    have z1 := l46.cell 1
    simp only [List.getElem?_toArray, List.getElem?_cons_zero, List.getElem?_cons_succ] at z0 z1
    by_cases hn : ln = 3
    · have HF := hide (lastO_yes (o := ⟨y, a - 128 + 128 * b⟩) (n := 3) HV.out (Hln.out.symm.trans hn))
      subst hn
      have f0 := l06.frozen 0
      have f1 := l06.frozen 1
      have x0 := l06.cell 0
      have x1 := l06.cell 1
      simp at x0 x1
      obtain ⟨s0, s1⟩ := lies2m l06 (.int .i64 y) (.int .i64 (a - 128 + 128 * b))
      have HE := hide ((HB6.out.setCell (p := ⟨w.heap.size, 0, none⟩) (Nat.le_refl _) (.int .i64 y)).setCell (p := ⟨w.heap.size, 1, none⟩) (Nat.le_refl _) (.int .i64 (a - 128 + 128 * b)))
      clear l06 l46
      go_wp2
      exact bodyPost_ret (v := .tuple #[.agg #[.int .i64 y, .int .i64 (a - 128 + 128 * b)], .int .i64 3]) (by simp [results, Tryd.results27, go_sem, s0, s1]) rfl ⟨by rw [HF.out]; try rfl, HE.out⟩
    · have HF := hide (lastO_no (o := ⟨y, a - 128 + 128 * b⟩) (n := 3) (fun h => hn (Hln.out.trans h.2)))
      have dn : ((ln : Int) != 3) = true := by simp; omega
      clear hn
      have f0 := l06.frozen 0
      have f1 := l06.frozen 1
      have x0 := l06.cell 0
      have x1 := l06.cell 1
      simp at x0 x1
      obtain ⟨s0, s1⟩ := lies2m l06 (.int .i64 0) (.int .i64 0)
      have HE := hide ((HB6.out.setCell (p := ⟨w.heap.size, 0, none⟩) (Nat.le_refl _) (.int .i64 0)).setCell (p := ⟨w.heap.size, 1, none⟩) (Nat.le_refl _) (.int .i64 0))
      go_wp2
      exact bodyPost_ret (v := .tuple #[.agg #[.int .i64 0, .int .i64 0], .int .i64 0]) (by simp [results, Tryd.results27, go_sem, s0, s1]) rfl ⟨by rw [HF.out]; try rfl, HE.out⟩
  · have ht := hide (tf_false hv)
    have HF := hide (lastO_no (o := ⟨y, a - 128 + 128 * b⟩) (n := 3) (fun h => hv h.1))
    clear hv
    refine (validOp_any ⟨y, a - 128 + 128 * b⟩ W4).mono ?_
    rintro e w5 ⟨rfl, hb5⟩
    rw [ht.out]
    have l05 := l04.below hb5 l04.lt
    have HB5 := hide (HB4.out.trans (hb5.mono HB4.out.size))
    clear hb5 l04 l4 z0 z1
    have f0 := l05.frozen 0
    have f1 := l05.frozen 1
    have x0 := l05.cell 0
    have x1 := l05.cell 1
    simp at x0 x1
    obtain ⟨s0, s1⟩ := lies2m l05 (.int .i64 0) (.int .i64 0)
    have HE := hide ((HB5.out.setCell (p := ⟨w.heap.size, 0, none⟩) (Nat.le_refl _) (.int .i64 0)).setCell (p := ⟨w.heap.size, 1, none⟩) (Nat.le_refl _) (.int .i64 0))
    go_wp2
    exact bodyPost_ret (v := .tuple #[.agg #[.int .i64 0, .int .i64 0], .int .i64 0]) (by simp [results, Tryd.results27, go_sem, s0, s1]) rfl ⟨by rw [HF.out]; try rfl, HE.out⟩
end Go.Proofs.YtnpmacegdnnhdaaDoor
