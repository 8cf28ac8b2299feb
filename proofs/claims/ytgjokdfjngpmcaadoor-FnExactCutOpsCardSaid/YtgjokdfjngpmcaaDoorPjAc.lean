/-
  Lemmas, several texts in one: Forms, Only, UpTo.
-/
import Derived.Test.YtgjokdfjngpmcaaDoorArg
import Derived.Test.YtgjokdfjngpmcaaDoorMem
import Derived.LaidMore
import Derived.Test.YtgjokdfjngpmcaaDoorPjAb
namespace Go.Proofs.YtgjokdfjngpmcaaDoor
open Go.RowKit Go.ChangeShapes

/-- how many things an order of a code takes, -1 for all above a mark -/
def takesOf (c : Nat) : Int := [0, 0, 0, -1, 0, 1, 2, 0, 1, -1, 0, 2, -1, 0, 1, 0, 0, 1, -1, 0].getD c 0

/-- how many things an order of a code pushes -/
def pushesOf (c : Nat) : Int := [1, 1, 1, 1, 1, 1, 1, 1, 0, 0, 1, 0, 0, 1, 0, 0, 1, 0, 0, 0].getD c 0

/-- the cells of the table -/
structure FormsAt (w : World) (B : Nat) : Prop where
  lt : 0 < B
  takes : ∀ c : Nat, c < 20 → w.cell? ⟨0, c * 3, none⟩ = some (.int .i64 (takesOf c))
  pushes : ∀ c : Nat, c < 20 → w.cell? ⟨0, c * 3 + 1, none⟩ = some (.int .i64 (pushesOf c))
  arg : ∀ c : Nat, c < 20 → w.cell? ⟨0, c * 3 + 2, none⟩ = some (.int .i64 (argTop c))

theorem FormsAt.below {w w' : World} {B : Nat} (h : FormsAt w B) (hb : Below B w w') : FormsAt w' B :=
  ⟨h.lt, fun c hc => (hb.cell (p := ⟨0, c * 3, none⟩) h.lt).trans (h.takes c hc), fun c hc => (hb.cell (p := ⟨0, c * 3 + 1, none⟩) h.lt).trans (h.pushes c hc), fun c hc => (hb.cell (p := ⟨0, c * 3 + 2, none⟩) h.lt).trans (h.arg c hc)⟩

theorem FormsAt.more {w : World} {B B' : Nat} (h : FormsAt w B) (hB : B ≤ B') : FormsAt w B' := ⟨Nat.lt_of_lt_of_le h.lt hB, h.takes, h.pushes, h.arg⟩

theorem FormsAt.later {w w' : World} {B : Nat} (h : FormsAt w B) (hb : Below B w w') (hB : B ≤ w.heap.size) : FormsAt w' w'.heap.size :=
  (h.below hb).more (Nat.le_trans hB hb.size)

end Go.Proofs.YtgjokdfjngpmcaaDoor

namespace Go.Proofs.YtgjokdfjngpmcaaDoor
open Go.RowKit
set_option linter.unusedVariables false

/-- n numbers from k on -/
def marks (k : Int) (n : Nat) : List Int := (List.range n).map fun (i : Nat) => k + (i : Int)

theorem marks_len (k : Int) (n : Nat) : (marks k n).length = n := by simp [marks]
theorem marks_at {k : Int} {n j : Nat} (h : j < n) : (marks k n)[j]? = some (k + (j : Int)) := by
  simp [marks, h]

/-- but for blocks from lo on and below hi nothing has turned -/
structure Only (lo hi : Nat) (w w' : World) : Prop where
  os : w'.os = w.os
  tape : w'.tape = w.tape
  output : w'.output = w.output
  size : w'.heap.size = w.heap.size
  block : ∀ k, k < lo ∨ hi ≤ k → w'.heap[k]? = w.heap[k]?

theorem Only.refl (lo hi : Nat) (w : World) : Only lo hi w w := ⟨rfl, rfl, rfl, rfl, fun _ _ => rfl⟩
theorem Only.trans {lo hi : Nat} {a b c : World} (h : Only lo hi a b) (k : Only lo hi b c) : Only lo hi a c :=
  ⟨k.os.trans h.os, k.tape.trans h.tape, k.output.trans h.output, k.size.trans h.size, fun j hj => (k.block j hj).trans (h.block j hj)⟩
theorem Only.setCell {lo hi : Nat} {a w : World} (h : Only lo hi a w) {p : Addr} (h1 : lo ≤ p.block) (h2 : p.block < hi) (u : Value) : Only lo hi a (w.setCell p u) :=
  h.trans ⟨rfl, rfl, rfl, by simp, fun k hk => Below.heap_setCell _ _ _ _ (by omega)⟩
theorem Only.below {lo hi : Nat} {w w' : World} (h : Only lo hi w w') : Below lo w w' := ⟨h.os, h.tape, h.output, by rw [h.size]; exact Nat.le_refl _, fun k hk => h.block k (.inl hk)⟩
theorem Only.mono {lo hi lo' hi' : Nat} {w w' : World} (h : Only lo hi w w') (h1 : lo' ≤ lo) (h2 : hi ≤ hi') : Only lo' hi' w w' :=
  ⟨h.os, h.tape, h.output, h.size, fun k hk => h.block k (by omega)⟩

/-- an int slice in a row of the call's own keeps its numbers where the row is left alone -/
theorem OwnI.only {w w' : World} {base lo hi : Nat} {A : Option Addr} {c : Nat} {xs : List Int} (h : OwnI w base A c xs) (ho : Only lo hi w w') (hA : ∀ g, blockOf A = some g → g < lo ∨ hi ≤ g) : OwnI w' base A c xs := by
  refine ⟨h.own.1, ?_⟩
  rcases h.own.2 with h2 | ⟨g, cap, cur, hv, hg, hh, r⟩
  · exact .inl h2
  · refine .inr ⟨g, cap, cur, hv, hg, ?_, r⟩
    rw [ho.block g]
    · exact hh
    · apply hA g
      injection hv with hv
      rw [hv]
      rfl

/-- but for blocks from lo on and below hi, old memory is as it was -/
structure Save (lo hi : Nat) (w w' : World) : Prop where
  os : w'.os = w.os
  tape : w'.tape = w.tape
  output : w'.output = w.output
  size : w.heap.size ≤ w'.heap.size
  block : ∀ k, k < w.heap.size → k < lo ∨ hi ≤ k → w'.heap[k]? = w.heap[k]?

theorem Save.of_below {lo hi : Nat} {w w' : World} (h : Below w.heap.size w w') : Save lo hi w w' := ⟨h.os, h.tape, h.output, h.size, fun k hk _ => h.block k hk⟩
theorem Save.of_only {lo hi : Nat} {w w' : World} (h : Only lo hi w w') : Save lo hi w w' := ⟨h.os, h.tape, h.output, by rw [h.size]; exact Nat.le_refl _, fun k _ hk => h.block k hk⟩
theorem Save.trans {lo hi : Nat} {a b c : World} (h : Save lo hi a b) (k : Save lo hi b c) : Save lo hi a c :=
  ⟨k.os.trans h.os, k.tape.trans h.tape, k.output.trans h.output, Nat.le_trans h.size k.size, fun j hj hl => (k.block j (Nat.lt_of_lt_of_le hj h.size) hl).trans (h.block j hj hl)⟩
theorem Save.below {lo hi : Nat} {w w' : World} (h : Save lo hi w w') (hl : lo ≤ w.heap.size) : Below lo w w' := ⟨h.os, h.tape, h.output, h.size, fun k hk => h.block k (by omega) (.inl hk)⟩

theorem OwnI.save {w w' : World} {base lo hi : Nat} {A : Option Addr} {c : Nat} {xs : List Int} (h : OwnI w base A c xs) (ho : Save lo hi w w') (hA : ∀ g, blockOf A = some g → g < lo ∨ hi ≤ g) : OwnI w' base A c xs := by
  refine ⟨h.own.1, ?_⟩
  have hbl := h.blocks
  rcases h.own.2 with h2 | ⟨g, cap, cur, hv, hg, hh, r⟩
  · exact .inl h2
  · have hAg : blockOf A = some g := by
      injection hv with hv
      rw [hv]
      rfl
    refine .inr ⟨g, cap, cur, hv, hg, ?_, r⟩
    rw [ho.block g (hbl g hAg).2 (hA g hAg)]
    exact hh

end Go.Proofs.YtgjokdfjngpmcaaDoor

namespace Go.Proofs.YtgjokdfjngpmcaaDoor
open Go.RowKit

theorem isUpTo_yes (n hi : Int) (w : World) (h1 : 0 ≤ n) (h2 : n ≤ hi) :
    Calls Tryd.prog 35 #[.int .i64 n, .int .i64 hi] w fun e w' => e = .returned (.bool true) ∧ w = w' := by
  have d1 : decide (0 ≤ n) = true := by simpa using h1
  have d2 : decide (n ≤ hi) = true := by simpa using h2
  go_enter Tryd.func35, Tryd.ntmps35
  go_wp2
  go_ret
  exact ⟨rfl, rfl⟩

theorem isUpTo_no (n hi : Int) (w : World) (h : n < 0 ∨ hi < n) :
    Calls Tryd.prog 35 #[.int .i64 n, .int .i64 hi] w fun e w' => e = .returned (.bool false) ∧ w = w' := by
  by_cases h1 : 0 ≤ n
  · have h2 : ¬ n ≤ hi := by omega
    have d1 : decide (0 ≤ n) = true := by simpa using h1
    have d2 : decide (n ≤ hi) = false := by simpa using h2
    clear h
    go_enter Tryd.func35, Tryd.ntmps35
    go_wp2
    go_ret
    exact ⟨rfl, rfl⟩
  · have d1 : decide (0 ≤ n) = false := by simpa using h1
    clear h
    go_enter Tryd.func35, Tryd.ntmps35
    go_wp2
    go_ret
    exact ⟨rfl, rfl⟩

/-- whether a number is in 0..hi -/
def upB (n hi : Int) : Bool := decide (0 ≤ n ∧ n ≤ hi)
theorem upB_yes {n hi : Int} (h : 0 ≤ n ∧ n ≤ hi) : upB n hi = true := by unfold upB; simpa using h
theorem upB_no {n hi : Int} (h : ¬ (0 ≤ n ∧ n ≤ hi)) : upB n hi = false := by unfold upB; simpa using h

/-- the same for a region that only reads -/
theorem isUpTo_q (n hi : Int) (w : World) :
    Calls Tryd.prog 35 #[.int .i64 n, .int .i64 hi] w fun e w' => e = .returned (.bool (upB n hi)) ∧ w' = w := by
  by_cases h : 0 ≤ n ∧ n ≤ hi
  · rw [upB_yes h]
    exact (isUpTo_yes n hi w h.1 h.2).mono fun e w' ⟨a, b⟩ => ⟨a, b.symm⟩
  · rw [upB_no h]
    exact (isUpTo_no n hi w (by omega)).mono fun e w' ⟨a, b⟩ => ⟨a, b.symm⟩

end Go.Proofs.YtgjokdfjngpmcaaDoor
