/-
  What it means that memory holds a list of orders. Plain lemmas, no walk.
-/
import Derived.Test.YtfhmmdiicnfjbaaDoorMem
import Derived.ProofKit
namespace Go.Proofs.YtfhmmdiicnfjbaaDoor
open Go.RowKit
set_option linter.unusedVariables false

/-- an order as the program reads it: its code and its argument -/
structure Od where
  code : Int
  arg : Int
  deriving DecidableEq

/-- a slice at A has the orders os for its elements, in a block below B -/
structure OpsAt (w : World) (B : Nat) (A : Option Addr) (os : List Od) : Prop where
  row : os ≠ [] → ∃ b off, A = some ⟨b, off, none⟩ ∧ b < B ∧ ∀ j o, os[j]? = some o → w.cell? ⟨b, off + j * 2, none⟩ = some (.int .i64 o.code) ∧ w.cell? ⟨b, off + j * 2 + 1, none⟩ = some (.int .i64 o.arg)
  wf : ∀ o ∈ os, In64 o.code ∧ In64 o.arg
  len : os.length ≤ 9223372036854775807

theorem OpsAt.below {w w' : World} {B : Nat} {A : Option Addr} {os : List Od} (h : OpsAt w B A os) (hb : Below B w w') : OpsAt w' B A os :=
  ⟨fun hx => by
    obtain ⟨b, off, e, hlt, hc⟩ := h.row hx
    exact ⟨b, off, e, hlt, fun j x hj => ⟨(hb.cell hlt).trans (hc j x hj).1, (hb.cell hlt).trans (hc j x hj).2⟩⟩, h.wf, h.len⟩

theorem OpsAt.more {w : World} {B B' : Nat} {A : Option Addr} {os : List Od} (h : OpsAt w B A os) (hB : B ≤ B') : OpsAt w B' A os :=
  ⟨fun hx => by
    obtain ⟨b, off, e, hlt, hc⟩ := h.row hx
    exact ⟨b, off, e, Nat.lt_of_lt_of_le hlt hB, hc⟩, h.wf, h.len⟩

theorem OpsAt.later {w w' : World} {B : Nat} {A : Option Addr} {os : List Od} (h : OpsAt w B A os) (hb : Below B w w') (hB : B ≤ w.heap.size) : OpsAt w' w'.heap.size A os :=
  (h.below hb).more (Nat.le_trans hB hb.size)

theorem OpsAt.at_ {w : World} {B : Nat} {A : Option Addr} {os : List Od} (h : OpsAt w B A os) {k : Nat} (hk : k < os.length) :
    ∃ b off o, A = some ⟨b, off, none⟩ ∧ b < B ∧ os[k]? = some o ∧ o ∈ os ∧ w.cell? ⟨b, off + k * 2, none⟩ = some (.int .i64 o.code) ∧ w.cell? ⟨b, off + k * 2 + 1, none⟩ = some (.int .i64 o.arg) := by
  obtain ⟨b, off, e, hlt, hc⟩ := h.row (by intro e; subst e; simp at hk)
  have hat : os[k]? = some os[k] := List.getElem?_eq_getElem hk
  exact ⟨b, off, os[k], e, hlt, hat, List.getElem_mem hk, (hc k _ hat).1, (hc k _ hat).2⟩

/-- the cells of a slice of orders that the call made -/
def opCell (os : List Od) (i : Nat) : Value := if i % 2 = 0 then .int .i64 (os.getD (i / 2) ⟨0, 0⟩).code else .int .i64 (os.getD (i / 2) ⟨0, 0⟩).arg

theorem opCell_code {os : List Od} {k : Nat} {o : Od} (h : os[k]? = some o) : opCell os (k * 2) = .int .i64 o.code := by
  unfold opCell
  rw [if_pos (by omega), show k * 2 / 2 = k from by omega, List.getD_eq_getElem?_getD, h]; rfl

theorem opCell_arg {os : List Od} {k : Nat} {o : Od} (h : os[k]? = some o) : opCell os (k * 2 + 1) = .int .i64 o.arg := by
  unfold opCell
  rw [if_neg (by omega), show (k * 2 + 1) / 2 = k from by omega, List.getD_eq_getElem?_getD, h]; rfl

theorem OpsAt.of_row {w : World} {B g : Nat} {t : TypeId} {os : List Od} (h : w.rowIs g t (os.length * 2) (opCell os)) (hg : g < B) (hwf : ∀ o ∈ os, In64 o.code ∧ In64 o.arg) (hl : os.length ≤ 9223372036854775807) :
    OpsAt w B (some ⟨g, 0, none⟩) os :=
  ⟨fun _ => ⟨g, 0, rfl, hg, fun j o hj => by
    have hjl := (List.getElem?_eq_some_iff.1 hj).1
    rw [Nat.zero_add, ← opCell_code hj, ← opCell_arg hj]
    exact ⟨h.cell (by omega), h.cell (by omega)⟩⟩, hwf, hl⟩

/-- the world behind a store of two cells -/
def set2 (w : World) (g p : Nat) (u0 u1 : Value) : World := (w.setCell ⟨g, p, none⟩ u0).setCell ⟨g, p + 1, none⟩ u1

theorem below_set2 {w w' : World} {B g p : Nat} (h : Below B w w') (hg : B ≤ g) (u0 u1 : Value) : Below B w (set2 w' g p u0 u1) :=
  (h.setCell hg u0).setCell hg u1

/-- a row of orders of which k are stored -/
theorem opRow_next {w : World} {g k : Nat} {t : TypeId} {os : List Od} {o : Od} {f : Nat → Value} (h : w.rowIs g t (os.length * 2) f) (hf : ∀ j, j < 2 * k → f j = opCell os j) (ho : os[k]? = some o) :
    ∃ f', (set2 w g (k * 2) (.int .i64 o.code) (.int .i64 o.arg)).rowIs g t (os.length * 2) f' ∧ ∀ j, j < 2 * (k + 1) → f' j = opCell os j := by
  refine ⟨_, ((h.set (k * 2) (.int .i64 o.code)).set (k * 2 + 1) (.int .i64 o.arg)), fun j hj => ?_⟩
  by_cases e1 : j = k * 2 + 1
  · subst e1; simp [opCell_arg ho]
  · by_cases e2 : j = k * 2
    · subst e2; simp [opCell_code ho]
    · simp [e1, e2, hf j (by omega)]

end Go.Proofs.YtfhmmdiicnfjbaaDoor
