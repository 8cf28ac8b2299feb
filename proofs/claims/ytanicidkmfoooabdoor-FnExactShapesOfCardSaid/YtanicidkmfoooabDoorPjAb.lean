/-
  Lemmas, several texts in one: Od, OpOk, Shp.
-/
import Derived.Test.YtanicidkmfoooabDoorPjAa
import Derived.ProofKit
import Derived.Test.YtanicidkmfoooabDoorArg
namespace Go.Proofs.YtanicidkmfoooabDoor
open Go.RowKit
set_option linter.unusedVariables false

/-- an order as the program reads it: its code and its argument -/
structure Od where
  code : Int
  arg : Int
  deriving DecidableEq

/-- a slice at A has the orders os for its elements, in a block below B -/
structure OpsAt (w : World) (B : Nat) (A : Option Addr) (os : List Od) : Prop where
  row : os ≠ [] → ∃ b off, A = some ⟨b, off, none⟩ ∧ b < B ∧ ∀ j o, os[j]? = some o → w.cell? ⟨b, off + j * 2, none⟩ = some (.int .i64 o.code) ∧ w.cell? ⟨b, off + j * 2 + 1, none⟩ = some (.int .i64 o.arg)
  wf : ∀ o ∈ os, In64 o.code ∧ In64 o.arg
  len : os.length ≤ 9223372036854775807

theorem OpsAt.below {w w' : World} {B : Nat} {A : Option Addr} {os : List Od} (h : OpsAt w B A os) (hb : Below B w w') : OpsAt w' B A os :=
  ⟨fun hx => by
    obtain ⟨b, off, e, hlt, hc⟩ := h.row hx
    exact ⟨b, off, e, hlt, fun j x hj => ⟨(hb.cell hlt).trans (hc j x hj).1, (hb.cell hlt).trans (hc j x hj).2⟩⟩, h.wf, h.len⟩

theorem OpsAt.more {w : World} {B B' : Nat} {A : Option Addr} {os : List Od} (h : OpsAt w B A os) (hB : B ≤ B') : OpsAt w B' A os :=
  ⟨fun hx => by
    obtain ⟨b, off, e, hlt, hc⟩ := h.row hx
    exact ⟨b, off, e, Nat.lt_of_lt_of_le hlt hB, hc⟩, h.wf, h.len⟩

theorem OpsAt.later {w w' : World} {B : Nat} {A : Option Addr} {os : List Od} (h : OpsAt w B A os) (hb : Below B w w') (hB : B ≤ w.heap.size) : OpsAt w' w'.heap.size A os :=
  (h.below hb).more (Nat.le_trans hB hb.size)

theorem OpsAt.at_ {w : World} {B : Nat} {A : Option Addr} {os : List Od} (h : OpsAt w B A os) {k : Nat} (hk : k < os.length) :
    ∃ b off o, A = some ⟨b, off, none⟩ ∧ b < B ∧ os[k]? = some o ∧ o ∈ os ∧ w.cell? ⟨b, off + k * 2, none⟩ = some (.int .i64 o.code) ∧ w.cell? ⟨b, off + k * 2 + 1, none⟩ = some (.int .i64 o.arg) := by
  obtain ⟨b, off, e, hlt, hc⟩ := h.row (by intro e; subst e; simp at hk)
  have hat : os[k]? = some os[k] := List.getElem?_eq_getElem hk
  exact ⟨b, off, os[k], e, hlt, hat, List.getElem_mem hk, (hc k _ hat).1, (hc k _ hat).2⟩

/-- the cells of a slice of orders that the call made -/
def opCell (os : List Od) (i : Nat) : Value := if i % 2 = 0 then .int .i64 (os.getD (i / 2) ⟨0, 0⟩).code else .int .i64 (os.getD (i / 2) ⟨0, 0⟩).arg

theorem opCell_code {os : List Od} {k : Nat} {o : Od} (h : os[k]? = some o) : opCell os (k * 2) = .int .i64 o.code := by
  unfold opCell
  rw [if_pos (by omega), show k * 2 / 2 = k from by omega, List.getD_eq_getElem?_getD, h]; rfl

theorem opCell_arg {os : List Od} {k : Nat} {o : Od} (h : os[k]? = some o) : opCell os (k * 2 + 1) = .int .i64 o.arg := by
  unfold opCell
  rw [if_neg (by omega), show (k * 2 + 1) / 2 = k from by omega, List.getD_eq_getElem?_getD, h]; rfl

theorem OpsAt.of_row {w : World} {B g : Nat} {t : TypeId} {os : List Od} (h : w.rowIs g t (os.length * 2) (opCell os)) (hg : g < B) (hwf : ∀ o ∈ os, In64 o.code ∧ In64 o.arg) (hl : os.length ≤ 9223372036854775807) :
    OpsAt w B (some ⟨g, 0, none⟩) os :=
  ⟨fun _ => ⟨g, 0, rfl, hg, fun j o hj => by
    have hjl := (List.getElem?_eq_some_iff.1 hj).1
    rw [Nat.zero_add, ← opCell_code hj, ← opCell_arg hj]
    exact ⟨h.cell (by omega), h.cell (by omega)⟩⟩, hwf, hl⟩

/-- the world behind a store of two cells -/
def set2 (w : World) (g p : Nat) (u0 u1 : Value) : World := (w.setCell ⟨g, p, none⟩ u0).setCell ⟨g, p + 1, none⟩ u1

theorem below_set2 {w w' : World} {B g p : Nat} (h : Below B w w') (hg : B ≤ g) (u0 u1 : Value) : Below B w (set2 w' g p u0 u1) :=
  (h.setCell hg u0).setCell hg u1

/-- a row of orders of which k are stored -/
theorem opRow_next {w : World} {g k : Nat} {t : TypeId} {os : List Od} {o : Od} {f : Nat → Value} (h : w.rowIs g t (os.length * 2) f) (hf : ∀ j, j < 2 * k → f j = opCell os j) (ho : os[k]? = some o) :
    ∃ f', (set2 w g (k * 2) (.int .i64 o.code) (.int .i64 o.arg)).rowIs g t (os.length * 2) f' ∧ ∀ j, j < 2 * (k + 1) → f' j = opCell os j := by
  refine ⟨_, ((h.set (k * 2) (.int .i64 o.code)).set (k * 2 + 1) (.int .i64 o.arg)), fun j hj => ?_⟩
  by_cases e1 : j = k * 2 + 1
  · subst e1; simp [opCell_arg ho]
  · by_cases e2 : j = k * 2
    · subst e2; simp [opCell_code ho]
    · simp [e1, e2, hf j (by omega)]

end Go.Proofs.YtanicidkmfoooabDoor

namespace Go.Proofs.YtanicidkmfoooabDoor

/-- a valid order -/
def OdOk (o : Od) : Prop := (0 ≤ o.code ∧ o.code ≤ 19) ∧ ((argMost o.code < 0 ∧ o.arg = 0) ∨ (0 ≤ argMost o.code ∧ 0 ≤ o.arg ∧ o.arg ≤ argMost o.code))

/-- a valid program -/
def OpsOk (os : List Od) : Prop := os.length ≤ 300 ∧ ∀ o ∈ os, OdOk o

theorem OdOk.iff (o : Od) : OdOk o ↔ (0 ≤ o.code ∧ o.code ≤ 19) ∧ (0 ≤ o.arg ∧ o.arg ≤ argTop o.code) := by
  unfold OdOk argTop
  split <;> constructor <;> intro h <;> omega

end Go.Proofs.YtanicidkmfoooabDoor

namespace Go.Proofs.YtanicidkmfoooabDoor
set_option linter.unusedVariables false

/-- what is known of a machine -/
structure Shp where
  kinds : List Int
  full : List Bool
  stack : List Int
  memo : List Int
  done : Bool

namespace Shp
/-- an empty machine -/
def new : Shp := ⟨[], [], [], List.replicate 20 (-1), false⟩
/-- the zero value -/
def zero : Shp := ⟨[], [], [], [], false⟩
/-- a new thing of a kind on the stack -/
def push (s : Shp) (k : Int) : Shp := { s with kinds := s.kinds ++ [k], full := s.full ++ [false], stack := s.stack ++ [(s.kinds.length : Int)] }
/-- the first n things of the stack alone -/
def cutTo (s : Shp) (n : Nat) : Shp := { s with stack := s.stack.take n }
/-- the thing at a place from the top, -1 where there is none -/
def thing (s : Shp) (d : Nat) : Int := if d < s.stack.length then s.stack.getD (s.stack.length - 1 - d) 0 else -1
/-- its kind, -1 for a mark or nothing -/
def kindAt (s : Shp) (d : Nat) : Int := if s.thing d < 0 then -1 else s.kinds.getD (s.thing d).toNat 0
end Shp

theorem Shp.cutTo_all (s : Shp) : s.cutTo s.stack.length = s := by unfold Shp.cutTo; rw [List.take_length]

/-- how many of the first k things of a stack lie below the topmost of their marks, it included -/
def aboveTo (l : List Int) : Nat → Nat
  | 0 => 0
  | k + 1 => if l.getD k 0 < 0 then k + 1 else aboveTo l k
/-- where the things above the topmost mark begin, 0 where there is none -/
def above (l : List Int) : Nat := aboveTo l l.length

theorem aboveTo_le (l : List Int) (k : Nat) : aboveTo l k ≤ k := by
  induction k with
  | zero => exact Nat.le_refl _
  | succ k ih => unfold aboveTo; split <;> omega
theorem above_le (l : List Int) : above l ≤ l.length := aboveTo_le l _
theorem aboveTo_mark {l : List Int} {k a : Nat} (h : aboveTo l k = a + 1) : l.getD a 0 < 0 := by
  induction k with
  | zero => simp [aboveTo] at h
  | succ k ih =>
    unfold aboveTo at h
    split at h
    · next hm =>
      obtain rfl : k = a := by omega
      exact hm
    · exact ih h
theorem above_mark {l : List Int} {a : Nat} (h : above l = a + 1) : l.getD a 0 < 0 := aboveTo_mark h
theorem aboveTo_free {l : List Int} {k j : Nat} (h : aboveTo l k ≤ j) (hj : j < k) : 0 ≤ l.getD j 0 := by
  induction k with
  | zero => omega
  | succ k ih =>
    unfold aboveTo at h
    split at h
    · omega
    · next hm =>
      by_cases e : j = k
      · subst e; omega
      · exact ih h (by omega)
theorem above_free {l : List Int} {j : Nat} (h : above l ≤ j) (hj : j < l.length) : 0 ≤ l.getD j 0 := aboveTo_free h hj

/-- a kind that keys have -/
def KeyK (k : Int) : Prop := k = 0 ∨ k = 1
/-- all things at even places are keys -/
def KeysP (kinds list : List Int) : Prop := ∀ (i : Nat) (x : Int), i % 2 = 0 → list[i]? = some x → KeyK (kinds.getD x.toNat 0)

open Classical in
/-- after an order that takes all above the topmost mark -/
noncomputable def markStep (s : Shp) (c : Int) : Option Shp :=
  if above s.stack = 0 then none
  else if c = 3 then some ((s.cutTo (above s.stack - 1)).push 2)
  else if c = 9 then (if (s.cutTo (above s.stack - 1)).kindAt 0 = 3 then some (s.cutTo (above s.stack - 1)) else none)
  else if c = 12 then (if KeysP s.kinds (s.stack.drop (above s.stack)) ∧ (s.cutTo (above s.stack - 1)).kindAt 0 = 4 ∧ (s.stack.length - above s.stack) % 2 = 0 then some (s.cutTo (above s.stack - 1)) else none)
  else some (s.cutTo (above s.stack - 1))

open Classical in
/-- after an order that takes a number of things -/
noncomputable def takeStep (s : Shp) (o : Od) : Option Shp :=
  if s.kindAt 0 < 0 then none
  else if o.code = 5 then some ((s.cutTo (s.stack.length - 1)).push 2)
  else if o.code = 6 then (if s.kindAt 1 < 0 then none else some ((s.cutTo (s.stack.length - 2)).push 2))
  else if o.code = 8 then (if s.kindAt 1 = 3 then some (s.cutTo (s.stack.length - 1)) else none)
  else if o.code = 11 then (if KeyK (s.kindAt 1) ∧ s.kindAt 2 = 4 then some (s.cutTo (s.stack.length - 2)) else none)
  else if o.code = 14 then (if s.kindAt 1 = 5 ∧ s.full.getD (s.thing 1).toNat false = false then some { s.cutTo (s.stack.length - 1) with full := s.full.set (s.thing 1).toNat true } else none)
  else if o.code = 15 then some { s with memo := s.memo.set o.arg.toNat (s.thing 0) }
  else if o.code = 19 then (if s.stack.length = 1 then some { s with done := true } else none)
  else some (s.cutTo (s.stack.length - 1))

/-- the kind of what an order pushes without taking any, -1 where it does not -/
def newK (c : Int) : Int := if c = 0 then 0 else if c = 1 then 1 else if c = 4 then 2 else if c = 7 then 3 else if c = 10 then 4 else if c = 13 then 5 else -1

/-- orders that take all above a mark -/
def IsMarkOp (c : Int) : Prop := c = 3 ∨ c = 9 ∨ c = 12 ∨ c = 18

open Classical in
/-- after an order, with no heed to limits -/
noncomputable def stepFree (s : Shp) (o : Od) : Option Shp :=
  if s.done = true then none
  else if 0 ≤ newK o.code then some (s.push (newK o.code))
  else if o.code = 2 then some { s with stack := s.stack ++ [-1] }
  else if o.code = 16 then (if s.memo.getD o.arg.toNat 0 < 0 then none else some { s with stack := s.stack ++ [s.memo.getD o.arg.toNat 0] })
  else if IsMarkOp o.code then markStep s o.code
  else takeStep s o

def Shp.Fits (s : Shp) : Prop := s.kinds.length ≤ 300 ∧ s.stack.length ≤ 300

open Classical in
/-- after an order -/
noncomputable def stepShp (s : Shp) (o : Od) : Option Shp := (stepFree s o).filter fun t => decide t.Fits

/-- after as many orders as are possible, and how many these are -/
noncomputable def runShp (s : Shp) : List Od → Shp × Nat
  | [] => (s, 0)
  | o :: os => match stepShp s o with
    | none => (s, 0)
    | some t => ((runShp t os).1, (runShp t os).2 + 1)

/-- what machines are -/
structure Shp.Ok (s : Shp) : Prop where
  fl : s.full.length = s.kinds.length
  ml : s.memo.length = 20
  st : ∀ x ∈ s.stack, -1 ≤ x ∧ x < (s.kinds.length : Int)
  mm : ∀ x ∈ s.memo, -1 ≤ x ∧ x < (s.kinds.length : Int)
  kk : ∀ x ∈ s.kinds, 0 ≤ x ∧ x ≤ 5

theorem Shp.new_ok : Shp.new.Ok := by
  refine ⟨rfl, by simp [Shp.new], ?_, ?_, ?_⟩ <;> intro x hx <;> simp [Shp.new] at hx
  subst hx
  simp [Shp.new]

theorem Shp.Ok.push {s : Shp} (h : s.Ok) {k : Int} (hk : 0 ≤ k ∧ k ≤ 5) : (s.push k).Ok := by
  refine ⟨by simp [Shp.push, h.fl], h.ml, ?_, ?_, ?_⟩
  · intro x hx
    simp [Shp.push] at hx ⊢
    rcases hx with hx | rfl
    · have := h.st x hx; omega
    · omega
  · intro x hx
    have := h.mm x hx
    simp [Shp.push]
    omega
  · intro x hx
    simp [Shp.push] at hx
    rcases hx with hx | rfl
    · exact h.kk x hx
    · exact hk

theorem Shp.Ok.cut {s : Shp} (h : s.Ok) (n : Nat) : (s.cutTo n).Ok :=
  ⟨h.fl, h.ml, fun x hx => h.st x (List.mem_of_mem_take hx), h.mm, h.kk⟩

theorem Shp.Ok.snoc {s : Shp} (h : s.Ok) {x : Int} (hx : -1 ≤ x ∧ x < (s.kinds.length : Int)) : Shp.Ok { s with stack := s.stack ++ [x] } :=
  ⟨h.fl, h.ml, fun y hy => by
    simp at hy
    rcases hy with hy | rfl
    · exact h.st y hy
    · exact hx, h.mm, h.kk⟩

theorem getD_mem {α : Type} {l : List α} {k : Nat} {d : α} (h : k < l.length) : l.getD k d ∈ l := by
  rw [List.getD_eq_getElem?_getD, List.getElem?_eq_getElem h]
  exact List.getElem_mem h

theorem Shp.Ok.thing {s : Shp} (h : s.Ok) (d : Nat) : -1 ≤ s.thing d ∧ (s.thing d < (s.kinds.length : Int)) := by
  unfold Shp.thing
  split
  · exact h.st _ (getD_mem (by omega))
  · omega

theorem Shp.Ok.kindAt {s : Shp} (h : s.Ok) (d : Nat) : -1 ≤ s.kindAt d ∧ s.kindAt d ≤ 5 ∧ (s.kindAt d < 0 ↔ s.thing d < 0) := by
  unfold Shp.kindAt
  have ht := h.thing d
  split
  · next hl => exact ⟨by omega, by omega, by simp [hl]⟩
  · next hl =>
    have := h.kk _ (getD_mem (d := 0) (show (s.thing d).toNat < s.kinds.length by omega))
    exact ⟨by omega, by omega, by omega⟩

theorem Shp.kind_lt {s : Shp} {d : Nat} (h : ¬ s.kindAt d < 0) : d < s.stack.length := by
  unfold Shp.kindAt Shp.thing at h
  by_cases hd : d < s.stack.length
  · exact hd
  · rw [if_neg hd] at h
    simp at h

theorem newK_le (c : Int) : newK c ≤ 5 := by unfold newK; repeat' split
                                             all_goals omega

/-- what an order makes of a machine is one, and it has at most one thing and one node more -/
theorem stepFree_ok {s t : Shp} {o : Od} (h : s.Ok) (he : stepFree s o = some t) (ha : o.code = 16 → o.arg.toNat < 20) : t.Ok ∧ t.kinds.length ≤ s.kinds.length + 1 ∧ t.stack.length ≤ s.stack.length + 1 ∧ s.kinds.length ≤ t.kinds.length := by
  have hcl : ∀ n, (s.stack.take n).length ≤ s.stack.length := fun n => by simp; omega
  unfold stepFree at he
  split at he
  · cases he
  split at he
  · next h0 =>
    cases he
    exact ⟨h.push ⟨h0, newK_le _⟩, by simp [Shp.push], by simp [Shp.push], by simp [Shp.push]⟩
  split at he
  · cases he
    exact ⟨h.snoc ⟨by omega, by omega⟩, by simp, by simp, by simp⟩
  split at he
  · next h16 =>
    split at he
    · cases he
    · next hm =>
      cases he
      have := h.mm _ (getD_mem (d := 0) (show o.arg.toNat < s.memo.length by rw [h.ml]; exact ha h16))
      exact ⟨h.snoc ⟨by omega, by omega⟩, by simp, by simp, by simp⟩
  split at he
  · unfold markStep at he
    split at he
    · cases he
    have hc := h.cut (above s.stack - 1)
    have hl := hcl (above s.stack - 1)
    repeat' split at he
    all_goals first
      | (cases he; done)
      | (cases he; exact ⟨hc.push (by omega), by simp [Shp.push, Shp.cutTo], by simp [Shp.push, Shp.cutTo] <;> omega, by simp [Shp.push, Shp.cutTo]⟩)
      | (cases he; exact ⟨hc, by simp [Shp.cutTo], by simp [Shp.cutTo] <;> omega, by simp [Shp.cutTo]⟩)
  · unfold takeStep at he
    split at he
    · cases he
    next hk0 =>
    have hk := Shp.kind_lt hk0
    have hc := fun n => h.cut n
    repeat' split at he
    all_goals first
      | (cases he; done)
      | (cases he; exact ⟨(hc _).push (by omega), by simp [Shp.push, Shp.cutTo], by simp [Shp.push, Shp.cutTo] <;> omega, by simp [Shp.push, Shp.cutTo]⟩)
      | (cases he; exact ⟨hc _, by simp [Shp.cutTo], by simp [Shp.cutTo] <;> omega, by simp [Shp.cutTo]⟩)
      | (cases he; exact ⟨⟨by simp [Shp.cutTo, h.fl], h.ml, (hc _).st, h.mm, h.kk⟩, by simp [Shp.cutTo], by simp [Shp.cutTo] <;> omega, by simp [Shp.cutTo]⟩)
      | (cases he; exact ⟨⟨h.fl, h.ml, h.st, h.mm, h.kk⟩, by simp, by simp, by simp⟩)
      | (cases he
         refine ⟨⟨h.fl, by simp [h.ml], h.st, fun x hx => ?_, h.kk⟩, by simp, by simp, by simp⟩
         rcases List.mem_or_eq_of_mem_set hx with hx | rfl
         · exact h.mm x hx
         · have := h.thing 0; omega)

theorem stepShp_some {s t : Shp} {o : Od} (h : stepShp s o = some t) : stepFree s o = some t ∧ t.Fits := by
  unfold stepShp at h
  rw [Option.filter_eq_some_iff] at h
  exact ⟨h.1, by simpa using h.2⟩
theorem stepShp_of {s t : Shp} {o : Od} (h : stepFree s o = some t) (hf : t.Fits) : stepShp s o = some t := by
  unfold stepShp
  rw [Option.filter_eq_some_iff]
  exact ⟨h, by simpa using hf⟩
theorem stepShp_none {s : Shp} {o : Od} (h : stepFree s o = none) : stepShp s o = none := by
  unfold stepShp
  rw [h]
  rfl
theorem stepShp_wide {s t : Shp} {o : Od} (h : stepFree s o = some t) (hf : ¬ t.Fits) : stepShp s o = none := by
  unfold stepShp
  rw [h]
  simp [hf]
theorem stepShp_ok {s t : Shp} {o : Od} (h : s.Ok) (he : stepShp s o = some t) (ha : o.code = 16 → o.arg.toNat < 20) : t.Ok ∧ t.Fits := ⟨(stepFree_ok h (stepShp_some he).1 ha).1, (stepShp_some he).2⟩

theorem runShp_end (s : Shp) : runShp s [] = (s, 0) := rfl
theorem runShp_stop {s : Shp} {o : Od} {os : List Od} (h : stepShp s o = none) : runShp s (o :: os) = (s, 0) := by
  rw [runShp, h]
theorem runShp_go {s t : Shp} {o : Od} {os : List Od} (h : stepShp s o = some t) : runShp s (o :: os) = ((runShp t os).1, (runShp t os).2 + 1) := by
  rw [runShp, h]

theorem OdOk.get {o : Od} (h : OdOk o) : o.code = 16 → o.arg.toNat < 20 := by
  intro e
  have := h.2
  rw [e] at this
  simp [argMost] at this
  omega

theorem runShp_ok {s : Shp} {os : List Od} (h : s.Ok) (hf : s.Fits) (ho : ∀ o ∈ os, o.code = 16 → o.arg.toNat < 20) : (runShp s os).1.Ok ∧ (runShp s os).1.Fits ∧ (runShp s os).2 ≤ os.length := by
  induction os generalizing s with
  | nil => exact ⟨h, hf, Nat.le_refl _⟩
  | cons o os ih =>
    cases he : stepShp s o with
    | none => rw [runShp_stop he]; exact ⟨h, hf, Nat.zero_le _⟩
    | some t =>
      rw [runShp_go he]
      obtain ⟨h1, h2⟩ := stepShp_ok h he (ho o (by simp))
      obtain ⟨h3, h4, h5⟩ := ih h1 h2 (fun o ho2 => ho o (by simp [ho2]))
      exact ⟨h3, h4, by simp; omega⟩

end Go.Proofs.YtanicidkmfoooabDoor
