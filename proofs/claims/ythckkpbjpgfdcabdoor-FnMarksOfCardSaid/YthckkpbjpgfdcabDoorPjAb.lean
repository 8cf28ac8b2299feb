/-
  Lemmas, several texts in one: Arg, Od, OpOk, Shp, ChkM.
-/
import Derived.Test.YthckkpbjpgfdcabDoorChecked
import Derived.Test.YthckkpbjpgfdcabDoorPjAa
import Derived.ProofKit
namespace Go.Proofs.YthckkpbjpgfdcabDoor
def argMost (c : Int) : Int := if c = 0 then 999 else if c = 1 then 9 else if c = 13 then 9 else if c = 15 then 19 else if c = 16 then 19 else -1
theorem argMost_range (c : Int) : -1 ≤ argMost c ∧ argMost c ≤ 999 := by
  unfold argMost
  repeat' split
  all_goals omega
def argTop (c : Int) : Int := if argMost c < 0 then 0 else argMost c
end Go.Proofs.YthckkpbjpgfdcabDoor

namespace Go.Proofs.YthckkpbjpgfdcabDoor
open Go.RowKit
set_option linter.unusedVariables false
structure Od where
  code : Int
  arg : Int
  deriving DecidableEq
structure OpsAt (w : World) (B : Nat) (A : Option Addr) (os : List Od) : Prop where
  row : os ≠ [] → ∃ b off, A = some ⟨b, off, none⟩ ∧ b < B ∧ ∀ j o, os[j]? = some o → w.cell? ⟨b, off + j * 2, none⟩ = some (.int .i64 o.code) ∧ w.cell? ⟨b, off + j * 2 + 1, none⟩ = some (.int .i64 o.arg)
  wf : ∀ o ∈ os, In64 o.code ∧ In64 o.arg
  len : os.length ≤ 9223372036854775807
theorem OpsAt.below {w w' : World} {B : Nat} {A : Option Addr} {os : List Od} (h : OpsAt w B A os) (hb : Below B w w') : OpsAt w' B A os :=
  ⟨fun hx => by
    obtain ⟨b, off, e, hlt, hc⟩ := h.row hx
    exact ⟨b, off, e, hlt, fun j x hj => ⟨(hb.cell hlt).trans (hc j x hj).1, (hb.cell hlt).trans (hc j x hj).2⟩⟩, h.wf, h.len⟩
theorem OpsAt.more {w : World} {B B' : Nat} {A : Option Addr} {os : List Od} (h : OpsAt w B A os) (hB : B ≤ B') : OpsAt w B' A os :=
  ⟨fun hx => by
    obtain ⟨b, off, e, hlt, hc⟩ := h.row hx
    exact ⟨b, off, e, Nat.lt_of_lt_of_le hlt hB, hc⟩, h.wf, h.len⟩
theorem OpsAt.later {w w' : World} {B : Nat} {A : Option Addr} {os : List Od} (h : OpsAt w B A os) (hb : Below B w w') (hB : B ≤ w.heap.size) : OpsAt w' w'.heap.size A os :=
  (h.below hb).more (Nat.le_trans hB hb.size)
theorem OpsAt.at_ {w : World} {B : Nat} {A : Option Addr} {os : List Od} (h : OpsAt w B A os) {k : Nat} (hk : k < os.length) :
    ∃ b off o, A = some ⟨b, off, none⟩ ∧ b < B ∧ os[k]? = some o ∧ o ∈ os ∧ w.cell? ⟨b, off + k * 2, none⟩ = some (.int .i64 o.code) ∧ w.cell? ⟨b, off + k * 2 + 1, none⟩ = some (.int .i64 o.arg) := by
  obtain ⟨b, off, e, hlt, hc⟩ := h.row (by intro e; subst e; simp at hk)
  have hat : os[k]? = some os[k] := List.getElem?_eq_getElem hk
  exact ⟨b, off, os[k], e, hlt, hat, List.getElem_mem hk, (hc k _ hat).1, (hc k _ hat).2⟩
def opCell (os : List Od) (i : Nat) : Value := if i % 2 = 0 then .int .i64 (os.getD (i / 2) ⟨0, 0⟩).code else .int .i64 (os.getD (i / 2) ⟨0, 0⟩).arg
theorem opCell_code {os : List Od} {k : Nat} {o : Od} (h : os[k]? = some o) : opCell os (k * 2) = .int .i64 o.code := by
  unfold opCell
  rw [if_pos (by omega), show k * 2 / 2 = k from by omega, List.getD_eq_getElem?_getD, h]; rfl
theorem opCell_arg {os : List Od} {k : Nat} {o : Od} (h : os[k]? = some o) : opCell os (k * 2 + 1) = .int .i64 o.arg := by
  unfold opCell
  rw [if_neg (by omega), show (k * 2 + 1) / 2 = k from by omega, List.getD_eq_getElem?_getD, h]; rfl
theorem OpsAt.of_row {w : World} {B g : Nat} {t : TypeId} {os : List Od} (h : w.rowIs g t (os.length * 2) (opCell os)) (hg : g < B) (hwf : ∀ o ∈ os, In64 o.code ∧ In64 o.arg) (hl : os.length ≤ 9223372036854775807) :
    OpsAt w B (some ⟨g, 0, none⟩) os :=
  ⟨fun _ => ⟨g, 0, rfl, hg, fun j o hj => by
    have hjl := (List.getElem?_eq_some_iff.1 hj).1
    rw [Nat.zero_add, ← opCell_code hj, ← opCell_arg hj]
    exact ⟨h.cell (by omega), h.cell (by omega)⟩⟩, hwf, hl⟩
def set2 (w : World) (g p : Nat) (u0 u1 : Value) : World := (w.setCell ⟨g, p, none⟩ u0).setCell ⟨g, p + 1, none⟩ u1
end Go.Proofs.YthckkpbjpgfdcabDoor

namespace Go.Proofs.YthckkpbjpgfdcabDoor
def OdOk (o : Od) : Prop := (0 ≤ o.code ∧ o.code ≤ 19) ∧ ((argMost o.code < 0 ∧ o.arg = 0) ∨ (0 ≤ argMost o.code ∧ 0 ≤ o.arg ∧ o.arg ≤ argMost o.code))
def OpsOk (os : List Od) : Prop := os.length ≤ 300 ∧ ∀ o ∈ os, OdOk o
theorem OdOk.iff (o : Od) : OdOk o ↔ (0 ≤ o.code ∧ o.code ≤ 19) ∧ (0 ≤ o.arg ∧ o.arg ≤ argTop o.code) := by
  unfold OdOk argTop
  split <;> constructor <;> intro h <;> omega
end Go.Proofs.YthckkpbjpgfdcabDoor

namespace Go.Proofs.YthckkpbjpgfdcabDoor
set_option linter.unusedVariables false
structure Shp where
  kinds : List Int
  full : List Bool
  stack : List Int
  memo : List Int
  done : Bool
namespace Shp
def new : Shp := ⟨[], [], [], List.replicate 20 (-1), false⟩
def zero : Shp := ⟨[], [], [], [], false⟩
def push (s : Shp) (k : Int) : Shp := { s with kinds := s.kinds ++ [k], full := s.full ++ [false], stack := s.stack ++ [(s.kinds.length : Int)] }
def cutTo (s : Shp) (n : Nat) : Shp := { s with stack := s.stack.take n }
def thing (s : Shp) (d : Nat) : Int := if d < s.stack.length then s.stack.getD (s.stack.length - 1 - d) 0 else -1
def kindAt (s : Shp) (d : Nat) : Int := if s.thing d < 0 then -1 else s.kinds.getD (s.thing d).toNat 0
end Shp
theorem Shp.cutTo_all (s : Shp) : s.cutTo s.stack.length = s := by unfold Shp.cutTo; rw [List.take_length]
def aboveTo (l : List Int) : Nat → Nat
  | 0 => 0
  | k + 1 => if l.getD k 0 < 0 then k + 1 else aboveTo l k
def above (l : List Int) : Nat := aboveTo l l.length
theorem aboveTo_le (l : List Int) (k : Nat) : aboveTo l k ≤ k := by
  induction k with
  | zero => exact Nat.le_refl _
  | succ k ih => unfold aboveTo; split <;> omega
theorem above_le (l : List Int) : above l ≤ l.length := aboveTo_le l _
theorem aboveTo_mark {l : List Int} {k a : Nat} (h : aboveTo l k = a + 1) : l.getD a 0 < 0 := by
  induction k with
  | zero => simp [aboveTo] at h
  | succ k ih =>
    unfold aboveTo at h
    split at h
    · next hm =>
      obtain rfl : k = a := by omega
      exact hm
    · exact ih h
theorem above_mark {l : List Int} {a : Nat} (h : above l = a + 1) : l.getD a 0 < 0 := aboveTo_mark h
theorem aboveTo_free {l : List Int} {k j : Nat} (h : aboveTo l k ≤ j) (hj : j < k) : 0 ≤ l.getD j 0 := by
  induction k with
  | zero => omega
  | succ k ih =>
    unfold aboveTo at h
    split at h
    · omega
    · next hm =>
      by_cases e : j = k
      · subst e; omega
      · exact ih h (by omega)
theorem above_free {l : List Int} {j : Nat} (h : above l ≤ j) (hj : j < l.length) : 0 ≤ l.getD j 0 := aboveTo_free h hj
def KeyK (k : Int) : Prop := k = 0 ∨ k = 1
def KeysP (kinds list : List Int) : Prop := ∀ (i : Nat) (x : Int), i % 2 = 0 → list[i]? = some x → KeyK (kinds.getD x.toNat 0)
open Classical in
noncomputable def markStep (s : Shp) (c : Int) : Option Shp :=
  if above s.stack = 0 then none
  else if c = 3 then some ((s.cutTo (above s.stack - 1)).push 2)
  else if c = 9 then (if (s.cutTo (above s.stack - 1)).kindAt 0 = 3 then some (s.cutTo (above s.stack - 1)) else none)
  else if c = 12 then (if KeysP s.kinds (s.stack.drop (above s.stack)) ∧ (s.cutTo (above s.stack - 1)).kindAt 0 = 4 ∧ (s.stack.length - above s.stack) % 2 = 0 then some (s.cutTo (above s.stack - 1)) else none)
  else some (s.cutTo (above s.stack - 1))
open Classical in
noncomputable def takeStep (s : Shp) (o : Od) : Option Shp :=
  if s.kindAt 0 < 0 then none
  else if o.code = 5 then some ((s.cutTo (s.stack.length - 1)).push 2)
  else if o.code = 6 then (if s.kindAt 1 < 0 then none else some ((s.cutTo (s.stack.length - 2)).push 2))
  else if o.code = 8 then (if s.kindAt 1 = 3 then some (s.cutTo (s.stack.length - 1)) else none)
  else if o.code = 11 then (if KeyK (s.kindAt 1) ∧ s.kindAt 2 = 4 then some (s.cutTo (s.stack.length - 2)) else none)
  else if o.code = 14 then (if s.kindAt 1 = 5 ∧ s.full.getD (s.thing 1).toNat false = false then some { s.cutTo (s.stack.length - 1) with full := s.full.set (s.thing 1).toNat true } else none)
  else if o.code = 15 then some { s with memo := s.memo.set o.arg.toNat (s.thing 0) }
  else if o.code = 19 then (if s.stack.length = 1 then some { s with done := true } else none)
  else some (s.cutTo (s.stack.length - 1))
def newK (c : Int) : Int := if c = 0 then 0 else if c = 1 then 1 else if c = 4 then 2 else if c = 7 then 3 else if c = 10 then 4 else if c = 13 then 5 else -1
def IsMarkOp (c : Int) : Prop := c = 3 ∨ c = 9 ∨ c = 12 ∨ c = 18
open Classical in
noncomputable def stepFree (s : Shp) (o : Od) : Option Shp :=
  if s.done = true then none
  else if 0 ≤ newK o.code then some (s.push (newK o.code))
  else if o.code = 2 then some { s with stack := s.stack ++ [-1] }
  else if o.code = 16 then (if s.memo.getD o.arg.toNat 0 < 0 then none else some { s with stack := s.stack ++ [s.memo.getD o.arg.toNat 0] })
  else if IsMarkOp o.code then markStep s o.code
  else takeStep s o
def Shp.Fits (s : Shp) : Prop := s.kinds.length ≤ 300 ∧ s.stack.length ≤ 300
open Classical in
noncomputable def stepShp (s : Shp) (o : Od) : Option Shp := (stepFree s o).filter fun t => decide t.Fits
noncomputable def runShp (s : Shp) : List Od → Shp × Nat
  | [] => (s, 0)
  | o :: os => match stepShp s o with
    | none => (s, 0)
    | some t => ((runShp t os).1, (runShp t os).2 + 1)
structure Shp.Ok (s : Shp) : Prop where
  fl : s.full.length = s.kinds.length
  ml : s.memo.length = 20
  st : ∀ x ∈ s.stack, -1 ≤ x ∧ x < (s.kinds.length : Int)
  mm : ∀ x ∈ s.memo, -1 ≤ x ∧ x < (s.kinds.length : Int)
  kk : ∀ x ∈ s.kinds, 0 ≤ x ∧ x ≤ 5
theorem Shp.new_ok : Shp.new.Ok := by
  refine ⟨rfl, by simp [Shp.new], ?_, ?_, ?_⟩ <;> intro x hx <;> simp [Shp.new] at hx
  subst hx
  simp [Shp.new]
theorem Shp.Ok.push {s : Shp} (h : s.Ok) {k : Int} (hk : 0 ≤ k ∧ k ≤ 5) : (s.push k).Ok := by
  refine ⟨by simp [Shp.push, h.fl], h.ml, ?_, ?_, ?_⟩
  · intro x hx
    simp [Shp.push] at hx ⊢
    rcases hx with hx | rfl
    · have := h.st x hx; omega
    · omega
  · intro x hx
    have := h.mm x hx
    simp [Shp.push]
    omega
  · intro x hx
    simp [Shp.push] at hx
    rcases hx with hx | rfl
    · exact h.kk x hx
    · exact hk
theorem Shp.Ok.cut {s : Shp} (h : s.Ok) (n : Nat) : (s.cutTo n).Ok :=
  ⟨h.fl, h.ml, fun x hx => h.st x (List.mem_of_mem_take hx), h.mm, h.kk⟩
theorem Shp.Ok.snoc {s : Shp} (h : s.Ok) {x : Int} (hx : -1 ≤ x ∧ x < (s.kinds.length : Int)) : Shp.Ok { s with stack := s.stack ++ [x] } :=
  ⟨h.fl, h.ml, fun y hy => by
    simp at hy
    rcases hy with hy | rfl
    · exact h.st y hy
    · exact hx, h.mm, h.kk⟩
theorem getD_mem {α : Type} {l : List α} {k : Nat} {d : α} (h : k < l.length) : l.getD k d ∈ l := by
  rw [List.getD_eq_getElem?_getD, List.getElem?_eq_getElem h]
  exact List.getElem_mem h
theorem Shp.Ok.thing {s : Shp} (h : s.Ok) (d : Nat) : -1 ≤ s.thing d ∧ (s.thing d < (s.kinds.length : Int)) := by
  unfold Shp.thing
  split
  · exact h.st _ (getD_mem (by omega))
  · omega
theorem Shp.Ok.kindAt {s : Shp} (h : s.Ok) (d : Nat) : -1 ≤ s.kindAt d ∧ s.kindAt d ≤ 5 ∧ (s.kindAt d < 0 ↔ s.thing d < 0) := by
  unfold Shp.kindAt
  have ht := h.thing d
  split
  · next hl => exact ⟨by omega, by omega, by simp [hl]⟩
  · next hl =>
    have := h.kk _ (getD_mem (d := 0) (show (s.thing d).toNat < s.kinds.length by omega))
    exact ⟨by omega, by omega, by omega⟩
theorem Shp.kind_lt {s : Shp} {d : Nat} (h : ¬ s.kindAt d < 0) : d < s.stack.length := by
  unfold Shp.kindAt Shp.thing at h
  by_cases hd : d < s.stack.length
  · exact hd
  · rw [if_neg hd] at h
    simp at h
theorem newK_le (c : Int) : newK c ≤ 5 := by unfold newK; repeat' split
                                             all_goals omega
theorem stepFree_ok {s t : Shp} {o : Od} (h : s.Ok) (he : stepFree s o = some t) (ha : o.code = 16 → o.arg.toNat < 20) : t.Ok ∧ t.kinds.length ≤ s.kinds.length + 1 ∧ t.stack.length ≤ s.stack.length + 1 ∧ s.kinds.length ≤ t.kinds.length := by
  have hcl : ∀ n, (s.stack.take n).length ≤ s.stack.length := fun n => by simp; omega
  unfold stepFree at he
  split at he
  · cases he
  split at he
  · next h0 =>
    cases he
    exact ⟨h.push ⟨h0, newK_le _⟩, by simp [Shp.push], by simp [Shp.push], by simp [Shp.push]⟩
  split at he
  · cases he
    exact ⟨h.snoc ⟨by omega, by omega⟩, by simp, by simp, by simp⟩
  split at he
  · next h16 =>
    split at he
    · cases he
    · next hm =>
      cases he
      have := h.mm _ (getD_mem (d := 0) (show o.arg.toNat < s.memo.length by rw [h.ml]; exact ha h16))
      exact ⟨h.snoc ⟨by omega, by omega⟩, by simp, by simp, by simp⟩
  split at he
  · unfold markStep at he
    split at he
    · cases he
    have hc := h.cut (above s.stack - 1)
    have hl := hcl (above s.stack - 1)
    repeat' split at he
    all_goals first
      | (cases he; done)
      | (cases he; exact ⟨hc.push (by omega), by simp [Shp.push, Shp.cutTo], by simp [Shp.push, Shp.cutTo] <;> omega, by simp [Shp.push, Shp.cutTo]⟩)
      | (cases he; exact ⟨hc, by simp [Shp.cutTo], by simp [Shp.cutTo] <;> omega, by simp [Shp.cutTo]⟩)
  · unfold takeStep at he
    split at he
    · cases he
    next hk0 =>
    have hk := Shp.kind_lt hk0
    have hc := fun n => h.cut n
    repeat' split at he
    all_goals first
      | (cases he; done)
      | (cases he; exact ⟨(hc _).push (by omega), by simp [Shp.push, Shp.cutTo], by simp [Shp.push, Shp.cutTo] <;> omega, by simp [Shp.push, Shp.cutTo]⟩)
      | (cases he; exact ⟨hc _, by simp [Shp.cutTo], by simp [Shp.cutTo] <;> omega, by simp [Shp.cutTo]⟩)
      | (cases he; exact ⟨⟨by simp [Shp.cutTo, h.fl], h.ml, (hc _).st, h.mm, h.kk⟩, by simp [Shp.cutTo], by simp [Shp.cutTo] <;> omega, by simp [Shp.cutTo]⟩)
      | (cases he; exact ⟨⟨h.fl, h.ml, h.st, h.mm, h.kk⟩, by simp, by simp, by simp⟩)
      | (cases he
         refine ⟨⟨h.fl, by simp [h.ml], h.st, fun x hx => ?_, h.kk⟩, by simp, by simp, by simp⟩
         rcases List.mem_or_eq_of_mem_set hx with hx | rfl
         · exact h.mm x hx
         · have := h.thing 0; omega)
theorem stepShp_some {s t : Shp} {o : Od} (h : stepShp s o = some t) : stepFree s o = some t ∧ t.Fits := by
  unfold stepShp at h
  rw [Option.filter_eq_some_iff] at h
  exact ⟨h.1, by simpa using h.2⟩
theorem stepShp_of {s t : Shp} {o : Od} (h : stepFree s o = some t) (hf : t.Fits) : stepShp s o = some t := by
  unfold stepShp
  rw [Option.filter_eq_some_iff]
  exact ⟨h, by simpa using hf⟩
theorem stepShp_none {s : Shp} {o : Od} (h : stepFree s o = none) : stepShp s o = none := by
  unfold stepShp
  rw [h]
  rfl
theorem stepShp_wide {s t : Shp} {o : Od} (h : stepFree s o = some t) (hf : ¬ t.Fits) : stepShp s o = none := by
  unfold stepShp
  rw [h]
  simp [hf]
theorem stepShp_ok {s t : Shp} {o : Od} (h : s.Ok) (he : stepShp s o = some t) (ha : o.code = 16 → o.arg.toNat < 20) : t.Ok ∧ t.Fits := ⟨(stepFree_ok h (stepShp_some he).1 ha).1, (stepShp_some he).2⟩
theorem runShp_end (s : Shp) : runShp s [] = (s, 0) := rfl
theorem runShp_stop {s : Shp} {o : Od} {os : List Od} (h : stepShp s o = none) : runShp s (o :: os) = (s, 0) := by
  rw [runShp, h]
theorem runShp_go {s t : Shp} {o : Od} {os : List Od} (h : stepShp s o = some t) : runShp s (o :: os) = ((runShp t os).1, (runShp t os).2 + 1) := by
  rw [runShp, h]
theorem OdOk.get {o : Od} (h : OdOk o) : o.code = 16 → o.arg.toNat < 20 := by
  intro e
  have := h.2
  rw [e] at this
  simp [argMost] at this
  omega
theorem runShp_ok {s : Shp} {os : List Od} (h : s.Ok) (hf : s.Fits) (ho : ∀ o ∈ os, o.code = 16 → o.arg.toNat < 20) : (runShp s os).1.Ok ∧ (runShp s os).1.Fits ∧ (runShp s os).2 ≤ os.length := by
  induction os generalizing s with
  | nil => exact ⟨h, hf, Nat.le_refl _⟩
  | cons o os ih =>
    cases he : stepShp s o with
    | none => rw [runShp_stop he]; exact ⟨h, hf, Nat.zero_le _⟩
    | some t =>
      rw [runShp_go he]
      obtain ⟨h1, h2⟩ := stepShp_ok h he (ho o (by simp))
      obtain ⟨h3, h4, h5⟩ := ih h1 h2 (fun o ho2 => ho o (by simp [ho2]))
      exact ⟨h3, h4, by simp; omega⟩
end Go.Proofs.YthckkpbjpgfdcabDoor

namespace Go.Proofs.YthckkpbjpgfdcabDoor
set_option linter.unusedVariables false
set_option linter.unusedSimpArgs false
def useBits (k : Int) (full : Bool) : Nat := if k = 0 ∨ k = 1 then 3 else if k = 3 then 5 else if k = 4 then 9 else if k = 5 ∧ full = false then 17 else 1
def Shp.useOf (s : Shp) (x : Int) : Nat := if x < 0 then 32 else useBits (s.kinds.getD x.toNat 0) (s.full.getD x.toNat false)
def Shp.useAt (s : Shp) (i : Int) : Nat := if i < 0 then 64 else s.useOf (s.stack.getD i.toNat 0)
open Classical in
noncomputable def Shp.useFrom (s : Shp) (a : Nat) : Nat := if (s.stack.length - a) % 2 = 0 ∧ KeysP s.kinds (s.stack.drop a) then 128 else 0
def takesN (c : Int) : Int := if c = 3 ∨ c = 9 ∨ c = 12 ∨ c = 18 then -1 else if c = 5 ∨ c = 8 ∨ c = 14 ∨ c = 17 then 1 else if c = 6 ∨ c = 11 then 2 else 0
def need0 (c : Int) : Nat := if c = 9 then 4 else if c = 11 ∨ c = 12 then 8 else 0
def need1 (c : Int) : Nat := if c = 3 ∨ c = 9 ∨ c = 12 ∨ c = 18 then 32 else if c = 6 then 1 else if c = 8 then 4 else if c = 11 then 2 else if c = 14 then 16 else if c = 19 then 64 else 0
def need2 (c : Int) : Nat := if c = 12 then 128 else if c = 5 ∨ c = 6 ∨ c = 8 ∨ c = 11 ∨ c = 14 ∨ c = 15 ∨ c = 17 ∨ c = 19 then 1 else 0
noncomputable def Shp.view0 (s : Shp) (c : Int) : Nat := if takesN c = -1 then s.useAt ((above s.stack : Int) - 2) else s.useAt ((s.stack.length : Int) - 1 - 2)
noncomputable def Shp.view1 (s : Shp) (c : Int) : Nat := if takesN c = -1 then s.useAt ((above s.stack : Int) - 1) else s.useAt ((s.stack.length : Int) - 1 - 1)
noncomputable def Shp.view2 (s : Shp) (c : Int) : Nat := if takesN c = -1 then s.useFrom (above s.stack) else s.useAt ((s.stack.length : Int) - 1)
def Shp.Has (s : Shp) (o : Od) : Prop := (o.code = 16 → 0 ≤ s.memo.getD o.arg.toNat 0) ∧ s.view0 o.code &&& need0 o.code = need0 o.code ∧ s.view1 o.code &&& need1 o.code = need1 o.code ∧ s.view2 o.code &&& need2 o.code = need2 o.code
def Shp.took (s : Shp) (c : Int) : Shp := if takesN c = -1 then s.cutTo (above s.stack - 1) else s.cutTo (s.stack.length - (takesN c).toNat)
def Shp.acted (s : Shp) (o : Od) : Shp :=
  if o.code = 0 then s.push 0 else if o.code = 1 then s.push 1 else if o.code = 2 then { s with stack := s.stack ++ [-1] }
  else if o.code = 3 ∨ o.code = 4 ∨ o.code = 5 ∨ o.code = 6 then s.push 2 else if o.code = 7 then s.push 3 else if o.code = 10 then s.push 4 else if o.code = 13 then s.push 5
  else if o.code = 14 then { s with full := s.full.set (s.thing 0).toNat true }
  else if o.code = 15 then { s with memo := s.memo.set o.arg.toNat (s.thing 0) }
  else if o.code = 16 then { s with stack := s.stack ++ [s.memo.getD o.arg.toNat 0] }
  else if o.code = 19 then { s with done := true } else s
theorem useBits_1 (k : Int) (f : Bool) : useBits k f &&& 1 = 1 := by
  unfold useBits
  repeat' split
  all_goals decide
theorem useBits_2 (k : Int) (f : Bool) : useBits k f &&& 2 = 2 ↔ KeyK k := by
  unfold useBits KeyK
  split
  · next h => simp [h]
  · next h =>
    simp only [h, iff_false]
    repeat' split
    all_goals decide
theorem useBits_4 (k : Int) (f : Bool) : useBits k f &&& 4 = 4 ↔ k = 3 := by
  unfold useBits
  split
  · next h =>
    constructor
    · intro hh; exact absurd hh (by decide)
    · intro hh; omega
  · split
    · next h => simp [h]
    · next h =>
      simp only [h, iff_false]
      repeat' split
      all_goals decide
theorem useBits_8 (k : Int) (f : Bool) : useBits k f &&& 8 = 8 ↔ k = 4 := by
  unfold useBits
  split
  · next h =>
    constructor
    · intro hh; exact absurd hh (by decide)
    · intro hh; omega
  · split
    · next h => simp [h]
    · split
      · next h => simp [h]
      · next h =>
        simp only [h, iff_false]
        repeat' split
        all_goals decide
theorem useBits_16 (k : Int) (f : Bool) : useBits k f &&& 16 = 16 ↔ k = 5 ∧ f = false := by
  unfold useBits
  split
  · next h =>
    constructor
    · intro hh; exact absurd hh (by decide)
    · intro hh; omega
  · split
    · next h =>
      constructor
      · intro hh; exact absurd hh (by decide)
      · intro hh; omega
    · split
      · next h =>
        constructor
        · intro hh; exact absurd hh (by decide)
        · intro hh; omega
      · split
        · next h => simp [h]
        · next h =>
          simp only [h, iff_false]
          decide
theorem useBits_hi (k : Int) (f : Bool) : ¬ useBits k f &&& 32 = 32 ∧ ¬ useBits k f &&& 64 = 64 := by
  unfold useBits
  repeat' split
  all_goals decide
theorem Shp.useTop {s : Shp} (h : s.Ok) (d : Nat) : s.useAt ((s.stack.length : Int) - 1 - d) = if s.stack.length ≤ d then 64 else if s.thing d < 0 then 32 else useBits (s.kindAt d) (s.full.getD (s.thing d).toNat false) := by
  unfold Shp.useAt
  by_cases hd : s.stack.length ≤ d
  · rw [if_pos (by omega), if_pos hd]
  · rw [if_neg (by omega), if_neg hd]
    have e : ((s.stack.length : Int) - 1 - d).toNat = s.stack.length - 1 - d := by omega
    have et : s.thing d = s.stack.getD (s.stack.length - 1 - d) 0 := by unfold Shp.thing; rw [if_pos (by omega)]
    rw [e, ← et]
    unfold Shp.useOf
    by_cases ht : s.thing d < 0
    · rw [if_pos ht, if_pos ht]
    · rw [if_neg ht, if_neg ht]
      unfold Shp.kindAt
      rw [if_neg ht]
theorem Shp.thing_none {s : Shp} {d : Nat} (h : s.stack.length ≤ d) : s.thing d = -1 := by unfold Shp.thing; rw [if_neg (by omega)]
theorem Shp.kindAt_none {s : Shp} {d : Nat} (h : s.thing d < 0) : s.kindAt d = -1 := by unfold Shp.kindAt; rw [if_pos h]
theorem Shp.top_1 {s : Shp} (h : s.Ok) (d : Nat) : s.useAt ((s.stack.length : Int) - 1 - d) &&& 1 = 1 ↔ 0 ≤ s.kindAt d := by
  have hk := (h.kindAt d).2.2
  rw [Shp.useTop h]
  split
  · next hd =>
    have := Shp.thing_none hd; constructor
    · intro hh; exact absurd hh (by decide)
    · intro hh; omega
  · split
    · next ht =>
      constructor
      · intro hh; exact absurd hh (by decide)
      · intro hh; omega
    · simp only [useBits_1, true_iff]; omega
theorem Shp.top_2 {s : Shp} (h : s.Ok) (d : Nat) : s.useAt ((s.stack.length : Int) - 1 - d) &&& 2 = 2 ↔ KeyK (s.kindAt d) := by
  have hk := (h.kindAt d).2.2
  rw [Shp.useTop h]
  split
  · next hd =>
    have := Shp.kindAt_none (s := s) (d := d) (by rw [Shp.thing_none hd]; omega)
    constructor
    · intro hh; exact absurd hh (by decide)
    · unfold KeyK; intro hh; omega
  · split
    · next ht =>
      have := Shp.kindAt_none ht
      constructor
      · intro hh; exact absurd hh (by decide)
      · unfold KeyK; intro hh; omega
    · exact useBits_2 _ _
theorem Shp.top_4 {s : Shp} (h : s.Ok) (d : Nat) : s.useAt ((s.stack.length : Int) - 1 - d) &&& 4 = 4 ↔ s.kindAt d = 3 := by
  rw [Shp.useTop h]
  split
  · next hd =>
    have := Shp.kindAt_none (s := s) (d := d) (by rw [Shp.thing_none hd]; omega)
    constructor
    · intro hh; exact absurd hh (by decide)
    · intro hh; omega
  · split
    · next ht =>
      have := Shp.kindAt_none ht
      constructor
      · intro hh; exact absurd hh (by decide)
      · intro hh; omega
    · exact useBits_4 _ _
theorem Shp.top_8 {s : Shp} (h : s.Ok) (d : Nat) : s.useAt ((s.stack.length : Int) - 1 - d) &&& 8 = 8 ↔ s.kindAt d = 4 := by
  rw [Shp.useTop h]
  split
  · next hd =>
    have := Shp.kindAt_none (s := s) (d := d) (by rw [Shp.thing_none hd]; omega)
    constructor
    · intro hh; exact absurd hh (by decide)
    · intro hh; omega
  · split
    · next ht =>
      have := Shp.kindAt_none ht
      constructor
      · intro hh; exact absurd hh (by decide)
      · intro hh; omega
    · exact useBits_8 _ _
theorem Shp.top_16 {s : Shp} (h : s.Ok) (d : Nat) : s.useAt ((s.stack.length : Int) - 1 - d) &&& 16 = 16 ↔ s.kindAt d = 5 ∧ s.full.getD (s.thing d).toNat false = false := by
  rw [Shp.useTop h]
  split
  · next hd =>
    have := Shp.kindAt_none (s := s) (d := d) (by rw [Shp.thing_none hd]; omega)
    constructor
    · intro hh; exact absurd hh (by decide)
    · intro hh; omega
  · split
    · next ht =>
      have := Shp.kindAt_none ht
      constructor
      · intro hh; exact absurd hh (by decide)
      · intro hh; omega
    · exact useBits_16 _ _
theorem Shp.top_64 {s : Shp} (h : s.Ok) (d : Nat) : s.useAt ((s.stack.length : Int) - 1 - d) &&& 64 = 64 ↔ s.stack.length ≤ d := by
  rw [Shp.useTop h]
  split
  · next hd => simp [hd]
  · next hd =>
    simp only [hd, iff_false]
    split
    · decide
    · exact (useBits_hi _ _).2
theorem Shp.mark_32 (s : Shp) : s.useAt ((above s.stack : Int) - 1) &&& 32 = 32 ↔ above s.stack ≠ 0 := by
  unfold Shp.useAt
  by_cases h : above s.stack = 0
  · rw [h]; simp
  · rw [if_neg (by omega)]
    have e : ((above s.stack : Int) - 1).toNat = above s.stack - 1 := by omega
    have hm := above_mark (l := s.stack) (a := above s.stack - 1) (by omega)
    rw [e]
    unfold Shp.useOf
    rw [if_pos hm]
    simp [h]
theorem Shp.cut_use {s : Shp} (a : Nat) (ha : a ≤ s.stack.length) : s.useAt ((a : Int) - 1) = (s.cutTo a).useAt (((s.cutTo a).stack.length : Int) - 1 - (0 : Nat)) := by
  have hl : (s.cutTo a).stack.length = a := by unfold Shp.cutTo; simp; omega
  rw [hl]
  unfold Shp.useAt
  by_cases h : (a : Int) - 1 < 0
  · rw [if_pos h, if_pos (by omega)]
  · rw [if_neg h, if_neg (by omega)]
    have e : ((a : Int) - 1).toNat = a - 1 := by omega
    have e2 : ((a : Int) - 1 - (0 : Nat)).toNat = a - 1 := by omega
    rw [e, e2]
    have hg : (s.cutTo a).stack.getD (a - 1) 0 = s.stack.getD (a - 1) 0 := by
      unfold Shp.cutTo
      rw [List.getD_eq_getElem?_getD, List.getD_eq_getElem?_getD, List.getElem?_take, if_pos (by omega)]
    rw [hg]
    rfl
theorem Shp.useFrom_128 (s : Shp) (a : Nat) : s.useFrom a &&& 128 = 128 ↔ ((s.stack.length - a) % 2 = 0 ∧ KeysP s.kinds (s.stack.drop a)) := by
  unfold Shp.useFrom
  split
  · next h => simp [h]
  · next h => simp [h]
theorem stepFree_has {s : Shp} {o : Od} (h : s.Ok) (hd : s.done = false) (ho : 0 ≤ o.code ∧ o.code ≤ 19) (ha : o.code = 16 → o.arg.toNat < 20) :
    (s.Has o → stepFree s o = some ((s.took o.code).acted o)) ∧ (¬ s.Has o → stepFree s o = none) := by
  obtain ⟨cd, ar⟩ := o
  simp only at ho ha
  have t0 := Shp.top_1 h 0
  have t1 := Shp.top_1 h 1
  have t2 := Shp.top_2 h 1
  have t4 := Shp.top_4 h 1
  have t8 := Shp.top_8 h 2
  have t16 := Shp.top_16 h 1
  have t64 := Shp.top_64 h 1
  have m32 := s.mark_32
  have hal := above_le s.stack
  have m4 : above s.stack ≠ 0 → (s.useAt ((above s.stack : Int) - 2) &&& 4 = 4 ↔ (s.cutTo (above s.stack - 1)).kindAt 0 = 3) := by
    intro hne
    rw [show (above s.stack : Int) - 2 = ((above s.stack - 1 : Nat) : Int) - 1 by omega, Shp.cut_use _ (by omega)]
    exact Shp.top_4 (h.cut _) 0
  have m8 : above s.stack ≠ 0 → (s.useAt ((above s.stack : Int) - 2) &&& 8 = 8 ↔ (s.cutTo (above s.stack - 1)).kindAt 0 = 4) := by
    intro hne
    rw [show (above s.stack : Int) - 2 = ((above s.stack - 1 : Nat) : Int) - 1 by omega, Shp.cut_use _ (by omega)]
    exact Shp.top_8 (h.cut _) 0
  have f128 := s.useFrom_128 (above s.stack)
  have c0 : s.cutTo s.stack.length = s := Shp.cutTo_all s
  have th1 : ∀ n, n ≤ s.stack.length → (s.cutTo (s.stack.length - n)).thing 0 = s.thing n ∨ s.stack.length - n = 0 := by
    intro n hn
    by_cases hz : s.stack.length - n = 0
    · exact .inr hz
    · left
      have hl : (s.cutTo (s.stack.length - n)).stack.length = s.stack.length - n := by unfold Shp.cutTo; simp
      unfold Shp.thing
      rw [hl, if_pos (by omega), if_pos (by omega)]
      unfold Shp.cutTo
      rw [List.getD_eq_getElem?_getD, List.getD_eq_getElem?_getD, List.getElem?_take, if_pos (by omega)]
      congr 2
      omega
  simp only [Int.natCast_zero, Int.sub_zero] at t0
  have h20 : cd = 0 ∨ cd = 1 ∨ cd = 2 ∨ cd = 3 ∨ cd = 4 ∨ cd = 5 ∨ cd = 6 ∨ cd = 7 ∨ cd = 8 ∨ cd = 9 ∨ cd = 10 ∨ cd = 11 ∨ cd = 12 ∨ cd = 13 ∨ cd = 14 ∨ cd = 15 ∨ cd = 16 ∨ cd = 17 ∨ cd = 18 ∨ cd = 19 := by omega
  have u0 : s.useAt ((s.stack.length : Int) - 1) % 2 = 1 ↔ 0 ≤ s.kindAt 0 := by rw [← t0, Nat.and_one_is_mod]
  have u1 : s.useAt ((s.stack.length : Int) - 1 - 1) % 2 = 1 ↔ 0 ≤ s.kindAt 1 := by rw [← t1, Nat.and_one_is_mod]; simp
  have v0 : s.useAt ((s.stack.length : Int) - 1) % 2 = 0 ↔ s.kindAt 0 < 0 := by omega
  have v1 : s.useAt ((s.stack.length : Int) - 1 - 1) % 2 = 0 ↔ s.kindAt 1 < 0 := by omega
  have k0 := (h.kindAt 0)
  have k1 := (h.kindAt 1)
  have n0 : s.stack.length = 0 → s.kindAt 0 < 0 := fun hz => by
    rw [Shp.kindAt_none (by rw [Shp.thing_none (by omega)]; omega)]; omega
  have n1 : s.stack.length ≤ 1 → s.kindAt 1 < 0 := fun hz => by
    rw [Shp.kindAt_none (by rw [Shp.thing_none (by omega)]; omega)]; omega
  simp only [Int.natCast_one] at t1 t2 t4 t16 t64
  simp only [show ((2 : Nat) : Int) = 2 from rfl] at t8
  have thr := th1 1
  clear th1
  rcases h20 with rfl | rfl | rfl | rfl | rfl | rfl | rfl | rfl | rfl | rfl | rfl | rfl | rfl | rfl | rfl | rfl | rfl | rfl | rfl | rfl
  · simp [Shp.Has, need0, need1, need2, stepFree, newK, hd, Shp.took, takesN, Shp.acted, c0]
  · simp [Shp.Has, need0, need1, need2, stepFree, newK, hd, Shp.took, takesN, Shp.acted, c0]
  · simp [Shp.Has, need0, need1, need2, stepFree, newK, hd, Shp.took, takesN, Shp.acted, c0]
  · simp [Shp.Has, Shp.view0, Shp.view1, Shp.view2, need0, need1, need2, takesN, stepFree, newK, hd, IsMarkOp, Shp.took, Shp.acted, markStep, m32]
  · simp [Shp.Has, need0, need1, need2, stepFree, newK, hd, Shp.took, takesN, Shp.acted, c0]
  · simp [Shp.Has, Shp.view0, Shp.view1, Shp.view2, need0, need1, need2, takesN, stepFree, newK, hd, IsMarkOp, Shp.took, Shp.acted, takeStep, u0, v0]
  · simp [Shp.Has, Shp.view0, Shp.view1, Shp.view2, need0, need1, need2, takesN, stepFree, newK, hd, IsMarkOp, Shp.took, Shp.acted, takeStep, u0, u1, v0, v1]
    omega
  · simp [Shp.Has, need0, need1, need2, stepFree, newK, hd, Shp.took, takesN, Shp.acted, c0]
  · simp [Shp.Has, Shp.view0, Shp.view1, Shp.view2, need0, need1, need2, takesN, stepFree, newK, hd, IsMarkOp, Shp.took, Shp.acted, takeStep, u0, v0, t4]
    omega
  · simp [Shp.Has, Shp.view0, Shp.view1, Shp.view2, need0, need1, need2, takesN, stepFree, newK, hd, IsMarkOp, Shp.took, Shp.acted, markStep, m32]
    grind
  · simp [Shp.Has, need0, need1, need2, stepFree, newK, hd, Shp.took, takesN, Shp.acted, c0]
  · simp [Shp.Has, Shp.view0, Shp.view1, Shp.view2, need0, need1, need2, takesN, stepFree, newK, hd, IsMarkOp, Shp.took, Shp.acted, takeStep, u0, v0, t2, t8]
    grind
  · simp [Shp.Has, Shp.view0, Shp.view1, Shp.view2, need0, need1, need2, takesN, stepFree, newK, hd, IsMarkOp, Shp.took, Shp.acted, markStep, m32, f128]
    grind
  · simp [Shp.Has, need0, need1, need2, stepFree, newK, hd, Shp.took, takesN, Shp.acted, c0]
  · simp [Shp.Has, Shp.view0, Shp.view1, Shp.view2, need0, need1, need2, takesN, stepFree, newK, hd, IsMarkOp, Shp.took, Shp.acted, takeStep, u0, v0, t16]
    have hf : (s.cutTo (s.stack.length - 1)).full = s.full := rfl
    refine ⟨fun h1 h2 h3 => ⟨h3, ⟨h1, h2⟩, ?_⟩, fun g h3 h1 => ?_⟩
    · have hl : ¬ s.stack.length ≤ 1 := fun hz => by have := n1 hz; omega
      rcases thr (by omega) with e | e
      · rw [hf, e]
      · omega
    · cases hg : s.full[(s.thing 1).toNat]?.getD false with
      | false => have := g h1 hg; omega
      | true => rfl
  · simp [Shp.Has, Shp.view0, Shp.view1, Shp.view2, need0, need1, need2, takesN, stepFree, newK, hd, IsMarkOp, Shp.took, Shp.acted, takeStep, u0, v0, c0]
  · simp [Shp.Has, Shp.view0, Shp.view1, Shp.view2, need0, need1, need2, takesN, stepFree, newK, hd, IsMarkOp, Shp.took, Shp.acted, takeStep, c0]
  · simp [Shp.Has, Shp.view0, Shp.view1, Shp.view2, need0, need1, need2, takesN, stepFree, newK, hd, IsMarkOp, Shp.took, Shp.acted, takeStep, u0, v0]
  · simp [Shp.Has, Shp.view0, Shp.view1, Shp.view2, need0, need1, need2, takesN, stepFree, newK, hd, IsMarkOp, Shp.took, Shp.acted, markStep, m32]
  · simp [Shp.Has, Shp.view0, Shp.view1, Shp.view2, need0, need1, need2, takesN, stepFree, newK, hd, IsMarkOp, Shp.took, Shp.acted, takeStep, u0, v0, t64, c0]
    grind
end Go.Proofs.YthckkpbjpgfdcabDoor
