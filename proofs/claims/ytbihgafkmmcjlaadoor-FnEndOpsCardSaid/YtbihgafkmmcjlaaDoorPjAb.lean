/-
  Lemmas, several texts in one: Arg, Od, OpOk, Shp, Pick, One, Only.
-/
import Derived.Test.YtbihgafkmmcjlaaDoorChecked
import Derived.Test.YtbihgafkmmcjlaaDoorPjAa
import Derived.ProofKit
import Derived.BigQuiet
import Derived.Laws.Bits64
import Derived.StillTailTactics
namespace Go.Proofs.YtbihgafkmmcjlaaDoor
def argMost (c : Int) : Int := if c = 0 then 999 else if c = 1 then 9 else if c = 13 then 9 else if c = 15 then 19 else if c = 16 then 19 else -1
theorem argMost_range (c : Int) : -1 ≤ argMost c ∧ argMost c ≤ 999 := by
  unfold argMost
  repeat' split
  all_goals omega
def argTop (c : Int) : Int := if argMost c < 0 then 0 else argMost c
end Go.Proofs.YtbihgafkmmcjlaaDoor

namespace Go.Proofs.YtbihgafkmmcjlaaDoor
open Go.RowKit
set_option linter.unusedVariables false
structure Od where
  code : Int
  arg : Int
  deriving DecidableEq
structure OpsAt (w : World) (B : Nat) (A : Option Addr) (os : List Od) : Prop where
  row : os ≠ [] → ∃ b off, A = some ⟨b, off, none⟩ ∧ b < B ∧ ∀ j o, os[j]? = some o → w.cell? ⟨b, off + j * 2, none⟩ = some (.int .i64 o.code) ∧ w.cell? ⟨b, off + j * 2 + 1, none⟩ = some (.int .i64 o.arg)
  wf : ∀ o ∈ os, In64 o.code ∧ In64 o.arg
  len : os.length ≤ 9223372036854775807
theorem OpsAt.below {w w' : World} {B : Nat} {A : Option Addr} {os : List Od} (h : OpsAt w B A os) (hb : Below B w w') : OpsAt w' B A os :=
  ⟨fun hx => by
    obtain ⟨b, off, e, hlt, hc⟩ := h.row hx
    exact ⟨b, off, e, hlt, fun j x hj => ⟨(hb.cell hlt).trans (hc j x hj).1, (hb.cell hlt).trans (hc j x hj).2⟩⟩, h.wf, h.len⟩
theorem OpsAt.more {w : World} {B B' : Nat} {A : Option Addr} {os : List Od} (h : OpsAt w B A os) (hB : B ≤ B') : OpsAt w B' A os :=
  ⟨fun hx => by
    obtain ⟨b, off, e, hlt, hc⟩ := h.row hx
    exact ⟨b, off, e, Nat.lt_of_lt_of_le hlt hB, hc⟩, h.wf, h.len⟩
theorem OpsAt.later {w w' : World} {B : Nat} {A : Option Addr} {os : List Od} (h : OpsAt w B A os) (hb : Below B w w') (hB : B ≤ w.heap.size) : OpsAt w' w'.heap.size A os :=
  (h.below hb).more (Nat.le_trans hB hb.size)
theorem OpsAt.at_ {w : World} {B : Nat} {A : Option Addr} {os : List Od} (h : OpsAt w B A os) {k : Nat} (hk : k < os.length) :
    ∃ b off o, A = some ⟨b, off, none⟩ ∧ b < B ∧ os[k]? = some o ∧ o ∈ os ∧ w.cell? ⟨b, off + k * 2, none⟩ = some (.int .i64 o.code) ∧ w.cell? ⟨b, off + k * 2 + 1, none⟩ = some (.int .i64 o.arg) := by
  obtain ⟨b, off, e, hlt, hc⟩ := h.row (by intro e; subst e; simp at hk)
  have hat : os[k]? = some os[k] := List.getElem?_eq_getElem hk
  exact ⟨b, off, os[k], e, hlt, hat, List.getElem_mem hk, (hc k _ hat).1, (hc k _ hat).2⟩
def opCell (os : List Od) (i : Nat) : Value := if i % 2 = 0 then .int .i64 (os.getD (i / 2) ⟨0, 0⟩).code else .int .i64 (os.getD (i / 2) ⟨0, 0⟩).arg
theorem opCell_code {os : List Od} {k : Nat} {o : Od} (h : os[k]? = some o) : opCell os (k * 2) = .int .i64 o.code := by
  unfold opCell
  rw [if_pos (by omega), show k * 2 / 2 = k from by omega, List.getD_eq_getElem?_getD, h]; rfl
theorem opCell_arg {os : List Od} {k : Nat} {o : Od} (h : os[k]? = some o) : opCell os (k * 2 + 1) = .int .i64 o.arg := by
  unfold opCell
  rw [if_neg (by omega), show (k * 2 + 1) / 2 = k from by omega, List.getD_eq_getElem?_getD, h]; rfl
theorem OpsAt.of_row {w : World} {B g : Nat} {t : TypeId} {os : List Od} (h : w.rowIs g t (os.length * 2) (opCell os)) (hg : g < B) (hwf : ∀ o ∈ os, In64 o.code ∧ In64 o.arg) (hl : os.length ≤ 9223372036854775807) :
    OpsAt w B (some ⟨g, 0, none⟩) os :=
  ⟨fun _ => ⟨g, 0, rfl, hg, fun j o hj => by
    have hjl := (List.getElem?_eq_some_iff.1 hj).1
    rw [Nat.zero_add, ← opCell_code hj, ← opCell_arg hj]
    exact ⟨h.cell (by omega), h.cell (by omega)⟩⟩, hwf, hl⟩
def set2 (w : World) (g p : Nat) (u0 u1 : Value) : World := (w.setCell ⟨g, p, none⟩ u0).setCell ⟨g, p + 1, none⟩ u1
end Go.Proofs.YtbihgafkmmcjlaaDoor

namespace Go.Proofs.YtbihgafkmmcjlaaDoor
def OdOk (o : Od) : Prop := (0 ≤ o.code ∧ o.code ≤ 19) ∧ ((argMost o.code < 0 ∧ o.arg = 0) ∨ (0 ≤ argMost o.code ∧ 0 ≤ o.arg ∧ o.arg ≤ argMost o.code))
def OpsOk (os : List Od) : Prop := os.length ≤ 300 ∧ ∀ o ∈ os, OdOk o
theorem OdOk.iff (o : Od) : OdOk o ↔ (0 ≤ o.code ∧ o.code ≤ 19) ∧ (0 ≤ o.arg ∧ o.arg ≤ argTop o.code) := by
  unfold OdOk argTop
  split <;> constructor <;> intro h <;> omega
end Go.Proofs.YtbihgafkmmcjlaaDoor

namespace Go.Proofs.YtbihgafkmmcjlaaDoor
set_option linter.unusedVariables false
structure Shp where
  kinds : List Int
  full : List Bool
  stack : List Int
  memo : List Int
  done : Bool
namespace Shp
def new : Shp := ⟨[], [], [], List.replicate 20 (-1), false⟩
def zero : Shp := ⟨[], [], [], [], false⟩
def push (s : Shp) (k : Int) : Shp := { s with kinds := s.kinds ++ [k], full := s.full ++ [false], stack := s.stack ++ [(s.kinds.length : Int)] }
def cutTo (s : Shp) (n : Nat) : Shp := { s with stack := s.stack.take n }
def thing (s : Shp) (d : Nat) : Int := if d < s.stack.length then s.stack.getD (s.stack.length - 1 - d) 0 else -1
def kindAt (s : Shp) (d : Nat) : Int := if s.thing d < 0 then -1 else s.kinds.getD (s.thing d).toNat 0
end Shp
theorem Shp.cutTo_all (s : Shp) : s.cutTo s.stack.length = s := by unfold Shp.cutTo; rw [List.take_length]
def aboveTo (l : List Int) : Nat → Nat
  | 0 => 0
  | k + 1 => if l.getD k 0 < 0 then k + 1 else aboveTo l k
def above (l : List Int) : Nat := aboveTo l l.length
theorem aboveTo_le (l : List Int) (k : Nat) : aboveTo l k ≤ k := by
  induction k with
  | zero => exact Nat.le_refl _
  | succ k ih => unfold aboveTo; split <;> omega
theorem above_le (l : List Int) : above l ≤ l.length := aboveTo_le l _
theorem aboveTo_mark {l : List Int} {k a : Nat} (h : aboveTo l k = a + 1) : l.getD a 0 < 0 := by
  induction k with
  | zero => simp [aboveTo] at h
  | succ k ih =>
    unfold aboveTo at h
    split at h
    · next hm =>
      obtain rfl : k = a := by omega
      exact hm
    · exact ih h
theorem above_mark {l : List Int} {a : Nat} (h : above l = a + 1) : l.getD a 0 < 0 := aboveTo_mark h
theorem aboveTo_free {l : List Int} {k j : Nat} (h : aboveTo l k ≤ j) (hj : j < k) : 0 ≤ l.getD j 0 := by
  induction k with
  | zero => omega
  | succ k ih =>
    unfold aboveTo at h
    split at h
    · omega
    · next hm =>
      by_cases e : j = k
      · subst e; omega
      · exact ih h (by omega)
theorem above_free {l : List Int} {j : Nat} (h : above l ≤ j) (hj : j < l.length) : 0 ≤ l.getD j 0 := aboveTo_free h hj
def KeyK (k : Int) : Prop := k = 0 ∨ k = 1
def KeysP (kinds list : List Int) : Prop := ∀ (i : Nat) (x : Int), i % 2 = 0 → list[i]? = some x → KeyK (kinds.getD x.toNat 0)
open Classical in
noncomputable def markStep (s : Shp) (c : Int) : Option Shp :=
  if above s.stack = 0 then none
  else if c = 3 then some ((s.cutTo (above s.stack - 1)).push 2)
  else if c = 9 then (if (s.cutTo (above s.stack - 1)).kindAt 0 = 3 then some (s.cutTo (above s.stack - 1)) else none)
  else if c = 12 then (if KeysP s.kinds (s.stack.drop (above s.stack)) ∧ (s.cutTo (above s.stack - 1)).kindAt 0 = 4 ∧ (s.stack.length - above s.stack) % 2 = 0 then some (s.cutTo (above s.stack - 1)) else none)
  else some (s.cutTo (above s.stack - 1))
open Classical in
noncomputable def takeStep (s : Shp) (o : Od) : Option Shp :=
  if s.kindAt 0 < 0 then none
  else if o.code = 5 then some ((s.cutTo (s.stack.length - 1)).push 2)
  else if o.code = 6 then (if s.kindAt 1 < 0 then none else some ((s.cutTo (s.stack.length - 2)).push 2))
  else if o.code = 8 then (if s.kindAt 1 = 3 then some (s.cutTo (s.stack.length - 1)) else none)
  else if o.code = 11 then (if KeyK (s.kindAt 1) ∧ s.kindAt 2 = 4 then some (s.cutTo (s.stack.length - 2)) else none)
  else if o.code = 14 then (if s.kindAt 1 = 5 ∧ s.full.getD (s.thing 1).toNat false = false then some { s.cutTo (s.stack.length - 1) with full := s.full.set (s.thing 1).toNat true } else none)
  else if o.code = 15 then some { s with memo := s.memo.set o.arg.toNat (s.thing 0) }
  else if o.code = 19 then (if s.stack.length = 1 then some { s with done := true } else none)
  else some (s.cutTo (s.stack.length - 1))
def newK (c : Int) : Int := if c = 0 then 0 else if c = 1 then 1 else if c = 4 then 2 else if c = 7 then 3 else if c = 10 then 4 else if c = 13 then 5 else -1
def IsMarkOp (c : Int) : Prop := c = 3 ∨ c = 9 ∨ c = 12 ∨ c = 18
open Classical in
noncomputable def stepFree (s : Shp) (o : Od) : Option Shp :=
  if s.done = true then none
  else if 0 ≤ newK o.code then some (s.push (newK o.code))
  else if o.code = 2 then some { s with stack := s.stack ++ [-1] }
  else if o.code = 16 then (if s.memo.getD o.arg.toNat 0 < 0 then none else some { s with stack := s.stack ++ [s.memo.getD o.arg.toNat 0] })
  else if IsMarkOp o.code then markStep s o.code
  else takeStep s o
def Shp.Fits (s : Shp) : Prop := s.kinds.length ≤ 300 ∧ s.stack.length ≤ 300
open Classical in
noncomputable def stepShp (s : Shp) (o : Od) : Option Shp := (stepFree s o).filter fun t => decide t.Fits
noncomputable def runShp (s : Shp) : List Od → Shp × Nat
  | [] => (s, 0)
  | o :: os => match stepShp s o with
    | none => (s, 0)
    | some t => ((runShp t os).1, (runShp t os).2 + 1)
structure Shp.Ok (s : Shp) : Prop where
  fl : s.full.length = s.kinds.length
  ml : s.memo.length = 20
  st : ∀ x ∈ s.stack, -1 ≤ x ∧ x < (s.kinds.length : Int)
  mm : ∀ x ∈ s.memo, -1 ≤ x ∧ x < (s.kinds.length : Int)
  kk : ∀ x ∈ s.kinds, 0 ≤ x ∧ x ≤ 5
theorem Shp.new_ok : Shp.new.Ok := by
  refine ⟨rfl, by simp [Shp.new], ?_, ?_, ?_⟩ <;> intro x hx <;> simp [Shp.new] at hx
  subst hx
  simp [Shp.new]
theorem Shp.Ok.push {s : Shp} (h : s.Ok) {k : Int} (hk : 0 ≤ k ∧ k ≤ 5) : (s.push k).Ok := by
  refine ⟨by simp [Shp.push, h.fl], h.ml, ?_, ?_, ?_⟩
  · intro x hx
    simp [Shp.push] at hx ⊢
    rcases hx with hx | rfl
    · have := h.st x hx; omega
    · omega
  · intro x hx
    have := h.mm x hx
    simp [Shp.push]
    omega
  · intro x hx
    simp [Shp.push] at hx
    rcases hx with hx | rfl
    · exact h.kk x hx
    · exact hk
theorem Shp.Ok.cut {s : Shp} (h : s.Ok) (n : Nat) : (s.cutTo n).Ok :=
  ⟨h.fl, h.ml, fun x hx => h.st x (List.mem_of_mem_take hx), h.mm, h.kk⟩
theorem Shp.Ok.snoc {s : Shp} (h : s.Ok) {x : Int} (hx : -1 ≤ x ∧ x < (s.kinds.length : Int)) : Shp.Ok { s with stack := s.stack ++ [x] } :=
  ⟨h.fl, h.ml, fun y hy => by
    simp at hy
    rcases hy with hy | rfl
    · exact h.st y hy
    · exact hx, h.mm, h.kk⟩
theorem getD_mem {α : Type} {l : List α} {k : Nat} {d : α} (h : k < l.length) : l.getD k d ∈ l := by
  rw [List.getD_eq_getElem?_getD, List.getElem?_eq_getElem h]
  exact List.getElem_mem h
theorem Shp.Ok.thing {s : Shp} (h : s.Ok) (d : Nat) : -1 ≤ s.thing d ∧ (s.thing d < (s.kinds.length : Int)) := by
  unfold Shp.thing
  split
  · exact h.st _ (getD_mem (by omega))
  · omega
theorem Shp.Ok.kindAt {s : Shp} (h : s.Ok) (d : Nat) : -1 ≤ s.kindAt d ∧ s.kindAt d ≤ 5 ∧ (s.kindAt d < 0 ↔ s.thing d < 0) := by
  unfold Shp.kindAt
  have ht := h.thing d
  split
  · next hl => exact ⟨by omega, by omega, by simp [hl]⟩
  · next hl =>
    have := h.kk _ (getD_mem (d := 0) (show (s.thing d).toNat < s.kinds.length by omega))
    exact ⟨by omega, by omega, by omega⟩
theorem Shp.kind_lt {s : Shp} {d : Nat} (h : ¬ s.kindAt d < 0) : d < s.stack.length := by
  unfold Shp.kindAt Shp.thing at h
  by_cases hd : d < s.stack.length
  · exact hd
  · rw [if_neg hd] at h
    simp at h
theorem newK_le (c : Int) : newK c ≤ 5 := by unfold newK; repeat' split
                                             all_goals omega
theorem stepFree_ok {s t : Shp} {o : Od} (h : s.Ok) (he : stepFree s o = some t) (ha : o.code = 16 → o.arg.toNat < 20) : t.Ok ∧ t.kinds.length ≤ s.kinds.length + 1 ∧ t.stack.length ≤ s.stack.length + 1 ∧ s.kinds.length ≤ t.kinds.length := by
  have hcl : ∀ n, (s.stack.take n).length ≤ s.stack.length := fun n => by simp; omega
  unfold stepFree at he
  split at he
  · cases he
  split at he
  · next h0 =>
    cases he
    exact ⟨h.push ⟨h0, newK_le _⟩, by simp [Shp.push], by simp [Shp.push], by simp [Shp.push]⟩
  split at he
  · cases he
    exact ⟨h.snoc ⟨by omega, by omega⟩, by simp, by simp, by simp⟩
  split at he
  · next h16 =>
    split at he
    · cases he
    · next hm =>
      cases he
      have := h.mm _ (getD_mem (d := 0) (show o.arg.toNat < s.memo.length by rw [h.ml]; exact ha h16))
      exact ⟨h.snoc ⟨by omega, by omega⟩, by simp, by simp, by simp⟩
  split at he
  · unfold markStep at he
    split at he
    · cases he
    have hc := h.cut (above s.stack - 1)
    have hl := hcl (above s.stack - 1)
    repeat' split at he
    all_goals first
      | (cases he; done)
      | (cases he; exact ⟨hc.push (by omega), by simp [Shp.push, Shp.cutTo], by simp [Shp.push, Shp.cutTo] <;> omega, by simp [Shp.push, Shp.cutTo]⟩)
      | (cases he; exact ⟨hc, by simp [Shp.cutTo], by simp [Shp.cutTo] <;> omega, by simp [Shp.cutTo]⟩)
  · unfold takeStep at he
    split at he
    · cases he
    next hk0 =>
    have hk := Shp.kind_lt hk0
    have hc := fun n => h.cut n
    repeat' split at he
    all_goals first
      | (cases he; done)
      | (cases he; exact ⟨(hc _).push (by omega), by simp [Shp.push, Shp.cutTo], by simp [Shp.push, Shp.cutTo] <;> omega, by simp [Shp.push, Shp.cutTo]⟩)
      | (cases he; exact ⟨hc _, by simp [Shp.cutTo], by simp [Shp.cutTo] <;> omega, by simp [Shp.cutTo]⟩)
      | (cases he; exact ⟨⟨by simp [Shp.cutTo, h.fl], h.ml, (hc _).st, h.mm, h.kk⟩, by simp [Shp.cutTo], by simp [Shp.cutTo] <;> omega, by simp [Shp.cutTo]⟩)
      | (cases he; exact ⟨⟨h.fl, h.ml, h.st, h.mm, h.kk⟩, by simp, by simp, by simp⟩)
      | (cases he
         refine ⟨⟨h.fl, by simp [h.ml], h.st, fun x hx => ?_, h.kk⟩, by simp, by simp, by simp⟩
         rcases List.mem_or_eq_of_mem_set hx with hx | rfl
         · exact h.mm x hx
         · have := h.thing 0; omega)
theorem stepShp_some {s t : Shp} {o : Od} (h : stepShp s o = some t) : stepFree s o = some t ∧ t.Fits := by
  unfold stepShp at h
  rw [Option.filter_eq_some_iff] at h
  exact ⟨h.1, by simpa using h.2⟩
theorem stepShp_of {s t : Shp} {o : Od} (h : stepFree s o = some t) (hf : t.Fits) : stepShp s o = some t := by
  unfold stepShp
  rw [Option.filter_eq_some_iff]
  exact ⟨h, by simpa using hf⟩
theorem stepShp_none {s : Shp} {o : Od} (h : stepFree s o = none) : stepShp s o = none := by
  unfold stepShp
  rw [h]
  rfl
theorem stepShp_wide {s t : Shp} {o : Od} (h : stepFree s o = some t) (hf : ¬ t.Fits) : stepShp s o = none := by
  unfold stepShp
  rw [h]
  simp [hf]
theorem stepShp_ok {s t : Shp} {o : Od} (h : s.Ok) (he : stepShp s o = some t) (ha : o.code = 16 → o.arg.toNat < 20) : t.Ok ∧ t.Fits := ⟨(stepFree_ok h (stepShp_some he).1 ha).1, (stepShp_some he).2⟩
theorem runShp_end (s : Shp) : runShp s [] = (s, 0) := rfl
theorem runShp_stop {s : Shp} {o : Od} {os : List Od} (h : stepShp s o = none) : runShp s (o :: os) = (s, 0) := by
  rw [runShp, h]
theorem runShp_go {s t : Shp} {o : Od} {os : List Od} (h : stepShp s o = some t) : runShp s (o :: os) = ((runShp t os).1, (runShp t os).2 + 1) := by
  rw [runShp, h]
theorem OdOk.get {o : Od} (h : OdOk o) : o.code = 16 → o.arg.toNat < 20 := by
  intro e
  have := h.2
  rw [e] at this
  simp [argMost] at this
  omega
theorem runShp_ok {s : Shp} {os : List Od} (h : s.Ok) (hf : s.Fits) (ho : ∀ o ∈ os, o.code = 16 → o.arg.toNat < 20) : (runShp s os).1.Ok ∧ (runShp s os).1.Fits ∧ (runShp s os).2 ≤ os.length := by
  induction os generalizing s with
  | nil => exact ⟨h, hf, Nat.le_refl _⟩
  | cons o os ih =>
    cases he : stepShp s o with
    | none => rw [runShp_stop he]; exact ⟨h, hf, Nat.zero_le _⟩
    | some t =>
      rw [runShp_go he]
      obtain ⟨h1, h2⟩ := stepShp_ok h he (ho o (by simp))
      obtain ⟨h3, h4, h5⟩ := ih h1 h2 (fun o ho2 => ho o (by simp [ho2]))
      exact ⟨h3, h4, by simp; omega⟩
end Go.Proofs.YtbihgafkmmcjlaaDoor

namespace Go.Proofs.YtbihgafkmmcjlaaDoor
open Go.RowKit
set_option linter.unusedVariables false
def BytesAt (w : World) (B : Nat) (A : Option Addr) (n : Nat) : Prop := ∀ k, k < n → ∃ b off x : Nat, A = some ⟨b, off, none⟩ ∧ b < B ∧ w.cell? ⟨b, off + k, none⟩ = some (.int .u8 (x : Int)) ∧ x < 256
structure Rd (w : World) (rb : Nat) (A : Option Addr) (n c p : Nat) : Prop where
  box : Lies w rb #[.slice A n c, .int .i64 (p : Int)] 54
  bytes : BytesAt w rb A n
  few : n ≤ 2000
structure Turn (g : Nat) (w w' : World) : Prop where
  os : w'.os = w.os
  tape : w'.tape = w.tape
  output : w'.output = w.output
  size : w'.heap.size = w.heap.size
  block : ∀ k, k ≠ g → w'.heap[k]? = w.heap[k]?
theorem xor_i64 (a b : Nat) (ha : a < 4611686018427387904) (hb : b < 4611686018427387904) : bits .xor .i64 (a : Int) (b : Int) = ((a ^^^ b : Nat) : Int) := by
  have hx : a ^^^ b < 2 ^ 62 := Nat.xor_lt_two_pow (by omega) (by omega)
  have h1 : (BitVec.ofInt 64 (a : Int)).toNat = a := by
    rw [BitVec.ofInt_natCast, BitVec.toNat_ofNat]; exact Nat.mod_eq_of_lt (by omega)
  have h2 : (BitVec.ofInt 64 (b : Int)).toNat = b := by
    rw [BitVec.ofInt_natCast, BitVec.toNat_ofNat]; exact Nat.mod_eq_of_lt (by omega)
  show IntKind.i64.wrap ((BitVec.ofInt 64 (a : Int) ^^^ BitVec.ofInt 64 (b : Int)).toNat : Int) = _
  rw [BitVec.toNat_xor, h1, h2, IntKind.wrap_i64]
  omega
theorem Rd.next {w : World} {rb : Nat} {A : Option Addr} {n c p : Nat} (h : Rd w rb A n c p) : Rd (w.setCell ⟨rb, 1, none⟩ (.int .i64 ((p : Int) + 1))) rb A n c (p + 1) ∧ Turn rb w (w.setCell ⟨rb, 1, none⟩ (.int .i64 ((p : Int) + 1))) := by
  have hb := h.box.set 1 (.int .i64 ((p : Int) + 1))
  simp only [jA, jC, jB] at hb
  refine ⟨⟨by simpa using hb, fun k hk => ?_, h.few⟩, ⟨rfl, rfl, rfl, by simp, fun k hk => Below.heap_setCell _ _ _ _ hk⟩⟩
  obtain ⟨b, off, x, h1, h2, h3, h4⟩ := h.bytes k hk
  refine ⟨b, off, x, h1, h2, ?_, h4⟩
  rw [World.cell?_setCell_other]
  · exact h3
  · intro e
    injection e with e _
    omega
def Picked (rb : Nat) (A : Option Addr) (n c p : Nat) (m : Int) (w : World) (e : Ending) (w' : World) : Prop :=
  (∃ x : Nat, e = .returned (.int .i64 (x : Int)) ∧ (1 ≤ m → (x : Int) < m) ∧ (m < 1 → x = 0)) ∧ Rd w' rb A n c (p + 1) ∧ Turn rb w w'
theorem Turn.drew {g : Nat} {w w' : World} (h : Turn g w w') : Turn g w w'.drew := ⟨h.os, h.tape, h.output, h.size, h.block⟩
theorem BytesAt.later {w w' : World} {B : Nat} {A : Option Addr} {n : Nat} (h : BytesAt w B A n) (hb : Below B w w') : BytesAt w' B A n := fun k hk => by
  obtain ⟨b, off, x, h1, h2, h3, h4⟩ := h k hk
  exact ⟨b, off, x, h1, h2, (hb.cell (p := ⟨b, off + k, none⟩) h2).trans h3, h4⟩
theorem Rd.drew {w : World} {rb : Nat} {A : Option Addr} {n c p : Nat} (h : Rd w rb A n c p) : Rd w.drew rb A n c p := ⟨h.box, h.bytes, h.few⟩
set_option maxRecDepth 100000 in
set_option maxHeartbeats 4000000 in
theorem pick_any (rb : Nat) (A : Option Addr) (n c p : Nat) (m : Int) (w : World) (h : Rd w rb A n c p) (hp : p < 1000000) (hm : m ≤ 1000000) :
    Calls Tryd.prog 19 #[.pointer (some ⟨rb, 0, none⟩), .int .i64 m] w (Picked rb A n c p m w) := by
  have e0 := h.box.cell 0
  have e1 := h.box.cell 1
  have f1 := h.box.frozen 1
  simp at e0 e1
  have hn := h.few
  have hx := h.next
  have HX := hide hx
  have z0 := hx.1.box.cell 0
  have z1 := hx.1.box.cell 1
  have hby := hx.1.bytes
  simp at z0 z1
  have HB := hide hby
  clear h hx hby
  by_cases hm1 : m < 1
  · have hfin : Hid (Picked rb A n c p m w (.returned (.int .i64 0)) (w.setCell ⟨rb, 1, none⟩ (.int .i64 ((p : Int) + 1)))) := ⟨⟨0, rfl, fun h => by omega, fun _ => rfl⟩, HX.out⟩
    have t1 : decide (m < 1) = true := by simpa using hm1
    go_enter Tryd.func19, Tryd.ntmps19
    go_wp2
    go_ret
    exact hfin.out
  · have t1 : decide (m < 1) = false := by simpa using hm1
    by_cases hn0 : n = 0
    · subst hn0
      have hfin : Hid (Picked rb A 0 c p m w (.returned (.int .i64 0)) (w.setCell ⟨rb, 1, none⟩ (.int .i64 ((p : Int) + 1)))) := ⟨⟨0, rfl, fun h => by show (0 : Int) < m; omega, fun _ => rfl⟩, HX.out⟩
      go_enter Tryd.func19, Tryd.ntmps19
      go_wp2
      go_ret
      exact hfin.out
    · have hne : ((n : Int) == 0) = false := by simpa using hn0
      have hpn0 : (0 : Int) ≤ (p : Int) := by omega
      by_cases hpn : p < n
      · obtain ⟨b, off, x, rfl, hb, hc, hx⟩ := HB.out p hpn
        have hpn2 : (p : Int) < (n : Int) := by omega
        go_enter Tryd.func19, Tryd.ntmps19
        have hfin : Hid (Picked rb (some ⟨b, off, none⟩) n c p m w (.returned (.int .i64 ((x : Int) % m))) (w.setCell ⟨rb, 1, none⟩ (.int .i64 ((p : Int) + 1)))) := by
          have h1 := Int.emod_nonneg (x : Int) (show m ≠ 0 by omega)
          have h2 := Int.emod_lt_of_pos (x : Int) (show 0 < m by omega)
          obtain ⟨y, hy⟩ := Int.eq_ofNat_of_zero_le h1
          rw [hy] at h2 ⊢
          exact ⟨⟨y, rfl, fun _ => h2, fun h => by omega⟩, HX.out⟩
        go_wp2
        go_ret
        exact hfin.out
      · obtain ⟨j1, hj1, hj1n⟩ : ∃ j : Nat, (p : Int) % (n : Int) = (j : Int) ∧ j < n := ⟨p % n, by simp, Nat.mod_lt _ (by omega)⟩
        obtain ⟨j2, hj2, hj2n⟩ : ∃ j : Nat, ((p : Int) * 7 + 3) % (n : Int) = (j : Int) ∧ j < n := ⟨(p * 7 + 3) % n, by simp, Nat.mod_lt _ (by omega)⟩
        obtain ⟨q, hq, hqp⟩ : ∃ q : Nat, (p : Int) / (n : Int) = (q : Int) ∧ q ≤ p := ⟨p / n, by simp, Nat.div_le_self _ _⟩
        obtain ⟨b, off, x1, rfl, hb, hc1, hx1⟩ := HB.out j1 hj1n
        obtain ⟨b', off', x2, he', _, hc2, hx2⟩ := HB.out j2 hj2n
        simp only [Option.some.injEq, Addr.mk.injEq, and_true] at he'
        obtain ⟨rfl, rfl⟩ := he'
        have hpn2 : (n : Int) ≤ (p : Int) := by omega
        have a1 : (0 : Int) ≤ (j1 : Int) := by omega
        have a2 : (j1 : Int) < (n : Int) := by omega
        have a3 : (0 : Int) ≤ (j2 : Int) := by omega
        have a4 : (j2 : Int) < (n : Int) := by omega
        go_enter Tryd.func19, Tryd.ntmps19
        go_wp2_with fail
        go_quiet (fail)
        obtain ⟨V, hV, hVl⟩ : ∃ V : Nat, (x1 : Int) * 131 + (x2 : Int) * 1117 + (p : Int) * 29 + (q : Int) * 53 = (V : Int) ∧ V < 4611686018427387904 := ⟨x1 * 131 + x2 * 1117 + p * 29 + q * 53, by simp, by omega⟩
        rw [hV]
        obtain ⟨D, hD, hDl⟩ : ∃ D : Nat, (V : Int) / 64 = (D : Int) ∧ D < 4611686018427387904 := ⟨V / 64, by simp, by omega⟩
        obtain ⟨Y, hY⟩ : ∃ Y : Nat, bits .xor .i64 (V : Int) (D : Int) = (Y : Int) := ⟨_, xor_i64 V D hVl hDl⟩
        have hfin : Hid (Picked rb (some ⟨b, off, none⟩) n c p m w (.returned (.int .i64 ((Y : Int) % m))) ((w.setCell ⟨rb, 1, none⟩ (.int .i64 ((p : Int) + 1))).drewN nq)) := by
          have h1 := Int.emod_nonneg (Y : Int) (show m ≠ 0 by omega)
          have h2 := Int.emod_lt_of_pos (Y : Int) (show 0 < m by omega)
          obtain ⟨y, hy⟩ := Int.eq_ofNat_of_zero_le h1
          rw [hy] at h2 ⊢
          exact ⟨⟨y, rfl, fun _ => h2, fun h => by omega⟩, ⟨HX.out.1.box, HX.out.1.bytes, HX.out.1.few⟩, ⟨HX.out.2.os, HX.out.2.tape, HX.out.2.output, HX.out.2.size, HX.out.2.block⟩⟩
        have hY0 : (0 : Int) ≤ (Y : Int) := by omega
        generalize (w.setCell ⟨rb, 1, none⟩ (.int .i64 ((p : Int) + 1))).drewN nq = X at hfin ⊢
        go_wp2
        go_ret
        exact hfin.out
end Go.Proofs.YtbihgafkmmcjlaaDoor

namespace Go.Proofs.YtbihgafkmmcjlaaDoor
open Go.RowKit
set_option linter.unusedVariables false
structure Grew (g : Nat) (w w' : World) : Prop where
  os : w'.os = w.os
  tape : w'.tape = w.tape
  output : w'.output = w.output
  size : w.heap.size ≤ w'.heap.size
  block : ∀ k, k < w.heap.size → k ≠ g → w'.heap[k]? = w.heap[k]?
theorem Grew.refl (g : Nat) (w : World) : Grew g w w := ⟨rfl, rfl, rfl, Nat.le_refl _, fun _ _ _ => rfl⟩
theorem Grew.trans {g : Nat} {a b c : World} (h : Grew g a b) (k : Grew g b c) : Grew g a c :=
  ⟨k.os.trans h.os, k.tape.trans h.tape, k.output.trans h.output, Nat.le_trans h.size k.size, fun j hj hn => (k.block j (Nat.lt_of_lt_of_le hj h.size) hn).trans (h.block j hj hn)⟩
theorem Grew.of_turn {g : Nat} {w w' : World} (h : Turn g w w') : Grew g w w' := ⟨h.os, h.tape, h.output, by rw [h.size]; exact Nat.le_refl _, fun k _ hk => h.block k hk⟩
theorem Grew.of_below {g : Nat} {w w' : World} (h : Below w.heap.size w w') : Grew g w w' := ⟨h.os, h.tape, h.output, h.size, fun k hk _ => h.block k hk⟩
theorem Grew.below {g B : Nat} {w0 w w' : World} (h : Grew g w w') (hb : Below B w0 w) (hg : B ≤ g) (hB : B ≤ w.heap.size) : Below B w0 w' :=
  hb.trans ⟨h.os, h.tape, h.output, h.size, fun k hk => h.block k (by omega) (by omega)⟩
theorem Rd.below {w w' : World} {rb : Nat} {A : Option Addr} {n c p : Nat} (h : Rd w rb A n c p) (hb : Below w.heap.size w w') : Rd w' rb A n c p :=
  ⟨h.box.below hb h.box.lt, h.bytes.later (hb.mono (Nat.le_of_lt h.box.lt)), h.few⟩
theorem Grew.cell {g : Nat} {w w' : World} (h : Grew g w w') {b o : Nat} (h1 : b < w.heap.size) (h2 : b ≠ g) : w'.cell? ⟨b, o, none⟩ = w.cell? ⟨b, o, none⟩ := World.cell?_of_block (w := w) (h.block b h1 h2)
theorem Lies.grew {g b : Nat} {w w' : World} {cs : Array Value} {t : TypeId} (h : Lies w b cs t) (hg : Grew g w w') (h2 : b ≠ g) : Lies w' b cs t := (hg.block b h.lt h2).trans h
def Chosen (rb : Nat) (A : Option Addr) (n c p : Nat) (xs : List Int) (w : World) (e : Ending) (w' : World) : Prop :=
  (∃ x ∈ xs, e = .returned (.int .i64 x)) ∧ Rd w' rb A n c (p + 1) ∧ Turn rb w w'
set_option maxHeartbeats 1000000 in
theorem one_any (rb : Nat) (A : Option Addr) (n c p g l c2 : Nat) (xs : List Int) (w : World) (h : Rd w rb A n c p) (hp : p < 1000000) (hl : xs.length = l) (h1 : 1 ≤ l) (h2 : l ≤ 100) (hg : g ≠ rb) (hc : ∀ k x, xs[k]? = some x → w.cell? ⟨g, k, none⟩ = some (.int .i64 x)) :
    Calls Tryd.prog 24 #[.pointer (some ⟨rb, 0, none⟩), .slice (some ⟨g, 0, none⟩) l c2] w (Chosen rb A n c p xs w) := by
  have HC := hide hc
  have Hl := hide hl
  clear hc hl
  go_enter Tryd.func24, Tryd.ntmps24
  go_wp2_with fail
  refine (pick_any rb A n c p (l : Int) w h hp (by omega)).mono ?_
  rintro e w' ⟨⟨x, rfl, hx, _⟩, hr, ht⟩
  have hxl : (x : Int) < (l : Int) := hx (by omega)
  have hx0 : (0 : Int) ≤ (x : Int) := by omega
  obtain ⟨y, hy⟩ : ∃ y, xs[x]? = some y := ⟨_, List.getElem?_eq_getElem (by have := Hl.out; omega)⟩
  have hcell : w'.cell? ⟨g, x, none⟩ = some (.int .i64 y) := (World.cell?_of_block (w := w) (ht.block g hg)).trans (HC.out x y hy)
  have hfin : Hid (Chosen rb A n c p xs w (.returned (.int .i64 y)) w') := ⟨⟨y, List.mem_of_getElem? hy, rfl⟩, hr, ht⟩
  clear hr ht hx hy
  go_wp2
  go_ret
  exact hfin.out
end Go.Proofs.YtbihgafkmmcjlaaDoor

namespace Go.Proofs.YtbihgafkmmcjlaaDoor
open Go.RowKit
set_option linter.unusedVariables false
def marks (k : Int) (n : Nat) : List Int := (List.range n).map fun (i : Nat) => k + (i : Int)
structure Only (lo hi : Nat) (w w' : World) : Prop where
  os : w'.os = w.os
  tape : w'.tape = w.tape
  output : w'.output = w.output
  size : w'.heap.size = w.heap.size
  block : ∀ k, k < lo ∨ hi ≤ k → w'.heap[k]? = w.heap[k]?
theorem Only.refl (lo hi : Nat) (w : World) : Only lo hi w w := ⟨rfl, rfl, rfl, rfl, fun _ _ => rfl⟩
theorem Only.trans {lo hi : Nat} {a b c : World} (h : Only lo hi a b) (k : Only lo hi b c) : Only lo hi a c :=
  ⟨k.os.trans h.os, k.tape.trans h.tape, k.output.trans h.output, k.size.trans h.size, fun j hj => (k.block j hj).trans (h.block j hj)⟩
theorem Only.setCell {lo hi : Nat} {a w : World} (h : Only lo hi a w) {p : Addr} (h1 : lo ≤ p.block) (h2 : p.block < hi) (u : Value) : Only lo hi a (w.setCell p u) :=
  h.trans ⟨rfl, rfl, rfl, by simp, fun k hk => Below.heap_setCell _ _ _ _ (by omega)⟩
theorem Only.below {lo hi : Nat} {w w' : World} (h : Only lo hi w w') : Below lo w w' := ⟨h.os, h.tape, h.output, by rw [h.size]; exact Nat.le_refl _, fun k hk => h.block k (.inl hk)⟩
theorem Only.mono {lo hi lo' hi' : Nat} {w w' : World} (h : Only lo hi w w') (h1 : lo' ≤ lo) (h2 : hi ≤ hi') : Only lo' hi' w w' :=
  ⟨h.os, h.tape, h.output, h.size, fun k hk => h.block k (by omega)⟩
theorem OwnI.only {w w' : World} {base lo hi : Nat} {A : Option Addr} {c : Nat} {xs : List Int} (h : OwnI w base A c xs) (ho : Only lo hi w w') (hA : ∀ g, blockOf A = some g → g < lo ∨ hi ≤ g) : OwnI w' base A c xs := by
  refine ⟨h.own.1, ?_⟩
  rcases h.own.2 with h2 | ⟨g, cap, cur, hv, hg, hh, r⟩
  · exact .inl h2
  · refine .inr ⟨g, cap, cur, hv, hg, ?_, r⟩
    rw [ho.block g]
    · exact hh
    · apply hA g
      injection hv with hv
      rw [hv]
      rfl
structure Save (lo hi : Nat) (w w' : World) : Prop where
  os : w'.os = w.os
  tape : w'.tape = w.tape
  output : w'.output = w.output
  size : w.heap.size ≤ w'.heap.size
  block : ∀ k, k < w.heap.size → k < lo ∨ hi ≤ k → w'.heap[k]? = w.heap[k]?
theorem Save.of_below {lo hi : Nat} {w w' : World} (h : Below w.heap.size w w') : Save lo hi w w' := ⟨h.os, h.tape, h.output, h.size, fun k hk _ => h.block k hk⟩
theorem Save.trans {lo hi : Nat} {a b c : World} (h : Save lo hi a b) (k : Save lo hi b c) : Save lo hi a c :=
  ⟨k.os.trans h.os, k.tape.trans h.tape, k.output.trans h.output, Nat.le_trans h.size k.size, fun j hj hl => (k.block j (Nat.lt_of_lt_of_le hj h.size) hl).trans (h.block j hj hl)⟩
theorem Save.below {lo hi : Nat} {w w' : World} (h : Save lo hi w w') (hl : lo ≤ w.heap.size) : Below lo w w' := ⟨h.os, h.tape, h.output, h.size, fun k hk => h.block k (by omega) (.inl hk)⟩
theorem OwnI.save {w w' : World} {base lo hi : Nat} {A : Option Addr} {c : Nat} {xs : List Int} (h : OwnI w base A c xs) (ho : Save lo hi w w') (hA : ∀ g, blockOf A = some g → g < lo ∨ hi ≤ g) : OwnI w' base A c xs := by
  refine ⟨h.own.1, ?_⟩
  have hbl := h.blocks
  rcases h.own.2 with h2 | ⟨g, cap, cur, hv, hg, hh, r⟩
  · exact .inl h2
  · have hAg : blockOf A = some g := by
      injection hv with hv
      rw [hv]
      rfl
    refine .inr ⟨g, cap, cur, hv, hg, ?_, r⟩
    rw [ho.block g (hbl g hAg).2 (hA g hAg)]
    exact hh
end Go.Proofs.YtbihgafkmmcjlaaDoor
