/-
  Lemmas, several texts in one: InfoO, DpM, ShG, InR, Keep, SzI, EqI.
-/
import Derived.Test.YtanicidkmfoooabDoorPjAa
import Derived.Test.YtanicidkmfoooabDoorPjAh
import Derived.Test.YtanicidkmfoooabDoorPjAb
import Derived.Test.YtanicidkmfoooabDoorPjAc
namespace Go.Proofs.YtanicidkmfoooabDoor

theorem infoOp : (Tryd.prog.info? 39).map (fun i => (i.zero, i.size, i.bytes)) = some (some (.agg #[.int .i64 0, .int .i64 0]), 2, 16) := by kernel_rfl

end Go.Proofs.YtanicidkmfoooabDoor

namespace Go.Proofs.YtanicidkmfoooabDoor
set_option linter.unusedVariables false

/-- how many marks a stack has -/
def marksIn (l : List Int) : Nat := (l.filter fun x => decide (x < 0)).length

/-- what is told of the stack after each of the first n orders -/
noncomputable def toldOf (f : List Int → Nat) (os : List Od) (n : Nat) : List Int := (List.range n).map fun j => ((f (stk os (j + 1)) : Nat) : Int)

theorem toldOf_len (f : List Int → Nat) (os : List Od) (n : Nat) : (toldOf f os n).length = n := by simp [toldOf]
theorem toldOf_succ (f : List Int → Nat) (os : List Od) (n : Nat) : toldOf f os (n + 1) = toldOf f os n ++ [((f (stk os (n + 1)) : Nat) : Int)] := by
  unfold toldOf
  rw [List.range_succ, List.map_append]
  rfl

open Classical in
/-- how many things are on the stack after each order -/
noncomputable def depthsOf (os : List Od) : List Int := if OpsOk os then toldOf List.length os (runShp Shp.new os).2 else []
open Classical in
/-- how many marks are on the stack after each order -/
noncomputable def marksOf (os : List Od) : List Int := if OpsOk os then toldOf marksIn os (runShp Shp.new os).2 else []

theorem stk_le {os : List Od} (h : ∀ o ∈ os, OdOk o) (j : Nat) : (stk os j).length ≤ 300 :=
  (runShp_ok (s := Shp.new) (os := os.take j) Shp.new_ok ⟨by simp [Shp.new], by simp [Shp.new]⟩ (fun o ho => (h o (List.mem_of_mem_take ho)).get)).2.1.2
theorem stk_ok {os : List Od} (h : ∀ o ∈ os, OdOk o) (j : Nat) : (runShp Shp.new (os.take j)).1.Ok :=
  (runShp_ok (s := Shp.new) (os := os.take j) Shp.new_ok ⟨by simp [Shp.new], by simp [Shp.new]⟩ (fun o ho => (h o (List.mem_of_mem_take ho)).get)).1
theorem marksIn_le (l : List Int) : marksIn l ≤ l.length := List.length_filter_le _ _
theorem run_le {os : List Od} (h : ∀ o ∈ os, OdOk o) : (runShp Shp.new os).2 ≤ os.length :=
  (runShp_ok (s := Shp.new) (os := os) Shp.new_ok ⟨by simp [Shp.new], by simp [Shp.new]⟩ (fun o ho => (h o ho).get)).2.2

theorem toldOf_64 {f : List Int → Nat} (hf : ∀ l, f l ≤ l.length) {os : List Od} (h : ∀ o ∈ os, OdOk o) (n : Nat) : ∀ x ∈ toldOf f os n, In64 x := by
  intro x hx
  unfold toldOf at hx
  obtain ⟨j, _, rfl⟩ := List.mem_map.1 hx
  have h1 := hf (stk os (j + 1))
  have h2 := stk_le h (j + 1)
  constructor <;> omega

theorem depthsOf_few {os : List Od} : (depthsOf os).length ≤ 300 := by
  unfold depthsOf
  split
  · next h => rw [toldOf_len]; exact Nat.le_trans (run_le h.2) h.1
  · simp
theorem depthsOf_64 {os : List Od} : ∀ x ∈ depthsOf os, In64 x := by
  unfold depthsOf
  split
  · next h => exact toldOf_64 (fun l => Nat.le_refl _) h.2 _
  · intro x hx; simp at hx
theorem marksOf_few {os : List Od} : (marksOf os).length ≤ 300 := by
  unfold marksOf
  split
  · next h => rw [toldOf_len]; exact Nat.le_trans (run_le h.2) h.1
  · simp
theorem marksOf_64 {os : List Od} : ∀ x ∈ marksOf os, In64 x := by
  unfold marksOf
  split
  · next h => exact toldOf_64 marksIn_le h.2 _
  · intro x hx; simp at hx

end Go.Proofs.YtanicidkmfoooabDoor

namespace Go.Proofs.YtanicidkmfoooabDoor
open Go.RowKit
set_option linter.unusedVariables false

open Classical in
noncomputable def shOf (os : List Od) : Shp := if OpsOk os then (runShp Shp.new os).1 else ⟨[], [], [], [], false⟩
open Classical in
noncomputable def shN (os : List Od) : Int := if OpsOk os then ((runShp Shp.new os).2 : Int) else -1
theorem shOf_yes {os : List Od} (h : OpsOk os) : shOf os = (runShp Shp.new os).1 := by unfold shOf; rw [if_pos h]
theorem shOf_no {os : List Od} (h : ¬ OpsOk os) : shOf os = ⟨[], [], [], [], false⟩ := by unfold shOf; rw [if_neg h]
theorem shN_yes {os : List Od} (h : OpsOk os) : shN os = ((runShp Shp.new os).2 : Int) := by unfold shN; rw [if_pos h]
theorem shN_no {os : List Od} (h : ¬ OpsOk os) : shN os = -1 := by unfold shN; rw [if_neg h]

/-- the shapes come back in memory of the call's own, with a number -/
def GivesSO (w : World) (os : List Od) (e : Ending) (w' : World) : Prop :=
  ∃ p : ShPtr, e = .returned (.tuple #[.agg #[.slice p.K (shOf os).kinds.length p.c1, .slice p.F (shOf os).full.length p.c2, .slice p.S (shOf os).stack.length p.c3, .slice p.M (shOf os).memo.length p.c4, .bool (shOf os).done], .int .i64 (shN os)]) ∧ ShOwn w' w.heap.size p (shOf os) ∧ Below w.heap.size w w'

theorem ShOwn.nothing (w : World) (base : Nat) : ShOwn w base ShPtr.nil ⟨[], [], [], [], false⟩ :=
  ⟨OwnI.empty _ _, OwnB.empty _ _, OwnI.empty _ _, OwnI.empty _ _, (fun b hb => by cases hb), (fun b hb => by cases hb), (fun b hb => by cases hb), (fun b hb => by cases hb), (fun b hb => by cases hb), (fun b hb => by cases hb)⟩

/-- numbers of what comes back -/
structure ShFew (s : Shp) : Prop where
  k : s.kinds.length ≤ 300
  f : s.full.length ≤ 300
  t : s.stack.length ≤ 300
  m : s.memo.length ≤ 300
  k64 : ∀ x ∈ s.kinds, In64 x
  t64 : ∀ x ∈ s.stack, In64 x
  m64 : ∀ x ∈ s.memo, In64 x

theorem shOf_few (os : List Od) : ShFew (shOf os) := by
  by_cases h : OpsOk os
  · rw [shOf_yes h]
    obtain ⟨h1, h2, h3⟩ := runShp_ok (s := Shp.new) (os := os) Shp.new_ok ⟨by simp [Shp.new], by simp [Shp.new]⟩ (fun o ho => (h.2 o ho).get)
    have a1 := h2.1
    have a2 := h2.2
    have a3 := h1.fl
    have a4 := h1.ml
    refine ⟨a1, by omega, a2, by omega, fun x hx => ?_, fun x hx => ?_, fun x hx => ?_⟩
    · have := h1.kk x hx
      constructor <;> omega
    · have := h1.st x hx
      constructor <;> omega
    · have := h1.mm x hx
      constructor <;> omega
  · rw [shOf_no h]
    exact ⟨by simp, by simp, by simp, by simp, by simp, by simp, by simp⟩

end Go.Proofs.YtanicidkmfoooabDoor

namespace Go.Proofs.YtanicidkmfoooabDoor
open Go.RowKit

theorem inRange_yes (n lo hi : Int) (w : World) (h1 : lo ≤ n) (h2 : n ≤ hi) :
    Calls Tryd.prog 33 #[.int .i64 n, .int .i64 lo, .int .i64 hi] w fun e w' => e = .returned (.bool true) ∧ w = w' := by
  have d1 : decide (lo ≤ n) = true := by simpa using h1
  have d2 : decide (n ≤ hi) = true := by simpa using h2
  go_enter Tryd.func33, Tryd.ntmps33
  go_wp2
  go_ret
  exact ⟨rfl, rfl⟩

theorem inRange_no (n lo hi : Int) (w : World) (h : n < lo ∨ hi < n) :
    Calls Tryd.prog 33 #[.int .i64 n, .int .i64 lo, .int .i64 hi] w fun e w' => e = .returned (.bool false) ∧ w = w' := by
  by_cases h1 : lo ≤ n
  · have h2 : ¬ n ≤ hi := by omega
    have d1 : decide (lo ≤ n) = true := by simpa using h1
    have d2 : decide (n ≤ hi) = false := by simpa using h2
    clear h
    go_enter Tryd.func33, Tryd.ntmps33
    go_wp2
    go_ret
    exact ⟨rfl, rfl⟩
  · have d1 : decide (lo ≤ n) = false := by simpa using h1
    clear h
    go_enter Tryd.func33, Tryd.ntmps33
    go_wp2
    go_ret
    exact ⟨rfl, rfl⟩

end Go.Proofs.YtanicidkmfoooabDoor

namespace Go.Proofs.YtanicidkmfoooabDoor
open Go.RowKit
set_option linter.unusedVariables false

/-- the blocks from lo on and below hi are in b as they are in a -/
structure Keeps (lo hi : Nat) (a b : World) : Prop where
  os : b.os = a.os
  tape : b.tape = a.tape
  output : b.output = a.output
  size : a.heap.size ≤ b.heap.size
  top : hi ≤ a.heap.size
  block : ∀ q, lo ≤ q → q < hi → b.heap[q]? = a.heap[q]?

theorem Keeps.refl (lo hi : Nat) (a : World) (h : hi ≤ a.heap.size) : Keeps lo hi a a := ⟨rfl, rfl, rfl, Nat.le_refl _, h, fun _ _ _ => rfl⟩
theorem Keeps.at_ (lo : Nat) (a : World) : Keeps lo a.heap.size a a := Keeps.refl _ _ _ (Nat.le_refl _)
theorem Keeps.step {lo hi : Nat} {a b c : World} (h : Keeps lo hi a b) (hb : Below b.heap.size b c) : Keeps lo hi a c :=
  ⟨hb.os.trans h.os, hb.tape.trans h.tape, hb.output.trans h.output, Nat.le_trans h.size hb.size, h.top, fun q h1 h2 => (hb.block q (by have := h.size; have := h.top; omega)).trans (h.block q h1 h2)⟩
theorem Keeps.only {lo hi l u : Nat} {a b c : World} (h : Keeps lo hi a b) (ho : Only l u b c) (hd : hi ≤ l ∨ u ≤ lo) : Keeps lo hi a c :=
  ⟨ho.os.trans h.os, ho.tape.trans h.tape, ho.output.trans h.output, by rw [ho.size]; exact h.size, h.top, fun q h1 h2 => (ho.block q (by omega)).trans (h.block q h1 h2)⟩
theorem Keeps.save {lo hi l u : Nat} {a b c : World} (h : Keeps lo hi a b) (ho : Save l u b c) (hd : hi ≤ l ∨ u ≤ lo) : Keeps lo hi a c :=
  ⟨ho.os.trans h.os, ho.tape.trans h.tape, ho.output.trans h.output, Nat.le_trans h.size ho.size, h.top, fun q h1 h2 => (ho.block q (by have := h.size; have := h.top; omega) (by omega)).trans (h.block q h1 h2)⟩
theorem Keeps.mono {lo hi lo' hi' : Nat} {a b : World} (h : Keeps lo hi a b) (h1 : lo ≤ lo') (h2 : hi' ≤ hi) : Keeps lo' hi' a b :=
  ⟨h.os, h.tape, h.output, h.size, Nat.le_trans h2 h.top, fun q h3 h4 => h.block q (by omega) (by omega)⟩
theorem Keeps.bel {hi : Nat} {a b : World} (h : Keeps 0 hi a b) : Below hi a b := ⟨h.os, h.tape, h.output, h.size, fun q hq => h.block q (Nat.zero_le _) hq⟩
theorem Lies.keep {lo hi g : Nat} {a b : World} {cs : Array Value} {t : TypeId} (h : Lies a g cs t) (k : Keeps lo hi a b) (h1 : lo ≤ g) (h2 : g < hi) : Lies b g cs t := (k.block g h1 h2).trans h
theorem OwnI.keepK {lo hi base : Nat} {a b : World} {A : Option Addr} {c : Nat} {xs : List Int} (h : OwnI a base A c xs) (k : Keeps lo hi a b) (h1 : lo ≤ base) (h2 : hi = a.heap.size) : OwnI b base A c xs := by
  have hbl := h.blocks
  refine ⟨h.own.1, ?_⟩
  rcases h.own.2 with h3 | ⟨g, cap, cur, hv, hg, hh, r⟩
  · exact .inl h3
  · refine .inr ⟨g, cap, cur, hv, hg, ?_, r⟩
    injection hv with hv _ _
    have := hbl g (by rw [hv]; rfl)
    exact (k.block g (by omega) (by omega)).trans hh
theorem rowIs_keep {lo hi g n : Nat} {a b : World} {t : TypeId} {f : Nat → Value} (h : a.rowIs g t n f) (k : Keeps lo hi a b) (h1 : lo ≤ g) (h2 : g < hi) : b.rowIs g t n f := h.of_block (k.block g h1 h2)

end Go.Proofs.YtanicidkmfoooabDoor

namespace Go.Proofs.YtanicidkmfoooabDoor

/-- what szIntS counts -/
def szI (n : Nat) (left : Int) : Int := if left - n < 0 then -1 else left - n

theorem szI_le (n : Nat) (left : Int) (h1 : left ≤ 1048576) (h0 : 0 ≤ left) : szI n left ≤ left ∧ -1 ≤ szI n left := by
  unfold szI; split <;> omega

end Go.Proofs.YtanicidkmfoooabDoor

namespace Go.Proofs.YtanicidkmfoooabDoor

theorem eq_of_prefix {α : Type} [DecidableEq α] {xs ys : List α} (h : xs.length = ys.length) {k : Nat} (hk : k = xs.length) (he : ∀ j, j < k → xs[j]? = ys[j]?) : xs = ys := by
  apply List.ext_getElem?
  intro j
  by_cases hj : j < k
  · exact he j hj
  · rw [List.getElem?_eq_none (by omega), List.getElem?_eq_none (by omega)]

end Go.Proofs.YtanicidkmfoooabDoor
