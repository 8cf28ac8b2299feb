/-
  Parts of slices of orders: they read as parts of the list. Plain lemmas, no walk.
-/
import Derived.Test.YtngohlegdjppeabDoorOd
namespace Go.Proofs.YtngohlegdjppeabDoor
open Go.RowKit

theorem OpsAt.begin {w : World} {B : Nat} {A : Option Addr} {os : List Od} (h : OpsAt w B A os) (n : Nat) : OpsAt w B A (os.take n) := by
  refine ⟨fun hx => ?_, fun x hx => h.wf x (List.mem_of_mem_take hx), Nat.le_trans (by simp; omega) h.len⟩
  obtain ⟨b, off, e, hlt, hc⟩ := h.row (by intro e; subst e; simp at hx)
  refine ⟨b, off, e, hlt, fun j x hj => hc j x ?_⟩
  rw [List.getElem?_take] at hj
  split at hj
  · exact hj
  · cases hj

theorem OpsAt.behind {w : World} {B b off : Nat} {os : List Od} (h : OpsAt w B (some ⟨b, off, none⟩) os) (k : Nat) : OpsAt w B (some ⟨b, off + k * 2, none⟩) (os.drop k) := by
  refine ⟨fun hx => ?_, fun x hx => h.wf x (List.mem_of_mem_drop hx), Nat.le_trans (by simp) h.len⟩
  obtain ⟨b', off', e, hlt, hc⟩ := h.row (by intro e; subst e; simp at hx)
  injection e with e
  injection e with e1 e2
  subst e1 e2
  refine ⟨b, off + k * 2, rfl, hlt, fun j x hj => ?_⟩
  rw [List.getElem?_drop] at hj
  have := hc (k + j) x hj
  have e : off + (k + j) * 2 = off + k * 2 + j * 2 := by omega
  rwa [e] at this

end Go.Proofs.YtngohlegdjppeabDoor
