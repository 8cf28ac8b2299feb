/-
  The memory while orders are read out of bytes. Plain lemmas, no walk.
-/
import Derived.Test.YtngohlegdjppeacDoorDecM
import Derived.Test.YtngohlegdjppeacDoorOwnO
namespace Go.Proofs.YtngohlegdjppeacDoor
open Go.RowKit
set_option linter.unusedVariables false

/-- orders of the call's own and a value come back -/
def GivesOpsV (w : World) (os : List Od) (v : Value) (e : Ending) (w' : World) : Prop := ∃ A c, e = .returned (.tuple #[.slice A os.length c, v]) ∧ OwnO w' w.heap.size A c os ∧ Below w.heap.size w w'

/-- the memory behind k orders, i bytes of the list read -/
structure DcS (w wr : World) (R : List Od) (N : Nat) (xs : List Int) (k i : Nat) (Ao : Option Addr) (co : Nat) (acc : List Od) : Prop where
  bel : Below w.heap.size w wr
  own : OwnO wr w.heap.size Ao co acc
  eq : acc ++ (decs (300 - k) (xs.drop i)).1 = R
  at_ : i + (decs (300 - k) (xs.drop i)).2 = N
  len : acc.length = k
  few : k ≤ 300
  le : i ≤ xs.length

theorem DcS.step {w wr w2 : World} {R : List Od} {N : Nat} {xs : List Int} {k i n : Nat} {o : Od} {Ao A2 : Option Addr} {co c2 : Nat} {acc zs2 : List Od} (h : DcS w wr R N xs k i Ao co acc) (hb : ∀ x ∈ xs, 0 ≤ x ∧ x ≤ 255)
    (hk : k < 300) (hx : firstO (xs.drop i) = some (o, n)) (hb2 : Below w.heap.size w w2) (e2 : zs2 = acc ++ [o]) (own2 : OwnO w2 w.heap.size A2 c2 zs2) : DcS w w2 R N xs (k + 1) (i + n) A2 c2 zs2 := by
  have hf := firstO_some (fun x hx => hb x (List.mem_of_mem_drop hx)) hx
  have hlen := hf.2.2.2.2.2
  simp only [List.length_drop] at hlen
  have e : 300 - k = (300 - (k + 1)) + 1 := by omega
  have h1 := h.eq
  have h2 := h.at_
  rw [e, decs_step hx] at h1 h2
  simp only [List.drop_drop] at h1 h2
  refine ⟨hb2, own2, ?_, by omega, ?_, by omega, by have := h.le; omega⟩
  · rw [e2, ← h1]; simp
  · rw [e2, ← h.len]; simp

theorem DcS.stop {w wr : World} {R : List Od} {N : Nat} {xs : List Int} {k i : Nat} {Ao : Option Addr} {co : Nat} {acc : List Od} (h : DcS w wr R N xs k i Ao co acc) (hx : k = 300 ∨ firstO (xs.drop i) = none) : acc = R ∧ i = N := by
  have h1 := h.eq
  have h2 := h.at_
  have hd : decs (300 - k) (xs.drop i) = ([], 0) := by
    rcases hx with rfl | hx
    · rfl
    · exact decs_stop hx
  rw [hd] at h1 h2
  simp at h1 h2
  exact ⟨h1, h2⟩

theorem firstO_pos {xs : List Int} {p : Od × Nat} (hb : ∀ x ∈ xs, 0 ≤ x ∧ x ≤ 255) (h : fstO xs = p) (hp : p.2 ≠ 0) : firstO xs = some p := by
  cases hx : firstO xs with
  | none => rw [fstO_none hx] at h; subst h; exact absurd rfl hp
  | some q => rw [fstO_some hx] at h; rw [h]
theorem firstO_zero {xs : List Int} {p : Od × Nat} (hb : ∀ x ∈ xs, 0 ≤ x ∧ x ≤ 255) (h : fstO xs = p) (hp : p.2 = 0) : firstO xs = none := by
  cases hx : firstO xs with
  | none => rfl
  | some q =>
    rw [fstO_some hx] at h
    subst h
    have := (firstO_some hb (o := q.1) (n := q.2) hx).2.2.2.1
    omega

end Go.Proofs.YtngohlegdjppeacDoor
