/-
  The memory while a program is parted. Plain lemmas, no walk.
-/
import Derived.Test.YtfhmmdiicnfjbaaDoorOos
import Derived.Test.YtfhmmdiicnfjbaaDoorSpM
namespace Go.Proofs.YtfhmmdiicnfjbaaDoor
open Go.RowKit
set_option linter.unusedVariables false

theorem OwnOS.keepS {w w' : World} {base : Nat} {A : Option Addr} {c : Nat} {ps : List (Option Addr × Nat)} {oss : List (List Od)} (h : OwnOS w base A c ps oss) (hA : ∀ b, blockOf A = some b → w'.heap[b]? = w.heap[b]?) (hP : ∀ (j : Nat) (p : Option Addr × Nat), ps[j]? = some p → ∀ b, blockOf p.1 = some b → w'.heap[b]? = w.heap[b]?) : OwnOS w' base A c ps oss := by
  refine ⟨h.len, ⟨h.row.1, ?_⟩, fun j p os hj ho => (h.own j p os hj ho).of_block (hP j p hj), h.ap⟩
  rcases h.row.2 with h5 | ⟨g, cap, cur, hv, hg, hh, r⟩
  · exact .inl h5
  · refine .inr ⟨g, cap, cur, hv, hg, ?_, r⟩
    injection hv with hv _ _
    exact (hA g (by rw [hv]; rfl)).trans hh

/-- the parts that are whole, and the one that has begun, apart from them -/
structure SpS (w wr : World) (Ao : Option Addr) (co : Nat) (ps : List (Option Addr × Nat)) (out : List (List Od)) (Ap : Option Addr) (cp : Nat) (part : List Od) : Prop where
  bel : Below w.heap.size w wr
  own : OwnOS wr w.heap.size Ao co ps out
  pown : OwnO wr w.heap.size Ap cp part
  ap : ∀ (i : Nat) (p : Option Addr × Nat), ps[i]? = some p → ∀ b, blockOf p.1 = some b → blockOf Ap ≠ some b

theorem SpS.start (w : World) : SpS w ((w.alloc (.cells #[] 26)).alloc (.cells #[] 40)) (some ⟨w.heap.size, 0, none⟩) 0 [] [] (some ⟨w.heap.size + 1, 0, none⟩) 0 [] := by
  have hb1 := (Below.refl w.heap.size w).alloc (Nat.le_refl _) (.cells #[] 26)
  have hB := (Below.refl (w.alloc (.cells #[] 26)).heap.size (w.alloc (.cells #[] 26))).alloc (Nat.le_refl _) (.cells #[] 40)
  refine ⟨hb1.alloc hb1.size _, (OwnOS.bare w).below hB, ?_, by simp⟩
  have := OwnO.bare (w.alloc (.cells #[] 26))
  simp only [World.size_alloc] at this
  exact this.mono (by omega)

theorem SpS.grow {w wr w5 : World} {Ao Ap A5 : Option Addr} {co cp c5 : Nat} {ps : List (Option Addr × Nat)} {out : List (List Od)} {part zs : List Od} {lit : Obj} (h : SpS w wr Ao co ps out Ap cp part) (own : OwnO w5 w.heap.size A5 c5 zs) (hg : (wr.alloc lit).grownBy w5 (blockOf Ap))
    (hat : blockOf A5 = blockOf Ap ∨ blockOf A5 = some (wr.alloc lit).heap.size) : SpS w w5 Ao co ps out A5 c5 zs := by
  have hk : ∀ b, b < wr.heap.size → blockOf Ap ≠ some b → w5.heap[b]? = wr.heap[b]? := fun b hb hne => by
    rw [hg.block b (by simp; omega) (fun e => hne e.symm), Below.heap_alloc _ _ _ hb]
  refine ⟨below_grown (h.bel.alloc h.bel.size lit) hg (by have := h.bel.size; simp; omega) (fun q hq => (h.pown.blocks q hq).1), h.own.keepS (fun b hb => hk b (h.own.blocks b hb).2 (fun e => ops_row_ne h.own.row h.pown.own b hb e)) (fun j p hj b hb => hk b (h.own.kidB hj b hb).2 (h.ap j p hj b hb)), own, fun i p hi b hb e => ?_⟩
  rcases hat with h1 | h1
  · exact h.ap i p hi b hb (h1 ▸ e)
  · rw [h1] at e
    injection e with e
    have := (h.own.kidB hi b hb).2
    simp at e
    omega

/-- a part is whole, and a new one begins -/
theorem SpS.next {w wr w5 : World} {Ao Ap A5 : Option Addr} {co cp c5 : Nat} {ps : List (Option Addr × Nat)} {out : List (List Od)} {part : List Od} {lit : Obj} (h : SpS w wr Ao co ps out Ap cp part) (own : OwnOS w5 w.heap.size A5 c5 (ps ++ [(Ap, cp)]) (out ++ [part])) (hg : (wr.alloc lit).grownBy w5 (blockOf Ao)) :
    SpS w (w5.alloc (.cells #[] 40)) A5 c5 (ps ++ [(Ap, cp)]) (out ++ [part]) (some ⟨w5.heap.size, 0, none⟩) 0 [] := by
  have hb5 := below_grown (h.bel.alloc h.bel.size lit) hg (by have := h.bel.size; simp; omega) (fun q hq => (h.own.blocks q hq).1)
  have hB := (Below.refl w5.heap.size w5).alloc (Nat.le_refl _) (.cells #[] 40)
  exact ⟨hb5.alloc hb5.size _, own.below hB, (OwnO.bare w5).mono hb5.size, fun i p hi b hb e => by
    have := (own.kidB hi b hb).2
    injection e with e
    have e' : w5.heap.size = b := e
    omega⟩
theorem SpS.last {w wr w5 : World} {Ao Ap A5 : Option Addr} {co cp c5 : Nat} {ps : List (Option Addr × Nat)} {out : List (List Od)} {part : List Od} {lit : Obj} (h : SpS w wr Ao co ps out Ap cp part) (own : OwnOS w5 w.heap.size A5 c5 (ps ++ [(Ap, cp)]) (out ++ [part])) (hg : (wr.alloc lit).grownBy w5 (blockOf Ao)) : Below w.heap.size w w5 :=
  below_grown (h.bel.alloc h.bel.size lit) hg (by have := h.bel.size; simp; omega) (fun q hq => (h.own.blocks q hq).1)

/-- lists of orders of the call's own -/
def GivesOS (w : World) (oss : List (List Od)) (e : Ending) (w' : World) : Prop := ∃ A c ps, e = .returned (.slice A oss.length c) ∧ OwnOS w' w.heap.size A c ps oss ∧ Below w.heap.size w w'

end Go.Proofs.YtfhmmdiicnfjbaaDoor
