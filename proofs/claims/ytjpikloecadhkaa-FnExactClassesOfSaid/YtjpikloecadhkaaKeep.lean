/-
  What stays between two worlds in a range of blocks. Plain lemmas, no walk.
-/
import Derived.Test.YtjpikloecadhkaaOnly
import Derived.Test.YtjpikloecadhkaaPjAa
namespace Go.Proofs.Ytjpikloecadhkaa
open Go.RowKit
set_option linter.unusedVariables false

/-- the blocks from lo on and below hi are in b as they are in a -/
structure Keeps (lo hi : Nat) (a b : World) : Prop where
  os : b.os = a.os
  tape : b.tape = a.tape
  output : b.output = a.output
  size : a.heap.size ≤ b.heap.size
  top : hi ≤ a.heap.size
  block : ∀ q, lo ≤ q → q < hi → b.heap[q]? = a.heap[q]?

theorem Keeps.refl (lo hi : Nat) (a : World) (h : hi ≤ a.heap.size) : Keeps lo hi a a := ⟨rfl, rfl, rfl, Nat.le_refl _, h, fun _ _ _ => rfl⟩
theorem Keeps.at_ (lo : Nat) (a : World) : Keeps lo a.heap.size a a := Keeps.refl _ _ _ (Nat.le_refl _)
theorem Keeps.step {lo hi : Nat} {a b c : World} (h : Keeps lo hi a b) (hb : Below b.heap.size b c) : Keeps lo hi a c :=
  ⟨hb.os.trans h.os, hb.tape.trans h.tape, hb.output.trans h.output, Nat.le_trans h.size hb.size, h.top, fun q h1 h2 => (hb.block q (by have := h.size; have := h.top; omega)).trans (h.block q h1 h2)⟩
theorem Keeps.only {lo hi l u : Nat} {a b c : World} (h : Keeps lo hi a b) (ho : Only l u b c) (hd : hi ≤ l ∨ u ≤ lo) : Keeps lo hi a c :=
  ⟨ho.os.trans h.os, ho.tape.trans h.tape, ho.output.trans h.output, by rw [ho.size]; exact h.size, h.top, fun q h1 h2 => (ho.block q (by omega)).trans (h.block q h1 h2)⟩
theorem Keeps.save {lo hi l u : Nat} {a b c : World} (h : Keeps lo hi a b) (ho : Save l u b c) (hd : hi ≤ l ∨ u ≤ lo) : Keeps lo hi a c :=
  ⟨ho.os.trans h.os, ho.tape.trans h.tape, ho.output.trans h.output, Nat.le_trans h.size ho.size, h.top, fun q h1 h2 => (ho.block q (by have := h.size; have := h.top; omega) (by omega)).trans (h.block q h1 h2)⟩
theorem Keeps.mono {lo hi lo' hi' : Nat} {a b : World} (h : Keeps lo hi a b) (h1 : lo ≤ lo') (h2 : hi' ≤ hi) : Keeps lo' hi' a b :=
  ⟨h.os, h.tape, h.output, h.size, Nat.le_trans h2 h.top, fun q h3 h4 => h.block q (by omega) (by omega)⟩
theorem Keeps.bel {hi : Nat} {a b : World} (h : Keeps 0 hi a b) : Below hi a b := ⟨h.os, h.tape, h.output, h.size, fun q hq => h.block q (Nat.zero_le _) hq⟩
theorem Lies.keep {lo hi g : Nat} {a b : World} {cs : Array Value} {t : TypeId} (h : Lies a g cs t) (k : Keeps lo hi a b) (h1 : lo ≤ g) (h2 : g < hi) : Lies b g cs t := (k.block g h1 h2).trans h
theorem OwnI.keepK {lo hi base : Nat} {a b : World} {A : Option Addr} {c : Nat} {xs : List Int} (h : OwnI a base A c xs) (k : Keeps lo hi a b) (h1 : lo ≤ base) (h2 : hi = a.heap.size) : OwnI b base A c xs := by
  have hbl := h.blocks
  refine ⟨h.own.1, ?_⟩
  rcases h.own.2 with h3 | ⟨g, cap, cur, hv, hg, hh, r⟩
  · exact .inl h3
  · refine .inr ⟨g, cap, cur, hv, hg, ?_, r⟩
    injection hv with hv _ _
    have := hbl g (by rw [hv]; rfl)
    exact (k.block g (by omega) (by omega)).trans hh
theorem rowIs_keep {lo hi g n : Nat} {a b : World} {t : TypeId} {f : Nat → Value} (h : a.rowIs g t n f) (k : Keeps lo hi a b) (h1 : lo ≤ g) (h2 : g < hi) : b.rowIs g t n f := h.of_block (k.block g h1 h2)

end Go.Proofs.Ytjpikloecadhkaa
