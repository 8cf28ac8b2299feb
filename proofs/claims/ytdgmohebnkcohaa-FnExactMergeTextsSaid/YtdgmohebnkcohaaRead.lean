/-
  How arguments that came in read: slices of nodes, graphs. From the data form's reading to what the walks ask of memory.
-/
import Derived.Test.YtdgmohebnkcohaaPjAf
import Derived.Test.YtdgmohebnkcohaaRows
import Derived.ProofKit
import Derived.OpenShut
import Derived.ShutString
import Derived.ChangeOld
import Derived.Deep.Slices
import Derived.Deep.Fields
import Derived.Lib.SmallJoins
namespace Go.Proofs.Ytdgmohebnkcohaa
open Go.ChangeShapes Go.WideShapes Go.ChangeAt Go.RowKit Go.Deep
set_option linter.unusedVariables false

theorem readCellsN : Try.prog.cellsOf 44 = 3 := by kernel_rfl
theorem readCellsG : Try.prog.cellsOf 24 = 2 := by kernel_rfl

section
variable {H : Type} {enc : TypeId × Value → H} {w : World} {base : Nat} {spare : Nat → Bool} {held : Bool}

/-- a slice of nodes that came in -/
theorem read_nodes {m : Nat} {v : Value} {y : DataW H × List MemPlace} (h : DataW.trod enc Try.prog w base spare held m 22 [v] = some y) :
    ∃ (A : Option Addr) (ns : List Nd) (c : Nat), v = .slice A ns.length c ∧ NdsAt w w.heap.size A ns ∧ (A = none → c = 0) := by
  rcases open_slice Try.underlying22 h with ⟨hcs, _⟩ | ⟨a, len, cap, m', n', D, Pl, hcs, _, hl, hm, hmm, _, hel⟩
  · simp at hcs
    subst hcs
    exact ⟨none, [], 0, rfl, ⟨fun hx => absurd rfl hx, by simp⟩, fun _ => rfl⟩
  · simp at hcs
    subst hcs
    have hlen : len ≤ m' := by rw [hmm]; split <;> omega
    have hone : ∀ i, i < len → ∃ (b off : Nat) (n : Nd), a.add (i * 3) = ⟨b, off, none⟩ ∧ b < w.heap.size ∧ NdAt w w.heap.size b off n := by
      intro i hi
      obtain ⟨cs', hc', ht'⟩ := hel i (by omega)
      rw [readCellsN] at hc'
      obtain ⟨ys, n2, _, _, hcl, hyl, hf⟩ := DataW.trod_struct Try.underlying44 ht'
      obtain ⟨_, hcl3, hat⟩ := World.cells?_some hc'
      obtain ⟨v0, v1, v2, rfl⟩ := list3 cs' hcl3
      have h0 : DataW.trod enc Try.prog w base spare held n2 3 (([v0, v1, v2].drop 0).take (Try.prog.cellsOf 3)) = ys[0]? := hf 0 _ rfl
      have h1 : DataW.trod enc Try.prog w base spare held n2 3 (([v0, v1, v2].drop 1).take (Try.prog.cellsOf 3)) = ys[1]? := hf 1 _ rfl
      have h2 : DataW.trod enc Try.prog w base spare held n2 36 (([v0, v1, v2].drop 2).take (Try.prog.cellsOf 36)) = ys[2]? := hf 2 _ rfl
      rw [readCellsI] at h0 h1
      rw [readCellsS] at h2
      simp only [List.drop_zero, List.drop_succ_cons, List.take_succ_cons, List.take_zero] at h0 h1 h2
      have hy : ∀ k, k < 3 → ∃ z, ys[k]? = some z := fun k hk => ⟨_, List.getElem?_eq_getElem (by rw [hyl]; exact hk)⟩
      obtain ⟨z0, e0⟩ := hy 0 (by omega)
      obtain ⟨z1, e1⟩ := hy 1 (by omega)
      obtain ⟨z2, e2⟩ := hy 2 (by omega)
      rw [e0] at h0
      rw [e1] at h1
      rw [e2] at h2
      obtain ⟨kd, hv0, _, hw0⟩ := DataW.trod_int Try.underlying3 h0
      obtain ⟨vl, hv1, _, hw1⟩ := DataW.trod_int Try.underlying3 h1
      obtain ⟨A', xs, c', hv2, hI, hnil⟩ := read_ints h2
      simp at hv0 hv1
      subst hv0
      subst hv1
      subst hv2
      have c0 := hat 0 (by omega)
      have c1 := hat 1 (by omega)
      have c2 := hat 2 (by omega)
      generalize a.add (i * 3) = p at c0 c1 c2 ⊢
      obtain ⟨b, off, sp⟩ := p
      have hsp : sp = none := by simpa [Addr.add] using World.cell?_spot c0
      subst hsp
      rw [addr_add_none] at c0 c1 c2
      simp at c0 c1 c2
      exact ⟨b, off, ⟨kd, vl, xs⟩, rfl, World.block_lt_of_cell? w _ c0, ⟨c0, c1, ⟨A', c', c2, hI, hnil⟩, bounds_i64 hw0, bounds_i64 hw1⟩⟩
    rcases Nat.eq_zero_or_pos len with h0 | h0
    · subst h0
      exact ⟨some a, [], cap, rfl, ⟨fun hx => absurd rfl hx, by simp⟩, fun e => by cases e⟩
    · obtain ⟨b0, off0, _, ha0, hb0, _⟩ := hone 0 h0
      rw [Nat.zero_mul] at ha0
      have ha : a = ⟨b0, off0, none⟩ := by
        have : a.add 0 = a := by simp [Addr.add]
        rw [this] at ha0
        exact ha0
      subst ha
      have hch : ∀ i, ∃ n : Nd, i < len → NdAt w w.heap.size b0 (off0 + i * 3) n := by
        intro i
        by_cases hi : i < len
        · obtain ⟨b, off, n, he, _, hn⟩ := hone i hi
          rw [addr_add_none] at he
          injection he with he1 he2
          subst he1
          subst he2
          exact ⟨n, fun _ => hn⟩
        · exact ⟨⟨0, 0, []⟩, fun h => absurd h hi⟩
      refine ⟨some ⟨b0, off0, none⟩, (List.range len).map fun i => Classical.choose (hch i), cap, by simp, ⟨fun _ => ⟨b0, off0, rfl, hb0, fun j n hj => ?_⟩, ?_⟩, fun e => by cases e⟩
      · rw [List.getElem?_map] at hj
        have hjl : j < len := by
          rcases Nat.lt_or_ge j len with h | h
          · exact h
          · rw [List.getElem?_eq_none (by simpa using h)] at hj; cases hj
        rw [List.getElem?_range hjl] at hj
        simp at hj
        subst hj
        exact Classical.choose_spec (hch j) hjl
      · simp
        unfold maxLen at hm
        omega

end

end Go.Proofs.Ytdgmohebnkcohaa
