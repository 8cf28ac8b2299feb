/-
  Lemmas, several texts in one: ReadI, RplM.
-/
import Derived.Test.YtdgmohebnkcohaaMem
import Derived.Test.YtdgmohebnkcohaaRows
import Derived.ProofKit
import Derived.OpenShut
import Derived.ShutString
import Derived.ChangeOld
import Derived.Deep.Slices
import Derived.Deep.Fields
import Derived.Lib.SmallJoins
import Derived.Test.YtdgmohebnkcohaaEqvM
import Derived.Test.YtdgmohebnkcohaaOwnNB
import Derived.Test.YtdgmohebnkcohaaPjAe
namespace Go.Proofs.Ytdgmohebnkcohaa
open Go.ChangeShapes Go.WideShapes Go.ChangeAt Go.RowKit Go.Deep
set_option linter.unusedVariables false

theorem readCellsI : Try.prog.cellsOf 3 = 1 := by kernel_rfl
theorem readCellsS : Try.prog.cellsOf 36 = 1 := by kernel_rfl
theorem readOwn : ownKnob Try.prog.godebug = none := by kernel_rfl
theorem readLaid : laidOutB Try.prog = true := by kernel_rfl

theorem list3 {α : Type} (l : List α) (h : l.length = 3) : ∃ a b c, l = [a, b, c] := by
  match l, h with
  | [a, b, c], _ => exact ⟨a, b, c, rfl⟩

section
variable {H : Type} {enc : TypeId × Value → H} {w : World} {base : Nat} {spare : Nat → Bool} {held : Bool}

theorem addr_add_none (b off j : Nat) : (⟨b, off, none⟩ : Addr).add j = ⟨b, off + j, none⟩ := by
  unfold Addr.add
  split
  · rename_i h0; subst h0; rfl
  · rfl

/-- an int slice that came in -/
theorem read_ints {m : Nat} {v : Value} {y : DataW H × List MemPlace} (h : DataW.trod enc Try.prog w base spare held m 36 [v] = some y) :
    ∃ (A : Option Addr) (xs : List Int) (c : Nat), v = .slice A xs.length c ∧ IntsAt w w.heap.size A xs ∧ (A = none → c = 0) := by
  rcases open_ints Try.underlying36 Try.underlying3 readCellsI h with ⟨hcs, _⟩ | ⟨a, len, cap, zs, hcs, _, hl, hm, hz, _, hcell, hwz⟩
  · simp at hcs
    subst hcs
    exact ⟨none, [], 0, rfl, ⟨fun hx => absurd rfl hx, fun x hx => (by cases hx), by simp⟩, fun _ => rfl⟩
  · simp at hcs
    subst hcs
    have hzl : len ≤ zs.length := by rw [hz]; split <;> omega
    have hlt : (zs.take len).length = len := by simp; omega
    refine ⟨some a, zs.take len, cap, by rw [hlt], ⟨fun hx => ?_, fun x hx => ?_, ?_⟩, fun e => by cases e⟩
    · have h0 : 0 < len := by
        rcases Nat.eq_zero_or_pos len with e | e
        · subst e; simp at hx
        · exact e
      have hc0 := hcell 0 (by omega)
      obtain ⟨b, off, sp⟩ := a
      have hsp : sp = none := by simpa [Addr.add] using World.cell?_spot hc0
      subst hsp
      refine ⟨b, off, rfl, World.block_lt_of_cell? w _ (by simpa [Addr.add] using hc0), fun j x hj => ?_⟩
      have hjl : j < len := by have := (List.getElem?_eq_some_iff.1 hj).1; omega
      have hc := hcell j (by omega)
      rw [addr_add_none] at hc
      rw [hc, List.getD_eq_getElem?_getD]
      rw [List.getElem?_take_of_lt hjl] at hj
      rw [hj]
      rfl
    · exact bounds_i64 (hwz x (List.mem_of_mem_take hx))
    · rw [hlt]
      unfold maxLen at hm
      omega

end
end Go.Proofs.Ytdgmohebnkcohaa

namespace Go.Proofs.Ytdgmohebnkcohaa
open Go.RowKit Go.Maps
set_option linter.unusedVariables false

/-- the node cl[i] stands in the place of the node i -/
def replNd (cl : List Int) (n : Nd) : Nd := ⟨n.kind, n.value, n.kids.map (look cl)⟩
def replNs (ns : List Nd) (cl : List Int) : List Nd := ns.map (replNd cl)
theorem replNs_len (ns : List Nd) (cl : List Int) : (replNs ns cl).length = ns.length := by simp [replNs]
theorem replNs_at {ns : List Nd} {cl : List Int} {k : Nat} {n : Nd} (h : ns[k]? = some n) : (replNs ns cl)[k]? = some (replNd cl n) := by
  unfold replNs
  rw [List.getElem?_map, h]
  rfl
theorem look_mem {cl : List Int} {x : Int} (h0 : 0 ≤ x) (h1 : x < cl.length) : look cl x ∈ cl := by
  obtain ⟨i, rfl⟩ := Int.eq_ofNat_of_zero_le h0
  have : cl[i]? = some cl[i] := List.getElem?_eq_getElem (by omega)
  rw [look_at this]
  exact List.getElem_mem _

theorem OwnNs.lowQ {w : World} {lo lo2 hi : Nat} {A : Option Addr} {c : Nat} {ns : List Nd} (h : OwnNs w lo hi A c ns) (h2 : lo2 ≤ lo) : OwnNs w lo2 hi A c ns := by
  rcases h with h | ⟨g, e, h⟩
  · exact .inl h
  · exact .inr ⟨g, e, h.low h2⟩

/-- the result is stored, wherever its cell lies -/
theorem GivesG.putQ {w wd w2 w3 : World} {q : Nat} {A : Option Addr} {c : Nat} {ms : List Nd} {r : Int} (hq0 : w.heap.size ≤ q) (hq : q < wd.heap.size) (h0 : Below w.heap.size w wd) (h2 : Below wd.heap.size wd w2) (h3 : Below w2.heap.size w2 w3) (h : OwnNs w3 w2.heap.size w3.heap.size A c ms) :
    GivesG w ms r (.returned (.agg #[.slice A ms.length c, .int .i64 r])) ((w3.setCell ⟨q, 0, none⟩ (.slice A ms.length c)).setCell ⟨q, 1, none⟩ (.int .i64 r)) := by
  have hs2 := h2.size
  have hsd := h0.size
  refine ⟨A, c, rfl, ?_, ((h0.trans ((h2.mono hsd).trans (h3.mono (by omega)))).setCell (p := ⟨q, 0, none⟩) hq0 _).setCell (p := ⟨q, 1, none⟩) hq0 _⟩
  have := (h.kept (w' := (w3.setCell ⟨q, 0, none⟩ (.slice A ms.length c)).setCell ⟨q, 1, none⟩ (.int .i64 r)) (fun b hb _ => (Below.heap_setCell _ _ _ _ (by show b ≠ q; omega)).trans (Below.heap_setCell _ _ _ _ (by show b ≠ q; omega)))).lowQ (lo2 := w.heap.size) (by omega)
  simpa using this

end Go.Proofs.Ytdgmohebnkcohaa
