/-
  Keys that are structs of two ints: what they read as. No function of the program is walked here.
-/
import Derived.Test.YtjpikloecadhkaaKeyI
import Derived.DeepKeys4
import Derived.Maps.OwnSet
import Derived.WalkSpells
namespace Go.Proofs.Ytjpikloecadhkaa
open Go.RowKit Go.Maps

theorem rowK : 70 < Try.prog.types.size := of_decide_eq_true (by kernel_rfl)
theorem lawK : Keyed Try.prog 70 := Keyed.of_law (deep_law_laid laidOutP (m := 2) (by omega) rowK (by kernel_rfl) (by kernel_rfl))
theorem typeK : Try.prog.keyType 70 = true := by kernel_rfl
theorem cellsK : Try.prog.cellsOf 70 = 2 := by kernel_rfl

def keyLit (k v : Int) : Lit := .string (keyBytes [.int .i64 k, .int .i64 v])

theorem size_succ : ∃ m, Try.prog.types.size + 1 = m + 3 := ⟨Try.prog.types.size - 2, by have := rowK; omega⟩

theorem lits_int {x : Int} (h : In64 x) (m : Nat) : Try.prog.keyLits (m + 1) 3 [.int .i64 x] = some [.int .i64 x] := by
  unfold Program.keyLits
  simp only [Try.underlying3]
  rw [if_pos ⟨trivial, wf_of_in64 h⟩]

theorem lits_key {k v : Int} (hk : In64 k) (hv : In64 v) (m : Nat) : Try.prog.keyLits (m + 2) 70 [.int .i64 k, .int .i64 v] = some [.int .i64 k, .int .i64 v] := by
  unfold Program.keyLits
  simp only [Try.underlying70]
  rw [if_pos ⟨cellsK.symm, by decide +kernel⟩]
  simp [cellsI, lits_int hk, lits_int hv]

theorem keyOf_key {k v : Int} (hk : In64 k) (hv : In64 v) : keyOf Try.prog 70 (.agg #[.int .i64 k, .int .i64 v]) = some (keyLit k v) := by
  have hf : (Value.agg #[.int .i64 k, .int .i64 v]).formed Try.prog 70 = true := by
    unfold Value.formed
    simp only [Try.underlying70, cellsK]
    rfl
  obtain ⟨m, hm⟩ := size_succ
  unfold keyOf
  simp only [Try.underlying70, typeK, hf, Bool.and_self, if_true, hm]
  rw [show (Value.agg #[.int .i64 k, .int .i64 v]).cells.toList = [.int .i64 k, .int .i64 v] from rfl, lits_key hk hv (m + 1)]
  rfl

theorem keyLit_inj {k v k' v' : Int} (hk : In64 k) (hv : In64 v) (hk' : In64 k') (hv' : In64 v') (h : keyLit k v = keyLit k' v') : k = k' ∧ v = v' := by
  have h1 := keyOf_key hk hv
  rw [h] at h1
  have := lawK.inj h1 (keyOf_key hk' hv')
  simp at this
  exact this

end Go.Proofs.Ytjpikloecadhkaa
