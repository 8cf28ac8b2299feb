/-
  The model's alike: what it returns.
-/
import Derived.Test.YtbpjoiccjpiknabEqvM
import Derived.Test.YtbpjoiccjpiknabMem
import Derived.Deep.LoopGhost
import Derived.Deep.RegionHeld3
import Derived.Deep.QuietTactic
import Derived.BigQuiet
namespace Go.Proofs.Ytbpjoiccjpiknab
open Go.RowKit
set_option linter.unusedVariables false

/-- nodes that look alike without their kids -/
def Alike (m n : Nd) : Prop := m.kind = n.kind ∧ m.value = n.value ∧ m.kids.length = n.kids.length

set_option maxHeartbeats 400000 in
theorem alike_any (A A' : Option Addr) (c c' : Nat) (m n : Nd) (w : World) :
    Calls Try.prog 24 #[.agg #[.int .i64 m.kind, .int .i64 m.value, .slice A m.kids.length c], .agg #[.int .i64 n.kind, .int .i64 n.value, .slice A' n.kids.length c']] w fun e w' => e = .returned (.bool (tf (Alike m n))) ∧ Below w.heap.size w w' := by
  by_cases h0 : m.kind = n.kind
  · by_cases h1 : m.value = n.value
    · by_cases h2 : m.kids.length = n.kids.length
      · have HF := hide (show tf (Alike m n) = true from tf_true ⟨h0, h1, h2⟩)
        have t : (m.kind == n.kind) = true := by simpa using h0
        have t1 : (m.value == n.value) = true := by simpa using h1
        have t2 : ((m.kids.length : Int) == (n.kids.length : Int)) = true := beq_iff_eq.2 (by omega)
        clear h0 h1 h2
        go_enter Try.func24, Try.ntmps24
        go_wp2
        go_ret
        exact ⟨ret_bool HF.out.symm, ((Below.refl _ _).alloc (Nat.le_refl _) _).alloc (by simp) _⟩
      · have HF := hide (show tf (Alike m n) = false from tf_false (fun h => h2 h.2.2))
        have t : (m.kind == n.kind) = true := by simpa using h0
        have t1 : (m.value == n.value) = true := by simpa using h1
        have t2 : ((m.kids.length : Int) == (n.kids.length : Int)) = false := beq_eq_false_iff_ne.2 (by omega)
        clear h0 h1 h2
        go_enter Try.func24, Try.ntmps24
        go_wp2
        go_ret
        exact ⟨ret_bool HF.out.symm, ((Below.refl _ _).alloc (Nat.le_refl _) _).alloc (by simp) _⟩
    · have HF := hide (show tf (Alike m n) = false from tf_false (fun h => h1 h.2.1))
      have t : (m.kind == n.kind) = true := by simpa using h0
      have t1 : (m.value == n.value) = false := by simpa using h1
      clear h0 h1
      go_enter Try.func24, Try.ntmps24
      go_wp2
      go_ret
      exact ⟨ret_bool HF.out.symm, ((Below.refl _ _).alloc (Nat.le_refl _) _).alloc (by simp) _⟩
  · have HF := hide (show tf (Alike m n) = false from tf_false (fun h => h0 h.1))
    have t : (m.kind == n.kind) = false := by simpa using h0
    clear h0
    go_enter Try.func24, Try.ntmps24
    go_wp2
    go_ret
    exact ⟨ret_bool HF.out.symm, ((Below.refl _ _).alloc (Nat.le_refl _) _).alloc (by simp) _⟩

theorem sig_alike {cl : List Int} {n m : Nd} (ha : Alike n m) (h : ∀ (j : Nat) (x y : Int), n.kids[j]? = some x → m.kids[j]? = some y → look cl x = look cl y) : sigOf cl n = sigOf cl m := by
  unfold sigOf
  rw [ha.1, ha.2.1]
  congr 2
  apply List.ext_getElem?
  intro j
  rw [List.getElem?_map, List.getElem?_map]
  have hlen := ha.2.2
  by_cases hj : j < n.kids.length
  · have hx : n.kids[j]? = some n.kids[j] := List.getElem?_eq_getElem hj
    have hy : m.kids[j]? = some m.kids[j] := List.getElem?_eq_getElem (by have := ha.2.2; omega)
    rw [hx, hy]
    simp only [Option.map_some]
    rw [h j _ _ hx hy]
  · rw [List.getElem?_eq_none (by omega), List.getElem?_eq_none (by have := ha.2.2; omega)]

theorem alike_sig {cl : List Int} {n m : Nd} (h : sigOf cl n = sigOf cl m) : Alike n m ∧ ∀ (j : Nat) (x y : Int), n.kids[j]? = some x → m.kids[j]? = some y → look cl x = look cl y := by
  unfold sigOf at h
  simp only [Prod.mk.injEq] at h
  obtain ⟨h1, h2, h3⟩ := h
  refine ⟨⟨h1, h2, by have := congrArg List.length h3; simpa using this⟩, fun j x y hx hy => ?_⟩
  have := congrArg (fun l => l[j]?) h3
  simp only [List.getElem?_map, hx, hy, Option.map_some] at this
  injection this

theorem look_in {cl : List Int} {x : Int} (h0 : 0 ≤ x) (h1 : x < cl.length) : cl[x.toNat]? = some (look cl x) := by
  obtain ⟨i, rfl⟩ := Int.eq_ofNat_of_zero_le h0
  have : cl[i]? = some cl[i] := List.getElem?_eq_getElem (by omega)
  rw [look_at this, Int.toNat_natCast, this]

end Go.Proofs.Ytbpjoiccjpiknab
