/-
  A made row of nodes that is filled in some order: the model's way to give nodes new indices. No function of the program is walked here.
-/
import Derived.Test.YtigelbilfddhgabPjAj
import Derived.Test.YtigelbilfddhgabOwnNB
namespace Go.Proofs.Ytigelbilfddhgab
open Go.RowKit
set_option linter.unusedVariables false

/-- the node i, its kids by their new indices -/
def renN (ns : List Nd) (os : List Int) (i : Nat) : Nd := match ns[i]? with | some n => ⟨n.kind, n.value, n.kids.map fun y => os.getD y.toNat 0⟩ | none => ⟨0, 0, []⟩
/-- the row when k nodes are written -/
def renTo (ns : List Nd) (os : List Int) (m : Nat) : Nat → List Nd
  | 0 => List.replicate m ⟨0, 0, []⟩
  | k + 1 => (renTo ns os m k).set (os.getD k 0).toNat (renN ns os k)

theorem renTo_len (ns : List Nd) (os : List Int) (m : Nat) : ∀ k, (renTo ns os m k).length = m
  | 0 => by simp [renTo]
  | k + 1 => by rw [renTo, List.length_set, renTo_len ns os m k]

theorem getD_at {os : List Int} {k : Nat} {x : Int} (h : os[k]? = some x) : os.getD k 0 = x := by
  rw [List.getD_eq_getElem?_getD, h]; rfl

theorem renTo_at {ns : List Nd} {os : List Int} {n : Nat} (ho : IsOrd os n) : ∀ (k i : Nat), i < k → k ≤ n → (renTo ns os n k)[(os.getD i 0).toNat]? = some (renN ns os i)
  | 0, _, hi, _ => absurd hi (by omega)
  | k + 1, i, hi, hk => by
    have hlen := ho.len
    have hil : i < os.length := by omega
    have hkl : k < os.length := by omega
    have ei := getD_at (List.getElem?_eq_getElem hil)
    have ek := getD_at (List.getElem?_eq_getElem hkl)
    have ri := ho.rng _ (List.getElem_mem hil)
    have rk := ho.rng _ (List.getElem_mem hkl)
    rw [renTo, List.getElem?_set, ei, ek]
    by_cases e : i = k
    · subst e
      rw [if_pos rfl, if_pos (by rw [renTo_len]; omega)]
    · have hne : os[k].toNat ≠ os[i].toNat := by
        intro h
        have : os[k] = os[i] := by omega
        exact e ((List.getElem_inj ho.nd).1 this).symm
      rw [if_neg hne]
      have := renTo_at (ns := ns) ho k i (by omega) (by omega)
      rwa [ei] at this

theorem renTo_all {ns : List Nd} {r : Int} {os : List Int} (hv : ValidG ns r) (ho : IsOrd os ns.length) : renTo ns os ns.length ns.length = pickNs ns (invOf os) := by
  apply List.ext_getElem?
  intro j
  by_cases hj : j < ns.length
  · have hm := ho.onto (j := (j : Int)) (by omega) (by omega)
    obtain ⟨i, hi, e⟩ := List.getElem_of_mem hm
    have hat : os[i]? = some (j : Int) := by rw [List.getElem?_eq_getElem hi, e]
    have hil : i < ns.length := by rw [← ho.len]; exact hi
    have h1 := renTo_at (ns := ns) ho ns.length i hil (Nat.le_refl _)
    rw [getD_at hat, Int.toNat_natCast] at h1
    have h2 := ho.inv hat
    rw [Int.toNat_natCast] at h2
    rw [h1, pick_at h2 (List.getElem?_eq_getElem hil)]
    unfold renN
    rw [List.getElem?_eq_getElem hil]
    simp only [Option.some.injEq, Nd.mk.injEq, true_and]
    apply List.map_congr_left
    intro y hy
    have hy2 := (hv.nodes _ (List.getElem_mem hil)).inn y hy
    obtain ⟨q, rfl⟩ := Int.eq_ofNat_of_zero_le hy2.1
    have hql : q < os.length := by rw [ho.len]; omega
    rw [Int.toNat_natCast, getD_at (List.getElem?_eq_getElem hql), ho.place (List.getElem?_eq_getElem hql)]
  · rw [List.getElem?_eq_none (by rw [renTo_len]; omega), List.getElem?_eq_none (by rw [pickNs_len, invOf_len, ho.len]; omega)]

theorem made3 (n j : Nat) (hj : j < n) : (madeCells #[.int .i64 0, .int .i64 0, .slice none 0 0] (n * 3))[j * 3]? = some (Value.int .i64 0) ∧ (madeCells #[.int .i64 0, .int .i64 0, .slice none 0 0] (n * 3))[j * 3 + 1]? = some (Value.int .i64 0) ∧ (madeCells #[.int .i64 0, .int .i64 0, .slice none 0 0] (n * 3))[j * 3 + 2]? = some (Value.slice none 0 0) := by
  have h0 : j * 3 < n * 3 := by omega
  have h1 : j * 3 + 1 < n * 3 := by omega
  have h2 : j * 3 + 2 < n * 3 := by omega
  have m0 : j * 3 % 3 = 0 := by omega
  have m1 : (j * 3 + 1) % 3 = 1 := by omega
  have m2 : (j * 3 + 2) % 3 = 2 := by omega
  refine ⟨?_, ?_, ?_⟩ <;> simp [madeCells, h0, h1, h2, m0, m1, m2]

/-- a made row of nodes -/
theorem OwnRow.zeros {w : World} {g n : Nat} (l : Lies w g (madeCells #[.int .i64 0, .int .i64 0, .slice none 0 0] (n * 3)) 44) : OwnRow w g (g + 1) g n (List.replicate n ⟨0, 0, []⟩) := by
  have hrow : w.rowIs g 44 (n * 3) (fun i => ((madeCells #[.int .i64 0, .int .i64 0, .slice none 0 0] (n * 3))[i]?).getD undef) :=
    ⟨_, l, size_madeCells _ _, fun i hi => by
      show (madeCells #[.int .i64 0, .int .i64 0, .slice none 0 0] (n * 3))[i]? = some (((madeCells #[.int .i64 0, .int .i64 0, .slice none 0 0] (n * 3))[i]?).getD undef)
      rw [Array.getElem?_eq_getElem (by rw [size_madeCells]; exact hi)]
      rfl⟩
  refine ⟨⟨_, hrow⟩, by simp, Nat.le_refl _, Nat.lt_succ_self _, fun j m hj => ?_, fun i j A A' k k' c c' hij hi hj e1 e2 b hb => ?_⟩
  · have hjl := (List.getElem?_eq_some_iff.1 hj).1
    simp at hjl
    have hm : m = ⟨0, 0, []⟩ := by
      rw [List.getElem?_replicate, if_pos hjl] at hj
      injection hj with hj
      exact hj.symm
    subst hm
    have h3 := made3 n j hjl
    exact ⟨(l.cell _).trans h3.1, (l.cell _).trans h3.2.1, ⟨none, 0, (l.cell _).trans h3.2.2, OwnI.empty _ _, fun b hb => by cases hb⟩⟩
  · simp at hi
    rw [l.cell, (made3 n i hi).2.2] at e1
    injection e1 with e1
    injection e1 with e1 _ _
    subst e1
    cases hb

/-- a node is written over another one; its kids' row is new -/
theorem OwnRow.put {w : World} {lo hi hi2 g cap c p : Nat} {A : Option Addr} {ns : List Nd} {n : Nd} (h : OwnRow w lo hi g cap ns) (hp : p < ns.length) (hown : OwnI w hi A c n.kids) (h2 : hi ≤ hi2) (hA : ∀ b, blockOf A = some b → b < hi2) :
    OwnRow (setN w g p (.int .i64 n.kind) (.int .i64 n.value) (.slice A n.kids.length c)) lo hi2 g cap (ns.set p n) := by
  obtain ⟨f, hf⟩ := h.row
  have hlo := h.hlo
  have hhi := h.hhi
  have hle := h.le
  have hat := setN_at (j := p) hf (by omega) (.int .i64 n.kind) (.int .i64 n.value) (.slice A n.kids.length c)
  have hAb : ∀ b, blockOf A = some b → hi ≤ b := fun b hb => (hown.blocks b hb).1
  have hgA : ∀ b, blockOf A = some b → b ≠ g := fun b hb => by have := hAb b hb; omega
  have hown2 : OwnI (setN w g p (.int .i64 n.kind) (.int .i64 n.value) (.slice A n.kids.length c)) lo A c n.kids := (hown.of_blk (fun b hb => setN_block (hgA b hb))).lowB (by omega)
  refine ⟨setN_row hf _ _ _, by rw [List.length_set]; exact hle, hlo, by omega, fun j m hj => ?_, fun i j A1 A2 k1 k2 c1 c2 hij hi' hj' e1 e2 b hb => ?_⟩
  · rw [List.getElem?_set] at hj
    by_cases e : p = j
    · subst e
      rw [if_pos rfl, if_pos hp] at hj
      injection hj with hj
      subst hj
      exact ⟨hat.1, hat.2.1, ⟨A, c, hat.2.2, hown2, fun b hb => ⟨hA b hb, hgA b hb⟩⟩⟩
    · rw [if_neg e] at hj
      have hn := h.nd j m hj
      obtain ⟨A1, c1, h1, h3, h4⟩ := hn.kids
      exact ⟨(setN_far (by omega)).trans hn.kind, (setN_far (by omega)).trans hn.value, ⟨A1, c1, (setN_far (by omega)).trans h1, h3.of_blk (fun b hb => setN_block (h4 b hb).2), fun b hb => ⟨by have := (h4 b hb).1; omega, (h4 b hb).2⟩⟩⟩
  · rw [List.length_set] at hi' hj'
    by_cases ei : i = p
    · subst ei
      rw [hat.2.2] at e1
      injection e1 with e1
      injection e1 with e1 _ _
      subst e1
      rw [setN_far (by omega)] at e2
      intro e3
      obtain ⟨A3, c3, g1, _, g3⟩ := (h.nd j _ (List.getElem?_eq_getElem hj')).kids
      rw [e2] at g1
      injection g1 with g1
      injection g1 with g1 _ _
      subst g1
      have := (g3 b e3).1
      have := hAb b hb
      omega
    · rw [setN_far (by omega)] at e1
      obtain ⟨A3, c3, g1, _, g3⟩ := (h.nd i _ (List.getElem?_eq_getElem hi')).kids
      have e1' := e1
      rw [e1'] at g1
      injection g1 with g1
      injection g1 with g1 _ _
      subst g1
      by_cases ej : j = p
      · subst ej
        rw [hat.2.2] at e2
        injection e2 with e2
        injection e2 with e2 _ _
        subst e2
        intro e3
        have := (g3 b hb).1
        have := hAb b e3
        omega
      · rw [setN_far (by omega)] at e2
        exact h.dis i j A1 A2 k1 k2 c1 c2 hij hi' hj' e1 e2 b hb

end Go.Proofs.Ytigelbilfddhgab
