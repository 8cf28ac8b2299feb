/-
  Programs without orders that put what is never got, with new places. Plain lemmas, no walk.
-/
import Derived.Test.YtgdljgddfbegnadDoorIdlM
namespace Go.Proofs.YtgdljgddfbegnadDoor
set_option linter.unusedVariables false

/-- the places that are put first, among the first k orders, by those that stay -/
def placesL (os : List Od) : Nat → List Int
  | 0 => []
  | k + 1 => match os[k]? with
    | none => placesL os k
    | some o => if o.code = 15 ∧ idleAt os k = false ∧ o.arg ∉ placesL os k then placesL os k ++ [o.arg] else placesL os k

/-- an order with its new place -/
def leanOd (L : List Int) (o : Od) : Od := if o.code = 15 ∨ o.code = 16 then ⟨o.code, (L.idxOf o.arg : Int)⟩ else o

/-- what stays of the first k orders -/
def leanTo (os : List Od) : Nat → List Od
  | 0 => []
  | k + 1 => match os[k]? with
    | none => leanTo os k
    | some o => if idleAt os k = true then leanTo os k else leanTo os k ++ [leanOd (placesL os (k + 1)) o]

theorem placesL_new {os : List Od} {k : Nat} {o : Od} (h : os[k]? = some o) (h1 : o.code = 15) (h2 : idleAt os k = false) (h3 : o.arg ∉ placesL os k) : placesL os (k + 1) = placesL os k ++ [o.arg] := by
  show (match os[k]? with | none => placesL os k | some o => if o.code = 15 ∧ idleAt os k = false ∧ o.arg ∉ placesL os k then placesL os k ++ [o.arg] else placesL os k) = _
  rw [h]
  exact if_pos ⟨h1, h2, h3⟩
theorem placesL_same {os : List Od} {k : Nat} {o : Od} (h : os[k]? = some o) (h1 : ¬ (o.code = 15 ∧ idleAt os k = false ∧ o.arg ∉ placesL os k)) : placesL os (k + 1) = placesL os k := by
  show (match os[k]? with | none => placesL os k | some o => if o.code = 15 ∧ idleAt os k = false ∧ o.arg ∉ placesL os k then placesL os k ++ [o.arg] else placesL os k) = _
  rw [h]
  exact if_neg h1
theorem leanTo_idle {os : List Od} {k : Nat} {o : Od} (h : os[k]? = some o) (h1 : idleAt os k = true) : leanTo os (k + 1) = leanTo os k := by
  show (match os[k]? with | none => leanTo os k | some o => if idleAt os k = true then leanTo os k else leanTo os k ++ [leanOd (placesL os (k + 1)) o]) = _
  rw [h]
  exact if_pos h1
theorem leanTo_stay {os : List Od} {k : Nat} {o : Od} (h : os[k]? = some o) (h1 : idleAt os k = false) : leanTo os (k + 1) = leanTo os k ++ [leanOd (placesL os (k + 1)) o] := by
  show (match os[k]? with | none => leanTo os k | some o => if idleAt os k = true then leanTo os k else leanTo os k ++ [leanOd (placesL os (k + 1)) o]) = _
  rw [h]
  exact if_neg (by rw [h1]; simp)
theorem leanOd_other {L : List Int} {o : Od} (h1 : o.code ≠ 15) (h2 : o.code ≠ 16) : leanOd L o = o := by
  unfold leanOd
  rw [if_neg (fun h => h.elim h1 h2)]
theorem leanOd_place {L : List Int} {o : Od} (h : o.code = 15 ∨ o.code = 16) : leanOd L o = ⟨o.code, (L.idxOf o.arg : Int)⟩ := by
  unfold leanOd
  rw [if_pos h]

theorem placesL_mono {os : List Od} {k : Nat} {p : Int} (h : p ∈ placesL os k) : p ∈ placesL os (k + 1) := by
  show p ∈ (match os[k]? with | none => placesL os k | some o => if o.code = 15 ∧ idleAt os k = false ∧ o.arg ∉ placesL os k then placesL os k ++ [o.arg] else placesL os k)
  split
  · exact h
  · split
    · exact List.mem_append_left _ h
    · exact h

/-- whether one of the first k orders puts something at the place p -/
def putTo (os : List Od) (k : Nat) (p : Int) : Bool := (os.take k).any fun o => decide (o.code = 15 ∧ o.arg = p)

theorem putTo_zero (os : List Od) (p : Int) : putTo os 0 p = false := by simp [putTo]
theorem putTo_succ {os : List Od} {k : Nat} {o : Od} (h : os[k]? = some o) (p : Int) : putTo os (k + 1) p = (putTo os k p || decide (o.code = 15 ∧ o.arg = p)) := by
  unfold putTo
  rw [List.take_add_one, h, List.any_append]
  simp

theorem put_or_far (os : List Od) (p : Int) : ∀ k, k ≤ os.length → putTo os k p = true → p ∈ placesL os k ∨ gotIn (os.drop k) p = false := by
  intro k
  induction k with
  | zero => intro _ h; rw [putTo_zero] at h; cases h
  | succ k ih =>
    intro hk h
    have hx : os[k]? = some os[k] := List.getElem?_eq_getElem (by omega)
    generalize os[k] = o at hx
    rw [putTo_succ hx] at h
    by_cases hp : o.code = 15 ∧ o.arg = p
    · obtain ⟨h15, rfl⟩ := hp
      have hi := idleAt_put hx h15
      cases hg : gotIn (os.drop (k + 1)) o.arg with
      | false => exact .inr rfl
      | true =>
        rw [hg] at hi
        by_cases hm : o.arg ∈ placesL os k
        · exact .inl (placesL_mono hm)
        · exact .inl (by rw [placesL_new hx h15 hi hm]; simp)
    · have h2 : putTo os k p = true := by simpa [hp] using h
      rcases ih (by omega) h2 with h3 | h3
      · exact .inl (placesL_mono h3)
      · right
        by_cases ha : o.arg = p
        · by_cases h16 : o.code = 16
          · rw [gotIn_get hx h16, if_pos ha] at h3
            cases h3
          · rw [← gotIn_other hx h16 (fun e => hp ⟨e, ha⟩)]
            exact h3
        · rw [← gotIn_far hx ha]
          exact h3

theorem placesL_put (os : List Od) (p : Int) : ∀ k, p ∈ placesL os k → putTo os k p = true := by
  intro k
  induction k with
  | zero => intro h; cases h
  | succ k ih =>
    intro h
    cases hx : os[k]? with
    | none =>
      have he : placesL os (k + 1) = placesL os k := by
        show (match os[k]? with | none => placesL os k | some o => if o.code = 15 ∧ idleAt os k = false ∧ o.arg ∉ placesL os k then placesL os k ++ [o.arg] else placesL os k) = _
        rw [hx]
      rw [he] at h
      have := ih h
      unfold putTo at this ⊢
      rw [List.take_add_one, hx]
      simpa using this
    | some o =>
      rw [putTo_succ hx]
      by_cases hc : o.code = 15 ∧ idleAt os k = false ∧ o.arg ∉ placesL os k
      · rw [placesL_new hx hc.1 hc.2.1 hc.2.2] at h
        rcases List.mem_append.1 h with h | h
        · rw [ih h]; rfl
        · simp at h
          subst h
          simp [hc.1]
      · rw [placesL_same hx hc] at h
        rw [ih h]; rfl

/-- where a place is got, it was put before just when it has a new place -/
theorem put_place {os : List Od} {k : Nat} {o : Od} (h : os[k]? = some o) (h1 : o.code = 16) : putTo os k o.arg = true ↔ o.arg ∈ placesL os k := by
  refine ⟨fun hp => ?_, placesL_put os o.arg k⟩
  have hk := (List.getElem?_eq_some_iff.1 h).1
  rcases put_or_far os o.arg k (by omega) hp with h2 | h2
  · exact h2
  · rw [gotIn_get h h1, if_pos rfl] at h2
    cases h2

/-- each place is put before it is got, in the first k orders -/
def OrderlyTo (os : List Od) (k : Nat) : Prop := ∀ j o, j < k → os[j]? = some o → o.code = 16 → o.arg ∈ placesL os j

theorem OrderlyTo.step {os : List Od} {k : Nat} {o : Od} (h : OrderlyTo os k) (hk : os[k]? = some o) (h1 : o.code = 16 → o.arg ∈ placesL os k) : OrderlyTo os (k + 1) := by
  intro j p hj hp h16
  by_cases e : j = k
  · subst e
    obtain rfl := Option.some.inj (hk.symm.trans hp)
    exact h1 h16
  · exact h j p (by omega) hp h16

open Classical in
noncomputable def leanOf (os : List Od) : List Od := if OpsOk os ∧ OrderlyTo os os.length then leanTo os os.length else []

theorem leanOf_ok {os : List Od} (h : OpsOk os) (h2 : OrderlyTo os os.length) : leanOf os = leanTo os os.length := by unfold leanOf; rw [if_pos ⟨h, h2⟩]
theorem leanOf_no {os : List Od} (h : ¬ OpsOk os) : leanOf os = [] := by unfold leanOf; rw [if_neg fun x => h x.1]
theorem leanOf_not {os : List Od} (h : ¬ OrderlyTo os os.length) : leanOf os = [] := by unfold leanOf; rw [if_neg fun x => h x.2]

theorem placesL_len (os : List Od) : ∀ k, (placesL os k).length ≤ k := by
  intro k
  induction k with
  | zero => simp [placesL]
  | succ k ih =>
    show (match os[k]? with | none => placesL os k | some o => if o.code = 15 ∧ idleAt os k = false ∧ o.arg ∉ placesL os k then placesL os k ++ [o.arg] else placesL os k).length ≤ k + 1
    split
    · omega
    · split
      · simp; omega
      · omega
theorem leanTo_len (os : List Od) : ∀ k, (leanTo os k).length ≤ k := by
  intro k
  induction k with
  | zero => simp [leanTo]
  | succ k ih =>
    show (match os[k]? with | none => leanTo os k | some o => if idleAt os k = true then leanTo os k else leanTo os k ++ [leanOd (placesL os (k + 1)) o]).length ≤ k + 1
    split
    · omega
    · split
      · omega
      · simp; omega

theorem idx_64 {L : List Int} {n : Nat} (h : L.length ≤ n) (hn : n ≤ 1048576) (x : Int) : In64 (L.idxOf x : Int) := by
  have : L.idxOf x ≤ L.length := List.idxOf_le_length
  constructor <;> omega

theorem leanTo_64 {os : List Od} (h : ∀ o ∈ os, In64 o.code ∧ In64 o.arg) : ∀ k, k ≤ 1048575 → ∀ o ∈ leanTo os k, In64 o.code ∧ In64 o.arg := by
  intro k
  induction k with
  | zero => intro _ o ho; cases ho
  | succ k ih =>
    intro hk o ho
    cases hx : os[k]? with
    | none =>
      have he : leanTo os (k + 1) = leanTo os k := by
        show (match os[k]? with | none => leanTo os k | some o => if idleAt os k = true then leanTo os k else leanTo os k ++ [leanOd (placesL os (k + 1)) o]) = _
        rw [hx]
      rw [he] at ho
      exact ih (by omega) o ho
    | some q =>
      have hq := h q (List.mem_of_getElem? hx)
      cases hi : idleAt os k with
      | true =>
        rw [leanTo_idle hx hi] at ho
        exact ih (by omega) o ho
      | false =>
        rw [leanTo_stay hx hi] at ho
        rcases List.mem_append.1 ho with ho | ho
        · exact ih (by omega) o ho
        · simp at ho
          subst ho
          unfold leanOd
          split
          · exact ⟨hq.1, idx_64 (placesL_len os (k + 1)) (by omega) _⟩
          · exact hq

theorem placesL_64 {os : List Od} (h : ∀ o ∈ os, In64 o.code ∧ In64 o.arg) (k : Nat) : ∀ x ∈ placesL os k, In64 x := by
  intro x hx
  have hp := placesL_put os x k hx
  unfold putTo at hp
  obtain ⟨o, ho, h1⟩ := List.any_eq_true.1 hp
  simp at h1
  rw [← h1.2]
  exact (h o (List.mem_of_mem_take ho)).2

theorem leanOf_few {os : List Od} : (leanOf os).length ≤ 300 := by
  unfold leanOf
  split
  next h => exact Nat.le_trans (leanTo_len _ _) h.1.1
  next => simp

theorem leanOf_64 {os : List Od} (h : ∀ o ∈ os, In64 o.code ∧ In64 o.arg) : ∀ o ∈ leanOf os, In64 o.code ∧ In64 o.arg := by
  unfold leanOf
  split
  next h2 => exact leanTo_64 h _ (by have := h2.1.1; omega)
  next => simp

/-- the list of the new places of all places, -1 for those that have none -/
def posL (L : List Int) : List Int := (List.range 20).map fun (p : Nat) => if (p : Int) ∈ L then (L.idxOf (p : Int) : Int) else -1

theorem posL_len (L : List Int) : (posL L).length = 20 := by simp [posL]
theorem posL_nil : posL [] = List.replicate 20 (-1) := by simp [posL, List.map_const']
theorem posL_at (L : List Int) {a : Nat} (h : a < 20) : (posL L)[a]? = some (if (a : Int) ∈ L then (L.idxOf (a : Int) : Int) else -1) := by
  simp [posL, h]
theorem posL_set {L : List Int} {a : Nat} (h : (a : Int) ∉ L) (ha : a < 20) : (posL L).set a (L.length : Int) = posL (L ++ [(a : Int)]) := by
  apply List.ext_getElem?
  intro i
  by_cases hi : i < 20
  · rw [posL_at _ hi, List.getElem?_set]
    by_cases e : a = i
    · subst e
      rw [if_pos rfl, if_pos (by rw [posL_len]; exact ha), if_pos (by simp), List.idxOf_append, if_neg h]
      simp
    · rw [if_neg e, posL_at _ hi]
      have e2 : ¬ ((i : Int) = (a : Int)) := by omega
      by_cases hm : (i : Int) ∈ L
      · rw [if_pos hm, if_pos (List.mem_append_left _ hm), List.idxOf_append, if_pos hm]
      · rw [if_neg hm, if_neg (by simp [hm, e2])]
  · rw [List.getElem?_eq_none (by rw [List.length_set, posL_len]; omega), List.getElem?_eq_none (by rw [posL_len]; omega)]
theorem posL_64 {L : List Int} (h : L.length ≤ 1048576) : ∀ x ∈ posL L, In64 x := by
  intro x hx
  obtain ⟨p, _, rfl⟩ := List.mem_map.1 hx
  split
  · exact idx_64 h (Nat.le_refl _) _
  · constructor <;> omega

end Go.Proofs.YtgdljgddfbegnadDoor
