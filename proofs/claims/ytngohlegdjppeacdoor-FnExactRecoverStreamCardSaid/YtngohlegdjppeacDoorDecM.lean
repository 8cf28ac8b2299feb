/-
  Orders that are read out of bytes: mathematics. Plain lemmas, no walk.
-/
import Derived.Test.YtngohlegdjppeacDoorEncM
import Derived.Test.YtngohlegdjppeacDoorFrM
namespace Go.Proofs.YtngohlegdjppeacDoor
set_option linter.unusedVariables false

/-- the argument at the beginning of bytes, and its number of bytes, 0 if there is none -/
def firstA : List Int → Int × Nat
  | [] => (0, 0)
  | a :: t => if a < 128 then (a, 1) else match t with
    | [] => (0, 0)
    | b :: _ => if 0 < b then (a - 128 + b * 128, 2) else (0, 0)

/-- the order at the beginning of bytes, and its number of bytes -/
def firstO : List Int → Option (Od × Nat)
  | [] => none
  | h :: t => if 19 < h then none else if argMost h < 0 then some (⟨h, 0⟩, 1) else
    if (firstA t).2 = 0 ∨ argMost h < (firstA t).1 then none else some (⟨h, (firstA t).1⟩, 1 + (firstA t).2)

/-- the same, the order 0 and 0 where there is none -/
def fstO (xs : List Int) : Od × Nat := (firstO xs).getD (⟨0, 0⟩, 0)

theorem firstA_bounds : ∀ {xs : List Int}, (∀ x ∈ xs, 0 ≤ x ∧ x ≤ 255) → 0 ≤ (firstA xs).1 ∧ (firstA xs).1 ≤ 40000 ∧ (firstA xs).2 ≤ xs.length ∧ (firstA xs).2 ≤ 2
  | [], _ => by simp [firstA]
  | [a], h => by
    have ha := h a (by simp)
    simp only [firstA]
    split <;> simp <;> omega
  | a :: b :: t, h => by
    have ha := h a (by simp)
    have hb := h b (by simp)
    simp only [firstA]
    split
    · simp; omega
    · split
      · simp only [List.length_cons]; omega
      · simp

theorem firstA_enc : ∀ {xs : List Int}, (∀ x ∈ xs, 0 ≤ x ∧ x ≤ 255) → 0 < (firstA xs).2 → (firstA xs).2 = (encA (firstA xs).1).length ∧ xs.take (firstA xs).2 = encA (firstA xs).1
  | [], _, h0 => by simp [firstA] at h0
  | [a], h, h0 => by
    have ha := h a (by simp)
    simp only [firstA] at h0 ⊢
    split at h0
    · rename_i hs
      rw [if_pos hs]
      simp [encA_short hs]
    · simp at h0
  | a :: b :: t, h, h0 => by
    have ha := h a (by simp)
    have hb := h b (by simp)
    simp only [firstA] at h0 ⊢
    split at h0
    · rename_i hs
      rw [if_pos hs]
      simp [encA_short hs]
    · rename_i hs
      rw [if_neg hs]
      split at h0
      · rename_i hb0
        rw [if_pos hb0]
        have e1 : ¬ (a - 128 + b * 128 < 128) := by omega
        have e2 : 128 + (a - 128 + b * 128) % 128 = a := by omega
        have e3 : (a - 128 + b * 128) / 128 = b := by omega
        simp only [encA_long e1, e2, e3]
        simp
      · simp at h0

theorem firstO_some {xs : List Int} {o : Od} {n : Nat} (h : ∀ x ∈ xs, 0 ≤ x ∧ x ≤ 255) (ho : firstO xs = some (o, n)) : OdOk o ∧ n = (encO o).length ∧ xs.take n = encO o ∧ 1 ≤ n ∧ n ≤ 3 ∧ n ≤ xs.length := by
  cases xs with
  | nil => simp [firstO] at ho
  | cons y t =>
    have hy := h y (by simp)
    have ht : ∀ x ∈ t, 0 ≤ x ∧ x ≤ 255 := fun x hx => h x (by simp [hx])
    simp only [firstO] at ho
    split at ho
    · cases ho
    · split at ho
      · rename_i h1 h2
        simp only [Option.some.injEq, Prod.mk.injEq] at ho
        obtain ⟨rfl, rfl⟩ := ho
        refine ⟨⟨by simp; omega, .inl ⟨h2, rfl⟩⟩, ?_, ?_, by omega, by omega, by simp⟩ <;> simp [encO_bare (o := ⟨y, 0⟩) h2]
      · split at ho
        · cases ho
        · rename_i h1 h2 h3
          simp only [Option.some.injEq, Prod.mk.injEq] at ho
          obtain ⟨rfl, rfl⟩ := ho
          have hb := firstA_bounds ht
          have he := firstA_enc ht (by omega)
          refine ⟨⟨by simp; omega, .inr ⟨by simp; omega, hb.1, by simp; omega⟩⟩, ?_, ?_, by omega, by omega, by simp only [List.length_cons]; omega⟩
          · rw [encO_arg (o := ⟨y, (firstA t).1⟩) h2, List.length_cons]
            simp only
            omega
          · rw [encO_arg (o := ⟨y, (firstA t).1⟩) h2, Nat.add_comm 1, List.take_succ_cons, he.2]

theorem fstO_none {xs : List Int} (h : firstO xs = none) : fstO xs = (⟨0, 0⟩, 0) := by unfold fstO; rw [h]; rfl
theorem fstO_some {xs : List Int} {p : Od × Nat} (h : firstO xs = some p) : fstO xs = p := by unfold fstO; rw [h]; rfl

/-- at most f orders at the beginning of bytes, and how many bytes they have -/
def decs : Nat → List Int → List Od × Nat
  | 0, _ => ([], 0)
  | f + 1, xs => match firstO xs with
    | none => ([], 0)
    | some (o, n) => (o :: (decs f (xs.drop n)).1, n + (decs f (xs.drop n)).2)

theorem decs_stop {f : Nat} {xs : List Int} (h : firstO xs = none) : decs f xs = ([], 0) := by
  cases f with
  | zero => rfl
  | succ f => simp only [decs, h]
theorem decs_step {f : Nat} {xs : List Int} {o : Od} {n : Nat} (h : firstO xs = some (o, n)) : decs (f + 1) xs = (o :: (decs f (xs.drop n)).1, n + (decs f (xs.drop n)).2) := by
  simp only [decs, h]

theorem decs_le : ∀ (f : Nat) (xs : List Int), (∀ x ∈ xs, 0 ≤ x ∧ x ≤ 255) → (decs f xs).2 ≤ xs.length ∧ (decs f xs).1.length ≤ f ∧ ∀ o ∈ (decs f xs).1, OdOk o
  | 0, xs, _ => by simp [decs]
  | f + 1, xs, h => by
    cases hx : firstO xs with
    | none => rw [decs_stop hx]; simp
    | some p =>
      obtain ⟨o, n⟩ := p
      obtain ⟨h1, h2, h3, h4, h5, h6⟩ := firstO_some h hx
      obtain ⟨i1, i2, i3⟩ := decs_le f (xs.drop n) (fun x hx => h x (List.mem_of_mem_drop hx))
      rw [decs_step hx]
      simp only [List.length_drop, List.length_cons, List.mem_cons] at i1 i2 i3 ⊢
      refine ⟨by omega, by omega, fun q hq => ?_⟩
      rcases hq with rfl | hq
      · exact h1
      · exact i3 q hq

/-- what DecodeTorn returns -/
def tornOps (xs : List Int) : List Od := if BytesOk 1000 xs then (decs 300 xs).1 else []
def tornSize (xs : List Int) : Int := if BytesOk 1000 xs then ((decs 300 xs).2 : Int) else -1
theorem tornOps_ok {xs : List Int} (h : BytesOk 1000 xs) : tornOps xs = (decs 300 xs).1 := by unfold tornOps; rw [if_pos h]
theorem tornOps_no {xs : List Int} (h : ¬ BytesOk 1000 xs) : tornOps xs = [] := by unfold tornOps; rw [if_neg h]
theorem tornSize_ok {xs : List Int} (h : BytesOk 1000 xs) : tornSize xs = ((decs 300 xs).2 : Int) := by unfold tornSize; rw [if_pos h]
theorem tornSize_no {xs : List Int} (h : ¬ BytesOk 1000 xs) : tornSize xs = -1 := by unfold tornSize; rw [if_neg h]

theorem od64 {o : Od} (h : OdOk o) : In64 o.code ∧ In64 o.arg := by
  obtain ⟨h1, h2⟩ := h
  have := argMost_range o.code
  constructor <;> constructor <;> omega

theorem tornOps_few (xs : List Int) : (tornOps xs).length ≤ 300 := by
  unfold tornOps
  split
  · rename_i h
    exact (decs_le 300 xs h.2).2.1
  · simp
theorem tornOps_64 (xs : List Int) : ∀ o ∈ tornOps xs, In64 o.code ∧ In64 o.arg := by
  unfold tornOps
  split
  · rename_i h
    exact fun o ho => od64 ((decs_le 300 xs h.2).2.2 o ho)
  · intro o ho; cases ho

/-- a list is the bytes of a program -/
def DecOk (xs : List Int) : Prop := BytesOk 1000 xs ∧ (decs 300 xs).2 = xs.length
instance (xs : List Int) : Decidable (DecOk xs) := inferInstanceAs (Decidable (_ ∧ _))
def decAll (xs : List Int) : List Od := if DecOk xs then (decs 300 xs).1 else []
theorem decAll_ok {xs : List Int} (h : DecOk xs) : decAll xs = (decs 300 xs).1 := by unfold decAll; rw [if_pos h]
theorem decAll_no {xs : List Int} (h : ¬ DecOk xs) : decAll xs = [] := by unfold decAll; rw [if_neg h]
theorem decAll_few (xs : List Int) : (decAll xs).length ≤ 300 := by
  unfold decAll
  split
  · rename_i h
    exact (decs_le 300 xs h.1.2).2.1
  · simp
theorem decAll_64 (xs : List Int) : ∀ o ∈ decAll xs, In64 o.code ∧ In64 o.arg := by
  unfold decAll
  split
  · rename_i h
    exact fun o ho => od64 ((decs_le 300 xs h.1.2).2.2 o ho)
  · intro o ho; cases ho

end Go.Proofs.YtngohlegdjppeacDoor
