/-
  Bytes, and bytes in frames: mathematics. Plain lemmas, no walk.
-/
import Derived.Test.YtfhmmdiicnfjbaaDoorMem
namespace Go.Proofs.YtfhmmdiicnfjbaaDoor
set_option linter.unusedVariables false

/-- numbers that are bytes, at most m of them -/
def BytesOk (m : Nat) (xs : List Int) : Prop := xs.length ≤ m ∧ ∀ x ∈ xs, 0 ≤ x ∧ x ≤ 255

instance (m : Nat) (xs : List Int) : Decidable (BytesOk m xs) := inferInstanceAs (Decidable (_ ∧ _))

theorem in64_bytes {xs : List Int} (h : ∀ x ∈ xs, 0 ≤ x ∧ x ≤ 255) : ∀ x ∈ xs, In64 x := fun x hx => by
  have := h x hx
  constructor <;> omega

/-- a list in frames of m, with fuel -/
def framed (m : Nat) : Nat → List Int → List Int
  | 0, _ => []
  | f + 1, xs => if xs = [] then [] else ((min m xs.length : Nat) : Int) :: (xs.take m ++ framed m f (xs.drop m))

theorem framed_nil (m f : Nat) : framed m f [] = [] := by cases f <;> simp [framed]

theorem framed_fuel {m : Nat} (hm : 1 ≤ m) : ∀ (f g : Nat) (xs : List Int), xs.length ≤ f → xs.length ≤ g → framed m f xs = framed m g xs
  | 0, g, xs, h1, _ => by
    obtain rfl : xs = [] := List.eq_nil_of_length_eq_zero (by omega)
    rw [framed_nil, framed_nil]
  | f + 1, 0, xs, _, h2 => by
    obtain rfl : xs = [] := List.eq_nil_of_length_eq_zero (by omega)
    rw [framed_nil, framed_nil]
  | f + 1, g + 1, xs, h1, h2 => by
    by_cases hx : xs = []
    · subst hx; rw [framed_nil, framed_nil]
    · have hl : 0 < xs.length := List.length_pos_iff.2 hx
      simp only [framed, if_neg hx]
      rw [framed_fuel hm f g (xs.drop m) (by simp; omega) (by simp; omega)]

theorem framed_step {m f : Nat} {xs : List Int} (hm : 1 ≤ m) (hx : xs ≠ []) (hf : xs.length ≤ f) :
    framed m f xs = ((min m xs.length : Nat) : Int) :: (xs.take m ++ framed m f (xs.drop m)) := by
  have hl : 0 < xs.length := List.length_pos_iff.2 hx
  cases f with
  | zero => omega
  | succ f =>
    rw [framed_fuel hm (f + 1) f (xs.drop m) (by simp; omega) (by simp; omega)]
    simp only [framed, if_neg hx]

theorem framed_mem {m : Nat} (hm : m ≤ 200) : ∀ (f : Nat) (xs : List Int), (∀ x ∈ xs, 0 ≤ x ∧ x ≤ 255) → ∀ x ∈ framed m f xs, 0 ≤ x ∧ x ≤ 255
  | 0, xs, _, x, hx => by simp [framed] at hx
  | f + 1, xs, h, x, hx => by
    by_cases he : xs = []
    · subst he; rw [framed_nil] at hx; cases hx
    · simp only [framed, if_neg he, List.mem_cons, List.mem_append] at hx
      rcases hx with rfl | hx | hx
      · omega
      · exact h x (List.mem_of_mem_take hx)
      · exact framed_mem hm f (xs.drop m) (fun y hy => h y (List.mem_of_mem_drop hy)) x hx

theorem framed_len {m : Nat} (hm : 1 ≤ m) : ∀ (f : Nat) (xs : List Int), (framed m f xs).length ≤ 2 * xs.length
  | 0, xs => by simp [framed]
  | f + 1, xs => by
    by_cases he : xs = []
    · subst he; rw [framed_nil]; simp
    · have hl : 0 < xs.length := List.length_pos_iff.2 he
      have := framed_len hm f (xs.drop m)
      simp only [framed, if_neg he, List.length_cons, List.length_append, List.length_take, List.length_drop] at this ⊢
      omega

/-- what FrameBytes returns -/
def frameOf (xs : List Int) (m : Int) : List Int := if BytesOk 1000 xs ∧ 1 ≤ m ∧ m ≤ 200 then framed m.toNat xs.length xs else []

theorem frameOf_ok {xs : List Int} {m : Int} (h : BytesOk 1000 xs) (h1 : 1 ≤ m) (h2 : m ≤ 200) : frameOf xs m = framed m.toNat xs.length xs := by
  unfold frameOf; rw [if_pos ⟨h, h1, h2⟩]
theorem frameOf_no {xs : List Int} {m : Int} (h : ¬ (BytesOk 1000 xs ∧ 1 ≤ m ∧ m ≤ 200)) : frameOf xs m = [] := by
  unfold frameOf; rw [if_neg h]

theorem frameOf_few (xs : List Int) (m : Int) : (frameOf xs m).length ≤ 2000 := by
  unfold frameOf
  split
  · rename_i h
    have := framed_len (m := m.toNat) (by omega) xs.length xs
    have := h.1.1
    omega
  · simp
theorem frameOf_byte (xs : List Int) (m : Int) : ∀ x ∈ frameOf xs m, 0 ≤ x ∧ x ≤ 255 := by
  unfold frameOf
  split
  · rename_i h
    exact framed_mem (by omega) _ _ h.1.2
  · intro x hx; cases hx

/-! what is read of frames -/

/-- the bytes of the whole frames at the beginning of a list, and how long they are -/
def unfr : Nat → List Int → List Int × Nat
  | 0, _ => ([], 0)
  | _ + 1, [] => ([], 0)
  | f + 1, h :: t => if 1 ≤ h ∧ h ≤ 200 ∧ h.toNat ≤ t.length then (t.take h.toNat ++ (unfr f (t.drop h.toNat)).1, 1 + h.toNat + (unfr f (t.drop h.toNat)).2) else ([], 0)

theorem unfr_nil (f : Nat) : unfr f [] = ([], 0) := by cases f <;> rfl

theorem unfr_fuel : ∀ (f g : Nat) (xs : List Int), xs.length ≤ f → xs.length ≤ g → unfr f xs = unfr g xs
  | 0, g, xs, h1, _ => by
    obtain rfl : xs = [] := List.eq_nil_of_length_eq_zero (by omega)
    rw [unfr_nil, unfr_nil]
  | f + 1, 0, xs, _, h2 => by
    obtain rfl : xs = [] := List.eq_nil_of_length_eq_zero (by omega)
    rw [unfr_nil, unfr_nil]
  | f + 1, g + 1, [], _, _ => rfl
  | f + 1, g + 1, h :: t, h1, h2 => by
    simp only [List.length_cons] at h1 h2
    simp only [unfr]
    rw [unfr_fuel f g (t.drop h.toNat) (by simp; omega) (by simp; omega)]

theorem unfr_step {f i : Nat} {xs : List Int} {h : Int} (hx : xs[i]? = some h) (h1 : 1 ≤ h) (h2 : h ≤ 200) (hl : i + h.toNat < xs.length) (hf : xs.length ≤ f) :
    unfr f (xs.drop i) = ((xs.drop (i + 1)).take h.toNat ++ (unfr f (xs.drop (i + 1 + h.toNat))).1, 1 + h.toNat + (unfr f (xs.drop (i + 1 + h.toNat))).2) := by
  rw [drop_at hx]
  cases f with
  | zero => omega
  | succ f =>
    rw [unfr_fuel (f + 1) f (xs.drop (i + 1 + h.toNat)) (by simp; omega) (by simp; omega)]
    simp only [unfr]
    rw [if_pos ⟨h1, h2, by simp; omega⟩, List.drop_drop]

theorem unfr_stop {f i : Nat} {xs : List Int} (hx : ∀ h, xs[i]? = some h → ¬ (1 ≤ h ∧ h ≤ 200 ∧ i + h.toNat < xs.length)) : unfr f (xs.drop i) = ([], 0) := by
  by_cases hi : i < xs.length
  · have ha : xs[i]? = some xs[i] := List.getElem?_eq_getElem hi
    have hn := hx _ ha
    rw [drop_at ha]
    cases f with
    | zero => rfl
    | succ f =>
      simp only [unfr]
      rw [if_neg]
      rintro ⟨h1, h2, h3⟩
      exact hn ⟨h1, h2, by simp at h3; omega⟩
  · rw [List.drop_eq_nil_of_le (by omega), unfr_nil]

theorem unfr_le : ∀ (f : Nat) (xs : List Int), (unfr f xs).2 ≤ xs.length ∧ (unfr f xs).1.length ≤ (unfr f xs).2
  | 0, xs => by simp [unfr]
  | f + 1, [] => by simp [unfr]
  | f + 1, h :: t => by
    have ih := unfr_le f (t.drop h.toNat)
    simp only [unfr]
    split
    · rename_i hc
      simp only [List.length_drop, List.length_cons, List.length_append, List.length_take] at ih ⊢
      omega
    · simp

theorem unfr_mem : ∀ (f : Nat) (xs : List Int), (∀ x ∈ xs, 0 ≤ x ∧ x ≤ 255) → ∀ x ∈ (unfr f xs).1, 0 ≤ x ∧ x ≤ 255
  | 0, xs, _, x, hx => by simp [unfr] at hx
  | f + 1, [], _, x, hx => by simp [unfr] at hx
  | f + 1, h :: t, hb, x, hx => by
    simp only [unfr] at hx
    split at hx
    · simp only [List.mem_append] at hx
      rcases hx with hx | hx
      · exact hb x (List.mem_cons_of_mem _ (List.mem_of_mem_take hx))
      · exact unfr_mem f (t.drop h.toNat) (fun y hy => hb y (List.mem_cons_of_mem _ (List.mem_of_mem_drop hy))) x hx
    · cases hx

/-- what UnframeTorn returns -/
def unfrBytes (xs : List Int) : List Int := if BytesOk 2000 xs then (unfr xs.length xs).1 else []
def unfrSize (xs : List Int) : Int := if BytesOk 2000 xs then ((unfr xs.length xs).2 : Int) else -1

theorem unfrBytes_ok {xs : List Int} (h : BytesOk 2000 xs) : unfrBytes xs = (unfr xs.length xs).1 := by unfold unfrBytes; rw [if_pos h]
theorem unfrBytes_no {xs : List Int} (h : ¬ BytesOk 2000 xs) : unfrBytes xs = [] := by unfold unfrBytes; rw [if_neg h]
theorem unfrSize_ok {xs : List Int} (h : BytesOk 2000 xs) : unfrSize xs = ((unfr xs.length xs).2 : Int) := by unfold unfrSize; rw [if_pos h]
theorem unfrSize_no {xs : List Int} (h : ¬ BytesOk 2000 xs) : unfrSize xs = -1 := by unfold unfrSize; rw [if_neg h]

theorem unfrBytes_few (xs : List Int) : (unfrBytes xs).length ≤ 2000 := by
  unfold unfrBytes
  split
  · rename_i h
    have := unfr_le xs.length xs
    have := h.1
    omega
  · simp
theorem unfrBytes_byte (xs : List Int) : ∀ x ∈ unfrBytes xs, 0 ≤ x ∧ x ≤ 255 := by
  unfold unfrBytes
  split
  · rename_i h
    exact unfr_mem _ _ h.2
  · intro x hx; cases hx

end Go.Proofs.YtfhmmdiicnfjbaaDoor
