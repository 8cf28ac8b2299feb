/-
  The program's check by kinds: what it needs of a stack, and that it is what the model asks. Mathematics only.
-/
import Derived.Test.YtanicidkmfoooabDoorPjAb
namespace Go.Proofs.YtanicidkmfoooabDoor
set_option linter.unusedVariables false
set_option linter.unusedSimpArgs false

/-! what the things on a stack are good for, as the program's check by kinds sees it -/

def useBits (k : Int) (full : Bool) : Nat := if k = 0 ∨ k = 1 then 3 else if k = 3 then 5 else if k = 4 then 9 else if k = 5 ∧ full = false then 17 else 1

/-- what a thing of a stack is good for -/
def Shp.useOf (s : Shp) (x : Int) : Nat := if x < 0 then 32 else useBits (s.kinds.getD x.toNat 0) (s.full.getD x.toNat false)
/-- what the thing at an index is good for -/
def Shp.useAt (s : Shp) (i : Int) : Nat := if i < 0 then 64 else s.useOf (s.stack.getD i.toNat 0)

open Classical in
/-- what all from an index on are good for -/
noncomputable def Shp.useFrom (s : Shp) (a : Nat) : Nat := if (s.stack.length - a) % 2 = 0 ∧ KeysP s.kinds (s.stack.drop a) then 128 else 0

/-- how many things an order takes -/
def takesN (c : Int) : Int := if c = 3 ∨ c = 9 ∨ c = 12 ∨ c = 18 then -1 else if c = 5 ∨ c = 8 ∨ c = 14 ∨ c = 17 then 1 else if c = 6 ∨ c = 11 then 2 else 0
/-- what it needs -/
def need0 (c : Int) : Nat := if c = 9 then 4 else if c = 11 ∨ c = 12 then 8 else 0
def need1 (c : Int) : Nat := if c = 3 ∨ c = 9 ∨ c = 12 ∨ c = 18 then 32 else if c = 6 then 1 else if c = 8 then 4 else if c = 11 then 2 else if c = 14 then 16 else if c = 19 then 64 else 0
def need2 (c : Int) : Nat := if c = 12 then 128 else if c = 5 ∨ c = 6 ∨ c = 8 ∨ c = 11 ∨ c = 14 ∨ c = 15 ∨ c = 17 ∨ c = 19 then 1 else 0

/-- what an order looks at -/
noncomputable def Shp.view0 (s : Shp) (c : Int) : Nat := if takesN c = -1 then s.useAt ((above s.stack : Int) - 2) else s.useAt ((s.stack.length : Int) - 1 - 2)
noncomputable def Shp.view1 (s : Shp) (c : Int) : Nat := if takesN c = -1 then s.useAt ((above s.stack : Int) - 1) else s.useAt ((s.stack.length : Int) - 1 - 1)
noncomputable def Shp.view2 (s : Shp) (c : Int) : Nat := if takesN c = -1 then s.useFrom (above s.stack) else s.useAt ((s.stack.length : Int) - 1)

/-- all is there that an order needs -/
def Shp.Has (s : Shp) (o : Od) : Prop := (o.code = 16 → 0 ≤ s.memo.getD o.arg.toNat 0) ∧ s.view0 o.code &&& need0 o.code = need0 o.code ∧ s.view1 o.code &&& need1 o.code = need1 o.code ∧ s.view2 o.code &&& need2 o.code = need2 o.code

/-- what is taken is gone -/
def Shp.took (s : Shp) (c : Int) : Shp := if takesN c = -1 then s.cutTo (above s.stack - 1) else s.cutTo (s.stack.length - (takesN c).toNat)
/-- the rest is done -/
def Shp.acted (s : Shp) (o : Od) : Shp :=
  if o.code = 0 then s.push 0 else if o.code = 1 then s.push 1 else if o.code = 2 then { s with stack := s.stack ++ [-1] }
  else if o.code = 3 ∨ o.code = 4 ∨ o.code = 5 ∨ o.code = 6 then s.push 2 else if o.code = 7 then s.push 3 else if o.code = 10 then s.push 4 else if o.code = 13 then s.push 5
  else if o.code = 14 then { s with full := s.full.set (s.thing 0).toNat true }
  else if o.code = 15 then { s with memo := s.memo.set o.arg.toNat (s.thing 0) }
  else if o.code = 16 then { s with stack := s.stack ++ [s.memo.getD o.arg.toNat 0] }
  else if o.code = 19 then { s with done := true } else s

theorem useBits_1 (k : Int) (f : Bool) : useBits k f &&& 1 = 1 := by
  unfold useBits
  repeat' split
  all_goals decide
theorem useBits_2 (k : Int) (f : Bool) : useBits k f &&& 2 = 2 ↔ KeyK k := by
  unfold useBits KeyK
  split
  · next h => simp [h]
  · next h =>
    simp only [h, iff_false]
    repeat' split
    all_goals decide
theorem useBits_4 (k : Int) (f : Bool) : useBits k f &&& 4 = 4 ↔ k = 3 := by
  unfold useBits
  split
  · next h =>
    constructor
    · intro hh; exact absurd hh (by decide)
    · intro hh; omega
  · split
    · next h => simp [h]
    · next h =>
      simp only [h, iff_false]
      repeat' split
      all_goals decide
theorem useBits_8 (k : Int) (f : Bool) : useBits k f &&& 8 = 8 ↔ k = 4 := by
  unfold useBits
  split
  · next h =>
    constructor
    · intro hh; exact absurd hh (by decide)
    · intro hh; omega
  · split
    · next h => simp [h]
    · split
      · next h => simp [h]
      · next h =>
        simp only [h, iff_false]
        repeat' split
        all_goals decide
theorem useBits_16 (k : Int) (f : Bool) : useBits k f &&& 16 = 16 ↔ k = 5 ∧ f = false := by
  unfold useBits
  split
  · next h =>
    constructor
    · intro hh; exact absurd hh (by decide)
    · intro hh; omega
  · split
    · next h =>
      constructor
      · intro hh; exact absurd hh (by decide)
      · intro hh; omega
    · split
      · next h =>
        constructor
        · intro hh; exact absurd hh (by decide)
        · intro hh; omega
      · split
        · next h => simp [h]
        · next h =>
          simp only [h, iff_false]
          decide
theorem useBits_hi (k : Int) (f : Bool) : ¬ useBits k f &&& 32 = 32 ∧ ¬ useBits k f &&& 64 = 64 := by
  unfold useBits
  repeat' split
  all_goals decide

/-- the thing at place d from the top -/
theorem Shp.useTop {s : Shp} (h : s.Ok) (d : Nat) : s.useAt ((s.stack.length : Int) - 1 - d) = if s.stack.length ≤ d then 64 else if s.thing d < 0 then 32 else useBits (s.kindAt d) (s.full.getD (s.thing d).toNat false) := by
  unfold Shp.useAt
  by_cases hd : s.stack.length ≤ d
  · rw [if_pos (by omega), if_pos hd]
  · rw [if_neg (by omega), if_neg hd]
    have e : ((s.stack.length : Int) - 1 - d).toNat = s.stack.length - 1 - d := by omega
    have et : s.thing d = s.stack.getD (s.stack.length - 1 - d) 0 := by unfold Shp.thing; rw [if_pos (by omega)]
    rw [e, ← et]
    unfold Shp.useOf
    by_cases ht : s.thing d < 0
    · rw [if_pos ht, if_pos ht]
    · rw [if_neg ht, if_neg ht]
      unfold Shp.kindAt
      rw [if_neg ht]

theorem Shp.thing_none {s : Shp} {d : Nat} (h : s.stack.length ≤ d) : s.thing d = -1 := by unfold Shp.thing; rw [if_neg (by omega)]
theorem Shp.kindAt_none {s : Shp} {d : Nat} (h : s.thing d < 0) : s.kindAt d = -1 := by unfold Shp.kindAt; rw [if_pos h]

theorem Shp.top_1 {s : Shp} (h : s.Ok) (d : Nat) : s.useAt ((s.stack.length : Int) - 1 - d) &&& 1 = 1 ↔ 0 ≤ s.kindAt d := by
  have hk := (h.kindAt d).2.2
  rw [Shp.useTop h]
  split
  · next hd =>
    have := Shp.thing_none hd; constructor
    · intro hh; exact absurd hh (by decide)
    · intro hh; omega
  · split
    · next ht =>
      constructor
      · intro hh; exact absurd hh (by decide)
      · intro hh; omega
    · simp only [useBits_1, true_iff]; omega
theorem Shp.top_2 {s : Shp} (h : s.Ok) (d : Nat) : s.useAt ((s.stack.length : Int) - 1 - d) &&& 2 = 2 ↔ KeyK (s.kindAt d) := by
  have hk := (h.kindAt d).2.2
  rw [Shp.useTop h]
  split
  · next hd =>
    have := Shp.kindAt_none (s := s) (d := d) (by rw [Shp.thing_none hd]; omega)
    constructor
    · intro hh; exact absurd hh (by decide)
    · unfold KeyK; intro hh; omega
  · split
    · next ht =>
      have := Shp.kindAt_none ht
      constructor
      · intro hh; exact absurd hh (by decide)
      · unfold KeyK; intro hh; omega
    · exact useBits_2 _ _
theorem Shp.top_4 {s : Shp} (h : s.Ok) (d : Nat) : s.useAt ((s.stack.length : Int) - 1 - d) &&& 4 = 4 ↔ s.kindAt d = 3 := by
  rw [Shp.useTop h]
  split
  · next hd =>
    have := Shp.kindAt_none (s := s) (d := d) (by rw [Shp.thing_none hd]; omega)
    constructor
    · intro hh; exact absurd hh (by decide)
    · intro hh; omega
  · split
    · next ht =>
      have := Shp.kindAt_none ht
      constructor
      · intro hh; exact absurd hh (by decide)
      · intro hh; omega
    · exact useBits_4 _ _
theorem Shp.top_8 {s : Shp} (h : s.Ok) (d : Nat) : s.useAt ((s.stack.length : Int) - 1 - d) &&& 8 = 8 ↔ s.kindAt d = 4 := by
  rw [Shp.useTop h]
  split
  · next hd =>
    have := Shp.kindAt_none (s := s) (d := d) (by rw [Shp.thing_none hd]; omega)
    constructor
    · intro hh; exact absurd hh (by decide)
    · intro hh; omega
  · split
    · next ht =>
      have := Shp.kindAt_none ht
      constructor
      · intro hh; exact absurd hh (by decide)
      · intro hh; omega
    · exact useBits_8 _ _
theorem Shp.top_16 {s : Shp} (h : s.Ok) (d : Nat) : s.useAt ((s.stack.length : Int) - 1 - d) &&& 16 = 16 ↔ s.kindAt d = 5 ∧ s.full.getD (s.thing d).toNat false = false := by
  rw [Shp.useTop h]
  split
  · next hd =>
    have := Shp.kindAt_none (s := s) (d := d) (by rw [Shp.thing_none hd]; omega)
    constructor
    · intro hh; exact absurd hh (by decide)
    · intro hh; omega
  · split
    · next ht =>
      have := Shp.kindAt_none ht
      constructor
      · intro hh; exact absurd hh (by decide)
      · intro hh; omega
    · exact useBits_16 _ _
theorem Shp.top_64 {s : Shp} (h : s.Ok) (d : Nat) : s.useAt ((s.stack.length : Int) - 1 - d) &&& 64 = 64 ↔ s.stack.length ≤ d := by
  rw [Shp.useTop h]
  split
  · next hd => simp [hd]
  · next hd =>
    simp only [hd, iff_false]
    split
    · decide
    · exact (useBits_hi _ _).2

/-- below and at the topmost mark -/
theorem Shp.mark_32 (s : Shp) : s.useAt ((above s.stack : Int) - 1) &&& 32 = 32 ↔ above s.stack ≠ 0 := by
  unfold Shp.useAt
  by_cases h : above s.stack = 0
  · rw [h]; simp
  · rw [if_neg (by omega)]
    have e : ((above s.stack : Int) - 1).toNat = above s.stack - 1 := by omega
    have hm := above_mark (l := s.stack) (a := above s.stack - 1) (by omega)
    rw [e]
    unfold Shp.useOf
    rw [if_pos hm]
    simp [h]
theorem Shp.cut_use {s : Shp} (a : Nat) (ha : a ≤ s.stack.length) : s.useAt ((a : Int) - 1) = (s.cutTo a).useAt (((s.cutTo a).stack.length : Int) - 1 - (0 : Nat)) := by
  have hl : (s.cutTo a).stack.length = a := by unfold Shp.cutTo; simp; omega
  rw [hl]
  unfold Shp.useAt
  by_cases h : (a : Int) - 1 < 0
  · rw [if_pos h, if_pos (by omega)]
  · rw [if_neg h, if_neg (by omega)]
    have e : ((a : Int) - 1).toNat = a - 1 := by omega
    have e2 : ((a : Int) - 1 - (0 : Nat)).toNat = a - 1 := by omega
    rw [e, e2]
    have hg : (s.cutTo a).stack.getD (a - 1) 0 = s.stack.getD (a - 1) 0 := by
      unfold Shp.cutTo
      rw [List.getD_eq_getElem?_getD, List.getD_eq_getElem?_getD, List.getElem?_take, if_pos (by omega)]
    rw [hg]
    rfl
theorem Shp.useFrom_128 (s : Shp) (a : Nat) : s.useFrom a &&& 128 = 128 ↔ ((s.stack.length - a) % 2 = 0 ∧ KeysP s.kinds (s.stack.drop a)) := by
  unfold Shp.useFrom
  split
  · next h => simp [h]
  · next h => simp [h]

/-- the check by kinds is the model's -/
theorem stepFree_has {s : Shp} {o : Od} (h : s.Ok) (hd : s.done = false) (ho : 0 ≤ o.code ∧ o.code ≤ 19) (ha : o.code = 16 → o.arg.toNat < 20) :
    (s.Has o → stepFree s o = some ((s.took o.code).acted o)) ∧ (¬ s.Has o → stepFree s o = none) := by
  obtain ⟨cd, ar⟩ := o
  simp only at ho ha
  have t0 := Shp.top_1 h 0
  have t1 := Shp.top_1 h 1
  have t2 := Shp.top_2 h 1
  have t4 := Shp.top_4 h 1
  have t8 := Shp.top_8 h 2
  have t16 := Shp.top_16 h 1
  have t64 := Shp.top_64 h 1
  have m32 := s.mark_32
  have hal := above_le s.stack
  have m4 : above s.stack ≠ 0 → (s.useAt ((above s.stack : Int) - 2) &&& 4 = 4 ↔ (s.cutTo (above s.stack - 1)).kindAt 0 = 3) := by
    intro hne
    rw [show (above s.stack : Int) - 2 = ((above s.stack - 1 : Nat) : Int) - 1 by omega, Shp.cut_use _ (by omega)]
    exact Shp.top_4 (h.cut _) 0
  have m8 : above s.stack ≠ 0 → (s.useAt ((above s.stack : Int) - 2) &&& 8 = 8 ↔ (s.cutTo (above s.stack - 1)).kindAt 0 = 4) := by
    intro hne
    rw [show (above s.stack : Int) - 2 = ((above s.stack - 1 : Nat) : Int) - 1 by omega, Shp.cut_use _ (by omega)]
    exact Shp.top_8 (h.cut _) 0
  have f128 := s.useFrom_128 (above s.stack)
  have c0 : s.cutTo s.stack.length = s := Shp.cutTo_all s
  have th1 : ∀ n, n ≤ s.stack.length → (s.cutTo (s.stack.length - n)).thing 0 = s.thing n ∨ s.stack.length - n = 0 := by
    intro n hn
    by_cases hz : s.stack.length - n = 0
    · exact .inr hz
    · left
      have hl : (s.cutTo (s.stack.length - n)).stack.length = s.stack.length - n := by unfold Shp.cutTo; simp
      unfold Shp.thing
      rw [hl, if_pos (by omega), if_pos (by omega)]
      unfold Shp.cutTo
      rw [List.getD_eq_getElem?_getD, List.getD_eq_getElem?_getD, List.getElem?_take, if_pos (by omega)]
      congr 2
      omega
  simp only [Int.natCast_zero, Int.sub_zero] at t0
  have h20 : cd = 0 ∨ cd = 1 ∨ cd = 2 ∨ cd = 3 ∨ cd = 4 ∨ cd = 5 ∨ cd = 6 ∨ cd = 7 ∨ cd = 8 ∨ cd = 9 ∨ cd = 10 ∨ cd = 11 ∨ cd = 12 ∨ cd = 13 ∨ cd = 14 ∨ cd = 15 ∨ cd = 16 ∨ cd = 17 ∨ cd = 18 ∨ cd = 19 := by omega
  have u0 : s.useAt ((s.stack.length : Int) - 1) % 2 = 1 ↔ 0 ≤ s.kindAt 0 := by rw [← t0, Nat.and_one_is_mod]
  have u1 : s.useAt ((s.stack.length : Int) - 1 - 1) % 2 = 1 ↔ 0 ≤ s.kindAt 1 := by rw [← t1, Nat.and_one_is_mod]; simp
  have v0 : s.useAt ((s.stack.length : Int) - 1) % 2 = 0 ↔ s.kindAt 0 < 0 := by omega
  have v1 : s.useAt ((s.stack.length : Int) - 1 - 1) % 2 = 0 ↔ s.kindAt 1 < 0 := by omega
  have k0 := (h.kindAt 0)
  have k1 := (h.kindAt 1)
  have n0 : s.stack.length = 0 → s.kindAt 0 < 0 := fun hz => by
    rw [Shp.kindAt_none (by rw [Shp.thing_none (by omega)]; omega)]; omega
  have n1 : s.stack.length ≤ 1 → s.kindAt 1 < 0 := fun hz => by
    rw [Shp.kindAt_none (by rw [Shp.thing_none (by omega)]; omega)]; omega
  simp only [Int.natCast_one] at t1 t2 t4 t16 t64
  simp only [show ((2 : Nat) : Int) = 2 from rfl] at t8
  have thr := th1 1
  clear th1
  rcases h20 with rfl | rfl | rfl | rfl | rfl | rfl | rfl | rfl | rfl | rfl | rfl | rfl | rfl | rfl | rfl | rfl | rfl | rfl | rfl | rfl
  · simp [Shp.Has, need0, need1, need2, stepFree, newK, hd, Shp.took, takesN, Shp.acted, c0]
  · simp [Shp.Has, need0, need1, need2, stepFree, newK, hd, Shp.took, takesN, Shp.acted, c0]
  · simp [Shp.Has, need0, need1, need2, stepFree, newK, hd, Shp.took, takesN, Shp.acted, c0]
  · simp [Shp.Has, Shp.view0, Shp.view1, Shp.view2, need0, need1, need2, takesN, stepFree, newK, hd, IsMarkOp, Shp.took, Shp.acted, markStep, m32]
  · simp [Shp.Has, need0, need1, need2, stepFree, newK, hd, Shp.took, takesN, Shp.acted, c0]
  · simp [Shp.Has, Shp.view0, Shp.view1, Shp.view2, need0, need1, need2, takesN, stepFree, newK, hd, IsMarkOp, Shp.took, Shp.acted, takeStep, u0, v0]
  · simp [Shp.Has, Shp.view0, Shp.view1, Shp.view2, need0, need1, need2, takesN, stepFree, newK, hd, IsMarkOp, Shp.took, Shp.acted, takeStep, u0, u1, v0, v1]
    omega
  · simp [Shp.Has, need0, need1, need2, stepFree, newK, hd, Shp.took, takesN, Shp.acted, c0]
  · simp [Shp.Has, Shp.view0, Shp.view1, Shp.view2, need0, need1, need2, takesN, stepFree, newK, hd, IsMarkOp, Shp.took, Shp.acted, takeStep, u0, v0, t4]
    omega
  · simp [Shp.Has, Shp.view0, Shp.view1, Shp.view2, need0, need1, need2, takesN, stepFree, newK, hd, IsMarkOp, Shp.took, Shp.acted, markStep, m32]
    grind
  · simp [Shp.Has, need0, need1, need2, stepFree, newK, hd, Shp.took, takesN, Shp.acted, c0]
  · simp [Shp.Has, Shp.view0, Shp.view1, Shp.view2, need0, need1, need2, takesN, stepFree, newK, hd, IsMarkOp, Shp.took, Shp.acted, takeStep, u0, v0, t2, t8]
    grind
  · simp [Shp.Has, Shp.view0, Shp.view1, Shp.view2, need0, need1, need2, takesN, stepFree, newK, hd, IsMarkOp, Shp.took, Shp.acted, markStep, m32, f128]
    grind
  · simp [Shp.Has, need0, need1, need2, stepFree, newK, hd, Shp.took, takesN, Shp.acted, c0]
  · simp [Shp.Has, Shp.view0, Shp.view1, Shp.view2, need0, need1, need2, takesN, stepFree, newK, hd, IsMarkOp, Shp.took, Shp.acted, takeStep, u0, v0, t16]
    have hf : (s.cutTo (s.stack.length - 1)).full = s.full := rfl
    refine ⟨fun h1 h2 h3 => ⟨h3, ⟨h1, h2⟩, ?_⟩, fun g h3 h1 => ?_⟩
    · have hl : ¬ s.stack.length ≤ 1 := fun hz => by have := n1 hz; omega
      rcases thr (by omega) with e | e
      · rw [hf, e]
      · omega
    · cases hg : s.full[(s.thing 1).toNat]?.getD false with
      | false => have := g h1 hg; omega
      | true => rfl
  · simp [Shp.Has, Shp.view0, Shp.view1, Shp.view2, need0, need1, need2, takesN, stepFree, newK, hd, IsMarkOp, Shp.took, Shp.acted, takeStep, u0, v0, c0]
  · simp [Shp.Has, Shp.view0, Shp.view1, Shp.view2, need0, need1, need2, takesN, stepFree, newK, hd, IsMarkOp, Shp.took, Shp.acted, takeStep, c0]
  · simp [Shp.Has, Shp.view0, Shp.view1, Shp.view2, need0, need1, need2, takesN, stepFree, newK, hd, IsMarkOp, Shp.took, Shp.acted, takeStep, u0, v0]
  · simp [Shp.Has, Shp.view0, Shp.view1, Shp.view2, need0, need1, need2, takesN, stepFree, newK, hd, IsMarkOp, Shp.took, Shp.acted, markStep, m32]
  · simp [Shp.Has, Shp.view0, Shp.view1, Shp.view2, need0, need1, need2, takesN, stepFree, newK, hd, IsMarkOp, Shp.took, Shp.acted, takeStep, u0, v0, t64, c0]
    grind

end Go.Proofs.YtanicidkmfoooabDoor
