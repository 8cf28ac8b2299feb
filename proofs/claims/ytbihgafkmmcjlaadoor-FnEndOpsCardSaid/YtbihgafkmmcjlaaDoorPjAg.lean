/-
  Lemmas, several texts in one: ChkM, AllIn, Sb, WatM, Con, ChkA, Rep.
-/
import Derived.Test.YtbihgafkmmcjlaaDoorPjAb
import Derived.Test.YtbihgafkmmcjlaaDoorPjAf
import Derived.Deep.QuietTactic
import Derived.BigQuiet
import Derived.Test.YtbihgafkmmcjlaaDoorPjAd
import Derived.Test.YtbihgafkmmcjlaaDoorPjAc
import Derived.Deep.Cut
import Derived.Deep.LoopGhost
import Derived.Laws.CopyOwn
import Derived.Laws.OwnMore
import Derived.Deep.RegionLaw
namespace Go.Proofs.YtbihgafkmmcjlaaDoor
set_option linter.unusedVariables false
set_option linter.unusedSimpArgs false
def useBits (k : Int) (full : Bool) : Nat := if k = 0 ∨ k = 1 then 3 else if k = 3 then 5 else if k = 4 then 9 else if k = 5 ∧ full = false then 17 else 1
def Shp.useOf (s : Shp) (x : Int) : Nat := if x < 0 then 32 else useBits (s.kinds.getD x.toNat 0) (s.full.getD x.toNat false)
def Shp.useAt (s : Shp) (i : Int) : Nat := if i < 0 then 64 else s.useOf (s.stack.getD i.toNat 0)
open Classical in
noncomputable def Shp.useFrom (s : Shp) (a : Nat) : Nat := if (s.stack.length - a) % 2 = 0 ∧ KeysP s.kinds (s.stack.drop a) then 128 else 0
def takesN (c : Int) : Int := if c = 3 ∨ c = 9 ∨ c = 12 ∨ c = 18 then -1 else if c = 5 ∨ c = 8 ∨ c = 14 ∨ c = 17 then 1 else if c = 6 ∨ c = 11 then 2 else 0
def need0 (c : Int) : Nat := if c = 9 then 4 else if c = 11 ∨ c = 12 then 8 else 0
def need1 (c : Int) : Nat := if c = 3 ∨ c = 9 ∨ c = 12 ∨ c = 18 then 32 else if c = 6 then 1 else if c = 8 then 4 else if c = 11 then 2 else if c = 14 then 16 else if c = 19 then 64 else 0
def need2 (c : Int) : Nat := if c = 12 then 128 else if c = 5 ∨ c = 6 ∨ c = 8 ∨ c = 11 ∨ c = 14 ∨ c = 15 ∨ c = 17 ∨ c = 19 then 1 else 0
noncomputable def Shp.view0 (s : Shp) (c : Int) : Nat := if takesN c = -1 then s.useAt ((above s.stack : Int) - 2) else s.useAt ((s.stack.length : Int) - 1 - 2)
noncomputable def Shp.view1 (s : Shp) (c : Int) : Nat := if takesN c = -1 then s.useAt ((above s.stack : Int) - 1) else s.useAt ((s.stack.length : Int) - 1 - 1)
noncomputable def Shp.view2 (s : Shp) (c : Int) : Nat := if takesN c = -1 then s.useFrom (above s.stack) else s.useAt ((s.stack.length : Int) - 1)
def Shp.Has (s : Shp) (o : Od) : Prop := (o.code = 16 → 0 ≤ s.memo.getD o.arg.toNat 0) ∧ s.view0 o.code &&& need0 o.code = need0 o.code ∧ s.view1 o.code &&& need1 o.code = need1 o.code ∧ s.view2 o.code &&& need2 o.code = need2 o.code
def Shp.took (s : Shp) (c : Int) : Shp := if takesN c = -1 then s.cutTo (above s.stack - 1) else s.cutTo (s.stack.length - (takesN c).toNat)
def Shp.acted (s : Shp) (o : Od) : Shp :=
  if o.code = 0 then s.push 0 else if o.code = 1 then s.push 1 else if o.code = 2 then { s with stack := s.stack ++ [-1] }
  else if o.code = 3 ∨ o.code = 4 ∨ o.code = 5 ∨ o.code = 6 then s.push 2 else if o.code = 7 then s.push 3 else if o.code = 10 then s.push 4 else if o.code = 13 then s.push 5
  else if o.code = 14 then { s with full := s.full.set (s.thing 0).toNat true }
  else if o.code = 15 then { s with memo := s.memo.set o.arg.toNat (s.thing 0) }
  else if o.code = 16 then { s with stack := s.stack ++ [s.memo.getD o.arg.toNat 0] }
  else if o.code = 19 then { s with done := true } else s
theorem useBits_1 (k : Int) (f : Bool) : useBits k f &&& 1 = 1 := by
  unfold useBits
  repeat' split
  all_goals decide
theorem useBits_2 (k : Int) (f : Bool) : useBits k f &&& 2 = 2 ↔ KeyK k := by
  unfold useBits KeyK
  split
  · next h => simp [h]
  · next h =>
    simp only [h, iff_false]
    repeat' split
    all_goals decide
theorem useBits_4 (k : Int) (f : Bool) : useBits k f &&& 4 = 4 ↔ k = 3 := by
  unfold useBits
  split
  · next h =>
    constructor
    · intro hh; exact absurd hh (by decide)
    · intro hh; omega
  · split
    · next h => simp [h]
    · next h =>
      simp only [h, iff_false]
      repeat' split
      all_goals decide
theorem useBits_8 (k : Int) (f : Bool) : useBits k f &&& 8 = 8 ↔ k = 4 := by
  unfold useBits
  split
  · next h =>
    constructor
    · intro hh; exact absurd hh (by decide)
    · intro hh; omega
  · split
    · next h => simp [h]
    · split
      · next h => simp [h]
      · next h =>
        simp only [h, iff_false]
        repeat' split
        all_goals decide
theorem useBits_16 (k : Int) (f : Bool) : useBits k f &&& 16 = 16 ↔ k = 5 ∧ f = false := by
  unfold useBits
  split
  · next h =>
    constructor
    · intro hh; exact absurd hh (by decide)
    · intro hh; omega
  · split
    · next h =>
      constructor
      · intro hh; exact absurd hh (by decide)
      · intro hh; omega
    · split
      · next h =>
        constructor
        · intro hh; exact absurd hh (by decide)
        · intro hh; omega
      · split
        · next h => simp [h]
        · next h =>
          simp only [h, iff_false]
          decide
theorem useBits_hi (k : Int) (f : Bool) : ¬ useBits k f &&& 32 = 32 ∧ ¬ useBits k f &&& 64 = 64 := by
  unfold useBits
  repeat' split
  all_goals decide
theorem Shp.useTop {s : Shp} (h : s.Ok) (d : Nat) : s.useAt ((s.stack.length : Int) - 1 - d) = if s.stack.length ≤ d then 64 else if s.thing d < 0 then 32 else useBits (s.kindAt d) (s.full.getD (s.thing d).toNat false) := by
  unfold Shp.useAt
  by_cases hd : s.stack.length ≤ d
  · rw [if_pos (by omega), if_pos hd]
  · rw [if_neg (by omega), if_neg hd]
    have e : ((s.stack.length : Int) - 1 - d).toNat = s.stack.length - 1 - d := by omega
    have et : s.thing d = s.stack.getD (s.stack.length - 1 - d) 0 := by unfold Shp.thing; rw [if_pos (by omega)]
    rw [e, ← et]
    unfold Shp.useOf
    by_cases ht : s.thing d < 0
    · rw [if_pos ht, if_pos ht]
    · rw [if_neg ht, if_neg ht]
      unfold Shp.kindAt
      rw [if_neg ht]
theorem Shp.thing_none {s : Shp} {d : Nat} (h : s.stack.length ≤ d) : s.thing d = -1 := by unfold Shp.thing; rw [if_neg (by omega)]
theorem Shp.kindAt_none {s : Shp} {d : Nat} (h : s.thing d < 0) : s.kindAt d = -1 := by unfold Shp.kindAt; rw [if_pos h]
theorem Shp.top_1 {s : Shp} (h : s.Ok) (d : Nat) : s.useAt ((s.stack.length : Int) - 1 - d) &&& 1 = 1 ↔ 0 ≤ s.kindAt d := by
  have hk := (h.kindAt d).2.2
  rw [Shp.useTop h]
  split
  · next hd =>
    have := Shp.thing_none hd; constructor
    · intro hh; exact absurd hh (by decide)
    · intro hh; omega
  · split
    · next ht =>
      constructor
      · intro hh; exact absurd hh (by decide)
      · intro hh; omega
    · simp only [useBits_1, true_iff]; omega
theorem Shp.top_2 {s : Shp} (h : s.Ok) (d : Nat) : s.useAt ((s.stack.length : Int) - 1 - d) &&& 2 = 2 ↔ KeyK (s.kindAt d) := by
  have hk := (h.kindAt d).2.2
  rw [Shp.useTop h]
  split
  · next hd =>
    have := Shp.kindAt_none (s := s) (d := d) (by rw [Shp.thing_none hd]; omega)
    constructor
    · intro hh; exact absurd hh (by decide)
    · unfold KeyK; intro hh; omega
  · split
    · next ht =>
      have := Shp.kindAt_none ht
      constructor
      · intro hh; exact absurd hh (by decide)
      · unfold KeyK; intro hh; omega
    · exact useBits_2 _ _
theorem Shp.top_4 {s : Shp} (h : s.Ok) (d : Nat) : s.useAt ((s.stack.length : Int) - 1 - d) &&& 4 = 4 ↔ s.kindAt d = 3 := by
  rw [Shp.useTop h]
  split
  · next hd =>
    have := Shp.kindAt_none (s := s) (d := d) (by rw [Shp.thing_none hd]; omega)
    constructor
    · intro hh; exact absurd hh (by decide)
    · intro hh; omega
  · split
    · next ht =>
      have := Shp.kindAt_none ht
      constructor
      · intro hh; exact absurd hh (by decide)
      · intro hh; omega
    · exact useBits_4 _ _
theorem Shp.top_8 {s : Shp} (h : s.Ok) (d : Nat) : s.useAt ((s.stack.length : Int) - 1 - d) &&& 8 = 8 ↔ s.kindAt d = 4 := by
  rw [Shp.useTop h]
  split
  · next hd =>
    have := Shp.kindAt_none (s := s) (d := d) (by rw [Shp.thing_none hd]; omega)
    constructor
    · intro hh; exact absurd hh (by decide)
    · intro hh; omega
  · split
    · next ht =>
      have := Shp.kindAt_none ht
      constructor
      · intro hh; exact absurd hh (by decide)
      · intro hh; omega
    · exact useBits_8 _ _
theorem Shp.top_16 {s : Shp} (h : s.Ok) (d : Nat) : s.useAt ((s.stack.length : Int) - 1 - d) &&& 16 = 16 ↔ s.kindAt d = 5 ∧ s.full.getD (s.thing d).toNat false = false := by
  rw [Shp.useTop h]
  split
  · next hd =>
    have := Shp.kindAt_none (s := s) (d := d) (by rw [Shp.thing_none hd]; omega)
    constructor
    · intro hh; exact absurd hh (by decide)
    · intro hh; omega
  · split
    · next ht =>
      have := Shp.kindAt_none ht
      constructor
      · intro hh; exact absurd hh (by decide)
      · intro hh; omega
    · exact useBits_16 _ _
theorem Shp.top_64 {s : Shp} (h : s.Ok) (d : Nat) : s.useAt ((s.stack.length : Int) - 1 - d) &&& 64 = 64 ↔ s.stack.length ≤ d := by
  rw [Shp.useTop h]
  split
  · next hd => simp [hd]
  · next hd =>
    simp only [hd, iff_false]
    split
    · decide
    · exact (useBits_hi _ _).2
theorem Shp.mark_32 (s : Shp) : s.useAt ((above s.stack : Int) - 1) &&& 32 = 32 ↔ above s.stack ≠ 0 := by
  unfold Shp.useAt
  by_cases h : above s.stack = 0
  · rw [h]; simp
  · rw [if_neg (by omega)]
    have e : ((above s.stack : Int) - 1).toNat = above s.stack - 1 := by omega
    have hm := above_mark (l := s.stack) (a := above s.stack - 1) (by omega)
    rw [e]
    unfold Shp.useOf
    rw [if_pos hm]
    simp [h]
theorem Shp.cut_use {s : Shp} (a : Nat) (ha : a ≤ s.stack.length) : s.useAt ((a : Int) - 1) = (s.cutTo a).useAt (((s.cutTo a).stack.length : Int) - 1 - (0 : Nat)) := by
  have hl : (s.cutTo a).stack.length = a := by unfold Shp.cutTo; simp; omega
  rw [hl]
  unfold Shp.useAt
  by_cases h : (a : Int) - 1 < 0
  · rw [if_pos h, if_pos (by omega)]
  · rw [if_neg h, if_neg (by omega)]
    have e : ((a : Int) - 1).toNat = a - 1 := by omega
    have e2 : ((a : Int) - 1 - (0 : Nat)).toNat = a - 1 := by omega
    rw [e, e2]
    have hg : (s.cutTo a).stack.getD (a - 1) 0 = s.stack.getD (a - 1) 0 := by
      unfold Shp.cutTo
      rw [List.getD_eq_getElem?_getD, List.getD_eq_getElem?_getD, List.getElem?_take, if_pos (by omega)]
    rw [hg]
    rfl
theorem Shp.useFrom_128 (s : Shp) (a : Nat) : s.useFrom a &&& 128 = 128 ↔ ((s.stack.length - a) % 2 = 0 ∧ KeysP s.kinds (s.stack.drop a)) := by
  unfold Shp.useFrom
  split
  · next h => simp [h]
  · next h => simp [h]
theorem stepFree_has {s : Shp} {o : Od} (h : s.Ok) (hd : s.done = false) (ho : 0 ≤ o.code ∧ o.code ≤ 19) (ha : o.code = 16 → o.arg.toNat < 20) :
    (s.Has o → stepFree s o = some ((s.took o.code).acted o)) ∧ (¬ s.Has o → stepFree s o = none) := by
  obtain ⟨cd, ar⟩ := o
  simp only at ho ha
  have t0 := Shp.top_1 h 0
  have t1 := Shp.top_1 h 1
  have t2 := Shp.top_2 h 1
  have t4 := Shp.top_4 h 1
  have t8 := Shp.top_8 h 2
  have t16 := Shp.top_16 h 1
  have t64 := Shp.top_64 h 1
  have m32 := s.mark_32
  have hal := above_le s.stack
  have m4 : above s.stack ≠ 0 → (s.useAt ((above s.stack : Int) - 2) &&& 4 = 4 ↔ (s.cutTo (above s.stack - 1)).kindAt 0 = 3) := by
    intro hne
    rw [show (above s.stack : Int) - 2 = ((above s.stack - 1 : Nat) : Int) - 1 by omega, Shp.cut_use _ (by omega)]
    exact Shp.top_4 (h.cut _) 0
  have m8 : above s.stack ≠ 0 → (s.useAt ((above s.stack : Int) - 2) &&& 8 = 8 ↔ (s.cutTo (above s.stack - 1)).kindAt 0 = 4) := by
    intro hne
    rw [show (above s.stack : Int) - 2 = ((above s.stack - 1 : Nat) : Int) - 1 by omega, Shp.cut_use _ (by omega)]
    exact Shp.top_8 (h.cut _) 0
  have f128 := s.useFrom_128 (above s.stack)
  have c0 : s.cutTo s.stack.length = s := Shp.cutTo_all s
  have th1 : ∀ n, n ≤ s.stack.length → (s.cutTo (s.stack.length - n)).thing 0 = s.thing n ∨ s.stack.length - n = 0 := by
    intro n hn
    by_cases hz : s.stack.length - n = 0
    · exact .inr hz
    · left
      have hl : (s.cutTo (s.stack.length - n)).stack.length = s.stack.length - n := by unfold Shp.cutTo; simp
      unfold Shp.thing
      rw [hl, if_pos (by omega), if_pos (by omega)]
      unfold Shp.cutTo
      rw [List.getD_eq_getElem?_getD, List.getD_eq_getElem?_getD, List.getElem?_take, if_pos (by omega)]
      congr 2
      omega
  simp only [Int.natCast_zero, Int.sub_zero] at t0
  have h20 : cd = 0 ∨ cd = 1 ∨ cd = 2 ∨ cd = 3 ∨ cd = 4 ∨ cd = 5 ∨ cd = 6 ∨ cd = 7 ∨ cd = 8 ∨ cd = 9 ∨ cd = 10 ∨ cd = 11 ∨ cd = 12 ∨ cd = 13 ∨ cd = 14 ∨ cd = 15 ∨ cd = 16 ∨ cd = 17 ∨ cd = 18 ∨ cd = 19 := by omega
  have u0 : s.useAt ((s.stack.length : Int) - 1) % 2 = 1 ↔ 0 ≤ s.kindAt 0 := by rw [← t0, Nat.and_one_is_mod]
  have u1 : s.useAt ((s.stack.length : Int) - 1 - 1) % 2 = 1 ↔ 0 ≤ s.kindAt 1 := by rw [← t1, Nat.and_one_is_mod]; simp
  have v0 : s.useAt ((s.stack.length : Int) - 1) % 2 = 0 ↔ s.kindAt 0 < 0 := by omega
  have v1 : s.useAt ((s.stack.length : Int) - 1 - 1) % 2 = 0 ↔ s.kindAt 1 < 0 := by omega
  have k0 := (h.kindAt 0)
  have k1 := (h.kindAt 1)
  have n0 : s.stack.length = 0 → s.kindAt 0 < 0 := fun hz => by
    rw [Shp.kindAt_none (by rw [Shp.thing_none (by omega)]; omega)]; omega
  have n1 : s.stack.length ≤ 1 → s.kindAt 1 < 0 := fun hz => by
    rw [Shp.kindAt_none (by rw [Shp.thing_none (by omega)]; omega)]; omega
  simp only [Int.natCast_one] at t1 t2 t4 t16 t64
  simp only [show ((2 : Nat) : Int) = 2 from rfl] at t8
  have thr := th1 1
  clear th1
  rcases h20 with rfl | rfl | rfl | rfl | rfl | rfl | rfl | rfl | rfl | rfl | rfl | rfl | rfl | rfl | rfl | rfl | rfl | rfl | rfl | rfl
  · simp [Shp.Has, need0, need1, need2, stepFree, newK, hd, Shp.took, takesN, Shp.acted, c0]
  · simp [Shp.Has, need0, need1, need2, stepFree, newK, hd, Shp.took, takesN, Shp.acted, c0]
  · simp [Shp.Has, need0, need1, need2, stepFree, newK, hd, Shp.took, takesN, Shp.acted, c0]
  · simp [Shp.Has, Shp.view0, Shp.view1, Shp.view2, need0, need1, need2, takesN, stepFree, newK, hd, IsMarkOp, Shp.took, Shp.acted, markStep, m32]
  · simp [Shp.Has, need0, need1, need2, stepFree, newK, hd, Shp.took, takesN, Shp.acted, c0]
  · simp [Shp.Has, Shp.view0, Shp.view1, Shp.view2, need0, need1, need2, takesN, stepFree, newK, hd, IsMarkOp, Shp.took, Shp.acted, takeStep, u0, v0]
  · simp [Shp.Has, Shp.view0, Shp.view1, Shp.view2, need0, need1, need2, takesN, stepFree, newK, hd, IsMarkOp, Shp.took, Shp.acted, takeStep, u0, u1, v0, v1]
    omega
  · simp [Shp.Has, need0, need1, need2, stepFree, newK, hd, Shp.took, takesN, Shp.acted, c0]
  · simp [Shp.Has, Shp.view0, Shp.view1, Shp.view2, need0, need1, need2, takesN, stepFree, newK, hd, IsMarkOp, Shp.took, Shp.acted, takeStep, u0, v0, t4]
    omega
  · simp [Shp.Has, Shp.view0, Shp.view1, Shp.view2, need0, need1, need2, takesN, stepFree, newK, hd, IsMarkOp, Shp.took, Shp.acted, markStep, m32]
    grind
  · simp [Shp.Has, need0, need1, need2, stepFree, newK, hd, Shp.took, takesN, Shp.acted, c0]
  · simp [Shp.Has, Shp.view0, Shp.view1, Shp.view2, need0, need1, need2, takesN, stepFree, newK, hd, IsMarkOp, Shp.took, Shp.acted, takeStep, u0, v0, t2, t8]
    grind
  · simp [Shp.Has, Shp.view0, Shp.view1, Shp.view2, need0, need1, need2, takesN, stepFree, newK, hd, IsMarkOp, Shp.took, Shp.acted, markStep, m32, f128]
    grind
  · simp [Shp.Has, need0, need1, need2, stepFree, newK, hd, Shp.took, takesN, Shp.acted, c0]
  · simp [Shp.Has, Shp.view0, Shp.view1, Shp.view2, need0, need1, need2, takesN, stepFree, newK, hd, IsMarkOp, Shp.took, Shp.acted, takeStep, u0, v0, t16]
    have hf : (s.cutTo (s.stack.length - 1)).full = s.full := rfl
    refine ⟨fun h1 h2 h3 => ⟨h3, ⟨h1, h2⟩, ?_⟩, fun g h3 h1 => ?_⟩
    · have hl : ¬ s.stack.length ≤ 1 := fun hz => by have := n1 hz; omega
      rcases thr (by omega) with e | e
      · rw [hf, e]
      · omega
    · cases hg : s.full[(s.thing 1).toNat]?.getD false with
      | false => have := g h1 hg; omega
      | true => rfl
  · simp [Shp.Has, Shp.view0, Shp.view1, Shp.view2, need0, need1, need2, takesN, stepFree, newK, hd, IsMarkOp, Shp.took, Shp.acted, takeStep, u0, v0, c0]
  · simp [Shp.Has, Shp.view0, Shp.view1, Shp.view2, need0, need1, need2, takesN, stepFree, newK, hd, IsMarkOp, Shp.took, Shp.acted, takeStep, c0]
  · simp [Shp.Has, Shp.view0, Shp.view1, Shp.view2, need0, need1, need2, takesN, stepFree, newK, hd, IsMarkOp, Shp.took, Shp.acted, takeStep, u0, v0]
  · simp [Shp.Has, Shp.view0, Shp.view1, Shp.view2, need0, need1, need2, takesN, stepFree, newK, hd, IsMarkOp, Shp.took, Shp.acted, markStep, m32]
  · simp [Shp.Has, Shp.view0, Shp.view1, Shp.view2, need0, need1, need2, takesN, stepFree, newK, hd, IsMarkOp, Shp.took, Shp.acted, takeStep, u0, v0, t64, c0]
    grind
end Go.Proofs.YtbihgafkmmcjlaaDoor

namespace Go.Proofs.YtbihgafkmmcjlaaDoor
open Go.RowKit
def AllIn (xs : List Int) (lo hi : Int) : Prop := ∀ x ∈ xs, lo ≤ x ∧ x ≤ hi
set_option maxHeartbeats 1000000 in
theorem allIn_any (A : Option Addr) (xs : List Int) (c : Nat) (lo hi : Int) (w : World) (h : IntsAt w w.heap.size A xs) :
    Calls Tryd.prog 71 #[.slice A xs.length c, .int .i64 lo, .int .i64 hi] w fun e w' => e = .returned (.bool (tf (AllIn xs lo hi))) ∧ w = w' := by
  have hl := h.len
  go_enter Tryd.func71, Tryd.ntmps71
  go_wp2_with fail
  go_loop [7] (fun i => ∃ k : Nat, k ≤ xs.length ∧ i = .int .i64 k ∧ ∀ j x, j < k → xs[j]? = some x → lo ≤ x ∧ x ≤ hi) (fun i => xs.length - (intOf i).toNat)
  case atStart => exact ⟨0, Nat.zero_le _, rfl, fun j _ hj => absurd hj (by omega)⟩
  case round =>
    obtain ⟨k, hk, rfl, he0⟩ := hrel
    have he := hide he0
    clear he0
    by_cases hlt : k < xs.length
    · obtain ⟨b, off, x, rfl, hbl, hx, hmem, hc⟩ := h.at_ hlt
      have Hx := hide hx
      clear hx
      by_cases hin : lo ≤ x ∧ x ≤ hi
      · have He : Hid (∀ j y, j < k + 1 → xs[j]? = some y → lo ≤ y ∧ y ≤ hi) := by
          intro j y hj hy
          by_cases e : j = k
          · subst e
            have := Hx.out.symm.trans hy
            injection this with this
            subst this
            exact hin
          · exact he.out j y (by omega) hy
        obtain ⟨h1, h2⟩ := hin
        clear he hmem
        go_wp2_with fail
        refine (inRange_yes x lo hi w h1 h2).mono ?_
        rintro e w' ⟨rfl, rfl⟩
        go_wp2
        go_round
        case rel => exact ⟨k + 1, by omega, by go_num, He.out⟩
        case measure => simp [intOf]; omega
      · have HF := hide (show tf (AllIn xs lo hi) = false from tf_false fun hall => hin (hall x hmem))
        have hno : x < lo ∨ hi < x := by omega
        clear he hmem
        go_wp2_with fail
        refine (inRange_no x lo hi w hno).mono ?_
        rintro e w' ⟨rfl, rfl⟩
        clear hno hin
        go_wp2
        go_ret
        exact ⟨ret_bool HF.out.symm, rfl⟩
    · obtain rfl : k = xs.length := by omega
      have HF := hide (show tf (AllIn xs lo hi) = true from tf_true fun x hx => by
        obtain ⟨j, hj, rfl⟩ := List.getElem_of_mem hx
        exact he.out j _ hj (List.getElem?_eq_getElem hj))
      clear hlt
      go_wp2
      go_ret
      exact ⟨ret_bool HF.out.symm, rfl⟩
end Go.Proofs.YtbihgafkmmcjlaaDoor

namespace Go.Proofs.YtbihgafkmmcjlaaDoor
open Go.RowKit
set_option linter.unusedVariables false
structure Cells5 (w : World) (q off : Nat) (v0 v1 v2 v3 v4 : Value) : Prop where
  c0 : w.cell? ⟨q, off, none⟩ = some v0
  c1 : w.cell? ⟨q, off + 1, none⟩ = some v1
  c2 : w.cell? ⟨q, off + 2, none⟩ = some v2
  c3 : w.cell? ⟨q, off + 3, none⟩ = some v3
  c4 : w.cell? ⟨q, off + 4, none⟩ = some v4
  f0 : w.frozen? ⟨q, off, none⟩ = false
  f1 : w.frozen? ⟨q, off + 1, none⟩ = false
  f2 : w.frozen? ⟨q, off + 2, none⟩ = false
  f3 : w.frozen? ⟨q, off + 3, none⟩ = false
  f4 : w.frozen? ⟨q, off + 4, none⟩ = false
theorem Cells5.ofB {w w' : World} {q off : Nat} {v0 v1 v2 v3 v4 : Value} (h : Cells5 w q off v0 v1 v2 v3 v4) (hb : w'.heap[q]? = w.heap[q]?) : Cells5 w' q off v0 v1 v2 v3 v4 := by
  have hc : ∀ o, w'.cell? ⟨q, o, none⟩ = w.cell? ⟨q, o, none⟩ := fun o => World.cell?_of_block (w := w) hb
  have hf : ∀ o, w'.frozen? ⟨q, o, none⟩ = w.frozen? ⟨q, o, none⟩ := fun o => World.frozen?_of_block (w := w) hb
  exact ⟨(hc _).trans h.c0, (hc _).trans h.c1, (hc _).trans h.c2, (hc _).trans h.c3, (hc _).trans h.c4, (hf _).trans h.f0, (hf _).trans h.f1, (hf _).trans h.f2, (hf _).trans h.f3, (hf _).trans h.f4⟩
theorem addr_ne {q i j : Nat} (h : i ≠ j) : (⟨q, i, none⟩ : Addr) ≠ ⟨q, j, none⟩ := fun e => h (by injection e)
theorem setSame {w : World} {a : Addr} {u v : Value} (h : w.cell? a = some u) : (w.setCell a v).cell? a = some v := World.cell?_setCell_same' w a v (by rw [h]; rfl)
theorem setOther {w : World} {a b : Addr} {v : Value} (h : a ≠ b) : (w.setCell a v).cell? b = w.cell? b := by rw [World.cell?_setCell_other]; exact h
theorem setFroz {w : World} {a b : Addr} {v : Value} : (w.setCell a v).frozen? b = w.frozen? b := by simp
section set
variable {w : World} {q off : Nat} {v0 v1 v2 v3 v4 : Value}
theorem Cells5.set0 (h : Cells5 w q off v0 v1 v2 v3 v4) (u : Value) : Cells5 (w.setCell ⟨q, off, none⟩ u) q off u v1 v2 v3 v4 :=
  ⟨setSame h.c0, (setOther (addr_ne (by omega))).trans h.c1, (setOther (addr_ne (by omega))).trans h.c2, (setOther (addr_ne (by omega))).trans h.c3, (setOther (addr_ne (by omega))).trans h.c4,
    setFroz.trans h.f0, setFroz.trans h.f1, setFroz.trans h.f2, setFroz.trans h.f3, setFroz.trans h.f4⟩
theorem Cells5.set1 (h : Cells5 w q off v0 v1 v2 v3 v4) (u : Value) : Cells5 (w.setCell ⟨q, off + 1, none⟩ u) q off v0 u v2 v3 v4 :=
  ⟨(setOther (addr_ne (by omega))).trans h.c0, setSame h.c1, (setOther (addr_ne (by omega))).trans h.c2, (setOther (addr_ne (by omega))).trans h.c3, (setOther (addr_ne (by omega))).trans h.c4,
    setFroz.trans h.f0, setFroz.trans h.f1, setFroz.trans h.f2, setFroz.trans h.f3, setFroz.trans h.f4⟩
theorem Cells5.set2 (h : Cells5 w q off v0 v1 v2 v3 v4) (u : Value) : Cells5 (w.setCell ⟨q, off + 2, none⟩ u) q off v0 v1 u v3 v4 :=
  ⟨(setOther (addr_ne (by omega))).trans h.c0, (setOther (addr_ne (by omega))).trans h.c1, setSame h.c2, (setOther (addr_ne (by omega))).trans h.c3, (setOther (addr_ne (by omega))).trans h.c4,
    setFroz.trans h.f0, setFroz.trans h.f1, setFroz.trans h.f2, setFroz.trans h.f3, setFroz.trans h.f4⟩
theorem Cells5.set4 (h : Cells5 w q off v0 v1 v2 v3 v4) (u : Value) : Cells5 (w.setCell ⟨q, off + 4, none⟩ u) q off v0 v1 v2 v3 u :=
  ⟨(setOther (addr_ne (by omega))).trans h.c0, (setOther (addr_ne (by omega))).trans h.c1, (setOther (addr_ne (by omega))).trans h.c2, (setOther (addr_ne (by omega))).trans h.c3, setSame h.c4,
    setFroz.trans h.f0, setFroz.trans h.f1, setFroz.trans h.f2, setFroz.trans h.f3, setFroz.trans h.f4⟩
end set
structure SbAt (w : World) (base q off : Nat) (p : ShPtr) (s : Shp) : Prop where
  c : Cells5 w q off (.slice p.K s.kinds.length p.c1) (.slice p.F s.full.length p.c2) (.slice p.S s.stack.length p.c3) (.slice p.M s.memo.length p.c4) (.bool s.done)
  own : ShOwn w base p s
  off_ : p.Off q
  lt : q < w.heap.size
theorem ShBox.sb {w : World} {base q : Nat} {p : ShPtr} {s : Shp} (h : ShBox w base q p s) : SbAt w base q 0 p s := by
  obtain ⟨e0, e1, e2, e3, e4⟩ := h.cells
  exact ⟨⟨e0, e1, e2, e3, e4, h.box.frozen 0, h.box.frozen _, h.box.frozen _, h.box.frozen _, h.box.frozen _⟩, h.own, h.off, h.box.lt⟩
theorem SbAt.below {w w' : World} {base q off : Nat} {p : ShPtr} {s : Shp} (h : SbAt w base q off p s) (hb : Below w.heap.size w w') : SbAt w' base q off p s :=
  ⟨h.c.ofB (hb.block q h.lt), h.own.below hb, h.off_, Nat.lt_of_lt_of_le h.lt hb.size⟩
theorem SbAt.alloc {w : World} {base q off : Nat} {p : ShPtr} {s : Shp} (h : SbAt w base q off p s) (o : Obj) : SbAt (w.alloc o) base q off p s := h.below ((Below.refl _ _).alloc (Nat.le_refl _) o)
theorem SbAt.drew {w : World} {base q off : Nat} {p : ShPtr} {s : Shp} (h : SbAt w base q off p s) : SbAt w.drew base q off p s := h.below (Below.refl _ _).drew
structure SbFr (w w' : World) (q off : Nat) (p p' : ShPtr) : Prop where
  os : w'.os = w.os
  tape : w'.tape = w.tape
  output : w'.output = w.output
  size : w.heap.size ≤ w'.heap.size
  blk : ∀ k, k < w.heap.size → k ≠ q → p.Off k → w'.heap[k]? = w.heap[k]?
  cell : ∀ j, j < off ∨ off + 5 ≤ j → w'.cell? ⟨q, j, none⟩ = w.cell? ⟨q, j, none⟩ ∧ w'.frozen? ⟨q, j, none⟩ = w.frozen? ⟨q, j, none⟩
  offs : ∀ k, k < w.heap.size → p.Off k → p'.Off k
theorem SbFr.refl (w : World) (q off : Nat) (p : ShPtr) : SbFr w w q off p p := ⟨rfl, rfl, rfl, Nat.le_refl _, fun _ _ _ _ => rfl, fun _ _ => ⟨rfl, rfl⟩, fun _ _ h => h⟩
theorem SbFr.trans {a b c : World} {q off : Nat} {p p' p'' : ShPtr} (h : SbFr a b q off p p') (k : SbFr b c q off p' p'') : SbFr a c q off p p'' :=
  ⟨k.os.trans h.os, k.tape.trans h.tape, k.output.trans h.output, Nat.le_trans h.size k.size, fun i hi hq ho => (k.blk i (Nat.lt_of_lt_of_le hi h.size) hq (h.offs i hi ho)).trans (h.blk i hi hq ho), fun j hj => ⟨(k.cell j hj).1.trans (h.cell j hj).1, (k.cell j hj).2.trans (h.cell j hj).2⟩, fun i hi ho => k.offs i (Nat.lt_of_lt_of_le hi h.size) (h.offs i hi ho)⟩
theorem SbFr.of_below {w w' : World} {q off : Nat} {p : ShPtr} (h : Below w.heap.size w w') (hq : q < w.heap.size) : SbFr w w' q off p p :=
  ⟨h.os, h.tape, h.output, h.size, fun k hk _ _ => h.block k hk, fun j _ => ⟨h.cell (p := ⟨q, j, none⟩) hq, h.frozen (p := ⟨q, j, none⟩) hq⟩, fun _ _ ho => ho⟩
theorem SbFr.below {w w' : World} {B base q off : Nat} {p p' : ShPtr} {s : Shp} (h : SbFr w w' q off p p') (hs : SbAt w base q off p s) (hB : B ≤ base) (hq : B ≤ q) : Below B w w' :=
  ⟨h.os, h.tape, h.output, h.size, fun k hk => h.blk k (by have := hs.lt; omega) (by omega) (hs.own.off (.inl (by omega)))⟩
section grown
variable {w w1 : World} {base q off : Nat} {p : ShPtr} {s : Shp} {A' : Option Addr} {c' : Nat} {lit : Obj} {row : Option Nat}
theorem SbAt.grownB (h : SbAt w base q off p s) (hg : (w.alloc lit).grownBy w1 row) (hne : row ≠ some q) : w1.heap[q]? = w.heap[q]? := by
  rw [hg.block q (by simp; have := h.lt; omega) (fun e => hne e.symm), Below.heap_alloc _ _ _ h.lt]
theorem ShOwn.pushK {zs : List Int} (h : ShOwn w base p s) (ho : OwnI w1 base A' c' zs) (hg : (w.alloc lit).grownBy w1 (blockOf p.K)) (hat : blockOf A' = blockOf p.K ∨ blockOf A' = some (w.alloc lit).heap.size) :
    ShOwn w1 base { p with K := A', c1 := c' } { s with kinds := zs } :=
  ⟨ho, h.f.stays hg h.kf, h.t.stays hg h.kt, h.m.stays hg h.km, apart_grown hat h.kf (fun b hb => (h.f.blocks b hb).2), apart_grown hat h.kt (fun b hb => (h.t.blocks b hb).2), apart_grown hat h.km (fun b hb => (h.m.blocks b hb).2), h.ft, h.fm, h.tm⟩
theorem ShOwn.pushF {zs : List Bool} (h : ShOwn w base p s) (ho : OwnB w1 base A' c' zs) (hg : (w.alloc lit).grownBy w1 (blockOf p.F)) (hat : blockOf A' = blockOf p.F ∨ blockOf A' = some (w.alloc lit).heap.size) :
    ShOwn w1 base { p with F := A', c2 := c' } { s with full := zs } :=
  ⟨h.k.stays hg (symm_apart h.kf), ho, h.t.stays hg h.ft, h.m.stays hg h.fm, symm_apart (apart_grown hat (symm_apart h.kf) (fun b hb => (h.k.blocks b hb).2)), h.kt, h.km, apart_grown hat h.ft (fun b hb => (h.t.blocks b hb).2), apart_grown hat h.fm (fun b hb => (h.m.blocks b hb).2), h.tm⟩
theorem ShOwn.pushT {zs : List Int} (h : ShOwn w base p s) (ho : OwnI w1 base A' c' zs) (hg : (w.alloc lit).grownBy w1 (blockOf p.S)) (hat : blockOf A' = blockOf p.S ∨ blockOf A' = some (w.alloc lit).heap.size) :
    ShOwn w1 base { p with S := A', c3 := c' } { s with stack := zs } :=
  ⟨h.k.stays hg (symm_apart h.kt), h.f.stays hg (symm_apart h.ft), ho, h.m.stays hg h.tm, h.kf, symm_apart (apart_grown hat (symm_apart h.kt) (fun b hb => (h.k.blocks b hb).2)), h.km, symm_apart (apart_grown hat (symm_apart h.ft) (fun b hb => (h.f.blocks b hb).2)), h.fm, apart_grown hat h.tm (fun b hb => (h.m.blocks b hb).2)⟩
theorem SbFr.grown {i : Nat} {v : Value} {p' : ShPtr} (hq : q < w.heap.size) (hg : (w.alloc lit).grownBy w1 row) (hr : row ≠ some q) (hi : off ≤ i ∧ i < off + 5) (hrow : ∀ k, p.Off k → row ≠ some k) (hoffs : ∀ k, k < w.heap.size → p.Off k → p'.Off k) : SbFr w (w1.setCell ⟨q, i, none⟩ v) q off p p' := by
  have hs := hg.size
  simp at hs
  have hbq : w1.heap[q]? = w.heap[q]? := by rw [hg.block q (by simp; omega) (fun e => hr e.symm), Below.heap_alloc _ _ _ hq]
  refine ⟨?_, ?_, ?_, by simp; omega, fun k hk hkq ho => ?_, fun j hj => ⟨?_, ?_⟩, hoffs⟩
  · exact hg.os
  · exact hg.tape
  · exact hg.output
  · rw [Below.heap_setCell _ _ _ _ (by show k ≠ q; exact hkq), hg.block k (by simp; omega) (fun e => hrow k ho e.symm), Below.heap_alloc _ _ _ hk]
  · exact (setOther (addr_ne (by omega))).trans <| World.cell?_of_block (w := w) hbq
  · exact setFroz.trans <| World.frozen?_of_block (w := w) hbq
theorem SbAt.pushK {zs : List Int} (h : SbAt w base q off p s) (ho : OwnI w1 base A' c' zs) (hg : (w.alloc lit).grownBy w1 (blockOf p.K)) (hat : blockOf A' = blockOf p.K ∨ blockOf A' = some (w.alloc lit).heap.size) :
    SbAt (w1.setCell ⟨q, off, none⟩ (.slice A' zs.length c')) base q off { p with K := A', c1 := c' } { s with kinds := zs } ∧ SbFr w (w1.setCell ⟨q, off, none⟩ (.slice A' zs.length c')) q off p { p with K := A', c1 := c' } := by
  have hoff : ShPtr.Off { p with K := A', c1 := c' } q := ⟨off_grown hat h.off_.k h.lt, h.off_.f, h.off_.t, h.off_.m⟩
  have hs := hg.size
  simp at hs
  exact ⟨⟨(h.c.ofB (h.grownB hg h.off_.k)).set0 _, (h.own.pushK ho hg hat).far hoff _, hoff, by have := h.lt; simp; omega⟩, SbFr.grown h.lt hg h.off_.k (by omega) (fun k hk => hk.k) (fun k hk ho => ⟨off_grown hat ho.k hk, ho.f, ho.t, ho.m⟩)⟩
theorem SbAt.pushF {zs : List Bool} (h : SbAt w base q off p s) (ho : OwnB w1 base A' c' zs) (hg : (w.alloc lit).grownBy w1 (blockOf p.F)) (hat : blockOf A' = blockOf p.F ∨ blockOf A' = some (w.alloc lit).heap.size) :
    SbAt (w1.setCell ⟨q, off + 1, none⟩ (.slice A' zs.length c')) base q off { p with F := A', c2 := c' } { s with full := zs } ∧ SbFr w (w1.setCell ⟨q, off + 1, none⟩ (.slice A' zs.length c')) q off p { p with F := A', c2 := c' } := by
  have hoff : ShPtr.Off { p with F := A', c2 := c' } q := ⟨h.off_.k, off_grown hat h.off_.f h.lt, h.off_.t, h.off_.m⟩
  have hs := hg.size
  simp at hs
  exact ⟨⟨(h.c.ofB (h.grownB hg h.off_.f)).set1 _, (h.own.pushF ho hg hat).far hoff _, hoff, by have := h.lt; simp; omega⟩, SbFr.grown h.lt hg h.off_.f (by omega) (fun k hk => hk.f) (fun k hk ho => ⟨ho.k, off_grown hat ho.f hk, ho.t, ho.m⟩)⟩
theorem SbAt.pushT {zs : List Int} (h : SbAt w base q off p s) (ho : OwnI w1 base A' c' zs) (hg : (w.alloc lit).grownBy w1 (blockOf p.S)) (hat : blockOf A' = blockOf p.S ∨ blockOf A' = some (w.alloc lit).heap.size) :
    SbAt (w1.setCell ⟨q, off + 2, none⟩ (.slice A' zs.length c')) base q off { p with S := A', c3 := c' } { s with stack := zs } ∧ SbFr w (w1.setCell ⟨q, off + 2, none⟩ (.slice A' zs.length c')) q off p { p with S := A', c3 := c' } := by
  have hoff : ShPtr.Off { p with S := A', c3 := c' } q := ⟨h.off_.k, h.off_.f, off_grown hat h.off_.t h.lt, h.off_.m⟩
  have hs := hg.size
  simp at hs
  exact ⟨⟨(h.c.ofB (h.grownB hg h.off_.t)).set2 _, (h.own.pushT ho hg hat).far hoff _, hoff, by have := h.lt; simp; omega⟩, SbFr.grown h.lt hg h.off_.t (by omega) (fun k hk => hk.t) (fun k hk ho => ⟨ho.k, ho.f, off_grown hat ho.t hk, ho.m⟩)⟩
end grown
theorem SbFr.set {w : World} {q off i : Nat} {v : Value} {p : ShPtr} (hi : off ≤ i ∧ i < off + 5) : SbFr w (w.setCell ⟨q, i, none⟩ v) q off p p :=
  ⟨rfl, rfl, rfl, by simp, fun k hk hkq ho => Below.heap_setCell _ _ _ _ hkq, fun j hj => ⟨setOther (addr_ne (by omega)), setFroz⟩, fun k hk ho => ho⟩
theorem SbAt.cut {w : World} {base q off n : Nat} {p : ShPtr} {s : Shp} (h : SbAt w base q off p s) (hn : n ≤ s.stack.length) : SbAt (w.setCell ⟨q, off + 2, none⟩ (.slice p.S n p.c3)) base q off p (s.cutTo n) ∧ SbFr w (w.setCell ⟨q, off + 2, none⟩ (.slice p.S n p.c3)) q off p p := by
  have hl : (s.stack.take n).length = n := by simp; omega
  refine ⟨⟨?_, (ShBox.cutO (q := q) h.own hn).far h.off_ _, h.off_, by simp; exact h.lt⟩, SbFr.set (by omega)⟩
  have := h.c.set2 (.slice p.S n p.c3)
  unfold Shp.cutTo
  rw [hl]
  exact this
theorem SbAt.stop {w : World} {base q off : Nat} {p : ShPtr} {s : Shp} (h : SbAt w base q off p s) : SbAt (w.setCell ⟨q, off + 4, none⟩ (.bool true)) base q off p { s with done := true } ∧ SbFr w (w.setCell ⟨q, off + 4, none⟩ (.bool true)) q off p p :=
  ⟨⟨h.c.set4 _, ShOwn.far (s := { s with done := true }) ⟨h.own.k, h.own.f, h.own.t, h.own.m, h.own.kf, h.own.kt, h.own.km, h.own.ft, h.own.fm, h.own.tm⟩ h.off_ _, h.off_, by simp; exact h.lt⟩, SbFr.set (by omega)⟩
theorem SbFr.setFar {w : World} {q off g a : Nat} {v : Value} {p : ShPtr} (hq : g ≠ q) (hg : ¬ p.Off g) : SbFr w (w.setCell ⟨g, a, none⟩ v) q off p p := by
  have hb : (w.setCell ⟨g, a, none⟩ v).heap[q]? = w.heap[q]? := Below.heap_setCell _ _ _ _ (by show q ≠ g; exact hq.symm)
  exact ⟨rfl, rfl, rfl, by simp, fun k hk hkq ho => Below.heap_setCell _ _ _ _ (by show k ≠ g; intro e; subst e; exact hg ho), fun j hj => ⟨World.cell?_of_block (w := w) hb, World.frozen?_of_block (w := w) hb⟩, fun k hk ho => ho⟩
theorem SbAt.putM {w : World} {base q off g a : Nat} {p : ShPtr} {s : Shp} (h : SbAt w base q off p s) (hM : p.M = some ⟨g, 0, none⟩) (x : Int) : SbAt (w.setCell ⟨g, a, none⟩ (.int .i64 x)) base q off p { s with memo := s.memo.set a x } ∧ SbFr w (w.setCell ⟨g, a, none⟩ (.int .i64 x)) q off p p := by
  have hbg : blockOf p.M = some g := by rw [hM]; rfl
  have hgq : g ≠ q := fun e => h.off_.m (e ▸ hbg)
  have hf : ∀ k, k ≠ g → (w.setCell ⟨g, a, none⟩ (.int .i64 x)).heap[k]? = w.heap[k]? := fun k hk => Below.heap_setCell _ _ _ _ hk
  have hm := h.own.m
  rw [hM] at hm
  have hm2 := hm.setAt a x
  rw [← hM] at hm2
  refine ⟨⟨?_, ⟨h.own.k.ofB fun b hb => hf b (fun e => h.own.km b hb (e ▸ hbg)), h.own.f.ofB fun b hb => hf b (fun e => h.own.fm b hb (e ▸ hbg)), h.own.t.ofB fun b hb => hf b (fun e => h.own.tm b hb (e ▸ hbg)), hm2, h.own.kf, h.own.kt, h.own.km, h.own.ft, h.own.fm, h.own.tm⟩, h.off_, by simp; exact h.lt⟩, SbFr.setFar hgq (fun ho => ho.m hbg)⟩
  have := h.c.ofB (hf q hgq.symm)
  simpa using this
theorem SbAt.fill {w : World} {base q off g a : Nat} {p : ShPtr} {s : Shp} (h : SbAt w base q off p s) (hF : p.F = some ⟨g, 0, none⟩) : SbAt (w.setCell ⟨g, a, none⟩ (.bool true)) base q off p { s with full := s.full.set a true } ∧ SbFr w (w.setCell ⟨g, a, none⟩ (.bool true)) q off p p := by
  have hbg : blockOf p.F = some g := by rw [hF]; rfl
  have hgq : g ≠ q := fun e => h.off_.f (e ▸ hbg)
  have hf : ∀ k, k ≠ g → (w.setCell ⟨g, a, none⟩ (.bool true)).heap[k]? = w.heap[k]? := fun k hk => Below.heap_setCell _ _ _ _ hk
  have hm := h.own.f
  rw [hF] at hm
  have hm2 := hm.setAt a true
  rw [← hF] at hm2
  refine ⟨⟨?_, ⟨h.own.k.ofB fun b hb => hf b (fun e => h.own.kf b hb (e ▸ hbg)), hm2, h.own.t.ofB fun b hb => hf b (fun e => h.own.ft b (e ▸ hbg) hb), h.own.m.ofB fun b hb => hf b (fun e => h.own.fm b (e ▸ hbg) hb), h.own.kf, h.own.kt, h.own.km, h.own.ft, h.own.fm, h.own.tm⟩, h.off_, by simp; exact h.lt⟩, SbFr.setFar hgq (fun ho => ho.f hbg)⟩
  have := h.c.ofB (hf q hgq.symm)
  simpa using this
def TurnsSb (w : World) (base q off : Nat) (p : ShPtr) (t : Shp) (e : Ending) (w' : World) : Prop := e = .returned (.tuple #[]) ∧ ∃ p', SbAt w' base q off p' t ∧ SbFr w w' q off p p'
def StepsSb (w : World) (base q off : Nat) (p : ShPtr) (b : Bool) (t : Shp) (e : Ending) (w' : World) : Prop := e = .returned (.bool b) ∧ ∃ p', SbAt w' base q off p' t ∧ SbFr w w' q off p p'
end Go.Proofs.YtbihgafkmmcjlaaDoor

namespace Go.Proofs.YtbihgafkmmcjlaaDoor
open Go.RowKit
set_option linter.unusedVariables false
theorem runShp_snoc {s t : Shp} {l : List Od} {o : Od} (h : (runShp s l).2 = l.length) (hs : stepShp (runShp s l).1 o = some t) : runShp s (l ++ [o]) = (t, l.length + 1) := by
  induction l generalizing s with
  | nil =>
    rw [runShp_end] at hs
    rw [List.nil_append, runShp_go hs, runShp_end]
    rfl
  | cons x l ih =>
    cases hx : stepShp s x with
    | none =>
      rw [runShp_stop hx] at h
      simp at h
    | some u =>
      rw [runShp_go hx] at h hs
      simp at h hs
      rw [List.cons_append, runShp_go hx, ih h hs]
      rfl
noncomputable def stk (os : List Od) (j : Nat) : List Int := (runShp Shp.new (os.take j)).1.stack
theorem run_take {os : List Od} {k : Nat} {s t : Shp} {o : Od} (h : runShp Shp.new (os.take k) = (s, k)) (hk : k < os.length) (ho : os[k]? = some o) (hs : stepShp s o = some t) : runShp Shp.new (os.take (k + 1)) = (t, k + 1) := by
  have hl : (os.take k).length = k := by simp; omega
  have e : os.take (k + 1) = os.take k ++ [o] := by
    rw [List.take_add_one, ho]; rfl
  rw [e]
  have := runShp_snoc (s := Shp.new) (t := t) (l := os.take k) (o := o) (by rw [h, hl]) (by rw [h]; exact hs)
  rw [this, hl]
structure Came (os : List Od) (R : Shp × Nat) (k : Nat) (s : Shp) : Prop where
  le : k ≤ os.length
  ok : s.Ok
  kl : s.kinds.length ≤ k
  tl : s.stack.length ≤ k
  tk : runShp Shp.new (os.take k) = (s, k)
  r : R = ((runShp s (os.drop k)).1, k + (runShp s (os.drop k)).2)
theorem Came.start (os : List Od) : Came os (runShp Shp.new os) 0 Shp.new :=
  ⟨Nat.zero_le _, Shp.new_ok, Nat.zero_le _, Nat.zero_le _, rfl, by simp⟩
theorem Came.small {os : List Od} {R : Shp × Nat} {k : Nat} {s : Shp} (h : Came os R k s) (hl : os.length ≤ 300) : s.Small := ⟨by have := h.kl; have := h.le; omega, by have := h.tl; have := h.le; omega, h.ok⟩
theorem Came.stop {os : List Od} {R : Shp × Nat} {k : Nat} {s : Shp} {o : Od} (h : Came os R k s) (ho : os[k]? = some o) (hs : stepFree s o = none) : R = (s, k) := by
  rw [h.r, drop_at ho, runShp_stop (stepShp_none hs)]
  rfl
theorem Came.all {os : List Od} {R : Shp × Nat} {s : Shp} (h : Came os R os.length s) : R = (s, os.length) := by
  rw [h.r, List.drop_length, runShp_end]
  rfl
theorem Came.next {os : List Od} {R : Shp × Nat} {k : Nat} {s t : Shp} {o : Od} (h : Came os R k s) (hl : os.length ≤ 300) (ho : os[k]? = some o) (hok : OdOk o) (hs : stepFree s o = some t) : Came os R (k + 1) t ∧ t.stack = stk os (k + 1) := by
  have hk := (List.getElem?_eq_some_iff.1 ho).1
  obtain ⟨h1, h2, h3, _⟩ := stepFree_ok h.ok hs hok.get
  have hkl := h.kl
  have htl := h.tl
  have hst : stepShp s o = some t := stepShp_of hs ⟨by omega, by omega⟩
  have htk := run_take h.tk hk ho hst
  refine ⟨⟨hk, h1, by omega, by omega, htk, ?_⟩, by unfold stk; rw [htk]⟩
  rw [h.r, drop_at ho, runShp_go hst]
  simp only [Prod.mk.injEq, true_and]
  omega
structure Watcher (f : Nat) (caps : Array Value) (os : List Od) (J : Nat → (Nat → Prop) → World → Prop) : Prop where
  kept : ∀ k D W W', J k D W → (∀ b, D b → W'.heap[b]? = W.heap[b]?) → W.heap.size ≤ W'.heap.size → J k D W'
  lt : ∀ k D W, J k D W → ∀ b, D b → b < W.heap.size
def Watched (W : World) (k : Nat) (D : Nat → Prop) (J : Nat → (Nat → Prop) → World → Prop) (e : Ending) (W' : World) : Prop := e = .returned (.tuple #[]) ∧ ∃ D', J k D' W' ∧ (∀ b, b < W.heap.size → D' b → D b) ∧ WFr W W' D
structure WatS (w wr : World) (D0 : Nat → Prop) (q q2 : Nat) (p : ShPtr) (s : Shp) (k : Nat) (D : Nat → Prop) (J : Nat → (Nat → Prop) → World → Prop) : Prop where
  sb : SbAt wr w.heap.size q 0 p s
  res : Lies wr q2 zero5 38
  off2 : p.Off q2
  ne : q ≠ q2
  h1 : w.heap.size ≤ q
  h2 : w.heap.size ≤ q2
  j : J k D wr
  dq : ∀ b, D b → b ≠ q ∧ b ≠ q2 ∧ p.Off b
  d0 : ∀ b, b < w.heap.size → D b → D0 b
  fr : WFr w wr D0
section
variable {w wr w' : World} {D0 D : Nat → Prop} {q q2 k f : Nat} {p p' : ShPtr} {s t : Shp} {J : Nat → (Nat → Prop) → World → Prop} {caps : Array Value} {os : List Od}
theorem WatS.below (h : WatS w wr D0 q q2 p s k D J) (hw : Watcher f caps os J) (hb : Below wr.heap.size wr w') : WatS w w' D0 q q2 p s k D J :=
  ⟨h.sb.below hb, h.res.below hb h.res.lt, h.off2, h.ne, h.h1, h.h2, hw.kept _ _ _ _ h.j (fun b hd => hb.block b (hw.lt _ _ _ h.j b hd)) hb.size, h.dq, h.d0,
    ⟨hb.os.trans h.fr.os, hb.tape.trans h.fr.tape, hb.output.trans h.fr.output, Nat.le_trans h.fr.size hb.size, fun b hb1 hb2 => (hb.block b (Nat.lt_of_lt_of_le hb1 h.fr.size)).trans (h.fr.blk b hb1 hb2)⟩⟩
theorem WatS.step (h : WatS w wr D0 q q2 p s k D J) (hw : Watcher f caps os J) (hs : SbAt w' w.heap.size q 0 p' t) (hf : SbFr wr w' q 0 p p') : WatS w w' D0 q q2 p' t k D J := by
  have hd : ∀ b, D b → w'.heap[b]? = wr.heap[b]? := fun b hb => hf.blk b (hw.lt _ _ _ h.j b hb) (h.dq b hb).1 (h.dq b hb).2.2
  refine ⟨hs, (hf.blk q2 h.res.lt h.ne.symm h.off2).trans h.res, hf.offs q2 h.res.lt h.off2, h.ne, h.h1, h.h2, hw.kept _ _ _ _ h.j hd hf.size, fun b hb => ⟨(h.dq b hb).1, (h.dq b hb).2.1, hf.offs b (hw.lt _ _ _ h.j b hb) (h.dq b hb).2.2⟩, h.d0, ?_⟩
  have hb := hf.below h.sb (Nat.le_refl _) h.h1
  exact ⟨hb.os.trans h.fr.os, hb.tape.trans h.fr.tape, hb.output.trans h.fr.output, Nat.le_trans h.fr.size hb.size, fun b hb1 hb2 => (hb.block b hb1).trans (h.fr.blk b hb1 hb2)⟩
theorem WatS.watched (h : WatS w wr D0 q q2 p s k D J) (hw : Watcher f caps os J) {k' : Nat} {D' : Nat → Prop} (hJ : J k' D' w') (hd : ∀ b, b < wr.heap.size → D' b → D b) (hf : WFr wr w' D) : WatS w w' D0 q q2 p s k' D' J := by
  have hk : ∀ b, b < wr.heap.size → ¬ D b → w'.heap[b]? = wr.heap[b]? := hf.blk
  have hnq : ¬ D q := fun hd => (h.dq q hd).1 rfl
  have hnq2 : ¬ D q2 := fun hd => (h.dq q2 hd).2.1 rfl
  have hown : ShOwn w' w.heap.size p s := ⟨h.sb.own.k.ofB fun g hg => hk g (h.sb.own.k.blocks g hg).2 (fun hd => (h.dq g hd).2.2.k hg), h.sb.own.f.ofB fun g hg => hk g (h.sb.own.f.blocks g hg).2 (fun hd => (h.dq g hd).2.2.f hg),
    h.sb.own.t.ofB fun g hg => hk g (h.sb.own.t.blocks g hg).2 (fun hd => (h.dq g hd).2.2.t hg), h.sb.own.m.ofB fun g hg => hk g (h.sb.own.m.blocks g hg).2 (fun hd => (h.dq g hd).2.2.m hg), h.sb.own.kf, h.sb.own.kt, h.sb.own.km, h.sb.own.ft, h.sb.own.fm, h.sb.own.tm⟩
  refine ⟨⟨h.sb.c.ofB (hk q h.sb.lt hnq), hown, h.sb.off_, Nat.lt_of_lt_of_le h.sb.lt hf.size⟩, (hk q2 h.res.lt hnq2).trans h.res, h.off2, h.ne, h.h1, h.h2, hJ, fun b hb => ?_, fun b hb1 hb2 => h.d0 b hb1 (hd b (Nat.lt_of_lt_of_le hb1 h.fr.size) hb2), ?_⟩
  · by_cases hl : b < wr.heap.size
    · exact h.dq b (hd b hl hb)
    · have h1 := h.sb.lt
      have h2 := h.res.lt
      exact ⟨by omega, by omega, h.sb.own.off (.inr (by omega))⟩
  · exact ⟨hf.os.trans h.fr.os, hf.tape.trans h.fr.tape, hf.output.trans h.fr.output, Nat.le_trans h.fr.size hf.size, fun b hb1 hb2 => (hk b (Nat.lt_of_lt_of_le hb1 h.fr.size) (fun hd => hb2 (h.d0 b hb1 hd))).trans (h.fr.blk b hb1 hb2)⟩
end
def GivesWat (w : World) (D0 : Nat → Prop) (J : Nat → (Nat → Prop) → World → Prop) (r : Shp × Nat) (e : Ending) (w' : World) : Prop :=
  ∃ p D, e = .returned (.tuple #[shVal p r.1, .int .i64 (r.2 : Int)]) ∧ ShOwn w' w.heap.size p r.1 ∧ J r.2 D w' ∧ (∀ b, D b → p.Off b) ∧ (∀ b, b < w.heap.size → D b → D0 b) ∧ WFr w w' D0
end Go.Proofs.YtbihgafkmmcjlaaDoor

namespace Go.Proofs.YtbihgafkmmcjlaaDoor
open Go.RowKit
set_option linter.unusedVariables false
set_option maxHeartbeats 1000000 in
theorem indexI_any (A : Option Addr) (xs : List Int) (c : Nat) (n : Int) (w : World) (h : IntsAt w w.heap.size A xs) :
    Calls Tryd.prog 43 #[.slice A xs.length c, .int .i64 n] w fun e w' => e = .returned (.int .i64 (place xs n)) ∧ w = w' := by
  have hl := h.len
  go_enter Tryd.func43, Tryd.ntmps43
  go_wp2_with fail
  go_loop [8] (fun i => ∃ k : Nat, k ≤ xs.length ∧ i = .int .i64 k ∧ ∀ j, j < k → xs[j]? ≠ some n) (fun i => xs.length - (intOf i).toNat)
  case atStart => exact ⟨0, Nat.zero_le _, rfl, fun j hj => absurd hj (by omega)⟩
  case round =>
    obtain ⟨k, hk, rfl, he0⟩ := hrel
    have he := hide he0
    clear he0
    by_cases hlt : k < xs.length
    · obtain ⟨b, off, x, rfl, hbl, hx, _, hc⟩ := h.at_ hlt
      have Hx := hide hx
      clear hx
      by_cases hxn : n = x
      · subst hxn
        have HF := hide (place_at Hx.out he.out)
        go_wp2
        go_ret
        exact ⟨ret_int HF.out.symm, rfl⟩
      · have t : (n == x) = false := by simpa using hxn
        have he2 : ∀ j, j < k + 1 → xs[j]? ≠ some n := by
          intro j hj
          by_cases e : j = k
          · subst e; rw [Hx.out]; intro e; injection e with e; exact hxn e.symm
          · exact he.out j (by omega)
        have He := hide he2
        clear he2 he hxn
        go_wp2
        go_round
        case rel => exact ⟨k + 1, by omega, by go_num, He.out⟩
        case measure => simp [intOf]; omega
    · obtain rfl : k = xs.length := by omega
      have HF := hide (place_none he.out)
      clear hlt
      go_wp2
      go_ret
      exact ⟨ret_int HF.out.symm, rfl⟩
set_option maxHeartbeats 400000 in
theorem containsI_any (A : Option Addr) (xs : List Int) (c : Nat) (n : Int) (w : World) (h : IntsAt w w.heap.size A xs) :
    Calls Tryd.prog 27 #[.slice A xs.length c, .int .i64 n] w fun e w' => e = .returned (.bool (tf (n ∈ xs))) ∧ w = w' := by
  go_enter Tryd.func27, Tryd.ntmps27
  go_wp2_with fail
  refine (indexI_any A xs c n w h).mono ?_
  rintro e w' ⟨rfl, rfl⟩
  by_cases hin : n ∈ xs
  · have hp := place_lt hin
    have HF := hide (tf_true hin)
    have hd : decide (0 ≤ place xs n) = true := by simp; omega
    generalize place xs n = pl at hp hd ⊢
    clear hin
    go_wp2
    go_ret
    exact ⟨ret_bool HF.out.symm, rfl⟩
  · have HF := hide (tf_false hin)
    rw [place_neg hin]
    clear hin
    go_wp2
    go_ret
    exact ⟨ret_bool HF.out.symm, rfl⟩
end Go.Proofs.YtbihgafkmmcjlaaDoor

namespace Go.Proofs.YtbihgafkmmcjlaaDoor
open Go.RowKit
set_option linter.unusedVariables false
set_option maxHeartbeats 1000000 in
theorem aboveMark_any (A : Option Addr) (xs : List Int) (c : Nat) (w : World) (h : IntsAt w w.heap.size A xs) (hm : ∀ x ∈ xs, -1 ≤ x) :
    Calls Tryd.prog 46 #[.slice A xs.length c] w fun e w' => e = .returned (.int .i64 (above xs : Int)) ∧ w' = w := by
  have hl := h.len
  have Hm := hide hm
  clear hm
  go_enter Tryd.func46, Tryd.ntmps46
  go_wp2_with fail
  go_loop [3] (fun v => ∃ k : Nat, k ≤ xs.length ∧ v = .int .i64 (k : Int) ∧ aboveTo xs k = above xs) (fun v => (intOf v).toNat)
  case atStart => exact ⟨xs.length, Nat.le_refl _, rfl, rfl⟩
  case round =>
    obtain ⟨k, hk, rfl, ha⟩ := hrel
    have Ha := hide ha
    clear ha
    cases k with
    | zero =>
      go_wp2
      go_ret
      exact ⟨by have := Ha.out; unfold aboveTo at this; rw [← this] <;> rfl, rfl⟩
    | succ k =>
      obtain ⟨b, off, x, rfl, hbl, hx, hmem, hcx⟩ := h.at_ (k := k) (by omega)
      have hge := Hm.out x hmem
      have hg : xs.getD k 0 = x := by rw [List.getD_eq_getElem?_getD, hx]; rfl
      have h0 : (0 : Int) < ((k + 1 : Nat) : Int) := by omega
      have e1 : ((k + 1 : Nat) : Int) - 1 = (k : Int) := by omega
      have h1 : (0 : Int) ≤ (k : Int) := by omega
      have h2 : (k : Int) < (xs.length : Int) := by omega
      clear hx hmem
      by_cases hx0 : x < 0
      · obtain rfl : x = -1 := by omega
        have HR := hide (show above xs = k + 1 from by rw [← Ha.out]; unfold aboveTo; rw [hg, if_pos (by omega)])
        clear hg
        go_wp2
        go_ret
        exact ⟨by rw [HR.out] <;> rfl, rfl⟩
      · have hn : (x != -1) = true := by simp <;> omega
        have HR := hide (show aboveTo xs k = above xs from by rw [← Ha.out]; conv => { rhs; unfold aboveTo }; rw [hg, if_neg hx0])
        clear hg
        go_wp2
        go_round
        case rel => exact ⟨k, by omega, rfl, HR.out⟩
        case measure => simp [intOf] <;> omega
set_option maxRecDepth 100000 in
set_option maxHeartbeats 4000000 in
theorem useAt_any (q base off : Nat) (p : ShPtr) (s : Shp) (a : Int) (w : World) (h : SbAt w base q off p s) (hs : s.Small) (ha : a < (s.stack.length : Int)) (ha0 : -1000 ≤ a) :
    Calls Tryd.prog 63 #[.pointer (some ⟨q, off, none⟩), .int .i64 a] w fun e w' => e = .returned (.int .i64 (s.useAt a : Int)) ∧ w' = w := by
  have hat := h.own.at_ hs
  obtain ⟨e0, e1, e2, e3, e4, _, _, _, _, _⟩ := h.c
  have hok := hs.ok
  by_cases hneg : a < 0
  · have HR := hide (show s.useAt a = 64 by unfold Shp.useAt; rw [if_pos hneg])
    clear h hs hat
    go_enter Tryd.func63, Tryd.ntmps63
    go_wp2
    go_ret
    exact ⟨by rw [HR.out] <;> rfl, rfl⟩
  · obtain ⟨i, rfl⟩ := Int.eq_ofNat_of_zero_le (show 0 ≤ a by omega)
    obtain ⟨b, off, x, hS, hbl, hx, hmem, hcx⟩ := hat.t.at_ (k := i) (by omega)
    obtain ⟨hx1, hx2⟩ := hok.st x hmem
    have hu : s.useAt (i : Int) = s.useOf x := by
      unfold Shp.useAt
      rw [if_neg hneg, Int.toNat_natCast, List.getD_eq_getElem?_getD, hx]; rfl
    have h1 : (0 : Int) ≤ (i : Int) := by omega
    rw [hS] at e2
    by_cases hx0 : x < 0
    · obtain rfl : x = -1 := by omega
      have HR := hide (show s.useAt (i : Int) = 32 by rw [hu]; rfl)
      clear h hs hat hu hmem hx
      go_enter Tryd.func63, Tryd.ntmps63
      go_wp2
      go_ret
      exact ⟨by rw [HR.out] <;> rfl, rfl⟩
    · obtain ⟨j, rfl⟩ := Int.eq_ofNat_of_zero_le (show 0 ≤ x by omega)
      have hjk : j < s.kinds.length := by omega
      obtain ⟨bk, ok, kd, hK, _, hkx, hkm, hck⟩ := hat.k.at_ hjk
      obtain ⟨bf, of, f, hF, _, hfx, _, hcf⟩ := hat.f.at_ (k := j) (by rw [hok.fl]; exact hjk)
      have hkk := hok.kk kd hkm
      have hu2 : s.useAt (i : Int) = useBits kd f := by
        rw [hu]
        unfold Shp.useOf
        rw [if_neg hx0, Int.toNat_natCast, List.getD_eq_getElem?_getD, hkx, List.getD_eq_getElem?_getD, hfx]; rfl
      have hn : ((j : Int) == -1) = false := by simp <;> omega
      have h2 : (0 : Int) ≤ (j : Int) := by omega
      have h3 : (j : Int) < (s.kinds.length : Int) := by omega
      have h4 : (j : Int) < (s.full.length : Int) := by rw [hok.fl]; exact h3
      rw [hK] at e0
      rw [hF] at e1
      have HU := hide hu2
      clear h hs hat hu hu2 hmem hx hkx hkm hfx hok
      have h6 : kd = 0 ∨ kd = 1 ∨ kd = 2 ∨ kd = 3 ∨ kd = 4 ∨ kd = 5 := by omega
      rcases h6 with rfl | rfl | rfl | rfl | rfl | rfl
      all_goals
        cases f <;>
        (go_enter Tryd.func63, Tryd.ntmps63
         go_wp2
         go_ret
         exact ⟨by rw [HU.out] <;> rfl, rfl⟩)
theorem useAt_q (q base off : Nat) (p : ShPtr) (s : Shp) (a : Int) (u : Nat) (w : World) (h : SbAt w base q off p s) (hs : s.Small) (ha : a < (s.stack.length : Int)) (ha0 : -1000 ≤ a) (hu : s.useAt a = u) :
    Calls Tryd.prog 63 #[.pointer (some ⟨q, off, none⟩), .int .i64 a] w fun e w' => e = .returned (.int .i64 (u : Int)) ∧ w' = w := by
  rw [← hu]
  exact useAt_any q base off p s a w h hs ha ha0
end Go.Proofs.YtbihgafkmmcjlaaDoor

namespace Go.Proofs.YtbihgafkmmcjlaaDoor
open Go.RowKit
set_option linter.unusedVariables false
set_option maxRecDepth 100000 in
set_option maxHeartbeats 1000000 in
theorem mul64_one (w : World) : Calls Tryd.prog 74 #[.int .u64 1, .int .u64 20] w fun e w' => e = .returned (.tuple #[.int .u64 0, .int .u64 20]) ∧ w = w' := by
  go_enter Tryd.func74, Tryd.ntmps74
  go_wp2
  go_ret2
  exact ⟨rfl, rfl⟩
set_option maxRecDepth 100000 in
set_option maxHeartbeats 1000000 in
theorem mul_one' (w : World) : Calls Tryd.prog 70 #[.int .u64 1, .int .u64 20] w fun e w' => e = .returned (.tuple #[.int .u64 0, .int .u64 20]) ∧ w = w' := by
  go_enter Tryd.func70, Tryd.ntmps70
  go_wp2_with (go_at_call 74; refine (mul64_one _).mono ?_; rintro e w' ⟨rfl, rfl⟩)
  go_ret2
  exact ⟨rfl, rfl⟩
def rowL (x : Int) (k : Nat) : List Value := List.replicate k (.int .i64 x) ++ List.replicate (20 - k) (.int .i64 0)
theorem rowL_len (x : Int) {k : Nat} (h : k ≤ 20) : (rowL x k).length = 20 := by unfold rowL; simp; omega
theorem rowL_splice (x : Int) {k m : Nat} (h : k + m ≤ 20) : splice (rowL x k) k (List.replicate m (.int .i64 x)) = rowL x (k + m) := by
  unfold splice rowL
  rw [List.take_left' (by simp), List.length_replicate, List.drop_append, List.drop_eq_nil_of_le (by simp), List.nil_append, List.length_replicate, List.drop_replicate, ← List.append_assoc, List.replicate_append_replicate]
  congr 2
  omega
theorem rowL_at (x : Int) {k j : Nat} (h : j < k) : (rowL x k)[j]? = some (.int .i64 x) := by
  unfold rowL
  rw [List.getElem?_append_left (by simpa using h), List.getElem?_replicate, if_pos h]
theorem made20 (x : Int) : madeCells (Value.int .i64 0).cells (20 * 1) = (rowL x 0).toArray := by
  apply Array.ext'
  rw [show (Value.int .i64 0).cells = #[.int .i64 0] from rfl, toList_madeCells_one]
  rfl
theorem LieL.cell {w : World} {g : Nat} {L : List Value} {t : TypeId} (h : w.heap[g]? = some (.cells L.toArray t (0, 0))) {j : Nat} {v : Value} (hj : L[j]? = some v) : w.cell? ⟨g, j, none⟩ = some v := by
  have := Lies.cell h j
  rw [this]
  simpa using hj
theorem rowL_src {w : World} {g k m : Nat} {x : Int} {t : TypeId} (h : w.heap[g]? = some (.cells (rowL x k).toArray t (0, 0))) (hm : m ≤ k) : ∀ j v, (List.replicate m (Value.int .i64 x))[j]? = some v → w.drew.cell? ((⟨g, 0, none⟩ : Addr).add j) = some v := by
  intro j v hv
  rw [List.getElem?_replicate] at hv
  split at hv
  · next hj =>
    have hadd : (⟨g, 0, none⟩ : Addr).add j = ⟨g, j, none⟩ := by
      unfold Addr.add
      split
      · rename_i h0; subst h0; rfl
      · simp
    rw [hadd]
    rw [← hv]
    exact LieL.cell (w := w) h (rowL_at x (by omega))
  · cases hv
set_option maxRecDepth 100000 in
set_option maxHeartbeats 1000000 in
theorem repeat_20 (b : Nat) (x : Int) (c : Nat) (w : World) (hb : b < w.heap.size) (hx : w.cell? ⟨b, 0, none⟩ = some (.int .i64 x)) (hx64 : In64 x) :
    Calls Tryd.prog 62 #[.slice (some ⟨b, 0, none⟩) 1 c, .int .i64 20] w (GivesInts w (List.replicate 20 x)) := by
  obtain ⟨R, hR⟩ : ∃ R, R = List.replicate 20 x := ⟨_, rfl⟩
  rw [← hR]
  have HR := hide hR
  clear hR
  have hmk : ∀ w' : World, (Instr.makeSlice 35 (.int .i64 20) (.int .i64 20)).run Tryd.prog w' = .ok (.slice (some ⟨w'.heap.size, 0, none⟩) 20 20) (w'.alloc (.cells (rowL x 0).toArray 3)) := fun w' =>
    (run_make_rows 35 3 (.int .i64 0) 1 8 Tryd.underlying35 infoI .i64 .i64 20 (by omega) (by omega) w').trans (by rw [made20 x])
  go_enter Tryd.func62, Tryd.ntmps62
  go_upto_region 7 with (go_at_call 70; refine (mul_one' _).mono ?_; rintro e w' ⟨rfl, rfl⟩)
  have hlie : (w.alloc (.cells (rowL x 0).toArray 3)).heap[w.heap.size]? = some (.cells (rowL x 0).toArray 3 (0, 0)) := heap_alloc_new w _
  have hB0 := (Below.refl w.heap.size w).alloc (Nat.le_refl _) (.cells (rowL x 0).toArray 3)
  have hx2 := (hB0.cell (p := ⟨b, 0, none⟩) hb).trans hx
  have HL0 := hide hlie
  have HB0 := hide hB0
  clear hlie hB0 hmk
  generalize w.alloc (.cells (rowL x 0).toArray 3) = W at HL0 HB0 hx2 ⊢
  generalize hG : w.heap.size = g at HL0 ⊢
  have HG := hide hG
  clear hG hx
  have hc1 : ∀ j v, [Value.int .i64 x][j]? = some v → W.cell? ((⟨b, 0, none⟩ : Addr).add j) = some v := by
    intro j v hv
    match j, hv with
    | 0, hv =>
      simp at hv
      subst hv
      exact hx2
  have hc2 : 0 + [Value.int .i64 x].length ≤ (rowL x 0).length := by rw [rowL_len x (by omega)]; simp
  have hc3 : ∀ v ∈ [Value.int .i64 x], v.oneCell' = true := by intro v hv; simp at hv; subst hv; rfl
  have HC1 := hide hc1
  have HC3 := hide hc3
  clear hc1 hc3
  go_upto_region 8 with (with_reducible refine wpList_copy_splice rfl (.tmp 31) (.tmp 32) 35 35 rfl 3 Tryd.underlying35 (by kernel_rfl) (some ⟨g, 0, none⟩) (some ⟨b, 0, none⟩) 20 20 1 c rfl rfl g 0 (rowL x 0) 3 HL0.out [.int .i64 x] rfl (fun _ => ⟨rfl, _, rfl, HC1.out⟩) hc2 HC3.out w.heap.size w HB0.out (by rw [HG.out]; exact Nat.le_refl _) ?_; intro w2 hL2 hB2)
  have HL2 := hide (show w2.heap[g]? = some (.cells (rowL x 1).toArray 3 (0, 0)) from by
    have h := hL2.out
    rw [show splice (rowL x 0) 0 [Value.int .i64 x] = rowL x (0 + 1) from rowL_splice x (k := 0) (m := 1) (by omega)] at h
    exact h)
  clear hL2 HL0 HB0 hc2 HC1 HC3 hx2
  have HB2 := hide hB2
  clear hB2
  go_wp2_with fail
  go_loopg [8] 19 (fun gk nv wr => ∃ k : Nat, 1 ≤ k ∧ k ≤ 20 ∧ gk = 20 - k ∧ nv = .int .i64 (k : Int) ∧ wr.heap[g]? = some (.cells (rowL x k).toArray 3 (0, 0)) ∧ Below w.heap.size w wr)
  case atStart => exact ⟨1, by omega, by omega, by omega, by go_num, HL2.out, HB2.out⟩
  case round =>
    clear HL2 HB2
    obtain ⟨k, hk1, hk2, rfl, rfl, hL, hB⟩ := hrel
    have HL := hide hL
    have HB := hide hB
    clear hL hB
    by_cases hlt : k < 20
    · have hlt2 : (k : Int) < 20 := by omega
      have hk0 : (0 : Int) ≤ (k : Int) := by omega
      have hle2 : (k : Int) ≤ 20 := by omega
      have hn20 : ¬ k = 20 := by omega
      have hn20' : ¬ 20 = k := by omega
      obtain ⟨d, hd⟩ : ∃ d, 20 - k = d := ⟨_, rfl⟩
      obtain ⟨m, hm⟩ : ∃ m, min k d = m := ⟨_, rfl⟩
      have Hm := hide hm
      have hm1 : 1 ≤ m := by omega
      have hm2 : m ≤ k := by omega
      have hm3 : m ≤ d := by omega
      clear hm
      have hkd1 : k + d ≤ 20 := by omega
      have hkd2 : 20 ≤ k + d := by omega
      have hwr : IntKind.i64.wrap ((k : Int) + (m : Int)) = (k : Int) + (m : Int) := by rw [IntKind.wrap_i64]; omega
      go_wp2_with fail
      go_region_law (first
        | (refine step_copy_splice (by rfl) (.tmp 41) (.tmp 44) 35 35 (by rfl) 3 Tryd.underlying35 (by kernel_rfl) (some ⟨g, k, none⟩) (some ⟨g, 0, none⟩) d d k 20 (by simp [Act.eval, Act.put]) (by simp [Act.eval, Act.put]) g k (rowL x k) 3 HL.out (List.replicate m (.int .i64 x)) (by rw [List.length_replicate]; exact Hm.out.symm) (fun _ => ⟨rfl, _, rfl, rowL_src HL.out hm2⟩) (by rw [rowL_len x (by omega)]; simp; omega) (by intro v hv; rw [List.eq_of_mem_replicate hv]; rfl) w.heap.size w HB.out.drew (by rw [HG.out]; exact Nat.le_refl _) ?_; intro w3 hL3 hB3))
      all_goals
        have HL3 := hide (show w3.heap[g]? = some (.cells (rowL x (k + m)).toArray 3 (0, 0)) from by
          have h := hL3.out
          rw [rowL_splice x (by omega)] at h
          exact h)
        have HB3 := hide hB3
        clear hL3 hB3 hd hwr
        go_wp2
        go_roundg (20 - (k + m))
        case measure => omega
        case rel => exact ⟨k + m, by omega, by omega, rfl, by go_num, HL3.out, HB3.out⟩
    · obtain rfl : k = 20 := by omega
      rw [show ((20 : Nat) : Int) = 20 from rfl]
      go_wp2
      go_ret
      rw [HR.out]
      exact ⟨some ⟨g, 0, none⟩, 20, rfl, ⟨⟨by simp, .inr ⟨g, 20, (rowL x 20).toArray, rfl, by rw [HG.out]; exact Nat.le_refl _, HL.out, by simp, by unfold maxLen; omega, by simp [rowL], by simp [rowL]⟩⟩⟩, HB.out⟩
end Go.Proofs.YtbihgafkmmcjlaaDoor
