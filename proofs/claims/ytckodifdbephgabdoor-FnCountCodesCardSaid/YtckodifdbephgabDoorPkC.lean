/-
  Lemmas, several texts in one: CutM, VOp, SpecO, Bump, CntM, OwnR, CntS, UpTo, ImplO, CntI, NumO, CtM, CtOf, Total, EqI, EqL, SubO, ReadB.
-/
import Derived.Test.YtckodifdbephgabDoorPkB
import Derived.Test.YtckodifdbephgabDoorPkA
import Derived.StillTailTactics
import Derived.Deep.QuietTactic
import Derived.BigQuiet
import Derived.WalkSmall
import Derived.Test.YtckodifdbephgabDoorRows
import Derived.ProofKit
import Derived.OpenShut
import Derived.ShutString
import Derived.ChangeOld
import Derived.Deep.Slices
import Derived.Deep.Fields
import Derived.Lib.SmallJoins
namespace Go.Proofs.YtckodifdbephgabDoor
set_option linter.unusedVariables false

open Classical in
/-- what CutOps returns -/
noncomputable def cutOf (os : List Od) : List Od := if OpsOk os then os.take (runShp Shp.new os).2 else []
theorem cutOf_ok {os : List Od} (h : OpsOk os) : cutOf os = os.take (runShp Shp.new os).2 := by unfold cutOf; rw [if_pos h]
theorem cutOf_no {os : List Od} (h : ¬ OpsOk os) : cutOf os = [] := by unfold cutOf; rw [if_neg h]

theorem runNew_le {os : List Od} (h : ∀ o ∈ os, OdOk o) : (runShp Shp.new os).1.Ok ∧ (runShp Shp.new os).1.Fits ∧ (runShp Shp.new os).2 ≤ os.length :=
  runShp_ok Shp.new_ok ⟨by simp [Shp.new], by simp [Shp.new]⟩ (fun o ho => (h o ho).get)

theorem cutOf_few {os : List Od} : (cutOf os).length ≤ 300 := by
  by_cases h : OpsOk os
  · rw [cutOf_ok h]
    have := h.1
    simp only [List.length_take]
    omega
  · rw [cutOf_no h]; simp
theorem cutOf_mem {os : List Od} : ∀ o ∈ cutOf os, OdOk o := by
  by_cases h : OpsOk os
  · rw [cutOf_ok h]
    exact fun o ho => h.2 o (List.mem_of_mem_take ho)
  · rw [cutOf_no h]; intro o ho; cases ho

/-- how many marks are among the first k things of a stack -/
def negs (l : List Int) : Nat → Nat
  | 0 => 0
  | k + 1 => negs l k + (if l.getD k 0 < 0 then 1 else 0)
theorem negs_le (l : List Int) (k : Nat) : negs l k ≤ k := by
  induction k with
  | zero => exact Nat.le_refl _
  | succ k ih => unfold negs; split <;> omega

/-- how many things lie below the first mark -/
def free : List Int → Nat
  | [] => 0
  | x :: l => if 0 ≤ x then free l + 1 else 0
theorem free_le (l : List Int) : free l ≤ l.length := by
  induction l with
  | nil => exact Nat.le_refl _
  | cons x l ih => unfold free; split <;> simp only [List.length_cons] <;> omega
theorem free_at {l : List Int} {k : Nat} (h : k < free l) : 0 ≤ l.getD k 0 := by
  induction l generalizing k with
  | nil => simp [free] at h
  | cons x l ih =>
    unfold free at h
    split at h
    · cases k with
      | zero => simpa
      | succ k => simpa using ih (k := k) (by omega)
    · omega
theorem free_stop {l : List Int} (h : free l < l.length) : l.getD (free l) 0 < 0 := by
  induction l with
  | nil => simp at h
  | cons x l ih =>
    unfold free at h ⊢
    split
    · next hx =>
      rw [if_pos hx] at h
      simpa using ih (by simpa using h)
    · next hx => simp; omega

/-- the orders that end a program behind which things lie on the stack -/
def tailOps (l : List Int) : List Od :=
  List.replicate (negs l l.length) ⟨3, 0⟩ ++ List.replicate (free l + (if 0 < negs l l.length then 1 else 0) - 1) ⟨6, 0⟩ ++
    (if free l + (if 0 < negs l l.length then 1 else 0) = 0 then [⟨4, 0⟩] else []) ++ [⟨19, 0⟩]

theorem od_fix {c : Int} (h0 : 0 ≤ c) (h1 : c ≤ 19) (h : argMost c < 0) : OdOk ⟨c, 0⟩ := ⟨⟨h0, h1⟩, .inl ⟨h, rfl⟩⟩

theorem od_64 {o : Od} (h : OdOk o) : (-9223372036854775808 ≤ o.code ∧ o.code ≤ 9223372036854775807) ∧ (-9223372036854775808 ≤ o.arg ∧ o.arg ≤ 9223372036854775807) := by
  obtain ⟨h1, h2⟩ := h
  have := argMost_range o.code
  constructor <;> constructor <;> omega

theorem tailOps_mem (l : List Int) : ∀ o ∈ tailOps l, OdOk o := by
  have h3 : OdOk ⟨3, 0⟩ := od_fix (by omega) (by omega) (by simp [argMost])
  have h6 : OdOk ⟨6, 0⟩ := od_fix (by omega) (by omega) (by simp [argMost])
  have h4 : OdOk ⟨4, 0⟩ := od_fix (by omega) (by omega) (by simp [argMost])
  have h19 : OdOk ⟨19, 0⟩ := od_fix (by omega) (by omega) (by simp [argMost])
  intro o ho
  unfold tailOps at ho
  rcases List.mem_append.1 ho with ho | ho
  · rcases List.mem_append.1 ho with ho | ho
    · rcases List.mem_append.1 ho with ho | ho
      · rw [List.eq_of_mem_replicate ho]; exact h3
      · rw [List.eq_of_mem_replicate ho]; exact h6
    · by_cases hc : free l + (if 0 < negs l l.length then 1 else 0) = 0
      · rw [if_pos hc] at ho
        rw [List.mem_singleton.1 ho]; exact h4
      · rw [if_neg hc] at ho; cases ho
  · rw [List.mem_singleton.1 ho]; exact h19

theorem tail_a {st : List Int} {m k : Nat} (hm : m = negs st st.length) (hk : k = free st) (h0 : 0 < m) : tailOps st = (List.replicate m ⟨3, 0⟩ ++ List.replicate (k + 1 - 1) ⟨6, 0⟩) ++ [⟨19, 0⟩] := by
  unfold tailOps
  rw [← hm, ← hk, if_pos h0, if_neg (by omega), List.append_nil]
theorem tail_b {st : List Int} {m k : Nat} (hm : m = negs st st.length) (hk : k = free st) (h0 : ¬ 0 < m) (hk0 : ¬ k = 0) : tailOps st = (List.replicate m ⟨3, 0⟩ ++ List.replicate (k - 1) ⟨6, 0⟩) ++ [⟨19, 0⟩] := by
  unfold tailOps
  rw [← hm, ← hk, if_neg h0, if_neg (by omega), List.append_nil, Nat.add_zero]
theorem tail_c {st : List Int} {m : Nat} (hm : m = negs st st.length) (hk : 0 = free st) (h0 : ¬ 0 < m) : tailOps st = (List.replicate m ⟨3, 0⟩ ++ List.replicate (0 - 1) ⟨6, 0⟩ ++ [⟨4, 0⟩]) ++ [⟨19, 0⟩] := by
  unfold tailOps
  rw [← hm, ← hk, if_neg h0, if_pos (by omega), Nat.add_zero]

theorem tailOps_len (l : List Int) : (tailOps l).length ≤ 2 * l.length + 3 := by
  have h1 := negs_le l l.length
  have h2 := free_le l
  unfold tailOps
  simp only [List.length_append, List.length_replicate]
  split <;> split <;> simp <;> omega

open Classical in
/-- what EndOps returns -/
noncomputable def endOf (os : List Od) : Option (List Od) :=
  if OpsOk os then
    if (runShp Shp.new os).1.done = true then some []
    else if OpsOk (os.take (runShp Shp.new os).2 ++ tailOps (runShp Shp.new os).1.stack) ∧ (runShp Shp.new (os.take (runShp Shp.new os).2 ++ tailOps (runShp Shp.new os).1.stack)).2 = (os.take (runShp Shp.new os).2 ++ tailOps (runShp Shp.new os).1.stack).length then some (tailOps (runShp Shp.new os).1.stack)
    else none
  else none

end Go.Proofs.YtckodifdbephgabDoor

namespace Go.Proofs.YtckodifdbephgabDoor
open Go.RowKit
set_option linter.unusedVariables false

set_option maxHeartbeats 1000000 in
theorem argOf_any (c : Int) (w : World) :
    Calls Tryd.prog 32 #[.int .i64 c] w fun e w' => e = .returned (.int .i64 (argMost c)) ∧ w = w' := by
  by_cases h0 : c = 0
  · subst h0
    go_enter Tryd.func32, Tryd.ntmps32
    go_wp2
    go_ret
    exact ⟨rfl, rfl⟩
  · by_cases h1 : c = 1
    · subst h1
      go_enter Tryd.func32, Tryd.ntmps32
      go_wp2
      go_ret
      exact ⟨rfl, rfl⟩
    · by_cases h13 : c = 13
      · subst h13
        go_enter Tryd.func32, Tryd.ntmps32
        go_wp2
        go_ret
        exact ⟨rfl, rfl⟩
      · by_cases h15 : c = 15
        · subst h15
          go_enter Tryd.func32, Tryd.ntmps32
          go_wp2
          go_ret
          exact ⟨rfl, rfl⟩
        · by_cases h16 : c = 16
          · subst h16
            go_enter Tryd.func32, Tryd.ntmps32
            go_wp2
            go_ret
            exact ⟨rfl, rfl⟩
          · have HF := hide (show argMost c = -1 by unfold argMost; simp [h0, h1, h13, h15, h16])
            have t0 : (c == 0) = false := by simpa using h0
            have t1 : (c == 1) = false := by simpa using h1
            have t2 : (c == 13) = false := by simpa using h13
            have t3 : (c == 15) = false := by simpa using h15
            have t4 : (c == 16) = false := by simpa using h16
            clear h0 h1 h13 h15 h16
            go_enter Tryd.func32, Tryd.ntmps32
            go_wp2
            go_ret
            exact ⟨ret_int HF.out.symm, rfl⟩

set_option maxHeartbeats 1000000 in
theorem validOp_any (o : Od) (w : World) :
    Calls Tryd.prog 21 #[.agg #[.int .i64 o.code, .int .i64 o.arg]] w fun e w' => e = .returned (.bool (tf (OdOk o))) ∧ Below w.heap.size w w' := by
  have hB : Below w.heap.size w (w.alloc (.cells #[.int .i64 o.code, .int .i64 o.arg] 36)) := (Below.refl _ _).alloc (Nat.le_refl _) _
  have l1 := Lies.new w #[.int .i64 o.code, .int .i64 o.arg] 36
  have hm := argMost_range o.code
  by_cases hc : 0 ≤ o.code ∧ o.code ≤ 19
  · by_cases hneg : argMost o.code < 0
    · by_cases ha : o.arg = 0
      · have HF := hide (show tf (OdOk o) = true from tf_true ⟨hc, .inl ⟨hneg, ha⟩⟩)
        have t : (o.arg == 0) = true := by simpa using ha
        obtain ⟨hc1, hc2⟩ := hc
        clear ha
        go_enter Tryd.func21, Tryd.ntmps21
        go_wp2_with fail
        refine (argOf_any o.code _).mono ?_
        rintro e w' ⟨rfl, rfl⟩
        generalize argMost o.code = M at hneg hm ⊢
        have d : decide (M < 0) = true := by simpa using hneg
        go_wp2_with fail
        refine (inRange_yes o.code 0 19 _ hc1 hc2).mono ?_
        rintro e w' ⟨rfl, rfl⟩
        go_wp2
        go_ret
        exact ⟨ret_bool HF.out.symm, hB⟩
      · have HF := hide (show tf (OdOk o) = false from tf_false fun h => by rcases h.2 with h | h; exact ha h.2; omega)
        have t : (o.arg == 0) = false := by simpa using ha
        obtain ⟨hc1, hc2⟩ := hc
        clear ha
        go_enter Tryd.func21, Tryd.ntmps21
        go_wp2_with fail
        refine (argOf_any o.code _).mono ?_
        rintro e w' ⟨rfl, rfl⟩
        generalize argMost o.code = M at hneg hm ⊢
        have d : decide (M < 0) = true := by simpa using hneg
        have d2 : decide (0 ≤ M) = false := by simpa using hneg
        go_wp2_with fail
        refine (inRange_yes o.code 0 19 _ hc1 hc2).mono ?_
        rintro e w' ⟨rfl, rfl⟩
        go_wp2
        go_ret
        exact ⟨ret_bool HF.out.symm, hB⟩
    · by_cases ha : 0 ≤ o.arg ∧ o.arg ≤ argMost o.code
      · have HF := hide (show tf (OdOk o) = true from tf_true ⟨hc, .inr ⟨by omega, ha⟩⟩)
        obtain ⟨hc1, hc2⟩ := hc
        obtain ⟨ha1, ha2⟩ := ha
        go_enter Tryd.func21, Tryd.ntmps21
        go_wp2_with fail
        refine (argOf_any o.code _).mono ?_
        rintro e w' ⟨rfl, rfl⟩
        generalize argMost o.code = M at hneg hm ha2 ⊢
        have d : decide (M < 0) = false := by simpa using hneg
        have d2 : decide (0 ≤ M) = true := by simpa using hneg
        go_wp2_with fail
        refine (inRange_yes o.code 0 19 _ hc1 hc2).mono ?_
        rintro e w' ⟨rfl, rfl⟩
        go_wp2_with fail
        refine (inRange_yes o.arg 0 M _ ha1 ha2).mono ?_
        rintro e w' ⟨rfl, rfl⟩
        go_wp2
        go_ret
        exact ⟨ret_bool HF.out.symm, hB⟩
      · have HF := hide (show tf (OdOk o) = false from tf_false fun h => by rcases h.2 with h | h; omega; exact ha h.2)
        obtain ⟨hc1, hc2⟩ := hc
        have ha' : o.arg < 0 ∨ argMost o.code < o.arg := by omega
        clear ha
        go_enter Tryd.func21, Tryd.ntmps21
        go_wp2_with fail
        refine (argOf_any o.code _).mono ?_
        rintro e w' ⟨rfl, rfl⟩
        generalize argMost o.code = M at hneg hm ha' ⊢
        have d : decide (M < 0) = false := by simpa using hneg
        have d2 : decide (0 ≤ M) = true := by simpa using hneg
        go_wp2_with fail
        refine (inRange_yes o.code 0 19 _ hc1 hc2).mono ?_
        rintro e w' ⟨rfl, rfl⟩
        go_wp2_with fail
        refine (inRange_no o.arg 0 M _ ha').mono ?_
        rintro e w' ⟨rfl, rfl⟩
        clear ha'
        go_wp2
        go_ret
        exact ⟨ret_bool HF.out.symm, hB⟩
  · have HF := hide (show tf (OdOk o) = false from tf_false fun h => hc h.1)
    have hc' : o.code < 0 ∨ 19 < o.code := by omega
    clear hc
    go_enter Tryd.func21, Tryd.ntmps21
    go_wp2_with fail
    refine (argOf_any o.code _).mono ?_
    rintro e w' ⟨rfl, rfl⟩
    generalize argMost o.code = M at hm ⊢
    go_wp2_with fail
    refine (inRange_no o.code 0 19 _ hc').mono ?_
    rintro e w' ⟨rfl, rfl⟩
    clear hc'
    go_wp2
    go_ret
    exact ⟨ret_bool HF.out.symm, hB⟩

end Go.Proofs.YtckodifdbephgabDoor

namespace Go.Proofs.YtckodifdbephgabDoor
open Go.RowKit
set_option linter.unusedVariables false

set_option maxHeartbeats 1000000 in
theorem specValidOps_any (A : Option Addr) (os : List Od) (c : Nat) (w : World) (h : OpsAt w w.heap.size A os) :
    Calls Tryd.prog 13 #[.slice A os.length c] w fun e w' => e = .returned (.bool (tf (OpsOk os))) ∧ Below w.heap.size w w' := by
  have hl := h.len
  go_enter Tryd.func13, Tryd.ntmps13
  go_wp2_with fail
  go_loopw [3] (fun i wr => ∃ k : Nat, k ≤ os.length ∧ i = .int .i64 k ∧ Below w.heap.size w wr ∧ ∀ j x, j < k → os[j]? = some x → OdOk x) (fun i _ => os.length - (intOf i).toNat)
  case atStart => exact ⟨0, Nat.zero_le _, rfl, Below.refl _ _, fun j _ hj => absurd hj (by omega)⟩
  case round =>
    obtain ⟨k, hk, rfl, hb, he0⟩ := hrel
    have he := hide he0
    clear he0
    by_cases hlt : k < os.length
    · obtain ⟨b, off, x, rfl, hbl, hx, hmem, hc0, hc1⟩ := (h.below hb).at_ hlt
      have Hx := hide hx
      clear hx
      by_cases hin : OdOk x
      · have He : Hid (∀ j y, j < k + 1 → os[j]? = some y → OdOk y) := by
          intro j y hj hy
          by_cases e : j = k
          · subst e
            have := Hx.out.symm.trans hy
            injection this with this
            subst this
            exact hin
          · exact he.out j y (by omega) hy
        have ht := hide (show tf (OdOk x) = true from tf_true hin)
        clear he hmem hin
        go_wp2_with fail
        refine (validOp_any x _).mono ?_
        rintro e w' ⟨rfl, hb2⟩
        rw [ht.out]
        go_wp2
        go_roundw
        case rel => exact ⟨k + 1, by omega, by go_num, hb.trans (hb2.mono hb.size), He.out⟩
        case measure => simp [intOf]; omega
      · have HF := hide (show tf (OpsOk os) = false from tf_false fun hall => hin (hall.2 x hmem))
        have ht := hide (show tf (OdOk x) = false from tf_false hin)
        clear he hmem hin
        go_wp2_with fail
        refine (validOp_any x _).mono ?_
        rintro e w' ⟨rfl, hb2⟩
        rw [ht.out]
        go_wp2
        go_ret
        exact ⟨ret_bool HF.out.symm, hb.trans (hb2.mono hb.size)⟩
    · obtain rfl : k = os.length := by omega
      have hall : ∀ x ∈ os, OdOk x := fun x hx => by
        obtain ⟨j, hj, rfl⟩ := List.getElem_of_mem hx
        exact he.out j _ hj (List.getElem?_eq_getElem hj)
      by_cases h3 : os.length ≤ 300
      · have HF := hide (show tf (OpsOk os) = true from tf_true ⟨h3, hall⟩)
        have d : decide ((os.length : Int) ≤ 300) = true := by simp; omega
        clear hlt hall
        go_wp2
        go_ret
        exact ⟨ret_bool HF.out.symm, hb⟩
      · have HF := hide (show tf (OpsOk os) = false from tf_false fun hh => h3 hh.1)
        have d : decide ((os.length : Int) ≤ 300) = false := by simp; omega
        clear hlt hall
        go_wp2
        go_ret
        exact ⟨ret_bool HF.out.symm, hb⟩

end Go.Proofs.YtckodifdbephgabDoor

namespace Go.Proofs.YtckodifdbephgabDoor
open Go.RowKit
set_option linter.unusedVariables false

/-- one more use of the node x -/
def bump (us : List Int) (x : Int) : List Int := us.set x.toNat (us.getD x.toNat 0 + 1)
/-- one more use of each of these -/
def bumps (us : List Int) (xs : List Int) : List Int := xs.foldl bump us
theorem bumps_nil (us : List Int) : bumps us [] = us := rfl
theorem bumps_snoc (us xs : List Int) (x : Int) : bumps us (xs ++ [x]) = bump (bumps us xs) x := by simp [bumps]
theorem bump_len (us : List Int) (x : Int) : (bump us x).length = us.length := by simp [bump]
theorem bumps_len (us xs : List Int) : (bumps us xs).length = us.length := by
  unfold bumps
  induction xs generalizing us with
  | nil => rfl
  | cons a xs ih => rw [List.foldl_cons, ih, bump_len]

/-- all of them between 0 and m -/
def Upto (us : List Int) (m : Int) : Prop := ∀ x ∈ us, 0 ≤ x ∧ x ≤ m
theorem Upto.getD {us : List Int} {m : Int} (h : Upto us m) (hm : 0 ≤ m) (k : Nat) : 0 ≤ us.getD k 0 ∧ us.getD k 0 ≤ m := by
  by_cases hk : k < us.length
  · have e : us.getD k 0 = us[k] := by simp [List.getD, hk]
    rw [e]
    exact h _ (List.getElem_mem hk)
  · have e : us.getD k 0 = 0 := by simp [List.getD, List.getElem?_eq_none (Nat.le_of_not_lt hk)]
    rw [e]; omega
theorem Upto.bump {us : List Int} {m : Int} (h : Upto us m) (hm : 0 ≤ m) (x : Int) : Upto (bump us x) (m + 1) := by
  intro y hy
  have h2 := h.getD hm x.toNat
  rcases List.mem_or_eq_of_mem_set hy with hy | hy
  · have := h y hy; omega
  · omega
theorem Upto.bumps {us : List Int} {m : Int} (h : Upto us m) (hm : 0 ≤ m) (xs : List Int) : Upto (bumps us xs) (m + xs.length) := by
  unfold Go.Proofs.YtckodifdbephgabDoor.bumps
  induction xs generalizing us m with
  | nil => simpa using h
  | cons a xs ih =>
    rw [List.foldl_cons]
    have := ih (h.bump hm a) (by omega)
    rw [List.length_cons]
    intro y hy
    have := this y hy
    omega
theorem Upto.zeros (n : Nat) : Upto (List.replicate n 0) 0 := by
  intro x hx
  have := List.eq_of_mem_replicate hx
  omega

theorem intCell_bump (us : List Int) (y : Nat) (hy : y < us.length) (i : Nat) : intCell (bump us (y : Int)) i = if i = y then .int .i64 (us.getD y 0 + 1) else intCell us i := by
  unfold intCell bump
  by_cases e : i = y
  · subst e
    simp [List.getD, hy]
  · rw [if_neg e]
    simp [List.getD, Ne.symm e]
theorem intCell_zeros (n i : Nat) : intCell (List.replicate n 0) i = .int .i64 0 := by
  unfold intCell
  by_cases h : i < n
  · simp [List.getD, h]
  · simp [List.getD, h]

theorem Upto.mono {us : List Int} {m m' : Int} (h : Upto us m) (hm : m ≤ m') : Upto us m' := fun x hx => by have := h x hx; omega

end Go.Proofs.YtckodifdbephgabDoor

namespace Go.Proofs.YtckodifdbephgabDoor
set_option linter.unusedVariables false

/-- the counts of the first k orders -/
def countsTo (os : List Od) (k : Nat) : List Int := bumps (List.replicate 20 0) ((os.take k).map (·.code))

theorem countsTo_zero (os : List Od) : countsTo os 0 = List.replicate 20 0 := by simp [countsTo, bumps]
theorem countsTo_succ {os : List Od} {k : Nat} {o : Od} (h : os[k]? = some o) : countsTo os (k + 1) = bump (countsTo os k) o.code := by
  unfold countsTo
  rw [List.take_add_one, h]
  simp [bumps_snoc]
theorem countsTo_len (os : List Od) (k : Nat) : (countsTo os k).length = 20 := by
  unfold countsTo
  rw [bumps_len]; simp
theorem countsTo_upto (os : List Od) (k : Nat) : Upto (countsTo os k) (os.length : Int) := by
  have h1 : Upto (bumps (List.replicate 20 0) ((os.take k).map (·.code))) (0 + (((os.take k).map (·.code)).length : Int)) := (Upto.zeros 20).bumps (by omega) _
  refine Upto.mono h1 ?_
  rw [List.length_map, List.length_take]
  omega

open Classical in
noncomputable def countsOf (os : List Od) : List Int := if OpsOk os then countsTo os os.length else []

theorem countsOf_ok {os : List Od} (h : OpsOk os) : countsOf os = countsTo os os.length := by unfold countsOf; rw [if_pos h]
theorem countsOf_no {os : List Od} (h : ¬ OpsOk os) : countsOf os = [] := by unfold countsOf; rw [if_neg h]

theorem countsOf_few {os : List Od} : (countsOf os).length ≤ 300 := by
  unfold countsOf
  split
  · rw [countsTo_len]; omega
  · simp

theorem countsOf_64 {os : List Od} : ∀ x ∈ countsOf os, In64 x := by
  unfold countsOf
  split
  next h =>
    intro x hx
    have h1 := countsTo_upto os os.length x hx
    have h2 := h.1
    constructor <;> omega
  next => simp

end Go.Proofs.YtckodifdbephgabDoor

namespace Go.Proofs.YtckodifdbephgabDoor
open Go.RowKit
set_option linter.unusedVariables false


/-- a row behind an owned int slice -/
theorem OwnI.row {w : World} {base g : Nat} {c : Nat} {xs : List Int} (h : OwnI w base (some ⟨g, 0, none⟩) c xs) :
    ∃ (cap : Nat) (f : Nat → Value), w.rowIs g 3 cap f ∧ xs.length ≤ cap ∧ cap ≤ maxLen ∧ c = cap ∧ base ≤ g := by
  rcases h.own.2 with ⟨h1, _⟩ | ⟨g', cap, cur, hv, hg, hh, hn, hm, hs, _⟩
  · injection h1 with h1
    cases h1
  · injection hv with hv _ hc
    obtain rfl : g = g' := by simpa using hv
    refine ⟨cap, fun i => (cur[i]?).getD undef, ⟨cur, hh, by simpa using hs, fun i hi => ?_⟩, hn, hm, hc, hg⟩
    have : i < cur.size := by rw [hs]; omega
    show _ = some ((cur[i]?).getD undef)
    rw [Array.getElem?_eq_getElem this]; rfl

theorem OwnI.of_row {w : World} {base g cap : Nat} {f : Nat → Value} {xs : List Int} (h : w.rowIs g 3 cap f) (hl : xs.length ≤ cap) (hm : cap ≤ maxLen) (hb : base ≤ g) (hf : ∀ i x, xs[i]? = some x → f i = .int .i64 x) :
    OwnI w base (some ⟨g, 0, none⟩) cap xs := by
  obtain ⟨cur, hh, hs, hc⟩ := h
  refine ⟨⟨by simp, .inr ⟨g, cap, cur, rfl, hb, hh, hl, hm, by simpa using hs, ?_⟩⟩⟩
  apply List.ext_getElem?
  intro i
  rw [List.getElem?_take, List.getElem?_map]
  by_cases hi : i < xs.length
  · rw [if_pos (by omega), Array.getElem?_toList, hc i (by omega), List.getElem?_eq_getElem hi]
    simp [hf i _ (List.getElem?_eq_getElem hi)]
  · rw [if_neg (by omega), List.getElem?_eq_none (by omega)]
    rfl

end Go.Proofs.YtckodifdbephgabDoor

namespace Go.Proofs.YtckodifdbephgabDoor
open Go.RowKit
set_option linter.unusedVariables false

theorem makeInts20 : ∀ w : World, (Instr.makeSlice 25 (.int .i64 20) (.int .i64 20)).run Tryd.prog w = .ok (.slice (some ⟨w.heap.size, 0, none⟩) 20 20) (w.alloc (.cells (madeCells #[.int .i64 0] 20) 3)) :=
  run_make_row' (P := Tryd.prog) 25 3 (.int .i64 0) 8 Tryd.underlying25 infoI rfl .i64 .i64 20 (by omega) (by omega)

set_option maxRecDepth 100000 in
set_option maxHeartbeats 1000000 in
theorem specCountCodes_any (A : Option Addr) (os : List Od) (c : Nat) (w : World) (h : OpsAt w w.heap.size A os) :
    Calls Tryd.prog 7 #[.slice A os.length c] w (GivesInts w (countsOf os)) := by
  have hl := h.len
  by_cases hok : OpsOk os
  · rw [countsOf_ok hok]
    have Hok := hide hok
    have ht := hide (tf_true hok)
    have hl3 := hok.1
    clear hok
    have hmk := makeInts20
    go_enter Tryd.func7, Tryd.ntmps7
    go_wp2_with fail
    refine (specValidOps_any A os c w h).mono ?_
    rintro e w1 ⟨rfl, hb1⟩
    rw [ht.out]
    have hrow0 := World.rowIs_made w1 (.int .i64 0) 20 3
    have hb2 := hb1.alloc hb1.size (.cells (madeCells #[.int .i64 0] 20) 3)
    have hsz := hb1.size
    go_wp2_with fail
    clear hmk
    generalize w1.alloc (.cells (madeCells #[.int .i64 0] 20) 3) = w2 at hrow0 hb2 ⊢
    generalize w1.heap.size = g at hrow0 hsz ⊢
    go_loopw [4] (fun iv wr => ∃ k : Nat, k ≤ os.length ∧ iv = .int .i64 k ∧ Below w.heap.size w wr ∧ wr.rowIs g 3 20 (intCell (countsTo os k))) (fun iv _ => os.length - (intOf iv).toNat)
    case atStart => exact ⟨0, Nat.zero_le _, rfl, hb2, hrow0.congr (fun j hj => by rw [countsTo_zero, intCell_zeros])⟩
    case round =>
      clear hrow0 hb2
      obtain ⟨k, hk, rfl, hb, hrow⟩ := hrel
      by_cases hlt : k < os.length
      · obtain ⟨b, off, o, rfl, hbl, hx, hmem, hc0, hc1⟩ := (h.below hb).at_ hlt
        have hcode := (Hok.out.2 o hmem).1
        obtain ⟨m, hm⟩ := Int.eq_ofNat_of_zero_le hcode.1
        rw [hm] at hc0
        have hm20 : m < 20 := by omega
        have hup := countsTo_upto os k
        have hu := hup.getD (by omega) m
        have hlen := countsTo_len os k
        have Hs := hide (countsTo_succ hx)
        have Hm := hide hm
        generalize countsTo os k = us at hrow hu hlen Hs
        have q1 := hrow.cell hm20
        have q2 := hrow.frozen m
        rw [show intCell us m = .int .i64 (us.getD m 0) from rfl] at q1
        generalize hud : us.getD m 0 = u at q1 hu
        have Hud := hide hud
        have HR := hide hrow
        have HB := hide hb
        have Hl := hide hlen
        have hk1 : (0 : Int) ≤ (k : Int) := by omega
        have hk2 : (k : Int) < (os.length : Int) := by omega
        have hm1 : (0 : Int) ≤ (m : Int) := by omega
        have hm2 : (m : Int) < 20 := by omega
        clear hx hmem hc1 hcode hm hup hlen hud hrow hb
        have hbd : Below w.heap.size w wr.drew := HB.out.drew
        have hrd : wr.drew.rowIs g 3 20 (intCell us) := HR.out
        have HBd := hide hbd
        have HRd := hide hrd
        clear hbd hrd
        go_wp2_with fail
        go_still_tail 16, (by kernel_rfl)
        change wpList _ _ _ _ _ wr.drew
        generalize wr.drew = wd at HBd HRd ⊢
        have d1 := HRd.out.cell hm20
        have d2 := HRd.out.frozen m
        go_wp2
        go_roundw
        case rel => exact ⟨k + 1, by omega, by go_num, HBd.out.setCell hsz _, (World.rowIs.set (w := wd) HRd.out m _).congr (fun q hq => by
          rw [Hs.out, Hm.out, intCell_bump us m (by have := Hl.out; omega), Hud.out])⟩
        case measure => simp [intOf]; omega
      · obtain rfl : k = os.length := by omega
        clear hlt
        have HR := hide hrow
        clear hrow
        have hlen := countsTo_len os os.length
        go_wp2
        go_ret
        refine ⟨some ⟨g, 0, none⟩, 20, by rw [hlen]; rfl, OwnI.of_row HR.out (by omega) (by unfold maxLen; omega) hsz (fun i x hx => intCell_at hx), hb⟩
  · rw [countsOf_no hok]
    have ht := hide (tf_false hok)
    clear hok
    go_enter Tryd.func7, Tryd.ntmps7
    go_wp2_with fail
    refine (specValidOps_any A os c w h).mono ?_
    rintro e w1 ⟨rfl, hb1⟩
    rw [ht.out]
    go_wp2
    go_ret
    exact ⟨none, 0, rfl, OwnI.empty _ _, hb1⟩

end Go.Proofs.YtckodifdbephgabDoor

namespace Go.Proofs.YtckodifdbephgabDoor
open Go.RowKit

theorem isUpTo_yes (n hi : Int) (w : World) (h1 : 0 ≤ n) (h2 : n ≤ hi) :
    Calls Tryd.prog 20 #[.int .i64 n, .int .i64 hi] w fun e w' => e = .returned (.bool true) ∧ w = w' := by
  have d1 : decide (0 ≤ n) = true := by simpa using h1
  have d2 : decide (n ≤ hi) = true := by simpa using h2
  go_enter Tryd.func20, Tryd.ntmps20
  go_wp2
  go_ret
  exact ⟨rfl, rfl⟩

theorem isUpTo_no (n hi : Int) (w : World) (h : n < 0 ∨ hi < n) :
    Calls Tryd.prog 20 #[.int .i64 n, .int .i64 hi] w fun e w' => e = .returned (.bool false) ∧ w = w' := by
  by_cases h1 : 0 ≤ n
  · have h2 : ¬ n ≤ hi := by omega
    have d1 : decide (0 ≤ n) = true := by simpa using h1
    have d2 : decide (n ≤ hi) = false := by simpa using h2
    clear h
    go_enter Tryd.func20, Tryd.ntmps20
    go_wp2
    go_ret
    exact ⟨rfl, rfl⟩
  · have d1 : decide (0 ≤ n) = false := by simpa using h1
    clear h
    go_enter Tryd.func20, Tryd.ntmps20
    go_wp2
    go_ret
    exact ⟨rfl, rfl⟩

/-- whether a number is in 0..hi -/
def upB (n hi : Int) : Bool := decide (0 ≤ n ∧ n ≤ hi)
theorem upB_yes {n hi : Int} (h : 0 ≤ n ∧ n ≤ hi) : upB n hi = true := by unfold upB; simpa using h
theorem upB_no {n hi : Int} (h : ¬ (0 ≤ n ∧ n ≤ hi)) : upB n hi = false := by unfold upB; simpa using h

/-- the same for a region that only reads -/
theorem isUpTo_q (n hi : Int) (w : World) :
    Calls Tryd.prog 20 #[.int .i64 n, .int .i64 hi] w fun e w' => e = .returned (.bool (upB n hi)) ∧ w' = w := by
  by_cases h : 0 ≤ n ∧ n ≤ hi
  · rw [upB_yes h]
    exact (isUpTo_yes n hi w h.1 h.2).mono fun e w' ⟨a, b⟩ => ⟨a, b.symm⟩
  · rw [upB_no h]
    exact (isUpTo_no n hi w (by omega)).mono fun e w' ⟨a, b⟩ => ⟨a, b.symm⟩

end Go.Proofs.YtckodifdbephgabDoor

namespace Go.Proofs.YtckodifdbephgabDoor
open Go.RowKit
set_option linter.unusedVariables false

set_option maxRecDepth 100000 in
set_option maxHeartbeats 1000000 in
theorem implValidOps_any (A : Option Addr) (os : List Od) (c : Nat) (w : World) (h : OpsAt w w.heap.size A os) (hF : FormsAt w w.heap.size) :
    Calls Tryd.prog 12 #[.slice A os.length c] w fun e w' => e = .returned (.bool (tf (OpsOk os))) ∧ Below w.heap.size w w' := by
  have hl := h.len
  by_cases h3 : os.length ≤ 300
  · have t3 : decide ((300 : Int) < (os.length : Int)) = false := by simp; omega
    go_enter Tryd.func12, Tryd.ntmps12
    go_wp2_with fail
    go_loopw [10] (fun i wr => ∃ k : Nat, k ≤ os.length ∧ i = .int .i64 k ∧ Below w.heap.size w wr ∧ ∀ j x, j < k → os[j]? = some x → OdOk x) (fun i _ => os.length - (intOf i).toNat)
    case atStart => exact ⟨0, Nat.zero_le _, rfl, Below.refl _ _, fun j _ hj => absurd hj (by omega)⟩
    case round =>
      obtain ⟨k, hk, rfl, hb, he0⟩ := hrel
      have he := hide he0
      clear he0
      by_cases hlt : k < os.length
      · obtain ⟨b, off, x, rfl, hbl, hx, hmem, hc0, hc1⟩ := (h.below hb).at_ hlt
        have Hx := hide hx
        clear hx
        have hFr := hF.below hb
        have hb2 : Below w.heap.size w (wr.alloc (.cells #[.int .i64 x.code, .int .i64 x.arg] 36)) := hb.alloc hb.size _
        have lx := Lies.new wr #[.int .i64 x.code, .int .i64 x.arg] 36
        have hF2 := hF.below hb2
        clear hFr
        go_wp2_with fail
        generalize wr.alloc (.cells #[.int .i64 x.code, .int .i64 x.arg] 36) = w2 at hb2 lx hF2 ⊢
        have x0 := lx.cell 0
        have x1 := lx.cell 1
        simp at x0 x1
        by_cases hc : 0 ≤ x.code ∧ x.code ≤ 19
        · have u1 := upB_yes hc
          obtain ⟨m, hm⟩ := Int.eq_ofNat_of_zero_le hc.1
          have hm19 : m < 20 := by omega
          have harg := hF2.arg m hm19
          have hi1 : (0 : Int) ≤ x.code := hc.1
          have hi2 : x.code < 20 := by omega
          have hmn : x.code.toNat = m := by omega
          rw [← hm, ← hmn] at harg
          by_cases ha : 0 ≤ x.arg ∧ x.arg ≤ argTop x.code
          · have u2 := upB_yes ha
            have He : Hid (∀ j y, j < k + 1 → os[j]? = some y → OdOk y) := by
              intro j y hj hy
              by_cases e : j = k
              · subst e
                obtain rfl := Option.some.inj (Hx.out.symm.trans hy)
                exact (OdOk.iff _).2 ⟨hc, ha⟩
              · exact he.out j y (by omega) hy
            generalize argTop x.code = T at harg u2
            clear he hmem hm hmn ha hc hF2 lx
            go_quiet ((go_at_call 20; exact Calls.quiet_of_same (isUpTo_q _ _ _)))
            go_wp2
            go_roundw
            case rel => exact ⟨k + 1, by omega, by go_num, below_drewN hb2 _, He.out⟩
            case measure => simp [intOf]; omega
          · have u2 := upB_no ha
            have HF := hide (show tf (OpsOk os) = false from tf_false fun hall => ha ((OdOk.iff _).1 (hall.2 x hmem)).2)
            generalize argTop x.code = T at harg u2
            clear he hmem hm hmn ha hc hF2 lx
            go_quiet ((go_at_call 20; exact Calls.quiet_of_same (isUpTo_q _ _ _)))
            go_wp2
            go_ret
            exact ⟨ret_bool HF.out.symm, below_drewN hb2 _⟩
        · have u1 := upB_no hc
          have HF := hide (show tf (OpsOk os) = false from tf_false fun hall => hc (hall.2 x hmem).1)
          clear he hmem hc hF2 lx
          go_quiet ((go_at_call 20; exact Calls.quiet_of_same (isUpTo_q _ _ _)))
          go_wp2
          go_ret
          exact ⟨ret_bool HF.out.symm, below_drewN hb2 _⟩
      · obtain rfl : k = os.length := by omega
        have HF := hide (show tf (OpsOk os) = true from tf_true ⟨h3, fun x hx => by
          obtain ⟨j, hj, rfl⟩ := List.getElem_of_mem hx
          exact he.out j _ hj (List.getElem?_eq_getElem hj)⟩)
        clear hlt
        go_wp2
        go_ret
        exact ⟨ret_bool HF.out.symm, hb⟩
  · have t3 : decide ((300 : Int) < (os.length : Int)) = true := by simp; omega
    have HF := hide (show tf (OpsOk os) = false from tf_false fun hh => h3 hh.1)
    clear h3
    go_enter Tryd.func12, Tryd.ntmps12
    go_wp2
    go_ret
    exact ⟨ret_bool HF.out.symm, Below.refl _ _⟩

end Go.Proofs.YtckodifdbephgabDoor

namespace Go.Proofs.YtckodifdbephgabDoor
open Go.RowKit
set_option linter.unusedVariables false

set_option maxRecDepth 100000 in
set_option maxHeartbeats 1000000 in
theorem implCountCodes_any (A : Option Addr) (os : List Od) (c : Nat) (w : World) (h : OpsAt w w.heap.size A os) (hF : FormsAt w w.heap.size) :
    Calls Tryd.prog 5 #[.slice A os.length c] w (GivesInts w (countsOf os)) := by
  have hl := h.len
  by_cases hok : OpsOk os
  · rw [countsOf_ok hok]
    have Hok := hide hok
    have ht := hide (tf_true hok)
    have hl3 := hok.1
    clear hok
    have hmk := makeInts20
    go_enter Tryd.func5, Tryd.ntmps5
    go_wp2_with fail
    refine (implValidOps_any A os c w h hF).mono ?_
    rintro e w1 ⟨rfl, hb1⟩
    rw [ht.out]
    have hrow0 := World.rowIs_made w1 (.int .i64 0) 20 3
    have hb2 := hb1.alloc hb1.size (.cells (madeCells #[.int .i64 0] 20) 3)
    have hsz := hb1.size
    go_wp2_with fail
    clear hmk
    generalize w1.alloc (.cells (madeCells #[.int .i64 0] 20) 3) = w2 at hrow0 hb2 ⊢
    generalize w1.heap.size = g at hrow0 hsz ⊢
    go_loopw [12] (fun iv wr => ∃ k : Nat, k ≤ os.length ∧ iv = .int .i64 k ∧ Below w.heap.size w wr ∧ wr.rowIs g 3 20 (intCell (countsTo os k))) (fun iv _ => os.length - (intOf iv).toNat)
    case atStart => exact ⟨0, Nat.zero_le _, rfl, hb2, hrow0.congr (fun j hj => by rw [countsTo_zero, intCell_zeros])⟩
    case round =>
      clear hrow0 hb2
      obtain ⟨k, hk, rfl, hb, hrow⟩ := hrel
      by_cases hlt : k < os.length
      · obtain ⟨b, off, o, rfl, hbl, hx, hmem, hc0, hc1⟩ := (h.below hb).at_ hlt
        have hcode := (Hok.out.2 o hmem).1
        obtain ⟨m, hm⟩ := Int.eq_ofNat_of_zero_le hcode.1
        rw [hm] at hc0
        have hm20 : m < 20 := by omega
        have hup := countsTo_upto os k
        have hu := hup.getD (by omega) m
        have hlen := countsTo_len os k
        have Hs := hide (countsTo_succ hx)
        have Hm := hide hm
        generalize countsTo os k = us at hrow hu hlen Hs
        have q1 := hrow.cell hm20
        have q2 := hrow.frozen m
        rw [show intCell us m = .int .i64 (us.getD m 0) from rfl] at q1
        generalize hud : us.getD m 0 = u at q1 hu
        have Hud := hide hud
        have HR := hide hrow
        have HB := hide hb
        have Hl := hide hlen
        have hk1 : (0 : Int) ≤ (k : Int) := by omega
        have hk2 : (k : Int) < (os.length : Int) := by omega
        have hm1 : (0 : Int) ≤ (m : Int) := by omega
        have hm2 : (m : Int) < 20 := by omega
        clear hx hmem hcode hm hup hlen hud hrow hb
        have hb3 := HB.out.alloc HB.out.size (.cells #[.int .i64 (m : Int), .int .i64 o.arg] 36)
        have lo := Lies.new wr #[.int .i64 (m : Int), .int .i64 o.arg] 36
        have hr3 := HR.out.alloc (.cells #[.int .i64 (m : Int), .int .i64 o.arg] 36)
        clear q1 q2
        have q1 := hr3.cell hm20
        have q2 := hr3.frozen m
        rw [show intCell us m = .int .i64 (us.getD m 0) from rfl, Hud.out] at q1
        have o0 := lo.cell 0
        simp at o0
        have HB3 := hide hb3
        have HR3 := hide hr3
        clear hb3 hr3 lo
        go_wp2
        go_roundw
        case rel => exact ⟨k + 1, by omega, by go_num, HB3.out.setCell hsz _, (HR3.out.set m _).congr (fun q hq => by
          rw [Hs.out, Hm.out, intCell_bump us m (by have := Hl.out; omega), Hud.out])⟩
        case measure => simp [intOf]; omega
      · obtain rfl : k = os.length := by omega
        clear hlt
        have HR := hide hrow
        clear hrow
        have hlen := countsTo_len os os.length
        go_wp2
        go_ret
        refine ⟨some ⟨g, 0, none⟩, 20, by rw [hlen]; rfl, OwnI.of_row HR.out (by omega) (by unfold maxLen; omega) hsz (fun i x hx => intCell_at hx), hb⟩
  · rw [countsOf_no hok]
    have ht := hide (tf_false hok)
    clear hok
    go_enter Tryd.func5, Tryd.ntmps5
    go_wp2_with fail
    refine (implValidOps_any A os c w h hF).mono ?_
    rintro e w1 ⟨rfl, hb1⟩
    rw [ht.out]
    go_wp2
    go_ret
    exact ⟨none, 0, rfl, OwnI.empty _ _, hb1⟩

end Go.Proofs.YtckodifdbephgabDoor

namespace Go.Proofs.YtckodifdbephgabDoor

/-- how many orders have a code -/
def numOf (os : List Od) (c : Int) : Nat := os.countP fun o => decide (o.code = c)

theorem numOf_le (os : List Od) (c : Int) : numOf os c ≤ os.length := List.countP_le_length
theorem numOf_snoc {os : List Od} {k : Nat} {o : Od} (h : os[k]? = some o) (c : Int) : numOf (os.take (k + 1)) c = numOf (os.take k) c + (if o.code = c then 1 else 0) := by
  unfold numOf
  rw [List.take_add_one, h, Option.toList_some, List.countP_append]
  congr 1
  by_cases e : o.code = c <;> simp [e]
theorem numOf_parts (os : List Od) (k : Nat) (c : Int) : numOf (os.take k) c + numOf (os.drop k) c = numOf os c := by
  unfold numOf
  rw [← List.countP_append, List.take_append_drop]

end Go.Proofs.YtckodifdbephgabDoor

namespace Go.Proofs.YtckodifdbephgabDoor
set_option linter.unusedVariables false

theorem bump_getD {us : List Int} {x : Nat} (hx : x < us.length) (c : Nat) : (bump us (x : Int)).getD c 0 = us.getD c 0 + (if x = c then 1 else 0) := by
  unfold bump
  rw [Int.toNat_natCast]
  by_cases e : x = c
  · subst e
    rw [if_pos rfl, List.getD_eq_getElem?_getD, List.getElem?_set, if_pos rfl, if_pos hx]; rfl
  · rw [if_neg e, List.getD_eq_getElem?_getD, List.getElem?_set, if_neg e, List.getD_eq_getElem?_getD]; omega

theorem countsTo_at {os : List Od} (h : OpsOk os) (c : Nat) : ∀ k, k ≤ os.length → (countsTo os k).getD c 0 = if c < 20 then (numOf (os.take k) (c : Int) : Int) else 0
  | 0, _ => by
    rw [countsTo_zero]
    by_cases hc : c < 20
    · rw [if_pos hc, List.take_zero, List.getD_eq_getElem?_getD, List.getElem?_replicate, if_pos hc]; rfl
    · rw [if_neg hc, List.getD_eq_getElem?_getD, List.getElem?_replicate, if_neg hc]; rfl
  | k + 1, hk => by
    have hx : os[k]? = some os[k] := List.getElem?_eq_getElem hk
    have ho := h.2 _ (List.mem_of_getElem? hx)
    obtain ⟨x, hxe⟩ := Int.eq_ofNat_of_zero_le ho.1.1
    have hx20 : x < 20 := by have := ho.1.2; omega
    rw [countsTo_succ hx, hxe, bump_getD (by rw [countsTo_len]; exact hx20), countsTo_at h c k (by omega)]
    by_cases hc : c < 20
    · rw [if_pos hc, if_pos hc, numOf_snoc hx, hxe]
      by_cases e : x = c
      · subst e; rw [if_pos rfl, if_pos rfl]; simp
      · rw [if_neg e, if_neg (by omega)]; simp
    · rw [if_neg hc, if_neg hc, if_neg (by omega)]; omega

theorem countsOf_at {os : List Od} (h : OpsOk os) {c : Nat} (hc : c < 20) : (countsOf os)[c]? = some (numOf os (c : Int) : Int) := by
  rw [countsOf_ok h]
  have h1 := countsTo_at h c os.length (Nat.le_refl _)
  rw [if_pos hc, List.take_length] at h1
  have hl : c < (countsTo os os.length).length := by rw [countsTo_len]; exact hc
  rw [List.getElem?_eq_getElem hl]
  rw [List.getD_eq_getElem?_getD, List.getElem?_eq_getElem hl, Option.getD_some] at h1
  rw [h1]
theorem countsOf_len {os : List Od} (h : OpsOk os) : (countsOf os).length = 20 := by rw [countsOf_ok h, countsTo_len]

theorem OpsOk.begin {os : List Od} (h : OpsOk os) (k : Nat) : OpsOk (os.take k) := ⟨Nat.le_trans (by simp; omega) h.1, fun o ho => h.2 o (List.mem_of_mem_take ho)⟩
theorem OpsOk.behind {os : List Od} (h : OpsOk os) (k : Nat) : OpsOk (os.drop k) := ⟨Nat.le_trans (by simp) h.1, fun o ho => h.2 o (List.mem_of_mem_drop ho)⟩

theorem sum_set : ∀ (us : List Int) (j : Nat) (v : Int), j < us.length → (us.set j v).sum = us.sum - us.getD j 0 + v
  | [], j, v, h => by simp at h
  | u :: us, 0, v, h => by simp; omega
  | u :: us, j + 1, v, h => by
    have := sum_set us j v (by simpa using h)
    simp only [List.set_cons_succ, List.sum_cons, this, List.getD_cons_succ]
    omega

theorem countsTo_sum {os : List Od} (h : OpsOk os) : ∀ k, k ≤ os.length → (countsTo os k).sum = (k : Int)
  | 0, _ => by rw [countsTo_zero]; decide
  | k + 1, hk => by
    have hx : os[k]? = some os[k] := List.getElem?_eq_getElem hk
    have ho := h.2 _ (List.mem_of_getElem? hx)
    obtain ⟨x, hxe⟩ := Int.eq_ofNat_of_zero_le ho.1.1
    have hx20 : x < 20 := by have := ho.1.2; omega
    rw [countsTo_succ hx, hxe]
    unfold bump
    rw [Int.toNat_natCast, sum_set _ _ _ (by rw [countsTo_len]; exact hx20), countsTo_sum h k (by omega)]
    omega
theorem countsOf_sum {os : List Od} (h : OpsOk os) : (countsOf os).sum = (os.length : Int) := by rw [countsOf_ok h, countsTo_sum h _ (Nat.le_refl _)]

end Go.Proofs.YtckodifdbephgabDoor

namespace Go.Proofs.YtckodifdbephgabDoor
open Go.RowKit
set_option linter.unusedVariables false

set_option maxHeartbeats 1000000 in
theorem countOf_any (A : Option Addr) (os : List Od) (c : Nat) (x : Int) (w : World) (h : OpsAt w w.heap.size A os) (hl : os.length ≤ 100000) :
    Calls Tryd.prog 8 #[.slice A os.length c, .int .i64 x] w fun e w' => e = .returned (.int .i64 (numOf os x : Int)) ∧ w' = w := by
  go_enter Tryd.func8, Tryd.ntmps8
  go_wp2_with fail
  go_loop [5, 6] (fun nv iv => ∃ k : Nat, k ≤ os.length ∧ iv = .int .i64 (k : Int) ∧ nv = .int .i64 (numOf (os.take k) x : Int)) (fun _ iv => os.length - (intOf iv).toNat)
  case atStart => exact ⟨0, Nat.zero_le _, rfl, rfl⟩
  case round =>
    obtain ⟨k, hk, rfl, rfl⟩ := hrel
    have hnk := numOf_le (os.take k) x
    rw [List.length_take] at hnk
    by_cases hlt : k < os.length
    · obtain ⟨b, off, o, rfl, hbl, hx, _, hc0, hc1⟩ := h.at_ hlt
      have hs := numOf_snoc hx x
      have hk1 : (0 : Int) ≤ (k : Int) := by omega
      have hk2 : (k : Int) < (os.length : Int) := by omega
      clear hx
      by_cases e : o.code = x
      · subst e
        rw [if_pos rfl] at hs
        have HS := hide hs
        clear hs
        generalize numOf (os.take k) o.code = m at hnk HS
        go_wp2
        go_round
        case rel => exact ⟨k + 1, by omega, by go_num, by rw [HS.out]; go_num⟩
        case measure => simp [intOf]; omega
      · rw [if_neg e] at hs
        have HS := hide hs
        clear hs
        generalize numOf (os.take k) x = m at hnk HS
        have de : (o.code == x) = false := by simpa using e
        go_wp2
        go_round
        case rel => exact ⟨k + 1, by omega, by go_num, by rw [HS.out]; rfl⟩
        case measure => simp [intOf]; omega
    · obtain rfl : k = os.length := by omega
      rw [List.take_length]
      go_wp2
      go_ret
      exact ⟨rfl, rfl⟩

theorem countOf_q (A : Option Addr) (os : List Od) (c : Nat) (x : Int) (m : Nat) (w : World) (h : OpsAt w w.heap.size A os) (hl : os.length ≤ 100000) (hm : numOf os x = m) :
    Calls Tryd.prog 8 #[.slice A os.length c, .int .i64 x] w fun e w' => e = .returned (.int .i64 (m : Int)) ∧ w' = w := by
  rw [← hm]
  exact countOf_any A os c x w h hl

theorem OpsAt.drewN {w : World} {A : Option Addr} {os : List Od} (h : OpsAt w w.heap.size A os) (n : Nat) : OpsAt (w.drewN n) (w.drewN n).heap.size A os :=
  h.later (below_drewN (Below.refl _ _) n) (Nat.le_refl _)

end Go.Proofs.YtckodifdbephgabDoor

namespace Go.Proofs.YtckodifdbephgabDoor
open Go.RowKit
set_option linter.unusedVariables false

theorem sum_upto {xs : List Int} {m : Int} (hm : 0 ≤ m) (h : ∀ x ∈ xs, 0 ≤ x ∧ x ≤ m) : 0 ≤ xs.sum ∧ xs.sum ≤ m * xs.length := by
  induction xs with
  | nil => simp
  | cons x xs ih =>
    have h1 := h x (by simp)
    have h2 := ih fun y hy => h y (by simp [hy])
    rw [List.sum_cons, List.length_cons]
    have : m * ((xs.length + 1 : Nat) : Int) = m * xs.length + m := by rw [Int.natCast_add, Int.mul_add]; simp
    omega

set_option maxHeartbeats 1000000 in
theorem total_any (A : Option Addr) (xs : List Int) (c : Nat) (w : World) (h : IntsAt w w.heap.size A xs) (hl : xs.length ≤ 1000) (hu : ∀ x ∈ xs, 0 ≤ x ∧ x ≤ 1000000) :
    Calls Tryd.prog 9 #[.slice A xs.length c] w fun e w' => e = .returned (.int .i64 xs.sum) ∧ w' = w := by
  have Hu := hide hu
  clear hu
  go_enter Tryd.func9, Tryd.ntmps9
  go_wp2_with fail
  go_loop [3, 4] (fun nv iv => ∃ k : Nat, k ≤ xs.length ∧ iv = .int .i64 (k : Int) ∧ nv = .int .i64 (xs.take k).sum) (fun _ iv => xs.length - (intOf iv).toNat)
  case atStart => exact ⟨0, Nat.zero_le _, rfl, rfl⟩
  case round =>
    obtain ⟨k, hk, rfl, rfl⟩ := hrel
    by_cases hlt : k < xs.length
    · obtain ⟨b, off, x, rfl, hbl, hx, hxm, hcx⟩ := h.at_ hlt
      have hs : Hid ((xs.take (k + 1)).sum = (xs.take k).sum + x) := by show _ = _; rw [List.take_add_one, hx, Option.toList_some, List.sum_append]; simp
      have h1 := Hu.out x hxm
      have h2 := sum_upto (xs := xs.take k) (m := 1000000) (by omega) (fun y hy => Hu.out y (List.mem_of_mem_take hy))
      rw [List.length_take] at h2
      have hk1 : (0 : Int) ≤ (k : Int) := by omega
      have hk2 : (k : Int) < (xs.length : Int) := by omega
      clear hx hxm
      generalize (xs.take k).sum = m at hs h2
      have h3 : 0 ≤ m ∧ m ≤ 1000000000 := by omega
      obtain ⟨h3, h4⟩ := h3
      obtain ⟨h5, h6⟩ := h1
      clear h2
      go_wp2
      go_round
      case rel => exact ⟨k + 1, by omega, by go_num, by rw [hs.out]⟩
      case measure => simp [intOf]; omega
    · obtain rfl : k = xs.length := by omega
      rw [List.take_length]
      go_wp2
      go_ret
      exact ⟨rfl, rfl⟩

end Go.Proofs.YtckodifdbephgabDoor

namespace Go.Proofs.YtckodifdbephgabDoor

theorem eq_of_prefix {α : Type} [DecidableEq α] {xs ys : List α} (h : xs.length = ys.length) {k : Nat} (hk : k = xs.length) (he : ∀ j, j < k → xs[j]? = ys[j]?) : xs = ys := by
  apply List.ext_getElem?
  intro j
  by_cases hj : j < k
  · exact he j hj
  · rw [List.getElem?_eq_none (by omega), List.getElem?_eq_none (by omega)]

end Go.Proofs.YtckodifdbephgabDoor

namespace Go.Proofs.YtckodifdbephgabDoor
open Go.RowKit

set_option maxHeartbeats 1000000 in
theorem equalInts_any (A A' : Option Addr) (xs ys : List Int) (c c' : Nat) (w : World) (h : IntsAt w w.heap.size A xs) (h' : IntsAt w w.heap.size A' ys) :
    Calls Tryd.prog 6 #[.slice A xs.length c, .slice A' ys.length c'] w fun e w' => e = .returned (.bool (decide (xs = ys))) ∧ Below w.heap.size w w' := by
  have hl := h.len
  by_cases hne : xs.length = ys.length
  · have hb0 : ((xs.length : Int) != (ys.length : Int)) = false := by simp [hne]
    go_enter Tryd.func6, Tryd.ntmps6
    go_wp2_with fail
    go_loopw [5] (fun i wr => ∃ k : Nat, k ≤ xs.length ∧ i = .int .i64 k ∧ Below w.heap.size w wr ∧ ∀ j, j < k → xs[j]? = ys[j]?) (fun i _ => xs.length - (intOf i).toNat)
    case atStart => exact ⟨0, Nat.zero_le _, rfl, Below.refl _ _, fun j hj => absurd hj (by omega)⟩
    case round =>
      obtain ⟨k, hk, rfl, hb, he0⟩ := hrel
      have he := hide he0
      clear he0
      by_cases hlt : k < xs.length
      · obtain ⟨b, off, x, rfl, hbl, hx, _, hcx⟩ := (h.below hb).at_ hlt
        obtain ⟨b', off', y, rfl, hbl', hy, _, hcy⟩ := (h'.below hb).at_ (k := k) (by omega)
        have Hx := hide hx
        have Hy := hide hy
        clear hx hy
        have hk1 : (0 : Int) ≤ (k : Int) := by omega
        have hk2 : (k : Int) < (xs.length : Int) := by omega
        have hk3 : (k : Int) < (ys.length : Int) := by omega
        by_cases hxy : x = y
        · subst hxy
          go_wp2_with fail
          go_quiet (fail)
          go_wp2
          go_roundw
          case rel => exact ⟨k + 1, by omega, by go_num, below_drewN hb _, fun j hj => by
            by_cases e : j = k
            · subst e; rw [Hx.out, Hy.out]
            · exact he.out j (by omega)⟩
          case measure => simp [intOf]; omega
        · have hn1 : (x != y) = true := by simpa using hxy
          have hF : decide (xs = ys) = false := by
            simp only [decide_eq_false_iff_not]
            intro e
            subst e
            have := Hx.out.symm.trans Hy.out
            injection this with this
            exact hxy this
          have HF := hide hF
          clear hF
          go_wp2_with fail
          go_quiet (fail)
          go_wp2
          go_ret
          exact ⟨ret_bool HF.out.symm, below_drewN hb _⟩
      · obtain rfl : k = xs.length := by omega
        have hF : decide (xs = ys) = true := by
          simp only [decide_eq_true_eq]
          exact eq_of_prefix hne rfl he.out
        have HF := hide hF
        clear hF hlt
        go_wp2
        go_ret
        exact ⟨ret_bool HF.out.symm, hb⟩
  · have hb1 : ((xs.length : Int) != (ys.length : Int)) = true := by simp; omega
    have hF : decide (xs = ys) = false := by
      simp only [decide_eq_false_iff_not]
      intro e
      exact hne (by rw [e])
    have HF := hide hF
    clear hF
    go_enter Tryd.func6, Tryd.ntmps6
    go_wp2
    go_ret
    exact ⟨ret_bool HF.out.symm, Below.refl _ _⟩

theorem equalInts_same (A A' : Option Addr) (xs : List Int) (c c' : Nat) (w : World) (h : IntsAt w w.heap.size A xs) (h' : IntsAt w w.heap.size A' xs) :
    Calls Tryd.prog 6 #[.slice A xs.length c, .slice A' xs.length c'] w fun e w' => e = .returned (.bool true) ∧ Below w.heap.size w w' :=
  (equalInts_any A A' xs xs c c' w h h').mono fun e w' ⟨he, hb⟩ => ⟨by rw [he]; simp, hb⟩

end Go.Proofs.YtckodifdbephgabDoor

namespace Go.Proofs.YtckodifdbephgabDoor
open Go.RowKit

theorem OpsAt.begin {w : World} {B : Nat} {A : Option Addr} {os : List Od} (h : OpsAt w B A os) (n : Nat) : OpsAt w B A (os.take n) := by
  refine ⟨fun hx => ?_, fun x hx => h.wf x (List.mem_of_mem_take hx), Nat.le_trans (by simp; omega) h.len⟩
  obtain ⟨b, off, e, hlt, hc⟩ := h.row (by intro e; subst e; simp at hx)
  refine ⟨b, off, e, hlt, fun j x hj => hc j x ?_⟩
  rw [List.getElem?_take] at hj
  split at hj
  · exact hj
  · cases hj

theorem OpsAt.behind {w : World} {B b off : Nat} {os : List Od} (h : OpsAt w B (some ⟨b, off, none⟩) os) (k : Nat) : OpsAt w B (some ⟨b, off + k * 2, none⟩) (os.drop k) := by
  refine ⟨fun hx => ?_, fun x hx => h.wf x (List.mem_of_mem_drop hx), Nat.le_trans (by simp) h.len⟩
  obtain ⟨b', off', e, hlt, hc⟩ := h.row (by intro e; subst e; simp at hx)
  injection e with e
  injection e with e1 e2
  subst e1 e2
  refine ⟨b, off + k * 2, rfl, hlt, fun j x hj => ?_⟩
  rw [List.getElem?_drop] at hj
  have := hc (k + j) x hj
  have e : off + (k + j) * 2 = off + k * 2 + j * 2 := by omega
  rwa [e] at this

end Go.Proofs.YtckodifdbephgabDoor

namespace Go.Proofs.YtckodifdbephgabDoor
open Go.ChangeShapes Go.WideShapes Go.ChangeAt Go.RowKit Go.Deep
set_option linter.unusedVariables false

theorem readCellsB : Tryd.prog.cellsOf 5 = 1 := by kernel_rfl
theorem readOwnB : ownKnob Tryd.prog.godebug = none := by kernel_rfl
theorem readLaidB : laidOutB Tryd.prog = true := by kernel_rfl

theorem addr_add_b (b off j : Nat) : (⟨b, off, none⟩ : Addr).add j = ⟨b, off + j, none⟩ := by
  unfold Addr.add
  split
  · rename_i h0; subst h0; rfl
  · rfl

/-- a slice of bytes that came in -/
theorem read_bytes {H : Type} {enc : TypeId × Value → H} {w : World} {base : Nat} {spare : Nat → Bool} {held : Bool} {m : Nat} {v : Value} {y : DataW H × List MemPlace} (h : DataW.trod enc Tryd.prog w base spare held m 22 [v] = some y) :
    ∃ (A : Option Addr) (n c : Nat), v = .slice A n c ∧ BytesAt w w.heap.size A n ∧ n ≤ c ∧ n ≤ 9223372036854775807 := by
  rcases open_ints Tryd.underlying22 Tryd.underlying5 readCellsB h with ⟨hcs, _⟩ | ⟨a, len, cap, zs, hcs, _, hl, hm, hz, _, hcell, hwz⟩
  · simp at hcs
    subst hcs
    exact ⟨none, 0, 0, rfl, fun k hk => absurd hk (by omega), Nat.le_refl _, by omega⟩
  · simp at hcs
    subst hcs
    have hzl : len ≤ zs.length := by rw [hz]; split <;> omega
    refine ⟨some a, len, cap, rfl, fun k hk => ?_, hl, by unfold maxLen at hm; omega⟩
    have hz0 := hcell 0 (by omega)
    have hc0 := hcell k (by omega)
    obtain ⟨b, off, sp⟩ := a
    have hsp : sp = none := by simpa [Addr.add] using World.cell?_spot hz0
    subst hsp
    rw [addr_add_b] at hc0
    have hb := range_u8 hwz k
    rw [List.getD_eq_getElem?_getD] at hc0
    obtain ⟨x, hx⟩ := Int.eq_ofNat_of_zero_le hb.1
    refine ⟨b, off, x, rfl, World.block_lt_of_cell? w _ hc0, ?_, by omega⟩
    rw [hc0, hx]

end Go.Proofs.YtckodifdbephgabDoor
