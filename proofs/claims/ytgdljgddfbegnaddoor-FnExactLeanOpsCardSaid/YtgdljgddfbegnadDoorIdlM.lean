/-
  Orders that put what is never got. Plain lemmas, no walk.
-/
import Derived.Test.YtgdljgddfbegnadDoorOpOk
namespace Go.Proofs.YtgdljgddfbegnadDoor
set_option linter.unusedVariables false

/-- whether what lies at the place p is got before it is put again -/
def gotIn : List Od → Int → Bool
  | [], _ => false
  | o :: os, p => if o.arg = p ∧ o.code = 16 then true else if o.arg = p ∧ o.code = 15 then false else gotIn os p

/-- whether the order number i puts what is never got -/
def idleAt (os : List Od) (i : Nat) : Bool :=
  match os[i]? with
  | none => false
  | some o => decide (o.code = 15) && !gotIn (os.drop (i + 1)) o.arg

theorem gotIn_get {os : List Od} {j : Nat} {o : Od} (h : os[j]? = some o) (h1 : o.code = 16) (p : Int) : gotIn (os.drop j) p = if o.arg = p then true else gotIn (os.drop (j + 1)) p := by
  rw [drop_at h]
  show (if o.arg = p ∧ o.code = 16 then true else if o.arg = p ∧ o.code = 15 then false else gotIn (os.drop (j + 1)) p) = _
  by_cases e : o.arg = p
  · rw [if_pos ⟨e, h1⟩, if_pos e]
  · rw [if_neg (fun x => e x.1), if_neg (fun x => e x.1), if_neg e]
theorem gotIn_put {os : List Od} {j : Nat} {o : Od} (h : os[j]? = some o) (h1 : o.code = 15) (p : Int) : gotIn (os.drop j) p = if o.arg = p then false else gotIn (os.drop (j + 1)) p := by
  rw [drop_at h]
  show (if o.arg = p ∧ o.code = 16 then true else if o.arg = p ∧ o.code = 15 then false else gotIn (os.drop (j + 1)) p) = _
  by_cases e : o.arg = p
  · rw [if_neg (fun x => by have := x.2; omega), if_pos ⟨e, h1⟩, if_pos e]
  · rw [if_neg (fun x => e x.1), if_neg (fun x => e x.1), if_neg e]
theorem gotIn_other {os : List Od} {j : Nat} {o : Od} (h : os[j]? = some o) (h1 : o.code ≠ 16) (h2 : o.code ≠ 15) (p : Int) : gotIn (os.drop j) p = gotIn (os.drop (j + 1)) p := by
  rw [drop_at h]
  show (if o.arg = p ∧ o.code = 16 then true else if o.arg = p ∧ o.code = 15 then false else gotIn (os.drop (j + 1)) p) = _
  rw [if_neg (fun x => h1 x.2), if_neg (fun x => h2 x.2)]
theorem gotIn_far {os : List Od} {j : Nat} {o : Od} (h : os[j]? = some o) {p : Int} (h1 : o.arg ≠ p) : gotIn (os.drop j) p = gotIn (os.drop (j + 1)) p := by
  rw [drop_at h]
  show (if o.arg = p ∧ o.code = 16 then true else if o.arg = p ∧ o.code = 15 then false else gotIn (os.drop (j + 1)) p) = _
  rw [if_neg (fun x => h1 x.1), if_neg (fun x => h1 x.1)]
theorem gotIn_end (os : List Od) (p : Int) : gotIn (os.drop os.length) p = false := by simp [gotIn]

theorem idleAt_put {os : List Od} {j : Nat} {o : Od} (h : os[j]? = some o) (h1 : o.code = 15) : idleAt os j = !gotIn (os.drop (j + 1)) o.arg := by
  unfold idleAt
  rw [h]
  simp [h1]
theorem idleAt_no {os : List Od} {j : Nat} {o : Od} (h : os[j]? = some o) (h1 : o.code ≠ 15) : idleAt os j = false := by
  unfold idleAt
  rw [h]
  simp [h1]

/-- the numbers of such orders among the first k -/
def idlesTo (os : List Od) (k : Nat) : List Int := ((List.range k).filter (idleAt os)).map fun (i : Nat) => (i : Int)

theorem idlesTo_zero (os : List Od) : idlesTo os 0 = [] := by simp [idlesTo]
theorem idlesTo_yes {os : List Od} {k : Nat} (h : idleAt os k = true) : idlesTo os (k + 1) = idlesTo os k ++ [(k : Int)] := by
  unfold idlesTo
  rw [List.range_succ, List.filter_append]
  simp [h]
theorem idlesTo_no {os : List Od} {k : Nat} (h : idleAt os k = false) : idlesTo os (k + 1) = idlesTo os k := by
  unfold idlesTo
  rw [List.range_succ, List.filter_append]
  simp [h]
theorem idlesTo_len (os : List Od) (k : Nat) : (idlesTo os k).length ≤ k := by
  unfold idlesTo
  rw [List.length_map]
  exact Nat.le_trans (List.length_filter_le _ _) (by simp)
theorem idlesTo_64 {os : List Od} {k : Nat} (h : k ≤ 300) : ∀ x ∈ idlesTo os k, In64 x := by
  intro x hx
  obtain ⟨i, hi, rfl⟩ := List.mem_map.1 hx
  have := List.mem_range.1 (List.mem_filter.1 hi).1
  constructor <;> omega

open Classical in
noncomputable def idlesOf (os : List Od) : List Int := if OpsOk os then idlesTo os os.length else []

theorem idlesOf_ok {os : List Od} (h : OpsOk os) : idlesOf os = idlesTo os os.length := by unfold idlesOf; rw [if_pos h]
theorem idlesOf_no {os : List Od} (h : ¬ OpsOk os) : idlesOf os = [] := by unfold idlesOf; rw [if_neg h]

theorem idlesOf_few {os : List Od} : (idlesOf os).length ≤ 300 := by
  unfold idlesOf
  split
  next h => exact Nat.le_trans (idlesTo_len _ _) h.1
  next => simp

theorem idlesOf_64 {os : List Od} : ∀ x ∈ idlesOf os, In64 x := by
  unfold idlesOf
  split
  next h => exact idlesTo_64 h.1
  next => simp

/-- what is put or got has a place -/
theorem OdOk.place {o : Od} (h : OdOk o) (h1 : o.code = 15 ∨ o.code = 16) : 0 ≤ o.arg ∧ o.arg ≤ 19 := by
  have hm : argMost o.code = 19 := by
    rcases h1 with h1 | h1 <;> rw [h1] <;> rfl
  rcases h.2 with ⟨h2, _⟩ | ⟨_, h2, h3⟩ <;> omega

end Go.Proofs.YtgdljgddfbegnadDoor
