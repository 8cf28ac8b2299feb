/-
  Lemmas, several texts in one: WFr, ShpM, CutM, SpecO, RuX.
-/
import Derived.Test.YtochdhibmmohfacPjAa
import Derived.Test.YtochdhibmmohfacShpMa
import Derived.Test.YtochdhibmmohfacShpMb
import Derived.Test.YtochdhibmmohfacShpMc
import Derived.Test.YtochdhibmmohfacShpMd
import Derived.Test.YtochdhibmmohfacPjAc
import Derived.Test.YtochdhibmmohfacPjAe
import Derived.Test.YtochdhibmmohfacPjAg
namespace Go.Proofs.Ytochdhibmmohfac
open Go.RowKit
set_option linter.unusedVariables false

/-- nothing that was there has changed but what lies in the blocks D -/
structure WFr (w w' : World) (D : Nat → Prop) : Prop where
  os : w'.os = w.os
  tape : w'.tape = w.tape
  output : w'.output = w.output
  size : w.heap.size ≤ w'.heap.size
  blk : ∀ k, k < w.heap.size → ¬ D k → w'.heap[k]? = w.heap[k]?

theorem WFr.refl (w : World) (D : Nat → Prop) : WFr w w D := ⟨rfl, rfl, rfl, Nat.le_refl _, fun _ _ _ => rfl⟩
theorem WFr.of_below {w w' : World} (D : Nat → Prop) (h : Below w.heap.size w w') : WFr w w' D := ⟨h.os, h.tape, h.output, h.size, fun k hk _ => h.block k hk⟩
theorem WFr.below {w w' : World} (h : WFr w w' (fun _ => False)) : Below w.heap.size w w' := ⟨h.os, h.tape, h.output, h.size, fun k hk => h.blk k hk (fun h => h)⟩

end Go.Proofs.Ytochdhibmmohfac

namespace Go.Proofs.Ytochdhibmmohfac
open Go.RowKit

theorem markShapes_any (p : ShPtr) (s : Shp) (c : Int) (base : Nat) (w : World) (h : ShOwn w base p s) (hbase : base ≤ w.heap.size) (hs : s.Small) (hc : IsMarkOp c) :
    Calls Try.prog 33 #[shVal p s, .int .i64 c] w (TriesSh w p base (markStep s c)) := by
  rcases hc with rfl | rfl | rfl | rfl
  · exact markShapes_3 p s base w h hbase hs
  · exact markShapes_9 p s base w h hbase hs
  · exact markShapes_12 p s base w h hbase hs
  · exact markShapes_18 p s base w h hbase hs

end Go.Proofs.Ytochdhibmmohfac

namespace Go.Proofs.Ytochdhibmmohfac
set_option linter.unusedVariables false

open Classical in
/-- what CutOps returns -/
noncomputable def cutOf (os : List Od) : List Od := if OpsOk os then os.take (runShp Shp.new os).2 else []
theorem cutOf_ok {os : List Od} (h : OpsOk os) : cutOf os = os.take (runShp Shp.new os).2 := by unfold cutOf; rw [if_pos h]
theorem cutOf_no {os : List Od} (h : ¬ OpsOk os) : cutOf os = [] := by unfold cutOf; rw [if_neg h]

theorem runNew_le {os : List Od} (h : ∀ o ∈ os, OdOk o) : (runShp Shp.new os).1.Ok ∧ (runShp Shp.new os).1.Fits ∧ (runShp Shp.new os).2 ≤ os.length :=
  runShp_ok Shp.new_ok ⟨by simp [Shp.new], by simp [Shp.new]⟩ (fun o ho => (h o ho).get)

theorem cutOf_few {os : List Od} : (cutOf os).length ≤ 300 := by
  by_cases h : OpsOk os
  · rw [cutOf_ok h]
    have := h.1
    simp only [List.length_take]
    omega
  · rw [cutOf_no h]; simp
theorem cutOf_mem {os : List Od} : ∀ o ∈ cutOf os, OdOk o := by
  by_cases h : OpsOk os
  · rw [cutOf_ok h]
    exact fun o ho => h.2 o (List.mem_of_mem_take ho)
  · rw [cutOf_no h]; intro o ho; cases ho

/-- how many marks are among the first k things of a stack -/
def negs (l : List Int) : Nat → Nat
  | 0 => 0
  | k + 1 => negs l k + (if l.getD k 0 < 0 then 1 else 0)
theorem negs_le (l : List Int) (k : Nat) : negs l k ≤ k := by
  induction k with
  | zero => exact Nat.le_refl _
  | succ k ih => unfold negs; split <;> omega

/-- how many things lie below the first mark -/
def free : List Int → Nat
  | [] => 0
  | x :: l => if 0 ≤ x then free l + 1 else 0
theorem free_le (l : List Int) : free l ≤ l.length := by
  induction l with
  | nil => exact Nat.le_refl _
  | cons x l ih => unfold free; split <;> simp only [List.length_cons] <;> omega
theorem free_at {l : List Int} {k : Nat} (h : k < free l) : 0 ≤ l.getD k 0 := by
  induction l generalizing k with
  | nil => simp [free] at h
  | cons x l ih =>
    unfold free at h
    split at h
    · cases k with
      | zero => simpa
      | succ k => simpa using ih (k := k) (by omega)
    · omega
theorem free_stop {l : List Int} (h : free l < l.length) : l.getD (free l) 0 < 0 := by
  induction l with
  | nil => simp at h
  | cons x l ih =>
    unfold free at h ⊢
    split
    · next hx =>
      rw [if_pos hx] at h
      simpa using ih (by simpa using h)
    · next hx => simp; omega

/-- the orders that end a program behind which things lie on the stack -/
def tailOps (l : List Int) : List Od :=
  List.replicate (negs l l.length) ⟨3, 0⟩ ++ List.replicate (free l + (if 0 < negs l l.length then 1 else 0) - 1) ⟨6, 0⟩ ++
    (if free l + (if 0 < negs l l.length then 1 else 0) = 0 then [⟨4, 0⟩] else []) ++ [⟨19, 0⟩]

theorem od_fix {c : Int} (h0 : 0 ≤ c) (h1 : c ≤ 19) (h : argMost c < 0) : OdOk ⟨c, 0⟩ := ⟨⟨h0, h1⟩, .inl ⟨h, rfl⟩⟩

theorem od_64 {o : Od} (h : OdOk o) : (-9223372036854775808 ≤ o.code ∧ o.code ≤ 9223372036854775807) ∧ (-9223372036854775808 ≤ o.arg ∧ o.arg ≤ 9223372036854775807) := by
  obtain ⟨h1, h2⟩ := h
  have := argMost_range o.code
  constructor <;> constructor <;> omega

theorem tailOps_mem (l : List Int) : ∀ o ∈ tailOps l, OdOk o := by
  have h3 : OdOk ⟨3, 0⟩ := od_fix (by omega) (by omega) (by simp [argMost])
  have h6 : OdOk ⟨6, 0⟩ := od_fix (by omega) (by omega) (by simp [argMost])
  have h4 : OdOk ⟨4, 0⟩ := od_fix (by omega) (by omega) (by simp [argMost])
  have h19 : OdOk ⟨19, 0⟩ := od_fix (by omega) (by omega) (by simp [argMost])
  intro o ho
  unfold tailOps at ho
  rcases List.mem_append.1 ho with ho | ho
  · rcases List.mem_append.1 ho with ho | ho
    · rcases List.mem_append.1 ho with ho | ho
      · rw [List.eq_of_mem_replicate ho]; exact h3
      · rw [List.eq_of_mem_replicate ho]; exact h6
    · by_cases hc : free l + (if 0 < negs l l.length then 1 else 0) = 0
      · rw [if_pos hc] at ho
        rw [List.mem_singleton.1 ho]; exact h4
      · rw [if_neg hc] at ho; cases ho
  · rw [List.mem_singleton.1 ho]; exact h19

theorem tail_a {st : List Int} {m k : Nat} (hm : m = negs st st.length) (hk : k = free st) (h0 : 0 < m) : tailOps st = (List.replicate m ⟨3, 0⟩ ++ List.replicate (k + 1 - 1) ⟨6, 0⟩) ++ [⟨19, 0⟩] := by
  unfold tailOps
  rw [← hm, ← hk, if_pos h0, if_neg (by omega), List.append_nil]
theorem tail_b {st : List Int} {m k : Nat} (hm : m = negs st st.length) (hk : k = free st) (h0 : ¬ 0 < m) (hk0 : ¬ k = 0) : tailOps st = (List.replicate m ⟨3, 0⟩ ++ List.replicate (k - 1) ⟨6, 0⟩) ++ [⟨19, 0⟩] := by
  unfold tailOps
  rw [← hm, ← hk, if_neg h0, if_neg (by omega), List.append_nil, Nat.add_zero]
theorem tail_c {st : List Int} {m : Nat} (hm : m = negs st st.length) (hk : 0 = free st) (h0 : ¬ 0 < m) : tailOps st = (List.replicate m ⟨3, 0⟩ ++ List.replicate (0 - 1) ⟨6, 0⟩ ++ [⟨4, 0⟩]) ++ [⟨19, 0⟩] := by
  unfold tailOps
  rw [← hm, ← hk, if_neg h0, if_pos (by omega), Nat.add_zero]

theorem tailOps_len (l : List Int) : (tailOps l).length ≤ 2 * l.length + 3 := by
  have h1 := negs_le l l.length
  have h2 := free_le l
  unfold tailOps
  simp only [List.length_append, List.length_replicate]
  split <;> split <;> simp <;> omega

open Classical in
/-- what EndOps returns -/
noncomputable def endOf (os : List Od) : Option (List Od) :=
  if OpsOk os then
    if (runShp Shp.new os).1.done = true then some []
    else if OpsOk (os.take (runShp Shp.new os).2 ++ tailOps (runShp Shp.new os).1.stack) ∧ (runShp Shp.new (os.take (runShp Shp.new os).2 ++ tailOps (runShp Shp.new os).1.stack)).2 = (os.take (runShp Shp.new os).2 ++ tailOps (runShp Shp.new os).1.stack).length then some (tailOps (runShp Shp.new os).1.stack)
    else none
  else none

end Go.Proofs.Ytochdhibmmohfac

namespace Go.Proofs.Ytochdhibmmohfac
open Go.RowKit
set_option linter.unusedVariables false

set_option maxHeartbeats 1000000 in
theorem specValidOps_any (A : Option Addr) (os : List Od) (c : Nat) (w : World) (h : OpsAt w w.heap.size A os) :
    Calls Try.prog 26 #[.slice A os.length c] w fun e w' => e = .returned (.bool (tf (OpsOk os))) ∧ Below w.heap.size w w' := by
  have hl := h.len
  go_enter Try.func26, Try.ntmps26
  go_wp2_with fail
  go_loopw [3] (fun i wr => ∃ k : Nat, k ≤ os.length ∧ i = .int .i64 k ∧ Below w.heap.size w wr ∧ ∀ j x, j < k → os[j]? = some x → OdOk x) (fun i _ => os.length - (intOf i).toNat)
  case atStart => exact ⟨0, Nat.zero_le _, rfl, Below.refl _ _, fun j _ hj => absurd hj (by omega)⟩
  case round =>
    obtain ⟨k, hk, rfl, hb, he0⟩ := hrel
    have he := hide he0
    clear he0
    by_cases hlt : k < os.length
    · obtain ⟨b, off, x, rfl, hbl, hx, hmem, hc0, hc1⟩ := (h.below hb).at_ hlt
      have Hx := hide hx
      clear hx
      by_cases hin : OdOk x
      · have He : Hid (∀ j y, j < k + 1 → os[j]? = some y → OdOk y) := by
          intro j y hj hy
          by_cases e : j = k
          · subst e
            have := Hx.out.symm.trans hy
            injection this with this
            subst this
            exact hin
          · exact he.out j y (by omega) hy
        have ht := hide (show tf (OdOk x) = true from tf_true hin)
        clear he hmem hin
        go_wp2_with fail
        refine (validOp_any x _).mono ?_
        rintro e w' ⟨rfl, hb2⟩
        rw [ht.out]
        go_wp2
        go_roundw
        case rel => exact ⟨k + 1, by omega, by go_num, hb.trans (hb2.mono hb.size), He.out⟩
        case measure => simp [intOf]; omega
      · have HF := hide (show tf (OpsOk os) = false from tf_false fun hall => hin (hall.2 x hmem))
        have ht := hide (show tf (OdOk x) = false from tf_false hin)
        clear he hmem hin
        go_wp2_with fail
        refine (validOp_any x _).mono ?_
        rintro e w' ⟨rfl, hb2⟩
        rw [ht.out]
        go_wp2
        go_ret
        exact ⟨ret_bool HF.out.symm, hb.trans (hb2.mono hb.size)⟩
    · obtain rfl : k = os.length := by omega
      have hall : ∀ x ∈ os, OdOk x := fun x hx => by
        obtain ⟨j, hj, rfl⟩ := List.getElem_of_mem hx
        exact he.out j _ hj (List.getElem?_eq_getElem hj)
      by_cases h3 : os.length ≤ 300
      · have HF := hide (show tf (OpsOk os) = true from tf_true ⟨h3, hall⟩)
        have d : decide ((os.length : Int) ≤ 300) = true := by simp; omega
        clear hlt hall
        go_wp2
        go_ret
        exact ⟨ret_bool HF.out.symm, hb⟩
      · have HF := hide (show tf (OpsOk os) = false from tf_false fun hh => h3 hh.1)
        have d : decide ((os.length : Int) ≤ 300) = false := by simp; omega
        clear hlt hall
        go_wp2
        go_ret
        exact ⟨ret_bool HF.out.symm, hb⟩

end Go.Proofs.Ytochdhibmmohfac

namespace Go.Proofs.Ytochdhibmmohfac
open Go.RowKit
set_option linter.unusedVariables false

set_option maxHeartbeats 400000 in
theorem specValidRulesX_any (A : Option Addr) (r : Ru) (c : Nat) (w : World) (h : RuAt w w.heap.size A r) (hl : r.cls.length ≤ 1048576) (hcap : r.cls.length ≤ c) :
    Calls Try.prog 6 #[ruVal r A c] w fun e w' => e = .returned (.bool (tf (RuOk r))) ∧ Below w.heap.size w w' := by
  have hB : Below w.heap.size w (w.alloc (.cells (ruCells r A c) 25)) := (Below.refl _ _).alloc (Nat.le_refl _) _
  have hr2 := h.later hB (Nat.le_refl _)
  have HC := hide fun W (hW : RuAt W W.heap.size A r) => specValid_any A r c W hW hl hcap
  obtain ⟨b, hb⟩ : ∃ b, tf (RuOk r) = b := ⟨_, rfl⟩
  rw [hb] at HC ⊢
  unfold ruVal at *
  unfold ruCells at *
  go_enter Try.func6, Try.ntmps6
  go_wp2_with fail
  refine (HC.out _ hr2).mono ?_
  rintro e w' ⟨rfl, hb⟩
  go_wp2
  go_ret
  exact ⟨rfl, hB.trans (hb.mono hB.size)⟩

end Go.Proofs.Ytochdhibmmohfac
