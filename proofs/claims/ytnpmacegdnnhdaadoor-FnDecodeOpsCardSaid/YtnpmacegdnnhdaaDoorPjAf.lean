/-
  Lemmas, several texts in one: InfoO, ShpM, CutM, Bof, HasA, ApA, EqI, FrM, DecM, VB, DecN.
-/
import Derived.Test.YtnpmacegdnnhdaaDoorPjAa
import Derived.Test.YtnpmacegdnnhdaaDoorShpMa
import Derived.Test.YtnpmacegdnnhdaaDoorShpMb
import Derived.Test.YtnpmacegdnnhdaaDoorShpMc
import Derived.Test.YtnpmacegdnnhdaaDoorShpMd
import Derived.Test.YtnpmacegdnnhdaaDoorPjAb
import Derived.Test.YtnpmacegdnnhdaaDoorPjAe
namespace Go.Proofs.YtnpmacegdnnhdaaDoor
theorem infoOp : (Tryd.prog.info? 40).map (fun i => (i.zero, i.size, i.bytes)) = some (some (.agg #[.int .i64 0, .int .i64 0]), 2, 16) := by kernel_rfl
end Go.Proofs.YtnpmacegdnnhdaaDoor

namespace Go.Proofs.YtnpmacegdnnhdaaDoor
open Go.RowKit
theorem markShapes_any (p : ShPtr) (s : Shp) (c : Int) (base : Nat) (w : World) (h : ShOwn w base p s) (hbase : base ≤ w.heap.size) (hs : s.Small) (hc : IsMarkOp c) :
    Calls Tryd.prog 49 #[shVal p s, .int .i64 c] w (TriesSh w p base (markStep s c)) := by
  rcases hc with rfl | rfl | rfl | rfl
  · exact markShapes_3 p s base w h hbase hs
  · exact markShapes_9 p s base w h hbase hs
  · exact markShapes_12 p s base w h hbase hs
  · exact markShapes_18 p s base w h hbase hs
end Go.Proofs.YtnpmacegdnnhdaaDoor

namespace Go.Proofs.YtnpmacegdnnhdaaDoor
set_option linter.unusedVariables false
open Classical in
noncomputable def cutOf (os : List Od) : List Od := if OpsOk os then os.take (runShp Shp.new os).2 else []
theorem cutOf_ok {os : List Od} (h : OpsOk os) : cutOf os = os.take (runShp Shp.new os).2 := by unfold cutOf; rw [if_pos h]
theorem cutOf_no {os : List Od} (h : ¬ OpsOk os) : cutOf os = [] := by unfold cutOf; rw [if_neg h]
theorem runNew_le {os : List Od} (h : ∀ o ∈ os, OdOk o) : (runShp Shp.new os).1.Ok ∧ (runShp Shp.new os).1.Fits ∧ (runShp Shp.new os).2 ≤ os.length :=
  runShp_ok Shp.new_ok ⟨by simp [Shp.new], by simp [Shp.new]⟩ (fun o ho => (h o ho).get)
theorem cutOf_few {os : List Od} : (cutOf os).length ≤ 300 := by
  by_cases h : OpsOk os
  · rw [cutOf_ok h]
    have := h.1
    simp only [List.length_take]
    omega
  · rw [cutOf_no h]; simp
theorem cutOf_mem {os : List Od} : ∀ o ∈ cutOf os, OdOk o := by
  by_cases h : OpsOk os
  · rw [cutOf_ok h]
    exact fun o ho => h.2 o (List.mem_of_mem_take ho)
  · rw [cutOf_no h]; intro o ho; cases ho
def negs (l : List Int) : Nat → Nat
  | 0 => 0
  | k + 1 => negs l k + (if l.getD k 0 < 0 then 1 else 0)
theorem negs_le (l : List Int) (k : Nat) : negs l k ≤ k := by
  induction k with
  | zero => exact Nat.le_refl _
  | succ k ih => unfold negs; split <;> omega
def free : List Int → Nat
  | [] => 0
  | x :: l => if 0 ≤ x then free l + 1 else 0
theorem free_le (l : List Int) : free l ≤ l.length := by
  induction l with
  | nil => exact Nat.le_refl _
  | cons x l ih => unfold free; split <;> simp only [List.length_cons] <;> omega
theorem free_at {l : List Int} {k : Nat} (h : k < free l) : 0 ≤ l.getD k 0 := by
  induction l generalizing k with
  | nil => simp [free] at h
  | cons x l ih =>
    unfold free at h
    split at h
    · cases k with
      | zero => simpa
      | succ k => simpa using ih (k := k) (by omega)
    · omega
theorem free_stop {l : List Int} (h : free l < l.length) : l.getD (free l) 0 < 0 := by
  induction l with
  | nil => simp at h
  | cons x l ih =>
    unfold free at h ⊢
    split
    · next hx =>
      rw [if_pos hx] at h
      simpa using ih (by simpa using h)
    · next hx => simp; omega
def tailOps (l : List Int) : List Od :=
  List.replicate (negs l l.length) ⟨3, 0⟩ ++ List.replicate (free l + (if 0 < negs l l.length then 1 else 0) - 1) ⟨6, 0⟩ ++
    (if free l + (if 0 < negs l l.length then 1 else 0) = 0 then [⟨4, 0⟩] else []) ++ [⟨19, 0⟩]
theorem od_fix {c : Int} (h0 : 0 ≤ c) (h1 : c ≤ 19) (h : argMost c < 0) : OdOk ⟨c, 0⟩ := ⟨⟨h0, h1⟩, .inl ⟨h, rfl⟩⟩
theorem od_64 {o : Od} (h : OdOk o) : (-9223372036854775808 ≤ o.code ∧ o.code ≤ 9223372036854775807) ∧ (-9223372036854775808 ≤ o.arg ∧ o.arg ≤ 9223372036854775807) := by
  obtain ⟨h1, h2⟩ := h
  have := argMost_range o.code
  constructor <;> constructor <;> omega
theorem tailOps_mem (l : List Int) : ∀ o ∈ tailOps l, OdOk o := by
  have h3 : OdOk ⟨3, 0⟩ := od_fix (by omega) (by omega) (by simp [argMost])
  have h6 : OdOk ⟨6, 0⟩ := od_fix (by omega) (by omega) (by simp [argMost])
  have h4 : OdOk ⟨4, 0⟩ := od_fix (by omega) (by omega) (by simp [argMost])
  have h19 : OdOk ⟨19, 0⟩ := od_fix (by omega) (by omega) (by simp [argMost])
  intro o ho
  unfold tailOps at ho
  rcases List.mem_append.1 ho with ho | ho
  · rcases List.mem_append.1 ho with ho | ho
    · rcases List.mem_append.1 ho with ho | ho
      · rw [List.eq_of_mem_replicate ho]; exact h3
      · rw [List.eq_of_mem_replicate ho]; exact h6
    · by_cases hc : free l + (if 0 < negs l l.length then 1 else 0) = 0
      · rw [if_pos hc] at ho
        rw [List.mem_singleton.1 ho]; exact h4
      · rw [if_neg hc] at ho; cases ho
  · rw [List.mem_singleton.1 ho]; exact h19
theorem tail_a {st : List Int} {m k : Nat} (hm : m = negs st st.length) (hk : k = free st) (h0 : 0 < m) : tailOps st = (List.replicate m ⟨3, 0⟩ ++ List.replicate (k + 1 - 1) ⟨6, 0⟩) ++ [⟨19, 0⟩] := by
  unfold tailOps
  rw [← hm, ← hk, if_pos h0, if_neg (by omega), List.append_nil]
theorem tail_b {st : List Int} {m k : Nat} (hm : m = negs st st.length) (hk : k = free st) (h0 : ¬ 0 < m) (hk0 : ¬ k = 0) : tailOps st = (List.replicate m ⟨3, 0⟩ ++ List.replicate (k - 1) ⟨6, 0⟩) ++ [⟨19, 0⟩] := by
  unfold tailOps
  rw [← hm, ← hk, if_neg h0, if_neg (by omega), List.append_nil, Nat.add_zero]
theorem tail_c {st : List Int} {m : Nat} (hm : m = negs st st.length) (hk : 0 = free st) (h0 : ¬ 0 < m) : tailOps st = (List.replicate m ⟨3, 0⟩ ++ List.replicate (0 - 1) ⟨6, 0⟩ ++ [⟨4, 0⟩]) ++ [⟨19, 0⟩] := by
  unfold tailOps
  rw [← hm, ← hk, if_neg h0, if_pos (by omega), Nat.add_zero]
theorem tailOps_len (l : List Int) : (tailOps l).length ≤ 2 * l.length + 3 := by
  have h1 := negs_le l l.length
  have h2 := free_le l
  unfold tailOps
  simp only [List.length_append, List.length_replicate]
  split <;> split <;> simp <;> omega
open Classical in
noncomputable def endOf (os : List Od) : Option (List Od) :=
  if OpsOk os then
    if (runShp Shp.new os).1.done = true then some []
    else if OpsOk (os.take (runShp Shp.new os).2 ++ tailOps (runShp Shp.new os).1.stack) ∧ (runShp Shp.new (os.take (runShp Shp.new os).2 ++ tailOps (runShp Shp.new os).1.stack)).2 = (os.take (runShp Shp.new os).2 ++ tailOps (runShp Shp.new os).1.stack).length then some (tailOps (runShp Shp.new os).1.stack)
    else none
  else none
end Go.Proofs.YtnpmacegdnnhdaaDoor

namespace Go.Proofs.YtnpmacegdnnhdaaDoor
open Go.RowKit
set_option linter.unusedVariables false
def GivesRead (w : World) (ys : List Int) (e : Ending) (w' : World) : Prop := ∃ A c, e = .returned (.slice A ys.length c) ∧ (A = none → c = 0) ∧ IntsAt w' w'.heap.size A ys ∧ Below w.heap.size w w'
theorem GivesRead.lit {w w' : World} {e : Ending} (ys : List Int) (h64 : ∀ x ∈ ys, In64 x) (hl : ys.length ≤ 1048576) (W : World) (he : e = .returned (.slice (some ⟨W.heap.size, 0, none⟩) ys.length ys.length))
    (hw : w' = W.alloc (.cells (ys.map (Value.int .i64)).toArray 3)) (hb : Below w.heap.size w W) : GivesRead w ys e w' := by
  subst hw
  exact ⟨_, _, he, (fun e => by cases e), (IntsAt.lit W ys h64 hl).more (by simp), hb.alloc hb.size _⟩
set_option maxHeartbeats 1000000 in
theorem bytesOf_any (o : Od) (w : World) (ho : OdOk o) :
    Calls Tryd.prog 33 #[.agg #[.int .i64 o.code, .int .i64 o.arg]] w (GivesRead w (encO o)) := by
  have hb := encO_byte ho
  have H64 := hide (fun x hx => (by have := hb x hx; constructor <;> omega : In64 x))
  have hbel := hide (show Below w.heap.size w (w.alloc (.cells #[.int .i64 o.code, .int .i64 o.arg] 40)) from (Below.refl _ _).alloc (Nat.le_refl _) _)
  obtain ⟨⟨hc1, hc2⟩, ha⟩ := ho
  have hm := argMost_range o.code
  have l1 := Lies.new w #[.int .i64 o.code, .int .i64 o.arg] 40
  by_cases hneg : argMost o.code < 0
  · rw [encO_bare hneg] at H64 ⊢
    clear hb ha
    go_enter Tryd.func33, Tryd.ntmps33
    go_wp2_with fail
    refine (argOf_any o.code _).mono ?_
    rintro e w' ⟨rfl, rfl⟩
    generalize argMost o.code = M at hneg hm ⊢
    have d : decide (M < 0) = true := by simpa using hneg
    generalize hW : w.alloc (.cells #[.int .i64 o.code, .int .i64 o.arg] 40) = W at hbel l1 ⊢
    clear hW
    have x0 := l1.cell 0
    have x1 := l1.cell 1
    simp at x0 x1
    go_wp2
    go_ret
    exact GivesRead.lit _ H64.out (by simp) W rfl rfl hbel.out
  · have ha' : 0 ≤ o.arg ∧ o.arg ≤ 999 := by omega
    obtain ⟨ha1, ha2⟩ := ha'
    have Hneg := hide hneg
    rw [encO_arg hneg] at H64 ⊢
    by_cases hs : o.arg < 128
    · rw [encA_short hs] at H64 ⊢
      have d2 : decide (o.arg < 128) = true := by simpa using hs
      clear hb ha
      go_enter Tryd.func33, Tryd.ntmps33
      go_wp2_with fail
      refine (argOf_any o.code _).mono ?_
      rintro e w' ⟨rfl, rfl⟩
      generalize argMost o.code = M at hneg hm ⊢
      have d : decide (M < 0) = false := by simpa using hneg
      generalize hW : w.alloc (.cells #[.int .i64 o.code, .int .i64 o.arg] 40) = W at hbel l1 ⊢
      clear hW
      have x0 := l1.cell 0
      have x1 := l1.cell 1
      simp at x0 x1
      go_wp2
      go_ret
      exact GivesRead.lit _ H64.out (by simp) W rfl rfl hbel.out
    · rw [encA_long hs] at H64 ⊢
      have d2 : decide (o.arg < 128) = false := by simpa using hs
      clear hb ha
      go_enter Tryd.func33, Tryd.ntmps33
      go_wp2_with fail
      refine (argOf_any o.code _).mono ?_
      rintro e w' ⟨rfl, rfl⟩
      generalize argMost o.code = M at hneg hm ⊢
      have d : decide (M < 0) = false := by simpa using hneg
      generalize hW : w.alloc (.cells #[.int .i64 o.code, .int .i64 o.arg] 40) = W at hbel l1 ⊢
      clear hW
      have x0 := l1.cell 0
      have x1 := l1.cell 1
      simp at x0 x1
      go_wp2
      go_ret
      exact GivesRead.lit _ H64.out (by simp) W rfl rfl hbel.out
end Go.Proofs.YtnpmacegdnnhdaaDoor

namespace Go.Proofs.YtnpmacegdnnhdaaDoor
open Go.RowKit
set_option linter.unusedVariables false
set_option maxHeartbeats 1000000 in
theorem hasArg_yes (c : Int) (w : World) (hF : FormsAt w w.heap.size) (h1 : 0 ≤ c) (h2 : c < 20) (ha : ¬ argMost c < 0) :
    Calls Tryd.prog 16 #[.int .i64 c] w fun e w' => e = .returned (.bool true) ∧ w = w' := by
  obtain ⟨m, rfl⟩ := Int.eq_ofNat_of_zero_le h1
  have hm : m < 20 := by omega
  have hc := hF.arg m hm
  have ht : 0 < argTop (m : Int) := by
    unfold argTop
    rw [if_neg ha]
    unfold argMost at ha ⊢
    repeat' split
    all_goals first | omega | (exfalso; simp_all)
  have hr := argTop_range (m : Int)
  generalize argTop (m : Int) = T at hc ht hr
  have d : decide (0 < T) = true := by simpa using ht
  clear ha
  go_enter Tryd.func16, Tryd.ntmps16
  go_wp2
  go_ret
  exact ⟨rfl, rfl⟩
set_option maxHeartbeats 1000000 in
theorem hasArg_no (c : Int) (w : World) (hF : FormsAt w w.heap.size) (h1 : 0 ≤ c) (h2 : c < 20) (ha : argMost c < 0) :
    Calls Tryd.prog 16 #[.int .i64 c] w fun e w' => e = .returned (.bool false) ∧ w = w' := by
  obtain ⟨m, rfl⟩ := Int.eq_ofNat_of_zero_le h1
  have hm : m < 20 := by omega
  have hc := hF.arg m hm
  have ht : argTop (m : Int) = 0 := by unfold argTop; rw [if_pos ha]
  rw [ht] at hc
  clear ha ht
  go_enter Tryd.func16, Tryd.ntmps16
  go_wp2
  go_ret
  exact ⟨rfl, rfl⟩
end Go.Proofs.YtnpmacegdnnhdaaDoor

namespace Go.Proofs.YtnpmacegdnnhdaaDoor
open Go.RowKit
set_option linter.unusedVariables false
def GrowsI (base : Nat) (A : Option Addr) (w : World) (zs : List Int) (e : Ending) (w' : World) : Prop := ∃ A' c', e = .returned (.slice A' zs.length c') ∧ OwnI w' base A' c' zs ∧ Below base w w' ∧ (∀ k, k < w.heap.size → blockOf A ≠ some k → w'.heap[k]? = w.heap[k]?)
set_option maxHeartbeats 1000000 in
theorem appendArg_any (base : Nat) (A : Option Addr) (c : Nat) (xs : List Int) (a : Int) (w : World) (h : OwnI w base A c xs) (hbase : base ≤ w.heap.size) (h1 : 0 ≤ a) (h2 : a ≤ 999) (hl : xs.length ≤ 100000) :
    Calls Tryd.prog 17 #[.slice A xs.length c, .int .i64 a] w (GrowsI base A w (xs ++ encA a)) := by
  have HO := hide h
  have hbl := hide (h.blocks)
  clear h
  by_cases hs : a < 128
  · rw [encA_short hs]
    have d : decide (a < 128) = true := by simpa using hs
    go_enter Tryd.func17, Tryd.ntmps17
    go_wp2_with (at_builtin; refine append_ints rfl (.tmp 7) (.tmp 9) rfl base A c xs rfl (HO.out.alloc _) _ _ 1 [a] rfl (fun e => by cases e) (IntsAt.one w a (by constructor <;> omega)) (by simp; omega) (by simp; omega) ?_; intro zs A3 c3 w3 e3 own3 hg3 _; have HG3 := hide hg3; have HO3 := hide own3; clear hg3 own3)
    go_ret
    have e3 := e3.out
    subst e3
    exact ⟨A3, c3, rfl, HO3.out, below_grown ((Below.refl _ _).alloc hbase _) HG3.out (by simp; omega) (fun q hq => (hbl.out q hq).1), fun k hk hne => (HG3.out.block k (by simp; omega) (Ne.symm hne)).trans (Below.heap_alloc w _ k hk)⟩
  · rw [encA_long hs]
    have d : decide (a < 128) = false := by simpa using hs
    go_enter Tryd.func17, Tryd.ntmps17
    go_wp2_with (at_builtin; refine append_ints rfl (.tmp 11) (.tmp 17) rfl base A c xs rfl (HO.out.alloc _) _ _ 2 [128 + a % 128, a / 128] rfl (fun e => by cases e) (by simpa using IntsAt.lit w [128 + a % 128, a / 128] (by intro x hx; simp at hx; rcases hx with rfl | rfl <;> constructor <;> omega) (by simp)) (by simp; omega) (by simp; omega) ?_; intro zs A3 c3 w3 e3 own3 hg3 _; have HG3 := hide hg3; have HO3 := hide own3; clear hg3 own3)
    go_ret
    have e3 := e3.out
    subst e3
    exact ⟨A3, c3, rfl, HO3.out, below_grown ((Below.refl _ _).alloc hbase _) HG3.out (by simp; omega) (fun q hq => (hbl.out q hq).1), fun k hk hne => (HG3.out.block k (by simp; omega) (Ne.symm hne)).trans (Below.heap_alloc w _ k hk)⟩
end Go.Proofs.YtnpmacegdnnhdaaDoor

namespace Go.Proofs.YtnpmacegdnnhdaaDoor
theorem eq_of_prefix {α : Type} [DecidableEq α] {xs ys : List α} (h : xs.length = ys.length) {k : Nat} (hk : k = xs.length) (he : ∀ j, j < k → xs[j]? = ys[j]?) : xs = ys := by
  apply List.ext_getElem?
  intro j
  by_cases hj : j < k
  · exact he j hj
  · rw [List.getElem?_eq_none (by omega), List.getElem?_eq_none (by omega)]
end Go.Proofs.YtnpmacegdnnhdaaDoor

namespace Go.Proofs.YtnpmacegdnnhdaaDoor
set_option linter.unusedVariables false
def BytesOk (m : Nat) (xs : List Int) : Prop := xs.length ≤ m ∧ ∀ x ∈ xs, 0 ≤ x ∧ x ≤ 255
instance (m : Nat) (xs : List Int) : Decidable (BytesOk m xs) := inferInstanceAs (Decidable (_ ∧ _))
def framed (m : Nat) : Nat → List Int → List Int
  | 0, _ => []
  | f + 1, xs => if xs = [] then [] else ((min m xs.length : Nat) : Int) :: (xs.take m ++ framed m f (xs.drop m))
def frameOf (xs : List Int) (m : Int) : List Int := if BytesOk 1000 xs ∧ 1 ≤ m ∧ m ≤ 200 then framed m.toNat xs.length xs else []
def unfr : Nat → List Int → List Int × Nat
  | 0, _ => ([], 0)
  | _ + 1, [] => ([], 0)
  | f + 1, h :: t => if 1 ≤ h ∧ h ≤ 200 ∧ h.toNat ≤ t.length then (t.take h.toNat ++ (unfr f (t.drop h.toNat)).1, 1 + h.toNat + (unfr f (t.drop h.toNat)).2) else ([], 0)
def unfrBytes (xs : List Int) : List Int := if BytesOk 2000 xs then (unfr xs.length xs).1 else []
def unfrSize (xs : List Int) : Int := if BytesOk 2000 xs then ((unfr xs.length xs).2 : Int) else -1
end Go.Proofs.YtnpmacegdnnhdaaDoor

namespace Go.Proofs.YtnpmacegdnnhdaaDoor
set_option linter.unusedVariables false
def firstA : List Int → Int × Nat
  | [] => (0, 0)
  | a :: t => if a < 128 then (a, 1) else match t with
    | [] => (0, 0)
    | b :: _ => if 0 < b then (a - 128 + b * 128, 2) else (0, 0)
def firstO : List Int → Option (Od × Nat)
  | [] => none
  | h :: t => if 19 < h then none else if argMost h < 0 then some (⟨h, 0⟩, 1) else
    if (firstA t).2 = 0 ∨ argMost h < (firstA t).1 then none else some (⟨h, (firstA t).1⟩, 1 + (firstA t).2)
def fstO (xs : List Int) : Od × Nat := (firstO xs).getD (⟨0, 0⟩, 0)
theorem firstA_bounds : ∀ {xs : List Int}, (∀ x ∈ xs, 0 ≤ x ∧ x ≤ 255) → 0 ≤ (firstA xs).1 ∧ (firstA xs).1 ≤ 40000 ∧ (firstA xs).2 ≤ xs.length ∧ (firstA xs).2 ≤ 2
  | [], _ => by simp [firstA]
  | [a], h => by
    have ha := h a (by simp)
    simp only [firstA]
    split <;> simp <;> omega
  | a :: b :: t, h => by
    have ha := h a (by simp)
    have hb := h b (by simp)
    simp only [firstA]
    split
    · simp; omega
    · split
      · simp only [List.length_cons]; omega
      · simp
theorem firstA_enc : ∀ {xs : List Int}, (∀ x ∈ xs, 0 ≤ x ∧ x ≤ 255) → 0 < (firstA xs).2 → (firstA xs).2 = (encA (firstA xs).1).length ∧ xs.take (firstA xs).2 = encA (firstA xs).1
  | [], _, h0 => by simp [firstA] at h0
  | [a], h, h0 => by
    have ha := h a (by simp)
    simp only [firstA] at h0 ⊢
    split at h0
    · rename_i hs
      rw [if_pos hs]
      simp [encA_short hs]
    · simp at h0
  | a :: b :: t, h, h0 => by
    have ha := h a (by simp)
    have hb := h b (by simp)
    simp only [firstA] at h0 ⊢
    split at h0
    · rename_i hs
      rw [if_pos hs]
      simp [encA_short hs]
    · rename_i hs
      rw [if_neg hs]
      split at h0
      · rename_i hb0
        rw [if_pos hb0]
        have e1 : ¬ (a - 128 + b * 128 < 128) := by omega
        have e2 : 128 + (a - 128 + b * 128) % 128 = a := by omega
        have e3 : (a - 128 + b * 128) / 128 = b := by omega
        simp only [encA_long e1, e2, e3]
        simp
      · simp at h0
theorem firstO_some {xs : List Int} {o : Od} {n : Nat} (h : ∀ x ∈ xs, 0 ≤ x ∧ x ≤ 255) (ho : firstO xs = some (o, n)) : OdOk o ∧ n = (encO o).length ∧ xs.take n = encO o ∧ 1 ≤ n ∧ n ≤ 3 ∧ n ≤ xs.length := by
  cases xs with
  | nil => simp [firstO] at ho
  | cons y t =>
    have hy := h y (by simp)
    have ht : ∀ x ∈ t, 0 ≤ x ∧ x ≤ 255 := fun x hx => h x (by simp [hx])
    simp only [firstO] at ho
    split at ho
    · cases ho
    · split at ho
      · rename_i h1 h2
        simp only [Option.some.injEq, Prod.mk.injEq] at ho
        obtain ⟨rfl, rfl⟩ := ho
        refine ⟨⟨by simp; omega, .inl ⟨h2, rfl⟩⟩, ?_, ?_, by omega, by omega, by simp⟩ <;> simp [encO_bare (o := ⟨y, 0⟩) h2]
      · split at ho
        · cases ho
        · rename_i h1 h2 h3
          simp only [Option.some.injEq, Prod.mk.injEq] at ho
          obtain ⟨rfl, rfl⟩ := ho
          have hb := firstA_bounds ht
          have he := firstA_enc ht (by omega)
          refine ⟨⟨by simp; omega, .inr ⟨by simp; omega, hb.1, by simp; omega⟩⟩, ?_, ?_, by omega, by omega, by simp only [List.length_cons]; omega⟩
          · rw [encO_arg (o := ⟨y, (firstA t).1⟩) h2, List.length_cons]
            simp only
            omega
          · rw [encO_arg (o := ⟨y, (firstA t).1⟩) h2, Nat.add_comm 1, List.take_succ_cons, he.2]
theorem fstO_none {xs : List Int} (h : firstO xs = none) : fstO xs = (⟨0, 0⟩, 0) := by unfold fstO; rw [h]; rfl
theorem fstO_some {xs : List Int} {p : Od × Nat} (h : firstO xs = some p) : fstO xs = p := by unfold fstO; rw [h]; rfl
def decs : Nat → List Int → List Od × Nat
  | 0, _ => ([], 0)
  | f + 1, xs => match firstO xs with
    | none => ([], 0)
    | some (o, n) => (o :: (decs f (xs.drop n)).1, n + (decs f (xs.drop n)).2)
theorem decs_stop {f : Nat} {xs : List Int} (h : firstO xs = none) : decs f xs = ([], 0) := by
  cases f with
  | zero => rfl
  | succ f => simp only [decs, h]
theorem decs_step {f : Nat} {xs : List Int} {o : Od} {n : Nat} (h : firstO xs = some (o, n)) : decs (f + 1) xs = (o :: (decs f (xs.drop n)).1, n + (decs f (xs.drop n)).2) := by
  simp only [decs, h]
theorem decs_le : ∀ (f : Nat) (xs : List Int), (∀ x ∈ xs, 0 ≤ x ∧ x ≤ 255) → (decs f xs).2 ≤ xs.length ∧ (decs f xs).1.length ≤ f ∧ ∀ o ∈ (decs f xs).1, OdOk o
  | 0, xs, _ => by simp [decs]
  | f + 1, xs, h => by
    cases hx : firstO xs with
    | none => rw [decs_stop hx]; simp
    | some p =>
      obtain ⟨o, n⟩ := p
      obtain ⟨h1, h2, h3, h4, h5, h6⟩ := firstO_some h hx
      obtain ⟨i1, i2, i3⟩ := decs_le f (xs.drop n) (fun x hx => h x (List.mem_of_mem_drop hx))
      rw [decs_step hx]
      simp only [List.length_drop, List.length_cons, List.mem_cons] at i1 i2 i3 ⊢
      refine ⟨by omega, by omega, fun q hq => ?_⟩
      rcases hq with rfl | hq
      · exact h1
      · exact i3 q hq
def tornOps (xs : List Int) : List Od := if BytesOk 1000 xs then (decs 300 xs).1 else []
def tornSize (xs : List Int) : Int := if BytesOk 1000 xs then ((decs 300 xs).2 : Int) else -1
theorem tornOps_ok {xs : List Int} (h : BytesOk 1000 xs) : tornOps xs = (decs 300 xs).1 := by unfold tornOps; rw [if_pos h]
theorem tornOps_no {xs : List Int} (h : ¬ BytesOk 1000 xs) : tornOps xs = [] := by unfold tornOps; rw [if_neg h]
theorem tornSize_ok {xs : List Int} (h : BytesOk 1000 xs) : tornSize xs = ((decs 300 xs).2 : Int) := by unfold tornSize; rw [if_pos h]
theorem tornSize_no {xs : List Int} (h : ¬ BytesOk 1000 xs) : tornSize xs = -1 := by unfold tornSize; rw [if_neg h]
theorem od64 {o : Od} (h : OdOk o) : In64 o.code ∧ In64 o.arg := by
  obtain ⟨h1, h2⟩ := h
  have := argMost_range o.code
  constructor <;> constructor <;> omega
def DecOk (xs : List Int) : Prop := BytesOk 1000 xs ∧ (decs 300 xs).2 = xs.length
instance (xs : List Int) : Decidable (DecOk xs) := inferInstanceAs (Decidable (_ ∧ _))
def decAll (xs : List Int) : List Od := if DecOk xs then (decs 300 xs).1 else []
theorem decAll_ok {xs : List Int} (h : DecOk xs) : decAll xs = (decs 300 xs).1 := by unfold decAll; rw [if_pos h]
theorem decAll_no {xs : List Int} (h : ¬ DecOk xs) : decAll xs = [] := by unfold decAll; rw [if_neg h]
theorem decAll_few (xs : List Int) : (decAll xs).length ≤ 300 := by
  unfold decAll
  split
  · rename_i h
    exact (decs_le 300 xs h.1.2).2.1
  · simp
theorem decAll_64 (xs : List Int) : ∀ o ∈ decAll xs, In64 o.code ∧ In64 o.arg := by
  unfold decAll
  split
  · rename_i h
    exact fun o ho => od64 ((decs_le 300 xs h.1.2).2.2 o ho)
  · intro o ho; cases ho
end Go.Proofs.YtnpmacegdnnhdaaDoor

namespace Go.Proofs.YtnpmacegdnnhdaaDoor
open Go.RowKit
theorem validBytes_any (A : Option Addr) (xs : List Int) (c : Nat) (w : World) (h : IntsAt w w.heap.size A xs) :
    Calls Tryd.prog 14 #[.slice A xs.length c] w fun e w' => e = .returned (.bool (tf (BytesOk 1000 xs))) ∧ w = w' := by
  have hl := h.len
  by_cases hlen : xs.length ≤ 1000
  · have e1 : tf (BytesOk 1000 xs) = tf (AllIn xs 0 255) := tf_congr ⟨fun h => h.2, fun h => ⟨hlen, h⟩⟩
    rw [e1]
    clear e1
    go_enter Tryd.func14, Tryd.ntmps14
    go_wp2_with fail
    refine (allIn_any A xs c 0 255 w h).mono ?_
    rintro e w' ⟨rfl, rfl⟩
    go_wp2
    go_ret
    exact ⟨rfl, rfl⟩
  · have HF := hide (show tf (BytesOk 1000 xs) = false from tf_false fun h => hlen h.1)
    go_enter Tryd.func14, Tryd.ntmps14
    go_wp2
    go_ret
    exact ⟨ret_bool HF.out.symm, rfl⟩
end Go.Proofs.YtnpmacegdnnhdaaDoor

namespace Go.Proofs.YtnpmacegdnnhdaaDoor
set_option linter.unusedVariables false
theorem encs_decs : ∀ (f : Nat) (xs : List Int), (∀ x ∈ xs, 0 ≤ x ∧ x ≤ 255) → encs (decs f xs).1 = xs.take (decs f xs).2
  | 0, xs, _ => by simp [decs, encs]
  | f + 1, xs, h => by
    cases hx : firstO xs with
    | none => rw [decs_stop hx]; simp [encs]
    | some p =>
      obtain ⟨o, n⟩ := p
      obtain ⟨h1, h2, h3, h4, h5, h6⟩ := firstO_some h hx
      have ih := encs_decs f (xs.drop n) (fun x hx => h x (List.mem_of_mem_drop hx))
      rw [decs_step hx]
      simp only
      rw [encs_cons, ih, ← h3, List.take_add]
end Go.Proofs.YtnpmacegdnnhdaaDoor
