/-
  Lemmas, several texts in one: ShpM, Bof, FrM, DecM, RdO, ReadB.
-/
import Derived.Test.YtmilbhhlbjcodaaDoorShpMa
import Derived.Test.YtmilbhhlbjcodaaDoorShpMb
import Derived.Test.YtmilbhhlbjcodaaDoorShpMc
import Derived.Test.YtmilbhhlbjcodaaDoorShpMd
import Derived.Test.YtmilbhhlbjcodaaDoorPjAe
import Derived.Test.YtmilbhhlbjcodaaDoorPjAa
import Derived.Deep.Cut
import Derived.StillTailTactics
import Derived.Test.YtmilbhhlbjcodaaDoorPjAb
import Derived.Test.YtmilbhhlbjcodaaDoorRows
import Derived.ProofKit
import Derived.OpenShut
import Derived.ShutString
import Derived.ChangeOld
import Derived.Deep.Slices
import Derived.Deep.Fields
import Derived.Lib.SmallJoins
namespace Go.Proofs.YtmilbhhlbjcodaaDoor
open Go.RowKit
theorem markShapes_any (p : ShPtr) (s : Shp) (c : Int) (base : Nat) (w : World) (h : ShOwn w base p s) (hbase : base ≤ w.heap.size) (hs : s.Small) (hc : IsMarkOp c) :
    Calls Tryd.prog 50 #[shVal p s, .int .i64 c] w (TriesSh w p base (markStep s c)) := by
  rcases hc with rfl | rfl | rfl | rfl
  · exact markShapes_3 p s base w h hbase hs
  · exact markShapes_9 p s base w h hbase hs
  · exact markShapes_12 p s base w h hbase hs
  · exact markShapes_18 p s base w h hbase hs
end Go.Proofs.YtmilbhhlbjcodaaDoor

namespace Go.Proofs.YtmilbhhlbjcodaaDoor
open Go.RowKit
set_option linter.unusedVariables false
def GivesRead (w : World) (ys : List Int) (e : Ending) (w' : World) : Prop := ∃ A c, e = .returned (.slice A ys.length c) ∧ (A = none → c = 0) ∧ IntsAt w' w'.heap.size A ys ∧ Below w.heap.size w w'
theorem GivesRead.lit {w w' : World} {e : Ending} (ys : List Int) (h64 : ∀ x ∈ ys, In64 x) (hl : ys.length ≤ 1048576) (W : World) (he : e = .returned (.slice (some ⟨W.heap.size, 0, none⟩) ys.length ys.length))
    (hw : w' = W.alloc (.cells (ys.map (Value.int .i64)).toArray 3)) (hb : Below w.heap.size w W) : GivesRead w ys e w' := by
  subst hw
  exact ⟨_, _, he, (fun e => by cases e), (IntsAt.lit W ys h64 hl).more (by simp), hb.alloc hb.size _⟩
set_option maxHeartbeats 1000000 in
theorem bytesOf_any (o : Od) (w : World) (ho : OdOk o) :
    Calls Tryd.prog 35 #[.agg #[.int .i64 o.code, .int .i64 o.arg]] w (GivesRead w (encO o)) := by
  have hb := encO_byte ho
  have H64 := hide (fun x hx => (by have := hb x hx; constructor <;> omega : In64 x))
  have hbel := hide (show Below w.heap.size w (w.alloc (.cells #[.int .i64 o.code, .int .i64 o.arg] 39)) from (Below.refl _ _).alloc (Nat.le_refl _) _)
  obtain ⟨⟨hc1, hc2⟩, ha⟩ := ho
  have hm := argMost_range o.code
  have l1 := Lies.new w #[.int .i64 o.code, .int .i64 o.arg] 39
  by_cases hneg : argMost o.code < 0
  · rw [encO_bare hneg] at H64 ⊢
    clear hb ha
    go_enter Tryd.func35, Tryd.ntmps35
    go_wp2_with fail
    refine (argOf_any o.code _).mono ?_
    rintro e w' ⟨rfl, rfl⟩
    generalize argMost o.code = M at hneg hm ⊢
    have d : decide (M < 0) = true := by simpa using hneg
    generalize hW : w.alloc (.cells #[.int .i64 o.code, .int .i64 o.arg] 39) = W at hbel l1 ⊢
    clear hW
    have x0 := l1.cell 0
    have x1 := l1.cell 1
    simp at x0 x1
    go_wp2
    go_ret
    exact GivesRead.lit _ H64.out (by simp) W rfl rfl hbel.out
  · have ha' : 0 ≤ o.arg ∧ o.arg ≤ 999 := by omega
    obtain ⟨ha1, ha2⟩ := ha'
    have Hneg := hide hneg
    rw [encO_arg hneg] at H64 ⊢
    by_cases hs : o.arg < 128
    · rw [encA_short hs] at H64 ⊢
      have d2 : decide (o.arg < 128) = true := by simpa using hs
      clear hb ha
      go_enter Tryd.func35, Tryd.ntmps35
      go_wp2_with fail
      refine (argOf_any o.code _).mono ?_
      rintro e w' ⟨rfl, rfl⟩
      generalize argMost o.code = M at hneg hm ⊢
      have d : decide (M < 0) = false := by simpa using hneg
      generalize hW : w.alloc (.cells #[.int .i64 o.code, .int .i64 o.arg] 39) = W at hbel l1 ⊢
      clear hW
      have x0 := l1.cell 0
      have x1 := l1.cell 1
      simp at x0 x1
      go_wp2
      go_ret
      exact GivesRead.lit _ H64.out (by simp) W rfl rfl hbel.out
    · rw [encA_long hs] at H64 ⊢
      have d2 : decide (o.arg < 128) = false := by simpa using hs
      clear hb ha
      go_enter Tryd.func35, Tryd.ntmps35
      go_wp2_with fail
      refine (argOf_any o.code _).mono ?_
      rintro e w' ⟨rfl, rfl⟩
      generalize argMost o.code = M at hneg hm ⊢
      have d : decide (M < 0) = false := by simpa using hneg
      generalize hW : w.alloc (.cells #[.int .i64 o.code, .int .i64 o.arg] 39) = W at hbel l1 ⊢
      clear hW
      have x0 := l1.cell 0
      have x1 := l1.cell 1
      simp at x0 x1
      go_wp2
      go_ret
      exact GivesRead.lit _ H64.out (by simp) W rfl rfl hbel.out
end Go.Proofs.YtmilbhhlbjcodaaDoor

namespace Go.Proofs.YtmilbhhlbjcodaaDoor
set_option linter.unusedVariables false
def BytesOk (m : Nat) (xs : List Int) : Prop := xs.length ≤ m ∧ ∀ x ∈ xs, 0 ≤ x ∧ x ≤ 255
instance (m : Nat) (xs : List Int) : Decidable (BytesOk m xs) := inferInstanceAs (Decidable (_ ∧ _))
def framed (m : Nat) : Nat → List Int → List Int
  | 0, _ => []
  | f + 1, xs => if xs = [] then [] else ((min m xs.length : Nat) : Int) :: (xs.take m ++ framed m f (xs.drop m))
def frameOf (xs : List Int) (m : Int) : List Int := if BytesOk 1000 xs ∧ 1 ≤ m ∧ m ≤ 200 then framed m.toNat xs.length xs else []
def unfr : Nat → List Int → List Int × Nat
  | 0, _ => ([], 0)
  | _ + 1, [] => ([], 0)
  | f + 1, h :: t => if 1 ≤ h ∧ h ≤ 200 ∧ h.toNat ≤ t.length then (t.take h.toNat ++ (unfr f (t.drop h.toNat)).1, 1 + h.toNat + (unfr f (t.drop h.toNat)).2) else ([], 0)
def unfrBytes (xs : List Int) : List Int := if BytesOk 2000 xs then (unfr xs.length xs).1 else []
def unfrSize (xs : List Int) : Int := if BytesOk 2000 xs then ((unfr xs.length xs).2 : Int) else -1
end Go.Proofs.YtmilbhhlbjcodaaDoor

namespace Go.Proofs.YtmilbhhlbjcodaaDoor
set_option linter.unusedVariables false
def firstA : List Int → Int × Nat
  | [] => (0, 0)
  | a :: t => if a < 128 then (a, 1) else match t with
    | [] => (0, 0)
    | b :: _ => if 0 < b then (a - 128 + b * 128, 2) else (0, 0)
def firstO : List Int → Option (Od × Nat)
  | [] => none
  | h :: t => if 19 < h then none else if argMost h < 0 then some (⟨h, 0⟩, 1) else
    if (firstA t).2 = 0 ∨ argMost h < (firstA t).1 then none else some (⟨h, (firstA t).1⟩, 1 + (firstA t).2)
def fstO (xs : List Int) : Od × Nat := (firstO xs).getD (⟨0, 0⟩, 0)
theorem firstA_bounds : ∀ {xs : List Int}, (∀ x ∈ xs, 0 ≤ x ∧ x ≤ 255) → 0 ≤ (firstA xs).1 ∧ (firstA xs).1 ≤ 40000 ∧ (firstA xs).2 ≤ xs.length ∧ (firstA xs).2 ≤ 2
  | [], _ => by simp [firstA]
  | [a], h => by
    have ha := h a (by simp)
    simp only [firstA]
    split <;> simp <;> omega
  | a :: b :: t, h => by
    have ha := h a (by simp)
    have hb := h b (by simp)
    simp only [firstA]
    split
    · simp; omega
    · split
      · simp only [List.length_cons]; omega
      · simp
theorem firstA_enc : ∀ {xs : List Int}, (∀ x ∈ xs, 0 ≤ x ∧ x ≤ 255) → 0 < (firstA xs).2 → (firstA xs).2 = (encA (firstA xs).1).length ∧ xs.take (firstA xs).2 = encA (firstA xs).1
  | [], _, h0 => by simp [firstA] at h0
  | [a], h, h0 => by
    have ha := h a (by simp)
    simp only [firstA] at h0 ⊢
    split at h0
    · rename_i hs
      rw [if_pos hs]
      simp [encA_short hs]
    · simp at h0
  | a :: b :: t, h, h0 => by
    have ha := h a (by simp)
    have hb := h b (by simp)
    simp only [firstA] at h0 ⊢
    split at h0
    · rename_i hs
      rw [if_pos hs]
      simp [encA_short hs]
    · rename_i hs
      rw [if_neg hs]
      split at h0
      · rename_i hb0
        rw [if_pos hb0]
        have e1 : ¬ (a - 128 + b * 128 < 128) := by omega
        have e2 : 128 + (a - 128 + b * 128) % 128 = a := by omega
        have e3 : (a - 128 + b * 128) / 128 = b := by omega
        simp only [encA_long e1, e2, e3]
        simp
      · simp at h0
theorem firstO_some {xs : List Int} {o : Od} {n : Nat} (h : ∀ x ∈ xs, 0 ≤ x ∧ x ≤ 255) (ho : firstO xs = some (o, n)) : OdOk o ∧ n = (encO o).length ∧ xs.take n = encO o ∧ 1 ≤ n ∧ n ≤ 3 ∧ n ≤ xs.length := by
  cases xs with
  | nil => simp [firstO] at ho
  | cons y t =>
    have hy := h y (by simp)
    have ht : ∀ x ∈ t, 0 ≤ x ∧ x ≤ 255 := fun x hx => h x (by simp [hx])
    simp only [firstO] at ho
    split at ho
    · cases ho
    · split at ho
      · rename_i h1 h2
        simp only [Option.some.injEq, Prod.mk.injEq] at ho
        obtain ⟨rfl, rfl⟩ := ho
        refine ⟨⟨by simp; omega, .inl ⟨h2, rfl⟩⟩, ?_, ?_, by omega, by omega, by simp⟩ <;> simp [encO_bare (o := ⟨y, 0⟩) h2]
      · split at ho
        · cases ho
        · rename_i h1 h2 h3
          simp only [Option.some.injEq, Prod.mk.injEq] at ho
          obtain ⟨rfl, rfl⟩ := ho
          have hb := firstA_bounds ht
          have he := firstA_enc ht (by omega)
          refine ⟨⟨by simp; omega, .inr ⟨by simp; omega, hb.1, by simp; omega⟩⟩, ?_, ?_, by omega, by omega, by simp only [List.length_cons]; omega⟩
          · rw [encO_arg (o := ⟨y, (firstA t).1⟩) h2, List.length_cons]
            simp only
            omega
          · rw [encO_arg (o := ⟨y, (firstA t).1⟩) h2, Nat.add_comm 1, List.take_succ_cons, he.2]
theorem fstO_none {xs : List Int} (h : firstO xs = none) : fstO xs = (⟨0, 0⟩, 0) := by unfold fstO; rw [h]; rfl
theorem fstO_some {xs : List Int} {p : Od × Nat} (h : firstO xs = some p) : fstO xs = p := by unfold fstO; rw [h]; rfl
def decs : Nat → List Int → List Od × Nat
  | 0, _ => ([], 0)
  | f + 1, xs => match firstO xs with
    | none => ([], 0)
    | some (o, n) => (o :: (decs f (xs.drop n)).1, n + (decs f (xs.drop n)).2)
theorem decs_stop {f : Nat} {xs : List Int} (h : firstO xs = none) : decs f xs = ([], 0) := by
  cases f with
  | zero => rfl
  | succ f => simp only [decs, h]
theorem decs_step {f : Nat} {xs : List Int} {o : Od} {n : Nat} (h : firstO xs = some (o, n)) : decs (f + 1) xs = (o :: (decs f (xs.drop n)).1, n + (decs f (xs.drop n)).2) := by
  simp only [decs, h]
theorem decs_le : ∀ (f : Nat) (xs : List Int), (∀ x ∈ xs, 0 ≤ x ∧ x ≤ 255) → (decs f xs).2 ≤ xs.length ∧ (decs f xs).1.length ≤ f ∧ ∀ o ∈ (decs f xs).1, OdOk o
  | 0, xs, _ => by simp [decs]
  | f + 1, xs, h => by
    cases hx : firstO xs with
    | none => rw [decs_stop hx]; simp
    | some p =>
      obtain ⟨o, n⟩ := p
      obtain ⟨h1, h2, h3, h4, h5, h6⟩ := firstO_some h hx
      obtain ⟨i1, i2, i3⟩ := decs_le f (xs.drop n) (fun x hx => h x (List.mem_of_mem_drop hx))
      rw [decs_step hx]
      simp only [List.length_drop, List.length_cons, List.mem_cons] at i1 i2 i3 ⊢
      refine ⟨by omega, by omega, fun q hq => ?_⟩
      rcases hq with rfl | hq
      · exact h1
      · exact i3 q hq
def tornOps (xs : List Int) : List Od := if BytesOk 1000 xs then (decs 300 xs).1 else []
def tornSize (xs : List Int) : Int := if BytesOk 1000 xs then ((decs 300 xs).2 : Int) else -1
theorem tornOps_ok {xs : List Int} (h : BytesOk 1000 xs) : tornOps xs = (decs 300 xs).1 := by unfold tornOps; rw [if_pos h]
theorem tornOps_no {xs : List Int} (h : ¬ BytesOk 1000 xs) : tornOps xs = [] := by unfold tornOps; rw [if_neg h]
theorem tornSize_ok {xs : List Int} (h : BytesOk 1000 xs) : tornSize xs = ((decs 300 xs).2 : Int) := by unfold tornSize; rw [if_pos h]
theorem tornSize_no {xs : List Int} (h : ¬ BytesOk 1000 xs) : tornSize xs = -1 := by unfold tornSize; rw [if_neg h]
theorem od64 {o : Od} (h : OdOk o) : In64 o.code ∧ In64 o.arg := by
  obtain ⟨h1, h2⟩ := h
  have := argMost_range o.code
  constructor <;> constructor <;> omega
theorem tornOps_few (xs : List Int) : (tornOps xs).length ≤ 300 := by
  unfold tornOps
  split
  · rename_i h
    exact (decs_le 300 xs h.2).2.1
  · simp
theorem tornOps_64 (xs : List Int) : ∀ o ∈ tornOps xs, In64 o.code ∧ In64 o.arg := by
  unfold tornOps
  split
  · rename_i h
    exact fun o ho => od64 ((decs_le 300 xs h.2).2.2 o ho)
  · intro o ho; cases ho
def DecOk (xs : List Int) : Prop := BytesOk 1000 xs ∧ (decs 300 xs).2 = xs.length
instance (xs : List Int) : Decidable (DecOk xs) := inferInstanceAs (Decidable (_ ∧ _))
def decAll (xs : List Int) : List Od := if DecOk xs then (decs 300 xs).1 else []
theorem decAll_ok {xs : List Int} (h : DecOk xs) : decAll xs = (decs 300 xs).1 := by unfold decAll; rw [if_pos h]
theorem decAll_no {xs : List Int} (h : ¬ DecOk xs) : decAll xs = [] := by unfold decAll; rw [if_neg h]
end Go.Proofs.YtmilbhhlbjcodaaDoor

namespace Go.Proofs.YtmilbhhlbjcodaaDoor
open Go.RowKit
set_option linter.unusedVariables false
def GivesOpM (w : World) (p : Od × Nat) (e : Ending) (w' : World) : Prop := e = .returned (.tuple #[.agg #[.int .i64 p.1.code, .int .i64 p.1.arg], .int .i64 (p.2 : Int)]) ∧ Below w.heap.size w w'
theorem lies2m {w : World} {g : Nat} {a b : Value} {t : TypeId} (h : Lies w g #[a, b] t) (v0 v1 : Value) :
    ((w.setCell ⟨g, 0, none⟩ v0).setCell ⟨g, 1, none⟩ v1).cell? ⟨g, 0, none⟩ = some v0 ∧ ((w.setCell ⟨g, 0, none⟩ v0).setCell ⟨g, 1, none⟩ v1).cell? ⟨g, 1, none⟩ = some v1 := by
  have h2 := (h.set 0 v0).set 1 v1
  have c0 := h2.cell 0
  have c1 := h2.cell 1
  simp at c0 c1
  exact ⟨c0, c1⟩
noncomputable def lastO (o : Od) (n : Nat) : Od × Nat := @ite _ (OdOk o ∧ (encO o).length = n) (Classical.propDecidable _) (o, n) (⟨0, 0⟩, 0)
theorem lastO_yes {o : Od} {n : Nat} (h : OdOk o) (hn : (encO o).length = n) : lastO o n = (o, n) := by unfold lastO; rw [if_pos ⟨h, hn⟩]
theorem lastO_no {o : Od} {n : Nat} (h : ¬ (OdOk o ∧ (encO o).length = n)) : lastO o n = (⟨0, 0⟩, 0) := by unfold lastO; rw [if_neg h]
theorem fstO_bare {y : Int} {t : List Int} (h0 : 0 ≤ y) (h : argMost y < 0) : fstO (y :: t) = lastO ⟨y, 0⟩ 1 := by
  by_cases h19 : 19 < y
  · rw [lastO_no (fun h => by have := h.1.1; simp at this; omega), fstO_none (by simp only [firstO]; rw [if_pos h19])]
  · rw [lastO_yes ⟨by simp; omega, .inl ⟨h, rfl⟩⟩ (by simp [encO_bare (o := ⟨y, 0⟩) h]), fstO_some (by simp only [firstO]; rw [if_neg h19, if_pos h])]
theorem arg_code {y : Int} (h0 : 0 ≤ y) (h : ¬ argMost y < 0) : ¬ 19 < y := by
  intro h19
  apply h
  unfold argMost
  repeat' split
  all_goals omega
theorem fstO_one {y : Int} (h0 : 0 ≤ y) (h : ¬ argMost y < 0) : fstO [y] = (⟨0, 0⟩, 0) :=
  fstO_none (by simp only [firstO]; rw [if_neg (arg_code h0 h), if_neg h]; simp [firstA])
theorem fstO_short {y a : Int} {t : List Int} (h0 : 0 ≤ y) (h : ¬ argMost y < 0) (ha0 : 0 ≤ a) (ha : a < 128) : fstO (y :: a :: t) = lastO ⟨y, a⟩ 2 := by
  have e : firstA (a :: t) = (a, 1) := by simp only [firstA]; rw [if_pos ha]
  have h19 := arg_code h0 h
  by_cases hb : argMost y < a
  · rw [lastO_no (fun hh => by have := hh.1.2; simp at this; omega), fstO_none (by simp only [firstO]; rw [if_neg h19, if_neg h, e]; simp [hb])]
  · rw [lastO_yes ⟨by simp; omega, .inr ⟨by simp; omega, by simp; omega⟩⟩ (by simp [encO_arg (o := ⟨y, a⟩) h, encA_short ha]), fstO_some (p := (⟨y, a⟩, 2)) (by simp only [firstO]; rw [if_neg h19, if_neg h, e]; simp [hb])]
theorem fstO_cut {y a : Int} (h0 : 0 ≤ y) (h : ¬ argMost y < 0) (ha : ¬ a < 128) : fstO [y, a] = (⟨0, 0⟩, 0) :=
  fstO_none (by simp only [firstO]; rw [if_neg (arg_code h0 h), if_neg h]; simp [firstA, ha])
theorem fstO_long {y a b : Int} {t : List Int} (h0 : 0 ≤ y) (h : ¬ argMost y < 0) (ha : ¬ a < 128) (ha2 : a ≤ 255) (hb : 0 ≤ b) : fstO (y :: a :: b :: t) = lastO ⟨y, a - 128 + 128 * b⟩ 3 := by
  have h19 := arg_code h0 h
  by_cases hp : 0 < b
  · have e : firstA (a :: b :: t) = (a - 128 + b * 128, 2) := by simp only [firstA]; rw [if_neg ha, if_pos hp]
    have e2 : a - 128 + 128 * b = a - 128 + b * 128 := by omega
    rw [e2]
    by_cases hbg : argMost y < a - 128 + b * 128
    · rw [lastO_no (fun hh => by have := hh.1.2; simp at this; omega), fstO_none (by simp only [firstO]; rw [if_neg h19, if_neg h, e]; simp [hbg])]
    · rw [lastO_yes ⟨by simp; omega, .inr ⟨by simp; omega, by simp; omega⟩⟩ (by simp [encO_arg (o := ⟨y, a - 128 + b * 128⟩) h, encA_long (show ¬ a - 128 + b * 128 < 128 by omega)]), fstO_some (p := (⟨y, a - 128 + b * 128⟩, 3)) (by simp only [firstO]; rw [if_neg h19, if_neg h, e]; simp [hbg])]
  · have e : firstA (a :: b :: t) = (0, 0) := by simp only [firstA]; rw [if_neg ha, if_neg hp]
    rw [lastO_no (fun hh => by have := hh.2; rw [encO_arg (o := ⟨y, a - 128 + 128 * b⟩) h, encA_short (show a - 128 + 128 * b < 128 by omega)] at this; simp at this), fstO_none (by simp only [firstO]; rw [if_neg h19, if_neg h, e]; simp)]
set_option maxRecDepth 100000 in
set_option maxHeartbeats 2000000 in
theorem readOp_nil (A : Option Addr) (c : Nat) (w : World) :
    Calls Tryd.prog 29 #[.slice A 0 c] w (GivesOpM w (⟨0, 0⟩, 0)) := by
  have l0 := Lies.new w #[.int .i64 0, .int .i64 0] 39
  have HB := hide ((Below.refl w.heap.size w).alloc (Nat.le_refl _) (.cells #[.int .i64 0, .int .i64 0] 39))
  go_enter Tryd.func29, Tryd.ntmps29
  go_upto_region 1 with fail
  generalize w.alloc (.cells #[.int .i64 0, .int .i64 0] 39) = W at HB l0 ⊢
  have f0 := l0.frozen 0
  have f1 := l0.frozen 1
  have x0 := l0.cell 0
  have x1 := l0.cell 1
  simp at x0 x1
  obtain ⟨s0, s1⟩ := lies2m l0 (.int .i64 0) (.int .i64 0)
  have HE := hide ((HB.out.setCell (p := ⟨w.heap.size, 0, none⟩) (Nat.le_refl _) (.int .i64 0)).setCell (p := ⟨w.heap.size, 1, none⟩) (Nat.le_refl _) (.int .i64 0))
  go_wp2
  exact bodyPost_ret (v := .tuple #[.agg #[.int .i64 0, .int .i64 0], .int .i64 0]) (by simp [results, Tryd.results29, go_sem, s0, s1]) rfl ⟨rfl, HE.out⟩
theorem box_made {w W : World} (HB : Below w.heap.size w W) (l0 : Lies W w.heap.size #[.int .i64 0, .int .i64 0] 39) (y : Int) :
    Below w.heap.size w (W.alloc (.cells #[.int .i64 y, .int .i64 0] 39)) ∧ Lies (W.alloc (.cells #[.int .i64 y, .int .i64 0] 39)) w.heap.size #[.int .i64 0, .int .i64 0] 39 ∧
      Lies (W.alloc (.cells #[.int .i64 y, .int .i64 0] 39)) W.heap.size #[.int .i64 y, .int .i64 0] 39 ∧ w.heap.size < W.heap.size :=
  ⟨HB.alloc HB.size _, l0.alloc _, Lies.new W _ _, l0.lt⟩
theorem box_set {w W : World} {g : Nat} {y z : Int} (HB : Below w.heap.size w W) (l0 : Lies W w.heap.size #[.int .i64 0, .int .i64 0] 39) (l4 : Lies W g #[.int .i64 y, .int .i64 z] 39) (hg : w.heap.size < g) (a : Int) :
    Below w.heap.size w (W.setCell ⟨g, 1, none⟩ (.int .i64 a)) ∧ Lies (W.setCell ⟨g, 1, none⟩ (.int .i64 a)) w.heap.size #[.int .i64 0, .int .i64 0] 39 ∧ Lies (W.setCell ⟨g, 1, none⟩ (.int .i64 a)) g #[.int .i64 y, .int .i64 a] 39 := by
  refine ⟨HB.setCell (by show w.heap.size ≤ g; omega) _, l0.far (by show w.heap.size ≠ g; omega) _, ?_⟩
  have := l4.set 1 (.int .i64 a)
  simpa using this
set_option maxRecDepth 100000 in
set_option maxHeartbeats 2000000 in
theorem readOp_bare (b0 off : Nat) (y : Int) (t : List Int) (c : Nat) (w : World) (h : IntsAt w w.heap.size (some ⟨b0, off, none⟩) (y :: t)) (hy : 0 ≤ y ∧ y ≤ 255) (hl : (y :: t).length ≤ 1000) (hneg : argMost y < 0) :
    Calls Tryd.prog 29 #[.slice (some ⟨b0, off, none⟩) (y :: t).length c] w (GivesOpM w (fstO (y :: t))) := by
  rw [fstO_bare hy.1 hneg]
  obtain ⟨b1, off1, y0, e1, hbl, hy0, _, hcell⟩ := h.at_ (k := 0) (by simp)
  injection e1 with e1
  injection e1 with e1 e2
  subst e1 e2
  obtain rfl : y = y0 := by simpa using hy0
  rw [Nat.add_zero] at hcell
  have l0 := Lies.new w #[.int .i64 0, .int .i64 0] 39
  have HB := hide ((Below.refl w.heap.size w).alloc (Nat.le_refl _) (.cells #[.int .i64 0, .int .i64 0] 39))
  have hcW := (HB.out.cell (p := ⟨b0, off, none⟩) hbl).trans hcell
  have hlt : t.length + 1 ≤ 1000 := by simpa using hl
  have hz1 : (((t.length + 1 : Nat) : Int) == 0) = false := by simp only [beq_eq_false_iff_ne, ne_eq]; omega
  have hz2 : (0 : Int) < ((t.length + 1 : Nat) : Int) := by omega
  have HN := hide hneg
  rw [List.length_cons]
  clear h hl hy0 hcell hneg
  go_enter Tryd.func29, Tryd.ntmps29
  go_upto_region 1 with fail
  generalize w.alloc (.cells #[.int .i64 0, .int .i64 0] 39) = W at HB l0 hcW ⊢
  go_upto_region 5 with fail
  obtain ⟨hB4, l04, l4, hgg⟩ := box_made HB.out l0 y
  generalize W.alloc (.cells #[.int .i64 y, .int .i64 0] 39) = W4 at hB4 l04 l4 ⊢
  generalize W.heap.size = g4 at l4 hgg ⊢
  have HB4 := hide hB4
  have z0 := l4.cell 0
  have z1 := l4.cell 1
  simp at z0 z1
  clear hB4 l0 hcW
  go_wp2_with fail
  refine (argOf_any y W4).mono ?_
  rintro e w' ⟨rfl, rfl⟩
  have dneg : decide (0 ≤ argMost y) = false := by have := HN.out; simp; omega
  have hm := argMost_range y
  generalize argMost y = M at dneg hm ⊢
  go_wp2_with fail
  by_cases hv : OdOk ⟨y, 0⟩
  · have ht := hide (tf_true hv)
    have HV := hide hv
    obtain ⟨ln, hln⟩ : ∃ ln, ln = (encO ⟨y, 0⟩).length := ⟨_, rfl⟩
    have Hln := hide hln
    have hl3 := (encO_len ⟨y, 0⟩).2
    rw [← hln] at hl3
    clear hv hln
    refine (validOp_any ⟨y, 0⟩ W4).mono ?_
    rintro e w5 ⟨rfl, hb5⟩
    rw [ht.out]
    have l05 := l04.below hb5 l04.lt
    have l45 := l4.below hb5 l4.lt
    have HB5 := hide (HB4.out.trans (hb5.mono HB4.out.size))
    clear hb5 l04 l4 z0 z1
    have z0 := l45.cell 0
    have z1 := l45.cell 1
    simp at z0 z1
    go_wp2_with fail
    refine (bytesOf_any ⟨y, 0⟩ w5 HV.out).mono ?_
    rintro e w6 ⟨A6, c6, rfl, _, _, hb6⟩
    rw [← Hln.out]
    have l06 := l05.below hb6 l05.lt
    have l46 := l45.below hb6 l45.lt
    have HB6 := hide (HB5.out.trans (hb6.mono HB5.out.size))
    clear hb6 l05 l45 z0 z1
    have z0 := l46.cell 0
    have z1 := l46.cell 1
    simp at z0 z1
    by_cases hn : ln = 1
    · have HF := hide (lastO_yes (o := ⟨y, 0⟩) (n := 1) HV.out (Hln.out.symm.trans hn))
      subst hn
      have f0 := l06.frozen 0
      have f1 := l06.frozen 1
      have x0 := l06.cell 0
      have x1 := l06.cell 1
      simp at x0 x1
      obtain ⟨s0, s1⟩ := lies2m l06 (.int .i64 y) (.int .i64 (0))
      have HE := hide ((HB6.out.setCell (p := ⟨w.heap.size, 0, none⟩) (Nat.le_refl _) (.int .i64 y)).setCell (p := ⟨w.heap.size, 1, none⟩) (Nat.le_refl _) (.int .i64 (0)))
      clear l06 l46
      go_wp2
      exact bodyPost_ret (v := .tuple #[.agg #[.int .i64 y, .int .i64 (0)], .int .i64 1]) (by simp [results, Tryd.results29, go_sem, s0, s1]) rfl ⟨by rw [HF.out]; try rfl, HE.out⟩
    · have HF := hide (lastO_no (o := ⟨y, 0⟩) (n := 1) (fun h => hn (Hln.out.trans h.2)))
      have dn : ((ln : Int) != 1) = true := by simp; omega
      clear hn
      have f0 := l06.frozen 0
      have f1 := l06.frozen 1
      have x0 := l06.cell 0
      have x1 := l06.cell 1
      simp at x0 x1
      obtain ⟨s0, s1⟩ := lies2m l06 (.int .i64 0) (.int .i64 0)
      have HE := hide ((HB6.out.setCell (p := ⟨w.heap.size, 0, none⟩) (Nat.le_refl _) (.int .i64 0)).setCell (p := ⟨w.heap.size, 1, none⟩) (Nat.le_refl _) (.int .i64 0))
      go_wp2
      exact bodyPost_ret (v := .tuple #[.agg #[.int .i64 0, .int .i64 0], .int .i64 0]) (by simp [results, Tryd.results29, go_sem, s0, s1]) rfl ⟨by rw [HF.out]; try rfl, HE.out⟩
  · have ht := hide (tf_false hv)
    have HF := hide (lastO_no (o := ⟨y, 0⟩) (n := 1) (fun h => hv h.1))
    clear hv
    refine (validOp_any ⟨y, 0⟩ W4).mono ?_
    rintro e w5 ⟨rfl, hb5⟩
    rw [ht.out]
    have l05 := l04.below hb5 l04.lt
    have HB5 := hide (HB4.out.trans (hb5.mono HB4.out.size))
    clear hb5 l04 l4 z0 z1
    have f0 := l05.frozen 0
    have f1 := l05.frozen 1
    have x0 := l05.cell 0
    have x1 := l05.cell 1
    simp at x0 x1
    obtain ⟨s0, s1⟩ := lies2m l05 (.int .i64 0) (.int .i64 0)
    have HE := hide ((HB5.out.setCell (p := ⟨w.heap.size, 0, none⟩) (Nat.le_refl _) (.int .i64 0)).setCell (p := ⟨w.heap.size, 1, none⟩) (Nat.le_refl _) (.int .i64 0))
    go_wp2
    exact bodyPost_ret (v := .tuple #[.agg #[.int .i64 0, .int .i64 0], .int .i64 0]) (by simp [results, Tryd.results29, go_sem, s0, s1]) rfl ⟨by rw [HF.out]; try rfl, HE.out⟩
end Go.Proofs.YtmilbhhlbjcodaaDoor

namespace Go.Proofs.YtmilbhhlbjcodaaDoor
open Go.ChangeShapes Go.WideShapes Go.ChangeAt Go.RowKit Go.Deep
set_option linter.unusedVariables false
theorem readCellsB : Tryd.prog.cellsOf 5 = 1 := by kernel_rfl
theorem addr_add_b (b off j : Nat) : (⟨b, off, none⟩ : Addr).add j = ⟨b, off + j, none⟩ := by
  unfold Addr.add
  split
  · rename_i h0; subst h0; rfl
  · rfl
theorem read_bytes {H : Type} {enc : TypeId × Value → H} {w : World} {base : Nat} {spare : Nat → Bool} {held : Bool} {m : Nat} {v : Value} {y : DataW H × List MemPlace} (h : DataW.trod enc Tryd.prog w base spare held m 22 [v] = some y) :
    ∃ (A : Option Addr) (n c : Nat), v = .slice A n c ∧ BytesAt w w.heap.size A n ∧ n ≤ c ∧ n ≤ 9223372036854775807 := by
  rcases open_ints Tryd.underlying22 Tryd.underlying5 readCellsB h with ⟨hcs, _⟩ | ⟨a, len, cap, zs, hcs, _, hl, hm, hz, _, hcell, hwz⟩
  · simp at hcs
    subst hcs
    exact ⟨none, 0, 0, rfl, fun k hk => absurd hk (by omega), Nat.le_refl _, by omega⟩
  · simp at hcs
    subst hcs
    have hzl : len ≤ zs.length := by rw [hz]; split <;> omega
    refine ⟨some a, len, cap, rfl, fun k hk => ?_, hl, by unfold maxLen at hm; omega⟩
    have hz0 := hcell 0 (by omega)
    have hc0 := hcell k (by omega)
    obtain ⟨b, off, sp⟩ := a
    have hsp : sp = none := by simpa [Addr.add] using World.cell?_spot hz0
    subst hsp
    rw [addr_add_b] at hc0
    have hb := range_u8 hwz k
    rw [List.getD_eq_getElem?_getD] at hc0
    obtain ⟨x, hx⟩ := Int.eq_ofNat_of_zero_le hb.1
    refine ⟨b, off, x, rfl, World.block_lt_of_cell? w _ hc0, ?_, by omega⟩
    rw [hc0, hx]
end Go.Proofs.YtmilbhhlbjcodaaDoor
