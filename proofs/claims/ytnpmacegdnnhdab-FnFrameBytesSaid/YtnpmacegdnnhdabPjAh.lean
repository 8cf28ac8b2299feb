/-
  Lemmas, several texts in one: NewR, OwnOO, Emit, ShpM, FSz, UfS, UbM, FrN.
-/
import Derived.Test.YtnpmacegdnnhdabPjAb
import Derived.Test.YtnpmacegdnnhdabPjAf
import Derived.Maps.AppendAt
import Derived.Laws.AppendOwnNone
import Derived.Test.YtnpmacegdnnhdabShpMa
import Derived.Test.YtnpmacegdnnhdabShpMb
import Derived.Test.YtnpmacegdnnhdabShpMc
import Derived.Test.YtnpmacegdnnhdabShpMd
import Derived.Test.YtnpmacegdnnhdabPjAa
import Derived.Test.YtnpmacegdnnhdabPjAe
import Derived.Test.YtnpmacegdnnhdabPjAc
import Derived.Deep.LoopGhost
import Derived.Deep.RegionLaw
namespace Go.Proofs.Ytnpmacegdnnhdab
open Go.RowKit
set_option linter.unusedVariables false
theorem BytesAt.less {w : World} {B : Nat} {A : Option Addr} {n m : Nat} (h : BytesAt w B A n) (hm : m ≤ n) : BytesAt w B A m := fun k hk => h k (by omega)
theorem BytesAt.more {w : World} {B B' : Nat} {A : Option Addr} {n : Nat} (h : BytesAt w B A n) (hB : B ≤ B') : BytesAt w B' A n := fun k hk => by
  obtain ⟨b, off, x, h1, h2, h3⟩ := h k hk
  exact ⟨b, off, x, h1, by omega, h3⟩
set_option maxHeartbeats 1000000 in
theorem newReader_any (A : Option Addr) (n c : Nat) (w : World) (h : BytesAt w w.heap.size A n) (hc : n ≤ c) (hn : n ≤ 9223372036854775807) :
    Calls Try.prog 9 #[.slice A n c] w fun e w' => e = .returned (.pointer (some ⟨w.heap.size, 0, none⟩)) ∧ (∃ n' c', Rd w' w.heap.size A n' c' 0) ∧ Below w.heap.size w w' := by
  by_cases h2 : n ≤ 2000
  · have d : decide ((2000 : Int) < (n : Int)) = false := by simp; omega
    have hB : Below w.heap.size w (w.alloc (.cells #[.slice A n c, .int .i64 0] 41)) := (Below.refl _ _).alloc (Nat.le_refl _) _
    have HR : Hid (Rd (w.alloc (.cells #[.slice A n c, .int .i64 0] 41)) w.heap.size A n c 0) := hide ⟨Lies.new w _ _, h.later hB, h2⟩
    clear h
    go_enter Try.func9, Try.ntmps9
    go_wp2
    go_ret
    exact ⟨rfl, ⟨n, c, HR.out⟩, hB⟩
  · have d : decide ((2000 : Int) < (n : Int)) = true := by simp; omega
    obtain ⟨b, off, _, rfl, _⟩ := h 0 (by omega)
    have hcap : ¬ ((c : Int) < 2000) := by omega
    have hB : Below w.heap.size w (w.alloc (.cells #[.slice (some ⟨b, off, none⟩) 2000 c, .int .i64 0] 41)) := (Below.refl _ _).alloc (Nat.le_refl _) _
    have HR : Hid (Rd (w.alloc (.cells #[.slice (some ⟨b, off, none⟩) 2000 c, .int .i64 0] 41)) w.heap.size (some ⟨b, off, none⟩) 2000 c 0) := hide ⟨Lies.new w _ _, (h.less (by omega)).later hB, Nat.le_refl _⟩
    clear h
    go_enter Try.func9, Try.ntmps9
    go_wp2
    go_ret
    exact ⟨rfl, ⟨2000, c, HR.out⟩, hB⟩
end Go.Proofs.Ytnpmacegdnnhdab

namespace Go.Proofs.Ytnpmacegdnnhdab
open Go.RowKit
set_option linter.unusedVariables false
theorem opVals_one (os : List Od) : ∀ u ∈ opVals os, u.oneCell' = true := by
  intro u hu
  obtain ⟨o, _, hu⟩ := List.mem_flatMap.1 hu
  simp at hu
  rcases hu with rfl | rfl <;> rfl
theorem opVals_append (os ps : List Od) : opVals (os ++ ps) = opVals os ++ opVals ps := by simp [opVals]
theorem OpsAt.vals {w : World} {B b off : Nat} {os : List Od} (h : OpsAt w B (some ⟨b, off, none⟩) os) : ∀ j u, (opVals os)[j]? = some u → w.cell? ⟨b, off + j, none⟩ = some u := by
  intro j u hu
  have hj : j < os.length * 2 := by have := (List.getElem?_eq_some_iff.1 hu).1; rwa [opVals_len] at this
  have hk : j / 2 < os.length := by omega
  obtain ⟨b', off', o, e, _, ho, _, hc0, hc1⟩ := h.at_ hk
  injection e with e
  injection e with e1 e2
  subst e1 e2
  rcases Nat.mod_two_eq_zero_or_one j with hm | hm
  · have ej : j = j / 2 * 2 := by omega
    have := opVals_code ho
    rw [← ej] at this hc0
    rw [this] at hu
    injection hu with hu
    rw [← hu]
    exact hc0
  · have ej : j = j / 2 * 2 + 1 := by omega
    have := opVals_arg ho
    rw [← ej] at this
    rw [Nat.add_assoc, ← ej] at hc1
    rw [this] at hu
    injection hu with hu
    rw [← hu]
    exact hc1
theorem append_ops {w : World} {ops : Array Oper} {rest : List Oper} {o : Oper} {a : Act} {Q : Exit → Act → World → Prop} (hgd : o.guard = none) (s x : Operand)
    (ho : o.op = .call { callee := .builtin .append, args := #[s, x], argTypes := #[42, 42] })
    (base : Nat) (A : Option Addr) (c : Nat) (xs : List Od) (hs : a.eval s = .slice A xs.length c) (hown : OwnO w base A c xs)
    (B : Nat) (A2 : Option Addr) (c2 : Nat) (ys : List Od) (hx : a.eval x = .slice A2 ys.length c2) (hnil : A2 = none → c2 = 0) (hr : OpsAt w B A2 ys)
    (hsum : xs.length + ys.length ≤ 8388608) (hbase : base ≤ w.heap.size)
    (h : ∀ (zs : List Od) (A' : Option Addr) (c' : Nat) (w' : World), Hid (zs = xs ++ ys) → OwnO w' base A' c' zs → w.grownBy w' (blockOf A) → (blockOf A' = blockOf A ∨ blockOf A' = some w.heap.size) →
      wpList Try.prog ops Q rest (a.put o.dst (.slice A' zs.length c')) w') : wpList Try.prog ops Q (o :: rest) a w := by
  obtain ⟨i0, hi, hz0, hz1, hz2⟩ := info_parts infoOp
  have hempty : A2 = none → ys = [] := by
    intro e
    cases ys with
    | nil => rfl
    | cons y ys =>
      obtain ⟨b, off, e2, _⟩ := hr.row (by simp)
      rw [e] at e2; cases e2
  rcases A2 with _ | ad
  · obtain rfl := hnil rfl
    obtain rfl := hempty rfl
    exact wpList_append_own_none hgd s x 42 ho base 56 i0 2 Try.underlying42 hi _ _ _ hs hown.own hx
      (h xs A c w (by simp [Hid]) hown (World.grownBy.refl w _) (.inl rfl))
  · have hcells : ∀ j u, (opVals ys)[j]? = some u → w.cell? (ad.add j) = some u := by
      intro j u hu
      have hy : ys ≠ [] := by intro e; subst e; simp [opVals] at hu
      obtain ⟨b, off, e2, _⟩ := hr.row hy
      obtain rfl : ad = ⟨b, off, none⟩ := Option.some.inj e2
      have hadd : (⟨b, off, none⟩ : Addr).add j = ⟨b, off + j, none⟩ := by
        unfold Addr.add
        split
        · rename_i h0; subst h0; rfl
        · rfl
      rw [hadd]
      exact hr.vals j u hu
    refine wpList_append_own_at w hgd s x 42 ho base 56 i0 _ 2 16 Try.underlying42 hi hz0 hz1 hz2 rfl (by omega) _ _ _ hs hown.own ad ys.length c2 (opVals ys) hx (by rw [opVals_len]) hcells (opVals_one ys)
      (by unfold maxLen; omega) (by omega) hbase ?_
    intro v' w' h2 h3 _ h5
    have hlen : xs.length + ys.length = (xs ++ ys).length := by simp
    rw [ownBlock_slice] at h3 h5
    rw [← opVals_append, hlen] at h2
    rcases h2.2 with ⟨rfl, h6⟩ | ⟨g, cap, cur, rfl, _⟩
    · have hzs : xs ++ ys = [] := List.eq_nil_of_length_eq_zero h6
      have := h (xs ++ ys) none 0 w' (by simp [Hid]) ⟨by rw [h6] at h2 ⊢; exact h2⟩ h3 (by simpa [blockOf, Value.ownBlock] using h5)
      rw [h6] at this
      exact this
    · exact h (xs ++ ys) _ _ w' (by simp [Hid]) ⟨h2⟩ h3 (by simpa [ownBlock_slice] using h5)
theorem OpsAt.upto {w : World} {B : Nat} {A : Option Addr} {os : List Od} (h : OpsAt w B A os) (n : Nat) : OpsAt w B A (os.take n) := by
  refine ⟨fun hx => ?_, fun x hx => h.wf x (List.mem_of_mem_take hx), Nat.le_trans (by simp; omega) h.len⟩
  obtain ⟨b, off, e, hlt, hc⟩ := h.row (by intro e; subst e; simp at hx)
  refine ⟨b, off, e, hlt, fun j x hj => hc j x ?_⟩
  rw [List.getElem?_take] at hj
  split at hj
  · exact hj
  · cases hj
end Go.Proofs.Ytnpmacegdnnhdab

namespace Go.Proofs.Ytnpmacegdnnhdab
open Go.RowKit
set_option linter.unusedVariables false
theorem OpsAt.one {w : World} {b : Nat} {o : Od} {t : TypeId} (h : Lies w b #[.int .i64 o.code, .int .i64 o.arg] t) (h64 : In64 o.code ∧ In64 o.arg) : OpsAt w w.heap.size (some ⟨b, 0, none⟩) [o] := by
  have c0 := h.cell 0
  have c1 := h.cell 1
  simp only [List.getElem?_toArray, List.getElem?_cons_zero, List.getElem?_cons_succ] at c0 c1
  refine ⟨fun _ => ⟨b, 0, rfl, h.lt, fun j x hj => ?_⟩, fun x hx => ?_, by simp⟩
  · match j, hj with
    | 0, hj =>
      simp at hj
      subst hj
      exact ⟨c0, c1⟩
  · rw [List.mem_singleton.1 hx]
    exact h64
set_option maxHeartbeats 1000000 in
theorem emit_any (A : Option Addr) (os : List Od) (c : Nat) (B : Option Addr) (ps : List Od) (d : Nat) (w : World) (h : OpsAt w w.heap.size A os) (hn : A = none → c = 0) (h2 : OpsAt w w.heap.size B ps) (hn2 : B = none → d = 0) (hl : os.length + ps.length ≤ 8000000) :
    Calls Try.prog 37 #[.slice A os.length c, .slice B ps.length d] w (GivesOps w (os ++ ps)) := by
  have Hn := hide hn
  have Hn2 := hide hn2
  have HE := hide (OwnO.bare w)
  have HB := hide ((Below.refl w.heap.size w).alloc (Nat.le_refl _) (.cells #[] 56))
  clear hn hn2
  go_enter Try.func37, Try.ntmps37
  go_wp2_with (at_builtin; first
    | (refine append_ops rfl (.tmp 5) (.tmp 6) rfl w.heap.size _ 0 [] rfl HE.out w.heap.size A c os rfl Hn.out (h.below HB.out) (by simp; omega) HB.out.size ?_; intro zs A5 c5 w6 e5 own5 hg5 _; have HB6 := hide (below_grown HB.out hg5 HB.out.size (fun q hq => (HE.out.blocks q hq).1)); have HO6 := hide own5; have hz6 : zs.length = os.length := (by rw [e5.out, List.nil_append]); have hz7 : zs.length ≤ os.length := (by omega); clear own5 hg5 hz6)
    | (refine append_ops rfl (.tmp 7) (.tmp 8) rfl w.heap.size A5 c5 zs rfl HO6.out w.heap.size B d ps rfl Hn2.out (h2.below HB6.out) (by omega) HB6.out.size ?_; intro ys A7 c7 w8 e7 own7 hg7 _; have HB8 := hide (below_grown HB6.out hg7 HB6.out.size (fun q hq => (HO6.out.blocks q hq).1)); have HO8 := hide own7; clear own7 hg7))
  go_ret
  have e8 : ys = os ++ ps := by rw [e7.out, e5.out, List.nil_append]
  subst e8
  exact ⟨A7, c7, rfl, HO8.out, HB8.out⟩
end Go.Proofs.Ytnpmacegdnnhdab

namespace Go.Proofs.Ytnpmacegdnnhdab
open Go.RowKit
theorem markShapes_any (p : ShPtr) (s : Shp) (c : Int) (base : Nat) (w : World) (h : ShOwn w base p s) (hbase : base ≤ w.heap.size) (hs : s.Small) (hc : IsMarkOp c) :
    Calls Try.prog 43 #[shVal p s, .int .i64 c] w (TriesSh w p base (markStep s c)) := by
  rcases hc with rfl | rfl | rfl | rfl
  · exact markShapes_3 p s base w h hbase hs
  · exact markShapes_9 p s base w h hbase hs
  · exact markShapes_12 p s base w h hbase hs
  · exact markShapes_18 p s base w h hbase hs
end Go.Proofs.Ytnpmacegdnnhdab

namespace Go.Proofs.Ytnpmacegdnnhdab
open Go.RowKit
theorem isFrameSize_yes (n : Int) (w : World) (h1 : 1 ≤ n) (h2 : n ≤ 200) :
    Calls Try.prog 13 #[.int .i64 n] w fun e w' => e = .returned (.bool true) ∧ w = w' := by
  have d1 : decide (0 < n) = true := by simp; omega
  have d2 : decide (n ≤ 200) = true := by simpa using h2
  go_enter Try.func13, Try.ntmps13
  go_wp2
  go_ret
  exact ⟨rfl, rfl⟩
theorem isFrameSize_no (n : Int) (w : World) (h : ¬ (1 ≤ n ∧ n ≤ 200)) :
    Calls Try.prog 13 #[.int .i64 n] w fun e w' => e = .returned (.bool false) ∧ w = w' := by
  by_cases h1 : 1 ≤ n
  · have h2 : ¬ n ≤ 200 := by omega
    have d1 : decide (0 < n) = true := by simp; omega
    have d2 : decide (n ≤ 200) = false := by simpa using h2
    clear h
    go_enter Try.func13, Try.ntmps13
    go_wp2
    go_ret
    exact ⟨rfl, rfl⟩
  · have d1 : decide (0 < n) = false := by simp; omega
    clear h
    go_enter Try.func13, Try.ntmps13
    go_wp2
    go_ret
    exact ⟨rfl, rfl⟩
end Go.Proofs.Ytnpmacegdnnhdab

namespace Go.Proofs.Ytnpmacegdnnhdab
open Go.RowKit
set_option linter.unusedVariables false
def GivesIntsV (w : World) (xs : List Int) (v : Value) (e : Ending) (w' : World) : Prop := ∃ A c, e = .returned (.tuple #[.slice A xs.length c, v]) ∧ OwnI w' w.heap.size A c xs ∧ Below w.heap.size w w'
structure UfS (w wr : World) (R : List Int) (N : Nat) (xs : List Int) (i : Nat) (Ao : Option Addr) (co : Nat) (acc : List Int) : Prop where
  bel : Below w.heap.size w wr
  own : OwnI wr w.heap.size Ao co acc
  eq : acc ++ (unfr xs.length (xs.drop i)).1 = R
  at_ : i + (unfr xs.length (xs.drop i)).2 = N
  sum : acc.length ≤ i
  le : i ≤ xs.length
theorem UfS.step {w wr w2 : World} {R : List Int} {N : Nat} {xs : List Int} {i q : Nat} {Ao A2 : Option Addr} {co c2 : Nat} {acc zs2 : List Int} (h : UfS w wr R N xs i Ao co acc)
    (hx : xs[i]? = some (q : Int)) (h1 : 1 ≤ q) (h2 : q ≤ 200) (h3 : i + q < xs.length)
    (hg2 : wr.grownBy w2 (blockOf Ao)) (e2 : zs2 = acc ++ (xs.drop (i + 1)).take q) (own2 : OwnI w2 w.heap.size A2 c2 zs2) :
    UfS w w2 R N xs (i + 1 + q) A2 c2 zs2 := by
  have hs := unfr_step (f := xs.length) hx (by omega) (by omega) (by rw [Int.toNat_natCast]; exact h3) (Nat.le_refl _)
  rw [Int.toNat_natCast] at hs
  refine ⟨below_grown h.bel hg2 h.bel.size (fun k hk => (h.own.blocks k hk).1), own2, ?_, ?_, ?_, by omega⟩
  · rw [e2, ← h.eq, hs, List.append_assoc]
  · have := h.at_
    rw [hs] at this
    simp only at this
    omega
  · rw [e2]
    have := h.sum
    simp only [List.length_append, List.length_take]
    omega
theorem UfS.stop {w wr : World} {R : List Int} {N : Nat} {xs : List Int} {i : Nat} {Ao : Option Addr} {co : Nat} {acc : List Int} (h : UfS w wr R N xs i Ao co acc)
    (hx : ∀ h, xs[i]? = some h → ¬ (1 ≤ h ∧ h ≤ 200 ∧ i + h.toNat < xs.length)) : acc = R ∧ i = N := by
  have hs := unfr_stop (f := xs.length) hx
  have h1 := h.eq
  have h2 := h.at_
  rw [hs] at h1 h2
  simp at h1 h2
  exact ⟨h1, h2⟩
end Go.Proofs.Ytnpmacegdnnhdab

namespace Go.Proofs.Ytnpmacegdnnhdab
def UnfOk (xs : List Int) : Prop := BytesOk 2000 xs ∧ (unfr xs.length xs).2 = xs.length
instance (xs : List Int) : Decidable (UnfOk xs) := inferInstanceAs (Decidable (_ ∧ _))
def unfAll (xs : List Int) : List Int := if UnfOk xs then (unfr xs.length xs).1 else []
theorem unfAll_ok {xs : List Int} (h : UnfOk xs) : unfAll xs = (unfr xs.length xs).1 := by unfold unfAll; rw [if_pos h]
theorem unfAll_no {xs : List Int} (h : ¬ UnfOk xs) : unfAll xs = [] := by unfold unfAll; rw [if_neg h]
end Go.Proofs.Ytnpmacegdnnhdab

namespace Go.Proofs.Ytnpmacegdnnhdab
set_option linter.unusedVariables false
theorem unfr_framed {m : Nat} (h1 : 1 ≤ m) (h2 : m ≤ 200) : ∀ (f g : Nat) (xs : List Int), xs.length ≤ f → (framed m f xs).length ≤ g → unfr g (framed m f xs) = (xs, (framed m f xs).length)
  | 0, g, xs, hf, _ => by
    obtain rfl : xs = [] := List.eq_nil_of_length_eq_zero (by omega)
    rw [framed_nil, unfr_nil]
    rfl
  | f + 1, g, xs, hf, hg => by
    by_cases hx : xs = []
    · subst hx
      rw [framed_nil, unfr_nil]
      rfl
    · have hl : 0 < xs.length := List.length_pos_iff.2 hx
      have hw : framed m (f + 1) xs = ((min m xs.length : Nat) : Int) :: (xs.take m ++ framed m f (xs.drop m)) := by simp only [framed, if_neg hx]
      have ht : (xs.take m).length = min m xs.length := List.length_take
      rw [hw] at hg ⊢
      rw [List.length_cons, List.length_append, ht] at hg
      cases g with
      | zero => omega
      | succ g =>
        have ih := unfr_framed h1 h2 f g (xs.drop m) (by simp; omega) (by omega)
        have hn : (((min m xs.length : Nat) : Int)).toNat = min m xs.length := Int.toNat_natCast _
        have ha : (xs.take m ++ framed m f (xs.drop m)).take (min m xs.length) = xs.take m := List.take_left' ht
        have hb : (xs.take m ++ framed m f (xs.drop m)).drop (min m xs.length) = framed m f (xs.drop m) := List.drop_left' ht
        simp only [unfr]
        rw [hn, ha, hb, ih, if_pos ⟨by omega, by omega, by rw [List.length_append, ht]; omega⟩]
        simp only [List.take_append_drop, List.length_cons, List.length_append, ht]
        congr 1
        omega
theorem framed_length {m : Nat} (h1 : 1 ≤ m) : ∀ (f : Nat) (xs : List Int), xs.length ≤ f → (framed m f xs).length = xs.length + (xs.length + m - 1) / m
  | 0, xs, hf => by
    obtain rfl : xs = [] := List.eq_nil_of_length_eq_zero (by omega)
    rw [framed_nil]
    have : (0 + m - 1) / m = 0 := Nat.div_eq_of_lt (by omega)
    simp only [List.length_nil, this]
  | f + 1, xs, hf => by
    by_cases hx : xs = []
    · subst hx
      rw [framed_nil]
      have : (0 + m - 1) / m = 0 := Nat.div_eq_of_lt (by omega)
      simp only [List.length_nil, this]
    · have hl : 0 < xs.length := List.length_pos_iff.2 hx
      have ih := framed_length h1 f (xs.drop m) (by simp; omega)
      have hd : (xs.drop m).length = xs.length - m := List.length_drop
      simp only [framed, if_neg hx, List.length_cons, List.length_append, List.length_take, ih, hd]
      by_cases hlm : xs.length ≤ m
      · have e1 : xs.length - m = 0 := by omega
        have e2 : (0 + m - 1) / m = 0 := Nat.div_eq_of_lt (by omega)
        have e3 : (xs.length + m - 1) / m = 1 := by
          have e4 : xs.length + m - 1 = (xs.length - 1) + m := by omega
          rw [e4, Nat.add_div_right _ (by omega), Nat.div_eq_of_lt (by omega)]
        rw [e1, e2, e3]
        omega
      · have e1 : xs.length - m + m - 1 = xs.length - 1 := by omega
        have e3 : (xs.length + m - 1) / m = (xs.length - 1) / m + 1 := by
          have e4 : xs.length + m - 1 = (xs.length - 1) + m := by omega
          rw [e4, Nat.add_div_right _ (by omega)]
        rw [e1, e3]
        omega
theorem frame_whole {xs : List Int} {m : Int} (h0 : BytesOk 1000 xs) (h1 : 1 ≤ m) (h2 : m ≤ 200) :
    UnfOk (frameOf xs m) ∧ unfAll (frameOf xs m) = xs ∧ ((frameOf xs m).length : Int) = xs.length + (xs.length + m - 1) / m := by
  have hb := frameOf_byte xs m
  have hf := frameOf_few xs m
  rw [frameOf_ok h0 h1 h2] at hb hf ⊢
  have hk := unfr_framed (m := m.toNat) (by omega) (by omega) xs.length (framed m.toNat xs.length xs).length xs (Nat.le_refl _) (Nat.le_refl _)
  have hu : UnfOk (framed m.toNat xs.length xs) := ⟨⟨hf, hb⟩, by rw [hk]⟩
  refine ⟨hu, by rw [unfAll_ok hu, hk], ?_⟩
  rw [framed_length (by omega) _ _ (Nat.le_refl _)]
  clear hk hu hb hf
  obtain ⟨k, rfl⟩ : ∃ k : Nat, m = (k : Int) := ⟨m.toNat, by omega⟩
  have e1 : (xs.length : Int) + (k : Int) - 1 = ((xs.length + k - 1 : Nat) : Int) := by omega
  rw [e1, Int.toNat_natCast, Int.natCast_add, Int.natCast_ediv]
theorem frame_back {xs : List Int} {m : Int} (hne : frameOf xs m ≠ []) : BytesOk 1000 xs ∧ 1 ≤ m ∧ m ≤ 200 := by
  by_cases hc : BytesOk 1000 xs ∧ 1 ≤ m ∧ m ≤ 200
  · exact hc
  · exact absurd (frameOf_no hc) hne
end Go.Proofs.Ytnpmacegdnnhdab
