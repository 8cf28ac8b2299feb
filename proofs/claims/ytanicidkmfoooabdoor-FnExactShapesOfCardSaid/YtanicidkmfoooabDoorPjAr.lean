/-
  Lemmas, several texts in one: VOp, SpecO, ShL, ShZ.
-/
import Derived.Test.YtanicidkmfoooabDoorPjAb
import Derived.Test.YtanicidkmfoooabDoorPjAi
import Derived.Test.YtanicidkmfoooabDoorPjAq
import Derived.Test.YtanicidkmfoooabDoorShpR
import Derived.Test.YtanicidkmfoooabDoorPjAl
import Derived.Test.YtanicidkmfoooabDoorPjAe
import Derived.Deep.Cut
namespace Go.Proofs.YtanicidkmfoooabDoor
open Go.RowKit
set_option linter.unusedVariables false

set_option maxHeartbeats 1000000 in
theorem argOf_any (c : Int) (w : World) :
    Calls Tryd.prog 32 #[.int .i64 c] w fun e w' => e = .returned (.int .i64 (argMost c)) ∧ w = w' := by
  by_cases h0 : c = 0
  · subst h0
    go_enter Tryd.func32, Tryd.ntmps32
    go_wp2
    go_ret
    exact ⟨rfl, rfl⟩
  · by_cases h1 : c = 1
    · subst h1
      go_enter Tryd.func32, Tryd.ntmps32
      go_wp2
      go_ret
      exact ⟨rfl, rfl⟩
    · by_cases h13 : c = 13
      · subst h13
        go_enter Tryd.func32, Tryd.ntmps32
        go_wp2
        go_ret
        exact ⟨rfl, rfl⟩
      · by_cases h15 : c = 15
        · subst h15
          go_enter Tryd.func32, Tryd.ntmps32
          go_wp2
          go_ret
          exact ⟨rfl, rfl⟩
        · by_cases h16 : c = 16
          · subst h16
            go_enter Tryd.func32, Tryd.ntmps32
            go_wp2
            go_ret
            exact ⟨rfl, rfl⟩
          · have HF := hide (show argMost c = -1 by unfold argMost; simp [h0, h1, h13, h15, h16])
            have t0 : (c == 0) = false := by simpa using h0
            have t1 : (c == 1) = false := by simpa using h1
            have t2 : (c == 13) = false := by simpa using h13
            have t3 : (c == 15) = false := by simpa using h15
            have t4 : (c == 16) = false := by simpa using h16
            clear h0 h1 h13 h15 h16
            go_enter Tryd.func32, Tryd.ntmps32
            go_wp2
            go_ret
            exact ⟨ret_int HF.out.symm, rfl⟩

set_option maxHeartbeats 1000000 in
theorem validOp_any (o : Od) (w : World) :
    Calls Tryd.prog 25 #[.agg #[.int .i64 o.code, .int .i64 o.arg]] w fun e w' => e = .returned (.bool (tf (OdOk o))) ∧ Below w.heap.size w w' := by
  have hB : Below w.heap.size w (w.alloc (.cells #[.int .i64 o.code, .int .i64 o.arg] 39)) := (Below.refl _ _).alloc (Nat.le_refl _) _
  have l1 := Lies.new w #[.int .i64 o.code, .int .i64 o.arg] 39
  have hm := argMost_range o.code
  by_cases hc : 0 ≤ o.code ∧ o.code ≤ 19
  · by_cases hneg : argMost o.code < 0
    · by_cases ha : o.arg = 0
      · have HF := hide (show tf (OdOk o) = true from tf_true ⟨hc, .inl ⟨hneg, ha⟩⟩)
        have t : (o.arg == 0) = true := by simpa using ha
        obtain ⟨hc1, hc2⟩ := hc
        clear ha
        go_enter Tryd.func25, Tryd.ntmps25
        go_wp2_with fail
        refine (argOf_any o.code _).mono ?_
        rintro e w' ⟨rfl, rfl⟩
        generalize argMost o.code = M at hneg hm ⊢
        have d : decide (M < 0) = true := by simpa using hneg
        go_wp2_with fail
        refine (inRange_yes o.code 0 19 _ hc1 hc2).mono ?_
        rintro e w' ⟨rfl, rfl⟩
        go_wp2
        go_ret
        exact ⟨ret_bool HF.out.symm, hB⟩
      · have HF := hide (show tf (OdOk o) = false from tf_false fun h => by rcases h.2 with h | h; exact ha h.2; omega)
        have t : (o.arg == 0) = false := by simpa using ha
        obtain ⟨hc1, hc2⟩ := hc
        clear ha
        go_enter Tryd.func25, Tryd.ntmps25
        go_wp2_with fail
        refine (argOf_any o.code _).mono ?_
        rintro e w' ⟨rfl, rfl⟩
        generalize argMost o.code = M at hneg hm ⊢
        have d : decide (M < 0) = true := by simpa using hneg
        have d2 : decide (0 ≤ M) = false := by simpa using hneg
        go_wp2_with fail
        refine (inRange_yes o.code 0 19 _ hc1 hc2).mono ?_
        rintro e w' ⟨rfl, rfl⟩
        go_wp2
        go_ret
        exact ⟨ret_bool HF.out.symm, hB⟩
    · by_cases ha : 0 ≤ o.arg ∧ o.arg ≤ argMost o.code
      · have HF := hide (show tf (OdOk o) = true from tf_true ⟨hc, .inr ⟨by omega, ha⟩⟩)
        obtain ⟨hc1, hc2⟩ := hc
        obtain ⟨ha1, ha2⟩ := ha
        go_enter Tryd.func25, Tryd.ntmps25
        go_wp2_with fail
        refine (argOf_any o.code _).mono ?_
        rintro e w' ⟨rfl, rfl⟩
        generalize argMost o.code = M at hneg hm ha2 ⊢
        have d : decide (M < 0) = false := by simpa using hneg
        have d2 : decide (0 ≤ M) = true := by simpa using hneg
        go_wp2_with fail
        refine (inRange_yes o.code 0 19 _ hc1 hc2).mono ?_
        rintro e w' ⟨rfl, rfl⟩
        go_wp2_with fail
        refine (inRange_yes o.arg 0 M _ ha1 ha2).mono ?_
        rintro e w' ⟨rfl, rfl⟩
        go_wp2
        go_ret
        exact ⟨ret_bool HF.out.symm, hB⟩
      · have HF := hide (show tf (OdOk o) = false from tf_false fun h => by rcases h.2 with h | h; omega; exact ha h.2)
        obtain ⟨hc1, hc2⟩ := hc
        have ha' : o.arg < 0 ∨ argMost o.code < o.arg := by omega
        clear ha
        go_enter Tryd.func25, Tryd.ntmps25
        go_wp2_with fail
        refine (argOf_any o.code _).mono ?_
        rintro e w' ⟨rfl, rfl⟩
        generalize argMost o.code = M at hneg hm ha' ⊢
        have d : decide (M < 0) = false := by simpa using hneg
        have d2 : decide (0 ≤ M) = true := by simpa using hneg
        go_wp2_with fail
        refine (inRange_yes o.code 0 19 _ hc1 hc2).mono ?_
        rintro e w' ⟨rfl, rfl⟩
        go_wp2_with fail
        refine (inRange_no o.arg 0 M _ ha').mono ?_
        rintro e w' ⟨rfl, rfl⟩
        clear ha'
        go_wp2
        go_ret
        exact ⟨ret_bool HF.out.symm, hB⟩
  · have HF := hide (show tf (OdOk o) = false from tf_false fun h => hc h.1)
    have hc' : o.code < 0 ∨ 19 < o.code := by omega
    clear hc
    go_enter Tryd.func25, Tryd.ntmps25
    go_wp2_with fail
    refine (argOf_any o.code _).mono ?_
    rintro e w' ⟨rfl, rfl⟩
    generalize argMost o.code = M at hm ⊢
    go_wp2_with fail
    refine (inRange_no o.code 0 19 _ hc').mono ?_
    rintro e w' ⟨rfl, rfl⟩
    clear hc'
    go_wp2
    go_ret
    exact ⟨ret_bool HF.out.symm, hB⟩

end Go.Proofs.YtanicidkmfoooabDoor

namespace Go.Proofs.YtanicidkmfoooabDoor
open Go.RowKit
set_option linter.unusedVariables false

set_option maxHeartbeats 1000000 in
theorem specValidOps_any (A : Option Addr) (os : List Od) (c : Nat) (w : World) (h : OpsAt w w.heap.size A os) :
    Calls Tryd.prog 13 #[.slice A os.length c] w fun e w' => e = .returned (.bool (tf (OpsOk os))) ∧ Below w.heap.size w w' := by
  have hl := h.len
  go_enter Tryd.func13, Tryd.ntmps13
  go_wp2_with fail
  go_loopw [3] (fun i wr => ∃ k : Nat, k ≤ os.length ∧ i = .int .i64 k ∧ Below w.heap.size w wr ∧ ∀ j x, j < k → os[j]? = some x → OdOk x) (fun i _ => os.length - (intOf i).toNat)
  case atStart => exact ⟨0, Nat.zero_le _, rfl, Below.refl _ _, fun j _ hj => absurd hj (by omega)⟩
  case round =>
    obtain ⟨k, hk, rfl, hb, he0⟩ := hrel
    have he := hide he0
    clear he0
    by_cases hlt : k < os.length
    · obtain ⟨b, off, x, rfl, hbl, hx, hmem, hc0, hc1⟩ := (h.below hb).at_ hlt
      have Hx := hide hx
      clear hx
      by_cases hin : OdOk x
      · have He : Hid (∀ j y, j < k + 1 → os[j]? = some y → OdOk y) := by
          intro j y hj hy
          by_cases e : j = k
          · subst e
            have := Hx.out.symm.trans hy
            injection this with this
            subst this
            exact hin
          · exact he.out j y (by omega) hy
        have ht := hide (show tf (OdOk x) = true from tf_true hin)
        clear he hmem hin
        go_wp2_with fail
        refine (validOp_any x _).mono ?_
        rintro e w' ⟨rfl, hb2⟩
        rw [ht.out]
        go_wp2
        go_roundw
        case rel => exact ⟨k + 1, by omega, by go_num, hb.trans (hb2.mono hb.size), He.out⟩
        case measure => simp [intOf]; omega
      · have HF := hide (show tf (OpsOk os) = false from tf_false fun hall => hin (hall.2 x hmem))
        have ht := hide (show tf (OdOk x) = false from tf_false hin)
        clear he hmem hin
        go_wp2_with fail
        refine (validOp_any x _).mono ?_
        rintro e w' ⟨rfl, hb2⟩
        rw [ht.out]
        go_wp2
        go_ret
        exact ⟨ret_bool HF.out.symm, hb.trans (hb2.mono hb.size)⟩
    · obtain rfl : k = os.length := by omega
      have hall : ∀ x ∈ os, OdOk x := fun x hx => by
        obtain ⟨j, hj, rfl⟩ := List.getElem_of_mem hx
        exact he.out j _ hj (List.getElem?_eq_getElem hj)
      by_cases h3 : os.length ≤ 300
      · have HF := hide (show tf (OpsOk os) = true from tf_true ⟨h3, hall⟩)
        have d : decide ((os.length : Int) ≤ 300) = true := by simp; omega
        clear hlt hall
        go_wp2
        go_ret
        exact ⟨ret_bool HF.out.symm, hb⟩
      · have HF := hide (show tf (OpsOk os) = false from tf_false fun hh => h3 hh.1)
        have d : decide ((os.length : Int) ≤ 300) = false := by simp; omega
        clear hlt hall
        go_wp2
        go_ret
        exact ⟨ret_bool HF.out.symm, hb⟩

end Go.Proofs.YtanicidkmfoooabDoor

namespace Go.Proofs.YtanicidkmfoooabDoor
open Go.RowKit
set_option linter.unusedVariables false

set_option maxRecDepth 100000 in
set_option maxHeartbeats 1000000 in
theorem eqShapes_same (p p' : ShPtr) (s : Shp) (w : World) (h : ShAt w w.heap.size p s) (h' : ShAt w w.heap.size p' s) :
    Calls Tryd.prog 8 #[.agg #[.slice p.K s.kinds.length p.c1, .slice p.F s.full.length p.c2, .slice p.S s.stack.length p.c3, .slice p.M s.memo.length p.c4, .bool s.done], .agg #[.slice p'.K s.kinds.length p'.c1, .slice p'.F s.full.length p'.c2, .slice p'.S s.stack.length p'.c3, .slice p'.M s.memo.length p'.c4, .bool s.done]] w fun e w' => e = .returned (.bool true) ∧ Below w.heap.size w w' := by
  have hB : Below w.heap.size w ((w.alloc (.cells #[.slice p.K s.kinds.length p.c1, .slice p.F s.full.length p.c2, .slice p.S s.stack.length p.c3, .slice p.M s.memo.length p.c4, .bool s.done] 27)).alloc (.cells #[.slice p'.K s.kinds.length p'.c1, .slice p'.F s.full.length p'.c2, .slice p'.S s.stack.length p'.c3, .slice p'.M s.memo.length p'.c4, .bool s.done] 27)) := ((Below.refl _ _).alloc (Nat.le_refl _) _).alloc (by simp) _
  have l1 := (Lies.new w #[.slice p.K s.kinds.length p.c1, .slice p.F s.full.length p.c2, .slice p.S s.stack.length p.c3, .slice p.M s.memo.length p.c4, .bool s.done] 27).alloc (.cells #[.slice p'.K s.kinds.length p'.c1, .slice p'.F s.full.length p'.c2, .slice p'.S s.stack.length p'.c3, .slice p'.M s.memo.length p'.c4, .bool s.done] 27)
  have l2 := Lies.new (w.alloc (.cells #[.slice p.K s.kinds.length p.c1, .slice p.F s.full.length p.c2, .slice p.S s.stack.length p.c3, .slice p.M s.memo.length p.c4, .bool s.done] 27)) #[.slice p'.K s.kinds.length p'.c1, .slice p'.F s.full.length p'.c2, .slice p'.S s.stack.length p'.c3, .slice p'.M s.memo.length p'.c4, .bool s.done] 27
  simp only [World.size_alloc] at l2
  have H := hide h
  have H' := hide h'
  clear h h'
  go_enter Tryd.func8, Tryd.ntmps8
  go_upto_region 1 with fail
  generalize (w.alloc (.cells #[.slice p.K s.kinds.length p.c1, .slice p.F s.full.length p.c2, .slice p.S s.stack.length p.c3, .slice p.M s.memo.length p.c4, .bool s.done] 27)).alloc (.cells #[.slice p'.K s.kinds.length p'.c1, .slice p'.F s.full.length p'.c2, .slice p'.S s.stack.length p'.c3, .slice p'.M s.memo.length p'.c4, .bool s.done] 27) = W at l1 l2 hB ⊢
  have HB0 := hide hB
  have HL1 := hide l1
  have HL2 := hide l2
  have hq1 := l1.lt
  have hq2 := l2.lt
  have a0 := l1.cell 0
  have b0 := l2.cell 0
  simp only [List.getElem?_toArray, List.getElem?_cons_zero] at a0 b0
  clear l1 l2 hB
  have hdd : (s.done != s.done) = false := by simp
  go_wp2_with fail
  refine (eqIntS_any p.K p'.K s.kinds s.kinds p.c1 p'.c1 W (H.out.k.later HB0.out (Nat.le_refl _)) (H'.out.k.later HB0.out (Nat.le_refl _))).mono ?_
  rintro e w1 ⟨rfl, hb⟩
  have hself : decide (s.kinds = s.kinds) = true := by simp
  rw [hself]
  have HB1 := hide (HB0.out.trans (hb.mono HB0.out.size))
  have HC1 := hide hb
  clear hb hself a0 b0
  have a1 := (HL1.out.below HC1.out hq1).cell 1
  have b1 := (HL2.out.below HC1.out hq2).cell 1
  simp only [List.getElem?_toArray, List.getElem?_cons_zero, List.getElem?_cons_succ] at a1 b1
  go_wp2_with fail
  refine (eqBoolS_same p.F p'.F s.full p.c2 p'.c2 w1 (H.out.f.later HB1.out (Nat.le_refl _)) (H'.out.f.later HB1.out (Nat.le_refl _))).mono ?_
  rintro e w2 ⟨rfl, hb⟩
  have HB2 := hide (HB1.out.trans (hb.mono HB1.out.size))
  have HC2 := hide (HC1.out.trans (hb.mono HC1.out.size))
  clear hb a1 b1 HC1
  have a2 := (HL1.out.below HC2.out hq1).cell 2
  have b2 := (HL2.out.below HC2.out hq2).cell 2
  simp only [List.getElem?_toArray, List.getElem?_cons_zero, List.getElem?_cons_succ] at a2 b2
  go_wp2_with fail
  refine (eqIntS_any p.S p'.S s.stack s.stack p.c3 p'.c3 w2 (H.out.t.later HB2.out (Nat.le_refl _)) (H'.out.t.later HB2.out (Nat.le_refl _))).mono ?_
  rintro e w3 ⟨rfl, hb⟩
  have hself : decide (s.stack = s.stack) = true := by simp
  rw [hself]
  have HB3 := hide (HB2.out.trans (hb.mono HB2.out.size))
  have HC3 := hide (HC2.out.trans (hb.mono HC2.out.size))
  clear hb hself a2 b2 HC2
  have a3 := (HL1.out.below HC3.out hq1).cell 3
  have b3 := (HL2.out.below HC3.out hq2).cell 3
  simp only [List.getElem?_toArray, List.getElem?_cons_zero, List.getElem?_cons_succ] at a3 b3
  go_wp2_with fail
  refine (eqIntS_any p.M p'.M s.memo s.memo p.c4 p'.c4 w3 (H.out.m.later HB3.out (Nat.le_refl _)) (H'.out.m.later HB3.out (Nat.le_refl _))).mono ?_
  rintro e w4 ⟨rfl, hb⟩
  have hself : decide (s.memo = s.memo) = true := by simp
  rw [hself]
  have HB4 := hide (HB3.out.trans (hb.mono HB3.out.size))
  have HC4 := hide (HC3.out.trans (hb.mono HC3.out.size))
  clear hb hself a3 b3 HC3
  have a4 := (HL1.out.below HC4.out hq1).cell 4
  have b4 := (HL2.out.below HC4.out hq2).cell 4
  simp only [List.getElem?_toArray, List.getElem?_cons_zero, List.getElem?_cons_succ] at a4 b4
  go_wp2
  go_ret
  exact ⟨rfl, HB4.out⟩

/-- how far the marks of shapes reach -/
def shEnd (k : Int) (s : Shp) : Int := k + s.kinds.length + s.full.length + s.stack.length + s.memo.length
/-- shapes whose parts hold marks -/
def marksSh (k : Int) (s : Shp) : Shp := ⟨marks k s.kinds.length, marksB (k + s.kinds.length) s.full.length, marks (k + s.kinds.length + s.full.length) s.stack.length, marks (k + s.kinds.length + s.full.length + s.stack.length) s.memo.length, s.done⟩

theorem OwnB.only {w w' : World} {base lo hi : Nat} {A : Option Addr} {c : Nat} {xs : List Bool} (h : OwnB w base A c xs) (ho : Only lo hi w w') (hA : ∀ g, blockOf A = some g → g < lo ∨ hi ≤ g) : OwnB w' base A c xs := by
  refine ⟨h.own.1, ?_⟩
  rcases h.own.2 with h2 | ⟨g, cap, cur, hv, hg, hh, r⟩
  · exact .inl h2
  · refine .inr ⟨g, cap, cur, hv, hg, ?_, r⟩
    rw [ho.block g (hA g (by injection hv with hv; rw [hv]; rfl))]
    exact hh

/-- one part is written -/
theorem only_one {w w' : World} {A : Option Addr} (h : ∀ lo hi, (∀ g, blockOf A = some g → lo ≤ g ∧ g < hi) → Only lo hi w w') : (blockOf A = none ∧ Only 0 0 w w') ∨ ∃ g, blockOf A = some g ∧ Only g (g + 1) w w' := by
  cases hb : blockOf A with
  | none => exact .inl ⟨rfl, h 0 0 (fun g hg => by rw [hb] at hg; cases hg)⟩
  | some g => exact .inr ⟨g, rfl, h g (g + 1) (fun q hq => by rw [hb] at hq; injection hq with hq; omega)⟩

theorem OwnI.apart {w w' : World} {base : Nat} {A B : Option Addr} {c : Nat} {xs : List Int} (h : OwnI w base A c xs) (ho : ∀ lo hi, (∀ g, blockOf B = some g → lo ≤ g ∧ g < hi) → Only lo hi w w') (hne : ∀ b, blockOf A = some b → blockOf B ≠ some b) : OwnI w' base A c xs := by
  rcases only_one ho with ⟨_, h2⟩ | ⟨g, hg, h2⟩
  · exact h.only h2 (fun g _ => by omega)
  · exact h.only h2 (fun q hq => by have : q ≠ g := fun e => hne q hq (by rw [hg, e]); omega)
theorem OwnB.apart {w w' : World} {base : Nat} {A B : Option Addr} {c : Nat} {xs : List Bool} (h : OwnB w base A c xs) (ho : ∀ lo hi, (∀ g, blockOf B = some g → lo ≤ g ∧ g < hi) → Only lo hi w w') (hne : ∀ b, blockOf A = some b → blockOf B ≠ some b) : OwnB w' base A c xs := by
  rcases only_one ho with ⟨_, h2⟩ | ⟨g, hg, h2⟩
  · exact h.only h2 (fun g _ => by omega)
  · exact h.only h2 (fun q hq => by have : q ≠ g := fun e => hne q hq (by rw [hg, e]); omega)

/-- all parts lie in blocks from lo on and below hi -/
structure ShPtr.In (p : ShPtr) (lo hi : Nat) : Prop where
  k : ∀ g, blockOf p.K = some g → lo ≤ g ∧ g < hi
  f : ∀ g, blockOf p.F = some g → lo ≤ g ∧ g < hi
  t : ∀ g, blockOf p.S = some g → lo ≤ g ∧ g < hi
  m : ∀ g, blockOf p.M = some g → lo ≤ g ∧ g < hi
theorem ShOwn.inn {w : World} {base : Nat} {p : ShPtr} {s : Shp} (h : ShOwn w base p s) : p.In base w.heap.size := ⟨h.k.blocks, h.f.blocks, h.t.blocks, h.m.blocks⟩

set_option maxRecDepth 100000 in
set_option maxHeartbeats 1000000 in
theorem markShapes_own (base lo hi : Nat) (p : ShPtr) (s : Shp) (k0 : Int) (w : World) (h : ShOwn w base p s) (hA : p.In lo hi) (hk0 : 0 ≤ k0) (hk1 : k0 ≤ 1000) (h1 : s.kinds.length ≤ 1000) (h2 : s.full.length ≤ 1000) (h3 : s.stack.length ≤ 1000) (h4 : s.memo.length ≤ 1000) :
    Calls Tryd.prog 11 #[.agg #[.slice p.K s.kinds.length p.c1, .slice p.F s.full.length p.c2, .slice p.S s.stack.length p.c3, .slice p.M s.memo.length p.c4, .bool s.done], .int .i64 k0] w fun e w' => e = .returned (.int .i64 (shEnd k0 s)) ∧ ShOwn w' base p (marksSh k0 s) ∧ Save lo hi w w' := by
  have hB : Below w.heap.size w (w.alloc (.cells #[.slice p.K s.kinds.length p.c1, .slice p.F s.full.length p.c2, .slice p.S s.stack.length p.c3, .slice p.M s.memo.length p.c4, .bool s.done] 27)) := (Below.refl _ _).alloc (Nat.le_refl _) _
  have l0 := Lies.new w #[.slice p.K s.kinds.length p.c1, .slice p.F s.full.length p.c2, .slice p.S s.stack.length p.c3, .slice p.M s.memo.length p.c4, .bool s.done] 27
  have hp := hide h.inn
  have HA := hide hA
  have Hkf := hide h.kf
  have Hkt := hide h.kt
  have Hkm := hide h.km
  have Hft := hide h.ft
  have Hfm := hide h.fm
  have Htm := hide h.tm
  have hk := h.k.below hB
  have hf := h.f.below hB
  have ht := h.t.below hB
  have hm := h.m.below hB
  clear h hA
  go_enter Tryd.func11, Tryd.ntmps11
  go_upto_region 1 with fail
  generalize w.alloc (.cells #[.slice p.K s.kinds.length p.c1, .slice p.F s.full.length p.c2, .slice p.S s.stack.length p.c3, .slice p.M s.memo.length p.c4, .bool s.done] 27) = W at hB l0 hk hf ht hm ⊢
  have e0 := l0.cell 0
  simp only [List.getElem?_toArray, List.getElem?_cons_zero] at e0
  have HS0 := hide (Save.of_below (lo := lo) (hi := hi) hB)
  clear hB
  go_wp2_with fail
  refine (markIntS_own base p.K p.c1 s.kinds k0 W hk hk0 (by omega) (by omega)).mono ?_
  rintro e w1 ⟨rfl, hk1', hO1⟩
  have l1 : Lies w1 w.heap.size _ _ := ((hO1 0 w.heap.size (fun g hg => ⟨Nat.zero_le _, (hp.out.k g hg).2⟩)).block _ (by omega)).trans l0
  have e1 := l1.cell 1
  simp only [List.getElem?_toArray, List.getElem?_cons_zero, List.getElem?_cons_succ] at e1
  have HF1 := hide (hf.apart hO1 (fun b hb e => Hkf.out b e hb))
  have HT1 := hide (ht.apart hO1 (fun b hb e => Hkt.out b e hb))
  have HM1 := hide (hm.apart hO1 (fun b hb e => Hkm.out b e hb))
  have HS1 := hide (HS0.out.trans (Save.of_only (hO1 lo hi HA.out.k)))
  have HK1 := hide hk1'
  clear hO1 hk1' hk hf ht hm l0 e0
  go_wp2_with fail
  refine (markBoolS_own base p.F p.c2 s.full (k0 + s.kinds.length) w1 HF1.out (by omega) (by omega) (by omega)).mono ?_
  rintro e w2 ⟨rfl, hf2, hO2⟩
  have l2 : Lies w2 w.heap.size _ _ := ((hO2 0 w.heap.size (fun g hg => ⟨Nat.zero_le _, (hp.out.f g hg).2⟩)).block _ (by omega)).trans l1
  have e2 := l2.cell 2
  simp only [List.getElem?_toArray, List.getElem?_cons_zero, List.getElem?_cons_succ] at e2
  have HK2 := hide (HK1.out.apart hO2 (fun b hb e => Hkf.out b hb e))
  have HT2 := hide (HT1.out.apart hO2 (fun b hb e => Hft.out b e hb))
  have HM2 := hide (HM1.out.apart hO2 (fun b hb e => Hfm.out b e hb))
  have HS2 := hide (HS1.out.trans (Save.of_only (hO2 lo hi HA.out.f)))
  have HF2 := hide hf2
  clear hO2 hf2 HK1 HF1 HT1 HM1 HS1 l1 e1
  go_wp2_with fail
  refine (markIntS_own base p.S p.c3 s.stack (k0 + s.kinds.length + s.full.length) w2 HT2.out (by omega) (by omega) (by omega)).mono ?_
  rintro e w3 ⟨rfl, ht3, hO3⟩
  have l3 : Lies w3 w.heap.size _ _ := ((hO3 0 w.heap.size (fun g hg => ⟨Nat.zero_le _, (hp.out.t g hg).2⟩)).block _ (by omega)).trans l2
  have e3 := l3.cell 3
  simp only [List.getElem?_toArray, List.getElem?_cons_zero, List.getElem?_cons_succ] at e3
  have HK3 := hide (HK2.out.apart hO3 (fun b hb e => Hkt.out b hb e))
  have HF3 := hide (HF2.out.apart hO3 (fun b hb e => Hft.out b hb e))
  have HM3 := hide (HM2.out.apart hO3 (fun b hb e => Htm.out b e hb))
  have HS3 := hide (HS2.out.trans (Save.of_only (hO3 lo hi HA.out.t)))
  have HT3 := hide ht3
  clear hO3 ht3 HK2 HF2 HT2 HM2 HS2 l2 e2
  go_wp2_with fail
  refine (markIntS_own base p.M p.c4 s.memo (k0 + s.kinds.length + s.full.length + s.stack.length) w3 HM3.out (by omega) (by omega) (by omega)).mono ?_
  rintro e w4 ⟨rfl, hm4, hO4⟩
  have HK4 := hide (HK3.out.apart hO4 (fun b hb e => Hkm.out b hb e))
  have HF4 := hide (HF3.out.apart hO4 (fun b hb e => Hfm.out b hb e))
  have HT4 := hide (HT3.out.apart hO4 (fun b hb e => Htm.out b hb e))
  have HS4 := hide (HS3.out.trans (Save.of_only (hO4 lo hi HA.out.m)))
  have HM4 := hide hm4
  clear hO4 hm4 HK3 HF3 HT3 HM3 HS3 l3 e3
  go_wp2
  go_ret
  exact ⟨rfl, ⟨HK4.out, HF4.out, HT4.out, HM4.out, Hkf.out, Hkt.out, Hkm.out, Hft.out, Hfm.out, Htm.out⟩, HS4.out⟩

set_option maxRecDepth 100000 in
set_option maxHeartbeats 1000000 in
theorem heldShapes_own (p : ShPtr) (s : Shp) (k0 : Int) (w : World) (hk : IntsAt w w.heap.size p.K (marksSh k0 s).kinds) (hf : BoolsAt w w.heap.size p.F (marksSh k0 s).full) (ht : IntsAt w w.heap.size p.S (marksSh k0 s).stack) (hm : IntsAt w w.heap.size p.M (marksSh k0 s).memo) (hk0 : 0 ≤ k0) (hk1 : k0 ≤ 1000) (h1 : s.kinds.length ≤ 1000) (h2 : s.full.length ≤ 1000) (h3 : s.stack.length ≤ 1000) (h4 : s.memo.length ≤ 1000) :
    Calls Tryd.prog 12 #[.agg #[.slice p.K s.kinds.length p.c1, .slice p.F s.full.length p.c2, .slice p.S s.stack.length p.c3, .slice p.M s.memo.length p.c4, .bool s.done], .int .i64 k0] w fun e w' => e = .returned (.int .i64 (shEnd k0 s)) ∧ Below w.heap.size w w' := by
  have hB : Below w.heap.size w (w.alloc (.cells #[.slice p.K s.kinds.length p.c1, .slice p.F s.full.length p.c2, .slice p.S s.stack.length p.c3, .slice p.M s.memo.length p.c4, .bool s.done] 27)) := (Below.refl _ _).alloc (Nat.le_refl _) _
  have l0 := Lies.new w #[.slice p.K s.kinds.length p.c1, .slice p.F s.full.length p.c2, .slice p.S s.stack.length p.c3, .slice p.M s.memo.length p.c4, .bool s.done] 27
  have HK := hide (hk.later hB (Nat.le_refl _))
  have HF := hide (hf.later hB (Nat.le_refl _))
  have HT := hide (ht.later hB (Nat.le_refl _))
  have HM := hide (hm.later hB (Nat.le_refl _))
  clear hk hf ht hm
  have d1 : decide (k0 + (s.kinds.length : Int) < 0) = false := decide_eq_false (by omega)
  have d2 : decide (k0 + (s.kinds.length : Int) + (s.full.length : Int) < 0) = false := decide_eq_false (by omega)
  have d3 : decide (k0 + (s.kinds.length : Int) + (s.full.length : Int) + (s.stack.length : Int) < 0) = false := decide_eq_false (by omega)
  have d4 : decide (k0 + (s.kinds.length : Int) + (s.full.length : Int) + (s.stack.length : Int) + (s.memo.length : Int) < 0) = false := decide_eq_false (by omega)
  go_enter Tryd.func12, Tryd.ntmps12
  go_upto_region 1 with fail
  generalize w.alloc (.cells #[.slice p.K s.kinds.length p.c1, .slice p.F s.full.length p.c2, .slice p.S s.stack.length p.c3, .slice p.M s.memo.length p.c4, .bool s.done] 27) = W at hB l0 HK HF HT HM ⊢
  have e0 := l0.cell 0
  have e1 := l0.cell 1
  have e2 := l0.cell 2
  have e3 := l0.cell 3
  simp only [List.getElem?_toArray, List.getElem?_cons_zero, List.getElem?_cons_succ] at e0 e1 e2 e3
  have HB := hide hB
  clear l0 hB
  go_wp2_with fail
  refine (heldIntS_any p.K s.kinds.length p.c1 k0 W HK.out hk0 (by omega) (by omega)).mono ?_
  rintro e w1 ⟨rfl, rfl⟩
  go_wp2_with fail
  refine (heldBoolS_any p.F s.full.length p.c2 (k0 + s.kinds.length) W HF.out (by omega) (by omega) (by omega)).mono ?_
  rintro e w2 ⟨rfl, rfl⟩
  go_wp2_with fail
  refine (heldIntS_any p.S s.stack.length p.c3 (k0 + s.kinds.length + s.full.length) W HT.out (by omega) (by omega) (by omega)).mono ?_
  rintro e w3 ⟨rfl, rfl⟩
  go_wp2_with fail
  refine (heldIntS_any p.M s.memo.length p.c4 (k0 + s.kinds.length + s.full.length + s.stack.length) W HM.out (by omega) (by omega) (by omega)).mono ?_
  rintro e w4 ⟨rfl, rfl⟩
  go_wp2
  go_ret
  exact ⟨rfl, HB.out⟩

end Go.Proofs.YtanicidkmfoooabDoor

namespace Go.Proofs.YtanicidkmfoooabDoor
open Go.RowKit
set_option linter.unusedVariables false

theorem OwnB.keepK {lo hi base : Nat} {a b : World} {A : Option Addr} {c : Nat} {xs : List Bool} (h : OwnB a base A c xs) (k : Keeps lo hi a b) (h1 : lo ≤ base) (h2 : hi = a.heap.size) : OwnB b base A c xs := by
  have hb := h.blocks
  refine ⟨h.own.1, ?_⟩
  rcases h.own.2 with h3 | ⟨g, cap, cur, hv, hg, hh, r⟩
  · exact .inl h3
  · refine .inr ⟨g, cap, cur, hv, hg, (k.block g (by omega) ?_).trans hh, r⟩
    rw [h2]
    exact (hb g (by injection hv with hv; rw [hv]; rfl)).2

theorem ShOwn.keepS {lo hi base : Nat} {a b : World} {p : ShPtr} {s : Shp} (h : ShOwn a base p s) (k : Keeps lo hi a b) (h1 : lo ≤ base) (h2 : hi = a.heap.size) : ShOwn b base p s :=
  ⟨h.k.keepK k h1 h2, h.f.keepK k h1 h2, h.t.keepK k h1 h2, h.m.keepK k h1 h2, h.kf, h.kt, h.km, h.ft, h.fm, h.tm⟩

theorem ShOwn.atF {w : World} {base : Nat} {p : ShPtr} {s : Shp} (h : ShOwn w base p s) (hf : ShFew s) : ShAt w w.heap.size p s := by
  have h1 := hf.k
  have h2 := hf.f
  have h3 := hf.t
  have h4 := hf.m
  exact ⟨h.k.ints hf.k64 (by omega), h.k.nil, h.f.bools (by omega), h.f.nil, h.t.ints hf.t64 (by omega), h.t.nil, h.m.ints hf.m64 (by omega), h.m.nil⟩

theorem marks_64 {k : Int} {n : Nat} (h0 : 0 ≤ k) (h1 : k ≤ 100000) (hn : n ≤ 1000) : ∀ x ∈ marks k n, In64 x := by
  intro x hx
  obtain ⟨q, hq, rfl⟩ := List.mem_map.1 hx
  have := List.mem_range.1 hq
  constructor <;> omega

theorem heldShapes_of (base : Nat) (p : ShPtr) (s : Shp) (k0 : Int) (w : World) (h : ShOwn w base p (marksSh k0 s)) (hk0 : 0 ≤ k0) (hk1 : k0 ≤ 1000) (hf : ShFew s) :
    Calls Tryd.prog 12 #[.agg #[.slice p.K s.kinds.length p.c1, .slice p.F s.full.length p.c2, .slice p.S s.stack.length p.c3, .slice p.M s.memo.length p.c4, .bool s.done], .int .i64 k0] w fun e w' => e = .returned (.int .i64 (shEnd k0 s)) ∧ Below w.heap.size w w' := by
  have h1 := hf.k
  have h2 := hf.f
  have h3 := hf.t
  have h4 := hf.m
  have l1 := marks_len k0 s.kinds.length
  have l2 := marksB_len (k0 + s.kinds.length) s.full.length
  have l3 := marks_len (k0 + s.kinds.length + s.full.length) s.stack.length
  have l4 := marks_len (k0 + s.kinds.length + s.full.length + s.stack.length) s.memo.length
  refine heldShapes_own p s k0 w (h.k.ints (marks_64 hk0 (by omega) (by omega)) ?_) (h.f.bools ?_) (h.t.ints (marks_64 (by omega) (by omega) (by omega)) ?_) (h.m.ints (marks_64 (by omega) (by omega) (by omega)) ?_) hk0 hk1 (by omega) (by omega) (by omega) (by omega)
  · show (marks k0 s.kinds.length).length ≤ _
    omega
  · show (marksB (k0 + s.kinds.length) s.full.length).length ≤ _
    omega
  · show (marks (k0 + s.kinds.length + s.full.length) s.stack.length).length ≤ _
    omega
  · show (marks (k0 + s.kinds.length + s.full.length + s.stack.length) s.memo.length).length ≤ _
    omega

end Go.Proofs.YtanicidkmfoooabDoor
