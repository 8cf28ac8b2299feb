/-
  Lemmas, several texts in one: ChkB, VOp.
-/
import Derived.Test.YtgkbblaaodcmnaaDoorPjAg
import Derived.Test.YtgkbblaaodcmnaaDoorPjAa
import Derived.Test.YtgkbblaaodcmnaaDoorPjAf
namespace Go.Proofs.YtgkbblaaodcmnaaDoor
open Go.RowKit
set_option linter.unusedVariables false

theorem Shp.use_bits (s : Shp) (a : Int) : s.useAt a = 64 ∨ s.useAt a = 32 ∨ s.useAt a = 3 ∨ s.useAt a = 5 ∨ s.useAt a = 9 ∨ s.useAt a = 17 ∨ s.useAt a = 1 := by
  unfold Shp.useAt Shp.useOf useBits
  repeat' split
  all_goals simp

/-- a search for one that is no key has come to k -/
theorem keysP_at {s : Shp} (h : s.Ok) {a k : Nat} (hfree : ∀ j, a ≤ j → j < s.stack.length → 0 ≤ s.stack.getD j 0) (hk : k < s.stack.length) (hak : a ≤ k) (he : (k - a) % 2 = 0) (hn : s.useAt (k : Int) &&& 2 = 0) : ¬ KeysP s.kinds (s.stack.drop a) := by
  intro hp
  have hx : (s.stack.drop a)[k - a]? = some (s.stack.getD k 0) := by
    rw [List.getElem?_drop, show a + (k - a) = k by omega, List.getD_eq_getElem?_getD, List.getElem?_eq_getElem hk]; rfl
  have hkey := hp (k - a) _ he hx
  have h0 := hfree k hak hk
  have hu : s.useAt (k : Int) = useBits (s.kinds.getD (s.stack.getD k 0).toNat 0) (s.full.getD (s.stack.getD k 0).toNat false) := by
    unfold Shp.useAt Shp.useOf
    rw [if_neg (by omega), Int.toNat_natCast, if_neg (by omega)]
  have := (useBits_2 _ (s.full.getD (s.stack.getD k 0).toNat false)).2 hkey
  rw [← hu] at this
  omega

theorem keysP_all {s : Shp} (h : s.Ok) {a : Nat} (hfree : ∀ j, a ≤ j → j < s.stack.length → 0 ≤ s.stack.getD j 0) (hall : ∀ j, a ≤ j → j < s.stack.length → (j - a) % 2 = 0 → s.useAt (j : Int) &&& 2 = 2) : KeysP s.kinds (s.stack.drop a) := by
  intro i x hi hx
  rw [List.getElem?_drop] at hx
  have hl := (List.getElem?_eq_some_iff.1 hx).1
  have h0 := hfree (a + i) (by omega) hl
  have hg : s.stack.getD (a + i) 0 = x := by rw [List.getD_eq_getElem?_getD, hx]; rfl
  have hu : s.useAt ((a + i : Nat) : Int) = useBits (s.kinds.getD x.toNat 0) (s.full.getD x.toNat false) := by
    unfold Shp.useAt Shp.useOf
    rw [if_neg (by omega), Int.toNat_natCast, hg, if_neg (by omega)]
  have := hall (a + i) (by omega) hl (by omega)
  rw [hu] at this
  exact (useBits_2 _ _).1 this

theorem and_two : ∀ u : Nat, (u = 64 ∨ u = 32 ∨ u = 3 ∨ u = 5 ∨ u = 9 ∨ u = 17 ∨ u = 1) → (u = 3 ∧ u &&& 2 = 2) ∨ (u ≠ 3 ∧ u &&& 2 = 0) := by
  intro u hu
  rcases hu with rfl | rfl | rfl | rfl | rfl | rfl | rfl <;> decide

set_option maxRecDepth 100000 in
set_option maxHeartbeats 4000000 in
theorem useFrom_any (q base off : Nat) (p : ShPtr) (s : Shp) (a : Nat) (w : World) (h : SbAt w base q off p s) (hs : s.Small) (ha : a ≤ s.stack.length) (hfree : ∀ j, a ≤ j → j < s.stack.length → 0 ≤ s.stack.getD j 0) :
    Calls Tryd.prog 48 #[.pointer (some ⟨q, off, none⟩), .int .i64 (a : Int)] w fun e w' => e = .returned (.int .i64 (s.useFrom a : Int)) ∧ w' = w := by
  obtain ⟨e0, e1, e2, e3, e4, _, _, _, _, _⟩ := h.c
  have hst := hs.t
  have Hh := hide h
  have Hs := hide hs
  have Hfree := hide hfree
  clear h hs hfree
  by_cases hev : (s.stack.length - a) % 2 = 0
  · obtain ⟨m, hm⟩ : ∃ m, s.stack.length - a = 2 * m := ⟨(s.stack.length - a) / 2, by omega⟩
    have hmod : ((s.stack.length : Int) - (a : Int)) % 2 = 0 := by omega
    have hb : (((s.stack.length : Int) - (a : Int)) % 2 != 0) = false := by rw [hmod]; rfl
    have Hm := hide hm
    have Hev := hide hev
    clear hm hmod hev
    go_enter Tryd.func48, Tryd.ntmps48
    go_wp2_with fail
    go_loop [1] (fun v => ∃ k : Nat, a ≤ k ∧ k ≤ s.stack.length ∧ (k - a) % 2 = 0 ∧ v = .int .i64 (k : Int) ∧ ∀ j, a ≤ j → j < k → (j - a) % 2 = 0 → s.useAt (j : Int) &&& 2 = 2) (fun v => s.stack.length - (intOf v).toNat)
    case atStart => exact ⟨a, Nat.le_refl _, ha, by simp, rfl, fun j h1 h2 => absurd h1 (by omega)⟩
    case round =>
      obtain ⟨k, hak, hk, hke, rfl, hall⟩ := hrel
      have Hall := hide hall
      have Hke := hide hke
      clear hall hke
      by_cases hlt : k < s.stack.length
      · obtain ⟨u, hu⟩ : ∃ u, s.useAt (k : Int) = u := ⟨_, rfl⟩
        have hu7 := s.use_bits (k : Int)
        rw [hu] at hu7
        have h2 := and_two u hu7
        have hcall := useAt_q q base off p s (k : Int) u w Hh.out Hs.out (by omega) (by omega) hu
        have Hu := hide hu
        have hlt2 : (k : Int) < (s.stack.length : Int) := by omega
        clear hu
        rcases hu7 with rfl | rfl | rfl | rfl | rfl | rfl | rfl
        case inr.inr.inl =>
          go_wp2_with fail
          refine hcall.mono ?_
          rintro e w' ⟨rfl, rfl⟩
          have hkl2 : k + 2 ≤ s.stack.length := by
            have := Hm.out
            have := Hke.out
            omega
          go_wp2
          go_round
          case rel => exact ⟨k + 2, by omega, hkl2, by have := Hke.out; omega, by go_num, fun j h1 h2 h3 => by
            by_cases e : j = k
            · subst e; rw [Hu.out] <;> decide
            · have : j ≠ k + 1 := fun e => by subst e; have := Hke.out; omega
              exact Hall.out j h1 (by omega) h3⟩
          case measure => simp [intOf]; omega
        all_goals
          (have HR := hide (show s.useFrom a = 0 by
             unfold Shp.useFrom
             rw [if_neg]
             intro hh
             exact keysP_at Hs.out.ok Hfree.out hlt hak Hke.out (by rw [Hu.out]; decide) hh.2)
           go_wp2_with fail
           refine hcall.mono ?_
           rintro e w' ⟨rfl, rfl⟩
           go_wp2
           go_ret
           exact ⟨by rw [HR.out] <;> rfl, rfl⟩)
      · obtain rfl : k = s.stack.length := by omega
        have HR := hide (show s.useFrom a = 128 by
          unfold Shp.useFrom
          rw [if_pos ⟨Hev.out, keysP_all Hs.out.ok Hfree.out Hall.out⟩])
        go_wp2
        go_ret
        exact ⟨by rw [HR.out] <;> rfl, rfl⟩
  · obtain ⟨m, hm⟩ : ∃ m, s.stack.length - a = 2 * m + 1 := ⟨(s.stack.length - a) / 2, by omega⟩
    have hmod : ((s.stack.length : Int) - (a : Int)) % 2 = 1 := by omega
    have hb : (((s.stack.length : Int) - (a : Int)) % 2 != 0) = true := by rw [hmod]; rfl
    have HR := hide (show s.useFrom a = 0 by unfold Shp.useFrom; rw [if_neg (fun hh => hev hh.1)])
    clear hm hmod hev
    go_enter Tryd.func48, Tryd.ntmps48
    go_wp2
    go_ret
    exact ⟨by rw [HR.out] <;> rfl, rfl⟩

end Go.Proofs.YtgkbblaaodcmnaaDoor

namespace Go.Proofs.YtgkbblaaodcmnaaDoor
open Go.RowKit
set_option linter.unusedVariables false

set_option maxHeartbeats 1000000 in
theorem argOf_any (c : Int) (w : World) :
    Calls Tryd.prog 26 #[.int .i64 c] w fun e w' => e = .returned (.int .i64 (argMost c)) ∧ w = w' := by
  by_cases h0 : c = 0
  · subst h0
    go_enter Tryd.func26, Tryd.ntmps26
    go_wp2
    go_ret
    exact ⟨rfl, rfl⟩
  · by_cases h1 : c = 1
    · subst h1
      go_enter Tryd.func26, Tryd.ntmps26
      go_wp2
      go_ret
      exact ⟨rfl, rfl⟩
    · by_cases h13 : c = 13
      · subst h13
        go_enter Tryd.func26, Tryd.ntmps26
        go_wp2
        go_ret
        exact ⟨rfl, rfl⟩
      · by_cases h15 : c = 15
        · subst h15
          go_enter Tryd.func26, Tryd.ntmps26
          go_wp2
          go_ret
          exact ⟨rfl, rfl⟩
        · by_cases h16 : c = 16
          · subst h16
            go_enter Tryd.func26, Tryd.ntmps26
            go_wp2
            go_ret
            exact ⟨rfl, rfl⟩
          · have HF := hide (show argMost c = -1 by unfold argMost; simp [h0, h1, h13, h15, h16])
            have t0 : (c == 0) = false := by simpa using h0
            have t1 : (c == 1) = false := by simpa using h1
            have t2 : (c == 13) = false := by simpa using h13
            have t3 : (c == 15) = false := by simpa using h15
            have t4 : (c == 16) = false := by simpa using h16
            clear h0 h1 h13 h15 h16
            go_enter Tryd.func26, Tryd.ntmps26
            go_wp2
            go_ret
            exact ⟨ret_int HF.out.symm, rfl⟩

set_option maxHeartbeats 1000000 in
theorem validOp_any (o : Od) (w : World) :
    Calls Tryd.prog 19 #[.agg #[.int .i64 o.code, .int .i64 o.arg]] w fun e w' => e = .returned (.bool (tf (OdOk o))) ∧ Below w.heap.size w w' := by
  have hB : Below w.heap.size w (w.alloc (.cells #[.int .i64 o.code, .int .i64 o.arg] 40)) := (Below.refl _ _).alloc (Nat.le_refl _) _
  have l1 := Lies.new w #[.int .i64 o.code, .int .i64 o.arg] 40
  have hm := argMost_range o.code
  by_cases hc : 0 ≤ o.code ∧ o.code ≤ 19
  · by_cases hneg : argMost o.code < 0
    · by_cases ha : o.arg = 0
      · have HF := hide (show tf (OdOk o) = true from tf_true ⟨hc, .inl ⟨hneg, ha⟩⟩)
        have t : (o.arg == 0) = true := by simpa using ha
        obtain ⟨hc1, hc2⟩ := hc
        clear ha
        go_enter Tryd.func19, Tryd.ntmps19
        go_wp2_with fail
        refine (argOf_any o.code _).mono ?_
        rintro e w' ⟨rfl, rfl⟩
        generalize argMost o.code = M at hneg hm ⊢
        have d : decide (M < 0) = true := by simpa using hneg
        go_wp2_with fail
        refine (inRange_yes o.code 0 19 _ hc1 hc2).mono ?_
        rintro e w' ⟨rfl, rfl⟩
        go_wp2
        go_ret
        exact ⟨ret_bool HF.out.symm, hB⟩
      · have HF := hide (show tf (OdOk o) = false from tf_false fun h => by rcases h.2 with h | h; exact ha h.2; omega)
        have t : (o.arg == 0) = false := by simpa using ha
        obtain ⟨hc1, hc2⟩ := hc
        clear ha
        go_enter Tryd.func19, Tryd.ntmps19
        go_wp2_with fail
        refine (argOf_any o.code _).mono ?_
        rintro e w' ⟨rfl, rfl⟩
        generalize argMost o.code = M at hneg hm ⊢
        have d : decide (M < 0) = true := by simpa using hneg
        have d2 : decide (0 ≤ M) = false := by simpa using hneg
        go_wp2_with fail
        refine (inRange_yes o.code 0 19 _ hc1 hc2).mono ?_
        rintro e w' ⟨rfl, rfl⟩
        go_wp2
        go_ret
        exact ⟨ret_bool HF.out.symm, hB⟩
    · by_cases ha : 0 ≤ o.arg ∧ o.arg ≤ argMost o.code
      · have HF := hide (show tf (OdOk o) = true from tf_true ⟨hc, .inr ⟨by omega, ha⟩⟩)
        obtain ⟨hc1, hc2⟩ := hc
        obtain ⟨ha1, ha2⟩ := ha
        go_enter Tryd.func19, Tryd.ntmps19
        go_wp2_with fail
        refine (argOf_any o.code _).mono ?_
        rintro e w' ⟨rfl, rfl⟩
        generalize argMost o.code = M at hneg hm ha2 ⊢
        have d : decide (M < 0) = false := by simpa using hneg
        have d2 : decide (0 ≤ M) = true := by simpa using hneg
        go_wp2_with fail
        refine (inRange_yes o.code 0 19 _ hc1 hc2).mono ?_
        rintro e w' ⟨rfl, rfl⟩
        go_wp2_with fail
        refine (inRange_yes o.arg 0 M _ ha1 ha2).mono ?_
        rintro e w' ⟨rfl, rfl⟩
        go_wp2
        go_ret
        exact ⟨ret_bool HF.out.symm, hB⟩
      · have HF := hide (show tf (OdOk o) = false from tf_false fun h => by rcases h.2 with h | h; omega; exact ha h.2)
        obtain ⟨hc1, hc2⟩ := hc
        have ha' : o.arg < 0 ∨ argMost o.code < o.arg := by omega
        clear ha
        go_enter Tryd.func19, Tryd.ntmps19
        go_wp2_with fail
        refine (argOf_any o.code _).mono ?_
        rintro e w' ⟨rfl, rfl⟩
        generalize argMost o.code = M at hneg hm ha' ⊢
        have d : decide (M < 0) = false := by simpa using hneg
        have d2 : decide (0 ≤ M) = true := by simpa using hneg
        go_wp2_with fail
        refine (inRange_yes o.code 0 19 _ hc1 hc2).mono ?_
        rintro e w' ⟨rfl, rfl⟩
        go_wp2_with fail
        refine (inRange_no o.arg 0 M _ ha').mono ?_
        rintro e w' ⟨rfl, rfl⟩
        clear ha'
        go_wp2
        go_ret
        exact ⟨ret_bool HF.out.symm, hB⟩
  · have HF := hide (show tf (OdOk o) = false from tf_false fun h => hc h.1)
    have hc' : o.code < 0 ∨ 19 < o.code := by omega
    clear hc
    go_enter Tryd.func19, Tryd.ntmps19
    go_wp2_with fail
    refine (argOf_any o.code _).mono ?_
    rintro e w' ⟨rfl, rfl⟩
    generalize argMost o.code = M at hm ⊢
    go_wp2_with fail
    refine (inRange_no o.code 0 19 _ hc').mono ?_
    rintro e w' ⟨rfl, rfl⟩
    clear hc'
    go_wp2
    go_ret
    exact ⟨ret_bool HF.out.symm, hB⟩

end Go.Proofs.YtgkbblaaodcmnaaDoor
