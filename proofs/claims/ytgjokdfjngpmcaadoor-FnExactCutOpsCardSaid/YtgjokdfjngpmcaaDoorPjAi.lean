/-
  Lemmas, several texts in one: ChkA, ChkB.
-/
import Derived.Test.YtgjokdfjngpmcaaDoorChkM
import Derived.Test.YtgjokdfjngpmcaaDoorSb
import Derived.Deep.Cut
import Derived.Deep.LoopGhost
namespace Go.Proofs.YtgjokdfjngpmcaaDoor
open Go.RowKit
set_option linter.unusedVariables false

set_option maxHeartbeats 1000000 in
theorem aboveMark_any (A : Option Addr) (xs : List Int) (c : Nat) (w : World) (h : IntsAt w w.heap.size A xs) (hm : ∀ x ∈ xs, -1 ≤ x) :
    Calls Tryd.prog 43 #[.slice A xs.length c] w fun e w' => e = .returned (.int .i64 (above xs : Int)) ∧ w' = w := by
  have hl := h.len
  have Hm := hide hm
  clear hm
  go_enter Tryd.func43, Tryd.ntmps43
  go_wp2_with fail
  go_loop [3] (fun v => ∃ k : Nat, k ≤ xs.length ∧ v = .int .i64 (k : Int) ∧ aboveTo xs k = above xs) (fun v => (intOf v).toNat)
  case atStart => exact ⟨xs.length, Nat.le_refl _, rfl, rfl⟩
  case round =>
    obtain ⟨k, hk, rfl, ha⟩ := hrel
    have Ha := hide ha
    clear ha
    cases k with
    | zero =>
      go_wp2
      go_ret
      exact ⟨by have := Ha.out; unfold aboveTo at this; rw [← this] <;> rfl, rfl⟩
    | succ k =>
      obtain ⟨b, off, x, rfl, hbl, hx, hmem, hcx⟩ := h.at_ (k := k) (by omega)
      have hge := Hm.out x hmem
      have hg : xs.getD k 0 = x := by rw [List.getD_eq_getElem?_getD, hx]; rfl
      have h0 : (0 : Int) < ((k + 1 : Nat) : Int) := by omega
      have e1 : ((k + 1 : Nat) : Int) - 1 = (k : Int) := by omega
      have h1 : (0 : Int) ≤ (k : Int) := by omega
      have h2 : (k : Int) < (xs.length : Int) := by omega
      clear hx hmem
      by_cases hx0 : x < 0
      · obtain rfl : x = -1 := by omega
        have HR := hide (show above xs = k + 1 from by rw [← Ha.out]; unfold aboveTo; rw [hg, if_pos (by omega)])
        clear hg
        go_wp2
        go_ret
        exact ⟨by rw [HR.out] <;> rfl, rfl⟩
      · have hn : (x != -1) = true := by simp <;> omega
        have HR := hide (show aboveTo xs k = above xs from by rw [← Ha.out]; conv => { rhs; unfold aboveTo }; rw [hg, if_neg hx0])
        clear hg
        go_wp2
        go_round
        case rel => exact ⟨k, by omega, rfl, HR.out⟩
        case measure => simp [intOf] <;> omega

set_option maxRecDepth 100000 in
set_option maxHeartbeats 4000000 in
theorem useAt_any (q base off : Nat) (p : ShPtr) (s : Shp) (a : Int) (w : World) (h : SbAt w base q off p s) (hs : s.Small) (ha : a < (s.stack.length : Int)) (ha0 : -1000 ≤ a) :
    Calls Tryd.prog 47 #[.pointer (some ⟨q, off, none⟩), .int .i64 a] w fun e w' => e = .returned (.int .i64 (s.useAt a : Int)) ∧ w' = w := by
  have hat := h.own.at_ hs
  obtain ⟨e0, e1, e2, e3, e4, _, _, _, _, _⟩ := h.c
  have hok := hs.ok
  by_cases hneg : a < 0
  · have HR := hide (show s.useAt a = 64 by unfold Shp.useAt; rw [if_pos hneg])
    clear h hs hat
    go_enter Tryd.func47, Tryd.ntmps47
    go_wp2
    go_ret
    exact ⟨by rw [HR.out] <;> rfl, rfl⟩
  · obtain ⟨i, rfl⟩ := Int.eq_ofNat_of_zero_le (show 0 ≤ a by omega)
    obtain ⟨b, off, x, hS, hbl, hx, hmem, hcx⟩ := hat.t.at_ (k := i) (by omega)
    obtain ⟨hx1, hx2⟩ := hok.st x hmem
    have hu : s.useAt (i : Int) = s.useOf x := by
      unfold Shp.useAt
      rw [if_neg hneg, Int.toNat_natCast, List.getD_eq_getElem?_getD, hx]; rfl
    have h1 : (0 : Int) ≤ (i : Int) := by omega
    rw [hS] at e2
    by_cases hx0 : x < 0
    · obtain rfl : x = -1 := by omega
      have HR := hide (show s.useAt (i : Int) = 32 by rw [hu]; rfl)
      clear h hs hat hu hmem hx
      go_enter Tryd.func47, Tryd.ntmps47
      go_wp2
      go_ret
      exact ⟨by rw [HR.out] <;> rfl, rfl⟩
    · obtain ⟨j, rfl⟩ := Int.eq_ofNat_of_zero_le (show 0 ≤ x by omega)
      have hjk : j < s.kinds.length := by omega
      obtain ⟨bk, ok, kd, hK, _, hkx, hkm, hck⟩ := hat.k.at_ hjk
      obtain ⟨bf, of, f, hF, _, hfx, _, hcf⟩ := hat.f.at_ (k := j) (by rw [hok.fl]; exact hjk)
      have hkk := hok.kk kd hkm
      have hu2 : s.useAt (i : Int) = useBits kd f := by
        rw [hu]
        unfold Shp.useOf
        rw [if_neg hx0, Int.toNat_natCast, List.getD_eq_getElem?_getD, hkx, List.getD_eq_getElem?_getD, hfx]; rfl
      have hn : ((j : Int) == -1) = false := by simp <;> omega
      have h2 : (0 : Int) ≤ (j : Int) := by omega
      have h3 : (j : Int) < (s.kinds.length : Int) := by omega
      have h4 : (j : Int) < (s.full.length : Int) := by rw [hok.fl]; exact h3
      rw [hK] at e0
      rw [hF] at e1
      have HU := hide hu2
      clear h hs hat hu hu2 hmem hx hkx hkm hfx hok
      have h6 : kd = 0 ∨ kd = 1 ∨ kd = 2 ∨ kd = 3 ∨ kd = 4 ∨ kd = 5 := by omega
      rcases h6 with rfl | rfl | rfl | rfl | rfl | rfl
      all_goals
        cases f <;>
        (go_enter Tryd.func47, Tryd.ntmps47
         go_wp2
         go_ret
         exact ⟨by rw [HU.out] <;> rfl, rfl⟩)

theorem useAt_q (q base off : Nat) (p : ShPtr) (s : Shp) (a : Int) (u : Nat) (w : World) (h : SbAt w base q off p s) (hs : s.Small) (ha : a < (s.stack.length : Int)) (ha0 : -1000 ≤ a) (hu : s.useAt a = u) :
    Calls Tryd.prog 47 #[.pointer (some ⟨q, off, none⟩), .int .i64 a] w fun e w' => e = .returned (.int .i64 (u : Int)) ∧ w' = w := by
  rw [← hu]
  exact useAt_any q base off p s a w h hs ha ha0

end Go.Proofs.YtgjokdfjngpmcaaDoor

namespace Go.Proofs.YtgjokdfjngpmcaaDoor
open Go.RowKit
set_option linter.unusedVariables false

theorem Shp.use_bits (s : Shp) (a : Int) : s.useAt a = 64 ∨ s.useAt a = 32 ∨ s.useAt a = 3 ∨ s.useAt a = 5 ∨ s.useAt a = 9 ∨ s.useAt a = 17 ∨ s.useAt a = 1 := by
  unfold Shp.useAt Shp.useOf useBits
  repeat' split
  all_goals simp

/-- a search for one that is no key has come to k -/
theorem keysP_at {s : Shp} (h : s.Ok) {a k : Nat} (hfree : ∀ j, a ≤ j → j < s.stack.length → 0 ≤ s.stack.getD j 0) (hk : k < s.stack.length) (hak : a ≤ k) (he : (k - a) % 2 = 0) (hn : s.useAt (k : Int) &&& 2 = 0) : ¬ KeysP s.kinds (s.stack.drop a) := by
  intro hp
  have hx : (s.stack.drop a)[k - a]? = some (s.stack.getD k 0) := by
    rw [List.getElem?_drop, show a + (k - a) = k by omega, List.getD_eq_getElem?_getD, List.getElem?_eq_getElem hk]; rfl
  have hkey := hp (k - a) _ he hx
  have h0 := hfree k hak hk
  have hu : s.useAt (k : Int) = useBits (s.kinds.getD (s.stack.getD k 0).toNat 0) (s.full.getD (s.stack.getD k 0).toNat false) := by
    unfold Shp.useAt Shp.useOf
    rw [if_neg (by omega), Int.toNat_natCast, if_neg (by omega)]
  have := (useBits_2 _ (s.full.getD (s.stack.getD k 0).toNat false)).2 hkey
  rw [← hu] at this
  omega

theorem keysP_all {s : Shp} (h : s.Ok) {a : Nat} (hfree : ∀ j, a ≤ j → j < s.stack.length → 0 ≤ s.stack.getD j 0) (hall : ∀ j, a ≤ j → j < s.stack.length → (j - a) % 2 = 0 → s.useAt (j : Int) &&& 2 = 2) : KeysP s.kinds (s.stack.drop a) := by
  intro i x hi hx
  rw [List.getElem?_drop] at hx
  have hl := (List.getElem?_eq_some_iff.1 hx).1
  have h0 := hfree (a + i) (by omega) hl
  have hg : s.stack.getD (a + i) 0 = x := by rw [List.getD_eq_getElem?_getD, hx]; rfl
  have hu : s.useAt ((a + i : Nat) : Int) = useBits (s.kinds.getD x.toNat 0) (s.full.getD x.toNat false) := by
    unfold Shp.useAt Shp.useOf
    rw [if_neg (by omega), Int.toNat_natCast, hg, if_neg (by omega)]
  have := hall (a + i) (by omega) hl (by omega)
  rw [hu] at this
  exact (useBits_2 _ _).1 this

theorem and_two : ∀ u : Nat, (u = 64 ∨ u = 32 ∨ u = 3 ∨ u = 5 ∨ u = 9 ∨ u = 17 ∨ u = 1) → (u = 3 ∧ u &&& 2 = 2) ∨ (u ≠ 3 ∧ u &&& 2 = 0) := by
  intro u hu
  rcases hu with rfl | rfl | rfl | rfl | rfl | rfl | rfl <;> decide

set_option maxRecDepth 100000 in
set_option maxHeartbeats 4000000 in
theorem useFrom_any (q base off : Nat) (p : ShPtr) (s : Shp) (a : Nat) (w : World) (h : SbAt w base q off p s) (hs : s.Small) (ha : a ≤ s.stack.length) (hfree : ∀ j, a ≤ j → j < s.stack.length → 0 ≤ s.stack.getD j 0) :
    Calls Tryd.prog 48 #[.pointer (some ⟨q, off, none⟩), .int .i64 (a : Int)] w fun e w' => e = .returned (.int .i64 (s.useFrom a : Int)) ∧ w' = w := by
  obtain ⟨e0, e1, e2, e3, e4, _, _, _, _, _⟩ := h.c
  have hst := hs.t
  have Hh := hide h
  have Hs := hide hs
  have Hfree := hide hfree
  clear h hs hfree
  by_cases hev : (s.stack.length - a) % 2 = 0
  · obtain ⟨m, hm⟩ : ∃ m, s.stack.length - a = 2 * m := ⟨(s.stack.length - a) / 2, by omega⟩
    have hmod : ((s.stack.length : Int) - (a : Int)) % 2 = 0 := by omega
    have hb : (((s.stack.length : Int) - (a : Int)) % 2 != 0) = false := by rw [hmod]; rfl
    have Hm := hide hm
    have Hev := hide hev
    clear hm hmod hev
    go_enter Tryd.func48, Tryd.ntmps48
    go_wp2_with fail
    go_loop [1] (fun v => ∃ k : Nat, a ≤ k ∧ k ≤ s.stack.length ∧ (k - a) % 2 = 0 ∧ v = .int .i64 (k : Int) ∧ ∀ j, a ≤ j → j < k → (j - a) % 2 = 0 → s.useAt (j : Int) &&& 2 = 2) (fun v => s.stack.length - (intOf v).toNat)
    case atStart => exact ⟨a, Nat.le_refl _, ha, by simp, rfl, fun j h1 h2 => absurd h1 (by omega)⟩
    case round =>
      obtain ⟨k, hak, hk, hke, rfl, hall⟩ := hrel
      have Hall := hide hall
      have Hke := hide hke
      clear hall hke
      by_cases hlt : k < s.stack.length
      · obtain ⟨u, hu⟩ : ∃ u, s.useAt (k : Int) = u := ⟨_, rfl⟩
        have hu7 := s.use_bits (k : Int)
        rw [hu] at hu7
        have h2 := and_two u hu7
        have hcall := useAt_q q base off p s (k : Int) u w Hh.out Hs.out (by omega) (by omega) hu
        have Hu := hide hu
        have hlt2 : (k : Int) < (s.stack.length : Int) := by omega
        clear hu
        rcases hu7 with rfl | rfl | rfl | rfl | rfl | rfl | rfl
        case inr.inr.inl =>
          go_wp2_with fail
          refine hcall.mono ?_
          rintro e w' ⟨rfl, rfl⟩
          have hkl2 : k + 2 ≤ s.stack.length := by
            have := Hm.out
            have := Hke.out
            omega
          go_wp2
          go_round
          case rel => exact ⟨k + 2, by omega, hkl2, by have := Hke.out; omega, by go_num, fun j h1 h2 h3 => by
            by_cases e : j = k
            · subst e; rw [Hu.out] <;> decide
            · have : j ≠ k + 1 := fun e => by subst e; have := Hke.out; omega
              exact Hall.out j h1 (by omega) h3⟩
          case measure => simp [intOf]; omega
        all_goals
          (have HR := hide (show s.useFrom a = 0 by
             unfold Shp.useFrom
             rw [if_neg]
             intro hh
             exact keysP_at Hs.out.ok Hfree.out hlt hak Hke.out (by rw [Hu.out]; decide) hh.2)
           go_wp2_with fail
           refine hcall.mono ?_
           rintro e w' ⟨rfl, rfl⟩
           go_wp2
           go_ret
           exact ⟨by rw [HR.out] <;> rfl, rfl⟩)
      · obtain rfl : k = s.stack.length := by omega
        have HR := hide (show s.useFrom a = 128 by
          unfold Shp.useFrom
          rw [if_pos ⟨Hev.out, keysP_all Hs.out.ok Hfree.out Hall.out⟩])
        go_wp2
        go_ret
        exact ⟨by rw [HR.out] <;> rfl, rfl⟩
  · obtain ⟨m, hm⟩ : ∃ m, s.stack.length - a = 2 * m + 1 := ⟨(s.stack.length - a) / 2, by omega⟩
    have hmod : ((s.stack.length : Int) - (a : Int)) % 2 = 1 := by omega
    have hb : (((s.stack.length : Int) - (a : Int)) % 2 != 0) = true := by rw [hmod]; rfl
    have HR := hide (show s.useFrom a = 0 by unfold Shp.useFrom; rw [if_neg (fun hh => hev hh.1)])
    clear hm hmod hev
    go_enter Tryd.func48, Tryd.ntmps48
    go_wp2
    go_ret
    exact ⟨by rw [HR.out] <;> rfl, rfl⟩

end Go.Proofs.YtgjokdfjngpmcaaDoor
