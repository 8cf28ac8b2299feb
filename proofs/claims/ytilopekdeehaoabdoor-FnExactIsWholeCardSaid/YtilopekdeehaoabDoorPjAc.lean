/-
  Lemmas, several texts in one: ChkB, ChkC.
-/
import Derived.Test.YtilopekdeehaoabDoorPjAb
import Derived.Deep.RegionHeld3
import Derived.StillTailTactics
namespace Go.Proofs.YtilopekdeehaoabDoor
open Go.RowKit
set_option linter.unusedVariables false

theorem Shp.use_bits (s : Shp) (a : Int) : s.useAt a = 64 ∨ s.useAt a = 32 ∨ s.useAt a = 3 ∨ s.useAt a = 5 ∨ s.useAt a = 9 ∨ s.useAt a = 17 ∨ s.useAt a = 1 := by
  unfold Shp.useAt Shp.useOf useBits
  repeat' split
  all_goals simp

/-- a search for one that is no key has come to k -/
theorem keysP_at {s : Shp} (h : s.Ok) {a k : Nat} (hfree : ∀ j, a ≤ j → j < s.stack.length → 0 ≤ s.stack.getD j 0) (hk : k < s.stack.length) (hak : a ≤ k) (he : (k - a) % 2 = 0) (hn : s.useAt (k : Int) &&& 2 = 0) : ¬ KeysP s.kinds (s.stack.drop a) := by
  intro hp
  have hx : (s.stack.drop a)[k - a]? = some (s.stack.getD k 0) := by
    rw [List.getElem?_drop, show a + (k - a) = k by omega, List.getD_eq_getElem?_getD, List.getElem?_eq_getElem hk]; rfl
  have hkey := hp (k - a) _ he hx
  have h0 := hfree k hak hk
  have hu : s.useAt (k : Int) = useBits (s.kinds.getD (s.stack.getD k 0).toNat 0) (s.full.getD (s.stack.getD k 0).toNat false) := by
    unfold Shp.useAt Shp.useOf
    rw [if_neg (by omega), Int.toNat_natCast, if_neg (by omega)]
  have := (useBits_2 _ (s.full.getD (s.stack.getD k 0).toNat false)).2 hkey
  rw [← hu] at this
  omega

theorem keysP_all {s : Shp} (h : s.Ok) {a : Nat} (hfree : ∀ j, a ≤ j → j < s.stack.length → 0 ≤ s.stack.getD j 0) (hall : ∀ j, a ≤ j → j < s.stack.length → (j - a) % 2 = 0 → s.useAt (j : Int) &&& 2 = 2) : KeysP s.kinds (s.stack.drop a) := by
  intro i x hi hx
  rw [List.getElem?_drop] at hx
  have hl := (List.getElem?_eq_some_iff.1 hx).1
  have h0 := hfree (a + i) (by omega) hl
  have hg : s.stack.getD (a + i) 0 = x := by rw [List.getD_eq_getElem?_getD, hx]; rfl
  have hu : s.useAt ((a + i : Nat) : Int) = useBits (s.kinds.getD x.toNat 0) (s.full.getD x.toNat false) := by
    unfold Shp.useAt Shp.useOf
    rw [if_neg (by omega), Int.toNat_natCast, hg, if_neg (by omega)]
  have := hall (a + i) (by omega) hl (by omega)
  rw [hu] at this
  exact (useBits_2 _ _).1 this

theorem and_two : ∀ u : Nat, (u = 64 ∨ u = 32 ∨ u = 3 ∨ u = 5 ∨ u = 9 ∨ u = 17 ∨ u = 1) → (u = 3 ∧ u &&& 2 = 2) ∨ (u ≠ 3 ∧ u &&& 2 = 0) := by
  intro u hu
  rcases hu with rfl | rfl | rfl | rfl | rfl | rfl | rfl <;> decide

set_option maxRecDepth 100000 in
set_option maxHeartbeats 4000000 in
theorem useFrom_any (q base off : Nat) (p : ShPtr) (s : Shp) (a : Nat) (w : World) (h : SbAt w base q off p s) (hs : s.Small) (ha : a ≤ s.stack.length) (hfree : ∀ j, a ≤ j → j < s.stack.length → 0 ≤ s.stack.getD j 0) :
    Calls Tryd.prog 45 #[.pointer (some ⟨q, off, none⟩), .int .i64 (a : Int)] w fun e w' => e = .returned (.int .i64 (s.useFrom a : Int)) ∧ w' = w := by
  obtain ⟨e0, e1, e2, e3, e4, _, _, _, _, _⟩ := h.c
  have hst := hs.t
  have Hh := hide h
  have Hs := hide hs
  have Hfree := hide hfree
  clear h hs hfree
  by_cases hev : (s.stack.length - a) % 2 = 0
  · obtain ⟨m, hm⟩ : ∃ m, s.stack.length - a = 2 * m := ⟨(s.stack.length - a) / 2, by omega⟩
    have hmod : ((s.stack.length : Int) - (a : Int)) % 2 = 0 := by omega
    have hb : (((s.stack.length : Int) - (a : Int)) % 2 != 0) = false := by rw [hmod]; rfl
    have Hm := hide hm
    have Hev := hide hev
    clear hm hmod hev
    go_enter Tryd.func45, Tryd.ntmps45
    go_wp2_with fail
    go_loop [1] (fun v => ∃ k : Nat, a ≤ k ∧ k ≤ s.stack.length ∧ (k - a) % 2 = 0 ∧ v = .int .i64 (k : Int) ∧ ∀ j, a ≤ j → j < k → (j - a) % 2 = 0 → s.useAt (j : Int) &&& 2 = 2) (fun v => s.stack.length - (intOf v).toNat)
    case atStart => exact ⟨a, Nat.le_refl _, ha, by simp, rfl, fun j h1 h2 => absurd h1 (by omega)⟩
    case round =>
      obtain ⟨k, hak, hk, hke, rfl, hall⟩ := hrel
      have Hall := hide hall
      have Hke := hide hke
      clear hall hke
      by_cases hlt : k < s.stack.length
      · obtain ⟨u, hu⟩ : ∃ u, s.useAt (k : Int) = u := ⟨_, rfl⟩
        have hu7 := s.use_bits (k : Int)
        rw [hu] at hu7
        have h2 := and_two u hu7
        have hcall := useAt_q q base off p s (k : Int) u w Hh.out Hs.out (by omega) (by omega) hu
        have Hu := hide hu
        have hlt2 : (k : Int) < (s.stack.length : Int) := by omega
        clear hu
        rcases hu7 with rfl | rfl | rfl | rfl | rfl | rfl | rfl
        case inr.inr.inl =>
          go_wp2_with fail
          refine hcall.mono ?_
          rintro e w' ⟨rfl, rfl⟩
          have hkl2 : k + 2 ≤ s.stack.length := by
            have := Hm.out
            have := Hke.out
            omega
          go_wp2
          go_round
          case rel => exact ⟨k + 2, by omega, hkl2, by have := Hke.out; omega, by go_num, fun j h1 h2 h3 => by
            by_cases e : j = k
            · subst e; rw [Hu.out] <;> decide
            · have : j ≠ k + 1 := fun e => by subst e; have := Hke.out; omega
              exact Hall.out j h1 (by omega) h3⟩
          case measure => simp [intOf]; omega
        all_goals
          (have HR := hide (show s.useFrom a = 0 by
             unfold Shp.useFrom
             rw [if_neg]
             intro hh
             exact keysP_at Hs.out.ok Hfree.out hlt hak Hke.out (by rw [Hu.out]; decide) hh.2)
           go_wp2_with fail
           refine hcall.mono ?_
           rintro e w' ⟨rfl, rfl⟩
           go_wp2
           go_ret
           exact ⟨by rw [HR.out] <;> rfl, rfl⟩)
      · obtain rfl : k = s.stack.length := by omega
        have HR := hide (show s.useFrom a = 128 by
          unfold Shp.useFrom
          rw [if_pos ⟨Hev.out, keysP_all Hs.out.ok Hfree.out Hall.out⟩])
        go_wp2
        go_ret
        exact ⟨by rw [HR.out] <;> rfl, rfl⟩
  · obtain ⟨m, hm⟩ : ∃ m, s.stack.length - a = 2 * m + 1 := ⟨(s.stack.length - a) / 2, by omega⟩
    have hmod : ((s.stack.length : Int) - (a : Int)) % 2 = 1 := by omega
    have hb : (((s.stack.length : Int) - (a : Int)) % 2 != 0) = true := by rw [hmod]; rfl
    have HR := hide (show s.useFrom a = 0 by unfold Shp.useFrom; rw [if_neg (fun hh => hev hh.1)])
    clear hm hmod hev
    go_enter Tryd.func45, Tryd.ntmps45
    go_wp2
    go_ret
    exact ⟨by rw [HR.out] <;> rfl, rfl⟩

end Go.Proofs.YtilopekdeehaoabDoor

namespace Go.Proofs.YtilopekdeehaoabDoor
open Go.RowKit
set_option linter.unusedVariables false

/-- three numbers come back -/
def GivesV (w : World) (v0 v1 v2 : Nat) (e : Ending) (w' : World) : Prop := e = .returned (.agg #[.int .i64 (v0 : Int), .int .i64 (v1 : Int), .int .i64 (v2 : Int)]) ∧ Below w.heap.size w w'

theorem lies3_set {w : World} {g : Nat} {u0 u1 u2 : Value} {t : TypeId} (h : Lies w g #[u0, u1, u2] t) (v0 v1 v2 : Value) : Lies (((w.setCell ⟨g, 0, none⟩ v0).setCell ⟨g, 1, none⟩ v1).setCell ⟨g, 2, none⟩ v2) g #[v0, v1, v2] t := by
  have := ((h.set 0 v0).set 1 v1).set 2 v2
  simpa using this

set_option maxRecDepth 100000 in
set_option maxHeartbeats 4000000 in
theorem viewOf_all (q base off : Nat) (p : ShPtr) (s : Shp) (v0 v1 v2 : Nat) (w : World) (h : SbAt w base q off p s) (hs : s.Small) (h0 : s.useAt ((above s.stack : Int) - 2) = v0) (h1 : s.useAt ((above s.stack : Int) - 1) = v1) (h2 : s.useFrom (above s.stack) = v2) :
    Calls Tryd.prog 38 #[.pointer (some ⟨q, off, none⟩), .int .i64 (-1)] w (GivesV w v0 v1 v2) := by
  have hB : Below w.heap.size w (w.alloc (.cells #[.int .i64 0, .int .i64 0, .int .i64 0] 66)) := (Below.refl _ _).alloc (Nat.le_refl _) _
  have l1 := Lies.new w #[.int .i64 0, .int .i64 0, .int .i64 0] 66
  have hb := h.alloc (.cells #[.int .i64 0, .int .i64 0, .int .i64 0] 66)
  have hal := above_le s.stack
  have hst := hs.t
  have hfree : ∀ j, above s.stack ≤ j → j < s.stack.length → 0 ≤ s.stack.getD j 0 := fun j h1 h2 => above_free h1 h2
  have hok := hs.ok.st
  have H2 := hide h2
  have Hs := hide hs
  have HB := hide hB
  have hat := (hb.own.at_ hs).t
  have c0 := useAt_q q base off p s ((above s.stack : Int) - 2) v0 _ hb hs (by omega) (by omega) h0
  have c1 := useAt_q q base off p s ((above s.stack : Int) - 1) v1 _ hb hs (by omega) (by omega) h1
  have c2 := useFrom_any q base off p s (above s.stack) _ hb hs hal hfree
  have cm := aboveMark_any p.S s.stack p.c3 _ hat (fun x hx => (hok x hx).1)
  rw [h2] at c2
  obtain ⟨e0, e1, e2, e3, e4, _, _, _, _, _⟩ := hb.c
  have C0 := hide c0
  have C1 := hide c1
  have C2 := hide c2
  have CM := hide cm
  clear c0 c1 c2 cm hat hfree hok h hs hb hB h0 h1 h2 H2
  generalize above s.stack = a at hal C0 C1 C2 CM
  go_enter Tryd.func38, Tryd.ntmps38
  go_upto_region 1 with fail
  generalize w.alloc (.cells #[.int .i64 0, .int .i64 0, .int .i64 0] 66) = W at l1 e0 e1 e2 e3 e4 C0 C1 C2 CM HB ⊢
  go_wp2_with fail
  refine CM.out.mono ?_
  rintro e w' ⟨rfl, rfl⟩
  go_wp2_with fail
  refine C0.out.mono ?_
  rintro e w' ⟨rfl, rfl⟩
  go_wp2_with fail
  refine C1.out.mono ?_
  rintro e w' ⟨rfl, rfl⟩
  go_wp2_with fail
  refine C2.out.mono ?_
  rintro e w' ⟨rfl, rfl⟩
  have l2 := lies3_set l1 (.int .i64 (v0 : Int)) (.int .i64 (v1 : Int)) (.int .i64 (v2 : Int))
  have s0 := l2.cell 0
  have s1 := l2.cell 1
  have s2 := l2.cell 2
  have r0 := l1.cell 0
  have r1 := l1.cell 1
  have r2 := l1.cell 2
  have f0 := l1.frozen 0
  have f1 := l1.frozen 1
  have f2 := l1.frozen 2
  simp only [List.getElem?_toArray, List.getElem?_cons_zero, List.getElem?_cons_succ] at s0 s1 s2 r0 r1 r2
  have HB2 := hide (((HB.out.setCell (p := ⟨w.heap.size, 0, none⟩) (Nat.le_refl _) (.int .i64 (v0 : Int))).setCell (p := ⟨w.heap.size, 1, none⟩) (Nat.le_refl _) (.int .i64 (v1 : Int))).setCell (p := ⟨w.heap.size, 2, none⟩) (Nat.le_refl _) (.int .i64 (v2 : Int)))
  clear l1 l2 C0 C1 C2 CM
  go_wp2
  refine bodyPost_ret (v := .agg #[.int .i64 (v0 : Int), .int .i64 (v1 : Int), .int .i64 (v2 : Int)]) (by simp [results, Tryd.results38, go_sem, s0, s1, s2]) rfl ?_
  exact ⟨rfl, HB2.out⟩

set_option maxRecDepth 100000 in
set_option maxHeartbeats 4000000 in
theorem viewOf_top (q base off : Nat) (p : ShPtr) (s : Shp) (t : Int) (v0 v1 v2 : Nat) (w : World) (h : SbAt w base q off p s) (hs : s.Small) (ht : t ≠ -1) (h0 : s.useAt ((s.stack.length : Int) - 1 - 2) = v0) (h1 : s.useAt ((s.stack.length : Int) - 1 - 1) = v1) (h2 : s.useAt ((s.stack.length : Int) - 1) = v2) :
    Calls Tryd.prog 38 #[.pointer (some ⟨q, off, none⟩), .int .i64 t] w (GivesV w v0 v1 v2) := by
  have hB : Below w.heap.size w (w.alloc (.cells #[.int .i64 0, .int .i64 0, .int .i64 0] 66)) := (Below.refl _ _).alloc (Nat.le_refl _) _
  have l1 := Lies.new w #[.int .i64 0, .int .i64 0, .int .i64 0] 66
  have hb := h.alloc (.cells #[.int .i64 0, .int .i64 0, .int .i64 0] 66)
  have hst := hs.t
  have HB := hide hB
  have c0 := useAt_q q base off p s ((s.stack.length : Int) - 1 - 2) v0 _ hb hs (by omega) (by omega) h0
  have c1 := useAt_q q base off p s ((s.stack.length : Int) - 1 - 1) v1 _ hb hs (by omega) (by omega) h1
  have c2 := useAt_q q base off p s ((s.stack.length : Int) - 1) v2 _ hb hs (by omega) (by omega) h2
  obtain ⟨e0, e1, e2, e3, e4, _, _, _, _, _⟩ := hb.c
  have C0 := hide c0
  have C1 := hide c1
  have C2 := hide c2
  have htn : (t == -1) = false := by simpa using ht
  clear c0 c1 c2 h hs hb hB h0 h1 h2
  go_enter Tryd.func38, Tryd.ntmps38
  go_upto_region 1 with fail
  generalize w.alloc (.cells #[.int .i64 0, .int .i64 0, .int .i64 0] 66) = W at l1 e0 e1 e2 e3 e4 C0 C1 C2 HB ⊢
  go_wp2_with fail
  refine C0.out.mono ?_
  rintro e w' ⟨rfl, rfl⟩
  go_wp2_with fail
  refine C1.out.mono ?_
  rintro e w' ⟨rfl, rfl⟩
  go_wp2_with fail
  refine C2.out.mono ?_
  rintro e w' ⟨rfl, rfl⟩
  have l2 := lies3_set l1 (.int .i64 (v0 : Int)) (.int .i64 (v1 : Int)) (.int .i64 (v2 : Int))
  have s0 := l2.cell 0
  have s1 := l2.cell 1
  have s2 := l2.cell 2
  have r0 := l1.cell 0
  have r1 := l1.cell 1
  have r2 := l1.cell 2
  have f0 := l1.frozen 0
  have f1 := l1.frozen 1
  have f2 := l1.frozen 2
  simp only [List.getElem?_toArray, List.getElem?_cons_zero, List.getElem?_cons_succ] at s0 s1 s2 r0 r1 r2
  have HB2 := hide (((HB.out.setCell (p := ⟨w.heap.size, 0, none⟩) (Nat.le_refl _) (.int .i64 (v0 : Int))).setCell (p := ⟨w.heap.size, 1, none⟩) (Nat.le_refl _) (.int .i64 (v1 : Int))).setCell (p := ⟨w.heap.size, 2, none⟩) (Nat.le_refl _) (.int .i64 (v2 : Int)))
  clear l1 l2 C0 C1 C2
  go_wp2
  refine bodyPost_ret (v := .agg #[.int .i64 (v0 : Int), .int .i64 (v1 : Int), .int .i64 (v2 : Int)]) (by simp [results, Tryd.results38, go_sem, s0, s1, s2]) rfl ?_
  exact ⟨rfl, HB2.out⟩

end Go.Proofs.YtilopekdeehaoabDoor
