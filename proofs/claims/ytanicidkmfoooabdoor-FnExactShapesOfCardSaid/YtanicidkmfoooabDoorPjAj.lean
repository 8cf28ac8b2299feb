/-
  Lemmas, several texts in one: ChkB, ChkE, ChkF, NewSh, MarkO.
-/
import Derived.Test.YtanicidkmfoooabDoorPjAh
import Derived.StillTailTactics
import Derived.Deep.RegionLaw
import Derived.Test.YtanicidkmfoooabDoorPjAd
import Derived.Test.YtanicidkmfoooabDoorSb
import Derived.Test.YtanicidkmfoooabDoorPjAc
import Derived.Test.YtanicidkmfoooabDoorPjAb
namespace Go.Proofs.YtanicidkmfoooabDoor
open Go.RowKit
set_option linter.unusedVariables false

theorem Shp.use_bits (s : Shp) (a : Int) : s.useAt a = 64 ∨ s.useAt a = 32 ∨ s.useAt a = 3 ∨ s.useAt a = 5 ∨ s.useAt a = 9 ∨ s.useAt a = 17 ∨ s.useAt a = 1 := by
  unfold Shp.useAt Shp.useOf useBits
  repeat' split
  all_goals simp

/-- a search for one that is no key has come to k -/
theorem keysP_at {s : Shp} (h : s.Ok) {a k : Nat} (hfree : ∀ j, a ≤ j → j < s.stack.length → 0 ≤ s.stack.getD j 0) (hk : k < s.stack.length) (hak : a ≤ k) (he : (k - a) % 2 = 0) (hn : s.useAt (k : Int) &&& 2 = 0) : ¬ KeysP s.kinds (s.stack.drop a) := by
  intro hp
  have hx : (s.stack.drop a)[k - a]? = some (s.stack.getD k 0) := by
    rw [List.getElem?_drop, show a + (k - a) = k by omega, List.getD_eq_getElem?_getD, List.getElem?_eq_getElem hk]; rfl
  have hkey := hp (k - a) _ he hx
  have h0 := hfree k hak hk
  have hu : s.useAt (k : Int) = useBits (s.kinds.getD (s.stack.getD k 0).toNat 0) (s.full.getD (s.stack.getD k 0).toNat false) := by
    unfold Shp.useAt Shp.useOf
    rw [if_neg (by omega), Int.toNat_natCast, if_neg (by omega)]
  have := (useBits_2 _ (s.full.getD (s.stack.getD k 0).toNat false)).2 hkey
  rw [← hu] at this
  omega

theorem keysP_all {s : Shp} (h : s.Ok) {a : Nat} (hfree : ∀ j, a ≤ j → j < s.stack.length → 0 ≤ s.stack.getD j 0) (hall : ∀ j, a ≤ j → j < s.stack.length → (j - a) % 2 = 0 → s.useAt (j : Int) &&& 2 = 2) : KeysP s.kinds (s.stack.drop a) := by
  intro i x hi hx
  rw [List.getElem?_drop] at hx
  have hl := (List.getElem?_eq_some_iff.1 hx).1
  have h0 := hfree (a + i) (by omega) hl
  have hg : s.stack.getD (a + i) 0 = x := by rw [List.getD_eq_getElem?_getD, hx]; rfl
  have hu : s.useAt ((a + i : Nat) : Int) = useBits (s.kinds.getD x.toNat 0) (s.full.getD x.toNat false) := by
    unfold Shp.useAt Shp.useOf
    rw [if_neg (by omega), Int.toNat_natCast, hg, if_neg (by omega)]
  have := hall (a + i) (by omega) hl (by omega)
  rw [hu] at this
  exact (useBits_2 _ _).1 this

theorem and_two : ∀ u : Nat, (u = 64 ∨ u = 32 ∨ u = 3 ∨ u = 5 ∨ u = 9 ∨ u = 17 ∨ u = 1) → (u = 3 ∧ u &&& 2 = 2) ∨ (u ≠ 3 ∧ u &&& 2 = 0) := by
  intro u hu
  rcases hu with rfl | rfl | rfl | rfl | rfl | rfl | rfl <;> decide

set_option maxRecDepth 100000 in
set_option maxHeartbeats 4000000 in
theorem useFrom_any (q base off : Nat) (p : ShPtr) (s : Shp) (a : Nat) (w : World) (h : SbAt w base q off p s) (hs : s.Small) (ha : a ≤ s.stack.length) (hfree : ∀ j, a ≤ j → j < s.stack.length → 0 ≤ s.stack.getD j 0) :
    Calls Tryd.prog 54 #[.pointer (some ⟨q, off, none⟩), .int .i64 (a : Int)] w fun e w' => e = .returned (.int .i64 (s.useFrom a : Int)) ∧ w' = w := by
  obtain ⟨e0, e1, e2, e3, e4, _, _, _, _, _⟩ := h.c
  have hst := hs.t
  have Hh := hide h
  have Hs := hide hs
  have Hfree := hide hfree
  clear h hs hfree
  by_cases hev : (s.stack.length - a) % 2 = 0
  · obtain ⟨m, hm⟩ : ∃ m, s.stack.length - a = 2 * m := ⟨(s.stack.length - a) / 2, by omega⟩
    have hmod : ((s.stack.length : Int) - (a : Int)) % 2 = 0 := by omega
    have hb : (((s.stack.length : Int) - (a : Int)) % 2 != 0) = false := by rw [hmod]; rfl
    have Hm := hide hm
    have Hev := hide hev
    clear hm hmod hev
    go_enter Tryd.func54, Tryd.ntmps54
    go_wp2_with fail
    go_loop [1] (fun v => ∃ k : Nat, a ≤ k ∧ k ≤ s.stack.length ∧ (k - a) % 2 = 0 ∧ v = .int .i64 (k : Int) ∧ ∀ j, a ≤ j → j < k → (j - a) % 2 = 0 → s.useAt (j : Int) &&& 2 = 2) (fun v => s.stack.length - (intOf v).toNat)
    case atStart => exact ⟨a, Nat.le_refl _, ha, by simp, rfl, fun j h1 h2 => absurd h1 (by omega)⟩
    case round =>
      obtain ⟨k, hak, hk, hke, rfl, hall⟩ := hrel
      have Hall := hide hall
      have Hke := hide hke
      clear hall hke
      by_cases hlt : k < s.stack.length
      · obtain ⟨u, hu⟩ : ∃ u, s.useAt (k : Int) = u := ⟨_, rfl⟩
        have hu7 := s.use_bits (k : Int)
        rw [hu] at hu7
        have h2 := and_two u hu7
        have hcall := useAt_q q base off p s (k : Int) u w Hh.out Hs.out (by omega) (by omega) hu
        have Hu := hide hu
        have hlt2 : (k : Int) < (s.stack.length : Int) := by omega
        clear hu
        rcases hu7 with rfl | rfl | rfl | rfl | rfl | rfl | rfl
        case inr.inr.inl =>
          go_wp2_with fail
          refine hcall.mono ?_
          rintro e w' ⟨rfl, rfl⟩
          have hkl2 : k + 2 ≤ s.stack.length := by
            have := Hm.out
            have := Hke.out
            omega
          go_wp2
          go_round
          case rel => exact ⟨k + 2, by omega, hkl2, by have := Hke.out; omega, by go_num, fun j h1 h2 h3 => by
            by_cases e : j = k
            · subst e; rw [Hu.out] <;> decide
            · have : j ≠ k + 1 := fun e => by subst e; have := Hke.out; omega
              exact Hall.out j h1 (by omega) h3⟩
          case measure => simp [intOf]; omega
        all_goals
          (have HR := hide (show s.useFrom a = 0 by
             unfold Shp.useFrom
             rw [if_neg]
             intro hh
             exact keysP_at Hs.out.ok Hfree.out hlt hak Hke.out (by rw [Hu.out]; decide) hh.2)
           go_wp2_with fail
           refine hcall.mono ?_
           rintro e w' ⟨rfl, rfl⟩
           go_wp2
           go_ret
           exact ⟨by rw [HR.out] <;> rfl, rfl⟩)
      · obtain rfl : k = s.stack.length := by omega
        have HR := hide (show s.useFrom a = 128 by
          unfold Shp.useFrom
          rw [if_pos ⟨Hev.out, keysP_all Hs.out.ok Hfree.out Hall.out⟩])
        go_wp2
        go_ret
        exact ⟨by rw [HR.out] <;> rfl, rfl⟩
  · obtain ⟨m, hm⟩ : ∃ m, s.stack.length - a = 2 * m + 1 := ⟨(s.stack.length - a) / 2, by omega⟩
    have hmod : ((s.stack.length : Int) - (a : Int)) % 2 = 1 := by omega
    have hb : (((s.stack.length : Int) - (a : Int)) % 2 != 0) = true := by rw [hmod]; rfl
    have HR := hide (show s.useFrom a = 0 by unfold Shp.useFrom; rw [if_neg (fun hh => hev hh.1)])
    clear hm hmod hev
    go_enter Tryd.func54, Tryd.ntmps54
    go_wp2
    go_ret
    exact ⟨by rw [HR.out] <;> rfl, rfl⟩

end Go.Proofs.YtanicidkmfoooabDoor

namespace Go.Proofs.YtanicidkmfoooabDoor
open Go.RowKit
set_option linter.unusedVariables false

theorem grown_undrew {w w1 : World} {row : Option Nat} (h : w.drew.grownBy w1 row) : w.grownBy w1 row := ⟨h.os, h.tape, h.output, h.size, h.block⟩

set_option maxRecDepth 100000 in
set_option maxHeartbeats 4000000 in
theorem pushNew_any (q base off : Nat) (p : ShPtr) (s : Shp) (k : Int) (w : World) (h : SbAt w base q off p s) (hs : s.Small) (hbase : base ≤ w.heap.size) (hk : In64 k) :
    Calls Tryd.prog 50 #[.pointer (some ⟨q, off, none⟩), .int .i64 k] w (TurnsSb w base q off p (s.push k)) := by
  have hkl := hs.k
  have htl := hs.t
  have hfl : s.full.length ≤ 1000 := by have := hs.ok.fl; omega
  have hin : In64 (s.kinds.length : Int) := by constructor <;> omega
  have Hh := hide h
  have hlt := h.lt
  have hlit := hide (show IntsAt (w.alloc (.cells #[.int .i64 (s.kinds.length : Int)] 3)).drew (w.alloc (.cells #[.int .i64 (s.kinds.length : Int)] 3)).drew.heap.size (some ⟨w.heap.size, 0, none⟩) [(s.kinds.length : Int)] from by
    have h0 := (IntsAt.lit w [(s.kinds.length : Int)] (by intro v hv; simp at hv; rw [hv]; exact hin) (by simp)).below (Below.refl _ _).drew
    simpa using h0)
  obtain ⟨e0, e1, e2, e3, e4, f0, f1, f2, f3, f4⟩ := h.c
  clear h hs
  go_enter Tryd.func50, Tryd.ntmps50
  go_wp2_with fail
  go_region_law (first
    | (refine step_append_ints (by rfl) _ _ (by rfl) base p.S p.c3 s.stack (by rfl) ((Hh.out.own.t.alloc _).drew) ⟨w.heap.size, 0, none⟩ 1 [(s.kinds.length : Int)] (by simp) (by rfl) hlit.out (by simp; omega) (by simp; omega) ?_; intro zs A' c' w1 hz ho1 hg1 ha1; have HP := hide (Hh.out.pushT ho1 (grown_undrew hg1) ha1); obtain ⟨g0, g1, g2, g3, g4, k0, k1, k2, k3, k4⟩ := Hh.out.c.ofB (Hh.out.grownB (grown_undrew hg1) Hh.out.off_.t)))
  all_goals
    obtain ⟨hX, fX⟩ := HP.out
    have Hz := hide hz.out
    have hzl : zs.length ≤ 1001 := by rw [Hz.out]; simp; omega
    clear hz ho1 hg1 ha1 HP g0 g1 g2 g3 g4 k0 k1 k2 k3 k4 e0 e1 e2 e3 e4 f0 f1 f2 f3 f4 hlit Hh
    have hXs := fX.size
    have HF := hide fX
    generalize w1.setCell ⟨q, off + 2, none⟩ (.slice A' zs.length c') = X at hX HF hXs ⊢
    have HX := hide hX
    obtain ⟨e0, e1, e2, e3, e4, f0, f1, f2, f3, f4⟩ := hX.c
    clear hX fX
    go_wp2_with (first
      | (at_builtin; refine append_ints rfl (.tmp 22) (.tmp 24) rfl base p.K p.c1 s.kinds rfl (HX.out.own.k.alloc _) _ _ 1 [k] rfl (fun e => by cases e) (IntsAt.oneN _ X.heap.size k hk rfl) (by simp <;> omega) (by simp <;> omega) ?_; intro ys A5 c5 w5 hz5 ho5 hg5 ha5; obtain ⟨d0, d1, d2, d3, d4, m0, m1, m2, m3, m4⟩ := HX.out.c.ofB (HX.out.grownB hg5 HX.out.off_.k); have S5 := hide (HX.out.pushK ho5 hg5 ha5); have z5 := hg5.size; simp at z5)
      | (at_builtin; refine append_bools rfl (.tmp 32) (.tmp 33) rfl base p.F p.c2 s.full rfl (S5.out.1.own.f.alloc _) _ _ 1 [false] rfl (fun e => by cases e) (BoolsAt.oneN _ w5.heap.size false (by simp)) (by simp <;> omega) (by simp <;> omega) ?_; intro xs A6 c6 w6 hz6 ho6 hg6 ha6; obtain ⟨p0, p1, p2, p3, p4, n0, n1, n2, n3, n4⟩ := S5.out.1.c.ofB (S5.out.1.grownB hg6 S5.out.1.off_.f); have S6 := hide (S5.out.1.pushF ho6 hg6 ha6)))
    have hp : ({ s with kinds := ys, full := xs, stack := zs } : Shp) = s.push k := by
      unfold Shp.push
      rw [Hz.out, hz5.out, hz6.out]
    have h6 := S6.out.1
    rw [hp] at h6
    go_end0
    exact ⟨rfl, _, h6, (HF.out.trans S5.out.2).trans S6.out.2⟩

/-- what is taken from the stack, told by how much stays -/
theorem take_any (q base off : Nat) (p : ShPtr) (s : Shp) (t : Int) (n : Nat) (w : World) (h : SbAt w base q off p s) (hs : s.Small) (hn : n ≤ s.stack.length) (ht : t ≠ -1) (htn : (n : Int) = (s.stack.length : Int) - t) (ht0 : 0 ≤ t) :
    Calls Tryd.prog 42 #[.pointer (some ⟨q, off, none⟩), .int .i64 t] w (TurnsSb w base q off p (s.cutTo n)) := by
  have htl := hs.t
  have hcap := h.own.t.capLen
  have Hh := hide h
  have hlt := h.lt
  obtain ⟨e0, e1, e2, e3, e4, f0, f1, f2, f3, f4⟩ := h.c
  have ht1 : (t == -1) = false := by simpa using ht
  have hst : IntKind.i64.wrap ((s.stack.length : Int) - t) = (n : Int) := by rw [IntKind.wrap_i64]; omega
  obtain ⟨m, hm⟩ : ∃ m : Nat, s.stack.length = m + n := ⟨s.stack.length - n, by omega⟩
  obtain rfl : t = (m : Int) := by omega
  have hb1 : (0 : Int) ≤ (n : Int) := by omega
  have hb2 : (n : Int) ≤ (s.stack.length : Int) := by omega
  have hb3 : (n : Int) ≤ (p.c3 : Int) := by omega
  have hd : (s.stack.length : Int) - (m : Int) = (n : Int) := by omega
  have Htn := hide htn
  have Hm := hide hm
  have HC := hide (Hh.out.cut hn)
  clear h hs htn ht hst hm
  go_enter Tryd.func42, Tryd.ntmps42
  go_wp2
  go_end0
  exact ⟨rfl, _, HC.out.1, HC.out.2⟩

theorem take_all (q base off : Nat) (p : ShPtr) (s : Shp) (a : Nat) (w : World) (h : SbAt w base q off p s) (hs : s.Small) (ha : above s.stack = a + 1) :
    Calls Tryd.prog 42 #[.pointer (some ⟨q, off, none⟩), .int .i64 (-1)] w (TurnsSb w base q off p (s.cutTo a)) := by
  have htl := hs.t
  have hcap := h.own.t.capLen
  have hal := above_le s.stack
  have Hh := hide h
  have hlt := h.lt
  have hok := hs.ok.st
  have cm := aboveMark_any p.S s.stack p.c3 w (h.own.at_ hs).t (fun x hx => (hok x hx).1)
  rw [ha] at cm
  have CM := hide cm
  obtain ⟨e0, e1, e2, e3, e4, f0, f1, f2, f3, f4⟩ := h.c
  have hb1 : (0 : Int) ≤ (a : Int) := by omega
  have hb2 : (a : Int) + 1 ≤ (s.stack.length : Int) := by omega
  have hb3 : (a : Int) + 1 ≤ (p.c3 : Int) := by omega
  have hb4 : ((a + 1 : Nat) : Int) - 1 = (a : Int) := by omega
  have HC := hide (Hh.out.cut (n := a) (by omega))
  clear h hs ha hal hok cm
  go_enter Tryd.func42, Tryd.ntmps42
  go_wp2_with fail
  refine CM.out.mono ?_
  rintro e w' ⟨rfl, rfl⟩
  go_wp2
  go_end0
  exact ⟨rfl, _, HC.out.1, HC.out.2⟩

end Go.Proofs.YtanicidkmfoooabDoor

namespace Go.Proofs.YtanicidkmfoooabDoor
open Go.RowKit
set_option linter.unusedVariables false

theorem TurnsSb.behind {w W : World} {base q off : Nat} {p : ShPtr} {t : Shp} {e : Ending} {w' : World} (hb : Below w.heap.size w W) (hq : q < w.heap.size) (h : TurnsSb W base q off p t e w') : TurnsSb w base q off p t e w' := by
  obtain ⟨he, p', h1, h2⟩ := h
  exact ⟨he, p', h1, (SbFr.of_below hb hq).trans h2⟩
theorem TurnsSb.mk' {w W w' : World} {base q off : Nat} {p p' : ShPtr} {s t : Shp} (hb : Below w.heap.size w W) (hq : q < w.heap.size) (h : SbAt w' base q off p' t ∧ SbFr W w' q off p p') : TurnsSb w base q off p t (.returned (.tuple #[])) w' :=
  ⟨rfl, p', h.1, (SbFr.of_below hb hq).trans h.2⟩

/-- the codes of orders that push a new thing, and its kind -/
def IsNewOp (c k : Int) : Prop := (c = 0 ∧ k = 0) ∨ (c = 1 ∧ k = 1) ∨ (c = 3 ∧ k = 2) ∨ (c = 4 ∧ k = 2) ∨ (c = 5 ∧ k = 2) ∨ (c = 6 ∧ k = 2) ∨ (c = 7 ∧ k = 3) ∨ (c = 10 ∧ k = 4) ∨ (c = 13 ∧ k = 5)
/-- the codes of orders that do nothing but take -/
def IsIdleOp (c : Int) : Prop := c = 8 ∨ c = 9 ∨ c = 11 ∨ c = 12 ∨ c = 17 ∨ c = 18

set_option maxRecDepth 100000 in
set_option maxHeartbeats 4000000 in
theorem act_new (q base off : Nat) (p : ShPtr) (s : Shp) (cd ar k : Int) (w : World) (h : SbAt w base q off p s) (hs : s.Small) (hbase : base ≤ w.heap.size) (hc : IsNewOp cd k) :
    Calls Tryd.prog 43 #[.pointer (some ⟨q, off, none⟩), .agg #[.int .i64 cd, .int .i64 ar]] w (TurnsSb w base q off p (s.push k)) := by
  have htl := hs.t
  have hlt := h.lt
  have hk : In64 k := by constructor <;> (rcases hc with h | h | h | h | h | h | h | h | h <;> omega)
  have hB := hide ((Below.refl w.heap.size w).alloc (Nat.le_refl _) (.cells #[.int .i64 cd, .int .i64 ar] 39))
  have lo := Lies.new w #[.int .i64 cd, .int .i64 ar] 39
  have h2 := h.alloc (.cells #[.int .i64 cd, .int .i64 ar] 39)
  have HC := hide (pushNew_any q base off p s k _ h2 hs (by simp; omega) hk)
  obtain ⟨e0, e1, e2, e3, e4, f0, f1, f2, f3, f4⟩ := h2.c
  have d0 := lo.cell 0
  have d1 := lo.cell 1
  simp only [List.getElem?_toArray, List.getElem?_cons_zero, List.getElem?_cons_succ] at d0 d1
  clear h hs h2 lo hk
  rcases hc with ⟨rfl, rfl⟩ | ⟨rfl, rfl⟩ | ⟨rfl, rfl⟩ | ⟨rfl, rfl⟩ | ⟨rfl, rfl⟩ | ⟨rfl, rfl⟩ | ⟨rfl, rfl⟩ | ⟨rfl, rfl⟩ | ⟨rfl, rfl⟩
  all_goals
    go_enter Tryd.func43, Tryd.ntmps43
    go_upto_region 1 with fail
    generalize w.alloc (.cells #[.int .i64 _, .int .i64 ar] 39) = W at hB HC e0 e1 e2 e3 e4 f0 f1 f2 f3 f4 d0 d1 ⊢
    go_wp2_with fail
    refine HC.out.mono ?_
    clear HC
    rintro e w' hE
    have hE2 := hE.behind hB.out hlt
    obtain ⟨rfl, hE3⟩ := hE
    have HE := hide hE2
    clear hE2 hE3
    go_wp2
    go_end0
    exact HE.out

set_option maxRecDepth 100000 in
set_option maxHeartbeats 4000000 in
theorem act_idle (q base off : Nat) (p : ShPtr) (s : Shp) (cd ar : Int) (w : World) (h : SbAt w base q off p s) (hs : s.Small) (hbase : base ≤ w.heap.size) (hc : IsIdleOp cd) :
    Calls Tryd.prog 43 #[.pointer (some ⟨q, off, none⟩), .agg #[.int .i64 cd, .int .i64 ar]] w (TurnsSb w base q off p s) := by
  have htl := hs.t
  have hlt := h.lt
  have hB := hide ((Below.refl w.heap.size w).alloc (Nat.le_refl _) (.cells #[.int .i64 cd, .int .i64 ar] 39))
  have lo := Lies.new w #[.int .i64 cd, .int .i64 ar] 39
  have h2 := h.alloc (.cells #[.int .i64 cd, .int .i64 ar] 39)
  have H2 := hide h2
  obtain ⟨e0, e1, e2, e3, e4, f0, f1, f2, f3, f4⟩ := h2.c
  have d0 := lo.cell 0
  have d1 := lo.cell 1
  simp only [List.getElem?_toArray, List.getElem?_cons_zero, List.getElem?_cons_succ] at d0 d1
  clear h hs h2 lo
  rcases hc with rfl | rfl | rfl | rfl | rfl | rfl
  all_goals
    go_enter Tryd.func43, Tryd.ntmps43
    go_upto_region 1 with fail
    generalize w.alloc (.cells #[.int .i64 _, .int .i64 ar] 39) = W at hB H2 e0 e1 e2 e3 e4 f0 f1 f2 f3 f4 d0 d1 ⊢
    go_wp2
    go_end0
    exact TurnsSb.mk' (s := s) hB.out hlt ⟨H2.out, SbFr.refl _ _ _ _⟩

set_option maxRecDepth 100000 in
set_option maxHeartbeats 4000000 in
theorem act_stop (q base off : Nat) (p : ShPtr) (s : Shp) (ar : Int) (w : World) (h : SbAt w base q off p s) (hs : s.Small) (hbase : base ≤ w.heap.size) :
    Calls Tryd.prog 43 #[.pointer (some ⟨q, off, none⟩), .agg #[.int .i64 19, .int .i64 ar]] w (TurnsSb w base q off p { s with done := true }) := by
  have htl := hs.t
  have hlt := h.lt
  have hB := hide ((Below.refl w.heap.size w).alloc (Nat.le_refl _) (.cells #[.int .i64 19, .int .i64 ar] 39))
  have lo := Lies.new w #[.int .i64 19, .int .i64 ar] 39
  have h2 := h.alloc (.cells #[.int .i64 19, .int .i64 ar] 39)
  have H2 := hide h2
  obtain ⟨e0, e1, e2, e3, e4, f0, f1, f2, f3, f4⟩ := h2.c
  have d0 := lo.cell 0
  have d1 := lo.cell 1
  simp only [List.getElem?_toArray, List.getElem?_cons_zero, List.getElem?_cons_succ] at d0 d1
  clear h hs h2 lo
  go_enter Tryd.func43, Tryd.ntmps43
  go_upto_region 1 with fail
  generalize w.alloc (.cells #[.int .i64 19, .int .i64 ar] 39) = W at hB H2 e0 e1 e2 e3 e4 f0 f1 f2 f3 f4 d0 d1 ⊢
  go_wp2
  go_end0
  exact TurnsSb.mk' (s := s) hB.out hlt H2.out.stop

end Go.Proofs.YtanicidkmfoooabDoor

namespace Go.Proofs.YtanicidkmfoooabDoor
open Go.RowKit
set_option linter.unusedVariables false

set_option maxRecDepth 100000 in
set_option maxHeartbeats 1000000 in
theorem implNewShapes_any (w : World) : Calls Tryd.prog 30 #[] w (GivesSh w w.heap.size Shp.new) := by
  obtain ⟨R, hR⟩ : ∃ R, R = List.replicate 20 (-1 : Int) := ⟨_, rfl⟩
  rw [show Shp.new = ⟨[], [], [], R, false⟩ from by rw [hR]; rfl]
  have HR := hide hR
  clear hR
  have hB0 := (Below.refl w.heap.size w).alloc (Nat.le_refl _) (.cells zero5 27)
  have L0 := Lies.new w zero5 27
  have HB0 := hide hB0
  have HL0 := hide L0
  clear hB0 L0
  go_enter Tryd.func30, Tryd.ntmps30
  go_upto_region 1 with fail
  unfold zero5 at HB0 HL0
  generalize w.alloc (.cells #[.slice none 0 0, .slice none 0 0, .slice none 0 0, .slice none 0 0, .bool false] 27) = W at HB0 HL0 ⊢
  have hlt := HL0.out.lt
  have HC := hide (repeat_20 W.heap.size (-1) 1 (W.alloc (.cells #[.int .i64 (-1)] 3)) (by simp) (by simp) (by constructor <;> omega))
  have HA := hide ((Below.refl W.heap.size W).alloc (Nat.le_refl _) (.cells #[.int .i64 (-1)] 3))
  have hz : (W.alloc (.cells #[.int .i64 (-1)] 3)).heap.size = W.heap.size + 1 := by simp
  rw [← HR.out] at HC
  generalize hV : W.alloc (.cells #[.int .i64 (-1)] 3) = V at HC HA hz
  have HV := hide hV
  clear hV
  go_wp2_with (go_at_call 40; rw [HV.out]; refine HC.out.mono ?_; rintro e w2 ⟨A, c, rfl, ho, hb⟩; have hS := (show Lies w2 w.heap.size #[.slice none 0 0, .slice none 0 0, .slice none 0 0, .slice none 0 0, .bool false] 27 from (Lies.below (HL0.out.below HA.out hlt) hb (by omega))); obtain ⟨⟨r0, r1, r2, r3, r4, f0, f1, f2, f3, f4, s0, s1, s2, s3, s4⟩, hlf⟩ := Lies.set5 hS (.slice none 0 0) (.slice none 0 0) (.slice none 0 0) (.slice A R.length c) (.bool false); have HS := hide hS; clear hS; have HO := hide (And.intro ho hb); clear ho hb hlf)
  refine bodyPost_ret (v := shVal ⟨none, 0, none, 0, none, 0, A, c⟩ ⟨[], [], [], R, false⟩) (by simp [shVal, shCells, results, Tryd.results30, go_sem, s0, s1, s2, s3, s4]) rfl ?_
  obtain ⟨ho, hb⟩ := HO.out
  have hbw : Below w.heap.size w w2 := (HB0.out.trans (HA.out.mono (by omega))).trans (hb.mono (by omega))
  have hoff : ShPtr.Off ⟨none, 0, none, 0, none, 0, A, c⟩ w.heap.size := ⟨by simp [blockOf], by simp [blockOf], by simp [blockOf], fun e => by have := ho.blocks w.heap.size e; omega⟩
  refine ⟨⟨none, 0, none, 0, none, 0, A, c⟩, rfl, ?_, set5_below hbw (Nat.le_refl _)⟩
  refine ShOwn.set5 ⟨OwnI.empty _ _, OwnB.empty _ _, OwnI.empty _ _, ho.mono (by omega), ?_, ?_, ?_, ?_, ?_, ?_⟩ hoff <;> simp [blockOf]

end Go.Proofs.YtanicidkmfoooabDoor

namespace Go.Proofs.YtanicidkmfoooabDoor
open Go.RowKit
set_option linter.unusedVariables false

set_option maxHeartbeats 1000000 in
theorem markOpS_row (g t0 : Nat) (n c : Nat) (f : Nat → Value) (k0 : Int) (w : World) (hrow : w.rowIs g t0 (n * 2) f) (m : Nat) (hm : m ≤ n) (hk0 : 0 ≤ k0) (hk1 : k0 ≤ 1048576) (hn : m ≤ 1048576) :
    Calls Tryd.prog 10 #[.slice (some ⟨g, 0, none⟩) m c, .int .i64 k0] w fun e w' => e = .returned (.int .i64 (k0 + 2 * (m : Int))) ∧
      w'.rowIs g t0 (n * 2) (fun i => if i < 2 * m then .int .i64 (k0 + (i : Int)) else f i) ∧ Only g (g + 1) w w' := by
  go_enter Tryd.func10, Tryd.ntmps10
  go_wp2_with fail
  go_loopw [1, 5] (fun kv iv wr => ∃ j : Nat, j ≤ m ∧ iv = .int .i64 j ∧ kv = .int .i64 (k0 + 2 * (j : Int)) ∧ wr.rowIs g t0 (n * 2) (fun i => if i < 2 * j then .int .i64 (k0 + (i : Int)) else f i) ∧ Only g (g + 1) w wr) (fun _ iv _ => m - (intOf iv).toNat)
  case atStart => exact ⟨0, Nat.zero_le _, rfl, by go_num, hrow.congr (fun i _ => by simp), Only.refl _ _ _⟩
  case round =>
    obtain ⟨j, hj, rfl, rfl, hr, ho⟩ := hrel
    clear hrow
    by_cases hlt : j < m
    · have c1 := hr.cell (i := j * 2) (by omega)
      have c2 := hr.frozen (j * 2)
      have c3 := hr.cell (i := j * 2 + 1) (by omega)
      have c4 := hr.frozen (j * 2 + 1)
      have hset := (hr.set (j * 2) (.int .i64 (k0 + 2 * (j : Int)))).set (j * 2 + 1) (.int .i64 (k0 + 2 * (j : Int) + 1))
      have hos := (ho.setCell (p := ⟨g, j * 2, none⟩) (Nat.le_refl _) (Nat.lt_succ_self _) (.int .i64 (k0 + 2 * (j : Int)))).setCell (p := ⟨g, j * 2 + 1, none⟩) (Nat.le_refl _) (Nat.lt_succ_self _) (.int .i64 (k0 + 2 * (j : Int) + 1))
      have HR := hide hset
      have HO := hide hos
      clear hr ho hset hos
      have hk2 : k0 + 2 * (j : Int) ≤ 9223372036854775800 := by omega
      have hk3 : 0 ≤ k0 + 2 * (j : Int) := by omega
      go_wp2
      go_roundw
      case rel => exact ⟨j + 1, by omega, by go_num, by go_num, HR.out.congr (fun i _ => by
        by_cases e : i = j * 2 + 1
        · subst e; rw [if_pos rfl, if_pos (by omega)]; congr 1; omega
        · rw [if_neg e]
          by_cases e1 : i = j * 2
          · subst e1; rw [if_pos rfl, if_pos (by omega)]; congr 1; omega
          · rw [if_neg e1]
            by_cases e2 : i < 2 * j
            · rw [if_pos e2, if_pos (by omega)]
            · rw [if_neg e2, if_neg (by omega)]), HO.out⟩
      case measure => simp [intOf]; omega
    · obtain rfl : j = m := by omega
      clear hlt
      have HR := hide hr
      clear hr
      go_wp2
      go_ret
      exact ⟨rfl, HR.out, ho⟩

end Go.Proofs.YtanicidkmfoooabDoor
