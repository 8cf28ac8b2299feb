/-
  Lemmas, several texts in one: ChkE, NewSh, SpecO.
-/
import Derived.Test.YtilopekdeehaoabDoorPjAc
import Derived.StillTailTactics
import Derived.Deep.RegionLaw
import Derived.Test.YtilopekdeehaoabDoorPjAd
import Derived.Test.YtilopekdeehaoabDoorRep
import Derived.Test.YtilopekdeehaoabDoorSb
import Derived.Test.YtilopekdeehaoabDoorPjAf
namespace Go.Proofs.YtilopekdeehaoabDoor
open Go.RowKit
set_option linter.unusedVariables false

theorem grown_undrew {w w1 : World} {row : Option Nat} (h : w.drew.grownBy w1 row) : w.grownBy w1 row := ⟨h.os, h.tape, h.output, h.size, h.block⟩

set_option maxRecDepth 100000 in
set_option maxHeartbeats 4000000 in
theorem pushNew_any (q base off : Nat) (p : ShPtr) (s : Shp) (k : Int) (w : World) (h : SbAt w base q off p s) (hs : s.Small) (hbase : base ≤ w.heap.size) (hk : In64 k) :
    Calls Tryd.prog 41 #[.pointer (some ⟨q, off, none⟩), .int .i64 k] w (TurnsSb w base q off p (s.push k)) := by
  have hkl := hs.k
  have htl := hs.t
  have hfl : s.full.length ≤ 1000 := by have := hs.ok.fl; omega
  have hin : In64 (s.kinds.length : Int) := by constructor <;> omega
  have Hh := hide h
  have hlt := h.lt
  have hlit := hide (show IntsAt (w.alloc (.cells #[.int .i64 (s.kinds.length : Int)] 3)).drew (w.alloc (.cells #[.int .i64 (s.kinds.length : Int)] 3)).drew.heap.size (some ⟨w.heap.size, 0, none⟩) [(s.kinds.length : Int)] from by
    have h0 := (IntsAt.lit w [(s.kinds.length : Int)] (by intro v hv; simp at hv; rw [hv]; exact hin) (by simp)).below (Below.refl _ _).drew
    simpa using h0)
  obtain ⟨e0, e1, e2, e3, e4, f0, f1, f2, f3, f4⟩ := h.c
  clear h hs
  go_enter Tryd.func41, Tryd.ntmps41
  go_wp2_with fail
  go_region_law (first
    | (refine step_append_ints (by rfl) _ _ (by rfl) base p.S p.c3 s.stack (by rfl) ((Hh.out.own.t.alloc _).drew) ⟨w.heap.size, 0, none⟩ 1 [(s.kinds.length : Int)] (by simp) (by rfl) hlit.out (by simp; omega) (by simp; omega) ?_; intro zs A' c' w1 hz ho1 hg1 ha1; have HP := hide (Hh.out.pushT ho1 (grown_undrew hg1) ha1); obtain ⟨g0, g1, g2, g3, g4, k0, k1, k2, k3, k4⟩ := Hh.out.c.ofB (Hh.out.grownB (grown_undrew hg1) Hh.out.off_.t)))
  all_goals
    obtain ⟨hX, fX⟩ := HP.out
    have Hz := hide hz.out
    have hzl : zs.length ≤ 1001 := by rw [Hz.out]; simp; omega
    clear hz ho1 hg1 ha1 HP g0 g1 g2 g3 g4 k0 k1 k2 k3 k4 e0 e1 e2 e3 e4 f0 f1 f2 f3 f4 hlit Hh
    have hXs := fX.size
    have HF := hide fX
    generalize w1.setCell ⟨q, off + 2, none⟩ (.slice A' zs.length c') = X at hX HF hXs ⊢
    have HX := hide hX
    obtain ⟨e0, e1, e2, e3, e4, f0, f1, f2, f3, f4⟩ := hX.c
    clear hX fX
    go_wp2_with (first
      | (at_builtin; refine append_ints rfl (.tmp 22) (.tmp 24) rfl base p.K p.c1 s.kinds rfl (HX.out.own.k.alloc _) _ _ 1 [k] rfl (fun e => by cases e) (IntsAt.oneN _ X.heap.size k hk rfl) (by simp <;> omega) (by simp <;> omega) ?_; intro ys A5 c5 w5 hz5 ho5 hg5 ha5; obtain ⟨d0, d1, d2, d3, d4, m0, m1, m2, m3, m4⟩ := HX.out.c.ofB (HX.out.grownB hg5 HX.out.off_.k); have S5 := hide (HX.out.pushK ho5 hg5 ha5); have z5 := hg5.size; simp at z5)
      | (at_builtin; refine append_bools rfl (.tmp 32) (.tmp 33) rfl base p.F p.c2 s.full rfl (S5.out.1.own.f.alloc _) _ _ 1 [false] rfl (fun e => by cases e) (BoolsAt.oneN _ w5.heap.size false (by simp)) (by simp <;> omega) (by simp <;> omega) ?_; intro xs A6 c6 w6 hz6 ho6 hg6 ha6; obtain ⟨p0, p1, p2, p3, p4, n0, n1, n2, n3, n4⟩ := S5.out.1.c.ofB (S5.out.1.grownB hg6 S5.out.1.off_.f); have S6 := hide (S5.out.1.pushF ho6 hg6 ha6)))
    have hp : ({ s with kinds := ys, full := xs, stack := zs } : Shp) = s.push k := by
      unfold Shp.push
      rw [Hz.out, hz5.out, hz6.out]
    have h6 := S6.out.1
    rw [hp] at h6
    go_end0
    exact ⟨rfl, _, h6, (HF.out.trans S5.out.2).trans S6.out.2⟩

/-- what is taken from the stack, told by how much stays -/
theorem take_any (q base off : Nat) (p : ShPtr) (s : Shp) (t : Int) (n : Nat) (w : World) (h : SbAt w base q off p s) (hs : s.Small) (hn : n ≤ s.stack.length) (ht : t ≠ -1) (htn : (n : Int) = (s.stack.length : Int) - t) (ht0 : 0 ≤ t) :
    Calls Tryd.prog 35 #[.pointer (some ⟨q, off, none⟩), .int .i64 t] w (TurnsSb w base q off p (s.cutTo n)) := by
  have htl := hs.t
  have hcap := h.own.t.capLen
  have Hh := hide h
  have hlt := h.lt
  obtain ⟨e0, e1, e2, e3, e4, f0, f1, f2, f3, f4⟩ := h.c
  have ht1 : (t == -1) = false := by simpa using ht
  have hst : IntKind.i64.wrap ((s.stack.length : Int) - t) = (n : Int) := by rw [IntKind.wrap_i64]; omega
  obtain ⟨m, hm⟩ : ∃ m : Nat, s.stack.length = m + n := ⟨s.stack.length - n, by omega⟩
  obtain rfl : t = (m : Int) := by omega
  have hb1 : (0 : Int) ≤ (n : Int) := by omega
  have hb2 : (n : Int) ≤ (s.stack.length : Int) := by omega
  have hb3 : (n : Int) ≤ (p.c3 : Int) := by omega
  have hd : (s.stack.length : Int) - (m : Int) = (n : Int) := by omega
  have Htn := hide htn
  have Hm := hide hm
  have HC := hide (Hh.out.cut hn)
  clear h hs htn ht hst hm
  go_enter Tryd.func35, Tryd.ntmps35
  go_wp2
  go_end0
  exact ⟨rfl, _, HC.out.1, HC.out.2⟩

theorem take_all (q base off : Nat) (p : ShPtr) (s : Shp) (a : Nat) (w : World) (h : SbAt w base q off p s) (hs : s.Small) (ha : above s.stack = a + 1) :
    Calls Tryd.prog 35 #[.pointer (some ⟨q, off, none⟩), .int .i64 (-1)] w (TurnsSb w base q off p (s.cutTo a)) := by
  have htl := hs.t
  have hcap := h.own.t.capLen
  have hal := above_le s.stack
  have Hh := hide h
  have hlt := h.lt
  have hok := hs.ok.st
  have cm := aboveMark_any p.S s.stack p.c3 w (h.own.at_ hs).t (fun x hx => (hok x hx).1)
  rw [ha] at cm
  have CM := hide cm
  obtain ⟨e0, e1, e2, e3, e4, f0, f1, f2, f3, f4⟩ := h.c
  have hb1 : (0 : Int) ≤ (a : Int) := by omega
  have hb2 : (a : Int) + 1 ≤ (s.stack.length : Int) := by omega
  have hb3 : (a : Int) + 1 ≤ (p.c3 : Int) := by omega
  have hb4 : ((a + 1 : Nat) : Int) - 1 = (a : Int) := by omega
  have HC := hide (Hh.out.cut (n := a) (by omega))
  clear h hs ha hal hok cm
  go_enter Tryd.func35, Tryd.ntmps35
  go_wp2_with fail
  refine CM.out.mono ?_
  rintro e w' ⟨rfl, rfl⟩
  go_wp2
  go_end0
  exact ⟨rfl, _, HC.out.1, HC.out.2⟩

end Go.Proofs.YtilopekdeehaoabDoor

namespace Go.Proofs.YtilopekdeehaoabDoor
open Go.RowKit
set_option linter.unusedVariables false

set_option maxRecDepth 100000 in
set_option maxHeartbeats 1000000 in
theorem implNewShapes_any (w : World) : Calls Tryd.prog 28 #[] w (GivesSh w w.heap.size Shp.new) := by
  obtain ⟨R, hR⟩ : ∃ R, R = List.replicate 20 (-1 : Int) := ⟨_, rfl⟩
  rw [show Shp.new = ⟨[], [], [], R, false⟩ from by rw [hR]; rfl]
  have HR := hide hR
  clear hR
  have hB0 := (Below.refl w.heap.size w).alloc (Nat.le_refl _) (.cells zero5 32)
  have L0 := Lies.new w zero5 32
  have HB0 := hide hB0
  have HL0 := hide L0
  clear hB0 L0
  go_enter Tryd.func28, Tryd.ntmps28
  go_upto_region 1 with fail
  unfold zero5 at HB0 HL0
  generalize w.alloc (.cells #[.slice none 0 0, .slice none 0 0, .slice none 0 0, .slice none 0 0, .bool false] 32) = W at HB0 HL0 ⊢
  have hlt := HL0.out.lt
  have HC := hide (repeat_20 W.heap.size (-1) 1 (W.alloc (.cells #[.int .i64 (-1)] 3)) (by simp) (by simp) (by constructor <;> omega))
  have HA := hide ((Below.refl W.heap.size W).alloc (Nat.le_refl _) (.cells #[.int .i64 (-1)] 3))
  have hz : (W.alloc (.cells #[.int .i64 (-1)] 3)).heap.size = W.heap.size + 1 := by simp
  rw [← HR.out] at HC
  generalize hV : W.alloc (.cells #[.int .i64 (-1)] 3) = V at HC HA hz
  have HV := hide hV
  clear hV
  go_wp2_with (go_at_call 33; rw [HV.out]; refine HC.out.mono ?_; rintro e w2 ⟨A, c, rfl, ho, hb⟩; have hS := (show Lies w2 w.heap.size #[.slice none 0 0, .slice none 0 0, .slice none 0 0, .slice none 0 0, .bool false] 32 from (Lies.below (HL0.out.below HA.out hlt) hb (by omega))); obtain ⟨⟨r0, r1, r2, r3, r4, f0, f1, f2, f3, f4, s0, s1, s2, s3, s4⟩, hlf⟩ := Lies.set5 hS (.slice none 0 0) (.slice none 0 0) (.slice none 0 0) (.slice A R.length c) (.bool false); have HS := hide hS; clear hS; have HO := hide (And.intro ho hb); clear ho hb hlf)
  refine bodyPost_ret (v := shVal ⟨none, 0, none, 0, none, 0, A, c⟩ ⟨[], [], [], R, false⟩) (by simp [shVal, shCells, results, Tryd.results28, go_sem, s0, s1, s2, s3, s4]) rfl ?_
  obtain ⟨ho, hb⟩ := HO.out
  have hbw : Below w.heap.size w w2 := (HB0.out.trans (HA.out.mono (by omega))).trans (hb.mono (by omega))
  have hoff : ShPtr.Off ⟨none, 0, none, 0, none, 0, A, c⟩ w.heap.size := ⟨by simp [blockOf], by simp [blockOf], by simp [blockOf], fun e => by have := ho.blocks w.heap.size e; omega⟩
  refine ⟨⟨none, 0, none, 0, none, 0, A, c⟩, rfl, ?_, set5_below hbw (Nat.le_refl _)⟩
  refine ShOwn.set5 ⟨OwnI.empty _ _, OwnB.empty _ _, OwnI.empty _ _, ho.mono (by omega), ?_, ?_, ?_, ?_, ?_, ?_⟩ hoff <;> simp [blockOf]

end Go.Proofs.YtilopekdeehaoabDoor

namespace Go.Proofs.YtilopekdeehaoabDoor
open Go.RowKit
set_option linter.unusedVariables false

set_option maxHeartbeats 1000000 in
theorem specValidOps_any (A : Option Addr) (os : List Od) (c : Nat) (w : World) (h : OpsAt w w.heap.size A os) :
    Calls Tryd.prog 9 #[.slice A os.length c] w fun e w' => e = .returned (.bool (tf (OpsOk os))) ∧ Below w.heap.size w w' := by
  have hl := h.len
  go_enter Tryd.func9, Tryd.ntmps9
  go_wp2_with fail
  go_loopw [3] (fun i wr => ∃ k : Nat, k ≤ os.length ∧ i = .int .i64 k ∧ Below w.heap.size w wr ∧ ∀ j x, j < k → os[j]? = some x → OdOk x) (fun i _ => os.length - (intOf i).toNat)
  case atStart => exact ⟨0, Nat.zero_le _, rfl, Below.refl _ _, fun j _ hj => absurd hj (by omega)⟩
  case round =>
    obtain ⟨k, hk, rfl, hb, he0⟩ := hrel
    have he := hide he0
    clear he0
    by_cases hlt : k < os.length
    · obtain ⟨b, off, x, rfl, hbl, hx, hmem, hc0, hc1⟩ := (h.below hb).at_ hlt
      have Hx := hide hx
      clear hx
      by_cases hin : OdOk x
      · have He : Hid (∀ j y, j < k + 1 → os[j]? = some y → OdOk y) := by
          intro j y hj hy
          by_cases e : j = k
          · subst e
            have := Hx.out.symm.trans hy
            injection this with this
            subst this
            exact hin
          · exact he.out j y (by omega) hy
        have ht := hide (show tf (OdOk x) = true from tf_true hin)
        clear he hmem hin
        go_wp2_with fail
        refine (validOp_any x _).mono ?_
        rintro e w' ⟨rfl, hb2⟩
        rw [ht.out]
        go_wp2
        go_roundw
        case rel => exact ⟨k + 1, by omega, by go_num, hb.trans (hb2.mono hb.size), He.out⟩
        case measure => simp [intOf]; omega
      · have HF := hide (show tf (OpsOk os) = false from tf_false fun hall => hin (hall.2 x hmem))
        have ht := hide (show tf (OdOk x) = false from tf_false hin)
        clear he hmem hin
        go_wp2_with fail
        refine (validOp_any x _).mono ?_
        rintro e w' ⟨rfl, hb2⟩
        rw [ht.out]
        go_wp2
        go_ret
        exact ⟨ret_bool HF.out.symm, hb.trans (hb2.mono hb.size)⟩
    · obtain rfl : k = os.length := by omega
      have hall : ∀ x ∈ os, OdOk x := fun x hx => by
        obtain ⟨j, hj, rfl⟩ := List.getElem_of_mem hx
        exact he.out j _ hj (List.getElem?_eq_getElem hj)
      by_cases h3 : os.length ≤ 300
      · have HF := hide (show tf (OpsOk os) = true from tf_true ⟨h3, hall⟩)
        have d : decide ((os.length : Int) ≤ 300) = true := by simp; omega
        clear hlt hall
        go_wp2
        go_ret
        exact ⟨ret_bool HF.out.symm, hb⟩
      · have HF := hide (show tf (OpsOk os) = false from tf_false fun hh => h3 hh.1)
        have d : decide ((os.length : Int) ≤ 300) = false := by simp; omega
        clear hlt hall
        go_wp2
        go_ret
        exact ⟨ret_bool HF.out.symm, hb⟩

end Go.Proofs.YtilopekdeehaoabDoor
