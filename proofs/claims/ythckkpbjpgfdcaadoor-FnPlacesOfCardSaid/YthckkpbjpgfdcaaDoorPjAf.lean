/-
  Lemmas, several texts in one: ShpS1, ShpS2, ShpN.
-/
import Derived.Test.YthckkpbjpgfdcaaDoorShpR
import Derived.Test.YthckkpbjpgfdcaaDoorPjAa
import Derived.Deep.QuietTactic
import Derived.Deep.RegionHeld3
import Derived.BigQuiet
import Derived.Deep.Cut
namespace Go.Proofs.YthckkpbjpgfdcaaDoor
open Go.RowKit
set_option linter.unusedVariables false
set_option maxRecDepth 100000 in
set_option maxHeartbeats 1000000 in
theorem pushShape_any (p : ShPtr) (s : Shp) (k : Int) (base : Nat) (w : World) (h : ShOwn w base p s) (hbase : base ≤ w.heap.size) (hk : In64 k) (h1 : s.kinds.length ≤ 1000) (h2 : s.stack.length ≤ 1000) (hf : s.full.length = s.kinds.length) :
    Calls Tryd.prog 39 #[shVal p s, .int .i64 k] w (TurnsSh w p base (s.push k)) := by
  have hS := ShSt.enter h hbase
  have hk1 := IntsAt.oneN ((w.alloc (.cells (shCells p s) 62)).alloc (.cells zero5 62)) (w.heap.size + 2) k hk (by simp)
  have hl0 : s.full.length ≤ 1000 := by omega
  have HF := hide hf
  have hin : In64 (s.kinds.length : Int) := by constructor <;> omega
  have hwr : IntKind.i64.wrap (((s.kinds ++ [k]).length : Int) - 1) = (s.kinds.length : Int) := by rw [IntKind.wrap_i64]; simp; omega
  clear h hf
  unfold shVal shCells zero5 at *
  go_enter Tryd.func39, Tryd.ntmps39
  go_upto_region 4 with (first
    | (at_builtin; refine append_ints rfl (.tmp 6) (.tmp 8) rfl base p.K p.c1 s.kinds rfl (hS.bx.own.k.alloc _) _ _ 1 [k] rfl (fun e => by cases e) hk1 (by simp <;> omega) (by simp <;> omega) ?_; intro zs A5 c5 w5 hz5 ho5 hg5 ha5; obtain ⟨d0, d1, d2, d3, d4, f0, f1, f2, _⟩ := hS.cells hg5 hS.bx.off.k; have S5 := hide (hS.pushK ho5 hg5 ha5); have z5 := hg5.size; simp at z5; have hzl : (zs.length : Int) - 1 = (s.kinds.length : Int) := (by rw [hz5.out]; simp <;> omega); have hzb : (zs.length : Int) ≤ 1001 := (by rw [hz5.out]; simp <;> omega))
    | (at_builtin; refine append_bools rfl (.tmp 12) (.tmp 13) rfl base p.F p.c2 s.full rfl (S5.out.bx.own.f.alloc _) _ _ 1 [false] rfl (fun e => by cases e) (BoolsAt.oneN _ w5.heap.size false (by simp)) (by simp <;> omega) (by simp <;> omega) ?_; intro ys A6 c6 w6 hz6 ho6 hg6 ha6; obtain ⟨p0, p1, p2, p3, p4, g0, g1, g2, _⟩ := S5.out.cells hg6 S5.out.bx.off.f; have S6 := hide (S5.out.pushF ho6 hg6 ha6); have z6 := hg6.size; simp at z6)
    | (at_builtin; refine append_ints rfl (.tmp 17) (.tmp 22) rfl base p.S p.c3 s.stack rfl (S6.out.bx.own.t.alloc _) _ _ 1 [(s.kinds.length : Int)] rfl (fun e => by cases e) (IntsAt.oneN _ w6.heap.size _ hin (by simp)) (by simp <;> omega) (by simp <;> omega) ?_; intro xs A7 c7 w7 hz7 ho7 hg7 ha7; obtain ⟨q0, q1, q2, q3, q4, k0, k1, k2, _⟩ := S6.out.cells hg7 S6.out.bx.off.t; have S7 := hide (S6.out.pushT ho7 hg7 ha7)))
  have hp : ({ s with kinds := zs, full := ys, stack := xs } : Shp) = s.push k := by
    unfold Shp.push
    rw [hz5.out, hz6.out, hz7.out]
  have hS7 : ShSt w (w7.setCell ⟨w.heap.size, 2, none⟩ (.slice A7 xs.length c7)) p base base w.heap.size (w.heap.size + 1) ⟨A5, c5, A6, c6, A7, c7, p.M, p.c4⟩ (s.push k) := by
    rw [← hp]
    exact S7.out
  generalize w7.setCell ⟨w.heap.size, 2, none⟩ (.slice A7 xs.length c7) = w8 at hS7 ⊢
  clear hp S7 S6 S5 hS HF hk1 ho5 hg5 ha5 ho6 hg6 ha6 ho7 hg7 ha7 hz5 hz6 hz7
  obtain ⟨⟨e0, e1, e2, e3, e4⟩, hs5, hown, hbel, hfr⟩ := hS7.ret
  have hoffs := hS7.offs
  obtain ⟨c0, c1, c2, c3, c4, f0, f1, f2, f3, f4, s0, s1, s2, s3, s4⟩ := hs5
  have HR := hide (And.intro hown (And.intro hbel (And.intro hfr hoffs)))
  clear hS7 hown hbel hfr hoffs
  generalize s.push k = t at *
  dsimp only at *
  go_wp2
  refine bodyPost_ret (v := shVal ⟨A5, c5, A6, c6, A7, c7, p.M, p.c4⟩ t) (by simp [shVal, shCells, results, Tryd.results39, go_sem, s0, s1, s2, s3, s4]) rfl ?_
  exact ⟨_, rfl, HR.out.1, HR.out.2.1, HR.out.2.2⟩
end Go.Proofs.YthckkpbjpgfdcaaDoor

namespace Go.Proofs.YthckkpbjpgfdcaaDoor
open Go.RowKit
set_option linter.unusedVariables false
set_option maxRecDepth 100000 in
set_option maxHeartbeats 1000000 in
theorem shapeAt_any (p : ShPtr) (s : Shp) (d : Nat) (w : World) (h : ShAt w w.heap.size p s) (hs : s.Small) (hd2 : d ≤ 1000) :
    Calls Tryd.prog 50 #[shVal p s, .int .i64 (d : Int)] w fun e w' => e = .returned (.int .i64 (s.kindAt d)) ∧ Below w.heap.size w w' := by
  obtain ⟨K, c1, F, c2, S, c3, M, c4⟩ := p
  have hB : Below w.heap.size w (w.alloc (.cells (shCells ⟨K, c1, F, c2, S, c3, M, c4⟩ s) 62)) := (Below.refl _ _).alloc (Nat.le_refl _) _
  have hr := h.later hB (Nat.le_refl _)
  have hst := hs.t
  have hkl := hs.k
  have l := Lies.new w (shCells ⟨K, c1, F, c2, S, c3, M, c4⟩ s) 62
  have e0 : (w.alloc (.cells (shCells ⟨K, c1, F, c2, S, c3, M, c4⟩ s) 62)).cell? ⟨w.heap.size, 0, none⟩ = some (.slice K s.kinds.length c1) := l.cell 0
  have e2 : (w.alloc (.cells (shCells ⟨K, c1, F, c2, S, c3, M, c4⟩ s) 62)).cell? ⟨w.heap.size, 2, none⟩ = some (.slice S s.stack.length c3) := l.cell 2
  have HO := hide hs.ok
  have hrK := hr.k
  have hrT := hr.t
  clear h hs l hr
  dsimp only at hrK hrT
  unfold shVal shCells at *
  dsimp only at *
  have hw1 : IntKind.i64.wrap ((s.stack.length : Int) - 1) = (s.stack.length : Int) - 1 := by rw [IntKind.wrap_i64]; omega
  go_enter Tryd.func50, Tryd.ntmps50
  go_upto_region 1 with fail
  generalize w.alloc (.cells #[.slice K s.kinds.length c1, .slice F s.full.length c2, .slice S s.stack.length c3, .slice M s.memo.length c4, .bool s.done] 62) = W at hB hrK hrT e0 e2 ⊢
  by_cases hd : d < s.stack.length
  · obtain ⟨k, hk⟩ : ∃ k : Nat, s.stack.length = k + 1 + d := ⟨s.stack.length - 1 - d, by omega⟩
    obtain ⟨b, off, x, rfl, hbl, hx, hm, hc⟩ := hrT.at_ (k := k) (by omega)
    have hth : s.thing d = x := by
      unfold Shp.thing
      rw [if_pos hd, show s.stack.length - 1 - d = k by omega, List.getD_eq_getElem?_getD, hx]
      rfl
    have hxr := HO.out.st x hm
    have hk1 : (0 : Int) ≤ (k : Int) := by omega
    have hk2 : (k : Int) < (s.stack.length : Int) := by omega
    have hidx : (s.stack.length : Int) - 1 - (d : Int) = (k : Int) := by omega
    have tk : decide ((k : Int) < 0) = false := by simp
    have hwm : IntKind.i64.wrap (k : Int) = (k : Int) := by rw [IntKind.wrap_i64]; omega
    by_cases hx0 : x < 0
    · have HF := hide (show s.kindAt d = -1 by unfold Shp.kindAt; rw [hth, if_pos hx0])
      have tx : decide (x < 0) = true := by simpa using hx0
      clear hx hm hth hd hx0 hxr hk
      go_wp2
      go_ret
      exact ⟨ret_int HF.out.symm, hB⟩
    · obtain ⟨y, rfl⟩ := Int.eq_ofNat_of_zero_le (show 0 ≤ x by omega)
      obtain ⟨b2, off2, z, rfl, hbl2, hz, hm2, hc2⟩ := hrK.at_ (k := y) (by omega)
      have HF := hide (show s.kindAt d = z by
        unfold Shp.kindAt
        rw [hth, if_neg hx0, Int.toNat_natCast, List.getD_eq_getElem?_getD, hz]
        rfl)
      have tx : decide ((y : Int) < 0) = false := by simp
      have hy1 : (0 : Int) ≤ (y : Int) := by omega
      have hy2 : (y : Int) < (s.kinds.length : Int) := by omega
      clear hx hm hth hd hx0 hxr hk hz hm2
      go_wp2_with fail
      go_quiet (fail)
      go_wp2
      go_ret
      exact ⟨ret_int HF.out.symm, below_drewN hB _⟩
  · have HF := hide (show s.kindAt d = -1 by unfold Shp.kindAt Shp.thing; rw [if_neg hd]; simp)
    have hd3 : (s.stack.length : Int) ≤ (d : Int) := by omega
    have tk : decide ((s.stack.length : Int) - 1 - (d : Int) < 0) = true := by simp; omega
    clear hd hrK hrT
    go_wp2
    go_ret
    exact ⟨ret_int HF.out.symm, hB⟩
end Go.Proofs.YthckkpbjpgfdcaaDoor

namespace Go.Proofs.YthckkpbjpgfdcaaDoor
open Go.RowKit
set_option linter.unusedVariables false
set_option maxRecDepth 100000 in
set_option maxHeartbeats 1000000 in
theorem newShapes_any (w : World) : Calls Tryd.prog 26 #[] w (GivesSh w w.heap.size Shp.new) := by
  have hB0 : Below w.heap.size w ((w.alloc (.cells zero5 62)).alloc (.cells zero5 62)) := ((Below.refl _ _).alloc (Nat.le_refl _) _).alloc (by simp) _
  have hZ0 := (Lies.new w zero5 62).alloc (.cells zero5 62)
  have hL0 := Lies.new (w.alloc (.cells zero5 62)) zero5 62
  simp only [World.size_alloc] at hL0
  have hsz : ((w.alloc (.cells zero5 62)).alloc (.cells zero5 62)).heap.size = w.heap.size + 2 := by simp
  have hS : ShSt w ((w.alloc (.cells zero5 62)).alloc (.cells zero5 62)) ShPtr.nil w.heap.size (w.heap.size + 2) (w.heap.size + 1) w.heap.size ⟨none, 0, none, 0, none, 0, none, 0⟩ ⟨[], [], [], [], false⟩ := by
    refine ⟨⟨hL0, ⟨OwnI.empty _ _, OwnB.empty _ _, OwnI.empty _ _, OwnI.empty _ _, ?_, ?_, ?_, ?_, ?_, ?_⟩, ⟨?_, ?_, ?_, ?_⟩⟩, hZ0, ⟨?_, ?_, ?_, ?_⟩, hB0, by omega, by rw [hsz]; omega, by omega, by omega, Nat.le_refl _, fun k hk _ => hB0.block k hk, fun k _ _ => ⟨?_, ?_, ?_, ?_⟩, by omega, Nat.le_refl _⟩ <;> simp [blockOf]
  have hm1 : In64 (-1) := by constructor <;> omega
  have HS := hide hS
  clear hS hL0 hZ0 hB0 hsz
  unfold zero5 at *
  go_enter Tryd.func26, Tryd.ntmps26
  go_wp2_with fail
  go_loopw [2] (fun iv wr => ∃ (k : Nat) (A : Option Addr) (c : Nat), k ≤ 20 ∧ iv = .int .i64 (k : Int) ∧ ShSt w wr ShPtr.nil w.heap.size (w.heap.size + 2) (w.heap.size + 1) w.heap.size ⟨none, 0, none, 0, none, 0, A, c⟩ ⟨[], [], [], List.replicate k (-1), false⟩) (fun iv _ => 20 - (intOf iv).toNat)
  case atStart => exact ⟨0, none, 0, Nat.zero_le _, rfl, HS.out⟩
  case round =>
    clear HS
    obtain ⟨k, A, c, hk, rfl, hS⟩ := hrel
    by_cases hlt : k < 20
    · have hd : decide ((k : Int) < 20) = true := by simp; omega
      have hrs := hide (show List.replicate k (-1 : Int) ++ [-1] = List.replicate (k + 1) (-1) by rw [List.replicate_succ'])
      have hll : (List.replicate k (-1 : Int)).length ≤ 20 := by simp; omega
      generalize List.replicate k (-1 : Int) = L at hS hrs hll
      obtain ⟨e0, e1, e2, e3, e4⟩ := hS.bx.cells
      have hwz : w.heap.size + 2 ≤ wr.heap.size := by have := hS.bx.box.lt; omega
      dsimp only at e0 e1 e2 e3 e4
      go_wp2_with (at_builtin; refine append_ints rfl (.tmp 9) (.tmp 10) rfl (w.heap.size + 2) A c L rfl (hS.bx.own.m.alloc _) (wr.heap.size + 1) _ 1 [(-1 : Int)] rfl (fun e => by cases e) (IntsAt.one wr (-1) hm1) (by simp <;> omega) (by simp <;> omega) ?_; intro zs A2 c2 w5 hz hown5 hgrow5 hat5; obtain ⟨d0, d1, d2, d3, d4, f0, f1, f2, f3⟩ := hS.cells hgrow5 hS.bx.off.m; have HS5 := hide (hS.pushM hown5 hgrow5 hat5))
      go_roundw
      case rel =>
        refine ⟨k + 1, A2, c2, by omega, by go_num, ?_⟩
        rw [← hrs.out, ← hz.out]
        exact HS5.out
      case measure => simp [intOf]; omega
    · obtain rfl : k = 20 := by omega
      have hdd : decide ((20 : Int) < 20) = false := rfl
      obtain ⟨⟨e0, e1, e2, e3, e4⟩, hs5, hown, hbel, _⟩ := hS.ret
      obtain ⟨c0, c1, c2, c3, c4, f0, f1, f2, f3, f4, s0, s1, s2, s3, s4⟩ := hs5
      have HR := hide (And.intro hown hbel)
      clear hS hown hbel hlt hk
      dsimp only [List.length_replicate, List.length_nil] at e0 e1 e2 e3 e4 c0 c1 c2 c3 c4 s0 s1 s2 s3 s4
      simp only [List.length_replicate] at e3 s0 s1 s2 s3 s4
      rw [show ((20 : Nat) : Int) = (20 : Int) from rfl]
      go_wp2
      refine bodyPost_ret (v := shVal ⟨none, 0, none, 0, none, 0, A, c⟩ Shp.new) (by simp [shVal, shCells, Shp.new, results, Tryd.results26, go_sem, s0, s1, s2, s3, s4]) rfl ?_
      have h1 := HR.out.1
      have h2 := HR.out.2
      simp only [List.length_replicate, List.length_nil] at h1 h2
      exact ⟨_, rfl, h1.mono (by omega), h2⟩
set_option maxHeartbeats 400000 in
theorem keyKind_any (k : Int) (w : World) :
    Calls Tryd.prog 51 #[.int .i64 k] w fun e w' => e = .returned (.bool (tf (KeyK k))) ∧ w' = w := by
  by_cases h0 : k = 0
  · have HF := hide (show tf (KeyK k) = true from tf_true (.inl h0))
    have t : (k == 0) = true := by simpa using h0
    clear h0
    go_enter Tryd.func51, Tryd.ntmps51
    go_wp2
    go_ret
    exact ⟨ret_bool HF.out.symm, rfl⟩
  · by_cases h1 : k = 1
    · have HF := hide (show tf (KeyK k) = true from tf_true (.inr h1))
      have t : (k == 0) = false := by simpa using h0
      have t1 : (k == 1) = true := by simpa using h1
      clear h0 h1
      go_enter Tryd.func51, Tryd.ntmps51
      go_wp2
      go_ret
      exact ⟨ret_bool HF.out.symm, rfl⟩
    · have HF := hide (show tf (KeyK k) = false from tf_false (fun h => h.elim h0 h1))
      have t : (k == 0) = false := by simpa using h0
      have t1 : (k == 1) = false := by simpa using h1
      clear h0 h1
      go_enter Tryd.func51, Tryd.ntmps51
      go_wp2
      go_ret
      exact ⟨ret_bool HF.out.symm, rfl⟩
set_option maxHeartbeats 400000 in
theorem newKind_any (c : Int) (w : World) (hc : 0 ≤ c ∧ c ≤ 19) :
    Calls Tryd.prog 38 #[.int .i64 c] w fun e w' => e = .returned (.int .i64 (newK c)) ∧ w' = w := by
  have h20 : c = 0 ∨ c = 1 ∨ c = 2 ∨ c = 3 ∨ c = 4 ∨ c = 5 ∨ c = 6 ∨ c = 7 ∨ c = 8 ∨ c = 9 ∨ c = 10 ∨ c = 11 ∨ c = 12 ∨ c = 13 ∨ c = 14 ∨ c = 15 ∨ c = 16 ∨ c = 17 ∨ c = 18 ∨ c = 19 := by omega
  clear hc
  rcases h20 with rfl | rfl | rfl | rfl | rfl | rfl | rfl | rfl | rfl | rfl | rfl | rfl | rfl | rfl | rfl | rfl | rfl | rfl | rfl | rfl
  all_goals
    go_enter Tryd.func38, Tryd.ntmps38
    go_wp2
    go_ret
    exact ⟨ret_int (by decide), rfl⟩
end Go.Proofs.YthckkpbjpgfdcaaDoor
