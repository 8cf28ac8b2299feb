import Derived.Test.YtbihgafkmmcjlaaDoorPjAd
import Derived.StillTailTactics
import Derived.Deep.QuietTactic
import Derived.Deep.Cut
import Derived.BigQuiet
namespace Go.Proofs.YtbihgafkmmcjlaaDoor
open Go.RowKit
set_option linter.unusedVariables false
set_option linter.unusedSimpArgs false
set_option maxRecDepth 100000 in
set_option maxHeartbeats 4000000 in
theorem takeShapes_15 (p : ShPtr) (s : Shp) (ar : Int) (base : Nat) (w : World) (h : ShOwn w base p s) (hbase : base ≤ w.heap.size) (hs : s.Small) (har : 0 ≤ ar ∧ ar < 20) :
    Calls Tryd.prog 53 #[shVal p s, .agg #[.int .i64 15, .int .i64 ar]] w (TriesSh w p base (takeStep s ⟨15, ar⟩)) := by
  obtain ⟨K, c1, F, c2, S, c3, M, c4⟩ := p
  have hS := ShSt.enter3 h hbase (.cells #[.int .i64 15, .int .i64 ar] 42)
  have lo : Lies (((w.alloc (.cells (shCells ⟨K, c1, F, c2, S, c3, M, c4⟩ s) 38)).alloc (.cells #[.int .i64 15, .int .i64 ar] 42)).alloc (.cells zero5 38)) (w.heap.size + 1) #[.int .i64 15, .int .i64 ar] 42 := by
    have := (Lies.new (w.alloc (.cells (shCells ⟨K, c1, F, c2, S, c3, M, c4⟩ s) 38)) #[.int .i64 15, .int .i64 ar] 42).alloc (.cells zero5 38)
    simpa using this
  have hst := hs.t
  have hkl := hs.k
  have Hs := hide hs
  have hcap := h.t.capLen
  dsimp only at hcap
  clear h hs
  unfold shVal
  unfold shCells zero5 at *
  dsimp only at hS lo ⊢
  go_enter Tryd.func53, Tryd.ntmps53
  go_upto_region 1 with fail
  generalize ((w.alloc (.cells #[.slice K s.kinds.length c1, .slice F s.full.length c2, .slice S s.stack.length c3, .slice M s.memo.length c4, .bool s.done] 38)).alloc (.cells #[.int .i64 15, .int .i64 ar] 42)).alloc (.cells #[.slice none 0 0, .slice none 0 0, .slice none 0 0, .slice none 0 0, .bool false] 38) = W at hS lo ⊢
  have hcall := hide (fun (d : Nat) (hd : d ≤ 1000) (X : World) (hX : ShSt w X ⟨K, c1, F, c2, S, c3, M, c4⟩ base base w.heap.size (w.heap.size + 2) ⟨K, c1, F, c2, S, c3, M, c4⟩ s) => shapeAt_any ⟨K, c1, F, c2, S, c3, M, c4⟩ s d X (hX.bx.own.at_ Hs.out) Hs.out hd)
  unfold shVal shCells at hcall
  dsimp only at hcall
  obtain ⟨e0, e1, e2, e3, e4⟩ := hS.bx.cells
  dsimp only at e0 e1 e2 e3 e4
  go_wp2_with fail
  refine (hcall.out 0 (by omega) W hS).mono ?_
  rintro e w1 ⟨rfl, hb1⟩
  have hS1 := hS.below hb1
  have lo1 := lo.below hb1 lo.lt
  clear hS lo hb1 e0 e1 e2 e3 e4
  obtain ⟨e0, e1, e2, e3, e4⟩ := hS1.bx.cells
  dsimp only at e0 e1 e2 e3 e4
  go_wp2_with fail
  refine (hcall.out 1 (by omega) w1 hS1).mono ?_
  rintro e w2 ⟨rfl, hb2⟩
  have hS := hS1.below hb2
  have lo := lo1.below hb2 lo1.lt
  clear hS1 lo1 hb2 e0 e1 e2 e3 e4
  obtain ⟨e0, e1, e2, e3, e4⟩ := hS.bx.cells
  dsimp only at e0 e1 e2 e3 e4
  have d0 := lo.cell 0
  have d1 := lo.cell 1
  simp only [jD, jE, jF] at d0 d1
  have hk0 := hide (fun h => Shp.kind_lt (s := s) (d := 0) h)
  have hk1 := hide (fun h => Shp.kind_lt (s := s) (d := 1) h)
  have hr0 := Hs.out.ok.kindAt 0
  have hr1 := Hs.out.ok.kindAt 1
  generalize hka : s.kindAt 0 = a at *
  generalize hkb : s.kindAt 1 = b at *
  obtain ⟨ha1, ha2, ha3⟩ := hr0
  obtain ⟨hb1, hb2, hb3⟩ := hr1
  have HKa := hide hka
  have HKb := hide hkb
  have hlow := hS.bx.box.lt
  clear hka hkb
  by_cases hneg : a < 0
  · have HN := hide (show takeStep s ⟨15, ar⟩ = none by unfold takeStep; rw [HKa.out, if_pos hneg])
    have t0 : decide (0 ≤ a) = false := by simp; omega
    clear e0 e1 e2 e3 e4
    obtain ⟨⟨e0, e1, e2, e3, e4⟩, hs5, hown, hbel, hfr⟩ := hS.ret
    obtain ⟨r0, r1, r2, r3, r4, f0, f1, f2, f3, f4, s0, s1, s2, s3, s4⟩ := hs5
    have HR := hide (And.intro hbel hfr)
    clear hown hbel hfr hS 
    dsimp only at e0 e1 e2 e3 e4 r0 r1 r2 r3 r4 s0 s1 s2 s3 s4
    go_wp2
    refine bodyPost_ret (v := .tuple #[shVal ⟨K, c1, F, c2, S, c3, M, c4⟩ s, .bool false]) (by simp [shVal, shCells, results, Tryd.results53, go_sem, s0, s1, s2, s3, s4]) rfl ?_
    exact ⟨_, _, _, rfl, HR.out.1, HR.out.2, fun t ht => by (rw [HN.out] at ht; cases ht), fun _ => rfl⟩
  · have t0 : decide (0 ≤ a) = true := by simp; omega
    have hl1 : 0 < s.stack.length := hk0.out hneg
    obtain ⟨m, hm⟩ : ∃ m : Nat, s.stack.length = m + 1 := ⟨s.stack.length - 1, by omega⟩
    have hidx : (s.stack.length : Int) - 1 = (m : Int) := by omega
    have hm0 : (0 : Int) ≤ (m : Int) := by omega
    have hmc : (m : Int) ≤ (c3 : Int) := by omega
    have Hm := hide hm
    have Hm1 := hide (show s.stack.length - 1 = m by omega)
    have hcut : ∀ X : World, ShSt w X ⟨K, c1, F, c2, S, c3, M, c4⟩ base base w.heap.size (w.heap.size + 2) ⟨K, c1, F, c2, S, c3, M, c4⟩ s → ShSt w (X.setCell ⟨w.heap.size, 2, none⟩ (.slice S m c3)) ⟨K, c1, F, c2, S, c3, M, c4⟩ base base w.heap.size (w.heap.size + 2) ⟨K, c1, F, c2, S, c3, M, c4⟩ (s.cutTo m) := fun X hX => hX.cut (n := m) (by omega)
    have Hcut := hide hcut
    have f2 := hS.bx.box.frozen 2
    clear hm hcut hl1
    obtain ⟨j, rfl⟩ := Int.eq_ofNat_of_zero_le har.1
    have hj : j < 20 := by omega
    have hml := Hs.out.ok.ml
    obtain ⟨x, hx⟩ : ∃ x, s.stack[m]? = some x := ⟨_, List.getElem?_eq_getElem (by have := Hm.out; omega)⟩
    obtain ⟨y, hy⟩ : ∃ y, s.memo[j]? = some y := ⟨_, List.getElem?_eq_getElem (by omega)⟩
    have hth : s.thing 0 = x := by
      unfold Shp.thing
      rw [if_pos (by have := Hm.out; omega), show s.stack.length - 1 - 0 = m by have := Hm.out; omega, List.getD_eq_getElem?_getD, hx]
      rfl
    have HN := hide (show takeStep s ⟨15, (j : Int)⟩ = some { s with memo := s.memo.set j x } by simp [takeStep, HKa.out, hneg, hth])
    have hS2 := hS.below ((Below.refl w2.heap.size w2).drew)
    obtain ⟨gs, rfl, _, _, hcs, _⟩ := hS.bx.own.t.atJ hx
    obtain ⟨gm, rfl, _, _, hcm, hfm⟩ := hS.bx.own.m.atJ hy
    have hj0 : (0 : Int) ≤ (j : Int) := by omega
    have hj1 : (j : Int) < (s.memo.length : Int) := by omega
    have hm1 : (m : Int) < (s.stack.length : Int) := by have := Hm.out; omega
    have hwm : IntKind.i64.wrap (m : Int) = (m : Int) := by rw [IntKind.wrap_i64]; omega
    have hlc : (s.stack.length : Int) ≤ (c3 : Int) := by omega
    have hl0 : (0 : Int) ≤ (s.stack.length : Int) := by omega
    clear hml hx hy hth f2 hS
    go_upto_region 27 with fail
    go_still_tail 13, (by kernel_rfl)
    change wpList _ _ _ _ _ w2.drew
    have hcm2 : w2.drew.cell? ⟨gm, j, none⟩ = some (.int .i64 y) := hcm
    have hfm2 : w2.drew.frozen? ⟨gm, j, none⟩ = false := hfm
    clear hcm hfm hcs e0 e1 e2 e3 e4 d0 d1 lo
    generalize w2.drew = wd at hS2 hcm2 hfm2 ⊢
    go_upto_region 28 with fail
    have hS3 := hS2.putM (g := gm) (a := j) rfl x
    generalize wd.setCell ⟨gm, j, none⟩ (.int .i64 x) = X at hS3 ⊢
    clear hS2 hcm2 hfm2
    have Hc2 := hide (show ∀ Y, Y = X.setCell ⟨w.heap.size, 2, none⟩ (.slice (some ⟨gs, 0, none⟩) s.stack.length c3) → ShSt w Y ⟨K, c1, F, c2, some ⟨gs, 0, none⟩, c3, some ⟨gm, 0, none⟩, c4⟩ base base w.heap.size (w.heap.size + 2) ⟨K, c1, F, c2, some ⟨gs, 0, none⟩, c3, some ⟨gm, 0, none⟩, c4⟩ { s with memo := s.memo.set j x } by
      rintro Y rfl
      have := hS3.cut (n := s.stack.length) (Nat.le_refl _)
      rwa [show Shp.cutTo { s with memo := s.memo.set j x } s.stack.length = { s with memo := s.memo.set j x } from Shp.cutTo_all { s with memo := s.memo.set j x }] at this)
    have f2 := hS3.bx.box.frozen 2
    obtain ⟨e0, e1, e2, e3, e4⟩ := hS3.bx.cells
    dsimp only at e0 e1 e2 e3 e4
    go_upto_region 36 with fail
    have hS4 := Hc2.out _ rfl
    generalize X.setCell ⟨w.heap.size, 2, none⟩ (.slice (some ⟨gs, 0, none⟩) s.stack.length c3) = Y at hS4 ⊢
    clear hS3 e0 e1 e2 e3 e4 f2 Hc2
    obtain ⟨⟨e0, e1, e2, e3, e4⟩, hs5, hown, hbel, hfr⟩ := hS4.ret
    obtain ⟨r0, r1, r2, r3, r4, f0, f1, f2, f3, f4, s0, s1, s2, s3, s4⟩ := hs5
    have hoffs := hS4.offs
    have HR := hide (And.intro hown (And.intro hbel (And.intro hfr hoffs)))
    clear hown hbel hfr hoffs hS4
    dsimp only at e0 e1 e2 e3 e4 r0 r1 r2 r3 r4 s0 s1 s2 s3 s4
    simp only [List.length_set] at e3 s0 s1 s2 s3 s4 HR
    go_wp2
    refine bodyPost_ret (v := .tuple #[shVal ⟨K, c1, F, c2, some ⟨gs, 0, none⟩, c3, some ⟨gm, 0, none⟩, c4⟩ { s with memo := s.memo.set j x }, .bool true]) (by simp [shVal, shCells, results, Tryd.results53, go_sem, s0, s1, s2, s3, s4]) rfl ?_
    exact ⟨_, _, _, rfl, HR.out.2.1, HR.out.2.2.1, fun t ht => by (rw [HN.out] at ht; cases ht; exact ⟨rfl, rfl, HR.out.1, HR.out.2.2.2⟩), fun hh => by (rw [HN.out] at hh; cases hh)⟩
end Go.Proofs.YtbihgafkmmcjlaaDoor
