import Derived.Test.YtbihgafkmmcjlaaDoorPjAd
import Derived.StillTailTactics
import Derived.Deep.QuietTactic
import Derived.Deep.Cut
import Derived.BigQuiet
namespace Go.Proofs.YtbihgafkmmcjlaaDoor
open Go.RowKit
set_option linter.unusedVariables false
set_option linter.unusedSimpArgs false
set_option maxRecDepth 100000 in
set_option maxHeartbeats 4000000 in
theorem takeShapes_5 (p : ShPtr) (s : Shp) (ar : Int) (base : Nat) (w : World) (h : ShOwn w base p s) (hbase : base ≤ w.heap.size) (hs : s.Small)  :
    Calls Tryd.prog 53 #[shVal p s, .agg #[.int .i64 5, .int .i64 ar]] w (TriesSh w p base (takeStep s ⟨5, ar⟩)) := by
  obtain ⟨K, c1, F, c2, S, c3, M, c4⟩ := p
  have hS := ShSt.enter3 h hbase (.cells #[.int .i64 5, .int .i64 ar] 42)
  have lo : Lies (((w.alloc (.cells (shCells ⟨K, c1, F, c2, S, c3, M, c4⟩ s) 38)).alloc (.cells #[.int .i64 5, .int .i64 ar] 42)).alloc (.cells zero5 38)) (w.heap.size + 1) #[.int .i64 5, .int .i64 ar] 42 := by
    have := (Lies.new (w.alloc (.cells (shCells ⟨K, c1, F, c2, S, c3, M, c4⟩ s) 38)) #[.int .i64 5, .int .i64 ar] 42).alloc (.cells zero5 38)
    simpa using this
  have hst := hs.t
  have hkl := hs.k
  have Hs := hide hs
  have hcap := h.t.capLen
  dsimp only at hcap
  clear h hs
  unfold shVal
  unfold shCells zero5 at *
  dsimp only at hS lo ⊢
  go_enter Tryd.func53, Tryd.ntmps53
  go_upto_region 1 with fail
  generalize ((w.alloc (.cells #[.slice K s.kinds.length c1, .slice F s.full.length c2, .slice S s.stack.length c3, .slice M s.memo.length c4, .bool s.done] 38)).alloc (.cells #[.int .i64 5, .int .i64 ar] 42)).alloc (.cells #[.slice none 0 0, .slice none 0 0, .slice none 0 0, .slice none 0 0, .bool false] 38) = W at hS lo ⊢
  have hcall := hide (fun (d : Nat) (hd : d ≤ 1000) (X : World) (hX : ShSt w X ⟨K, c1, F, c2, S, c3, M, c4⟩ base base w.heap.size (w.heap.size + 2) ⟨K, c1, F, c2, S, c3, M, c4⟩ s) => shapeAt_any ⟨K, c1, F, c2, S, c3, M, c4⟩ s d X (hX.bx.own.at_ Hs.out) Hs.out hd)
  unfold shVal shCells at hcall
  dsimp only at hcall
  obtain ⟨e0, e1, e2, e3, e4⟩ := hS.bx.cells
  dsimp only at e0 e1 e2 e3 e4
  go_wp2_with fail
  refine (hcall.out 0 (by omega) W hS).mono ?_
  rintro e w1 ⟨rfl, hb1⟩
  have hS1 := hS.below hb1
  have lo1 := lo.below hb1 lo.lt
  clear hS lo hb1 e0 e1 e2 e3 e4
  obtain ⟨e0, e1, e2, e3, e4⟩ := hS1.bx.cells
  dsimp only at e0 e1 e2 e3 e4
  go_wp2_with fail
  refine (hcall.out 1 (by omega) w1 hS1).mono ?_
  rintro e w2 ⟨rfl, hb2⟩
  have hS := hS1.below hb2
  have lo := lo1.below hb2 lo1.lt
  clear hS1 lo1 hb2 e0 e1 e2 e3 e4
  obtain ⟨e0, e1, e2, e3, e4⟩ := hS.bx.cells
  dsimp only at e0 e1 e2 e3 e4
  have d0 := lo.cell 0
  have d1 := lo.cell 1
  simp only [jD, jE, jF] at d0 d1
  have hk0 := hide (fun h => Shp.kind_lt (s := s) (d := 0) h)
  have hk1 := hide (fun h => Shp.kind_lt (s := s) (d := 1) h)
  have hr0 := Hs.out.ok.kindAt 0
  have hr1 := Hs.out.ok.kindAt 1
  generalize hka : s.kindAt 0 = a at *
  generalize hkb : s.kindAt 1 = b at *
  obtain ⟨ha1, ha2, ha3⟩ := hr0
  obtain ⟨hb1, hb2, hb3⟩ := hr1
  have HKa := hide hka
  have HKb := hide hkb
  have hlow := hS.bx.box.lt
  clear hka hkb
  by_cases hneg : a < 0
  · have HN := hide (show takeStep s ⟨5, ar⟩ = none by unfold takeStep; rw [HKa.out, if_pos hneg])
    have t0 : decide (0 ≤ a) = false := by simp; omega
    clear e0 e1 e2 e3 e4
    obtain ⟨⟨e0, e1, e2, e3, e4⟩, hs5, hown, hbel, hfr⟩ := hS.ret
    obtain ⟨r0, r1, r2, r3, r4, f0, f1, f2, f3, f4, s0, s1, s2, s3, s4⟩ := hs5
    have HR := hide (And.intro hbel hfr)
    clear hown hbel hfr hS 
    dsimp only at e0 e1 e2 e3 e4 r0 r1 r2 r3 r4 s0 s1 s2 s3 s4
    go_wp2
    refine bodyPost_ret (v := .tuple #[shVal ⟨K, c1, F, c2, S, c3, M, c4⟩ s, .bool false]) (by simp [shVal, shCells, results, Tryd.results53, go_sem, s0, s1, s2, s3, s4]) rfl ?_
    exact ⟨_, _, _, rfl, HR.out.1, HR.out.2, fun t ht => by (rw [HN.out] at ht; cases ht), fun _ => rfl⟩
  · have t0 : decide (0 ≤ a) = true := by simp; omega
    have hl1 : 0 < s.stack.length := hk0.out hneg
    obtain ⟨m, hm⟩ : ∃ m : Nat, s.stack.length = m + 1 := ⟨s.stack.length - 1, by omega⟩
    have hidx : (s.stack.length : Int) - 1 = (m : Int) := by omega
    have hm0 : (0 : Int) ≤ (m : Int) := by omega
    have hmc : (m : Int) ≤ (c3 : Int) := by omega
    have Hm := hide hm
    have Hm1 := hide (show s.stack.length - 1 = m by omega)
    have hcut : ∀ X : World, ShSt w X ⟨K, c1, F, c2, S, c3, M, c4⟩ base base w.heap.size (w.heap.size + 2) ⟨K, c1, F, c2, S, c3, M, c4⟩ s → ShSt w (X.setCell ⟨w.heap.size, 2, none⟩ (.slice S m c3)) ⟨K, c1, F, c2, S, c3, M, c4⟩ base base w.heap.size (w.heap.size + 2) ⟨K, c1, F, c2, S, c3, M, c4⟩ (s.cutTo m) := fun X hX => hX.cut (n := m) (by omega)
    have Hcut := hide hcut
    have f2 := hS.bx.box.frozen 2
    clear hm hcut hl1
    have HN := hide (show takeStep s ⟨5, ar⟩ = some ((s.cutTo m).push 2) by simp [takeStep, HKa.out, hneg, Hm1.out])
    go_upto_region 10 with fail
    have hS3 := Hcut.out _ hS
    generalize w2.setCell ⟨w.heap.size, 2, none⟩ (.slice S m c3) = X at hS3 ⊢
    clear hS e0 e1 e2 e3 e4 f2 d0 d1 lo
    skip
    have hcl : (s.cutTo m).stack.length ≤ 1000 := by show (s.stack.take m).length ≤ 1000; simp; omega
    obtain ⟨e0, e1, e2, e3, e4⟩ := hS3.bx.cells
    dsimp only at e0 e1 e2 e3 e4
    have HP := pushShape_any ⟨K, c1, F, c2, S, c3, M, c4⟩ (s.cutTo m) 2 base X hS3.bx.own hS3.hB (by constructor <;> omega) hkl hcl Hs.out.ok.fl
    unfold shVal shCells at HP
    dsimp only at HP
    go_wp2_with fail
    refine HP.mono ?_
    clear HP
    rintro e w5 ⟨⟨K5, a1, F5, a2, S5, a3, M5, a4⟩, rfl, ho5, hb5, hf5, hof5⟩
    have hR5 : Lies w5 (w.heap.size + 2) zero5 38 := (hf5 _ hS3.res.lt hS3.off2).trans hS3.res
    generalize hpd : (s.cutTo m).push 2 = t at *
    obtain ⟨hs5, _⟩ := Lies.set5 (show Lies w5 (w.heap.size + 2) #[.slice none 0 0, .slice none 0 0, .slice none 0 0, .slice none 0 0, .bool false] 38 from hR5) (.slice K5 t.kinds.length a1) (.slice F5 t.full.length a2) (.slice S5 t.stack.length a3) (.slice M5 t.memo.length a4) (.bool t.done)
    obtain ⟨r0, r1, r2, r3, r4, f0, f1, f2, f3, f4, s0, s1, s2, s3, s4⟩ := hs5
    have hoq : (⟨K5, a1, F5, a2, S5, a3, M5, a4⟩ : ShPtr).Off (w.heap.size + 2) := hof5 _ hS3.res.lt hS3.off2
    have hXs : w.heap.size ≤ X.heap.size := by have := hS3.bx.box.lt; omega
    have hw5 := hb5.size
    have HR : Hid (ShOwn (set5 w5 (w.heap.size + 2) (.slice K5 t.kinds.length a1) (.slice F5 t.full.length a2) (.slice S5 t.stack.length a3) (.slice M5 t.memo.length a4) (.bool t.done)) base ⟨K5, a1, F5, a2, S5, a3, M5, a4⟩ t ∧ Below base w (set5 w5 (w.heap.size + 2) (.slice K5 t.kinds.length a1) (.slice F5 t.full.length a2) (.slice S5 t.stack.length a3) (.slice M5 t.memo.length a4) (.bool t.done)) ∧ FrSh w (set5 w5 (w.heap.size + 2) (.slice K5 t.kinds.length a1) (.slice F5 t.full.length a2) (.slice S5 t.stack.length a3) (.slice M5 t.memo.length a4) (.bool t.done)) ⟨K, c1, F, c2, S, c3, M, c4⟩ ∧ OffSh w ⟨K, c1, F, c2, S, c3, M, c4⟩ ⟨K5, a1, F5, a2, S5, a3, M5, a4⟩) :=
      hide ⟨ho5.set5 hoq, set5_below (hS3.bel.trans hb5) (by omega), fun k hk ho => (set5_block (by omega)).trans ((hf5 k (by omega) (hS3.offs k hk ho)).trans (hS3.fr k hk ho)), fun k hk ho => hof5 k (by omega) (hS3.offs k hk ho)⟩
    clear hR5 hoq ho5 hb5 hf5 hof5 hS3 e0 e1 e2 e3 e4
    unfold shVal shCells
    dsimp only
    go_wp2
    refine bodyPost_ret (v := .tuple #[shVal ⟨K5, a1, F5, a2, S5, a3, M5, a4⟩ t, .bool true]) (by simp [shVal, shCells, results, Tryd.results53, go_sem, s0, s1, s2, s3, s4]) rfl ?_
    exact ⟨_, _, _, rfl, HR.out.2.1, HR.out.2.2.1, fun t ht => by (rw [HN.out] at ht; cases ht; exact ⟨rfl, rfl, HR.out.1, HR.out.2.2.2⟩), fun hh => by (rw [HN.out] at hh; cases hh)⟩
end Go.Proofs.YtbihgafkmmcjlaaDoor
