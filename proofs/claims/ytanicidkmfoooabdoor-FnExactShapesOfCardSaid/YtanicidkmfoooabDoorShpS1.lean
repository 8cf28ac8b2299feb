/-
  The model's pushShape: what it returns.
-/
import Derived.Test.YtanicidkmfoooabDoorShpR
import Derived.Test.YtanicidkmfoooabDoorPjAg
import Derived.Deep.QuietTactic
import Derived.Deep.RegionHeld3
import Derived.BigQuiet
import Derived.Deep.Cut
namespace Go.Proofs.YtanicidkmfoooabDoor
open Go.RowKit
set_option linter.unusedVariables false

set_option maxRecDepth 100000 in
set_option maxHeartbeats 1000000 in
theorem pushShape_any (p : ShPtr) (s : Shp) (k : Int) (base : Nat) (w : World) (h : ShOwn w base p s) (hbase : base ≤ w.heap.size) (hk : In64 k) (h1 : s.kinds.length ≤ 1000) (h2 : s.stack.length ≤ 1000) (hf : s.full.length = s.kinds.length) :
    Calls Tryd.prog 35 #[shVal p s, .int .i64 k] w (TurnsSh w p base (s.push k)) := by
  have hS := ShSt.enter h hbase
  have hk1 := IntsAt.oneN ((w.alloc (.cells (shCells p s) 27)).alloc (.cells zero5 27)) (w.heap.size + 2) k hk (by simp)
  have hl0 : s.full.length ≤ 1000 := by omega
  have HF := hide hf
  have hin : In64 (s.kinds.length : Int) := by constructor <;> omega
  have hwr : IntKind.i64.wrap (((s.kinds ++ [k]).length : Int) - 1) = (s.kinds.length : Int) := by rw [IntKind.wrap_i64]; simp; omega
  clear h hf
  unfold shVal shCells zero5 at *
  go_enter Tryd.func35, Tryd.ntmps35
  go_upto_region 4 with (first
    | (at_builtin; refine append_ints rfl (.tmp 6) (.tmp 8) rfl base p.K p.c1 s.kinds rfl (hS.bx.own.k.alloc _) _ _ 1 [k] rfl (fun e => by cases e) hk1 (by simp <;> omega) (by simp <;> omega) ?_; intro zs A5 c5 w5 hz5 ho5 hg5 ha5; obtain ⟨d0, d1, d2, d3, d4, f0, f1, f2, _⟩ := hS.cells hg5 hS.bx.off.k; have S5 := hide (hS.pushK ho5 hg5 ha5); have z5 := hg5.size; simp at z5; have hzl : (zs.length : Int) - 1 = (s.kinds.length : Int) := (by rw [hz5.out]; simp <;> omega); have hzb : (zs.length : Int) ≤ 1001 := (by rw [hz5.out]; simp <;> omega))
    | (at_builtin; refine append_bools rfl (.tmp 12) (.tmp 13) rfl base p.F p.c2 s.full rfl (S5.out.bx.own.f.alloc _) _ _ 1 [false] rfl (fun e => by cases e) (BoolsAt.oneN _ w5.heap.size false (by simp)) (by simp <;> omega) (by simp <;> omega) ?_; intro ys A6 c6 w6 hz6 ho6 hg6 ha6; obtain ⟨p0, p1, p2, p3, p4, g0, g1, g2, _⟩ := S5.out.cells hg6 S5.out.bx.off.f; have S6 := hide (S5.out.pushF ho6 hg6 ha6); have z6 := hg6.size; simp at z6)
    | (at_builtin; refine append_ints rfl (.tmp 17) (.tmp 22) rfl base p.S p.c3 s.stack rfl (S6.out.bx.own.t.alloc _) _ _ 1 [(s.kinds.length : Int)] rfl (fun e => by cases e) (IntsAt.oneN _ w6.heap.size _ hin (by simp)) (by simp <;> omega) (by simp <;> omega) ?_; intro xs A7 c7 w7 hz7 ho7 hg7 ha7; obtain ⟨q0, q1, q2, q3, q4, k0, k1, k2, _⟩ := S6.out.cells hg7 S6.out.bx.off.t; have S7 := hide (S6.out.pushT ho7 hg7 ha7)))
  have hp : ({ s with kinds := zs, full := ys, stack := xs } : Shp) = s.push k := by
    unfold Shp.push
    rw [hz5.out, hz6.out, hz7.out]
  have hS7 : ShSt w (w7.setCell ⟨w.heap.size, 2, none⟩ (.slice A7 xs.length c7)) p base base w.heap.size (w.heap.size + 1) ⟨A5, c5, A6, c6, A7, c7, p.M, p.c4⟩ (s.push k) := by
    rw [← hp]
    exact S7.out
  generalize w7.setCell ⟨w.heap.size, 2, none⟩ (.slice A7 xs.length c7) = w8 at hS7 ⊢
  clear hp S7 S6 S5 hS HF hk1 ho5 hg5 ha5 ho6 hg6 ha6 ho7 hg7 ha7 hz5 hz6 hz7
  obtain ⟨⟨e0, e1, e2, e3, e4⟩, hs5, hown, hbel, hfr⟩ := hS7.ret
  have hoffs := hS7.offs
  obtain ⟨c0, c1, c2, c3, c4, f0, f1, f2, f3, f4, s0, s1, s2, s3, s4⟩ := hs5
  have HR := hide (And.intro hown (And.intro hbel (And.intro hfr hoffs)))
  clear hS7 hown hbel hfr hoffs
  generalize s.push k = t at *
  dsimp only at *
  go_wp2
  refine bodyPost_ret (v := shVal ⟨A5, c5, A6, c6, A7, c7, p.M, p.c4⟩ t) (by simp [shVal, shCells, results, Tryd.results35, go_sem, s0, s1, s2, s3, s4]) rfl ?_
  exact ⟨_, rfl, HR.out.1, HR.out.2.1, HR.out.2.2⟩

end Go.Proofs.YtanicidkmfoooabDoor
