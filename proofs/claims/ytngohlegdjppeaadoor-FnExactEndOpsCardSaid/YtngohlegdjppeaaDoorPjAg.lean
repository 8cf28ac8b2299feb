/-
  Lemmas, several texts in one: ShpUa, SpecO, DpM, ChkE, ChkF, NewSh.
-/
import Derived.Test.YtngohlegdjppeaaDoorShpT
import Derived.Test.YtngohlegdjppeaaDoorPjAf
import Derived.Test.YtngohlegdjppeaaDoorShpN
import Derived.Test.YtngohlegdjppeaaDoorPjAe
import Derived.Deep.QuietTactic
import Derived.Deep.RegionLaw
import Derived.Deep.RegionHeld
import Derived.Deep.Cut
import Derived.BigQuiet
import Derived.Test.YtngohlegdjppeaaDoorPjAc
import Derived.Test.YtngohlegdjppeaaDoorPjAd
import Derived.Test.YtngohlegdjppeaaDoorPjAa
import Derived.StillTailTactics
import Derived.Test.YtngohlegdjppeaaDoorPjAb
import Derived.Test.YtngohlegdjppeaaDoorSb
namespace Go.Proofs.YtngohlegdjppeaaDoor
open Go.RowKit
set_option linter.unusedVariables false
set_option linter.unusedSimpArgs false
set_option maxRecDepth 100000 in
set_option maxHeartbeats 4000000 in
theorem stepShapes_done (p : ShPtr) (s : Shp) (cd ar : Int) (hd : s.done = true) (base : Nat) (w : World) (h : ShOwn w base p s) (hbase : base ≤ w.heap.size) (hs : s.Small) :
    Calls Tryd.prog 20 #[shVal p s, .agg #[.int .i64 cd, .int .i64 ar]] w (TriesSh w p base (stepShp s ⟨cd, ar⟩)) := by
  obtain ⟨K, c1, F, c2, S, c3, M, c4⟩ := p
  have hS := ShSt.enter3 h hbase (.cells #[.int .i64 cd, .int .i64 ar] 39)
  have lo : Lies (((w.alloc (.cells (shCells ⟨K, c1, F, c2, S, c3, M, c4⟩ s) 35)).alloc (.cells #[.int .i64 cd, .int .i64 ar] 39)).alloc (.cells zero5 35)) (w.heap.size + 1) #[.int .i64 cd, .int .i64 ar] 39 := by
    have := (Lies.new (w.alloc (.cells (shCells ⟨K, c1, F, c2, S, c3, M, c4⟩ s) 35)) #[.int .i64 cd, .int .i64 ar] 39).alloc (.cells zero5 35)
    simpa using this
  have hst := hs.t
  have hkl := hs.k
  have Hs := hide hs
  have Hd := hide hd
  have hoffo := h.off (q := w.heap.size + 1) (.inr (by omega))
  clear h hs hd
  unfold shVal
  unfold shCells zero5 at *
  dsimp only at hS lo ⊢
  go_enter Tryd.func20, Tryd.ntmps20
  go_upto_region 1 with fail
  generalize ((w.alloc (.cells #[.slice K s.kinds.length c1, .slice F s.full.length c2, .slice S s.stack.length c3, .slice M s.memo.length c4, .bool s.done] 35)).alloc (.cells #[.int .i64 cd, .int .i64 ar] 39)).alloc (.cells #[.slice none 0 0, .slice none 0 0, .slice none 0 0, .slice none 0 0, .bool false] 35) = W at hS lo ⊢
  obtain ⟨e0, e1, e2, e3, e4⟩ := hS.bx.cells
  dsimp only at e0 e1 e2 e3 e4
  have d0 := lo.cell 0
  have d1 := lo.cell 1
  simp only [List.getElem?_toArray, List.getElem?_cons_zero, List.getElem?_cons_succ] at d0 d1
  have hd := Hd.out
  rw [hd] at e4
  have HN := hide (show stepShp s ⟨cd, ar⟩ = none from stepShp_none (by unfold stepFree; rw [if_pos hd]))
  obtain ⟨_, hs5, _, hbel, hfr⟩ := hS.ret
  obtain ⟨r0, r1, r2, r3, r4, f0, f1, f2, f3, f4, s0, s1, s2, s3, s4⟩ := hs5
  have HR := hide (And.intro hbel hfr)
  clear hbel hfr hS d0 d1 lo
  dsimp only at r0 r1 r2 r3 r4 s0 s1 s2 s3 s4
  rw [hd] at s0 s1 s2 s3 s4 HR
  go_wp2
  refine bodyPost_ret (v := .tuple #[shVal ⟨K, c1, F, c2, S, c3, M, c4⟩ s, .bool false]) (by simp [shVal, shCells, hd, results, Tryd.results20, go_sem, s0, s1, s2, s3, s4]) rfl ?_
  exact ⟨_, _, _, rfl, HR.out.1, HR.out.2, fun t ht => by (rw [HN.out] at ht; cases ht), fun _ => rfl⟩
end Go.Proofs.YtngohlegdjppeaaDoor

namespace Go.Proofs.YtngohlegdjppeaaDoor
open Go.RowKit
set_option linter.unusedVariables false

set_option maxHeartbeats 1000000 in
theorem specValidOps_any (A : Option Addr) (os : List Od) (c : Nat) (w : World) (h : OpsAt w w.heap.size A os) :
    Calls Tryd.prog 11 #[.slice A os.length c] w fun e w' => e = .returned (.bool (tf (OpsOk os))) ∧ Below w.heap.size w w' := by
  have hl := h.len
  go_enter Tryd.func11, Tryd.ntmps11
  go_wp2_with fail
  go_loopw [3] (fun i wr => ∃ k : Nat, k ≤ os.length ∧ i = .int .i64 k ∧ Below w.heap.size w wr ∧ ∀ j x, j < k → os[j]? = some x → OdOk x) (fun i _ => os.length - (intOf i).toNat)
  case atStart => exact ⟨0, Nat.zero_le _, rfl, Below.refl _ _, fun j _ hj => absurd hj (by omega)⟩
  case round =>
    obtain ⟨k, hk, rfl, hb, he0⟩ := hrel
    have he := hide he0
    clear he0
    by_cases hlt : k < os.length
    · obtain ⟨b, off, x, rfl, hbl, hx, hmem, hc0, hc1⟩ := (h.below hb).at_ hlt
      have Hx := hide hx
      clear hx
      by_cases hin : OdOk x
      · have He : Hid (∀ j y, j < k + 1 → os[j]? = some y → OdOk y) := by
          intro j y hj hy
          by_cases e : j = k
          · subst e
            have := Hx.out.symm.trans hy
            injection this with this
            subst this
            exact hin
          · exact he.out j y (by omega) hy
        have ht := hide (show tf (OdOk x) = true from tf_true hin)
        clear he hmem hin
        go_wp2_with fail
        refine (validOp_any x _).mono ?_
        rintro e w' ⟨rfl, hb2⟩
        rw [ht.out]
        go_wp2
        go_roundw
        case rel => exact ⟨k + 1, by omega, by go_num, hb.trans (hb2.mono hb.size), He.out⟩
        case measure => simp [intOf]; omega
      · have HF := hide (show tf (OpsOk os) = false from tf_false fun hall => hin (hall.2 x hmem))
        have ht := hide (show tf (OdOk x) = false from tf_false hin)
        clear he hmem hin
        go_wp2_with fail
        refine (validOp_any x _).mono ?_
        rintro e w' ⟨rfl, hb2⟩
        rw [ht.out]
        go_wp2
        go_ret
        exact ⟨ret_bool HF.out.symm, hb.trans (hb2.mono hb.size)⟩
    · obtain rfl : k = os.length := by omega
      have hall : ∀ x ∈ os, OdOk x := fun x hx => by
        obtain ⟨j, hj, rfl⟩ := List.getElem_of_mem hx
        exact he.out j _ hj (List.getElem?_eq_getElem hj)
      by_cases h3 : os.length ≤ 300
      · have HF := hide (show tf (OpsOk os) = true from tf_true ⟨h3, hall⟩)
        have d : decide ((os.length : Int) ≤ 300) = true := by simp; omega
        clear hlt hall
        go_wp2
        go_ret
        exact ⟨ret_bool HF.out.symm, hb⟩
      · have HF := hide (show tf (OpsOk os) = false from tf_false fun hh => h3 hh.1)
        have d : decide ((os.length : Int) ≤ 300) = false := by simp; omega
        clear hlt hall
        go_wp2
        go_ret
        exact ⟨ret_bool HF.out.symm, hb⟩

end Go.Proofs.YtngohlegdjppeaaDoor

namespace Go.Proofs.YtngohlegdjppeaaDoor
set_option linter.unusedVariables false

/-- how many marks a stack has -/
def marksIn (l : List Int) : Nat := (l.filter fun x => decide (x < 0)).length

/-- what is told of the stack after each of the first n orders -/
noncomputable def toldOf (f : List Int → Nat) (os : List Od) (n : Nat) : List Int := (List.range n).map fun j => ((f (stk os (j + 1)) : Nat) : Int)

theorem toldOf_len (f : List Int → Nat) (os : List Od) (n : Nat) : (toldOf f os n).length = n := by simp [toldOf]
theorem toldOf_succ (f : List Int → Nat) (os : List Od) (n : Nat) : toldOf f os (n + 1) = toldOf f os n ++ [((f (stk os (n + 1)) : Nat) : Int)] := by
  unfold toldOf
  rw [List.range_succ, List.map_append]
  rfl

open Classical in
/-- how many things are on the stack after each order -/
noncomputable def depthsOf (os : List Od) : List Int := if OpsOk os then toldOf List.length os (runShp Shp.new os).2 else []
open Classical in
/-- how many marks are on the stack after each order -/
noncomputable def marksOf (os : List Od) : List Int := if OpsOk os then toldOf marksIn os (runShp Shp.new os).2 else []

theorem stk_le {os : List Od} (h : ∀ o ∈ os, OdOk o) (j : Nat) : (stk os j).length ≤ 300 :=
  (runShp_ok (s := Shp.new) (os := os.take j) Shp.new_ok ⟨by simp [Shp.new], by simp [Shp.new]⟩ (fun o ho => (h o (List.mem_of_mem_take ho)).get)).2.1.2
theorem stk_ok {os : List Od} (h : ∀ o ∈ os, OdOk o) (j : Nat) : (runShp Shp.new (os.take j)).1.Ok :=
  (runShp_ok (s := Shp.new) (os := os.take j) Shp.new_ok ⟨by simp [Shp.new], by simp [Shp.new]⟩ (fun o ho => (h o (List.mem_of_mem_take ho)).get)).1
theorem marksIn_le (l : List Int) : marksIn l ≤ l.length := List.length_filter_le _ _
theorem run_le {os : List Od} (h : ∀ o ∈ os, OdOk o) : (runShp Shp.new os).2 ≤ os.length :=
  (runShp_ok (s := Shp.new) (os := os) Shp.new_ok ⟨by simp [Shp.new], by simp [Shp.new]⟩ (fun o ho => (h o ho).get)).2.2

theorem toldOf_64 {f : List Int → Nat} (hf : ∀ l, f l ≤ l.length) {os : List Od} (h : ∀ o ∈ os, OdOk o) (n : Nat) : ∀ x ∈ toldOf f os n, In64 x := by
  intro x hx
  unfold toldOf at hx
  obtain ⟨j, _, rfl⟩ := List.mem_map.1 hx
  have h1 := hf (stk os (j + 1))
  have h2 := stk_le h (j + 1)
  constructor <;> omega

theorem depthsOf_few {os : List Od} : (depthsOf os).length ≤ 300 := by
  unfold depthsOf
  split
  · next h => rw [toldOf_len]; exact Nat.le_trans (run_le h.2) h.1
  · simp
theorem depthsOf_64 {os : List Od} : ∀ x ∈ depthsOf os, In64 x := by
  unfold depthsOf
  split
  · next h => exact toldOf_64 (fun l => Nat.le_refl _) h.2 _
  · intro x hx; simp at hx
theorem marksOf_few {os : List Od} : (marksOf os).length ≤ 300 := by
  unfold marksOf
  split
  · next h => rw [toldOf_len]; exact Nat.le_trans (run_le h.2) h.1
  · simp
theorem marksOf_64 {os : List Od} : ∀ x ∈ marksOf os, In64 x := by
  unfold marksOf
  split
  · next h => exact toldOf_64 marksIn_le h.2 _
  · intro x hx; simp at hx

end Go.Proofs.YtngohlegdjppeaaDoor

namespace Go.Proofs.YtngohlegdjppeaaDoor
open Go.RowKit
set_option linter.unusedVariables false

theorem grown_undrew {w w1 : World} {row : Option Nat} (h : w.drew.grownBy w1 row) : w.grownBy w1 row := ⟨h.os, h.tape, h.output, h.size, h.block⟩

set_option maxRecDepth 100000 in
set_option maxHeartbeats 4000000 in
theorem pushNew_any (q base off : Nat) (p : ShPtr) (s : Shp) (k : Int) (w : World) (h : SbAt w base q off p s) (hs : s.Small) (hbase : base ≤ w.heap.size) (hk : In64 k) :
    Calls Tryd.prog 41 #[.pointer (some ⟨q, off, none⟩), .int .i64 k] w (TurnsSb w base q off p (s.push k)) := by
  have hkl := hs.k
  have htl := hs.t
  have hfl : s.full.length ≤ 1000 := by have := hs.ok.fl; omega
  have hin : In64 (s.kinds.length : Int) := by constructor <;> omega
  have Hh := hide h
  have hlt := h.lt
  have hlit := hide (show IntsAt (w.alloc (.cells #[.int .i64 (s.kinds.length : Int)] 3)).drew (w.alloc (.cells #[.int .i64 (s.kinds.length : Int)] 3)).drew.heap.size (some ⟨w.heap.size, 0, none⟩) [(s.kinds.length : Int)] from by
    have h0 := (IntsAt.lit w [(s.kinds.length : Int)] (by intro v hv; simp at hv; rw [hv]; exact hin) (by simp)).below (Below.refl _ _).drew
    simpa using h0)
  obtain ⟨e0, e1, e2, e3, e4, f0, f1, f2, f3, f4⟩ := h.c
  clear h hs
  go_enter Tryd.func41, Tryd.ntmps41
  go_wp2_with fail
  go_region_law (first
    | (refine step_append_ints (by rfl) _ _ (by rfl) base p.S p.c3 s.stack (by rfl) ((Hh.out.own.t.alloc _).drew) ⟨w.heap.size, 0, none⟩ 1 [(s.kinds.length : Int)] (by simp) (by rfl) hlit.out (by simp; omega) (by simp; omega) ?_; intro zs A' c' w1 hz ho1 hg1 ha1; have HP := hide (Hh.out.pushT ho1 (grown_undrew hg1) ha1); obtain ⟨g0, g1, g2, g3, g4, k0, k1, k2, k3, k4⟩ := Hh.out.c.ofB (Hh.out.grownB (grown_undrew hg1) Hh.out.off_.t)))
  all_goals
    obtain ⟨hX, fX⟩ := HP.out
    have Hz := hide hz.out
    have hzl : zs.length ≤ 1001 := by rw [Hz.out]; simp; omega
    clear hz ho1 hg1 ha1 HP g0 g1 g2 g3 g4 k0 k1 k2 k3 k4 e0 e1 e2 e3 e4 f0 f1 f2 f3 f4 hlit Hh
    have hXs := fX.size
    have HF := hide fX
    generalize w1.setCell ⟨q, off + 2, none⟩ (.slice A' zs.length c') = X at hX HF hXs ⊢
    have HX := hide hX
    obtain ⟨e0, e1, e2, e3, e4, f0, f1, f2, f3, f4⟩ := hX.c
    clear hX fX
    go_wp2_with (first
      | (at_builtin; refine append_ints rfl (.tmp 22) (.tmp 24) rfl base p.K p.c1 s.kinds rfl (HX.out.own.k.alloc _) _ _ 1 [k] rfl (fun e => by cases e) (IntsAt.oneN _ X.heap.size k hk rfl) (by simp <;> omega) (by simp <;> omega) ?_; intro ys A5 c5 w5 hz5 ho5 hg5 ha5; obtain ⟨d0, d1, d2, d3, d4, m0, m1, m2, m3, m4⟩ := HX.out.c.ofB (HX.out.grownB hg5 HX.out.off_.k); have S5 := hide (HX.out.pushK ho5 hg5 ha5); have z5 := hg5.size; simp at z5)
      | (at_builtin; refine append_bools rfl (.tmp 32) (.tmp 33) rfl base p.F p.c2 s.full rfl (S5.out.1.own.f.alloc _) _ _ 1 [false] rfl (fun e => by cases e) (BoolsAt.oneN _ w5.heap.size false (by simp)) (by simp <;> omega) (by simp <;> omega) ?_; intro xs A6 c6 w6 hz6 ho6 hg6 ha6; obtain ⟨p0, p1, p2, p3, p4, n0, n1, n2, n3, n4⟩ := S5.out.1.c.ofB (S5.out.1.grownB hg6 S5.out.1.off_.f); have S6 := hide (S5.out.1.pushF ho6 hg6 ha6)))
    have hp : ({ s with kinds := ys, full := xs, stack := zs } : Shp) = s.push k := by
      unfold Shp.push
      rw [Hz.out, hz5.out, hz6.out]
    have h6 := S6.out.1
    rw [hp] at h6
    go_end0
    exact ⟨rfl, _, h6, (HF.out.trans S5.out.2).trans S6.out.2⟩

/-- what is taken from the stack, told by how much stays -/
theorem take_any (q base off : Nat) (p : ShPtr) (s : Shp) (t : Int) (n : Nat) (w : World) (h : SbAt w base q off p s) (hs : s.Small) (hn : n ≤ s.stack.length) (ht : t ≠ -1) (htn : (n : Int) = (s.stack.length : Int) - t) (ht0 : 0 ≤ t) :
    Calls Tryd.prog 26 #[.pointer (some ⟨q, off, none⟩), .int .i64 t] w (TurnsSb w base q off p (s.cutTo n)) := by
  have htl := hs.t
  have hcap := h.own.t.capLen
  have Hh := hide h
  have hlt := h.lt
  obtain ⟨e0, e1, e2, e3, e4, f0, f1, f2, f3, f4⟩ := h.c
  have ht1 : (t == -1) = false := by simpa using ht
  have hst : IntKind.i64.wrap ((s.stack.length : Int) - t) = (n : Int) := by rw [IntKind.wrap_i64]; omega
  obtain ⟨m, hm⟩ : ∃ m : Nat, s.stack.length = m + n := ⟨s.stack.length - n, by omega⟩
  obtain rfl : t = (m : Int) := by omega
  have hb1 : (0 : Int) ≤ (n : Int) := by omega
  have hb2 : (n : Int) ≤ (s.stack.length : Int) := by omega
  have hb3 : (n : Int) ≤ (p.c3 : Int) := by omega
  have hd : (s.stack.length : Int) - (m : Int) = (n : Int) := by omega
  have Htn := hide htn
  have Hm := hide hm
  have HC := hide (Hh.out.cut hn)
  clear h hs htn ht hst hm
  go_enter Tryd.func26, Tryd.ntmps26
  go_wp2
  go_end0
  exact ⟨rfl, _, HC.out.1, HC.out.2⟩

theorem take_all (q base off : Nat) (p : ShPtr) (s : Shp) (a : Nat) (w : World) (h : SbAt w base q off p s) (hs : s.Small) (ha : above s.stack = a + 1) :
    Calls Tryd.prog 26 #[.pointer (some ⟨q, off, none⟩), .int .i64 (-1)] w (TurnsSb w base q off p (s.cutTo a)) := by
  have htl := hs.t
  have hcap := h.own.t.capLen
  have hal := above_le s.stack
  have Hh := hide h
  have hlt := h.lt
  have hok := hs.ok.st
  have cm := aboveMark_any p.S s.stack p.c3 w (h.own.at_ hs).t (fun x hx => (hok x hx).1)
  rw [ha] at cm
  have CM := hide cm
  obtain ⟨e0, e1, e2, e3, e4, f0, f1, f2, f3, f4⟩ := h.c
  have hb1 : (0 : Int) ≤ (a : Int) := by omega
  have hb2 : (a : Int) + 1 ≤ (s.stack.length : Int) := by omega
  have hb3 : (a : Int) + 1 ≤ (p.c3 : Int) := by omega
  have hb4 : ((a + 1 : Nat) : Int) - 1 = (a : Int) := by omega
  have HC := hide (Hh.out.cut (n := a) (by omega))
  clear h hs ha hal hok cm
  go_enter Tryd.func26, Tryd.ntmps26
  go_wp2_with fail
  refine CM.out.mono ?_
  rintro e w' ⟨rfl, rfl⟩
  go_wp2
  go_end0
  exact ⟨rfl, _, HC.out.1, HC.out.2⟩

end Go.Proofs.YtngohlegdjppeaaDoor

namespace Go.Proofs.YtngohlegdjppeaaDoor
open Go.RowKit
set_option linter.unusedVariables false

theorem TurnsSb.behind {w W : World} {base q off : Nat} {p : ShPtr} {t : Shp} {e : Ending} {w' : World} (hb : Below w.heap.size w W) (hq : q < w.heap.size) (h : TurnsSb W base q off p t e w') : TurnsSb w base q off p t e w' := by
  obtain ⟨he, p', h1, h2⟩ := h
  exact ⟨he, p', h1, (SbFr.of_below hb hq).trans h2⟩
theorem TurnsSb.mk' {w W w' : World} {base q off : Nat} {p p' : ShPtr} {s t : Shp} (hb : Below w.heap.size w W) (hq : q < w.heap.size) (h : SbAt w' base q off p' t ∧ SbFr W w' q off p p') : TurnsSb w base q off p t (.returned (.tuple #[])) w' :=
  ⟨rfl, p', h.1, (SbFr.of_below hb hq).trans h.2⟩

/-- the codes of orders that push a new thing, and its kind -/
def IsNewOp (c k : Int) : Prop := (c = 0 ∧ k = 0) ∨ (c = 1 ∧ k = 1) ∨ (c = 3 ∧ k = 2) ∨ (c = 4 ∧ k = 2) ∨ (c = 5 ∧ k = 2) ∨ (c = 6 ∧ k = 2) ∨ (c = 7 ∧ k = 3) ∨ (c = 10 ∧ k = 4) ∨ (c = 13 ∧ k = 5)
/-- the codes of orders that do nothing but take -/
def IsIdleOp (c : Int) : Prop := c = 8 ∨ c = 9 ∨ c = 11 ∨ c = 12 ∨ c = 17 ∨ c = 18

set_option maxRecDepth 100000 in
set_option maxHeartbeats 4000000 in
theorem act_new (q base off : Nat) (p : ShPtr) (s : Shp) (cd ar k : Int) (w : World) (h : SbAt w base q off p s) (hs : s.Small) (hbase : base ≤ w.heap.size) (hc : IsNewOp cd k) :
    Calls Tryd.prog 27 #[.pointer (some ⟨q, off, none⟩), .agg #[.int .i64 cd, .int .i64 ar]] w (TurnsSb w base q off p (s.push k)) := by
  have htl := hs.t
  have hlt := h.lt
  have hk : In64 k := by constructor <;> (rcases hc with h | h | h | h | h | h | h | h | h <;> omega)
  have hB := hide ((Below.refl w.heap.size w).alloc (Nat.le_refl _) (.cells #[.int .i64 cd, .int .i64 ar] 39))
  have lo := Lies.new w #[.int .i64 cd, .int .i64 ar] 39
  have h2 := h.alloc (.cells #[.int .i64 cd, .int .i64 ar] 39)
  have HC := hide (pushNew_any q base off p s k _ h2 hs (by simp; omega) hk)
  obtain ⟨e0, e1, e2, e3, e4, f0, f1, f2, f3, f4⟩ := h2.c
  have d0 := lo.cell 0
  have d1 := lo.cell 1
  simp only [List.getElem?_toArray, List.getElem?_cons_zero, List.getElem?_cons_succ] at d0 d1
  clear h hs h2 lo hk
  rcases hc with ⟨rfl, rfl⟩ | ⟨rfl, rfl⟩ | ⟨rfl, rfl⟩ | ⟨rfl, rfl⟩ | ⟨rfl, rfl⟩ | ⟨rfl, rfl⟩ | ⟨rfl, rfl⟩ | ⟨rfl, rfl⟩ | ⟨rfl, rfl⟩
  all_goals
    go_enter Tryd.func27, Tryd.ntmps27
    go_upto_region 1 with fail
    generalize w.alloc (.cells #[.int .i64 _, .int .i64 ar] 39) = W at hB HC e0 e1 e2 e3 e4 f0 f1 f2 f3 f4 d0 d1 ⊢
    go_wp2_with fail
    refine HC.out.mono ?_
    clear HC
    rintro e w' hE
    have hE2 := hE.behind hB.out hlt
    obtain ⟨rfl, hE3⟩ := hE
    have HE := hide hE2
    clear hE2 hE3
    go_wp2
    go_end0
    exact HE.out

set_option maxRecDepth 100000 in
set_option maxHeartbeats 4000000 in
theorem act_idle (q base off : Nat) (p : ShPtr) (s : Shp) (cd ar : Int) (w : World) (h : SbAt w base q off p s) (hs : s.Small) (hbase : base ≤ w.heap.size) (hc : IsIdleOp cd) :
    Calls Tryd.prog 27 #[.pointer (some ⟨q, off, none⟩), .agg #[.int .i64 cd, .int .i64 ar]] w (TurnsSb w base q off p s) := by
  have htl := hs.t
  have hlt := h.lt
  have hB := hide ((Below.refl w.heap.size w).alloc (Nat.le_refl _) (.cells #[.int .i64 cd, .int .i64 ar] 39))
  have lo := Lies.new w #[.int .i64 cd, .int .i64 ar] 39
  have h2 := h.alloc (.cells #[.int .i64 cd, .int .i64 ar] 39)
  have H2 := hide h2
  obtain ⟨e0, e1, e2, e3, e4, f0, f1, f2, f3, f4⟩ := h2.c
  have d0 := lo.cell 0
  have d1 := lo.cell 1
  simp only [List.getElem?_toArray, List.getElem?_cons_zero, List.getElem?_cons_succ] at d0 d1
  clear h hs h2 lo
  rcases hc with rfl | rfl | rfl | rfl | rfl | rfl
  all_goals
    go_enter Tryd.func27, Tryd.ntmps27
    go_upto_region 1 with fail
    generalize w.alloc (.cells #[.int .i64 _, .int .i64 ar] 39) = W at hB H2 e0 e1 e2 e3 e4 f0 f1 f2 f3 f4 d0 d1 ⊢
    go_wp2
    go_end0
    exact TurnsSb.mk' (s := s) hB.out hlt ⟨H2.out, SbFr.refl _ _ _ _⟩

set_option maxRecDepth 100000 in
set_option maxHeartbeats 4000000 in
theorem act_stop (q base off : Nat) (p : ShPtr) (s : Shp) (ar : Int) (w : World) (h : SbAt w base q off p s) (hs : s.Small) (hbase : base ≤ w.heap.size) :
    Calls Tryd.prog 27 #[.pointer (some ⟨q, off, none⟩), .agg #[.int .i64 19, .int .i64 ar]] w (TurnsSb w base q off p { s with done := true }) := by
  have htl := hs.t
  have hlt := h.lt
  have hB := hide ((Below.refl w.heap.size w).alloc (Nat.le_refl _) (.cells #[.int .i64 19, .int .i64 ar] 39))
  have lo := Lies.new w #[.int .i64 19, .int .i64 ar] 39
  have h2 := h.alloc (.cells #[.int .i64 19, .int .i64 ar] 39)
  have H2 := hide h2
  obtain ⟨e0, e1, e2, e3, e4, f0, f1, f2, f3, f4⟩ := h2.c
  have d0 := lo.cell 0
  have d1 := lo.cell 1
  simp only [List.getElem?_toArray, List.getElem?_cons_zero, List.getElem?_cons_succ] at d0 d1
  clear h hs h2 lo
  go_enter Tryd.func27, Tryd.ntmps27
  go_upto_region 1 with fail
  generalize w.alloc (.cells #[.int .i64 19, .int .i64 ar] 39) = W at hB H2 e0 e1 e2 e3 e4 f0 f1 f2 f3 f4 d0 d1 ⊢
  go_wp2
  go_end0
  exact TurnsSb.mk' (s := s) hB.out hlt H2.out.stop

end Go.Proofs.YtngohlegdjppeaaDoor

namespace Go.Proofs.YtngohlegdjppeaaDoor
open Go.RowKit
set_option linter.unusedVariables false

set_option maxRecDepth 100000 in
set_option maxHeartbeats 1000000 in
theorem implNewShapes_any (w : World) : Calls Tryd.prog 36 #[] w (GivesSh w w.heap.size Shp.new) := by
  obtain ⟨R, hR⟩ : ∃ R, R = List.replicate 20 (-1 : Int) := ⟨_, rfl⟩
  rw [show Shp.new = ⟨[], [], [], R, false⟩ from by rw [hR]; rfl]
  have HR := hide hR
  clear hR
  have hB0 := (Below.refl w.heap.size w).alloc (Nat.le_refl _) (.cells zero5 35)
  have L0 := Lies.new w zero5 35
  have HB0 := hide hB0
  have HL0 := hide L0
  clear hB0 L0
  go_enter Tryd.func36, Tryd.ntmps36
  go_upto_region 1 with fail
  unfold zero5 at HB0 HL0
  generalize w.alloc (.cells #[.slice none 0 0, .slice none 0 0, .slice none 0 0, .slice none 0 0, .bool false] 35) = W at HB0 HL0 ⊢
  have hlt := HL0.out.lt
  have HC := hide (repeat_20 W.heap.size (-1) 1 (W.alloc (.cells #[.int .i64 (-1)] 3)) (by simp) (by simp) (by constructor <;> omega))
  have HA := hide ((Below.refl W.heap.size W).alloc (Nat.le_refl _) (.cells #[.int .i64 (-1)] 3))
  have hz : (W.alloc (.cells #[.int .i64 (-1)] 3)).heap.size = W.heap.size + 1 := by simp
  rw [← HR.out] at HC
  generalize hV : W.alloc (.cells #[.int .i64 (-1)] 3) = V at HC HA hz
  have HV := hide hV
  clear hV
  go_wp2_with (go_at_call 45; rw [HV.out]; refine HC.out.mono ?_; rintro e w2 ⟨A, c, rfl, ho, hb⟩; have hS := (show Lies w2 w.heap.size #[.slice none 0 0, .slice none 0 0, .slice none 0 0, .slice none 0 0, .bool false] 35 from (Lies.below (HL0.out.below HA.out hlt) hb (by omega))); obtain ⟨⟨r0, r1, r2, r3, r4, f0, f1, f2, f3, f4, s0, s1, s2, s3, s4⟩, hlf⟩ := Lies.set5 hS (.slice none 0 0) (.slice none 0 0) (.slice none 0 0) (.slice A R.length c) (.bool false); have HS := hide hS; clear hS; have HO := hide (And.intro ho hb); clear ho hb hlf)
  refine bodyPost_ret (v := shVal ⟨none, 0, none, 0, none, 0, A, c⟩ ⟨[], [], [], R, false⟩) (by simp [shVal, shCells, results, Tryd.results36, go_sem, s0, s1, s2, s3, s4]) rfl ?_
  obtain ⟨ho, hb⟩ := HO.out
  have hbw : Below w.heap.size w w2 := (HB0.out.trans (HA.out.mono (by omega))).trans (hb.mono (by omega))
  have hoff : ShPtr.Off ⟨none, 0, none, 0, none, 0, A, c⟩ w.heap.size := ⟨by simp [blockOf], by simp [blockOf], by simp [blockOf], fun e => by have := ho.blocks w.heap.size e; omega⟩
  refine ⟨⟨none, 0, none, 0, none, 0, A, c⟩, rfl, ?_, set5_below hbw (Nat.le_refl _)⟩
  refine ShOwn.set5 ⟨OwnI.empty _ _, OwnB.empty _ _, OwnI.empty _ _, ho.mono (by omega), ?_, ?_, ?_, ?_, ?_, ?_⟩ hoff <;> simp [blockOf]

end Go.Proofs.YtngohlegdjppeaaDoor
