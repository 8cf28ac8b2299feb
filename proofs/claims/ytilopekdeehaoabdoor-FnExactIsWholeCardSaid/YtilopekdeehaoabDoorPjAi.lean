/-
  Lemmas, several texts in one: Forms, ChkG, ChkH, UpTo.
-/
import Derived.Test.YtilopekdeehaoabDoorArg
import Derived.Test.YtilopekdeehaoabDoorMem
import Derived.LaidMore
import Derived.Test.YtilopekdeehaoabDoorPjAh
import Derived.Test.YtilopekdeehaoabDoorChkD
import Derived.Test.YtilopekdeehaoabDoorPjAf
import Derived.Deep.QuietTactic
import Derived.BigQuiet
namespace Go.Proofs.YtilopekdeehaoabDoor
open Go.RowKit Go.ChangeShapes

/-- how many things an order of a code takes, -1 for all above a mark -/
def takesOf (c : Nat) : Int := [0, 0, 0, -1, 0, 1, 2, 0, 1, -1, 0, 2, -1, 0, 1, 0, 0, 1, -1, 0].getD c 0

/-- how many things an order of a code pushes -/
def pushesOf (c : Nat) : Int := [1, 1, 1, 1, 1, 1, 1, 1, 0, 0, 1, 0, 0, 1, 0, 0, 1, 0, 0, 0].getD c 0

/-- the cells of the table -/
structure FormsAt (w : World) (B : Nat) : Prop where
  lt : 0 < B
  takes : ∀ c : Nat, c < 20 → w.cell? ⟨0, c * 3, none⟩ = some (.int .i64 (takesOf c))
  pushes : ∀ c : Nat, c < 20 → w.cell? ⟨0, c * 3 + 1, none⟩ = some (.int .i64 (pushesOf c))
  arg : ∀ c : Nat, c < 20 → w.cell? ⟨0, c * 3 + 2, none⟩ = some (.int .i64 (argTop c))

theorem FormsAt.below {w w' : World} {B : Nat} (h : FormsAt w B) (hb : Below B w w') : FormsAt w' B :=
  ⟨h.lt, fun c hc => (hb.cell (p := ⟨0, c * 3, none⟩) h.lt).trans (h.takes c hc), fun c hc => (hb.cell (p := ⟨0, c * 3 + 1, none⟩) h.lt).trans (h.pushes c hc), fun c hc => (hb.cell (p := ⟨0, c * 3 + 2, none⟩) h.lt).trans (h.arg c hc)⟩

theorem FormsAt.more {w : World} {B B' : Nat} (h : FormsAt w B) (hB : B ≤ B') : FormsAt w B' := ⟨Nat.lt_of_lt_of_le h.lt hB, h.takes, h.pushes, h.arg⟩

theorem FormsAt.later {w w' : World} {B : Nat} (h : FormsAt w B) (hb : Below B w w') (hB : B ≤ w.heap.size) : FormsAt w' w'.heap.size :=
  (h.below hb).more (Nat.le_trans hB hb.size)

end Go.Proofs.YtilopekdeehaoabDoor

namespace Go.Proofs.YtilopekdeehaoabDoor
open Go.RowKit
set_option linter.unusedVariables false

set_option maxRecDepth 100000 in
set_option maxHeartbeats 4000000 in
theorem act_mark (q base off : Nat) (p : ShPtr) (s : Shp) (ar : Int) (w : World) (h : SbAt w base q off p s) (hs : s.Small) (hbase : base ≤ w.heap.size) :
    Calls Tryd.prog 36 #[.pointer (some ⟨q, off, none⟩), .agg #[.int .i64 2, .int .i64 ar]] w (TurnsSb w base q off p { s with stack := s.stack ++ [-1] }) := by
  have htl := hs.t
  have hlt := h.lt
  have hB := hide ((Below.refl w.heap.size w).alloc (Nat.le_refl _) (.cells #[.int .i64 2, .int .i64 ar] 36))
  have lo := Lies.new w #[.int .i64 2, .int .i64 ar] 36
  have h2 := h.alloc (.cells #[.int .i64 2, .int .i64 ar] 36)
  have hbW : base ≤ (w.alloc (.cells #[.int .i64 2, .int .i64 ar] 36)).heap.size := by simp; omega
  have H2 := hide h2
  obtain ⟨e0, e1, e2, e3, e4, f0, f1, f2, f3, f4⟩ := h2.c
  have d0 := lo.cell 0
  have d1 := lo.cell 1
  simp only [List.getElem?_toArray, List.getElem?_cons_zero, List.getElem?_cons_succ] at d0 d1
  have hm : In64 (-1) := by constructor <;> omega
  clear h hs h2 lo
  go_enter Tryd.func36, Tryd.ntmps36
  go_upto_region 1 with fail
  generalize w.alloc (.cells #[.int .i64 2, .int .i64 ar] 36) = W at hB H2 hbW e0 e1 e2 e3 e4 f0 f1 f2 f3 f4 d0 d1 ⊢
  go_wp2_with (at_builtin; refine append_ints rfl (.tmp 27) (.tmp 28) rfl base p.S p.c3 s.stack rfl (H2.out.own.t.alloc _) _ _ 1 [(-1 : Int)] rfl (fun e => by cases e) (IntsAt.oneN _ W.heap.size (-1) hm rfl) (by simp <;> omega) (by simp <;> omega) ?_; intro zs A5 c5 w5 hz5 ho5 hg5 ha5; obtain ⟨x0, x1, x2, x3, x4, m0, m1, m2, m3, m4⟩ := H2.out.c.ofB (H2.out.grownB hg5 H2.out.off_.t); have S5 := hide (H2.out.pushT ho5 hg5 ha5))
  have hp : ({ s with stack := zs } : Shp) = { s with stack := s.stack ++ [-1] } := by rw [hz5.out]
  have h6 := S5.out
  rw [hp] at h6
  go_end0
  exact TurnsSb.mk' (s := s) hB.out hlt h6

set_option maxRecDepth 100000 in
set_option maxHeartbeats 4000000 in
theorem act_state (q base off : Nat) (p : ShPtr) (s : Shp) (ar : Int) (w : World) (h : SbAt w base q off p s) (hs : s.Small) (hbase : base ≤ w.heap.size) (h0 : 0 ≤ s.thing 0) :
    Calls Tryd.prog 36 #[.pointer (some ⟨q, off, none⟩), .agg #[.int .i64 14, .int .i64 ar]] w (TurnsSb w base q off p { s with full := s.full.set (s.thing 0).toNat true }) := by
  have htl := hs.t
  have hlt := h.lt
  have hB := hide ((Below.refl w.heap.size w).alloc (Nat.le_refl _) (.cells #[.int .i64 14, .int .i64 ar] 36))
  have lo := Lies.new w #[.int .i64 14, .int .i64 ar] 36
  have h2 := h.alloc (.cells #[.int .i64 14, .int .i64 ar] 36)
  have H2 := hide h2
  have hth := (hs.ok.thing 0).2
  have hfl := hs.ok.fl
  have hpos : 0 < s.stack.length := by
    by_cases hp : 0 < s.stack.length
    · exact hp
    · rw [Shp.thing_none (by omega)] at h0; omega
  obtain ⟨n, hn⟩ : ∃ n, s.stack.length = n + 1 := ⟨s.stack.length - 1, by omega⟩
  obtain ⟨x, hx⟩ : ∃ x, s.stack[n]? = some x := ⟨_, List.getElem?_eq_getElem (by omega)⟩
  have hxt : s.thing 0 = x := by
    unfold Shp.thing
    rw [if_pos hpos, show s.stack.length - 1 - 0 = n by omega, List.getD_eq_getElem?_getD, hx]; rfl
  rw [hxt] at h0 hth ⊢
  obtain ⟨j, rfl⟩ := Int.eq_ofNat_of_zero_le h0
  have hjf : j < s.full.length := by omega
  obtain ⟨gs, hS, hs1, hs2, hcx, _⟩ := h2.own.t.atJ hx
  obtain ⟨y, hy⟩ : ∃ y, s.full[j]? = some y := ⟨_, List.getElem?_eq_getElem hjf⟩
  obtain ⟨gf, hF, hf1, hf2, hcf, hff⟩ := h2.own.f.atJ hy
  clear hy
  obtain ⟨e0, e1, e2, e3, e4, f0, f1, f2, f3, f4⟩ := h2.c
  rw [hS] at e2
  rw [hF] at e1
  have d0 := lo.cell 0
  have d1 := lo.cell 1
  simp only [List.getElem?_toArray, List.getElem?_cons_zero, List.getElem?_cons_succ] at d0 d1
  have hn1 : (s.stack.length : Int) - 1 = (n : Int) := by omega
  have hn0 : (0 : Int) ≤ (n : Int) := by omega
  have hn2 : (n : Int) < (s.stack.length : Int) := by omega
  have hj0 : (0 : Int) ≤ (j : Int) := by omega
  have hj1 : (j : Int) < (s.full.length : Int) := by omega
  have HC := hide (H2.out.drew.fill (a := j) hF)
  rw [Int.toNat_natCast]
  clear h hs h2 lo hx hxt hn h0 hth hfl hjf hS hF
  go_enter Tryd.func36, Tryd.ntmps36
  go_upto_region 1 with fail
  generalize w.alloc (.cells #[.int .i64 14, .int .i64 ar] 36) = W at hB H2 HC e0 e1 e2 e3 e4 f0 f1 f2 f3 f4 d0 d1 hcx hcf hff hs2 hf2 ⊢
  go_wp2_with fail
  go_still_tail 12, (by kernel_rfl)
  go_wp2
  go_end0
  exact TurnsSb.mk' (s := s) hB.out.drew hlt HC.out

set_option maxRecDepth 100000 in
set_option maxHeartbeats 4000000 in
theorem act_put (q base off : Nat) (p : ShPtr) (s : Shp) (ar : Nat) (w : World) (h : SbAt w base q off p s) (hs : s.Small) (hbase : base ≤ w.heap.size) (har : ar < 20) (hpos : 0 < s.stack.length) :
    Calls Tryd.prog 36 #[.pointer (some ⟨q, off, none⟩), .agg #[.int .i64 15, .int .i64 (ar : Int)]] w (TurnsSb w base q off p { s with memo := s.memo.set ar (s.thing 0) }) := by
  have htl := hs.t
  have hlt := h.lt
  have hB := hide ((Below.refl w.heap.size w).alloc (Nat.le_refl _) (.cells #[.int .i64 15, .int .i64 (ar : Int)] 36))
  have lo := Lies.new w #[.int .i64 15, .int .i64 (ar : Int)] 36
  have h2 := h.alloc (.cells #[.int .i64 15, .int .i64 (ar : Int)] 36)
  have H2 := hide h2
  have hml := hs.ok.ml
  obtain ⟨n, hn⟩ : ∃ n, s.stack.length = n + 1 := ⟨s.stack.length - 1, by omega⟩
  obtain ⟨x, hx⟩ : ∃ x, s.stack[n]? = some x := ⟨_, List.getElem?_eq_getElem (by omega)⟩
  have hxt : s.thing 0 = x := by
    unfold Shp.thing
    rw [if_pos hpos, show s.stack.length - 1 - 0 = n by omega, List.getD_eq_getElem?_getD, hx]; rfl
  rw [hxt]
  obtain ⟨gs, hS, hs1, hs2, hcx, _⟩ := h2.own.t.atJ hx
  obtain ⟨y, hy⟩ : ∃ y, s.memo[ar]? = some y := ⟨_, List.getElem?_eq_getElem (by omega)⟩
  obtain ⟨gm, hM, hm1, hm2, hcm, hfm⟩ := h2.own.m.atJ hy
  clear hy
  obtain ⟨e0, e1, e2, e3, e4, f0, f1, f2, f3, f4⟩ := h2.c
  rw [hS] at e2
  rw [hM] at e3
  have d0 := lo.cell 0
  have d1 := lo.cell 1
  simp only [List.getElem?_toArray, List.getElem?_cons_zero, List.getElem?_cons_succ] at d0 d1
  have hn1 : (s.stack.length : Int) - 1 = (n : Int) := by omega
  have hn0 : (0 : Int) ≤ (n : Int) := by omega
  have hn2 : (n : Int) < (s.stack.length : Int) := by omega
  have hj0 : (0 : Int) ≤ (ar : Int) := by omega
  have hj1 : (ar : Int) < (s.memo.length : Int) := by omega
  have HC := hide (H2.out.drew.putM (a := ar) hM x)
  clear h hs h2 lo hx hxt hn hml hS hM
  go_enter Tryd.func36, Tryd.ntmps36
  go_upto_region 1 with fail
  generalize w.alloc (.cells #[.int .i64 15, .int .i64 (ar : Int)] 36) = W at hB H2 HC e0 e1 e2 e3 e4 f0 f1 f2 f3 f4 d0 d1 hcx hcm hfm hs2 hm2 ⊢
  go_wp2_with fail
  go_still_tail 14, (by kernel_rfl)
  go_wp2
  go_end0
  exact TurnsSb.mk' (s := s) hB.out.drew hlt HC.out

set_option maxRecDepth 100000 in
set_option maxHeartbeats 4000000 in
theorem act_get (q base off : Nat) (p : ShPtr) (s : Shp) (ar : Nat) (w : World) (h : SbAt w base q off p s) (hs : s.Small) (hbase : base ≤ w.heap.size) (har : ar < 20) :
    Calls Tryd.prog 36 #[.pointer (some ⟨q, off, none⟩), .agg #[.int .i64 16, .int .i64 (ar : Int)]] w (TurnsSb w base q off p { s with stack := s.stack ++ [s.memo.getD ar 0] }) := by
  have htl := hs.t
  have hlt := h.lt
  have hB := hide ((Below.refl w.heap.size w).alloc (Nat.le_refl _) (.cells #[.int .i64 16, .int .i64 (ar : Int)] 36))
  have lo := Lies.new w #[.int .i64 16, .int .i64 (ar : Int)] 36
  have h2 := h.alloc (.cells #[.int .i64 16, .int .i64 (ar : Int)] 36)
  have hbW : base ≤ (w.alloc (.cells #[.int .i64 16, .int .i64 (ar : Int)] 36)).heap.size := by simp; omega
  have H2 := hide h2
  have hml := hs.ok.ml
  obtain ⟨x, hx⟩ : ∃ x, s.memo[ar]? = some x := ⟨_, List.getElem?_eq_getElem (by omega)⟩
  have hgd : s.memo.getD ar 0 = x := by rw [List.getD_eq_getElem?_getD, hx]; rfl
  have hx64 : In64 x := hs.m64 x (List.mem_of_getElem? hx)
  rw [hgd]
  obtain ⟨gm, hM, hm1, hm2, hcm, hfm⟩ := h2.own.m.atJ hx
  obtain ⟨e0, e1, e2, e3, e4, f0, f1, f2, f3, f4⟩ := h2.c
  rw [hM] at e3
  have d0 := lo.cell 0
  have d1 := lo.cell 1
  simp only [List.getElem?_toArray, List.getElem?_cons_zero, List.getElem?_cons_succ] at d0 d1
  have hj0 : (0 : Int) ≤ (ar : Int) := by omega
  have hj1 : (ar : Int) < (s.memo.length : Int) := by omega
  clear h hs h2 hx hgd hml hM
  go_enter Tryd.func36, Tryd.ntmps36
  go_upto_region 1 with fail
  have lo2 := hide lo
  clear lo
  generalize w.alloc (.cells #[.int .i64 16, .int .i64 (ar : Int)] 36) = W at hB H2 hbW e0 e1 e2 e3 e4 f0 f1 f2 f3 f4 d0 d1 hcm hfm hm2 lo2 ⊢
  have hlit := hide (show IntsAt (W.alloc (.cells #[.int .i64 x] 3)).drew (W.alloc (.cells #[.int .i64 x] 3)).drew.heap.size (some ⟨W.heap.size, 0, none⟩) [x] from by
    have h0 := (IntsAt.lit W [x] (by intro v hv; simp at hv; rw [hv]; exact hx64) (by simp)).below (Below.refl _ _).drew
    simpa using h0)
  have e2a := (H2.out.alloc (.cells #[.int .i64 x] 3)).c.c2
  go_wp2_with fail
  go_region_law (first
    | (refine step_append_ints (by rfl) _ _ (by rfl) base p.S p.c3 s.stack (by rfl) ((H2.out.own.t.alloc _).drew) ⟨W.heap.size, 0, none⟩ 1 [x] (by simp) (by rfl) hlit.out (by simp; omega) (by simp; omega) ?_; intro zs A' c' w1 hz ho1 hg1 ha1; have HP := hide (H2.out.pushT ho1 (grown_undrew hg1) ha1); obtain ⟨g0, g1, g2, g3, g4, k0, k1, k2, k3, k4⟩ := H2.out.c.ofB (H2.out.grownB (grown_undrew hg1) H2.out.off_.t)))
  all_goals
    have hp : ({ s with stack := zs } : Shp) = { s with stack := s.stack ++ [x] } := by rw [hz.out]
    have h6 := HP.out
    rw [hp] at h6
    have H6 := hide h6
    clear h6 hp hz ho1 hg1 ha1 HP
    go_wp2
    go_end0
    exact TurnsSb.mk' (s := s) hB.out hlt H6.out

end Go.Proofs.YtilopekdeehaoabDoor

namespace Go.Proofs.YtilopekdeehaoabDoor
open Go.RowKit
set_option linter.unusedVariables false

theorem takes_same : ∀ c : Nat, c < 20 → takesOf c = takesN (c : Int) := by
  decide

theorem use_small (s : Shp) (a : Int) : s.useAt a < 1000 := by
  rcases s.use_bits a with h | h | h | h | h | h | h <;> omega
theorem from_small (s : Shp) (a : Nat) : s.useFrom a < 1000 := by unfold Shp.useFrom; split <;> omega
theorem view_small (s : Shp) (c : Int) : s.view0 c < 1000 ∧ s.view1 c < 1000 ∧ s.view2 c < 1000 := by
  unfold Shp.view0 Shp.view1 Shp.view2
  refine ⟨?_, ?_, ?_⟩ <;> split <;> first | exact use_small _ _ | exact from_small _ _
theorem need_small (c : Int) : need0 c < 1000 ∧ need1 c < 1000 ∧ need2 c < 1000 := by
  unfold need0 need1 need2
  refine ⟨?_, ?_, ?_⟩ <;> (repeat' split) <;> omega

theorem viewOf_code (q base off : Nat) (p : ShPtr) (s : Shp) (c : Nat) (w : World) (h : SbAt w base q off p s) (hs : s.Small) (hc : c < 20) :
    Calls Tryd.prog 38 #[.pointer (some ⟨q, off, none⟩), .int .i64 (takesOf c)] w (GivesV w (s.view0 (c : Int)) (s.view1 (c : Int)) (s.view2 (c : Int))) := by
  rw [takes_same c hc]
  unfold Shp.view0 Shp.view1 Shp.view2
  by_cases ht : takesN (c : Int) = -1
  · rw [if_pos ht, if_pos ht, if_pos ht, ht]
    exact viewOf_all q base off p s _ _ _ w h hs rfl rfl rfl
  · rw [if_neg ht, if_neg ht, if_neg ht]
    exact viewOf_top q base off p s _ _ _ _ w h hs ht rfl rfl rfl

set_option maxRecDepth 100000 in
set_option maxHeartbeats 4000000 in
theorem hasNeeded_no (q base off : Nat) (p : ShPtr) (s : Shp) (ar : Nat) (w : World) (h : SbAt w base q off p s) (hs : s.Small) (ha : ar < 20) (hm : s.memo.getD ar 0 < 0) :
    Calls Tryd.prog 34 #[.pointer (some ⟨q, off, none⟩), .agg #[.int .i64 16, .int .i64 (ar : Int)]] w fun e w' => e = .returned (.bool false) ∧ Below w.heap.size w w' := by
  have hB := hide ((Below.refl w.heap.size w).alloc (Nat.le_refl _) (.cells #[.int .i64 16, .int .i64 (ar : Int)] 36))
  have lo := Lies.new w #[.int .i64 16, .int .i64 (ar : Int)] 36
  have h2 := h.alloc (.cells #[.int .i64 16, .int .i64 (ar : Int)] 36)
  have hml := hs.ok.ml
  obtain ⟨x, hx⟩ : ∃ x, s.memo[ar]? = some x := ⟨_, List.getElem?_eq_getElem (by omega)⟩
  have hx1 := (hs.ok.mm x (List.mem_of_getElem? hx)).1
  have hgd : s.memo.getD ar 0 = x := by rw [List.getD_eq_getElem?_getD, hx]; rfl
  rw [hgd] at hm
  obtain rfl : x = -1 := by omega
  obtain ⟨gm, hM, hm1, hm2, hcm, hfm⟩ := h2.own.m.atJ hx
  obtain ⟨e0, e1, e2, e3, e4, f0, f1, f2, f3, f4⟩ := h2.c
  rw [hM] at e3
  have d0 := lo.cell 0
  have d1 := lo.cell 1
  simp only [List.getElem?_toArray, List.getElem?_cons_zero, List.getElem?_cons_succ] at d0 d1
  have hj0 : (0 : Int) ≤ (ar : Int) := by omega
  have hj1 : (ar : Int) < (s.memo.length : Int) := by omega
  clear h hs h2 hx hgd hml hM lo hm hx1
  go_enter Tryd.func34, Tryd.ntmps34
  go_upto_region 1 with fail
  generalize w.alloc (.cells #[.int .i64 16, .int .i64 (ar : Int)] 36) = W at hB e0 e1 e2 e3 e4 f0 f1 f2 f3 f4 d0 d1 hcm hfm hm2 ⊢
  go_quiet (fail)
  go_wp2
  go_ret
  exact ⟨rfl, below_drewN hB.out _⟩

end Go.Proofs.YtilopekdeehaoabDoor

namespace Go.Proofs.YtilopekdeehaoabDoor
open Go.RowKit

theorem isUpTo_yes (n hi : Int) (w : World) (h1 : 0 ≤ n) (h2 : n ≤ hi) :
    Calls Tryd.prog 32 #[.int .i64 n, .int .i64 hi] w fun e w' => e = .returned (.bool true) ∧ w = w' := by
  have d1 : decide (0 ≤ n) = true := by simpa using h1
  have d2 : decide (n ≤ hi) = true := by simpa using h2
  go_enter Tryd.func32, Tryd.ntmps32
  go_wp2
  go_ret
  exact ⟨rfl, rfl⟩

theorem isUpTo_no (n hi : Int) (w : World) (h : n < 0 ∨ hi < n) :
    Calls Tryd.prog 32 #[.int .i64 n, .int .i64 hi] w fun e w' => e = .returned (.bool false) ∧ w = w' := by
  by_cases h1 : 0 ≤ n
  · have h2 : ¬ n ≤ hi := by omega
    have d1 : decide (0 ≤ n) = true := by simpa using h1
    have d2 : decide (n ≤ hi) = false := by simpa using h2
    clear h
    go_enter Tryd.func32, Tryd.ntmps32
    go_wp2
    go_ret
    exact ⟨rfl, rfl⟩
  · have d1 : decide (0 ≤ n) = false := by simpa using h1
    clear h
    go_enter Tryd.func32, Tryd.ntmps32
    go_wp2
    go_ret
    exact ⟨rfl, rfl⟩

/-- whether a number is in 0..hi -/
def upB (n hi : Int) : Bool := decide (0 ≤ n ∧ n ≤ hi)
theorem upB_yes {n hi : Int} (h : 0 ≤ n ∧ n ≤ hi) : upB n hi = true := by unfold upB; simpa using h
theorem upB_no {n hi : Int} (h : ¬ (0 ≤ n ∧ n ≤ hi)) : upB n hi = false := by unfold upB; simpa using h

/-- the same for a region that only reads -/
theorem isUpTo_q (n hi : Int) (w : World) :
    Calls Tryd.prog 32 #[.int .i64 n, .int .i64 hi] w fun e w' => e = .returned (.bool (upB n hi)) ∧ w' = w := by
  by_cases h : 0 ≤ n ∧ n ≤ hi
  · rw [upB_yes h]
    exact (isUpTo_yes n hi w h.1 h.2).mono fun e w' ⟨a, b⟩ => ⟨a, b.symm⟩
  · rw [upB_no h]
    exact (isUpTo_no n hi w (by omega)).mono fun e w' ⟨a, b⟩ => ⟨a, b.symm⟩

end Go.Proofs.YtilopekdeehaoabDoor
