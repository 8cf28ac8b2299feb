/-
  The program's check by kinds: act, for marks, states and the memo.
-/
import Derived.Test.YtaolnnjcpnhghaaDoorPjAg
namespace Go.Proofs.YtaolnnjcpnhghaaDoor
open Go.RowKit
set_option linter.unusedVariables false

set_option maxRecDepth 100000 in
set_option maxHeartbeats 4000000 in
theorem act_mark (q base off : Nat) (p : ShPtr) (s : Shp) (ar : Int) (w : World) (h : SbAt w base q off p s) (hs : s.Small) (hbase : base ≤ w.heap.size) :
    Calls Tryd.prog 36 #[.pointer (some ⟨q, off, none⟩), .agg #[.int .i64 2, .int .i64 ar]] w (TurnsSb w base q off p { s with stack := s.stack ++ [-1] }) := by
  have htl := hs.t
  have hlt := h.lt
  have hB := hide ((Below.refl w.heap.size w).alloc (Nat.le_refl _) (.cells #[.int .i64 2, .int .i64 ar] 37))
  have lo := Lies.new w #[.int .i64 2, .int .i64 ar] 37
  have h2 := h.alloc (.cells #[.int .i64 2, .int .i64 ar] 37)
  have hbW : base ≤ (w.alloc (.cells #[.int .i64 2, .int .i64 ar] 37)).heap.size := by simp; omega
  have H2 := hide h2
  obtain ⟨e0, e1, e2, e3, e4, f0, f1, f2, f3, f4⟩ := h2.c
  have d0 := lo.cell 0
  have d1 := lo.cell 1
  simp only [List.getElem?_toArray, List.getElem?_cons_zero, List.getElem?_cons_succ] at d0 d1
  have hm : In64 (-1) := by constructor <;> omega
  clear h hs h2 lo
  go_enter Tryd.func36, Tryd.ntmps36
  go_upto_region 1 with fail
  generalize w.alloc (.cells #[.int .i64 2, .int .i64 ar] 37) = W at hB H2 hbW e0 e1 e2 e3 e4 f0 f1 f2 f3 f4 d0 d1 ⊢
  go_wp2_with (at_builtin; refine append_ints rfl (.tmp 27) (.tmp 28) rfl base p.S p.c3 s.stack rfl (H2.out.own.t.alloc _) _ _ 1 [(-1 : Int)] rfl (fun e => by cases e) (IntsAt.oneN _ W.heap.size (-1) hm rfl) (by simp <;> omega) (by simp <;> omega) ?_; intro zs A5 c5 w5 hz5 ho5 hg5 ha5; obtain ⟨x0, x1, x2, x3, x4, m0, m1, m2, m3, m4⟩ := H2.out.c.ofB (H2.out.grownB hg5 H2.out.off_.t); have S5 := hide (H2.out.pushT ho5 hg5 ha5))
  have hp : ({ s with stack := zs } : Shp) = { s with stack := s.stack ++ [-1] } := by rw [hz5.out]
  have h6 := S5.out
  rw [hp] at h6
  go_end0
  exact TurnsSb.mk' (s := s) hB.out hlt h6

set_option maxRecDepth 100000 in
set_option maxHeartbeats 4000000 in
theorem act_state (q base off : Nat) (p : ShPtr) (s : Shp) (ar : Int) (w : World) (h : SbAt w base q off p s) (hs : s.Small) (hbase : base ≤ w.heap.size) (h0 : 0 ≤ s.thing 0) :
    Calls Tryd.prog 36 #[.pointer (some ⟨q, off, none⟩), .agg #[.int .i64 14, .int .i64 ar]] w (TurnsSb w base q off p { s with full := s.full.set (s.thing 0).toNat true }) := by
  have htl := hs.t
  have hlt := h.lt
  have hB := hide ((Below.refl w.heap.size w).alloc (Nat.le_refl _) (.cells #[.int .i64 14, .int .i64 ar] 37))
  have lo := Lies.new w #[.int .i64 14, .int .i64 ar] 37
  have h2 := h.alloc (.cells #[.int .i64 14, .int .i64 ar] 37)
  have H2 := hide h2
  have hth := (hs.ok.thing 0).2
  have hfl := hs.ok.fl
  have hpos : 0 < s.stack.length := by
    by_cases hp : 0 < s.stack.length
    · exact hp
    · rw [Shp.thing_none (by omega)] at h0; omega
  obtain ⟨n, hn⟩ : ∃ n, s.stack.length = n + 1 := ⟨s.stack.length - 1, by omega⟩
  obtain ⟨x, hx⟩ : ∃ x, s.stack[n]? = some x := ⟨_, List.getElem?_eq_getElem (by omega)⟩
  have hxt : s.thing 0 = x := by
    unfold Shp.thing
    rw [if_pos hpos, show s.stack.length - 1 - 0 = n by omega, List.getD_eq_getElem?_getD, hx]; rfl
  rw [hxt] at h0 hth ⊢
  obtain ⟨j, rfl⟩ := Int.eq_ofNat_of_zero_le h0
  have hjf : j < s.full.length := by omega
  obtain ⟨gs, hS, hs1, hs2, hcx, _⟩ := h2.own.t.atJ hx
  obtain ⟨y, hy⟩ : ∃ y, s.full[j]? = some y := ⟨_, List.getElem?_eq_getElem hjf⟩
  obtain ⟨gf, hF, hf1, hf2, hcf, hff⟩ := h2.own.f.atJ hy
  clear hy
  obtain ⟨e0, e1, e2, e3, e4, f0, f1, f2, f3, f4⟩ := h2.c
  rw [hS] at e2
  rw [hF] at e1
  have d0 := lo.cell 0
  have d1 := lo.cell 1
  simp only [List.getElem?_toArray, List.getElem?_cons_zero, List.getElem?_cons_succ] at d0 d1
  have hn1 : (s.stack.length : Int) - 1 = (n : Int) := by omega
  have hn0 : (0 : Int) ≤ (n : Int) := by omega
  have hn2 : (n : Int) < (s.stack.length : Int) := by omega
  have hj0 : (0 : Int) ≤ (j : Int) := by omega
  have hj1 : (j : Int) < (s.full.length : Int) := by omega
  have HC := hide (H2.out.drew.fill (a := j) hF)
  rw [Int.toNat_natCast]
  clear h hs h2 lo hx hxt hn h0 hth hfl hjf hS hF
  go_enter Tryd.func36, Tryd.ntmps36
  go_upto_region 1 with fail
  generalize w.alloc (.cells #[.int .i64 14, .int .i64 ar] 37) = W at hB H2 HC e0 e1 e2 e3 e4 f0 f1 f2 f3 f4 d0 d1 hcx hcf hff hs2 hf2 ⊢
  go_wp2_with fail
  go_still_tail 12, (by kernel_rfl)
  go_wp2
  go_end0
  exact TurnsSb.mk' (s := s) hB.out.drew hlt HC.out

set_option maxRecDepth 100000 in
set_option maxHeartbeats 4000000 in
theorem act_put (q base off : Nat) (p : ShPtr) (s : Shp) (ar : Nat) (w : World) (h : SbAt w base q off p s) (hs : s.Small) (hbase : base ≤ w.heap.size) (har : ar < 20) (hpos : 0 < s.stack.length) :
    Calls Tryd.prog 36 #[.pointer (some ⟨q, off, none⟩), .agg #[.int .i64 15, .int .i64 (ar : Int)]] w (TurnsSb w base q off p { s with memo := s.memo.set ar (s.thing 0) }) := by
  have htl := hs.t
  have hlt := h.lt
  have hB := hide ((Below.refl w.heap.size w).alloc (Nat.le_refl _) (.cells #[.int .i64 15, .int .i64 (ar : Int)] 37))
  have lo := Lies.new w #[.int .i64 15, .int .i64 (ar : Int)] 37
  have h2 := h.alloc (.cells #[.int .i64 15, .int .i64 (ar : Int)] 37)
  have H2 := hide h2
  have hml := hs.ok.ml
  obtain ⟨n, hn⟩ : ∃ n, s.stack.length = n + 1 := ⟨s.stack.length - 1, by omega⟩
  obtain ⟨x, hx⟩ : ∃ x, s.stack[n]? = some x := ⟨_, List.getElem?_eq_getElem (by omega)⟩
  have hxt : s.thing 0 = x := by
    unfold Shp.thing
    rw [if_pos hpos, show s.stack.length - 1 - 0 = n by omega, List.getD_eq_getElem?_getD, hx]; rfl
  rw [hxt]
  obtain ⟨gs, hS, hs1, hs2, hcx, _⟩ := h2.own.t.atJ hx
  obtain ⟨y, hy⟩ : ∃ y, s.memo[ar]? = some y := ⟨_, List.getElem?_eq_getElem (by omega)⟩
  obtain ⟨gm, hM, hm1, hm2, hcm, hfm⟩ := h2.own.m.atJ hy
  clear hy
  obtain ⟨e0, e1, e2, e3, e4, f0, f1, f2, f3, f4⟩ := h2.c
  rw [hS] at e2
  rw [hM] at e3
  have d0 := lo.cell 0
  have d1 := lo.cell 1
  simp only [List.getElem?_toArray, List.getElem?_cons_zero, List.getElem?_cons_succ] at d0 d1
  have hn1 : (s.stack.length : Int) - 1 = (n : Int) := by omega
  have hn0 : (0 : Int) ≤ (n : Int) := by omega
  have hn2 : (n : Int) < (s.stack.length : Int) := by omega
  have hj0 : (0 : Int) ≤ (ar : Int) := by omega
  have hj1 : (ar : Int) < (s.memo.length : Int) := by omega
  have HC := hide (H2.out.drew.putM (a := ar) hM x)
  clear h hs h2 lo hx hxt hn hml hS hM
  go_enter Tryd.func36, Tryd.ntmps36
  go_upto_region 1 with fail
  generalize w.alloc (.cells #[.int .i64 15, .int .i64 (ar : Int)] 37) = W at hB H2 HC e0 e1 e2 e3 e4 f0 f1 f2 f3 f4 d0 d1 hcx hcm hfm hs2 hm2 ⊢
  go_wp2_with fail
  go_still_tail 14, (by kernel_rfl)
  go_wp2
  go_end0
  exact TurnsSb.mk' (s := s) hB.out.drew hlt HC.out

set_option maxRecDepth 100000 in
set_option maxHeartbeats 4000000 in
theorem act_get (q base off : Nat) (p : ShPtr) (s : Shp) (ar : Nat) (w : World) (h : SbAt w base q off p s) (hs : s.Small) (hbase : base ≤ w.heap.size) (har : ar < 20) :
    Calls Tryd.prog 36 #[.pointer (some ⟨q, off, none⟩), .agg #[.int .i64 16, .int .i64 (ar : Int)]] w (TurnsSb w base q off p { s with stack := s.stack ++ [s.memo.getD ar 0] }) := by
  have htl := hs.t
  have hlt := h.lt
  have hB := hide ((Below.refl w.heap.size w).alloc (Nat.le_refl _) (.cells #[.int .i64 16, .int .i64 (ar : Int)] 37))
  have lo := Lies.new w #[.int .i64 16, .int .i64 (ar : Int)] 37
  have h2 := h.alloc (.cells #[.int .i64 16, .int .i64 (ar : Int)] 37)
  have hbW : base ≤ (w.alloc (.cells #[.int .i64 16, .int .i64 (ar : Int)] 37)).heap.size := by simp; omega
  have H2 := hide h2
  have hml := hs.ok.ml
  obtain ⟨x, hx⟩ : ∃ x, s.memo[ar]? = some x := ⟨_, List.getElem?_eq_getElem (by omega)⟩
  have hgd : s.memo.getD ar 0 = x := by rw [List.getD_eq_getElem?_getD, hx]; rfl
  have hx64 : In64 x := hs.m64 x (List.mem_of_getElem? hx)
  rw [hgd]
  obtain ⟨gm, hM, hm1, hm2, hcm, hfm⟩ := h2.own.m.atJ hx
  obtain ⟨e0, e1, e2, e3, e4, f0, f1, f2, f3, f4⟩ := h2.c
  rw [hM] at e3
  have d0 := lo.cell 0
  have d1 := lo.cell 1
  simp only [List.getElem?_toArray, List.getElem?_cons_zero, List.getElem?_cons_succ] at d0 d1
  have hj0 : (0 : Int) ≤ (ar : Int) := by omega
  have hj1 : (ar : Int) < (s.memo.length : Int) := by omega
  clear h hs h2 hx hgd hml hM
  go_enter Tryd.func36, Tryd.ntmps36
  go_upto_region 1 with fail
  have lo2 := hide lo
  clear lo
  generalize w.alloc (.cells #[.int .i64 16, .int .i64 (ar : Int)] 37) = W at hB H2 hbW e0 e1 e2 e3 e4 f0 f1 f2 f3 f4 d0 d1 hcm hfm hm2 lo2 ⊢
  have hlit := hide (show IntsAt (W.alloc (.cells #[.int .i64 x] 3)).drew (W.alloc (.cells #[.int .i64 x] 3)).drew.heap.size (some ⟨W.heap.size, 0, none⟩) [x] from by
    have h0 := (IntsAt.lit W [x] (by intro v hv; simp at hv; rw [hv]; exact hx64) (by simp)).below (Below.refl _ _).drew
    simpa using h0)
  have e2a := (H2.out.alloc (.cells #[.int .i64 x] 3)).c.c2
  go_wp2_with fail
  go_region_law (first
    | (refine step_append_ints (by rfl) _ _ (by rfl) base p.S p.c3 s.stack (by rfl) ((H2.out.own.t.alloc _).drew) ⟨W.heap.size, 0, none⟩ 1 [x] (by simp) (by rfl) hlit.out (by simp; omega) (by simp; omega) ?_; intro zs A' c' w1 hz ho1 hg1 ha1; have HP := hide (H2.out.pushT ho1 (grown_undrew hg1) ha1); obtain ⟨g0, g1, g2, g3, g4, k0, k1, k2, k3, k4⟩ := H2.out.c.ofB (H2.out.grownB (grown_undrew hg1) H2.out.off_.t)))
  all_goals
    have hp : ({ s with stack := zs } : Shp) = { s with stack := s.stack ++ [x] } := by rw [hz.out]
    have h6 := HP.out
    rw [hp] at h6
    have H6 := hide h6
    clear h6 hp hz ho1 hg1 ha1 HP
    go_wp2
    go_end0
    exact TurnsSb.mk' (s := s) hB.out hlt H6.out

end Go.Proofs.YtaolnnjcpnhghaaDoor
