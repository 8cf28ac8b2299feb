/-
  Lemmas, several texts in one: OwnOO, ChkG, ImplO.
-/
import Derived.Test.YtochdhibmmohfaaDoorPjAk
import Derived.Maps.AppendAt
import Derived.Laws.AppendOwnNone
import Derived.Test.YtochdhibmmohfaaDoorPjAl
import Derived.Test.YtochdhibmmohfaaDoorPjAc
import Derived.Test.YtochdhibmmohfaaDoorPjAb
import Derived.Test.YtochdhibmmohfaaDoorPjAi
import Derived.Deep.QuietTactic
import Derived.BigQuiet
namespace Go.Proofs.YtochdhibmmohfaaDoor
open Go.RowKit
set_option linter.unusedVariables false

theorem opVals_one (os : List Od) : ∀ u ∈ opVals os, u.oneCell' = true := by
  intro u hu
  obtain ⟨o, _, hu⟩ := List.mem_flatMap.1 hu
  simp at hu
  rcases hu with rfl | rfl <;> rfl

theorem opVals_append (os ps : List Od) : opVals (os ++ ps) = opVals os ++ opVals ps := by simp [opVals]

theorem OpsAt.vals {w : World} {B b off : Nat} {os : List Od} (h : OpsAt w B (some ⟨b, off, none⟩) os) : ∀ j u, (opVals os)[j]? = some u → w.cell? ⟨b, off + j, none⟩ = some u := by
  intro j u hu
  have hj : j < os.length * 2 := by have := (List.getElem?_eq_some_iff.1 hu).1; rwa [opVals_len] at this
  have hk : j / 2 < os.length := by omega
  obtain ⟨b', off', o, e, _, ho, _, hc0, hc1⟩ := h.at_ hk
  injection e with e
  injection e with e1 e2
  subst e1 e2
  rcases Nat.mod_two_eq_zero_or_one j with hm | hm
  · have ej : j = j / 2 * 2 := by omega
    have := opVals_code ho
    rw [← ej] at this hc0
    rw [this] at hu
    injection hu with hu
    rw [← hu]
    exact hc0
  · have ej : j = j / 2 * 2 + 1 := by omega
    have := opVals_arg ho
    rw [← ej] at this
    rw [Nat.add_assoc, ← ej] at hc1
    rw [this] at hu
    injection hu with hu
    rw [← hu]
    exact hc1

/-- append(s, t...) where s is the call's own and t is any slice of orders that reads as ys -/
theorem append_ops {w : World} {ops : Array Oper} {rest : List Oper} {o : Oper} {a : Act} {Q : Exit → Act → World → Prop} (hgd : o.guard = none) (s x : Operand)
    (ho : o.op = .call { callee := .builtin .append, args := #[s, x], argTypes := #[29, 29] })
    (base : Nat) (A : Option Addr) (c : Nat) (xs : List Od) (hs : a.eval s = .slice A xs.length c) (hown : OwnO w base A c xs)
    (B : Nat) (A2 : Option Addr) (c2 : Nat) (ys : List Od) (hx : a.eval x = .slice A2 ys.length c2) (hnil : A2 = none → c2 = 0) (hr : OpsAt w B A2 ys)
    (hsum : xs.length + ys.length ≤ 8388608) (hbase : base ≤ w.heap.size)
    (h : ∀ (zs : List Od) (A' : Option Addr) (c' : Nat) (w' : World), Hid (zs = xs ++ ys) → OwnO w' base A' c' zs → w.grownBy w' (blockOf A) → (blockOf A' = blockOf A ∨ blockOf A' = some w.heap.size) →
      wpList Tryd.prog ops Q rest (a.put o.dst (.slice A' zs.length c')) w') : wpList Tryd.prog ops Q (o :: rest) a w := by
  obtain ⟨i0, hi, hz0, hz1, hz2⟩ := info_parts infoOp
  have hempty : A2 = none → ys = [] := by
    intro e
    cases ys with
    | nil => rfl
    | cons y ys =>
      obtain ⟨b, off, e2, _⟩ := hr.row (by simp)
      rw [e] at e2; cases e2
  rcases A2 with _ | ad
  · obtain rfl := hnil rfl
    obtain rfl := hempty rfl
    exact wpList_append_own_none hgd s x 29 ho base 44 i0 2 Tryd.underlying29 hi _ _ _ hs hown.own hx
      (h xs A c w (by simp [Hid]) hown (World.grownBy.refl w _) (.inl rfl))
  · have hcells : ∀ j u, (opVals ys)[j]? = some u → w.cell? (ad.add j) = some u := by
      intro j u hu
      have hy : ys ≠ [] := by intro e; subst e; simp [opVals] at hu
      obtain ⟨b, off, e2, _⟩ := hr.row hy
      obtain rfl : ad = ⟨b, off, none⟩ := Option.some.inj e2
      have hadd : (⟨b, off, none⟩ : Addr).add j = ⟨b, off + j, none⟩ := by
        unfold Addr.add
        split
        · rename_i h0; subst h0; rfl
        · rfl
      rw [hadd]
      exact hr.vals j u hu
    refine wpList_append_own_at w hgd s x 29 ho base 44 i0 _ 2 16 Tryd.underlying29 hi hz0 hz1 hz2 rfl (by omega) _ _ _ hs hown.own ad ys.length c2 (opVals ys) hx (by rw [opVals_len]) hcells (opVals_one ys)
      (by unfold maxLen; omega) (by omega) hbase ?_
    intro v' w' h2 h3 _ h5
    have hlen : xs.length + ys.length = (xs ++ ys).length := by simp
    rw [ownBlock_slice] at h3 h5
    rw [← opVals_append, hlen] at h2
    rcases h2.2 with ⟨rfl, h6⟩ | ⟨g, cap, cur, rfl, _⟩
    · have hzs : xs ++ ys = [] := List.eq_nil_of_length_eq_zero h6
      have := h (xs ++ ys) none 0 w' (by simp [Hid]) ⟨by rw [h6] at h2 ⊢; exact h2⟩ h3 (by simpa [blockOf, Value.ownBlock] using h5)
      rw [h6] at this
      exact this
    · exact h (xs ++ ys) _ _ w' (by simp [Hid]) ⟨h2⟩ h3 (by simpa [ownBlock_slice] using h5)

theorem OpsAt.upto {w : World} {B : Nat} {A : Option Addr} {os : List Od} (h : OpsAt w B A os) (n : Nat) : OpsAt w B A (os.take n) := by
  refine ⟨fun hx => ?_, fun x hx => h.wf x (List.mem_of_mem_take hx), Nat.le_trans (by simp; omega) h.len⟩
  obtain ⟨b, off, e, hlt, hc⟩ := h.row (by intro e; subst e; simp at hx)
  refine ⟨b, off, e, hlt, fun j x hj => hc j x ?_⟩
  rw [List.getElem?_take] at hj
  split at hj
  · exact hj
  · cases hj

end Go.Proofs.YtochdhibmmohfaaDoor

namespace Go.Proofs.YtochdhibmmohfaaDoor
open Go.RowKit
set_option linter.unusedVariables false

set_option maxRecDepth 100000 in
set_option maxHeartbeats 4000000 in
theorem act_mark (q base off : Nat) (p : ShPtr) (s : Shp) (ar : Int) (w : World) (h : SbAt w base q off p s) (hs : s.Small) (hbase : base ≤ w.heap.size) :
    Calls Tryd.prog 50 #[.pointer (some ⟨q, off, none⟩), .agg #[.int .i64 2, .int .i64 ar]] w (TurnsSb w base q off p { s with stack := s.stack ++ [-1] }) := by
  have htl := hs.t
  have hlt := h.lt
  have hB := hide ((Below.refl w.heap.size w).alloc (Nat.le_refl _) (.cells #[.int .i64 2, .int .i64 ar] 44))
  have lo := Lies.new w #[.int .i64 2, .int .i64 ar] 44
  have h2 := h.alloc (.cells #[.int .i64 2, .int .i64 ar] 44)
  have hbW : base ≤ (w.alloc (.cells #[.int .i64 2, .int .i64 ar] 44)).heap.size := by simp; omega
  have H2 := hide h2
  obtain ⟨e0, e1, e2, e3, e4, f0, f1, f2, f3, f4⟩ := h2.c
  have d0 := lo.cell 0
  have d1 := lo.cell 1
  simp only [List.getElem?_toArray, List.getElem?_cons_zero, List.getElem?_cons_succ] at d0 d1
  have hm : In64 (-1) := by constructor <;> omega
  clear h hs h2 lo
  go_enter Tryd.func50, Tryd.ntmps50
  go_upto_region 1 with fail
  generalize w.alloc (.cells #[.int .i64 2, .int .i64 ar] 44) = W at hB H2 hbW e0 e1 e2 e3 e4 f0 f1 f2 f3 f4 d0 d1 ⊢
  go_wp2_with (at_builtin; refine append_ints rfl (.tmp 27) (.tmp 28) rfl base p.S p.c3 s.stack rfl (H2.out.own.t.alloc _) _ _ 1 [(-1 : Int)] rfl (fun e => by cases e) (IntsAt.oneN _ W.heap.size (-1) hm rfl) (by simp <;> omega) (by simp <;> omega) ?_; intro zs A5 c5 w5 hz5 ho5 hg5 ha5; obtain ⟨x0, x1, x2, x3, x4, m0, m1, m2, m3, m4⟩ := H2.out.c.ofB (H2.out.grownB hg5 H2.out.off_.t); have S5 := hide (H2.out.pushT ho5 hg5 ha5))
  have hp : ({ s with stack := zs } : Shp) = { s with stack := s.stack ++ [-1] } := by rw [hz5.out]
  have h6 := S5.out
  rw [hp] at h6
  go_end0
  exact TurnsSb.mk' (s := s) hB.out hlt h6

set_option maxRecDepth 100000 in
set_option maxHeartbeats 4000000 in
theorem act_state (q base off : Nat) (p : ShPtr) (s : Shp) (ar : Int) (w : World) (h : SbAt w base q off p s) (hs : s.Small) (hbase : base ≤ w.heap.size) (h0 : 0 ≤ s.thing 0) :
    Calls Tryd.prog 50 #[.pointer (some ⟨q, off, none⟩), .agg #[.int .i64 14, .int .i64 ar]] w (TurnsSb w base q off p { s with full := s.full.set (s.thing 0).toNat true }) := by
  have htl := hs.t
  have hlt := h.lt
  have hB := hide ((Below.refl w.heap.size w).alloc (Nat.le_refl _) (.cells #[.int .i64 14, .int .i64 ar] 44))
  have lo := Lies.new w #[.int .i64 14, .int .i64 ar] 44
  have h2 := h.alloc (.cells #[.int .i64 14, .int .i64 ar] 44)
  have H2 := hide h2
  have hth := (hs.ok.thing 0).2
  have hfl := hs.ok.fl
  have hpos : 0 < s.stack.length := by
    by_cases hp : 0 < s.stack.length
    · exact hp
    · rw [Shp.thing_none (by omega)] at h0; omega
  obtain ⟨n, hn⟩ : ∃ n, s.stack.length = n + 1 := ⟨s.stack.length - 1, by omega⟩
  obtain ⟨x, hx⟩ : ∃ x, s.stack[n]? = some x := ⟨_, List.getElem?_eq_getElem (by omega)⟩
  have hxt : s.thing 0 = x := by
    unfold Shp.thing
    rw [if_pos hpos, show s.stack.length - 1 - 0 = n by omega, List.getD_eq_getElem?_getD, hx]; rfl
  rw [hxt] at h0 hth ⊢
  obtain ⟨j, rfl⟩ := Int.eq_ofNat_of_zero_le h0
  have hjf : j < s.full.length := by omega
  obtain ⟨gs, hS, hs1, hs2, hcx, _⟩ := h2.own.t.atJ hx
  obtain ⟨y, hy⟩ : ∃ y, s.full[j]? = some y := ⟨_, List.getElem?_eq_getElem hjf⟩
  obtain ⟨gf, hF, hf1, hf2, hcf, hff⟩ := h2.own.f.atJ hy
  clear hy
  obtain ⟨e0, e1, e2, e3, e4, f0, f1, f2, f3, f4⟩ := h2.c
  rw [hS] at e2
  rw [hF] at e1
  have d0 := lo.cell 0
  have d1 := lo.cell 1
  simp only [List.getElem?_toArray, List.getElem?_cons_zero, List.getElem?_cons_succ] at d0 d1
  have hn1 : (s.stack.length : Int) - 1 = (n : Int) := by omega
  have hn0 : (0 : Int) ≤ (n : Int) := by omega
  have hn2 : (n : Int) < (s.stack.length : Int) := by omega
  have hj0 : (0 : Int) ≤ (j : Int) := by omega
  have hj1 : (j : Int) < (s.full.length : Int) := by omega
  have HC := hide (H2.out.drew.fill (a := j) hF)
  rw [Int.toNat_natCast]
  clear h hs h2 lo hx hxt hn h0 hth hfl hjf hS hF
  go_enter Tryd.func50, Tryd.ntmps50
  go_upto_region 1 with fail
  generalize w.alloc (.cells #[.int .i64 14, .int .i64 ar] 44) = W at hB H2 HC e0 e1 e2 e3 e4 f0 f1 f2 f3 f4 d0 d1 hcx hcf hff hs2 hf2 ⊢
  go_wp2_with fail
  go_still_tail 12, (by kernel_rfl)
  go_wp2
  go_end0
  exact TurnsSb.mk' (s := s) hB.out.drew hlt HC.out

set_option maxRecDepth 100000 in
set_option maxHeartbeats 4000000 in
theorem act_put (q base off : Nat) (p : ShPtr) (s : Shp) (ar : Nat) (w : World) (h : SbAt w base q off p s) (hs : s.Small) (hbase : base ≤ w.heap.size) (har : ar < 20) (hpos : 0 < s.stack.length) :
    Calls Tryd.prog 50 #[.pointer (some ⟨q, off, none⟩), .agg #[.int .i64 15, .int .i64 (ar : Int)]] w (TurnsSb w base q off p { s with memo := s.memo.set ar (s.thing 0) }) := by
  have htl := hs.t
  have hlt := h.lt
  have hB := hide ((Below.refl w.heap.size w).alloc (Nat.le_refl _) (.cells #[.int .i64 15, .int .i64 (ar : Int)] 44))
  have lo := Lies.new w #[.int .i64 15, .int .i64 (ar : Int)] 44
  have h2 := h.alloc (.cells #[.int .i64 15, .int .i64 (ar : Int)] 44)
  have H2 := hide h2
  have hml := hs.ok.ml
  obtain ⟨n, hn⟩ : ∃ n, s.stack.length = n + 1 := ⟨s.stack.length - 1, by omega⟩
  obtain ⟨x, hx⟩ : ∃ x, s.stack[n]? = some x := ⟨_, List.getElem?_eq_getElem (by omega)⟩
  have hxt : s.thing 0 = x := by
    unfold Shp.thing
    rw [if_pos hpos, show s.stack.length - 1 - 0 = n by omega, List.getD_eq_getElem?_getD, hx]; rfl
  rw [hxt]
  obtain ⟨gs, hS, hs1, hs2, hcx, _⟩ := h2.own.t.atJ hx
  obtain ⟨y, hy⟩ : ∃ y, s.memo[ar]? = some y := ⟨_, List.getElem?_eq_getElem (by omega)⟩
  obtain ⟨gm, hM, hm1, hm2, hcm, hfm⟩ := h2.own.m.atJ hy
  clear hy
  obtain ⟨e0, e1, e2, e3, e4, f0, f1, f2, f3, f4⟩ := h2.c
  rw [hS] at e2
  rw [hM] at e3
  have d0 := lo.cell 0
  have d1 := lo.cell 1
  simp only [List.getElem?_toArray, List.getElem?_cons_zero, List.getElem?_cons_succ] at d0 d1
  have hn1 : (s.stack.length : Int) - 1 = (n : Int) := by omega
  have hn0 : (0 : Int) ≤ (n : Int) := by omega
  have hn2 : (n : Int) < (s.stack.length : Int) := by omega
  have hj0 : (0 : Int) ≤ (ar : Int) := by omega
  have hj1 : (ar : Int) < (s.memo.length : Int) := by omega
  have HC := hide (H2.out.drew.putM (a := ar) hM x)
  clear h hs h2 lo hx hxt hn hml hS hM
  go_enter Tryd.func50, Tryd.ntmps50
  go_upto_region 1 with fail
  generalize w.alloc (.cells #[.int .i64 15, .int .i64 (ar : Int)] 44) = W at hB H2 HC e0 e1 e2 e3 e4 f0 f1 f2 f3 f4 d0 d1 hcx hcm hfm hs2 hm2 ⊢
  go_wp2_with fail
  go_still_tail 14, (by kernel_rfl)
  go_wp2
  go_end0
  exact TurnsSb.mk' (s := s) hB.out.drew hlt HC.out

set_option maxRecDepth 100000 in
set_option maxHeartbeats 4000000 in
theorem act_get (q base off : Nat) (p : ShPtr) (s : Shp) (ar : Nat) (w : World) (h : SbAt w base q off p s) (hs : s.Small) (hbase : base ≤ w.heap.size) (har : ar < 20) :
    Calls Tryd.prog 50 #[.pointer (some ⟨q, off, none⟩), .agg #[.int .i64 16, .int .i64 (ar : Int)]] w (TurnsSb w base q off p { s with stack := s.stack ++ [s.memo.getD ar 0] }) := by
  have htl := hs.t
  have hlt := h.lt
  have hB := hide ((Below.refl w.heap.size w).alloc (Nat.le_refl _) (.cells #[.int .i64 16, .int .i64 (ar : Int)] 44))
  have lo := Lies.new w #[.int .i64 16, .int .i64 (ar : Int)] 44
  have h2 := h.alloc (.cells #[.int .i64 16, .int .i64 (ar : Int)] 44)
  have hbW : base ≤ (w.alloc (.cells #[.int .i64 16, .int .i64 (ar : Int)] 44)).heap.size := by simp; omega
  have H2 := hide h2
  have hml := hs.ok.ml
  obtain ⟨x, hx⟩ : ∃ x, s.memo[ar]? = some x := ⟨_, List.getElem?_eq_getElem (by omega)⟩
  have hgd : s.memo.getD ar 0 = x := by rw [List.getD_eq_getElem?_getD, hx]; rfl
  have hx64 : In64 x := hs.m64 x (List.mem_of_getElem? hx)
  rw [hgd]
  obtain ⟨gm, hM, hm1, hm2, hcm, hfm⟩ := h2.own.m.atJ hx
  obtain ⟨e0, e1, e2, e3, e4, f0, f1, f2, f3, f4⟩ := h2.c
  rw [hM] at e3
  have d0 := lo.cell 0
  have d1 := lo.cell 1
  simp only [List.getElem?_toArray, List.getElem?_cons_zero, List.getElem?_cons_succ] at d0 d1
  have hj0 : (0 : Int) ≤ (ar : Int) := by omega
  have hj1 : (ar : Int) < (s.memo.length : Int) := by omega
  clear h hs h2 hx hgd hml hM
  go_enter Tryd.func50, Tryd.ntmps50
  go_upto_region 1 with fail
  have lo2 := hide lo
  clear lo
  generalize w.alloc (.cells #[.int .i64 16, .int .i64 (ar : Int)] 44) = W at hB H2 hbW e0 e1 e2 e3 e4 f0 f1 f2 f3 f4 d0 d1 hcm hfm hm2 lo2 ⊢
  have hlit := hide (show IntsAt (W.alloc (.cells #[.int .i64 x] 3)).drew (W.alloc (.cells #[.int .i64 x] 3)).drew.heap.size (some ⟨W.heap.size, 0, none⟩) [x] from by
    have h0 := (IntsAt.lit W [x] (by intro v hv; simp at hv; rw [hv]; exact hx64) (by simp)).below (Below.refl _ _).drew
    simpa using h0)
  have e2a := (H2.out.alloc (.cells #[.int .i64 x] 3)).c.c2
  go_wp2_with fail
  go_region_law (first
    | (refine step_append_ints (by rfl) _ _ (by rfl) base p.S p.c3 s.stack (by rfl) ((H2.out.own.t.alloc _).drew) ⟨W.heap.size, 0, none⟩ 1 [x] (by simp) (by rfl) hlit.out (by simp; omega) (by simp; omega) ?_; intro zs A' c' w1 hz ho1 hg1 ha1; have HP := hide (H2.out.pushT ho1 (grown_undrew hg1) ha1); obtain ⟨g0, g1, g2, g3, g4, k0, k1, k2, k3, k4⟩ := H2.out.c.ofB (H2.out.grownB (grown_undrew hg1) H2.out.off_.t)))
  all_goals
    have hp : ({ s with stack := zs } : Shp) = { s with stack := s.stack ++ [x] } := by rw [hz.out]
    have h6 := HP.out
    rw [hp] at h6
    have H6 := hide h6
    clear h6 hp hz ho1 hg1 ha1 HP
    go_wp2
    go_end0
    exact TurnsSb.mk' (s := s) hB.out hlt H6.out

end Go.Proofs.YtochdhibmmohfaaDoor

namespace Go.Proofs.YtochdhibmmohfaaDoor
open Go.RowKit
set_option linter.unusedVariables false

set_option maxRecDepth 100000 in
set_option maxHeartbeats 1000000 in
theorem implValidOps_any (A : Option Addr) (os : List Od) (c : Nat) (w : World) (h : OpsAt w w.heap.size A os) (hF : FormsAt w w.heap.size) :
    Calls Tryd.prog 32 #[.slice A os.length c] w fun e w' => e = .returned (.bool (tf (OpsOk os))) ∧ Below w.heap.size w w' := by
  have hl := h.len
  by_cases h3 : os.length ≤ 300
  · have t3 : decide ((300 : Int) < (os.length : Int)) = false := by simp; omega
    go_enter Tryd.func32, Tryd.ntmps32
    go_wp2_with fail
    go_loopw [10] (fun i wr => ∃ k : Nat, k ≤ os.length ∧ i = .int .i64 k ∧ Below w.heap.size w wr ∧ ∀ j x, j < k → os[j]? = some x → OdOk x) (fun i _ => os.length - (intOf i).toNat)
    case atStart => exact ⟨0, Nat.zero_le _, rfl, Below.refl _ _, fun j _ hj => absurd hj (by omega)⟩
    case round =>
      obtain ⟨k, hk, rfl, hb, he0⟩ := hrel
      have he := hide he0
      clear he0
      by_cases hlt : k < os.length
      · obtain ⟨b, off, x, rfl, hbl, hx, hmem, hc0, hc1⟩ := (h.below hb).at_ hlt
        have Hx := hide hx
        clear hx
        have hFr := hF.below hb
        have hb2 : Below w.heap.size w (wr.alloc (.cells #[.int .i64 x.code, .int .i64 x.arg] 44)) := hb.alloc hb.size _
        have lx := Lies.new wr #[.int .i64 x.code, .int .i64 x.arg] 44
        have hF2 := hF.below hb2
        clear hFr
        go_wp2_with fail
        generalize wr.alloc (.cells #[.int .i64 x.code, .int .i64 x.arg] 44) = w2 at hb2 lx hF2 ⊢
        have x0 := lx.cell 0
        have x1 := lx.cell 1
        simp at x0 x1
        by_cases hc : 0 ≤ x.code ∧ x.code ≤ 19
        · have u1 := upB_yes hc
          obtain ⟨m, hm⟩ := Int.eq_ofNat_of_zero_le hc.1
          have hm19 : m < 20 := by omega
          have harg := hF2.arg m hm19
          have hi1 : (0 : Int) ≤ x.code := hc.1
          have hi2 : x.code < 20 := by omega
          have hmn : x.code.toNat = m := by omega
          rw [← hm, ← hmn] at harg
          by_cases ha : 0 ≤ x.arg ∧ x.arg ≤ argTop x.code
          · have u2 := upB_yes ha
            have He : Hid (∀ j y, j < k + 1 → os[j]? = some y → OdOk y) := by
              intro j y hj hy
              by_cases e : j = k
              · subst e
                obtain rfl := Option.some.inj (Hx.out.symm.trans hy)
                exact (OdOk.iff _).2 ⟨hc, ha⟩
              · exact he.out j y (by omega) hy
            generalize argTop x.code = T at harg u2
            clear he hmem hm hmn ha hc hF2 lx
            go_quiet ((go_at_call 43; exact Calls.quiet_of_same (isUpTo_q _ _ _)))
            go_wp2
            go_roundw
            case rel => exact ⟨k + 1, by omega, by go_num, below_drewN hb2 _, He.out⟩
            case measure => simp [intOf]; omega
          · have u2 := upB_no ha
            have HF := hide (show tf (OpsOk os) = false from tf_false fun hall => ha ((OdOk.iff _).1 (hall.2 x hmem)).2)
            generalize argTop x.code = T at harg u2
            clear he hmem hm hmn ha hc hF2 lx
            go_quiet ((go_at_call 43; exact Calls.quiet_of_same (isUpTo_q _ _ _)))
            go_wp2
            go_ret
            exact ⟨ret_bool HF.out.symm, below_drewN hb2 _⟩
        · have u1 := upB_no hc
          have HF := hide (show tf (OpsOk os) = false from tf_false fun hall => hc (hall.2 x hmem).1)
          clear he hmem hc hF2 lx
          go_quiet ((go_at_call 43; exact Calls.quiet_of_same (isUpTo_q _ _ _)))
          go_wp2
          go_ret
          exact ⟨ret_bool HF.out.symm, below_drewN hb2 _⟩
      · obtain rfl : k = os.length := by omega
        have HF := hide (show tf (OpsOk os) = true from tf_true ⟨h3, fun x hx => by
          obtain ⟨j, hj, rfl⟩ := List.getElem_of_mem hx
          exact he.out j _ hj (List.getElem?_eq_getElem hj)⟩)
        clear hlt
        go_wp2
        go_ret
        exact ⟨ret_bool HF.out.symm, hb⟩
  · have t3 : decide ((300 : Int) < (os.length : Int)) = true := by simp; omega
    have HF := hide (show tf (OpsOk os) = false from tf_false fun hh => h3 hh.1)
    clear h3
    go_enter Tryd.func32, Tryd.ntmps32
    go_wp2
    go_ret
    exact ⟨ret_bool HF.out.symm, Below.refl _ _⟩

end Go.Proofs.YtochdhibmmohfaaDoor
