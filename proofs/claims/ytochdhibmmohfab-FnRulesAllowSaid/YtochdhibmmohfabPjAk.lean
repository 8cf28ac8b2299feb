/-
  Lemmas, several texts in one: DpS, AlS.
-/
import Derived.Test.YtochdhibmmohfabRunS
import Derived.Test.YtochdhibmmohfabPjAi
import Derived.Test.YtochdhibmmohfabPjAh
import Derived.Test.YtochdhibmmohfabPjAj
import Derived.Test.YtochdhibmmohfabPjAf
import Derived.Test.YtochdhibmmohfabPjAg
import Derived.Deep.Cut
namespace Go.Proofs.Ytochdhibmmohfab
open Go.RowKit
set_option linter.unusedVariables false

set_option maxRecDepth 100000 in
set_option maxHeartbeats 2000000 in
theorem specDepthsOf_any (A : Option Addr) (os : List Od) (c : Nat) (w : World) (h : OpsAt w w.heap.size A os) (hc : os.length ≤ c) :
    Calls Try.prog 39 #[.slice A os.length c] w (GivesInts w (depthsOf os)) := by
  by_cases hok : OpsOk os
  · have ht := hide (tf_true hok)
    have hl := hok.1
    have Hall := hide hok.2
    have hnl := run_le hok.2
    have HV := hide (show depthsOf os = toldOf List.length os (runShp Shp.new os).2 by unfold depthsOf; rw [if_pos hok])
    obtain ⟨R, hR⟩ : ∃ R, R = runShp Shp.new os := ⟨_, rfl⟩
    rw [← hR] at HV hnl
    have HR := hide hR
    clear hR hok
    obtain ⟨s, n⟩ := R
    rw [HV.out]
    simp only at hnl ⊢
    go_enter Try.func39, Try.ntmps39
    go_wp2_with fail
    refine (specValidOps_any A os c w h).mono ?_
    rintro e w1 ⟨rfl, hb1⟩
    rw [ht.out]
    have hA1 := hb1.alloc hb1.size (.cells #[] 3)
    have h1 := h.later hA1 (Nat.le_refl _)
    have HO1 := hide ((OwnI.bare w1).mono hb1.size)
    have HA1 := hide hA1
    go_wp2_with fail
    generalize w1.alloc (.cells #[] 3) = W1 at HA1 HO1 h1 ⊢
    have HC := runShapes_any A os c W1 h1 Hall.out
    rw [← HR.out] at HC
    refine HC.mono ?_
    clear HC
    rintro e w2 ⟨p, rfl, ho, hb2⟩
    have hg1 := w1.heap.size
    have HO2 := hide (HO1.out.below hb2)
    have HB2 := hide (HA1.out.trans (hb2.mono HA1.out.size))
    simp only [shVal, shCells]
    have HB3 := hide (HB2.out.alloc HB2.out.size (.cells #[.slice p.K s.kinds.length p.c1, .slice p.F s.full.length p.c2, .slice p.S s.stack.length p.c3, .slice p.M s.memo.length p.c4, .bool s.done] 44))
    have HO3 := hide (HO2.out.alloc (.cells #[.slice p.K s.kinds.length p.c1, .slice p.F s.full.length p.c2, .slice p.S s.stack.length p.c3, .slice p.M s.memo.length p.c4, .bool s.done] 44))
    clear ho hb1 hb2 h1 hA1 HO1 HO2 HA1 HB2
    go_upto_region 5 with fail
    generalize w2.alloc (.cells #[.slice p.K s.kinds.length p.c1, .slice p.F s.full.length p.c2, .slice p.S s.stack.length p.c3, .slice p.M s.memo.length p.c4, .bool s.done] 44) = W3 at HB3 HO3 ⊢
    generalize w1.heap.size = g1 at HO3 ⊢
    go_wp2_with fail
    go_loopg [3, 6] n (fun gk ov iv wr => ∃ (k : Nat) (Ao : Option Addr) (co : Nat) (xs : List Int), k ≤ n ∧ gk = n - k ∧ iv = .int .i64 ((k : Int) + 1) ∧ ov = .slice Ao xs.length co ∧ Hid (xs = toldOf List.length os k) ∧ OwnI wr w.heap.size Ao co xs ∧ Below w.heap.size w wr)
    case atStart => exact ⟨0, _, 0, [], Nat.zero_le _, rfl, rfl, rfl, hide rfl, HO3.out, HB3.out⟩
    case round =>
      clear HO3 HB3
      obtain ⟨k, Ao, co, xs, hk, rfl, rfl, rfl, hxs, hO, hB⟩ := hrel
      have HO := hide hO
      have HB := hide hB
      have hxl : xs.length ≤ 300 := by rw [hxs.out, toldOf_len]; omega
      clear hO hB
      by_cases hlt : k < n
      · have hT := hide (show (os.take (k + 1)).length = k + 1 by simp; omega)
        have hi1 : (k : Int) + 1 ≤ (n : Int) := by omega
        have hi2 : (k : Int) + 1 ≤ (c : Int) := by omega
        have hi0 : (0 : Int) ≤ (k : Int) + 1 := by omega
        have hcall := runShapes_any A (os.take (k + 1)) c wr ((h.upto (k + 1)).later HB.out (Nat.le_refl _)) (fun o ho => Hall.out o (List.mem_of_mem_take ho))
        rw [hT.out] at hcall
        have Hst := hide (show (runShp Shp.new (os.take (k + 1))).1.stack = stk os (k + 1) from rfl)
        generalize runShp Shp.new (os.take (k + 1)) = R2 at hcall Hst
        obtain ⟨s2, n2⟩ := R2
        have HCall := hide hcall
        have hs3 : s2.stack.length ≤ 300 := by
          have : s2.stack = stk os (k + 1) := Hst.out
          rw [this]
          exact stk_le Hall.out _
        clear hcall
        go_wp2_with fail
        refine HCall.out.mono ?_
        clear HCall
        rintro e w5 ⟨p2, rfl, _, hb5⟩
        have HO5 := hide (HO.out.below hb5)
        have HB5 := hide (HB.out.trans (hb5.mono HB.out.size))
        simp only [shVal, shCells]
        have HO6 := hide (HO5.out.alloc (.cells #[.slice p2.K s2.kinds.length p2.c1, .slice p2.F s2.full.length p2.c2, .slice p2.S s2.stack.length p2.c3, .slice p2.M s2.memo.length p2.c4, .bool s2.done] 44))
        have HB6 := hide (HB5.out.alloc HB5.out.size (.cells #[.slice p2.K s2.kinds.length p2.c1, .slice p2.F s2.full.length p2.c2, .slice p2.S s2.stack.length p2.c3, .slice p2.M s2.memo.length p2.c4, .bool s2.done] 44))
        have l6 := Lies.new w5 #[.slice p2.K s2.kinds.length p2.c1, .slice p2.F s2.full.length p2.c2, .slice p2.S s2.stack.length p2.c3, .slice p2.M s2.memo.length p2.c4, .bool s2.done] 44
        clear hb5 HO HB HO5 HB5
        go_upto_region 9 with fail
        generalize w5.alloc (.cells #[.slice p2.K s2.kinds.length p2.c1, .slice p2.F s2.full.length p2.c2, .slice p2.S s2.stack.length p2.c3, .slice p2.M s2.memo.length p2.c4, .bool s2.done] 44) = W6 at HO6 HB6 l6 ⊢
        have c2 := l6.cell 2
        simp only [List.getElem?_toArray, List.getElem?_cons_zero, List.getElem?_cons_succ] at c2
        have hwz := HB6.out.size
        go_wp2_with (at_builtin; refine append_ints rfl (.tmp 30) (.tmp 34) rfl w.heap.size Ao co xs rfl (HO6.out.alloc _) _ _ 1 [(s2.stack.length : Int)] rfl (fun e => by cases e) (IntsAt.oneN _ W6.heap.size (s2.stack.length : Int) (by constructor <;> omega) rfl) (by simp <;> omega) (by simp <;> omega) ?_; intro zs A7 c7 w7 hz7 ho7 hg7 ha7; have HX := hide (And.intro ho7 (below_grown (HB6.out.alloc hwz _) hg7 (by simp; omega) (fun q hq => (HO6.out.blocks q hq).1))); have hzz := hide (show zs = toldOf List.length os (k + 1) by rw [hz7.out, hxs.out, toldOf_succ, ← Hst.out]); clear ho7 hg7 ha7 hz7 l6)
        go_roundg (n - (k + 1))
        case measure => omega
        case rel => exact ⟨k + 1, A7, c7, zs, by omega, rfl, by go_num, rfl, hzz, HX.out.1, HX.out.2⟩
      · obtain rfl : k = n := by omega
        have hi1 : ¬ (k : Int) + 1 ≤ (k : Int) := by omega
        go_wp2
        go_ret
        rw [← hxs.out]
        exact ⟨Ao, co, rfl, HO.out, HB.out⟩
  · have ht := hide (tf_false hok)
    have HV := hide (show depthsOf os = [] by unfold depthsOf; rw [if_neg hok])
    rw [HV.out]
    clear hok HV
    go_enter Try.func39, Try.ntmps39
    go_wp2_with fail
    refine (specValidOps_any A os c w h).mono ?_
    rintro e w1 ⟨rfl, hb1⟩
    rw [ht.out]
    go_wp2
    go_ret
    exact ⟨none, 0, rfl, OwnI.empty _ _, hb1⟩

end Go.Proofs.Ytochdhibmmohfab

namespace Go.Proofs.Ytochdhibmmohfab
open Go.RowKit Go.Maps
set_option linter.unusedVariables false

set_option maxRecDepth 100000 in
set_option maxHeartbeats 1000000 in
theorem inClasses_any (A A' : Option Addr) (xs ys : List Int) (c c' : Nat) (w : World) (h : IntsAt w w.heap.size A xs) (h' : IntsAt w w.heap.size A' ys) :
    Calls Try.prog 15 #[.slice A xs.length c, .slice A' ys.length c'] w fun e w' => e = .returned (.bool (tf (∀ x ∈ xs, x ∈ ys))) ∧ Below w.heap.size w w' := by
  have hl := h.len
  go_enter Try.func15, Try.ntmps15
  go_wp2_with fail
  go_loopw [5] (fun iv wr => ∃ k : Nat, k ≤ xs.length ∧ iv = .int .i64 k ∧ Below w.heap.size w wr ∧ ∀ j y, j < k → xs[j]? = some y → y ∈ ys) (fun iv _ => xs.length - (intOf iv).toNat)
  case atStart => exact ⟨0, Nat.zero_le _, rfl, Below.refl _ _, fun j _ hj => absurd hj (by omega)⟩
  case round =>
    obtain ⟨k, hk, rfl, hb, he0⟩ := hrel
    have he := hide he0
    clear he0
    by_cases hlt : k < xs.length
    · obtain ⟨b, off, x, rfl, hbl, hx, _, hc⟩ := (h.below hb).at_ hlt
      have Hx := hide hx
      clear hx
      have hk1 : (0 : Int) ≤ (k : Int) := by omega
      have hk2 : (k : Int) < (xs.length : Int) := by omega
      have HB := hide hb
      have HP := hide (placeIn_any A' ys c' x wr (h'.later hb (Nat.le_refl _)))
      clear hb
      by_cases hs : x ∈ ys
      · have hp := place_lt hs
        have HE := hide (all_step he.out Hx.out hs)
        generalize place ys x = pl at hp HP
        clear hs he
        go_wp2_with fail
        refine HP.out.mono ?_
        rintro e w2 ⟨rfl, rfl⟩
        have hd : decide (pl < 0) = false := by simp; omega
        go_wp2
        go_roundw
        case rel => exact ⟨k + 1, by omega, by go_num, HB.out, HE.out⟩
        case measure => simp [intOf]; omega
      · have HF := hide (tf_false (fun hh : ∀ x ∈ xs, x ∈ ys => hs (hh x (List.mem_of_getElem? Hx.out))))
        rw [place_neg hs] at HP
        clear hs he
        go_wp2_with fail
        refine HP.out.mono ?_
        rintro e w2 ⟨rfl, rfl⟩
        go_wp2
        go_ret
        exact ⟨ret_bool HF.out.symm, HB.out⟩
    · obtain rfl : k = xs.length := by omega
      have HF := hide (tf_true (all_end he.out))
      clear hlt he
      go_wp2
      go_ret
      exact ⟨ret_bool HF.out.symm, hb⟩

set_option maxRecDepth 100000 in
set_option maxHeartbeats 2000000 in
theorem specRulesAllow_any (A A' : Option Addr) (a b : Ru) (c c' : Nat) (w : World) (h : RuAt w w.heap.size A a) (h' : RuAt w w.heap.size A' b) (hl : a.cls.length ≤ 1048576) (hl' : b.cls.length ≤ 1048576) (hcap : a.cls.length ≤ c) (hcap' : b.cls.length ≤ c') :
    Calls Try.prog 6 #[ruVal a A c, ruVal b A' c'] w fun e w' => e = .returned (.bool (tf (Allow a b))) ∧ Below w.heap.size w w' := by
  have hB0 : Below w.heap.size w ((w.alloc (.cells (ruCells a A c) 25)).alloc (.cells (ruCells b A' c') 25)) := ((Below.refl _ _).alloc (Nat.le_refl _) _).alloc (by simp) _
  have l1 := (Lies.new w (ruCells a A c) 25).alloc (.cells (ruCells b A' c') 25)
  have l2 := Lies.new (w.alloc (.cells (ruCells a A c) 25)) (ruCells b A' c') 25
  simp only [World.size_alloc] at l2
  have HB0 := hide hB0
  have HRa := hide h
  have HRb := hide h'
  obtain ⟨b1, h1⟩ : ∃ x, tf (RuOk a) = x := ⟨_, rfl⟩
  obtain ⟨b2, h2⟩ : ∃ x, tf (RuOk b) = x := ⟨_, rfl⟩
  obtain ⟨b3, h3⟩ : ∃ x, decide (b.steps ≤ a.steps) = x := ⟨_, rfl⟩
  obtain ⟨b4, h4⟩ : ∃ x, decide (b.nodes ≤ a.nodes) = x := ⟨_, rfl⟩
  obtain ⟨b5, h5⟩ : ∃ x, decide (b.deep ≤ a.deep) = x := ⟨_, rfl⟩
  obtain ⟨b6, h6⟩ : ∃ x, tf (∀ x ∈ b.cls, x ∈ a.cls) = x := ⟨_, rfl⟩
  have HT := hide (allow_and a b)
  rw [h1, h2, h3, h4, h5, h6] at HT
  have hs1 := h.s
  have hs2 := h'.s
  have hn1 := h.n
  have hn2 := h'.n
  have hd1 := h.d
  have hd2 := h'.d
  have q1 : ∀ W, RuAt W W.heap.size A a → Calls Try.prog 14 #[ruVal a A c] W fun e w' => e = .returned (.bool b1) ∧ Below W.heap.size W w' := fun W hW => by
    rw [← h1]; exact specValid_any A a c W hW hl hcap
  have q2 : ∀ W, RuAt W W.heap.size A' b → Calls Try.prog 14 #[ruVal b A' c'] W fun e w' => e = .returned (.bool b2) ∧ Below W.heap.size W w' := fun W hW => by
    rw [← h2]; exact specValid_any A' b c' W hW hl' hcap'
  have q6 : ∀ W, IntsAt W W.heap.size A' b.cls → IntsAt W W.heap.size A a.cls → Calls Try.prog 15 #[.slice A' b.cls.length c', .slice A a.cls.length c] W fun e w' => e = .returned (.bool b6) ∧ Below W.heap.size W w' := fun W hC hI => by
    rw [← h6]; exact inClasses_any A' A b.cls a.cls c' c W hC hI
  have Q1 := hide q1
  have Q2 := hide q2
  have Q6 := hide q6
  clear h h' q1 q2 q6 hB0 h1 h2 h6
  unfold ruVal at *
  unfold ruCells at *
  go_enter Try.func6, Try.ntmps6
  go_wp2_with fail
  generalize (w.alloc (.cells #[.int .i64 a.steps, .int .i64 a.nodes, .int .i64 a.deep, .slice A a.cls.length c] 25)).alloc (.cells #[.int .i64 b.steps, .int .i64 b.nodes, .int .i64 b.deep, .slice A' b.cls.length c'] 25) = W at l1 l2 HB0 ⊢
  have hlt1 := l1.lt
  have hlt2 := l2.lt
  have L1 := hide l1
  have L2 := hide l2
  clear l1 l2
  refine (Q1.out W (HRa.out.later HB0.out (Nat.le_refl _))).mono ?_
  rintro e w1 ⟨rfl, hb1⟩
  have HB1 := hide (HB0.out.trans (hb1.mono HB0.out.size))
  cases b1
  · clear hb1
    go_wp2
    go_ret
    exact ⟨ret_bool (by rw [HT.out]; simp), HB1.out⟩
  have l1 := L1.out.below hb1 hlt1
  have l2 := L2.out.below hb1 hlt2
  clear hb1 L1 L2 hlt1 hlt2
  have t0 := l2.cell 0
  have t1 := l2.cell 1
  have t2 := l2.cell 2
  have t3 := l2.cell 3
  simp only [List.getElem?_toArray, List.getElem?_cons_zero, List.getElem?_cons_succ] at t0 t1 t2 t3
  have hlt1 := l1.lt
  have hlt2 := l2.lt
  have L1 := hide l1
  have L2 := hide l2
  clear l1 l2
  go_wp2_with fail
  refine (Q2.out w1 (HRb.out.later HB1.out (Nat.le_refl _))).mono ?_
  rintro e w2 ⟨rfl, hb2⟩
  have HB2 := hide (HB1.out.trans (hb2.mono HB1.out.size))
  cases b2
  · clear hb2
    go_wp2
    go_ret
    exact ⟨ret_bool (by rw [HT.out]; simp), HB2.out⟩
  have l1 := L1.out.below hb2 hlt1
  have l2 := L2.out.below hb2 hlt2
  clear hb2 L1 L2 t0 t1 t2 t3 hlt1 hlt2
  have a0 := l1.cell 0
  have a1 := l1.cell 1
  have a2 := l1.cell 2
  have a3 := l1.cell 3
  have t0 := l2.cell 0
  have t1 := l2.cell 1
  have t2 := l2.cell 2
  have t3 := l2.cell 3
  simp only [List.getElem?_toArray, List.getElem?_cons_zero, List.getElem?_cons_succ] at a0 a1 a2 a3 t0 t1 t2 t3
  clear l1 l2
  cases b3
  · go_wp2
    go_ret
    exact ⟨ret_bool (by rw [HT.out]; simp), HB2.out⟩
  cases b4
  · go_wp2
    go_ret
    exact ⟨ret_bool (by rw [HT.out]; simp), HB2.out⟩
  cases b5
  · go_wp2
    go_ret
    exact ⟨ret_bool (by rw [HT.out]; simp), HB2.out⟩
  go_wp2_with fail
  refine (Q6.out w2 (HRb.out.later HB2.out (Nat.le_refl _)).c (HRa.out.later HB2.out (Nat.le_refl _)).c).mono ?_
  rintro e w3 ⟨rfl, hb3⟩
  have HB3 := hide (HB2.out.trans (hb3.mono HB2.out.size))
  clear hb3
  go_wp2
  go_ret
  exact ⟨ret_bool (by rw [HT.out]; simp), HB3.out⟩

end Go.Proofs.Ytochdhibmmohfab
