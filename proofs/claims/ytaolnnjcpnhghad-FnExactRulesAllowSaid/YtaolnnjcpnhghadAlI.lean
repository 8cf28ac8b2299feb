import Derived.Test.YtaolnnjcpnhghadRuI
import Derived.Test.YtaolnnjcpnhghadAlM
import Derived.Test.YtaolnnjcpnhghadCon
import Derived.Deep.Cut
namespace Go.Proofs.Ytaolnnjcpnhghad
open Go.RowKit Go.Maps
set_option linter.unusedVariables false
structure CapRu (W : World) (bc : Nat) (A : Option Addr) (a : Ru) (c : Nat) : Prop where
  l : Lies W bc #[.int .i64 a.steps, .int .i64 a.nodes, .int .i64 a.deep, .slice A a.cls.length c] 27
  i : IntsAt W W.heap.size A a.cls
set_option maxRecDepth 100000 in
set_option maxHeartbeats 1000000 in
theorem forbidden_any (bc : Nat) (A : Option Addr) (a : Ru) (c : Nat) (x : Int) (W : World) (h : CapRu W bc A a c) :
    Calls Try.prog 14 #[.int .i64 x, .pointer (some ⟨bc, 0, none⟩)] W fun e w' => e = .returned (.bool (!tf (x ∈ a.cls))) ∧ W = w' := by
  have hc := h.l.cell 3
  simp only [List.getElem?_toArray, List.getElem?_cons_zero, List.getElem?_cons_succ] at hc
  have HC := hide fun n => containsI_any A a.cls c n W h.i
  obtain ⟨b, hb⟩ : ∃ b, tf (x ∈ a.cls) = b := ⟨_, rfl⟩
  have HX := HC.out x
  rw [hb] at HX ⊢
  have HX := hide HX
  clear HC hb h
  go_enter Try.func14, Try.ntmps14
  go_wp2_with fail
  refine HX.out.mono ?_
  rintro e w' ⟨rfl, rfl⟩
  go_wp2
  go_ret
  exact ⟨rfl, rfl⟩
set_option maxRecDepth 100000 in
set_option maxHeartbeats 1000000 in
theorem indexForbidden_any (bc : Nat) (A A' : Option Addr) (a : Ru) (xs : List Int) (c c' : Nat) (w : World) (h : CapRu w bc A a c) (h' : IntsAt w w.heap.size A' xs) :
    Calls Try.prog 23 #[.slice A' xs.length c', .func (.func 14) #[] #[.pointer (some ⟨bc, 0, none⟩)]] w fun e w' =>
      (∃ i : Int, e = .returned (.int .i64 i) ∧ (i < 0 ↔ ∀ x ∈ xs, x ∈ a.cls)) ∧ w = w' := by
  have hl := h'.len
  have HP := hide h
  clear h
  go_enter Try.func23, Try.ntmps23
  go_wp2_with fail
  go_loop [8] (fun i => ∃ k : Nat, k ≤ xs.length ∧ i = .int .i64 k ∧ ∀ j y, j < k → xs[j]? = some y → y ∈ a.cls) (fun i => xs.length - (intOf i).toNat)
  case atStart => exact ⟨0, Nat.zero_le _, rfl, fun j _ hj => absurd hj (by omega)⟩
  case round =>
    obtain ⟨k, hk, rfl, he0⟩ := hrel
    have he := hide he0
    clear he0
    by_cases hlt : k < xs.length
    · obtain ⟨b, off, x, rfl, hbl, hx, _, hc⟩ := h'.at_ hlt
      have Hx := hide hx
      clear hx
      have hk1 : (0 : Int) ≤ (k : Int) := by omega
      have hk2 : (k : Int) < (xs.length : Int) := by omega
      go_wp2_with fail
      refine (forbidden_any bc A a c x w HP.out).mono ?_
      rintro e w2 ⟨rfl, rfl⟩
      by_cases hs : x ∈ a.cls
      · rw [tf_true hs]
        have HE := hide (all_step he.out Hx.out hs)
        clear hs he
        simp only [Bool.not_true]
        go_wp2
        go_round
        case rel => exact ⟨k + 1, by omega, by go_num, HE.out⟩
        case measure => simp [intOf]; omega
      · rw [tf_false hs]
        have HF := hide (show (k : Int) < 0 ↔ ∀ x ∈ xs, x ∈ a.cls from ⟨fun _ => by omega, fun hh => absurd (hh x (List.mem_of_getElem? Hx.out)) hs⟩)
        clear hs he
        simp only [Bool.not_false]
        go_wp2
        go_ret
        exact ⟨⟨k, rfl, HF.out⟩, rfl⟩
    · obtain rfl : k = xs.length := by omega
      have HF := hide (show (-1 : Int) < 0 ↔ ∀ x ∈ xs, x ∈ a.cls from ⟨fun _ => all_end he.out, fun _ => by omega⟩)
      clear hlt he
      go_wp2
      go_ret
      exact ⟨⟨-1, rfl, HF.out⟩, rfl⟩
set_option maxHeartbeats 1000000 in
theorem containsForbidden_any (bc : Nat) (A A' : Option Addr) (a : Ru) (xs : List Int) (c c' : Nat) (w : World) (h : CapRu w bc A a c) (h' : IntsAt w w.heap.size A' xs) :
    Calls Try.prog 16 #[.slice A' xs.length c', .func (.func 14) #[] #[.pointer (some ⟨bc, 0, none⟩)]] w fun e w' =>
      e = .returned (.bool (!tf (∀ x ∈ xs, x ∈ a.cls))) ∧ w = w' := by
  have HC := hide (indexForbidden_any bc A A' a xs c c' w h h')
  clear h h'
  go_enter Try.func16, Try.ntmps16
  go_wp2_with fail
  refine HC.out.mono ?_
  rintro e w2 ⟨⟨i, rfl, hi⟩, rfl⟩
  have hf : (!tf (∀ x ∈ xs, x ∈ a.cls)) = decide (0 ≤ i) := by
    by_cases h0 : i < 0
    · rw [tf_true (hi.1 h0)]
      have : ¬ 0 ≤ i := by omega
      simp [this]
    · rw [tf_false (fun hs => h0 (hi.2 hs))]
      have : 0 ≤ i := by omega
      simp [this]
  have HF := hide hf
  clear hf
  clear hi HC
  go_wp2
  go_ret
  exact ⟨ret_bool HF.out.symm, rfl⟩
set_option maxRecDepth 100000 in
set_option maxHeartbeats 2000000 in
theorem implRulesAllow_any (A A' : Option Addr) (a b : Ru) (c c' : Nat) (w : World) (h : RuAt w w.heap.size A a) (h' : RuAt w w.heap.size A' b) (hl : a.cls.length ≤ 1048576) (hl' : b.cls.length ≤ 1048576) :
    Calls Try.prog 7 #[ruVal a A c, ruVal b A' c'] w fun e w' => e = .returned (.bool (tf (Allow a b))) ∧ Below w.heap.size w w' := by
  have hB0 : Below w.heap.size w ((w.alloc (.cells (ruCells a A c) 27)).alloc (.cells (ruCells b A' c') 27)) := ((Below.refl _ _).alloc (Nat.le_refl _) _).alloc (by simp) _
  have l1 := (Lies.new w (ruCells a A c) 27).alloc (.cells (ruCells b A' c') 27)
  have l2 := Lies.new (w.alloc (.cells (ruCells a A c) 27)) (ruCells b A' c') 27
  simp only [World.size_alloc] at l2
  have HB0 := hide hB0
  have HRa := hide h
  have HRb := hide h'
  obtain ⟨b1, h1⟩ : ∃ x, tf (RuOk a) = x := ⟨_, rfl⟩
  obtain ⟨b2, h2⟩ : ∃ x, tf (RuOk b) = x := ⟨_, rfl⟩
  obtain ⟨b3, h3⟩ : ∃ x, decide (b.steps ≤ a.steps) = x := ⟨_, rfl⟩
  obtain ⟨b4, h4⟩ : ∃ x, decide (b.nodes ≤ a.nodes) = x := ⟨_, rfl⟩
  obtain ⟨b5, h5⟩ : ∃ x, decide (b.deep ≤ a.deep) = x := ⟨_, rfl⟩
  obtain ⟨b6, h6⟩ : ∃ x, tf (∀ x ∈ b.cls, x ∈ a.cls) = x := ⟨_, rfl⟩
  have HT := hide (allow_and a b)
  rw [h1, h2, h3, h4, h5, h6] at HT
  have hs1 := h.s
  have hs2 := h'.s
  have hn1 := h.n
  have hn2 := h'.n
  have hd1 := h.d
  have hd2 := h'.d
  have q1 : ∀ W, RuAt W W.heap.size A a → Calls Try.prog 13 #[ruVal a A c] W fun e w' => e = .returned (.bool b1) ∧ Below W.heap.size W w' := fun W hW => by
    rw [← h1]; exact implValidRules_any A a c W hW hl
  have q2 : ∀ W, RuAt W W.heap.size A' b → Calls Try.prog 13 #[ruVal b A' c'] W fun e w' => e = .returned (.bool b2) ∧ Below W.heap.size W w' := fun W hW => by
    rw [← h2]; exact implValidRules_any A' b c' W hW hl'
  have q6 : ∀ W bc, CapRu W bc A a c → IntsAt W W.heap.size A' b.cls → Calls Try.prog 16 #[.slice A' b.cls.length c', .func (.func 14) #[] #[.pointer (some ⟨bc, 0, none⟩)]] W fun e w' => e = .returned (.bool (!b6)) ∧ W = w' := fun W bc hC hI => by
    rw [← h6]; exact containsForbidden_any bc A A' a b.cls c c' W hC hI
  have Q1 := hide q1
  have Q2 := hide q2
  have Q6 := hide q6
  clear h h' q1 q2 q6 hB0 h1 h2 h6
  unfold ruVal at *
  unfold ruCells at *
  go_enter Try.func7, Try.ntmps7
  go_upto_region 1 with fail
  generalize (w.alloc (.cells #[.int .i64 a.steps, .int .i64 a.nodes, .int .i64 a.deep, .slice A a.cls.length c] 27)).alloc (.cells #[.int .i64 b.steps, .int .i64 b.nodes, .int .i64 b.deep, .slice A' b.cls.length c'] 27) = W at l1 l2 HB0 ⊢
  have a0 := l1.cell 0
  have a1 := l1.cell 1
  have a2 := l1.cell 2
  have a3 := l1.cell 3
  have t0 := l2.cell 0
  have t1 := l2.cell 1
  have t2 := l2.cell 2
  have t3 := l2.cell 3
  simp only [List.getElem?_toArray, List.getElem?_cons_zero, List.getElem?_cons_succ] at a0 a1 a2 a3 t0 t1 t2 t3
  have hlt1 := l1.lt
  have hlt2 := l2.lt
  have L1 := hide l1
  have L2 := hide l2
  clear l1 l2
  go_wp2_with fail
  refine (Q1.out W (HRa.out.later HB0.out (Nat.le_refl _))).mono ?_
  rintro e w1 ⟨rfl, hb1⟩
  have HB1 := hide (HB0.out.trans (hb1.mono HB0.out.size))
  cases b1
  · clear hb1
    go_wp2
    go_ret
    exact ⟨ret_bool (by rw [HT.out]; simp), HB1.out⟩
  have l1 := L1.out.below hb1 hlt1
  have l2 := L2.out.below hb1 hlt2
  clear hb1 L1 L2 a0 a1 a2 a3 t0 t1 t2 t3 hlt1 hlt2
  have t0 := l2.cell 0
  have t1 := l2.cell 1
  have t2 := l2.cell 2
  have t3 := l2.cell 3
  simp only [List.getElem?_toArray, List.getElem?_cons_zero, List.getElem?_cons_succ] at t0 t1 t2 t3
  have hlt1 := l1.lt
  have hlt2 := l2.lt
  have L1 := hide l1
  have L2 := hide l2
  clear l1 l2
  go_wp2_with fail
  refine (Q2.out w1 (HRb.out.later HB1.out (Nat.le_refl _))).mono ?_
  rintro e w2 ⟨rfl, hb2⟩
  have HB2 := hide (HB1.out.trans (hb2.mono HB1.out.size))
  cases b2
  · clear hb2
    go_wp2
    go_ret
    exact ⟨ret_bool (by rw [HT.out]; simp), HB2.out⟩
  have l1 := L1.out.below hb2 hlt1
  have l2 := L2.out.below hb2 hlt2
  clear hb2 L1 L2 t0 t1 t2 t3 hlt1 hlt2
  have a0 := l1.cell 0
  have a1 := l1.cell 1
  have a2 := l1.cell 2
  have t0 := l2.cell 0
  have t1 := l2.cell 1
  have t2 := l2.cell 2
  have t3 := l2.cell 3
  simp only [List.getElem?_toArray, List.getElem?_cons_zero, List.getElem?_cons_succ] at a0 a1 a2 t0 t1 t2 t3
  have hlt1 := l1.lt
  have L1 := hide l1
  clear l1 l2
  cases b3
  · go_wp2
    go_ret
    exact ⟨ret_bool (by rw [HT.out]; simp), HB2.out⟩
  cases b4
  · go_wp2
    go_ret
    exact ⟨ret_bool (by rw [HT.out]; simp), HB2.out⟩
  cases b5
  · go_wp2
    go_ret
    exact ⟨ret_bool (by rw [HT.out]; simp), HB2.out⟩
  go_wp2_with fail
  refine (Q6.out w2 w.heap.size ⟨L1.out, (HRa.out.later HB2.out (Nat.le_refl _)).c⟩ (HRb.out.later HB2.out (Nat.le_refl _)).c).mono ?_
  rintro e w3 ⟨rfl, rfl⟩
  go_wp2
  go_ret
  exact ⟨ret_bool (by rw [HT.out]; simp), HB2.out⟩
end Go.Proofs.Ytaolnnjcpnhghad
