import Derived.Test.YtaolnnjcpnhghadRuS
import Derived.Test.YtaolnnjcpnhghadAlM
import Derived.Deep.Cut
namespace Go.Proofs.Ytaolnnjcpnhghad
open Go.RowKit Go.Maps
set_option linter.unusedVariables false
set_option maxRecDepth 100000 in
set_option maxHeartbeats 1000000 in
theorem inClasses_any (A A' : Option Addr) (xs ys : List Int) (c c' : Nat) (w : World) (h : IntsAt w w.heap.size A xs) (h' : IntsAt w w.heap.size A' ys) :
    Calls Try.prog 11 #[.slice A xs.length c, .slice A' ys.length c'] w fun e w' => e = .returned (.bool (tf (∀ x ∈ xs, x ∈ ys))) ∧ Below w.heap.size w w' := by
  have hl := h.len
  go_enter Try.func11, Try.ntmps11
  go_wp2_with fail
  go_loopw [5] (fun iv wr => ∃ k : Nat, k ≤ xs.length ∧ iv = .int .i64 k ∧ Below w.heap.size w wr ∧ ∀ j y, j < k → xs[j]? = some y → y ∈ ys) (fun iv _ => xs.length - (intOf iv).toNat)
  case atStart => exact ⟨0, Nat.zero_le _, rfl, Below.refl _ _, fun j _ hj => absurd hj (by omega)⟩
  case round =>
    obtain ⟨k, hk, rfl, hb, he0⟩ := hrel
    have he := hide he0
    clear he0
    by_cases hlt : k < xs.length
    · obtain ⟨b, off, x, rfl, hbl, hx, _, hc⟩ := (h.below hb).at_ hlt
      have Hx := hide hx
      clear hx
      have hk1 : (0 : Int) ≤ (k : Int) := by omega
      have hk2 : (k : Int) < (xs.length : Int) := by omega
      have HB := hide hb
      have HP := hide (placeIn_any A' ys c' x wr (h'.later hb (Nat.le_refl _)))
      clear hb
      by_cases hs : x ∈ ys
      · have hp := place_lt hs
        have HE := hide (all_step he.out Hx.out hs)
        generalize place ys x = pl at hp HP
        clear hs he
        go_wp2_with fail
        refine HP.out.mono ?_
        rintro e w2 ⟨rfl, rfl⟩
        have hd : decide (pl < 0) = false := by simp; omega
        go_wp2
        go_roundw
        case rel => exact ⟨k + 1, by omega, by go_num, HB.out, HE.out⟩
        case measure => simp [intOf]; omega
      · have HF := hide (tf_false (fun hh : ∀ x ∈ xs, x ∈ ys => hs (hh x (List.mem_of_getElem? Hx.out))))
        rw [place_neg hs] at HP
        clear hs he
        go_wp2_with fail
        refine HP.out.mono ?_
        rintro e w2 ⟨rfl, rfl⟩
        go_wp2
        go_ret
        exact ⟨ret_bool HF.out.symm, HB.out⟩
    · obtain rfl : k = xs.length := by omega
      have HF := hide (tf_true (all_end he.out))
      clear hlt he
      go_wp2
      go_ret
      exact ⟨ret_bool HF.out.symm, hb⟩
set_option maxRecDepth 100000 in
set_option maxHeartbeats 2000000 in
theorem specRulesAllow_any (A A' : Option Addr) (a b : Ru) (c c' : Nat) (w : World) (h : RuAt w w.heap.size A a) (h' : RuAt w w.heap.size A' b) (hl : a.cls.length ≤ 1048576) (hl' : b.cls.length ≤ 1048576) (hcap : a.cls.length ≤ c) (hcap' : b.cls.length ≤ c') :
    Calls Try.prog 5 #[ruVal a A c, ruVal b A' c'] w fun e w' => e = .returned (.bool (tf (Allow a b))) ∧ Below w.heap.size w w' := by
  have hB0 : Below w.heap.size w ((w.alloc (.cells (ruCells a A c) 27)).alloc (.cells (ruCells b A' c') 27)) := ((Below.refl _ _).alloc (Nat.le_refl _) _).alloc (by simp) _
  have l1 := (Lies.new w (ruCells a A c) 27).alloc (.cells (ruCells b A' c') 27)
  have l2 := Lies.new (w.alloc (.cells (ruCells a A c) 27)) (ruCells b A' c') 27
  simp only [World.size_alloc] at l2
  have HB0 := hide hB0
  have HRa := hide h
  have HRb := hide h'
  obtain ⟨b1, h1⟩ : ∃ x, tf (RuOk a) = x := ⟨_, rfl⟩
  obtain ⟨b2, h2⟩ : ∃ x, tf (RuOk b) = x := ⟨_, rfl⟩
  obtain ⟨b3, h3⟩ : ∃ x, decide (b.steps ≤ a.steps) = x := ⟨_, rfl⟩
  obtain ⟨b4, h4⟩ : ∃ x, decide (b.nodes ≤ a.nodes) = x := ⟨_, rfl⟩
  obtain ⟨b5, h5⟩ : ∃ x, decide (b.deep ≤ a.deep) = x := ⟨_, rfl⟩
  obtain ⟨b6, h6⟩ : ∃ x, tf (∀ x ∈ b.cls, x ∈ a.cls) = x := ⟨_, rfl⟩
  have HT := hide (allow_and a b)
  rw [h1, h2, h3, h4, h5, h6] at HT
  have hs1 := h.s
  have hs2 := h'.s
  have hn1 := h.n
  have hn2 := h'.n
  have hd1 := h.d
  have hd2 := h'.d
  have q1 : ∀ W, RuAt W W.heap.size A a → Calls Try.prog 10 #[ruVal a A c] W fun e w' => e = .returned (.bool b1) ∧ Below W.heap.size W w' := fun W hW => by
    rw [← h1]; exact specValid_any A a c W hW hl hcap
  have q2 : ∀ W, RuAt W W.heap.size A' b → Calls Try.prog 10 #[ruVal b A' c'] W fun e w' => e = .returned (.bool b2) ∧ Below W.heap.size W w' := fun W hW => by
    rw [← h2]; exact specValid_any A' b c' W hW hl' hcap'
  have q6 : ∀ W, IntsAt W W.heap.size A' b.cls → IntsAt W W.heap.size A a.cls → Calls Try.prog 11 #[.slice A' b.cls.length c', .slice A a.cls.length c] W fun e w' => e = .returned (.bool b6) ∧ Below W.heap.size W w' := fun W hC hI => by
    rw [← h6]; exact inClasses_any A' A b.cls a.cls c' c W hC hI
  have Q1 := hide q1
  have Q2 := hide q2
  have Q6 := hide q6
  clear h h' q1 q2 q6 hB0 h1 h2 h6
  unfold ruVal at *
  unfold ruCells at *
  go_enter Try.func5, Try.ntmps5
  go_wp2_with fail
  generalize (w.alloc (.cells #[.int .i64 a.steps, .int .i64 a.nodes, .int .i64 a.deep, .slice A a.cls.length c] 27)).alloc (.cells #[.int .i64 b.steps, .int .i64 b.nodes, .int .i64 b.deep, .slice A' b.cls.length c'] 27) = W at l1 l2 HB0 ⊢
  have hlt1 := l1.lt
  have hlt2 := l2.lt
  have L1 := hide l1
  have L2 := hide l2
  clear l1 l2
  refine (Q1.out W (HRa.out.later HB0.out (Nat.le_refl _))).mono ?_
  rintro e w1 ⟨rfl, hb1⟩
  have HB1 := hide (HB0.out.trans (hb1.mono HB0.out.size))
  cases b1
  · clear hb1
    go_wp2
    go_ret
    exact ⟨ret_bool (by rw [HT.out]; simp), HB1.out⟩
  have l1 := L1.out.below hb1 hlt1
  have l2 := L2.out.below hb1 hlt2
  clear hb1 L1 L2 hlt1 hlt2
  have t0 := l2.cell 0
  have t1 := l2.cell 1
  have t2 := l2.cell 2
  have t3 := l2.cell 3
  simp only [List.getElem?_toArray, List.getElem?_cons_zero, List.getElem?_cons_succ] at t0 t1 t2 t3
  have hlt1 := l1.lt
  have hlt2 := l2.lt
  have L1 := hide l1
  have L2 := hide l2
  clear l1 l2
  go_wp2_with fail
  refine (Q2.out w1 (HRb.out.later HB1.out (Nat.le_refl _))).mono ?_
  rintro e w2 ⟨rfl, hb2⟩
  have HB2 := hide (HB1.out.trans (hb2.mono HB1.out.size))
  cases b2
  · clear hb2
    go_wp2
    go_ret
    exact ⟨ret_bool (by rw [HT.out]; simp), HB2.out⟩
  have l1 := L1.out.below hb2 hlt1
  have l2 := L2.out.below hb2 hlt2
  clear hb2 L1 L2 t0 t1 t2 t3 hlt1 hlt2
  have a0 := l1.cell 0
  have a1 := l1.cell 1
  have a2 := l1.cell 2
  have a3 := l1.cell 3
  have t0 := l2.cell 0
  have t1 := l2.cell 1
  have t2 := l2.cell 2
  have t3 := l2.cell 3
  simp only [List.getElem?_toArray, List.getElem?_cons_zero, List.getElem?_cons_succ] at a0 a1 a2 a3 t0 t1 t2 t3
  clear l1 l2
  cases b3
  · go_wp2
    go_ret
    exact ⟨ret_bool (by rw [HT.out]; simp), HB2.out⟩
  cases b4
  · go_wp2
    go_ret
    exact ⟨ret_bool (by rw [HT.out]; simp), HB2.out⟩
  cases b5
  · go_wp2
    go_ret
    exact ⟨ret_bool (by rw [HT.out]; simp), HB2.out⟩
  go_wp2_with fail
  refine (Q6.out w2 (HRb.out.later HB2.out (Nat.le_refl _)).c (HRa.out.later HB2.out (Nat.le_refl _)).c).mono ?_
  rintro e w3 ⟨rfl, hb3⟩
  have HB3 := hide (HB2.out.trans (hb3.mono HB2.out.size))
  clear hb3
  go_wp2
  go_ret
  exact ⟨ret_bool (by rw [HT.out]; simp), HB3.out⟩
end Go.Proofs.Ytaolnnjcpnhghad
