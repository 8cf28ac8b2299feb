import Derived.Test.YtaolnnjcpnhghadDif
namespace Go.Proofs.Ytaolnnjcpnhghad
open Go.RowKit Go.Maps
set_option linter.unusedVariables false
theorem ruOk_and (r : Ru) (b1 b2 b3 : Bool) (h1 : upB r.steps 300 = b1) (h2 : upB r.nodes 300 = b2) (h3 : upB r.deep 300 = b3) : tf (RuOk r) = (b1 && (b2 && (b3 && tf (Diff r.cls 9)))) := by
  subst h1 h2 h3
  by_cases c1 : 0 ≤ r.steps ∧ r.steps ≤ 300
  · by_cases c2 : 0 ≤ r.nodes ∧ r.nodes ≤ 300
    · by_cases c3 : 0 ≤ r.deep ∧ r.deep ≤ 300
      · rw [upB_yes c1, upB_yes c2, upB_yes c3]
        exact tf_congr ⟨fun h => h.c, fun h => ⟨c1, c2, c3, h⟩⟩
      · rw [upB_no c3, tf_false fun h => c3 h.d]; simp
    · rw [upB_no c2, tf_false fun h => c2 h.n]; simp
  · rw [upB_no c1, tf_false fun h => c1 h.s]; simp
set_option maxRecDepth 100000 in
set_option maxHeartbeats 2000000 in
theorem implValidRules_any (A : Option Addr) (r : Ru) (c : Nat) (w : World) (h : RuAt w w.heap.size A r) (hl : r.cls.length ≤ 1048576) :
    Calls Try.prog 13 #[ruVal r A c] w fun e w' => e = .returned (.bool (tf (RuOk r))) ∧ Below w.heap.size w w' := by
  have hB0 := (Below.refl w.heap.size w).alloc (Nat.le_refl _) (.cells (ruCells r A c) 27)
  have HB0 := hide hB0
  have L0 := hide (Lies.new w (ruCells r A c) 27)
  have HC := hide (h.c.later hB0 (Nat.le_refl _))
  have hs := h.s
  have hn := h.n
  have hd := h.d
  obtain ⟨b1, h1⟩ : ∃ b, upB r.steps 300 = b := ⟨_, rfl⟩
  obtain ⟨b2, h2⟩ : ∃ b, upB r.nodes 300 = b := ⟨_, rfl⟩
  obtain ⟨b3, h3⟩ : ∃ b, upB r.deep 300 = b := ⟨_, rfl⟩
  have HT := hide (ruOk_and r b1 b2 b3 h1 h2 h3)
  have q1 : ∀ W : World, Calls Try.prog 20 #[.int .i64 r.steps, .int .i64 300] W fun e w' => e = .returned (.bool b1) ∧ W = w' := fun W => by
    rw [← h1]
    exact (isUpTo_q r.steps 300 W).mono fun e w' ⟨a, b⟩ => ⟨a, b.symm⟩
  have q2 : ∀ W : World, Calls Try.prog 20 #[.int .i64 r.nodes, .int .i64 300] W fun e w' => e = .returned (.bool b2) ∧ W = w' := fun W => by
    rw [← h2]
    exact (isUpTo_q r.nodes 300 W).mono fun e w' ⟨a, b⟩ => ⟨a, b.symm⟩
  have q3 : ∀ W : World, Calls Try.prog 20 #[.int .i64 r.deep, .int .i64 300] W fun e w' => e = .returned (.bool b3) ∧ W = w' := fun W => by
    rw [← h3]
    exact (isUpTo_q r.deep 300 W).mono fun e w' ⟨a, b⟩ => ⟨a, b.symm⟩
  have Q1 := hide q1
  have Q2 := hide q2
  have Q3 := hide q3
  clear h h1 h2 h3 q1 q2 q3 hB0
  unfold ruVal
  unfold ruCells at *
  cases b1
  · go_enter Try.func13, Try.ntmps13
    go_wp2_with fail
    refine (Q1.out _).mono ?_
    rintro e w' ⟨rfl, rfl⟩
    go_wp2
    go_ret
    exact ⟨ret_bool (by rw [HT.out]; simp), HB0.out⟩
  cases b2
  · go_enter Try.func13, Try.ntmps13
    go_wp2_with fail
    refine (Q1.out _).mono ?_
    rintro e w' ⟨rfl, rfl⟩
    go_wp2_with fail
    refine (Q2.out _).mono ?_
    rintro e w' ⟨rfl, rfl⟩
    go_wp2
    go_ret
    exact ⟨ret_bool (by rw [HT.out]; simp), HB0.out⟩
  cases b3
  · go_enter Try.func13, Try.ntmps13
    go_wp2_with fail
    refine (Q1.out _).mono ?_
    rintro e w' ⟨rfl, rfl⟩
    go_wp2_with fail
    refine (Q2.out _).mono ?_
    rintro e w' ⟨rfl, rfl⟩
    go_wp2_with fail
    refine (Q3.out _).mono ?_
    rintro e w' ⟨rfl, rfl⟩
    go_wp2
    go_ret
    exact ⟨ret_bool (by rw [HT.out]; simp), HB0.out⟩
  go_enter Try.func13, Try.ntmps13
  go_wp2_with fail
  refine (Q1.out _).mono ?_
  rintro e w' ⟨rfl, rfl⟩
  go_wp2_with fail
  refine (Q2.out _).mono ?_
  rintro e w' ⟨rfl, rfl⟩
  go_wp2_with fail
  refine (Q3.out _).mono ?_
  rintro e w' ⟨rfl, rfl⟩
  go_wp2_with fail
  refine (areDifferent_any A r.cls c 9 _ HC.out hl).mono ?_
  rintro e w' ⟨rfl, hb⟩
  have HB := hide (HB0.out.trans (hb.mono HB0.out.size))
  clear hb
  go_wp2
  go_ret
  exact ⟨ret_bool (by rw [HT.out]; simp), HB.out⟩
end Go.Proofs.Ytaolnnjcpnhghad
