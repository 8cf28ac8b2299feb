import Derived.Test.YtaolnnjcpnhghadRuM
import Derived.Test.YtaolnnjcpnhghadInR
import Derived.Test.YtaolnnjcpnhghadPlIn
import Derived.Test.YtaolnnjcpnhghadSub
import Derived.Deep.QuietTactic
import Derived.BigQuiet
import Derived.WalkSmall
namespace Go.Proofs.Ytaolnnjcpnhghad
open Go.RowKit
set_option linter.unusedVariables false
theorem ruOk_parts (r : Ru) (hc : Diff r.cls 9) : RuOk r ↔ ((0 ≤ r.steps ∧ r.steps ≤ 300) ∧ (0 ≤ r.nodes ∧ r.nodes ≤ 300) ∧ (0 ≤ r.deep ∧ r.deep ≤ 300)) :=
  ⟨fun h => ⟨h.s, h.n, h.d⟩, fun h => ⟨h.1, h.2.1, h.2.2, hc⟩⟩
theorem inRange_b (n lo hi : Int) (b : Bool) (w : World) (h : decide (lo ≤ n ∧ n ≤ hi) = b) : Calls Try.prog 18 #[.int .i64 n, .int .i64 lo, .int .i64 hi] w fun e w' => e = .returned (.bool b) ∧ w' = w := by
  by_cases hh : lo ≤ n ∧ n ≤ hi
  · obtain rfl : b = true := by rw [← h]; simpa using hh
    refine (inRange_yes n lo hi w hh.1 hh.2).mono ?_
    rintro e w' ⟨rfl, hw⟩
    exact ⟨rfl, by first | exact hw | exact hw.symm⟩
  · obtain rfl : b = false := by rw [← h]; simpa using hh
    refine (inRange_no n lo hi w (by omega)).mono ?_
    rintro e w' ⟨rfl, hw⟩
    exact ⟨rfl, by first | exact hw | exact hw.symm⟩
theorem Diff.snoc {xs : List Int} {k : Nat} {x m : Int} (h : Diff (xs.take k) m) (hx : xs[k]? = some x) (hr : 0 ≤ x ∧ x ≤ m) (hn : x ∉ xs.take k) : Diff (xs.take (k + 1)) m := by
  have e : xs.take (k + 1) = xs.take k ++ [x] := by rw [List.take_add_one, hx]; rfl
  rw [e]
  refine ⟨fun y hy => ?_, ?_⟩
  · rcases List.mem_append.1 hy with hy | hy
    · exact h.rng y hy
    · simp at hy; subst hy; exact hr
  · rw [List.nodup_append]
    exact ⟨h.nd, by simp, fun a ha b hb => by simp at hb; subst hb; intro e; subst e; exact hn ha⟩
theorem Diff.not_twice {xs : List Int} {k : Nat} {x m : Int} (hx : xs[k]? = some x) (hn : x ∈ xs.take k) : ¬ Diff xs m := by
  intro ho
  obtain ⟨j, hj, e⟩ := List.getElem_of_mem hn
  have hj2 : j < k ∧ j < xs.length := by simp at hj; omega
  rw [List.getElem_take] at e
  obtain ⟨hk2, e2⟩ := List.getElem?_eq_some_iff.1 hx
  have := (List.getElem_inj ho.nd).1 (e.trans e2.symm)
  omega
set_option maxRecDepth 100000 in
set_option maxHeartbeats 2000000 in
theorem specValid_any (A : Option Addr) (r : Ru) (c : Nat) (w : World) (h : RuAt w w.heap.size A r) (hl : r.cls.length ≤ 1048576) (hcap : r.cls.length ≤ c) :
    Calls Try.prog 10 #[ruVal r A c] w fun e w' => e = .returned (.bool (tf (RuOk r))) ∧ Below w.heap.size w w' := by
  have hB0 := (Below.refl w.heap.size w).alloc (Nat.le_refl _) (.cells (ruCells r A c) 27)
  have HB0 := hide hB0
  have L0 := hide (Lies.new w (ruCells r A c) 27)
  have HC := hide (h.c.later hB0 (Nat.le_refl _))
  have hs := h.s
  have hn := h.n
  have hd := h.d
  clear h hB0
  unfold ruVal
  unfold ruCells at *
  go_enter Try.func10, Try.ntmps10
  go_wp2_with fail
  have hlt0 := L0.out.lt
  generalize w.alloc (.cells #[.int .i64 r.steps, .int .i64 r.nodes, .int .i64 r.deep, .slice A r.cls.length c] 27) = W at HB0 L0 HC hlt0 ⊢
  go_loopw [3] (fun iv wr => ∃ k : Nat, k ≤ r.cls.length ∧ iv = .int .i64 (k : Int) ∧ Below W.heap.size W wr ∧ Diff (r.cls.take k) 9) (fun iv _ => r.cls.length - (intOf iv).toNat)
  case atStart => exact ⟨0, Nat.zero_le _, rfl, Below.refl _ _, ⟨fun x hx => by simp at hx, by simp⟩⟩
  case round =>
    obtain ⟨k, hk, rfl, hb, hdf⟩ := hrel
    have HDf := hide hdf
    have HBr := hide hb
    have lr := L0.out.below hb hlt0
    have c0 := lr.cell 0
    have c1 := lr.cell 1
    have c2 := lr.cell 2
    have c3 := lr.cell 3
    simp only [List.getElem?_toArray, List.getElem?_cons_zero, List.getElem?_cons_succ] at c0 c1 c2 c3
    have HCr := hide (HC.out.later hb (Nat.le_refl _))
    clear hdf lr
    by_cases hlt : k < r.cls.length
    · obtain ⟨b, off, x, hA, hbl, hx, hm, hcx⟩ := HCr.out.at_ hlt
      rw [hA] at c3
      have Hx := hide hx
      have Hm := hide hm
      have hk1 : (0 : Int) ≤ (k : Int) := by omega
      have hk2 : (k : Int) < (r.cls.length : Int) := by omega
      have hk3 : (k : Int) ≤ (c : Int) := by omega
      have HA := hide hA
      obtain ⟨b1, hb1⟩ : ∃ b, decide (0 ≤ x ∧ x ≤ 9) = b := ⟨_, rfl⟩
      have Q1 := hide (fun W => inRange_b x 0 9 b1 W hb1)
      have HB1 := hide hb1
      clear hx hm hb hb1
      cases b1
      · have HF := hide (show tf (RuOk r) = false from tf_false fun ho => by
          have := ho.c.rng x Hm.out
          have h2 := HB1.out
          simp at h2
          omega)
        clear hA
        go_wp2_with fail
        go_quiet ((first | (go_at_call 18; exact Calls.quiet_of_same (Q1.out _))))
        go_wp2
        go_ret
        exact ⟨ret_bool HF.out.symm, below_drewN (HB0.out.trans (HBr.out.mono HB0.out.size)) _⟩
      · have hT : (r.cls.take k).length = k := by simp; omega
        have Q2 := hide (show ∀ n, Calls Try.prog 19 #[.slice (some ⟨b, off, none⟩) k c, .int .i64 x] (wr.drewN n) fun e w' => e = .returned (.int .i64 (place (r.cls.take k) x)) ∧ w' = wr.drewN n from fun n => by
          have hp := placeIn_any A (r.cls.take k) c x (wr.drewN n) ((HCr.out.upto k).later (below_drewN (Below.refl _ _) n) (Nat.le_refl _))
          rw [hT, hA] at hp
          exact hp.mono fun e w' ⟨h1, h2⟩ => ⟨h1, h2.symm⟩)
        by_cases hin : x ∈ r.cls.take k
        · have HF := hide (show tf (RuOk r) = false from tf_false fun ho => Diff.not_twice Hx.out hin ho.c)
          have hpl := (place_lt hin).1
          generalize place (r.cls.take k) x = pl at Q2 hpl
          have hdp : decide (0 ≤ pl) = true := by simpa using hpl
          clear hA hT hin
          go_wp2_with fail
          go_quiet ((first | (go_at_call 18; exact Calls.quiet_of_same (Q1.out _)) | (go_at_call 19; exact Calls.quiet_of_same (Q2.out _))))
          go_wp2
          go_ret
          exact ⟨ret_bool HF.out.symm, below_drewN (HB0.out.trans (HBr.out.mono HB0.out.size)) _⟩
        · have HN := hide (HDf.out.snoc Hx.out (by have h2 := HB1.out; simp at h2; omega) hin)
          rw [place_neg hin] at Q2
          clear hA hT hin
          go_wp2_with fail
          go_quiet ((first | (go_at_call 18; exact Calls.quiet_of_same (Q1.out _)) | (go_at_call 19; exact Calls.quiet_of_same (Q2.out _))))
          go_wp2
          go_roundw
          case rel => exact ⟨k + 1, by omega, by go_num, below_drewN HBr.out _, HN.out⟩
          case measure => simp [intOf]; omega
    · obtain rfl : k = r.cls.length := by omega
      have hdf := HDf.out
      rw [List.take_length] at hdf
      obtain ⟨b1, h1⟩ : ∃ b, decide (0 ≤ r.steps ∧ r.steps ≤ 300) = b := ⟨_, rfl⟩
      obtain ⟨b2, h2⟩ : ∃ b, decide (0 ≤ r.nodes ∧ r.nodes ≤ 300) = b := ⟨_, rfl⟩
      obtain ⟨b3, h3⟩ : ∃ b, decide (0 ≤ r.deep ∧ r.deep ≤ 300) = b := ⟨_, rfl⟩
      have HT := hide (show tf (RuOk r) = (b1 && (b2 && b3)) from by
        rw [tf_congr (ruOk_parts r hdf), ← h1, ← h2, ← h3]
        unfold tf
        by_cases g1 : 0 ≤ r.steps ∧ r.steps ≤ 300 <;> by_cases g2 : 0 ≤ r.nodes ∧ r.nodes ≤ 300 <;> by_cases g3 : 0 ≤ r.deep ∧ r.deep ≤ 300 <;> simp [g1, g2, g3])
      have Q1 := hide (fun W => inRange_b r.steps 0 300 b1 W h1)
      have Q2 := hide (fun W => inRange_b r.nodes 0 300 b2 W h2)
      have Q3 := hide (fun W => inRange_b r.deep 0 300 b3 W h3)
      have HBE := hide (HB0.out.trans (HBr.out.mono HB0.out.size))
      clear h1 h2 h3 hdf hb
      cases b1
      · go_wp2_with fail
        refine (Q1.out _).mono ?_
        rintro e w' ⟨rfl, rfl⟩
        go_wp2
        go_ret
        exact ⟨ret_bool (by rw [HT.out]; simp), HBE.out⟩
      cases b2
      · go_wp2_with fail
        refine (Q1.out _).mono ?_
        rintro e w' ⟨rfl, rfl⟩
        go_wp2_with fail
        refine (Q2.out _).mono ?_
        rintro e w' ⟨rfl, rfl⟩
        go_wp2
        go_ret
        exact ⟨ret_bool (by rw [HT.out]; simp), HBE.out⟩
      go_wp2_with fail
      refine (Q1.out _).mono ?_
      rintro e w' ⟨rfl, rfl⟩
      go_wp2_with fail
      refine (Q2.out _).mono ?_
      rintro e w' ⟨rfl, rfl⟩
      go_wp2_with fail
      refine (Q3.out _).mono ?_
      rintro e w' ⟨rfl, rfl⟩
      go_wp2
      go_ret
      exact ⟨ret_bool (by rw [HT.out]; simp), HBE.out⟩
end Go.Proofs.Ytaolnnjcpnhghad
