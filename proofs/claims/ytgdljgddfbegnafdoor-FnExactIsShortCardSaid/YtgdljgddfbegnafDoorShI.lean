/-
  The program's isShortOp, the library's search for an order that it holds of, and IsShort: what each returns.
-/
import Derived.Test.YtgdljgddfbegnafDoorShM
import Derived.Test.YtgdljgddfbegnafDoorImplO
import Derived.Deep.QuietTactic
import Derived.BigQuiet
namespace Go.Proofs.YtgdljgddfbegnafDoor
open Go.RowKit
set_option linter.unusedVariables false

set_option maxHeartbeats 1000000 in
theorem isShortOp_any (o : Od) (w : World) :
    Calls Tryd.prog 13 #[.agg #[.int .i64 o.code, .int .i64 o.arg]] w fun e w' => e = .returned (.bool (tf (ShortOp o))) ∧ Below w.heap.size w w' := by
  have hB : Below w.heap.size w (w.alloc (.cells #[.int .i64 o.code, .int .i64 o.arg] 30)) := (Below.refl _ _).alloc (Nat.le_refl _) _
  have hT : ShortOp o → Hid (tf (ShortOp o) = true) := fun hs => hide (tf_true hs)
  by_cases h5 : o.code = 5
  · have HF := hT (.inl h5)
    rw [h5] at hB ⊢
    clear hT h5
    go_enter Tryd.func13, Tryd.ntmps13
    go_wp2
    go_ret
    exact ⟨ret_bool HF.out.symm, hB⟩
  · by_cases h6 : o.code = 6
    · have HF := hT (.inr (.inl h6))
      rw [h6] at hB ⊢
      clear hT h5 h6
      go_enter Tryd.func13, Tryd.ntmps13
      go_wp2
      go_ret
      exact ⟨ret_bool HF.out.symm, hB⟩
    · by_cases h9 : o.code = 9
      · have HF := hT (.inr (.inr (.inl h9)))
        rw [h9] at hB ⊢
        clear hT h5 h6 h9
        go_enter Tryd.func13, Tryd.ntmps13
        go_wp2
        go_ret
        exact ⟨ret_bool HF.out.symm, hB⟩
      · by_cases h12 : o.code = 12
        · have HF := hT (.inr (.inr (.inr h12)))
          rw [h12] at hB ⊢
          clear hT h5 h6 h9 h12
          go_enter Tryd.func13, Tryd.ntmps13
          go_wp2
          go_ret
          exact ⟨ret_bool HF.out.symm, hB⟩
        · have t5 : (o.code == 5) = false := by simpa using h5
          have t6 : (o.code == 6) = false := by simpa using h6
          have t9 : (o.code == 9) = false := by simpa using h9
          have t12 : (o.code == 12) = false := by simpa using h12
          have HF := hide (show tf (ShortOp o) = false from tf_false (by rintro (h | h | h | h) <;> contradiction))
          clear hT h5 h6 h9 h12
          go_enter Tryd.func13, Tryd.ntmps13
          go_wp2
          go_ret
          exact ⟨ret_bool HF.out.symm, hB⟩

set_option maxRecDepth 100000 in
set_option maxHeartbeats 1000000 in
theorem indexShort_any (A : Option Addr) (os : List Od) (c : Nat) (w : World) (h : OpsAt w w.heap.size A os) :
    Calls Tryd.prog 17 #[.slice A os.length c, .func (.func 13) #[] #[]] w fun e w' =>
      (∃ i : Int, e = .returned (.int .i64 i) ∧ (0 ≤ i ↔ ∃ o ∈ os, ShortOp o)) ∧ Below w.heap.size w w' := by
  have hl := h.len
  go_enter Tryd.func17, Tryd.ntmps17
  go_wp2_with fail
  go_loopw [8] (fun iv wr => ∃ k : Nat, k ≤ os.length ∧ iv = .int .i64 k ∧ Below w.heap.size w wr ∧ ∀ j o, j < k → os[j]? = some o → ¬ ShortOp o) (fun iv _ => os.length - (intOf iv).toNat)
  case atStart => exact ⟨0, Nat.zero_le _, rfl, Below.refl _ _, fun j _ hj => absurd hj (by omega)⟩
  case round =>
    obtain ⟨k, hk, rfl, hb, he0⟩ := hrel
    have he := hide he0
    clear he0
    by_cases hlt : k < os.length
    · obtain ⟨b, off, o, rfl, hbl, hx, hmem, hc0, hc1⟩ := (h.below hb).at_ hlt
      have hk1 : (0 : Int) ≤ (k : Int) := by omega
      have hk2 : (k : Int) < (os.length : Int) := by omega
      have HX := hide hx
      have HM := hide hmem
      clear hx hmem
      go_wp2_with fail
      refine (isShortOp_any o wr).mono ?_
      rintro e w2 ⟨rfl, hb2⟩
      have hb3 := hb.trans (hb2.mono hb.size)
      clear hb hb2
      by_cases hs : ShortOp o
      · rw [tf_true hs]
        have HF := hide (show (0 : Int) ≤ (k : Int) ↔ ∃ o ∈ os, ShortOp o from ⟨fun _ => ⟨o, HM.out, hs⟩, fun _ => by omega⟩)
        clear hs he
        go_wp2
        go_ret
        exact ⟨⟨k, rfl, HF.out⟩, hb3⟩
      · rw [tf_false hs]
        have HE := hide (short_step he.out HX.out hs)
        clear hs he
        go_wp2
        go_roundw
        case rel => exact ⟨k + 1, by omega, by go_num, hb3, HE.out⟩
        case measure => simp [intOf]; omega
    · obtain rfl : k = os.length := by omega
      have HF := hide (show (0 : Int) ≤ -1 ↔ ∃ o ∈ os, ShortOp o from ⟨fun h => absurd h (by omega), fun h => absurd h (short_none he.out)⟩)
      clear hlt he
      go_wp2
      go_ret
      exact ⟨⟨-1, rfl, HF.out⟩, hb⟩

set_option maxHeartbeats 1000000 in
theorem containsShort_any (A : Option Addr) (os : List Od) (c : Nat) (w : World) (h : OpsAt w w.heap.size A os) :
    Calls Tryd.prog 12 #[.slice A os.length c, .func (.func 13) #[] #[]] w fun e w' =>
      e = .returned (.bool (tf (∃ o ∈ os, ShortOp o))) ∧ Below w.heap.size w w' := by
  go_enter Tryd.func12, Tryd.ntmps12
  go_wp2_with fail
  refine (indexShort_any A os c w h).mono ?_
  rintro e w2 ⟨⟨i, rfl, hi⟩, hb⟩
  have HF : Hid (tf (∃ o ∈ os, ShortOp o) = decide (0 ≤ i)) := by
    by_cases h0 : 0 ≤ i
    · exact (tf_true (hi.1 h0)).trans (by simp [h0])
    · exact (tf_false (fun hs => h0 (hi.2 hs))).trans (by simp [h0])
  clear hi h
  go_wp2
  go_ret
  exact ⟨ret_bool HF.out.symm, hb⟩

set_option maxHeartbeats 1000000 in
theorem implIsShort_any (A : Option Addr) (os : List Od) (c : Nat) (w : World) (h : OpsAt w w.heap.size A os) (hF : FormsAt w w.heap.size) :
    Calls Tryd.prog 7 #[.slice A os.length c] w fun e w' => e = .returned (.bool (tf (ShortOk os))) ∧ Below w.heap.size w w' := by
  by_cases hok : OpsOk os
  · have ht := hide (tf_true hok)
    have HF : Hid (tf (ShortOk os) = tf (∃ o ∈ os, ShortOp o)) := tf_congr ⟨fun h => h.2, fun h => ⟨hok, h⟩⟩
    clear hok
    go_enter Tryd.func7, Tryd.ntmps7
    go_wp2_with fail
    refine (implValidOps_any A os c w h hF).mono ?_
    rintro e w1 ⟨rfl, hb1⟩
    rw [ht.out]
    have h1 := h.later hb1 (Nat.le_refl _)
    go_wp2_with fail
    refine (containsShort_any A os c w1 h1).mono ?_
    rintro e w2 ⟨rfl, hb2⟩
    have hb3 := hb1.trans (hb2.mono hb1.size)
    clear hb1 hb2 h1
    generalize tf (∃ o ∈ os, ShortOp o) = V at HF ⊢
    go_wp2
    go_ret
    exact ⟨ret_bool HF.out.symm, hb3⟩
  · have ht := hide (tf_false hok)
    have HF := hide (show tf (ShortOk os) = false from tf_false fun hs => hok hs.1)
    clear hok
    go_enter Tryd.func7, Tryd.ntmps7
    go_wp2_with fail
    refine (implValidOps_any A os c w h hF).mono ?_
    rintro e w1 ⟨rfl, hb1⟩
    rw [ht.out]
    go_wp2
    go_ret
    exact ⟨ret_bool HF.out.symm, hb1⟩

end Go.Proofs.YtgdljgddfbegnafDoor
