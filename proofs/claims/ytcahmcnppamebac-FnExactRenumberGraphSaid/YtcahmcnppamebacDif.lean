/-
  The program's areDifferent: whether the numbers of a list are different ones in 0..m.
-/
import Derived.Test.YtcahmcnppamebacSetI
import Derived.Test.YtcahmcnppamebacPjAg
import Derived.Test.YtcahmcnppamebacPjAb
import Derived.Deep.LoopGhost
namespace Go.Proofs.Ytcahmcnppamebac
open Go.RowKit Go.Maps
set_option linter.unusedVariables false

/-- the memory of areDifferent: the set grows -/
structure DifS (w wr : World) (os : List Int) (m : Int) (k : Nat) : Prop where
  bel : Below w.heap.size w wr
  set : ∃ mp As cs, SetI wr w.heap.size (w.heap.size + 1) mp As cs (os.take k)
  size : w.heap.size + 1 ≤ wr.heap.size
  rng : ∀ x ∈ os.take k, 0 ≤ x ∧ x ≤ m
  nd : (os.take k).Nodup

theorem DifS.step {w wr w' : World} {os : List Int} {m : Int} {k : Nat} {x : Int} (h : DifS w wr os m k) (hx : os[k]? = some x) (hb : But (w.heap.size + 1) w.heap.size wr w') (hs : ∃ mp As cs, SetI w' w.heap.size (w.heap.size + 1) mp As cs (os.take k ++ [x]))
    (hr : 0 ≤ x ∧ x ≤ m) (hno : x ∉ os.take k) : DifS w w' os m (k + 1) := by
  have e : os.take (k + 1) = os.take k ++ [x] := by rw [List.take_add_one, hx]; rfl
  refine ⟨hb.below h.bel (Nat.le_refl _) (by omega), by rw [e]; exact hs, Nat.le_trans h.size hb.size, fun y hy => ?_, ?_⟩
  · rw [e] at hy
    rcases List.mem_append.1 hy with hy | hy
    · exact h.rng y hy
    · simp at hy; subst hy; exact hr
  · rw [e, List.nodup_append]
    exact ⟨h.nd, by simp, fun a ha b hb => by simp at hb; subst hb; intro e; subst e; exact hno ha⟩

set_option maxHeartbeats 1000000 in
theorem areDifferent_any (A : Option Addr) (os : List Int) (c : Nat) (m : Int) (w : World) (h : IntsAt w w.heap.size A os) (hl : os.length ≤ 1048576) :
    Calls Try.prog 34 #[.slice A os.length c, .int .i64 m] w fun e w' => e = .returned (.bool (tf (Diff os m))) ∧ Below w.heap.size w w' := by
  have hS0 : DifS w (w.alloc (.cells #[.map none, .slice none 0 0] 58)) os m 0 :=
    ⟨(Below.refl _ _).alloc (Nat.le_refl _) _, ⟨none, none, 0, SetI.start (Lies.new w _ _) (by omega)⟩, by simp, fun x hx => by simp at hx, by simp⟩
  have HS0 := hide hS0
  have H := hide h
  clear hS0 h
  go_enter Try.func34, Try.ntmps34
  go_wp2_with fail
  generalize w.alloc (.cells #[.map none, .slice none 0 0] 58) = W at HS0 ⊢
  go_loopg [10] os.length (fun gk iv wr => ∃ k : Nat, k ≤ os.length ∧ gk = os.length - k ∧ iv = .int .i64 (k : Int) ∧ DifS w wr os m k)
  case atStart => exact ⟨0, Nat.zero_le _, rfl, rfl, HS0.out⟩
  case round =>
    clear HS0
    obtain ⟨k, hk, rfl, rfl, hS⟩ := hrel
    by_cases hlt : k < os.length
    · obtain ⟨b, off, x, rfl, hbl, hx, hm, hc⟩ := (H.out.below hS.bel).at_ hlt
      obtain ⟨mp, As, cs, hset⟩ := hS.set
      have hx64 := hide (H.out.wf x hm)
      have HX := hide hx
      have HSet := hide hset
      have HS := hide hS
      have HM := hide hm
      have hq1 : (0 : Int) ≤ (k : Int) := by omega
      have hq2 : (k : Int) < (os.length : Int) := by omega
      clear hx hset hS hm hbl
      by_cases hr : 0 ≤ x ∧ x ≤ m
      · by_cases hin : x ∈ os.take k
        · have HF := hide (show tf (Diff os m) = false from tf_false (fun ho => by
            obtain ⟨j, hj, e⟩ := List.getElem_of_mem hin
            have hj2 : j < k ∧ j < os.length := by simp at hj; omega
            rw [List.getElem_take] at e
            obtain ⟨hk2, e2⟩ := List.getElem?_eq_some_iff.1 HX.out
            have := (List.getElem_inj ho.nd).1 (e.trans e2.symm)
            omega))
          have HIn := hide hin
          obtain ⟨hr1, hr2⟩ := hr
          clear hin
          go_wp2_with fail
          refine (isUpTo_yes x m wr hr1 hr2).mono ?_
          rintro e w' ⟨rfl, rfl⟩
          go_wp2_with fail
          refine (addI_seen _ _ mp As cs (os.take k) x _ HSet.out hx64.out HIn.out).mono ?_
          rintro e w' ⟨rfl, rfl⟩
          have HB := hide HS.out.bel
          clear HSet HS HIn
          go_wp2
          go_ret
          exact ⟨ret_bool HF.out.symm, HB.out⟩
        · have HNo := hide hin
          obtain ⟨hr1, hr2⟩ := hr
          clear hin
          go_wp2_with fail
          refine (isUpTo_yes x m wr hr1 hr2).mono ?_
          rintro e w' ⟨rfl, rfl⟩
          go_wp2_with fail
          refine (addI_new _ _ mp cs As (os.take k) x _ HSet.out hx64.out HS.out.size HNo.out (by simp; omega)).mono ?_
          rintro e w' ⟨rfl, hs', hbut⟩
          have HN := hide (HS.out.step HX.out hbut hs' ⟨hr1, hr2⟩ HNo.out)
          clear hs' hbut HSet HS HNo hc
          go_wp2
          go_roundg (os.length - (k + 1))
          case measure => omega
          case rel => exact ⟨k + 1, by omega, rfl, by go_num, HN.out⟩
      · have HF := hide (show tf (Diff os m) = false from tf_false (fun ho => hr (ho.rng x HM.out)))
        have HB := hide HS.out.bel
        clear HSet
        go_wp2_with fail
        refine (isUpTo_no x m wr (by omega)).mono ?_
        rintro e w' ⟨rfl, rfl⟩
        clear hr
        go_wp2
        go_ret
        exact ⟨ret_bool HF.out.symm, HB.out⟩
    · obtain rfl : k = os.length := by omega
      have HF := hide (show tf (Diff os m) = true from tf_true ⟨by have := hS.rng; rwa [List.take_length] at this, by have := hS.nd; rwa [List.take_length] at this⟩)
      have HB := hide hS.bel
      clear hS hlt
      go_wp2
      go_ret
      exact ⟨ret_bool HF.out.symm, HB.out⟩

end Go.Proofs.Ytcahmcnppamebac
