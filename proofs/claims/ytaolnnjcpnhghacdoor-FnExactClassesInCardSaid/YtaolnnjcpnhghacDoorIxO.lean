/-
  The library's slices.Index and slices.Contains of orders.
-/
import Derived.Test.YtaolnnjcpnhghacDoorOd
import Derived.Test.YtaolnnjcpnhghacDoorMem
import Derived.Deep.QuietTactic
import Derived.BigQuiet
import Derived.Deep.Cut
namespace Go.Proofs.YtaolnnjcpnhghacDoor
open Go.RowKit
set_option linter.unusedVariables false

/-- an index of what is searched for, -1 if it is not there -/
def GivesIx (w : World) (m : Prop) (e : Ending) (w' : World) : Prop := ∃ r : Int, e = .returned (.int .i64 r) ∧ (m → 0 ≤ r) ∧ (¬ m → r = -1) ∧ Below w.heap.size w w'

set_option maxRecDepth 100000 in
set_option maxHeartbeats 1000000 in
theorem indexOp_any (A : Option Addr) (os : List Od) (c : Nat) (o : Od) (w : World) (h : OpsAt w w.heap.size A os) :
    Calls Tryd.prog 20 #[.slice A os.length c, .agg #[.int .i64 o.code, .int .i64 o.arg]] w (GivesIx w (o ∈ os)) := by
  obtain ⟨cd, ar⟩ := o
  have hl := h.len
  have hB0 := (Below.refl w.heap.size w).alloc (Nat.le_refl _) (.cells #[.int .i64 cd, .int .i64 ar] 35)
  have HB0 := hide hB0
  have L0 := hide (Lies.new w #[.int .i64 cd, .int .i64 ar] 35)
  clear hB0
  go_enter Tryd.func20, Tryd.ntmps20
  go_upto_region 1 with fail
  have hlt0 := L0.out.lt
  generalize w.alloc (.cells #[.int .i64 cd, .int .i64 ar] 35) = W at HB0 L0 hlt0 ⊢
  go_wp2_with fail
  go_loopw [8] (fun iv wr => ∃ k : Nat, k ≤ os.length ∧ iv = .int .i64 k ∧ Below W.heap.size W wr ∧ ∀ j, j < k → os[j]? ≠ some ⟨cd, ar⟩) (fun iv _ => os.length - (intOf iv).toNat)
  case atStart => exact ⟨0, Nat.zero_le _, rfl, Below.refl _ _, fun j hj => absurd hj (by omega)⟩
  case round =>
    obtain ⟨k, hk, rfl, hb, he0⟩ := hrel
    have he := hide he0
    have HB := hide (HB0.out.trans (hb.mono HB0.out.size))
    have hbo := (L0.out.below hb hlt0)
    have d0 := hbo.cell 0
    have d1 := hbo.cell 1
    simp only [List.getElem?_toArray, List.getElem?_cons_zero, List.getElem?_cons_succ] at d0 d1
    clear he0 hbo
    by_cases hlt : k < os.length
    · obtain ⟨b, off, x, rfl, hbl, hx, hm, hc0, hc1⟩ := (h.below HB.out).at_ hlt
      have Hx := hide hx
      have Hm := hide hm
      clear hx hm
      obtain ⟨xc, xa⟩ := x
      simp only at hc0 hc1
      have hk0 : (0 : Int) ≤ (k : Int) := by omega
      have hk1 : (k : Int) < (os.length : Int) := by omega
      have Hb := hide hb
      clear hb
      by_cases hcd : cd = xc
      · subst hcd
        have t1 : (cd == cd) = true := by simp
        by_cases har : ar = xa
        · subst har
          have t2 : (ar == ar) = true := by simp
          go_wp2_with fail
          go_quiet (fail)
          go_wp2
          go_ret
          exact ⟨(k : Int), rfl, fun _ => by omega, fun hn => absurd Hm.out hn, below_drewN HB.out _⟩
        · have t2 : (ar == xa) = false := by simpa using har
          have He : Hid (∀ j, j < k + 1 → os[j]? ≠ some ⟨cd, ar⟩) := hide (by
            intro j hj hh
            by_cases e : j = k
            · subst e; rw [Hx.out] at hh; injection hh with hh; injection hh with _ hh; exact har hh.symm
            · exact he.out j (by omega) hh)
          clear he har
          go_wp2_with fail
          go_quiet (fail)
          go_wp2
          go_roundw
          case rel => exact ⟨k + 1, by omega, by go_num, below_drewN Hb.out _, He.out⟩
          case measure => simp [intOf]; omega
      · have t1 : (cd == xc) = false := by simpa using hcd
        have He : Hid (∀ j, j < k + 1 → os[j]? ≠ some ⟨cd, ar⟩) := hide (by
          intro j hj hh
          by_cases e : j = k
          · subst e; rw [Hx.out] at hh; injection hh with hh; injection hh with hh _; exact hcd hh.symm
          · exact he.out j (by omega) hh)
        clear he hcd
        go_wp2_with fail
        go_quiet (fail)
        go_wp2
        go_roundw
        case rel => exact ⟨k + 1, by omega, by go_num, below_drewN Hb.out _, He.out⟩
        case measure => simp [intOf]; omega
    · obtain rfl : k = os.length := by omega
      have HN : Hid ((⟨cd, ar⟩ : Od) ∉ os) := hide (by
        intro hmem
        obtain ⟨j, hj, e⟩ := List.getElem_of_mem hmem
        exact he.out j hj (by rw [List.getElem?_eq_getElem hj, e]))
      clear he hb
      go_wp2
      go_ret
      exact ⟨-1, rfl, fun hm => absurd hm HN.out, fun _ => rfl, HB.out⟩

set_option maxRecDepth 100000 in
set_option maxHeartbeats 1000000 in
theorem containsOp_any (A : Option Addr) (os : List Od) (c : Nat) (o : Od) (w : World) (h : OpsAt w w.heap.size A os) :
    Calls Tryd.prog 16 #[.slice A os.length c, .agg #[.int .i64 o.code, .int .i64 o.arg]] w fun e w' => e = .returned (.bool (tf (o ∈ os))) ∧ Below w.heap.size w w' := by
  have hB0 := (Below.refl w.heap.size w).alloc (Nat.le_refl _) (.cells #[.int .i64 o.code, .int .i64 o.arg] 35)
  have HB0 := hide hB0
  have lo := Lies.new w #[.int .i64 o.code, .int .i64 o.arg] 35
  have HC := hide (indexOp_any A os c o _ (h.later hB0 (Nat.le_refl _)))
  have d0 := lo.cell 0
  have d1 := lo.cell 1
  simp only [List.getElem?_toArray, List.getElem?_cons_zero, List.getElem?_cons_succ] at d0 d1
  clear hB0 lo
  go_enter Tryd.func16, Tryd.ntmps16
  go_upto_region 1 with fail
  generalize w.alloc (.cells #[.int .i64 o.code, .int .i64 o.arg] 35) = W at HB0 HC d0 d1 ⊢
  go_wp2_with fail
  refine HC.out.mono ?_
  rintro e w2 ⟨r, rfl, h1, h2, hb⟩
  have HB := hide (HB0.out.trans (hb.mono HB0.out.size))
  clear hb HC
  by_cases hm : o ∈ os
  · have hr := h1 hm
    have hd : decide (0 ≤ r) = true := by simpa using hr
    have HT := hide (tf_true hm)
    clear h1 h2 hm
    go_wp2
    go_ret
    exact ⟨ret_bool HT.out.symm, HB.out⟩
  · obtain rfl := h2 hm
    have HT := hide (tf_false hm)
    clear h1 h2 hm
    go_wp2
    go_ret
    exact ⟨ret_bool HT.out.symm, HB.out⟩

end Go.Proofs.YtaolnnjcpnhghacDoor
