/-
  The model's ClassesIn: what it returns.
-/
import Derived.Test.YtaolnnjcpnhghacDoorSpecO
import Derived.Test.YtaolnnjcpnhghacDoorClM
import Derived.Test.YtaolnnjcpnhghacDoorOwn
import Derived.Deep.LoopGhost
namespace Go.Proofs.YtaolnnjcpnhghacDoor
open Go.RowKit
set_option linter.unusedVariables false

theorem IntsAt.oneS (w : World) (n : Nat) (x : Int) (hx : In64 x) (h : w.heap.size = n) : IntsAt (w.alloc (.cells #[.int .i64 x] 3)) (n + 1) (some ⟨n, 0, none⟩) [x] := by
  have := IntsAt.one w x hx
  rwa [h] at this

set_option maxRecDepth 100000 in
set_option maxHeartbeats 2000000 in
theorem specClassesIn_any (A : Option Addr) (os : List Od) (c : Nat) (w : World) (h : OpsAt w w.heap.size A os) :
    Calls Tryd.prog 5 #[.slice A os.length c] w (GivesInts w (classesIn os)) := by
  have hl := h.len
  by_cases hok : OpsOk os
  · have ht := hide (tf_true hok)
    have hl3 := hok.1
    have HV := hide (show classesIn os = clsTo os 10 by unfold classesIn; rw [if_pos hok])
    rw [HV.out]
    clear hok HV
    go_enter Tryd.func5, Tryd.ntmps5
    go_wp2_with fail
    refine (specValidOps_any A os c w h).mono ?_
    rintro e w1 ⟨rfl, hb1⟩
    rw [ht.out]
    have HB1 := hide (hb1.alloc hb1.size (.cells #[] 3))
    have HO1 := hide ((OwnI.bare w1).mono hb1.size)
    clear hb1
    go_wp2_with fail
    generalize w1.alloc (.cells #[] 3) = W1 at HB1 HO1 ⊢
    generalize w1.heap.size = g1 at HO1 ⊢
    go_loopg [3, 4] 10 (fun gk ov iv wr => ∃ (k : Nat) (Ao : Option Addr) (co : Nat) (xs : List Int), k ≤ 10 ∧ gk = 10 - k ∧ iv = .int .i64 (k : Int) ∧ ov = .slice Ao xs.length co ∧ Hid (xs = clsTo os k) ∧ OwnI wr w.heap.size Ao co xs ∧ Below w.heap.size w wr)
    case atStart => exact ⟨0, _, 0, [], Nat.zero_le _, rfl, rfl, rfl, hide rfl, HO1.out, HB1.out⟩
    case round =>
      clear HB1 HO1
      obtain ⟨k, Ao, co, xs, hk, rfl, rfl, rfl, hxs, hO, hB⟩ := hrel
      have HO := hide hO
      have HB := hide hB
      have hxl : xs.length ≤ 10 := by rw [hxs.out]; exact Nat.le_trans (clsTo_len _ _) hk
      clear hO hB
      by_cases hlt : k < 10
      · have hlt2 : (k : Int) ≤ 9 := by omega
        go_wp2_with fail
        go_loopg [3, 5] os.length (fun gj ov jv wq => ∃ j : Nat, j ≤ os.length ∧ gj = os.length - j ∧ ov = .slice Ao xs.length co ∧ jv = .int .i64 (j : Int) ∧ wq = wr ∧ ∀ i, i < j → os[i]? ≠ some ⟨13, (k : Int)⟩)
        case atStart => exact ⟨0, Nat.zero_le _, rfl, rfl, rfl, rfl, fun i hi => absurd hi (by omega)⟩
        case round =>
          obtain ⟨j, hj, rfl, rfl, rfl, rfl, he0⟩ := hrel
          have he := hide he0
          clear he0
          by_cases hjl : j < os.length
          · obtain ⟨b, off, x, rfl, hbl, hx, hm, hc0, hc1⟩ := (h.below HB.out).at_ hjl
            have Hx := hide hx
            have Hm := hide hm
            clear hx hm
            obtain ⟨xc, xa⟩ := x
            simp only at hc0 hc1
            have hj0 : (0 : Int) ≤ (j : Int) := by omega
            have hj1 : (j : Int) < (os.length : Int) := by omega
            by_cases hcd : xc = 13
            · subst hcd
              by_cases har : xa = (k : Int)
              · subst har
                have t2 : ((k : Int) == (k : Int)) = true := by simp
                have HS := hide (clsTo_yes Hm.out)
                have hwz := HB.out.size
                clear he
                go_wp2_with (at_builtin; refine append_ints rfl (.tmp 35) (.tmp 37) rfl w.heap.size Ao co xs rfl (HO.out.alloc _) _ _ 1 [(k : Int)] rfl (fun e => by cases e) (IntsAt.oneS _ _ (k : Int) (by constructor <;> omega) rfl) (by simp <;> omega) (by simp <;> omega) ?_; intro zs A7 c7 w7 hz7 ho7 hg7 ha7; have HX := hide (And.intro ho7 (below_grown (HB.out.alloc hwz _) hg7 (by simp; omega) (fun q hq => (HO.out.blocks q hq).1))); have hzz := hide (show zs = clsTo os (k + 1) by rw [hz7.out, hxs.out, ← HS.out]); clear ho7 hg7 ha7 hz7)
                go_roundg (10 - (k + 1))
                case measure => omega
                case rel => exact ⟨k + 1, A7, c7, zs, by omega, rfl, by go_num, rfl, hzz, HX.out.1, HX.out.2⟩
              · have t2 : (xa == (k : Int)) = false := by simpa using har
                have He : Hid (∀ i, i < j + 1 → os[i]? ≠ some ⟨13, (k : Int)⟩) := hide (by
                  intro i hi hh
                  by_cases e : i = j
                  · subst e; rw [Hx.out] at hh; injection hh with hh; injection hh with _ hh; exact har hh
                  · exact he.out i (by omega) hh)
                clear he har
                go_wp2
                go_roundg (os.length - (j + 1))
                case measure => omega
                case rel => exact ⟨j + 1, by omega, rfl, rfl, by go_num, by first | rfl | trivial, He.out⟩
            · have t1 : (xc == 13) = false := by simpa using hcd
              have He : Hid (∀ i, i < j + 1 → os[i]? ≠ some ⟨13, (k : Int)⟩) := hide (by
                intro i hi hh
                by_cases e : i = j
                · subst e; rw [Hx.out] at hh; injection hh with hh; injection hh with hh _; exact hcd hh
                · exact he.out i (by omega) hh)
              clear he hcd
              go_wp2
              go_roundg (os.length - (j + 1))
              case measure => omega
              case rel => exact ⟨j + 1, by omega, rfl, rfl, by go_num, by first | rfl | trivial, He.out⟩
          · obtain rfl : j = os.length := by omega
            have HN : (⟨13, (k : Int)⟩ : Od) ∉ os := by
              intro hmem
              obtain ⟨i, hi, e⟩ := List.getElem_of_mem hmem
              exact he.out i hi (by rw [List.getElem?_eq_getElem hi, e])
            have hzz := hide (show xs = clsTo os (k + 1) by rw [hxs.out, clsTo_no HN])
            clear he HN
            go_wp2
            go_roundg (10 - (k + 1))
            case measure => omega
            case rel => exact ⟨k + 1, Ao, co, xs, by omega, rfl, by go_num, rfl, hzz, HO.out, HB.out⟩
      · obtain rfl : k = 10 := by omega
        rw [show ((10 : Nat) : Int) = 10 from rfl]
        go_wp2
        go_ret
        rw [← hxs.out]
        exact ⟨Ao, co, rfl, HO.out, HB.out⟩
  · have ht := hide (tf_false hok)
    have HV := hide (show classesIn os = [] by unfold classesIn; rw [if_neg hok])
    rw [HV.out]
    clear hok HV
    go_enter Tryd.func5, Tryd.ntmps5
    go_wp2_with fail
    refine (specValidOps_any A os c w h).mono ?_
    rintro e w1 ⟨rfl, hb1⟩
    rw [ht.out]
    go_wp2
    go_ret
    exact ⟨none, 0, rfl, OwnI.empty _ _, hb1⟩

end Go.Proofs.YtaolnnjcpnhghacDoor
