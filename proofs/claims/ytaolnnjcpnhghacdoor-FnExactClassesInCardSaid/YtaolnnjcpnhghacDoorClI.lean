/-
  The program's ClassesIn: what it returns.
-/
import Derived.Test.YtaolnnjcpnhghacDoorIxO
import Derived.Test.YtaolnnjcpnhghacDoorClM
import Derived.Test.YtaolnnjcpnhghacDoorImplO
import Derived.Test.YtaolnnjcpnhghacDoorOwn
import Derived.Deep.LoopGhost
namespace Go.Proofs.YtaolnnjcpnhghacDoor
open Go.RowKit
set_option linter.unusedVariables false

theorem IntsAt.oneM (w : World) (n : Nat) (x : Int) (hx : In64 x) (h : w.heap.size = n) : IntsAt (w.alloc (.cells #[.int .i64 x] 3)) (n + 1) (some ⟨n, 0, none⟩) [x] := by
  have := IntsAt.one w x hx
  rwa [h] at this

set_option maxRecDepth 100000 in
set_option maxHeartbeats 2000000 in
theorem implClassesIn_any (A : Option Addr) (os : List Od) (c : Nat) (w : World) (h : OpsAt w w.heap.size A os) (hF : FormsAt w w.heap.size) :
    Calls Tryd.prog 7 #[.slice A os.length c] w (GivesInts w (classesIn os)) := by
  have HVo := hide (implValidOps_any A os c w h hF)
  by_cases hok : OpsOk os
  · have ht := hide (tf_true hok)
    have HV := hide (show classesIn os = clsTo os 10 by unfold classesIn; rw [if_pos hok])
    rw [HV.out]
    clear hok HV
    go_enter Tryd.func7, Tryd.ntmps7
    go_wp2_with fail
    refine HVo.out.mono ?_
    rintro e w1 ⟨rfl, hb1⟩
    rw [ht.out]
    have HB1 := hide hb1
    clear hb1
    go_wp2_with fail
    go_loopg [3, 8] 10 (fun gk ov iv wr => ∃ (k : Nat) (Ao : Option Addr) (co : Nat) (xs : List Int), k ≤ 10 ∧ gk = 10 - k ∧ iv = .int .i64 (k : Int) ∧ ov = .slice Ao xs.length co ∧ Hid (xs = clsTo os k) ∧ OwnI wr w.heap.size Ao co xs ∧ Below w.heap.size w wr)
    case atStart => exact ⟨0, none, 0, [], Nat.zero_le _, rfl, rfl, rfl, hide rfl, OwnI.empty _ _, HB1.out⟩
    case round =>
      clear HB1
      obtain ⟨k, Ao, co, xs, hk, rfl, rfl, rfl, hxs, hO, hB⟩ := hrel
      have HO := hide hO
      have HB := hide hB
      have hxl : xs.length ≤ 10 := by rw [hxs.out]; exact Nat.le_trans (clsTo_len _ _) hk
      clear hO hB
      by_cases hlt : k < 10
      · have hlt2 : (k : Int) < 10 := by omega
        have HCo := containsOp_any A os c ⟨13, (k : Int)⟩ wr (h.later HB.out (Nat.le_refl _))
        by_cases hm : (⟨13, (k : Int)⟩ : Od) ∈ os
        · rw [tf_true hm] at HCo
          have HS := hide (clsTo_yes hm)
          have HCC := hide HCo
          clear hm HCo
          go_wp2_with fail
          refine HCC.out.mono ?_
          clear HCC
          rintro e w5 ⟨rfl, hb5⟩
          have HO5 := hide (HO.out.below hb5)
          have HB5 := hide (HB.out.trans (hb5.mono HB.out.size))
          have hwz := HB5.out.size
          clear hb5 HO HB
          go_wp2_with (at_builtin; refine append_ints rfl (.tmp 15) (.tmp 17) rfl w.heap.size Ao co xs rfl (HO5.out.alloc _) _ _ 1 [(k : Int)] rfl (fun e => by cases e) (IntsAt.oneM _ w5.heap.size (k : Int) (by constructor <;> omega) rfl) (by simp <;> omega) (by simp <;> omega) ?_; intro zs A7 c7 w7 hz7 ho7 hg7 ha7; have HX := hide (And.intro ho7 (below_grown (HB5.out.alloc hwz _) hg7 (by simp; omega) (fun q hq => (HO5.out.blocks q hq).1))); have hzz := hide (show zs = clsTo os (k + 1) by rw [hz7.out, hxs.out, ← HS.out]); clear ho7 hg7 ha7 hz7)
          go_roundg (10 - (k + 1))
          case measure => omega
          case rel => exact ⟨k + 1, A7, c7, zs, by omega, rfl, by go_num, rfl, hzz, HX.out.1, HX.out.2⟩
        · rw [tf_false hm] at HCo
          have HS := hide (clsTo_no hm)
          have HCC := hide HCo
          clear hm HCo
          go_wp2_with fail
          refine HCC.out.mono ?_
          clear HCC
          rintro e w5 ⟨rfl, hb5⟩
          have HO5 := hide (HO.out.below hb5)
          have HB5 := hide (HB.out.trans (hb5.mono HB.out.size))
          have hzz := hide (show xs = clsTo os (k + 1) by rw [hxs.out, HS.out])
          clear hb5 HO HB
          go_wp2
          go_roundg (10 - (k + 1))
          case measure => omega
          case rel => exact ⟨k + 1, Ao, co, xs, by omega, rfl, by go_num, rfl, hzz, HO5.out, HB5.out⟩
      · obtain rfl : k = 10 := by omega
        rw [show ((10 : Nat) : Int) = 10 from rfl]
        go_wp2
        go_ret
        rw [← hxs.out]
        exact ⟨Ao, co, rfl, HO.out, HB.out⟩
  · have ht := hide (tf_false hok)
    have HV := hide (show classesIn os = [] by unfold classesIn; rw [if_neg hok])
    rw [HV.out]
    clear hok HV
    go_enter Tryd.func7, Tryd.ntmps7
    go_wp2_with fail
    refine HVo.out.mono ?_
    rintro e w1 ⟨rfl, hb1⟩
    rw [ht.out]
    go_wp2
    go_ret
    exact ⟨none, 0, rfl, OwnI.empty _ _, hb1⟩

end Go.Proofs.YtaolnnjcpnhghacDoor
