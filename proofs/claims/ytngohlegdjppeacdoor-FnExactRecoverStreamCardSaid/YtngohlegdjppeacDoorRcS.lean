/-
  The model's RecoverStream: what it returns.
-/
import Derived.Test.YtngohlegdjppeacDoorRcM
import Derived.Test.YtngohlegdjppeacDoorVF
import Derived.Test.YtngohlegdjppeacDoorUfS
import Derived.Test.YtngohlegdjppeacDoorRds
import Derived.Test.YtngohlegdjppeacDoorOwnOO
import Derived.Test.YtngohlegdjppeacDoorOwnX
namespace Go.Proofs.YtngohlegdjppeacDoor
open Go.RowKit
set_option linter.unusedVariables false

/-- orders of the call's own -/
def GivesO (w : World) (os : List Od) (e : Ending) (w' : World) : Prop := ∃ A c, e = .returned (.slice A os.length c) ∧ OwnO w' w.heap.size A c os ∧ Below w.heap.size w w'

set_option maxRecDepth 100000 in
set_option maxHeartbeats 1000000 in
theorem specRecoverStream_any (A : Option Addr) (xs : List Int) (c : Nat) (w : World) (h : IntsAt w w.heap.size A xs) (hc : xs.length ≤ c) :
    Calls Tryd.prog 4 #[.slice A xs.length c] w (GivesO w (recOps xs)) := by
  by_cases hok : BytesOk 2000 xs
  · have ht := hide (tf_true hok)
    have hl := hok.1
    obtain ⟨L, hL⟩ : ∃ L, L = (unfr xs.length xs).1 := ⟨_, rfl⟩
    have hle := unfr_le xs.length xs
    have h255 := unfr_mem xs.length xs hok.2
    have hLL : unfrBytes xs = L := by rw [unfrBytes_ok hok, hL]
    have HV := hide (validFramed_any A xs c w h)
    have HU := hide (unframe_any A xs c w h hc (by omega))
    rw [← hL] at HU hle h255
    clear hL hok h
    have h64 : ∀ x ∈ L, In64 x := fun x hx => by have := h255 x hx; constructor <;> omega
    have H64 := hide h64
    have hL2 : L.length ≤ 2000 := by omega
    clear h64 hle
    by_cases hlong : L.length ≤ 1000
    · have Hok : Hid (BytesOk 1000 L) := hide ⟨hlong, h255⟩
      obtain ⟨os, hos⟩ : ∃ os, os = (decs 300 L).1 := ⟨_, rfl⟩
      have hot : tornOps L = os := by rw [tornOps_ok Hok.out, hos]
      have h300 : os.length ≤ 300 := by rw [← hot]; exact tornOps_few L
      have HO64 : Hid (∀ o ∈ os, In64 o.code ∧ In64 o.arg) := hide (by rw [← hot]; exact tornOps_64 L)
      have HR : Hid (recOps xs = os.take (lastStop os)) := hide (by unfold recOps; rw [hLL, hot])
      have Hos := hide hos
      have hls := lastStop_le os
      obtain ⟨z, hz⟩ : ∃ z, z = lastStop os := ⟨_, rfl⟩
      have Hz := hide hz
      rw [← hz] at hls
      clear hos hot hLL h255 hz
      go_enter Tryd.func4, Tryd.ntmps4
      go_wp2_with fail
      refine HV.out.mono ?_
      rintro e w' ⟨rfl, rfl⟩
      rw [ht.out]
      go_wp2_with fail
      refine HU.out.mono ?_
      rintro e w1 ⟨A1, c1, rfl, ho1, hb1⟩
      have hcap := ho1.capX
      have hi := ho1.ints H64.out (by omega)
      have hn := ho1.nil
      have HB1 := hide hb1
      clear hb1 ho1 HU HV
      go_wp2_with fail
      refine (readOps_any A1 L c1 w1 hi hn hcap Hok.out).mono ?_
      rintro e w2 ⟨A2, c2, rfl, ho2, hb2⟩
      rw [← Hos.out] at ho2 ⊢
      have hiO := ho2.ops HO64.out (by omega)
      have hcap2 := ho2.capX
      have Hn2 := hide ho2.nilX
      have HB2 := hide (HB1.out.trans (hb2.mono HB1.out.size))
      clear hb2 ho2 hi hn hcap
      go_wp2_with fail
      go_loop [7, 8] (fun ev iv => ∃ k : Nat, k ≤ os.length ∧ iv = .int .i64 (k : Int) ∧ ev = .int .i64 (stopTo os k : Int)) (fun _ iv => os.length - (intOf iv).toNat)
      case atStart => exact ⟨0, Nat.zero_le _, rfl, rfl⟩
      case round =>
        obtain ⟨k, hk, rfl, rfl⟩ := hrel
        by_cases hlt : k < os.length
        · obtain ⟨b, off, o, rfl, hbl, hx, hmem, hc0, hc1⟩ := hiO.at_ hlt
          have Hx := hide hx
          clear hx hmem hc1
          by_cases h19 : o.code = 19
          · have hd : (o.code == 19) = true := by simp [h19]
            have HS := hide (stopTo_yes Hx.out h19)
            clear h19
            go_wp2_with fail
            go_round
            case rel => exact ⟨k + 1, by omega, by go_num, by rw [HS.out]; go_num⟩
            case measure => simp [intOf]; omega
          · have hd : (o.code == 19) = false := by simp [h19]
            have HS := hide (stopTo_no Hx.out h19)
            clear h19
            go_wp2_with fail
            go_round
            case rel => exact ⟨k + 1, by omega, by go_num, by rw [HS.out]⟩
            case measure => simp [intOf]; omega
        · obtain rfl : k = os.length := by omega
          rw [show stopTo os os.length = z from Hz.out.symm]
          have HO := hide ((OwnO.bare w2).mono HB2.out.size)
          have HB3 := hide (HB2.out.alloc HB2.out.size (.cells #[] 36))
          have HT : Hid ((os.take z).length = z) := hide (by simp; omega)
          have HD := hide ((hiO.upto z).below ((Below.refl w2.heap.size w2).alloc (Nat.le_refl _) (.cells #[] 36)))
          have hzc : (z : Int) ≤ (c2 : Int) := by omega
          go_wp2_with (at_builtin; refine append_ops rfl (.tmp 39) (.tmp 42) rfl w.heap.size _ 0 [] rfl HO.out w2.heap.size A2 c2 (os.take z) (congrArg (fun k => Value.slice A2 k c2) HT.out.symm) Hn2.out HD.out (by simp; omega) HB3.out.size ?_; intro zs A5 c5 w5 e5 own5 hg5 _; have HG5 := hide hg5; have HO5 := hide own5; clear hg5 own5)
          go_ret
          have e6 : zs = recOps xs := by rw [e5.out, HR.out, ← Hz.out, List.nil_append]
          subst e6
          exact ⟨A5, c5, rfl, HO5.out, below_grown HB3.out HG5.out HB3.out.size (fun q hq => (HO.out.blocks q hq).1)⟩
    · have HR : Hid (recOps xs = []) := hide (recOps_long (by rw [hLL]; exact fun e => hlong e.1))
      clear h255 hLL
      go_enter Tryd.func4, Tryd.ntmps4
      go_wp2_with fail
      refine HV.out.mono ?_
      rintro e w' ⟨rfl, rfl⟩
      rw [ht.out]
      go_wp2_with fail
      refine HU.out.mono ?_
      rintro e w1 ⟨A1, c1, rfl, ho1, hb1⟩
      clear ho1 HU HV
      go_wp2
      go_ret
      rw [HR.out]
      exact ⟨none, 0, rfl, OwnO.empty _ _, hb1⟩
  · have ht := hide (tf_false hok)
    have HR : Hid (recOps xs = []) := hide (recOps_bad hok)
    have HV := hide (validFramed_any A xs c w h)
    clear hok h
    go_enter Tryd.func4, Tryd.ntmps4
    go_wp2_with fail
    refine HV.out.mono ?_
    rintro e w' ⟨rfl, rfl⟩
    rw [ht.out]
    go_wp2
    go_ret
    rw [HR.out]
    exact ⟨none, 0, rfl, OwnO.empty _ _, Below.refl _ _⟩

end Go.Proofs.YtngohlegdjppeacDoor
