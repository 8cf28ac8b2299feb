/-
  The program's PlacesOf: what it returns.
-/
import Derived.Test.YtgdljgddfbegnaeDoorPlM
import Derived.Test.YtgdljgddfbegnaeDoorSetI
import Derived.Test.YtgdljgddfbegnaeDoorImplO
import Derived.Deep.QuietTactic
import Derived.BigQuiet
namespace Go.Proofs.YtgdljgddfbegnaeDoor
open Go.RowKit
set_option linter.unusedVariables false

set_option maxRecDepth 100000 in
set_option maxHeartbeats 1000000 in
theorem implPlacesOf_any (A : Option Addr) (os : List Od) (c : Nat) (w : World) (h : OpsAt w w.heap.size A os) (hF : FormsAt w w.heap.size) :
    Calls Tryd.prog 7 #[.slice A os.length c] w fun e w' => e = .returned (.int .i64 (placesOf os)) ∧ Below w.heap.size w w' := by
  have hl := h.len
  by_cases hok : OpsOk os
  · rw [placesOf_ok hok]
    have ht := hide (tf_true hok)
    have hl3 := hok.1
    have Hwf := hide h.wf
    clear hok
    go_enter Tryd.func7, Tryd.ntmps7
    go_wp2_with fail
    refine (implValidOps_any A os c w h hF).mono ?_
    rintro e w1 ⟨rfl, hb1⟩
    rw [ht.out]
    have lb := Lies.new w1 #[.map none, .slice none 0 0] 38
    have hb2 := hb1.alloc hb1.size (.cells #[.map none, .slice none 0 0] 38)
    have hsz := hb1.size
    go_wp2_with fail
    have hst : (w1.alloc (.cells #[.map none, .slice none 0 0] 38)).heap.size = w1.heap.size + 1 := by simp
    generalize w1.alloc (.cells #[.map none, .slice none 0 0] 38) = w2 at lb hb2 hst ⊢
    have HST := hide (show w1.heap.size + 1 ≤ w2.heap.size by omega)
    clear hst
    generalize w1.heap.size = g at lb hsz HST ⊢
    go_loopw [11] (fun iv wr => ∃ (k : Nat) (m : Option Nat) (A' : Option Addr) (c' : Nat), k ≤ os.length ∧ iv = .int .i64 k ∧ SetI wr g (g + 1) m A' c' (placesTo os k) ∧ Below w.heap.size w wr ∧ g + 1 ≤ wr.heap.size) (fun iv _ => os.length - (intOf iv).toNat)
    case atStart => exact ⟨0, none, none, 0, Nat.zero_le _, rfl, SetI.start lb (Nat.lt_succ_self _), hb2, HST.out⟩
    case round =>
      clear lb hb2
      obtain ⟨k, m, A', c', hk, rfl, hset, hb, hs⟩ := hrel
      by_cases hlt : k < os.length
      · obtain ⟨b, off, o, rfl, hbl, hx, hmem, hc0, hc1⟩ := (h.below hb).at_ hlt
        have Hs := hide (placesTo_succ hx)
        have hpl := placesTo_len os k
        have hoa := (Hwf.out o hmem).2
        have hk1 : (0 : Int) ≤ (k : Int) := by omega
        have hk2 : (k : Int) < (os.length : Int) := by omega
        have hb3 := hb.alloc hb.size (.cells #[.int .i64 o.code, .int .i64 o.arg] 32)
        have lo := Lies.new wr #[.int .i64 o.code, .int .i64 o.arg] 32
        have hset3 := hset.below ((Below.refl wr.heap.size wr).alloc (Nat.le_refl _) (.cells #[.int .i64 o.code, .int .i64 o.arg] 32))
        have hs3 : g + 1 ≤ (wr.alloc (.cells #[.int .i64 o.code, .int .i64 o.arg] 32)).heap.size := by simp; omega
        generalize placesTo os k = L at hset hset3 Hs hpl ⊢
        clear hset
        by_cases h15 : o.code = 15
        · rw [h15] at hc0 hb3 lo hset3 hs3
          have t15 : ((15 : Int) == 15) = true := rfl
          have o0 := lo.cell 0
          have o1 := lo.cell 1
          simp at o0 o1
          by_cases hin : o.arg ∈ L
          · have HF := hide (addPlace_old (o := o) hin)
            have HC := hide (addI_seen g (g + 1) m A' c' L o.arg _ hset3 hoa hin)
            have HS := hide hset3
            have HB := hide hb3
            have HZ := hide hs3
            clear hx hmem hin h15 t15 hset3 lo hb3 hs3
            go_wp2_with fail
            refine HC.out.mono ?_
            rintro e w' ⟨rfl, rfl⟩
            clear HC
            go_wp2
            go_roundw
            case rel => exact ⟨k + 1, m, A', c', by omega, by go_num, by rw [Hs.out, HF.out]; exact HS.out, HB.out, HZ.out⟩
            case measure => simp [intOf]; omega
          · have HF := hide (addPlace_new h15 hin)
            have HC := hide (addI_new g (g + 1) m c' A' L o.arg _ hset3 hoa hs3 hin (by omega))
            have HB := hide hb3
            have HZ := hide hs3
            clear hx hmem hin h15 t15 hset3 lo hb3 hs3
            go_wp2_with fail
            refine HC.out.mono ?_
            rintro e w' ⟨rfl, ⟨m2, A2, c2, hset4⟩, hbut⟩
            have HS := hide hset4
            have HBB := hide (hbut.below HB.out hsz (by omega))
            have HZ2 := hide (show g + 1 ≤ w'.heap.size from Nat.le_trans HZ.out hbut.size)
            clear HC hset4 hbut HB HZ
            go_wp2
            go_roundw
            case rel => exact ⟨k + 1, m2, A2, c2, by omega, by go_num, by rw [Hs.out, HF.out]; exact HS.out, HBB.out, HZ2.out⟩
            case measure => simp [intOf]; omega
        · have t15 : (o.code == 15) = false := by simpa using h15
          have HF := hide (addPlace_no (L := L) h15)
          have o0 := lo.cell 0
          simp at o0
          have HS := hide hset3
          have HB := hide hb3
          have HZ := hide hs3
          clear hx hmem h15 hset3 lo hb3 hs3
          go_wp2
          go_roundw
          case rel => exact ⟨k + 1, m, A', c', by omega, by go_num, by rw [Hs.out, HF.out]; exact HS.out, HB.out, HZ.out⟩
          case measure => simp [intOf]; omega
      · obtain rfl : k = os.length := by omega
        clear hlt
        have hpl := placesTo_len os os.length
        have e0 := hset.box.cell 1
        simp at e0
        generalize hLd : placesTo os os.length = L at hset hpl e0 ⊢
        have HL := hide hLd
        clear hLd hset
        go_wp2
        go_ret
        exact ⟨ret_int (by rw [HL.out]), hb⟩
  · rw [placesOf_no hok]
    have ht := hide (tf_false hok)
    clear hok
    go_enter Tryd.func7, Tryd.ntmps7
    go_wp2_with fail
    refine (implValidOps_any A os c w h hF).mono ?_
    rintro e w1 ⟨rfl, hb1⟩
    rw [ht.out]
    go_wp2
    go_ret
    exact ⟨rfl, hb1⟩

end Go.Proofs.YtgdljgddfbegnaeDoor
