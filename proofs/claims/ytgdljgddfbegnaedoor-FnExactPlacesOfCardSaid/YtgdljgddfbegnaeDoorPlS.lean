/-
  The model's PlacesOf: what it returns.
-/
import Derived.Test.YtgdljgddfbegnaeDoorPlM
import Derived.Test.YtgdljgddfbegnaeDoorPlIn
import Derived.Test.YtgdljgddfbegnaeDoorSpecO
import Derived.Deep.QuietTactic
import Derived.BigQuiet
namespace Go.Proofs.YtgdljgddfbegnaeDoor
open Go.RowKit
set_option linter.unusedVariables false

set_option maxRecDepth 100000 in
set_option maxHeartbeats 1000000 in
theorem specPlacesOf_any (A : Option Addr) (os : List Od) (c : Nat) (w : World) (h : OpsAt w w.heap.size A os) :
    Calls Tryd.prog 5 #[.slice A os.length c] w fun e w' => e = .returned (.int .i64 (placesOf os)) ∧ Below w.heap.size w w' := by
  have hl := h.len
  by_cases hok : OpsOk os
  · rw [placesOf_ok hok]
    have ht := hide (tf_true hok)
    have hl3 := hok.1
    have Hwf := hide h.wf
    clear hok
    go_enter Tryd.func5, Tryd.ntmps5
    go_wp2_with fail
    refine (specValidOps_any A os c w h).mono ?_
    rintro e w1 ⟨rfl, hb1⟩
    rw [ht.out]
    have hbare := OwnI.bare w1
    have hb2 := hb1.alloc hb1.size (.cells #[] 3)
    have hsz := hb1.size
    go_wp2_with fail
    generalize w1.alloc (.cells #[] 3) = w2 at hbare hb2 ⊢
    go_loopw [3, 4] (fun mv iv wr => ∃ (k : Nat) (A' : Option Addr) (c' : Nat), k ≤ os.length ∧ iv = .int .i64 k ∧ mv = .slice A' (placesTo os k).length c' ∧ OwnI wr w.heap.size A' c' (placesTo os k) ∧ Below w.heap.size w wr) (fun _ iv _ => os.length - (intOf iv).toNat)
    case atStart => exact ⟨0, some ⟨w1.heap.size, 0, none⟩, 0, Nat.zero_le _, rfl, rfl, hbare.mono hsz, hb2⟩
    case round =>
      clear hbare hb2
      obtain ⟨k, A', c', hk, rfl, rfl, hown, hb⟩ := hrel
      by_cases hlt : k < os.length
      · obtain ⟨b, off, o, rfl, hbl, hx, hmem, hc0, hc1⟩ := (h.below hb).at_ hlt
        have Hs := hide (placesTo_succ hx)
        have hpl := placesTo_len os k
        have H64 := hide (placesTo_64 Hwf.out k)
        have hk1 : (0 : Int) ≤ (k : Int) := by omega
        have hk2 : (k : Int) < (os.length : Int) := by omega
        have hoa := (Hwf.out o hmem).2
        generalize placesTo os k = L at hown Hs hpl H64 ⊢
        by_cases h15 : o.code = 15
        · rw [h15] at hc0
          have t15 : ((15 : Int) == 15) = true := rfl
          have hI := hown.ints H64.out (by omega)
          by_cases hin : o.arg ∈ L
          · have HF := hide (addPlace_old (o := o) hin)
            have hp := (place_lt hin).1
            have d : decide (place L o.arg < 0) = false := by simp; omega
            clear hx hmem hin h15 t15
            go_wp2_with fail
            refine (placeIn_any A' L c' o.arg wr hI).mono ?_
            rintro e w' ⟨rfl, rfl⟩
            generalize place L o.arg = P at d hp ⊢
            clear hI
            go_wp2
            go_roundw
            case rel => exact ⟨k + 1, A', c', by omega, by go_num, by rw [Hs.out, HF.out], by rw [Hs.out, HF.out]; exact hown, hb⟩
            case measure => simp [intOf]; omega
          · have HF := hide (addPlace_new h15 hin)
            have hp := place_neg hin
            clear hx hmem hin h15 t15
            go_wp2_with fail
            refine (placeIn_any A' L c' o.arg wr hI).mono ?_
            rintro e w' ⟨rfl, rfl⟩
            rw [hp]
            clear hp hI
            have hsz3 := hb.size
            go_wp2_with (at_builtin; refine append_ints rfl (.tmp 31) (.tmp 37) rfl w.heap.size A' c' L rfl (hown.alloc _) (wr.heap.size + 1) _ 1 [o.arg] rfl (fun e => by cases e) (IntsAt.one wr o.arg hoa) (by simp <;> omega) (by simp <;> omega) ?_; intro zs A2 c2 w3 hz hown3 hgrow3 hat3)
            go_roundw
            case rel => exact ⟨k + 1, A2, c2, by omega, by go_num, by rw [Hs.out, HF.out, hz.out], by rw [Hs.out, HF.out, ← hz.out]; exact hown3, below_grown (hb.alloc hsz3 _) hgrow3 (by simp; omega) (fun q hq => (hown.blocks q hq).1)⟩
            case measure => simp [intOf]; omega
        · have t15 : (o.code == 15) = false := by simpa using h15
          have HF := hide (addPlace_no (L := L) h15)
          clear hx hmem h15
          go_wp2
          go_roundw
          case rel => exact ⟨k + 1, A', c', by omega, by go_num, by rw [Hs.out, HF.out], by rw [Hs.out, HF.out]; exact hown, hb⟩
          case measure => simp [intOf]; omega
      · obtain rfl : k = os.length := by omega
        clear hlt
        have hpl := placesTo_len os os.length
        generalize hLd : placesTo os os.length = L at hown hpl ⊢
        have HL := hide hLd
        clear hLd
        go_wp2
        go_ret
        exact ⟨ret_int (by rw [HL.out]), hb⟩
  · rw [placesOf_no hok]
    have ht := hide (tf_false hok)
    clear hok
    go_enter Tryd.func5, Tryd.ntmps5
    go_wp2_with fail
    refine (specValidOps_any A os c w h).mono ?_
    rintro e w1 ⟨rfl, hb1⟩
    rw [ht.out]
    go_wp2
    go_ret
    exact ⟨rfl, hb1⟩

end Go.Proofs.YtgdljgddfbegnaeDoor
