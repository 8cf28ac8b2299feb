/-
  The program's StreamBytes: what it returns.
-/
import Derived.Test.YtfhmmdiicnfjbaaDoorStmS
import Derived.Test.YtfhmmdiicnfjbaaDoorSpI
import Derived.Test.YtfhmmdiicnfjbaaDoorEncI
import Derived.Test.YtfhmmdiicnfjbaaDoorFrI
namespace Go.Proofs.YtfhmmdiicnfjbaaDoor
open Go.RowKit
set_option linter.unusedVariables false

set_option maxRecDepth 100000 in
set_option maxHeartbeats 2000000 in
theorem implStreamBytes_any (A : Option Addr) (os : List Od) (c : Nat) (m : Int) (w : World) (h : OpsAt w w.heap.size A os) (hc : os.length ≤ c) (hF : FormsAt w w.heap.size) :
    Calls Tryd.prog 7 #[.slice A os.length c, .int .i64 m] w (GivesInts w (streamOf os m)) := by
  obtain ⟨oss, hoss⟩ : ∃ l, l = splitOf os := ⟨_, rfl⟩
  have HC := hide (implSplitStops_any A os c w h hc hF)
  rw [← hoss] at HC
  have hfew : oss.length ≤ 300 := by rw [hoss]; exact splitOf_few os
  have HWf : Hid (Wf64 oss) := hide (by rw [hoss]; exact splitOf_wfS os)
  have HR : Hid (streamOf os m = framesOf m oss) := hide (by unfold streamOf; rw [← hoss])
  have HRl : Hid ((framesOf m oss).length ≤ 1800) := hide (by rw [← HR.out]; exact streamOf_few os m)
  have HF := hide hF
  clear hoss h hF hc
  go_enter Tryd.func7, Tryd.ntmps7
  go_wp2_with fail
  refine HC.out.mono ?_
  clear HC
  rintro e w2 ⟨As, cs, ps, rfl, hoS, hb2⟩
  have Hin := hide hoS.in_
  have HS1 := hide (show StmS w w2 w.heap.size w2.heap.size As cs ps oss none 0 [] from ⟨hb2, OwnI.empty _ _, hoS, (fun q hq => by cases hq), Nat.le_refl _⟩)
  obtain ⟨lo, hlo⟩ : ∃ b, b = w.heap.size := ⟨_, rfl⟩
  obtain ⟨hi, hhi⟩ : ∃ b, b = w2.heap.size := ⟨_, rfl⟩
  rw [← hhi] at Hin HS1
  have HS1 : Hid (StmS w w2 lo hi As cs ps oss none 0 []) := by rw [hlo]; exact HS1
  rw [← hlo] at Hin
  clear hoS hb2 hlo hhi
  go_wp2_with fail
  go_loopw [5, 11] (fun ov iv wr => ∃ (k : Nat) (Ao : Option Addr) (co : Nat) (acc : List Int), k ≤ oss.length ∧ iv = .int .i64 (k : Int) ∧ ov = .slice Ao acc.length co ∧ acc = framesOf m (oss.take k) ∧ StmS w wr lo hi As cs ps oss Ao co acc) (fun _ iv _ => oss.length - (intOf iv).toNat)
  case atStart => exact ⟨0, _, 0, [], Nat.zero_le _, rfl, rfl, rfl, HS1.out⟩
  case round =>
    clear HS1
    obtain ⟨k, Ao, co, acc, hk, rfl, rfl, hacc, hS⟩ := hrel
    have hal : acc.length ≤ 1800 := by rw [hacc]; exact Nat.le_trans framesOf_part HRl.out
    have HA := hide hacc
    have HS := hide hS
    have hsz := hS.bel.size
    clear hacc
    by_cases hlt : k < oss.length
    · obtain ⟨b, off, p, A1, c1, rfl, hbl, hx, hc1, hO1⟩ := (hS.src.ops HWf.out (by omega)).at_ hlt
      have HA2 := hide (framesOf_step (m := m) hx)
      have hFr := HF.out.later hS.bel (Nat.le_refl _)
      have hk1 : (0 : Int) ≤ (k : Int) := by omega
      have hk2 : (k : Int) < (oss.length : Int) := by omega
      clear hx hS
      go_wp2_with fail
      refine (implEncodeOps_any A1 p c1 wr hO1 hFr).mono ?_
      rintro e w3 ⟨A3, c3, rfl, ho3, hb3⟩
      have hcap := ho3.capX
      have hn3 := ho3.nil
      have hi3 := ho3.ints encodeOf_64 (by have := encodeOf_few (os := p); omega)
      have HB3 := hide hb3
      clear hb3 ho3 hc1 hO1 hFr
      generalize encodeOf p = L at hcap hi3 HA2 ⊢
      go_wp2_with fail
      refine (implFrameBytes_any A3 L c3 m w3 hi3 hn3 hcap).mono ?_
      rintro e w4 ⟨A4, c4, rfl, ho4, hb4⟩
      have hfl := frameOf_few L m
      have Hn4 := hide ho4.nil
      have hi4 := ho4.ints (fun x hx => by have := frameOf_byte L m x hx; constructor <;> omega) (by omega)
      have HB4 := hide (HB3.out.trans (hb4.mono HB3.out.size))
      have hO4 := HS.out.own.below HB4.out
      have hsz4 : w.heap.size ≤ w4.heap.size := Nat.le_trans hsz HB4.out.size
      clear hb4 ho4 hi3 hcap HB3 hn3
      generalize frameOf L m = F at HA2 hfl hi4 ⊢
      go_wp2_with (at_builtin; refine append_ints rfl (.tmp 15) (.tmp 19) rfl w.heap.size Ao co acc rfl hO4 w4.heap.size A4 c4 F rfl Hn4.out hi4 (by omega) hsz4 ?_; intro zs A5 c5 w5 e5 own5 hg5 hat5; have HS5 := hide (HS.out.step Hin.out HB4.out hg5 own5 hat5); clear own5 hg5 hat5)
      go_roundw
      case rel => exact ⟨k + 1, A5, c5, zs, by omega, by go_num, rfl, by rw [e5.out, HA2.out, HA.out], HS5.out⟩
      case measure => simp [intOf]; omega
    · obtain rfl : k = oss.length := by omega
      rw [List.take_length, ← HR.out] at HA
      clear hS
      go_wp2
      go_ret
      exact ⟨Ao, co, congrArg (fun (l : List Int) => Ending.returned (Value.slice Ao l.length co)) HA.out, by rw [← HA.out]; exact HS.out.own, HS.out.bel⟩

end Go.Proofs.YtfhmmdiicnfjbaaDoor
