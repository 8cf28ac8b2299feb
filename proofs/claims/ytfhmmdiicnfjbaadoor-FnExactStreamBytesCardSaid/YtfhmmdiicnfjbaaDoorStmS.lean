/-
  The model's StreamBytes: what it returns.
-/
import Derived.Test.YtfhmmdiicnfjbaaDoorStmM
import Derived.Test.YtfhmmdiicnfjbaaDoorSpS
import Derived.Test.YtfhmmdiicnfjbaaDoorEncS
import Derived.Test.YtfhmmdiicnfjbaaDoorFrS
import Derived.Test.YtfhmmdiicnfjbaaDoorOwnX
import Derived.Test.YtfhmmdiicnfjbaaDoorPjAd
namespace Go.Proofs.YtfhmmdiicnfjbaaDoor
open Go.RowKit
set_option linter.unusedVariables false

/-- the bytes of a stream -/
noncomputable def streamOf (os : List Od) (m : Int) : List Int := framesOf m (splitOf os)
theorem streamOf_few (os : List Od) (m : Int) : (streamOf os m).length ≤ 1800 := by
  have h := framesOf_len m (splitOf os)
  unfold streamOf
  by_cases hok : OpsOk os
  · rw [splitOf_ok hok] at h ⊢
    rw [splitStops_join] at h
    have := hok.1
    omega
  · rw [splitOf_no hok]; simp [framesOf]

/-- the memory while streams are put together: the parts lie between lo and hi, the bytes elsewhere -/
structure StmS (w wr : World) (lo hi : Nat) (As : Option Addr) (cs : Nat) (ps : List (Option Addr × Nat)) (oss : List (List Od)) (Ao : Option Addr) (co : Nat) (acc : List Int) : Prop where
  bel : Below w.heap.size w wr
  own : OwnI wr w.heap.size Ao co acc
  src : OwnOS wr lo As cs ps oss
  far : ∀ q, blockOf Ao = some q → q < lo ∨ hi ≤ q
  top : hi ≤ wr.heap.size

theorem StmS.step {w wr w4 w7 : World} {lo hi : Nat} {As : Option Addr} {cs : Nat} {ps : List (Option Addr × Nat)} {oss : List (List Od)} {Ao A2 : Option Addr} {co c2 : Nat} {acc zs : List Int} (h : StmS w wr lo hi As cs ps oss Ao co acc) (hin : OwnOS.In As ps lo hi) (hb : Below wr.heap.size wr w4) (hg : w4.grownBy w7 (blockOf Ao)) (own : OwnI w7 w.heap.size A2 c2 zs)
    (hat : blockOf A2 = blockOf Ao ∨ blockOf A2 = some w4.heap.size) : StmS w w7 lo hi As cs ps oss A2 c2 zs := by
  have hs := hb.size
  have ht := h.top
  refine ⟨below_grown (h.bel.trans (hb.mono h.bel.size)) hg (Nat.le_trans h.bel.size hb.size) (fun q hq => (h.own.blocks q hq).1), own, h.src.keep hin fun b h1 h2 => ?_, fun q hq => ?_, by have := hg.size; omega⟩
  · rw [hg.block b (by omega) (fun e => by have := h.far b e.symm; omega), hb.block b (by omega)]
  · rcases hat with e | e
    · exact h.far q (e ▸ hq)
    · rw [e] at hq
      injection hq with hq
      omega

theorem splitOf_wfS (os : List Od) : Wf64 (splitOf os) := by
  refine fun p hp => ⟨by have := (splitOf_part hp).1; omega, fun o ho => ?_⟩
  have h := (splitOf_part hp).2 o ho
  have hm := argMost_range o.code
  unfold In64
  rcases h.2 with ⟨h2, h3⟩ | ⟨h2, h3, h4⟩
  · have := h.1; omega
  · have := h.1; omega

set_option maxRecDepth 100000 in
set_option maxHeartbeats 2000000 in
theorem specStreamBytes_any (A : Option Addr) (os : List Od) (c : Nat) (m : Int) (w : World) (h : OpsAt w w.heap.size A os) :
    Calls Tryd.prog 5 #[.slice A os.length c, .int .i64 m] w (GivesInts w (streamOf os m)) := by
  have HV := hide (specValidOps_any A os c w h)
  by_cases hok : OpsOk os
  · rw [tf_true hok] at HV
    by_cases hmm : 1 ≤ m ∧ m ≤ 200
    · obtain ⟨oss, hoss⟩ : ∃ l, l = splitOf os := ⟨_, rfl⟩
      have HO := hide hoss
      have hfew : oss.length ≤ 300 := by rw [hoss]; exact splitOf_few os
      have HWf : Hid (Wf64 oss) := hide (by rw [hoss]; exact splitOf_wfS os)
      have HR : Hid (streamOf os m = framesOf m oss) := hide (by unfold streamOf; rw [← hoss])
      have HRl : Hid ((framesOf m oss).length ≤ 1800) := hide (by rw [← HR.out]; exact streamOf_few os m)
      clear hoss hok
      go_enter Tryd.func5, Tryd.ntmps5
      go_wp2_with fail
      refine HV.out.mono ?_
      rintro e w1 ⟨rfl, hb1⟩
      go_wp2_with fail
      refine (inRange_yes m 1 200 w1 hmm.1 hmm.2).mono ?_
      rintro e w' ⟨rfl, rfl⟩
      have HB0 := hide (hb1.alloc hb1.size (.cells #[] 3))
      have HO0 := hide ((OwnI.bare w1).mono hb1.size)
      have hn0 : w1.heap.size < (w1.alloc (.cells #[] 3)).heap.size := by simp
      have h1 := h.later HB0.out (Nat.le_refl _)
      clear hb1 hmm HV h
      go_wp2_with fail
      generalize w1.alloc (.cells #[] 3) = W at HB0 HO0 h1 hn0 ⊢
      have HC := specSplitStops_any A os c W h1
      rw [← HO.out] at HC
      refine HC.mono ?_
      clear HC h1
      rintro e w2 ⟨As, cs, ps, rfl, hoS, hb2⟩
      have Hin := hide hoS.in_
      have HS1 := hide (show StmS w w2 W.heap.size w2.heap.size As cs ps oss (some ⟨w1.heap.size, 0, none⟩) 0 [] from ⟨HB0.out.trans (hb2.mono HB0.out.size), HO0.out.below hb2, hoS, fun q hq => by
        have e : w1.heap.size = q := by injection hq
        omega, Nat.le_refl _⟩)
      obtain ⟨lo, hlo⟩ : ∃ b, b = W.heap.size := ⟨_, rfl⟩
      obtain ⟨hi, hhi⟩ : ∃ b, b = w2.heap.size := ⟨_, rfl⟩
      rw [← hlo, ← hhi] at Hin HS1
      clear hoS hb2 HB0 HO0 hn0 hlo hhi
      go_wp2_with fail
      go_loopw [5, 7] (fun ov iv wr => ∃ (k : Nat) (Ao : Option Addr) (co : Nat) (acc : List Int), k ≤ oss.length ∧ iv = .int .i64 (k : Int) ∧ ov = .slice Ao acc.length co ∧ acc = framesOf m (oss.take k) ∧ StmS w wr lo hi As cs ps oss Ao co acc) (fun _ iv _ => oss.length - (intOf iv).toNat)
      case atStart => exact ⟨0, _, 0, [], Nat.zero_le _, rfl, rfl, rfl, HS1.out⟩
      case round =>
        clear HS1
        obtain ⟨k, Ao, co, acc, hk, rfl, rfl, hacc, hS⟩ := hrel
        have hal : acc.length ≤ 1800 := by rw [hacc]; exact Nat.le_trans framesOf_part HRl.out
        have HA := hide hacc
        have HS := hide hS
        have hsz := hS.bel.size
        clear hacc
        by_cases hlt : k < oss.length
        · obtain ⟨b, off, p, A1, c1, rfl, hbl, hx, hc1, hO1⟩ := (hS.src.ops HWf.out (by omega)).at_ hlt
          have HA2 := hide (framesOf_step (m := m) hx)
          have hk1 : (0 : Int) ≤ (k : Int) := by omega
          have hk2 : (k : Int) < (oss.length : Int) := by omega
          clear hx hS
          go_wp2_with fail
          refine (specEncodeOps_any A1 p c1 wr hO1).mono ?_
          rintro e w3 ⟨A3, c3, rfl, ho3, hb3⟩
          have hcap := ho3.capX
          have hi3 := ho3.ints encodeOf_64 (by have := encodeOf_few (os := p); omega)
          have HB3 := hide hb3
          clear hb3 ho3 hc1 hO1
          generalize encodeOf p = L at hcap hi3 HA2 ⊢
          go_wp2_with fail
          refine (specFrameBytes_any A3 L c3 m w3 hi3 hcap).mono ?_
          rintro e w4 ⟨A4, c4, rfl, ho4, hb4⟩
          have hfl := frameOf_few L m
          have Hn4 := hide ho4.nil
          have hi4 := ho4.ints (fun x hx => by have := frameOf_byte L m x hx; constructor <;> omega) (by omega)
          have HB4 := hide (HB3.out.trans (hb4.mono HB3.out.size))
          have hO4 := HS.out.own.below HB4.out
          have hsz4 : w.heap.size ≤ w4.heap.size := Nat.le_trans hsz HB4.out.size
          clear hb4 ho4 hi3 hcap HB3
          generalize frameOf L m = F at HA2 hfl hi4 ⊢
          go_wp2_with (at_builtin; refine append_ints rfl (.tmp 25) (.tmp 32) rfl w.heap.size Ao co acc rfl hO4 w4.heap.size A4 c4 F rfl Hn4.out hi4 (by omega) hsz4 ?_; intro zs A5 c5 w5 e5 own5 hg5 hat5; have HS5 := hide (HS.out.step Hin.out HB4.out hg5 own5 hat5); clear own5 hg5 hat5)
          go_roundw
          case rel => exact ⟨k + 1, A5, c5, zs, by omega, by go_num, rfl, by rw [e5.out, HA2.out, HA.out], HS5.out⟩
          case measure => simp [intOf]; omega
        · obtain rfl : k = oss.length := by omega
          rw [List.take_length, ← HR.out] at HA
          clear hS
          go_wp2
          go_ret
          exact ⟨Ao, co, congrArg (fun (l : List Int) => Ending.returned (Value.slice Ao l.length co)) HA.out, by rw [← HA.out]; exact HS.out.own, HS.out.bel⟩
    · have HR : Hid (streamOf os m = []) := hide (framesOf_no hmm _)
      rw [HR.out]
      clear hok
      go_enter Tryd.func5, Tryd.ntmps5
      go_wp2_with fail
      refine HV.out.mono ?_
      rintro e w1 ⟨rfl, hb1⟩
      go_wp2_with fail
      refine (inRange_no m 1 200 w1 (by omega)).mono ?_
      rintro e w' ⟨rfl, rfl⟩
      clear hmm HV h
      go_wp2
      go_ret
      exact ⟨none, 0, rfl, OwnI.empty _ _, hb1⟩
  · rw [tf_false hok] at HV
    have HR : Hid (streamOf os m = []) := hide (by unfold streamOf; rw [splitOf_no hok]; rfl)
    rw [HR.out]
    clear hok
    go_enter Tryd.func5, Tryd.ntmps5
    go_wp2_with fail
    refine HV.out.mono ?_
    rintro e w1 ⟨rfl, hb1⟩
    clear HV h
    go_wp2
    go_ret
    exact ⟨none, 0, rfl, OwnI.empty _ _, hb1⟩

end Go.Proofs.YtfhmmdiicnfjbaaDoor
