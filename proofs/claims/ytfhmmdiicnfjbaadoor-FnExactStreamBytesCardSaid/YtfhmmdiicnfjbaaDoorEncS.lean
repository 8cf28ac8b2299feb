/-
  The model's EncodeOps: what it returns.
-/
import Derived.Test.YtfhmmdiicnfjbaaDoorBof
import Derived.Test.YtfhmmdiicnfjbaaDoorSpecO
import Derived.Deep.LoopGhost
namespace Go.Proofs.YtfhmmdiicnfjbaaDoor
open Go.RowKit
set_option linter.unusedVariables false

/-- the memory while the bytes of k orders lie behind each other -/
structure EnS (w wr : World) (os : List Od) (k : Nat) (Ao : Option Addr) (co : Nat) (acc : List Int) : Prop where
  bel : Below w.heap.size w wr
  own : OwnI wr w.heap.size Ao co acc
  eq : acc = encs (os.take k)

theorem EnS.few {w wr : World} {os : List Od} {k : Nat} {Ao : Option Addr} {co : Nat} {acc : List Int} (h : EnS w wr os k Ao co acc) : acc.length ≤ 3 * k := by
  rw [h.eq]
  have := (encs_len (os.take k)).2
  simp only [List.length_take] at this
  omega

set_option maxRecDepth 100000 in
set_option maxHeartbeats 1000000 in
theorem specEncodeOps_any (A : Option Addr) (os : List Od) (c : Nat) (w : World) (h : OpsAt w w.heap.size A os) :
    Calls Tryd.prog 17 #[.slice A os.length c] w (GivesInts w (encodeOf os)) := by
  have hl := h.len
  by_cases hok : OpsOk os
  · rw [encodeOf_ok hok]
    have Hok := hide hok
    have ht := hide (tf_true hok)
    have hl3 := hok.1
    clear hok
    go_enter Tryd.func17, Tryd.ntmps17
    go_wp2_with fail
    refine (specValidOps_any A os c w h).mono ?_
    rintro e w1 ⟨rfl, hb1⟩
    rw [ht.out]
    have HS0 := hide (show EnS w (w1.alloc (.cells #[] 3)) os 0 (some ⟨w1.heap.size, 0, none⟩) 0 [] from
      ⟨hb1.alloc hb1.size _, (OwnI.bare w1).mono hb1.size, rfl⟩)
    go_wp2_with fail
    generalize w1.alloc (.cells #[] 3) = w0 at HS0 ⊢
    go_loopg [3, 4] os.length (fun gk ov iv wr => ∃ (k : Nat) (Ao : Option Addr) (co : Nat) (acc : List Int), k ≤ os.length ∧ gk = os.length - k ∧ iv = .int .i64 (k : Int) ∧ ov = .slice Ao acc.length co ∧ EnS w wr os k Ao co acc)
    case atStart => exact ⟨0, _, 0, [], Nat.zero_le _, rfl, rfl, rfl, HS0.out⟩
    case round =>
      clear HS0
      obtain ⟨k, Ao, co, acc, hk, rfl, rfl, rfl, hS⟩ := hrel
      have HS := hide hS
      have hfew := hS.few
      have hbs := hS.bel.size
      by_cases hlt : k < os.length
      · obtain ⟨b, off, o, rfl, hbl, hx, hmem, hc0, hc1⟩ := (h.below hS.bel).at_ hlt
        have Hx := hide hx
        have Hin := hide (Hok.out.2 o hmem)
        have hlen := encO_len o
        clear hS hx hmem
        go_wp2_with fail
        refine (bytesOf_any o _ Hin.out).mono ?_
        rintro e w2 ⟨A2, c2, rfl, hn2, hI2, hb2⟩
        have HN2 := hide hn2
        have HI2 := hide hI2
        have HB2 := hide hb2
        have HO2 := hide (HS.out.own.below hb2)
        have HW2 := hide (HS.out.bel.trans (hb2.mono hbs))
        have hs2 := HW2.out.size
        clear hn2 hI2 hb2
        go_wp2_with (at_builtin; refine append_ints rfl (.tmp 15) (.tmp 20) rfl w.heap.size Ao co acc rfl HO2.out w2.heap.size A2 c2 (encO o) rfl HN2.out HI2.out (by omega) hs2 ?_; intro zs A3 c3 w3 e3 own3 hg3 _; have HG3 := hide hg3; have HO3 := hide own3; clear hg3 own3)
        go_roundg (os.length - (k + 1))
        case measure => omega
        case rel => exact ⟨k + 1, A3, c3, zs, by omega, rfl, by go_num, rfl, below_grown HW2.out HG3.out hs2 (fun q hq => (HO2.out.blocks q hq).1), HO3.out, by rw [e3.out, HS.out.eq, encs_next Hx.out]⟩
      · obtain rfl : k = os.length := by omega
        have hE : acc = encs os := by have := hS.eq; rw [List.take_length] at this; exact this
        subst hE
        clear hS hlt
        go_wp2
        go_ret
        exact ⟨Ao, co, rfl, HS.out.own, HS.out.bel⟩
  · rw [encodeOf_no hok]
    have ht := hide (tf_false hok)
    clear hok
    go_enter Tryd.func17, Tryd.ntmps17
    go_wp2_with fail
    refine (specValidOps_any A os c w h).mono ?_
    rintro e w1 ⟨rfl, hb1⟩
    rw [ht.out]
    go_wp2
    go_ret
    exact ⟨none, 0, rfl, OwnI.empty _ _, hb1⟩

end Go.Proofs.YtfhmmdiicnfjbaaDoor
