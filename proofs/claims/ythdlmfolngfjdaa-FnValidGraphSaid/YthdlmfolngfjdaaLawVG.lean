/-
  The walk of the law FnValidGraph: for every text it returns true and writes nothing that was there.
-/
import Derived.Test.YthdlmfolngfjdaaDrawVG
import Derived.Test.YthdlmfolngfjdaaImplD
import Derived.Test.YthdlmfolngfjdaaSpecX
namespace Go.Proofs.Ythdlmfolngfjdaa
open Go.RowKit
set_option linter.unusedVariables false

theorem ValidG.at_ {ns : List Nd} {r : Int} (h : ValidG ns r) {i : Nat} (hi : i < ns.length) : ValidG ns (i : Int) := ⟨h.one, h.few, by omega, by omega, h.nodes, h.tuples⟩

set_option maxRecDepth 100000 in
set_option maxHeartbeats 2000000 in
theorem lawVG_any (A : Option Addr) (n c : Nat) (w : World) (h : BytesAt w w.heap.size A n) (hc : n ≤ c) (hn : n ≤ 9223372036854775807) :
    Calls Try.prog 3 #[.slice A n c] w fun e w' => e = .returned (.bool true) ∧ Below w.heap.size w w' := by
  by_cases hbig : 1048576 < n
  · have d : decide ((1048576 : Int) < (n : Int)) = true := by simp; omega
    go_enter Try.func3, Try.ntmps3
    go_wp2
    go_ret
    exact ⟨rfl, Below.refl _ _⟩
  · have d : decide ((1048576 : Int) < (n : Int)) = false := by simp; omega
    go_enter Try.func3, Try.ntmps3
    go_wp2_with fail
    refine (drawValidGraph_any A n c w h hc hn).mono ?_
    rintro e w1 ⟨g, cap, ns, r, rfl, hnds, h1, h10, hr64, hb1⟩
    have hb2 := hb1.alloc hb1.size (.cells #[.slice (some ⟨g, 0, none⟩) ns.length cap, .int .i64 r] 25)
    have l2 := Lies.new w1 #[.slice (some ⟨g, 0, none⟩) ns.length cap, .int .i64 r] 25
    have hn2 := hnds.later ((Below.refl w1.heap.size w1).alloc (Nat.le_refl _) (.cells #[.slice (some ⟨g, 0, none⟩) ns.length cap, .int .i64 r] 25)) (Nat.le_refl _)
    have hsz := hb1.size
    clear hnds hb1 h
    go_wp2_with fail
    generalize w1.alloc (.cells #[.slice (some ⟨g, 0, none⟩) ns.length cap, .int .i64 r] 25) = w2 at hb2 l2 hn2 ⊢
    generalize w1.heap.size = bg at l2 hsz ⊢
    refine (implValid_any _ ns cap r w2 hn2).mono ?_
    rintro e w3 ⟨rfl, hb3⟩
    have l3 := l2.below hb3 l2.lt
    have hn3 := hn2.later hb3 (Nat.le_refl _)
    have hB3 := hb2.trans (hb3.mono hb2.size)
    have e0 := l3.cell 0
    have e1 := l3.cell 1
    simp at e0 e1
    clear l2 hn2 hb2 hb3
    by_cases hv : ValidG ns r
    · rw [tf_true hv]
      have HV := hide hv
      have ht := hide (tf_true hv)
      clear hv
      go_wp2_with fail
      refine (specValidGraphX_any _ ns cap r w3 hn3).mono ?_
      rintro e w4 ⟨rfl, hb4⟩
      rw [ht.out]
      have l4 := l3.below hb4 l3.lt
      have hn4 := hn3.later hb4 (Nat.le_refl _)
      have hB4 := hB3.trans (hb4.mono hB3.size)
      have HL := hide l4
      have HN := hide hn4
      clear l3 hn3 hB3 hb4 e0 e1
      have e0 := l4.cell 0
      simp at e0
      clear l4 hn4
      go_wp2_with fail
      go_loopw [5] (fun iv wr => ∃ k : Nat, k ≤ ns.length ∧ iv = .int .i64 (k : Int) ∧ Below w.heap.size w wr ∧ Lies wr bg #[.slice (some ⟨g, 0, none⟩) ns.length cap, .int .i64 r] 25 ∧ NdsAt wr wr.heap.size (some ⟨g, 0, none⟩) ns) (fun iv _ => ns.length - (intOf iv).toNat)
      case atStart => exact ⟨0, Nat.zero_le _, rfl, hB4, HL.out, HN.out⟩
      case round =>
        clear hB4 e0
        obtain ⟨k, hk, rfl, hb, hl, hnd⟩ := hrel
        have e0 := hl.cell 0
        simp at e0
        by_cases hlt : k < ns.length
        · have ht := hide (tf_true (HV.out.at_ hlt))
          have hlb := hl.lt
          have HL := hide hl
          clear hl
          go_wp2_with fail
          refine (implValid_any _ ns cap (k : Int) wr hnd).mono ?_
          rintro e w5 ⟨rfl, hb5⟩
          rw [ht.out]
          have HL5 := hide (HL.out.below hb5 hlb)
          have HN5 := hide (hnd.later hb5 (Nat.le_refl _))
          have HB5 := hide (hb.trans (hb5.mono hb.size))
          clear hnd hb hb5 HL e0
          go_wp2
          go_roundw
          case rel => exact ⟨k + 1, by omega, by go_num, HB5.out, HL5.out, HN5.out⟩
          case measure => simp [intOf]; omega
        · obtain rfl : k = ns.length := by omega
          clear hlt hl hnd
          go_wp2
          go_ret
          exact ⟨rfl, hb⟩
    · rw [tf_false hv]
      have ht := hide (tf_false hv)
      clear hv
      go_wp2_with fail
      refine (specValidGraphX_any _ ns cap r w3 hn3).mono ?_
      rintro e w4 ⟨rfl, hb4⟩
      rw [ht.out]
      have l4 := l3.below hb4 l3.lt
      have hn4 := hn3.later hb4 (Nat.le_refl _)
      have hB4 := hB3.trans (hb4.mono hB3.size)
      clear l3 hn3 hB3 hb4 e0 e1
      have e0 := l4.cell 0
      have e1 := l4.cell 1
      simp at e0 e1
      clear l4
      go_wp2_with fail
      refine (specValidGraphX_any _ ns cap r w4 hn4).mono ?_
      rintro e w5 ⟨rfl, hb5⟩
      rw [ht.out]
      have hB5 := hB4.trans (hb5.mono hB4.size)
      clear hn4 hb5 hB4 e0 e1
      go_wp2
      go_ret
      exact ⟨rfl, hB5⟩

end Go.Proofs.Ythdlmfolngfjdaa
