/-
  Lemmas, several texts in one: DrawPG, LawPG.
-/
import Derived.Test.YtigelbilfddhgaaPjAg
import Derived.Test.YtigelbilfddhgaaAnyGraph
import Derived.Test.YtigelbilfddhgaaPjAl
import Derived.Test.YtigelbilfddhgaaPjAj
import Derived.Test.YtigelbilfddhgaaSameGI
import Derived.Test.YtigelbilfddhgaaPjAi
import Derived.Deep.RegionHeld3
namespace Go.Proofs.Ytigelbilfddhgaa
open Go.RowKit
set_option linter.unusedVariables false

/-- some graph that can be read comes back, and old memory is as it was -/
def DrawnG (w : World) (e : Ending) (w' : World) : Prop :=
  ∃ (g cap : Nat) (ns : List Nd) (r : Int), e = .returned (.agg #[.slice (some ⟨g, 0, none⟩) ns.length cap, .int .i64 r]) ∧ NdsAt w' w'.heap.size (some ⟨g, 0, none⟩) ns ∧ 1 ≤ ns.length ∧ ns.length ≤ 10 ∧ In64 r ∧ Below w.heap.size w w'

set_option maxHeartbeats 1000000 in
theorem drawPrunedGraph_any (A : Option Addr) (n c : Nat) (w : World) (h : BytesAt w w.heap.size A n) (hc : n ≤ c) (hn : n ≤ 9223372036854775807) :
    Calls Try.prog 4 #[.slice A n c] w (DrawnG w) := by
  have hB : Below w.heap.size w (w.alloc (.cells #[.slice none 0 0, .int .i64 0] 25)) := (Below.refl _ w).alloc (Nat.le_refl _) _
  have l2 := Lies.new w #[.slice none 0 0, .int .i64 0] 25
  have h2 := (h.later hB).more hB.size
  clear h
  go_enter Try.func4, Try.ntmps4
  go_wp2_with fail
  generalize w.alloc (.cells #[.slice none 0 0, .int .i64 0] 25) = W at hB l2 h2 ⊢
  refine (newReader_any A n c W h2 hc hn).mono ?_
  rintro e w1 ⟨rfl, ⟨n', c', hrd⟩, hb1⟩
  have l3 := l2.below hb1 l2.lt
  have hB1 := hB.trans (hb1.mono hB.size)
  have hrl := hrd.box.lt
  have hwl := l2.lt
  clear l2 h2 hB hb1
  go_wp2_with fail
  refine (anyGraph_any W.heap.size A n' c' 0 w1 hrd (by omega)).mono ?_
  rintro e w2 ⟨g, cap, p', ns, r, rfl, _, _, hnds, hg, h1, h10, hr64, hG, hkf⟩
  have hbl : Below W.heap.size w1 w2 := ⟨hG.os, hG.tape, hG.output, hG.size, fun k hk => hG.block k (by omega) (by omega)⟩
  have l4 := l3.below hbl hwl
  have hB2 := hB1.trans (hbl.mono (by omega))
  have hwW : w.heap.size < W.heap.size := hwl
  have hw1 : W.heap.size < w1.heap.size := hrl
  have hfin : Hid (NdsAt ((w2.setCell ⟨w.heap.size, 0, none⟩ (.slice (some ⟨g, 0, none⟩) ns.length cap)).setCell ⟨w.heap.size, 1, none⟩ (.int .i64 r)) ((w2.setCell ⟨w.heap.size, 0, none⟩ (.slice (some ⟨g, 0, none⟩) ns.length cap)).setCell ⟨w.heap.size, 1, none⟩ (.int .i64 r)).heap.size (some ⟨g, 0, none⟩) ns) := by
    have hbb : ∀ b, b ≠ w.heap.size → ((w2.setCell ⟨w.heap.size, 0, none⟩ (.slice (some ⟨g, 0, none⟩) ns.length cap)).setCell ⟨w.heap.size, 1, none⟩ (.int .i64 r)).heap[b]? = w2.heap[b]? := fun b hb => (Below.heap_setCell _ _ _ _ hb).trans (Below.heap_setCell _ _ _ _ hb)
    exact hide (hnds.keptK (by simp) (hbb g (by omega)) (fun j hj A3 k3 d3 h3 b hb => hbb b (by have := hkf j hj A3 k3 d3 h3 b hb; omega)))
  have l5 := (l4.set 0 (.slice (some ⟨g, 0, none⟩) ns.length cap)).set 1 (.int .i64 r)
  simp only [List.setIfInBounds_toArray, List.set_cons_succ, List.set_cons_zero] at l5
  have s0 := l5.cell 0
  have s1 := l5.cell 1
  have q0 := l4.cell 0
  have q1 := l4.cell 1
  have q2 := l4.frozen 0
  have q3 := l4.frozen 1
  simp only [List.getElem?_toArray, List.getElem?_cons_zero, List.getElem?_cons_succ] at s0 s1 q0 q1
  have HB := hide ((hB2.setCell (p := ⟨w.heap.size, 0, none⟩) (Nat.le_refl _) (.slice (some ⟨g, 0, none⟩) ns.length cap)).setCell (p := ⟨w.heap.size, 1, none⟩) (Nat.le_refl _) (.int .i64 r))
  clear l3 l4 l5 hnds hG hbl hB1 hB2 hrd hkf
  go_wp2
  refine bodyPost_ret (v := .agg #[.slice (some ⟨g, 0, none⟩) ns.length cap, .int .i64 r]) (by simp [results, Try.results4, go_sem, s0, s1]) rfl ?_
  exact ⟨g, cap, ns, r, rfl, hfin.out, h1, h10, hr64, HB.out⟩

end Go.Proofs.Ytigelbilfddhgaa

namespace Go.Proofs.Ytigelbilfddhgaa
open Go.RowKit Go.Maps
set_option linter.unusedVariables false

/-- what stays while the law looks at the pruned graph -/
structure LawP (w wr : World) (bg g cap : Nat) (ns : List Nd) (r : Int) (bo : Nat) (Ao : Option Addr) (co : Nat) (ms : List Nd) : Prop where
  bel : Below w.heap.size w wr
  l : Lies wr bg #[.slice (some ⟨g, 0, none⟩) ns.length cap, .int .i64 r] 25
  nd : NdsAt wr wr.heap.size (some ⟨g, 0, none⟩) ns
  lo : Lies wr bo #[.slice Ao ms.length co, .int .i64 0] 25
  out : NdsAt wr wr.heap.size Ao ms

theorem LawP.below {w wr w' : World} {bg g cap : Nat} {ns : List Nd} {r : Int} {bo : Nat} {Ao : Option Addr} {co : Nat} {ms : List Nd} (h : LawP w wr bg g cap ns r bo Ao co ms) (hb : Below wr.heap.size wr w') : LawP w w' bg g cap ns r bo Ao co ms :=
  ⟨h.bel.trans (hb.mono h.bel.size), h.l.below hb h.l.lt, h.nd.later hb (Nat.le_refl _), h.lo.below hb h.lo.lt, h.out.later hb (Nat.le_refl _)⟩

theorem LawP.cells {w wr : World} {bg g cap : Nat} {ns : List Nd} {r : Int} {bo : Nat} {Ao : Option Addr} {co : Nat} {ms : List Nd} (h : LawP w wr bg g cap ns r bo Ao co ms) :
    wr.cell? ⟨bg, 0, none⟩ = some (.slice (some ⟨g, 0, none⟩) ns.length cap) ∧ wr.cell? ⟨bg, 1, none⟩ = some (.int .i64 r) ∧ wr.cell? ⟨bo, 0, none⟩ = some (.slice Ao ms.length co) ∧ wr.cell? ⟨bo, 1, none⟩ = some (.int .i64 0) := by
  have e0 := h.l.cell 0
  have e1 := h.l.cell 1
  have e2 := h.lo.cell 0
  have e3 := h.lo.cell 1
  simp at e0 e1 e2 e3
  exact ⟨e0, e1, e2, e3⟩

/-- the numbers from 0 on -/
def upNums (n : Nat) : List Int := (List.range n).map fun (i : Nat) => (i : Int)
theorem upNums_len (n : Nat) : (upNums n).length = n := by simp [upNums]
theorem upNums_at {n k : Nat} (h : k < n) : (upNums n)[k]? = some (k : Int) := by
  unfold upNums
  rw [List.getElem?_map, List.getElem?_range h]
  rfl
theorem upNums_64 {n : Nat} (h : n ≤ 1000) : ∀ x ∈ upNums n, In64 x := by
  intro x hx
  obtain ⟨i, hi, rfl⟩ := List.mem_map.1 hx
  have := List.mem_range.1 hi
  constructor <;> omega

set_option maxRecDepth 100000 in
set_option maxHeartbeats 4000000 in
theorem lawPG_any (A : Option Addr) (n c : Nat) (w : World) (h : BytesAt w w.heap.size A n) (hc : n ≤ c) (hn : n ≤ 9223372036854775807) :
    Calls Try.prog 3 #[.slice A n c] w fun e w' => e = .returned (.bool true) ∧ Below w.heap.size w w' := by
  by_cases hbig : 1048576 < n
  · have d : decide ((1048576 : Int) < (n : Int)) = true := by simp; omega
    go_enter Try.func3, Try.ntmps3
    go_wp2
    go_ret
    exact ⟨rfl, Below.refl _ _⟩
  · have d : decide ((1048576 : Int) < (n : Int)) = false := by simp; omega
    go_enter Try.func3, Try.ntmps3
    go_wp2_with fail
    refine (drawPrunedGraph_any A n c w h hc hn).mono ?_
    rintro e w1 ⟨g, cap, ns, r, rfl, hnds, h1, h10, hr64, hb1⟩
    have hb2 := hb1.alloc hb1.size (.cells #[.slice (some ⟨g, 0, none⟩) ns.length cap, .int .i64 r] 25)
    have l2 := Lies.new w1 #[.slice (some ⟨g, 0, none⟩) ns.length cap, .int .i64 r] 25
    have hn2 := hnds.later ((Below.refl w1.heap.size w1).alloc (Nat.le_refl _) (.cells #[.slice (some ⟨g, 0, none⟩) ns.length cap, .int .i64 r] 25)) (Nat.le_refl _)
    have hsz := hb1.size
    have hwf := hide hnds.wf
    have e0 := l2.cell 0
    have e1 := l2.cell 1
    simp at e0 e1
    clear hnds hb1 h
    go_wp2_with fail
    generalize w1.alloc (.cells #[.slice (some ⟨g, 0, none⟩) ns.length cap, .int .i64 r] 25) = w2 at hb2 l2 hn2 e0 e1 ⊢
    generalize w1.heap.size = bg at l2 hsz e0 e1 ⊢
    have HPd : Hid ((ValidG ns r ∧ ValidG (prunedOf ns r) 0 ∧ reachOf (prunedOf ns r) 0 = upNums (prunedOf ns r).length ∧ prunedOf (prunedOf ns r) 0 = prunedOf ns r ∧ codeOf (prunedOf ns r) 0 = codeOf ns r ∧ (prunedOf ns r).length = (reachOf ns r).length ∧ 0 < (prunedOf ns r).length) ∨ (¬ ValidG ns r ∧ prunedOf ns r = [])) := hide (by
      by_cases hv : ValidG ns r
      · refine .inl ⟨hv, pruned_valid hv, ?_, pruned_again hv, pruned_code hv, pruned_len hv, ?_⟩
        · rw [pruned_len hv]
          exact pruned_reach hv
        · rw [pruned_len hv]
          exact reachOf_some hv
      · exact .inr ⟨hv, pruned_no hv⟩)
    have hmsm := prunedOf_smallN ns r
    have Hmwf : Hid (WfN (prunedOf ns r)) := hide (by
      by_cases hv : ValidG ns r
      · rw [pruned_yes hv]
        exact pick_wf hv (reach_pickable hv)
      · rw [pruned_no hv]
        intro n hn
        simp at hn)
    have HI := implPruned_any (some ⟨g, 0, none⟩) ns cap r w2 hn2
    refine HI.mono ?_
    clear HI
    rintro e w3 ⟨Ao, co, rfl, hoO, hb3⟩
    generalize hmd : prunedOf ns r = ms at hoO hmsm Hmwf HPd ⊢
    have HMD := hide hmd
    have hml := hmsm.len
    clear hmd
    have hba : Below w3.heap.size w3 (w3.alloc (.cells #[.slice Ao ms.length co, .int .i64 0] 25)) := (Below.refl _ _).alloc (Nat.le_refl _) _
    have hb4 := hb3.trans (hba.mono hb3.size)
    have P4 : LawP w (w3.alloc (.cells #[.slice Ao ms.length co, .int .i64 0] 25)) bg g cap ns r w3.heap.size Ao co ms :=
      ⟨hb2.trans (hb4.mono hb2.size), l2.below hb4 l2.lt, hn2.later hb4 (Nat.le_refl _), Lies.new _ _ _, (hoO.nds Hmwf.out (by omega)).later hba (Nat.le_refl _)⟩
    clear l2 hn2 hb2 hb3 hb4 hba hoO e0 e1
    obtain ⟨e0, e1, e2, e3⟩ := P4.cells
    have hlg : bg < (w3.alloc (.cells #[.slice Ao ms.length co, .int .i64 0] 25)).heap.size := P4.l.lt
    have hlo : w3.heap.size < (w3.alloc (.cells #[.slice Ao ms.length co, .int .i64 0] 25)).heap.size := P4.lo.lt
    go_wp2_with fail
    generalize w3.alloc (.cells #[.slice Ao ms.length co, .int .i64 0] 25) = w4 at P4 e0 e1 e2 e3 hlg hlo ⊢
    generalize w3.heap.size = bo at P4 e2 e3 hlo ⊢
    have P4h := hide P4
    clear P4
    rcases HPd.out with ⟨hv, hvm, hreach, hagain, hcode, hlen, hpos⟩ | ⟨hv, hnil⟩
    · have HVv := hide hv
      have HRch := hide hreach
      have HAg := hide hagain
      have HSm := hide (show tf (SameG ms 0 ns r) = true from tf_true ⟨hvm, hv, hcode⟩)
      have HLen := hide hlen
      have HPos := hide hpos
      have hz : ((ms.length : Int) == 0) = false := beq_eq_false_iff_ne.2 (by omega)
      clear hv hvm hreach hagain hcode hlen hpos HPd
      go_region_held3 (fun w' => w'.cell? ⟨bg, 0, none⟩ = some (.slice (some ⟨g, 0, none⟩) ns.length cap) ∧ w'.cell? ⟨bg, 1, none⟩ = some (.int .i64 r) ∧ w'.cell? ⟨bo, 0, none⟩ = some (.slice Ao ms.length co) ∧ w'.cell? ⟨bo, 1, none⟩ = some (.int .i64 0))
        (first
          | (go_split_ands; refine ⟨?_, ?_, ?_, ?_⟩ <;> assumption))
        (first
          | (go_at_call 7; have HJ := specPrunedGraph_any (some ⟨g, 0, none⟩) ns cap r w4.drew (P4h.out.nd.later (Below.refl _ _).drew (Nat.le_refl _)); rw [HMD.out] at HJ; refine HJ.mono ?_; clear HJ; rintro e w5 ⟨Ap, cp, rfl, hrow, _, hb5⟩; have hbw : Below w4.heap.size w4 w5 := (Below.refl _ _).drew.trans (hb5.mono (by simp)); have p0 := (hbw.cell (p := ⟨bg, 0, none⟩) hlg).trans e0; have p1 := (hbw.cell (p := ⟨bg, 1, none⟩) hlg).trans e1; have p2 := (hbw.cell (p := ⟨bo, 0, none⟩) hlo).trans e2; have p3 := (hbw.cell (p := ⟨bo, 1, none⟩) hlo).trans e3)
          | (go_at_call 6; refine (equalGraph_same Ao Ap ms 0 co cp w5 (P4h.out.out.later hbw (Nat.le_refl _)) (hrow.nds Hmwf.out (by omega))).mono ?_; rintro e w6 ⟨rfl, hb6⟩; have hbx : Below w4.heap.size w4 w6 := hbw.trans (hb6.mono hbw.size); have o0 := (hbx.cell (p := ⟨bg, 0, none⟩) hlg).trans e0; have o1 := (hbx.cell (p := ⟨bg, 1, none⟩) hlg).trans e1; have o2 := (hbx.cell (p := ⟨bo, 0, none⟩) hlo).trans e2; have o3 := (hbx.cell (p := ⟨bo, 1, none⟩) hlo).trans e3))
      have P6 := P4h.out.below hbx
      clear hbx hbw hb5 hb6 hrow p0 p1 p2 p3 o0 o1 o2 o3 e0 e1 e2 e3 hlg hlo
      obtain ⟨e0, e1, e2, e3⟩ := P6.cells
      go_wp2_with fail
      have HJ := implReachOf_any Ao ms co 0 w6 P6.out
      rw [HRch.out] at HJ
      refine HJ.mono ?_
      clear HJ
      rintro e w7 ⟨Al, cl, rfl, hoL, hb7⟩
      have P7 := hide (P6.below hb7)
      have hll := upNums_len ms.length
      have i7 := hide (hoL.ints (upNums_64 (by omega)) (by omega))
      have hat : ∀ k, k < ms.length → (upNums ms.length)[k]? = some (k : Int) := fun k hk => upNums_at hk
      generalize upNums ms.length = Rg at hll i7 hat ⊢
      have Hat := hide hat
      have Hll := hide hll
      clear hb7 hoL P6 e0 e1 e2 e3 hat
      go_wp2_with fail
      go_loopg [6] Rg.length (fun gk iv wr => ∃ k : Nat, k ≤ Rg.length ∧ gk = Rg.length - k ∧ iv = .int .i64 (k : Int) ∧ LawP w wr bg g cap ns r bo Ao co ms ∧ IntsAt wr wr.heap.size Al Rg)
      case atStart => exact ⟨0, Nat.zero_le _, rfl, rfl, P7.out, i7.out⟩
      case round =>
        clear P7 i7
        obtain ⟨k, hk, rfl, rfl, hP, hi⟩ := hrel
        have HP := hide hP
        have HI := hide hi
        by_cases hlt : k < Rg.length
        · obtain ⟨b, off, x, rfl, hbl, hx, hm, hc⟩ := hi.at_ hlt
          rw [Hat.out k (by rw [← Hll.out]; exact hlt)] at hx
          injection hx with hx
          subst hx
          have q1 : (0 : Int) ≤ (k : Int) := by omega
          have q2 : (k : Int) < (Rg.length : Int) := by omega
          have t0 : ((k : Int) != (k : Int)) = false := by simp
          clear hm hP hi
          go_wp2
          go_roundg (Rg.length - (k + 1))
          case measure => omega
          case rel => exact ⟨k + 1, by omega, rfl, by go_num, HP.out, HI.out⟩
        · obtain rfl : k = Rg.length := by omega
          obtain ⟨e0, e1, e2, e3⟩ := hP.cells
          have hlg := hP.l.lt
          have hlo := hP.lo.lt
          have hRf := @reachOf_few ns r
          have heq : ((ms.length : Int) == ((reachOf ns r).length : Int)) = true := by rw [HLen.out]; simp
          have heq2 : ((Rg.length : Int) == (ms.length : Int)) = true := by rw [Hll.out]; simp
          have HRL := hide heq
          clear hlt hP hi heq
          have hre := Hll.out
          go_wp2_with fail
          go_region_held3 (fun w' => w'.cell? ⟨bg, 0, none⟩ = some (.slice (some ⟨g, 0, none⟩) ns.length cap) ∧ w'.cell? ⟨bg, 1, none⟩ = some (.int .i64 r) ∧ w'.cell? ⟨bo, 0, none⟩ = some (.slice Ao ms.length co) ∧ w'.cell? ⟨bo, 1, none⟩ = some (.int .i64 0))
            (first
              | (go_split_ands; refine ⟨?_, ?_, ?_, ?_⟩ <;> assumption))
            (first
              | (go_at_call 9; have HJ := implSame_any Ao (some ⟨g, 0, none⟩) ms ns co cap 0 r wr.drew (HP.out.out.later (Below.refl _ _).drew (Nat.le_refl _)) (HP.out.nd.later (Below.refl _ _).drew (Nat.le_refl _)); rw [HSm.out] at HJ; refine HJ.mono ?_; clear HJ; rintro e w5 ⟨rfl, hb5⟩; have hbw : Below wr.heap.size wr w5 := (Below.refl _ _).drew.trans (hb5.mono (by simp)); have p0 := (hbw.cell (p := ⟨bg, 0, none⟩) hlg).trans e0; have p1 := (hbw.cell (p := ⟨bg, 1, none⟩) hlg).trans e1; have p2 := (hbw.cell (p := ⟨bo, 0, none⟩) hlo).trans e2; have p3 := (hbw.cell (p := ⟨bo, 1, none⟩) hlo).trans e3)
              | (go_at_call 5; have HJ := implPruned_any Ao ms co 0 w5 (HP.out.out.later hbw (Nat.le_refl _)); rw [HAg.out] at HJ; refine HJ.mono ?_; clear HJ; rintro e w6 ⟨Aq, cq, rfl, hoQ, hb6⟩; have hbx : Below wr.heap.size wr w6 := hbw.trans (hb6.mono hbw.size); have o0 := (hbx.cell (p := ⟨bg, 0, none⟩) hlg).trans e0; have o1 := (hbx.cell (p := ⟨bg, 1, none⟩) hlg).trans e1; have o2 := (hbx.cell (p := ⟨bo, 0, none⟩) hlo).trans e2; have o3 := (hbx.cell (p := ⟨bo, 1, none⟩) hlo).trans e3)
              | (go_at_call 6; refine (equalGraph_same Aq Ao ms 0 cq co w6 (hoQ.nds Hmwf.out (by omega)) (HP.out.out.later hbx (Nat.le_refl _))).mono ?_; rintro e w7 ⟨rfl, hb7⟩; have hby : Below wr.heap.size wr w7 := hbx.trans (hb7.mono hbx.size); have n0 := (hby.cell (p := ⟨bg, 0, none⟩) hlg).trans e0; have n1 := (hby.cell (p := ⟨bg, 1, none⟩) hlg).trans e1; have n2 := (hby.cell (p := ⟨bo, 0, none⟩) hlo).trans e2; have n3 := (hby.cell (p := ⟨bo, 1, none⟩) hlo).trans e3)
              | (go_at_call 8; refine (implReachOf_any (some ⟨g, 0, none⟩) ns cap r w7 (HP.out.nd.later hby (Nat.le_refl _))).mono ?_; rintro e w8 ⟨Ar, cr, rfl, hoR, hb8⟩; have hbz : Below wr.heap.size wr w8 := hby.trans (hb8.mono hby.size); have m0 := (hbz.cell (p := ⟨bg, 0, none⟩) hlg).trans e0; have m1 := (hbz.cell (p := ⟨bg, 1, none⟩) hlg).trans e1; have m2 := (hbz.cell (p := ⟨bo, 0, none⟩) hlo).trans e2; have m3 := (hbz.cell (p := ⟨bo, 1, none⟩) hlo).trans e3; have hll2 := HRL.out))
          have HB := hide (HP.out.below hbz).bel
          clear hbz hby hbx hbw hb5 hb6 hb7 hb8 hoQ hoR
          go_wp2
          go_ret
          exact ⟨rfl, HB.out⟩
    · have HN := hide hv
      have hz : ((ms.length : Int) == 0) = true := by rw [hnil]; rfl
      have HNil := hide hnil
      clear hv hnil HPd
      go_region_held3 (fun w' => w'.cell? ⟨bg, 0, none⟩ = some (.slice (some ⟨g, 0, none⟩) ns.length cap) ∧ w'.cell? ⟨bg, 1, none⟩ = some (.int .i64 r) ∧ w'.cell? ⟨bo, 0, none⟩ = some (.slice Ao ms.length co) ∧ w'.cell? ⟨bo, 1, none⟩ = some (.int .i64 0))
        (first
          | (go_split_ands; refine ⟨?_, ?_, ?_, ?_⟩ <;> assumption))
        (first
          | (go_at_call 7; have HJ := specPrunedGraph_any (some ⟨g, 0, none⟩) ns cap r w4.drew (P4h.out.nd.later (Below.refl _ _).drew (Nat.le_refl _)); rw [HMD.out] at HJ; refine HJ.mono ?_; clear HJ; rintro e w5 ⟨Ap, cp, rfl, hrow, _, hb5⟩; have hbw : Below w4.heap.size w4 w5 := (Below.refl _ _).drew.trans (hb5.mono (by simp)); have p0 := (hbw.cell (p := ⟨bg, 0, none⟩) hlg).trans e0; have p1 := (hbw.cell (p := ⟨bg, 1, none⟩) hlg).trans e1; have p2 := (hbw.cell (p := ⟨bo, 0, none⟩) hlo).trans e2; have p3 := (hbw.cell (p := ⟨bo, 1, none⟩) hlo).trans e3)
          | (go_at_call 6; refine (equalGraph_same Ao Ap ms 0 co cp w5 (P4h.out.out.later hbw (Nat.le_refl _)) (hrow.nds Hmwf.out (by omega))).mono ?_; rintro e w6 ⟨rfl, hb6⟩; have hbx : Below w4.heap.size w4 w6 := hbw.trans (hb6.mono hbw.size); have o0 := (hbx.cell (p := ⟨bg, 0, none⟩) hlg).trans e0; have o1 := (hbx.cell (p := ⟨bg, 1, none⟩) hlg).trans e1; have o2 := (hbx.cell (p := ⟨bo, 0, none⟩) hlo).trans e2; have o3 := (hbx.cell (p := ⟨bo, 1, none⟩) hlo).trans e3))
      have P6 := P4h.out.below hbx
      clear hbx hbw hb5 hb6 hrow p0 p1 p2 p3 o0 o1 o2 o3 e0 e1 e2 e3 hlg hlo
      obtain ⟨e0, e1, e2, e3⟩ := P6.cells
      have P6h := hide P6
      have hlg := P6.l.lt
      have hlo := P6.lo.lt
      clear P6
      go_wp2_with fail
      go_region_held3 (fun w' => w'.cell? ⟨bg, 0, none⟩ = some (.slice (some ⟨g, 0, none⟩) ns.length cap) ∧ w'.cell? ⟨bg, 1, none⟩ = some (.int .i64 r) ∧ w'.cell? ⟨bo, 0, none⟩ = some (.slice Ao ms.length co) ∧ w'.cell? ⟨bo, 1, none⟩ = some (.int .i64 0))
        (first
          | (go_split_ands; refine ⟨?_, ?_, ?_, ?_⟩ <;> assumption))
        (first
          | (go_at_call 7; have HJ := specPrunedGraph_any (some ⟨g, 0, none⟩) ns cap r w6.drew (P6h.out.nd.later (Below.refl _ _).drew (Nat.le_refl _)); rw [HMD.out] at HJ; refine HJ.mono ?_; clear HJ; rintro e w7 ⟨Ap, cp, rfl, hrow, _, hb7⟩; have hbw : Below w6.heap.size w6 w7 := (Below.refl _ _).drew.trans (hb7.mono (by simp)); have p0 := (hbw.cell (p := ⟨bg, 0, none⟩) hlg).trans e0; have p1 := (hbw.cell (p := ⟨bg, 1, none⟩) hlg).trans e1; have p2 := (hbw.cell (p := ⟨bo, 0, none⟩) hlo).trans e2; have p3 := (hbw.cell (p := ⟨bo, 1, none⟩) hlo).trans e3)
          | (go_at_call 6; refine (equalGraph_same Ao Ap ms 0 co cp w7 (P6h.out.out.later hbw (Nat.le_refl _)) (hrow.nds Hmwf.out (by omega))).mono ?_; rintro e w8 ⟨rfl, hb8⟩; have hbx : Below w6.heap.size w6 w8 := hbw.trans (hb8.mono hbw.size); have o0 := (hbx.cell (p := ⟨bg, 0, none⟩) hlg).trans e0; have o1 := (hbx.cell (p := ⟨bg, 1, none⟩) hlg).trans e1; have o2 := (hbx.cell (p := ⟨bo, 0, none⟩) hlo).trans e2; have o3 := (hbx.cell (p := ⟨bo, 1, none⟩) hlo).trans e3))
      have HB := hide (P6h.out.below hbx).bel
      clear hbx hbw hb7 hb8 hrow
      go_wp2
      go_ret
      exact ⟨rfl, HB.out⟩

end Go.Proofs.Ytigelbilfddhgaa
